/- The contract of package citadelref04's Pad: what is put behind a text, in memory of its own. It writes nothing that was there. No condition. -/
import Derived.Test.YtfjbehobpkmjbaaDoorOwnB
import Derived.Test.YtfjbehobpkmjbaaDoorPadC
namespace Go.Proofs.YtfjbehobpkmjbaaDoor
open Go.ChangeShapes Go.WideShapes Go.ChangeAt Go.RowKit

/-- The length's last bytes, so many of them. -/
def endB (n i j : Nat) : Nat := n * 8 / 256 ^ (i - 1 - j) % 256
theorem endB_first (n i : Nat) : endB n (i + 1) 0 = n * 8 / 256 ^ i % 256 := by unfold endB; rw [Nat.add_sub_cancel, Nat.sub_zero]
theorem endB_next (n i j : Nat) : endB n i j = endB n (i + 1) (1 + j) := by unfold endB; rw [show i + 1 - 1 - (1 + j) = i - 1 - j by omega]
theorem padB_zero (n : Nat) : padB n 0 = 128 := by unfold padB; rw [if_pos rfl]
theorem padB_mid {n j : Nat} (h0 : 1 ≤ j) (h : j < padL n - 8) : padB n j = 0 := by unfold padB; rw [if_neg (by omega), if_pos h]
theorem padB_end {n j : Nat} (hj : j < 8) : endB n 8 j = padB n (padL n - 8 + j) := by
  have := padL_bd n
  unfold padB endB; rw [if_neg (by omega), if_neg (by omega), show padL n - 1 - (padL n - 8 + j) = 8 - 1 - j by omega]
theorem bytesAt_one (w : World) (b : Nat) : BytesAt (w.alloc (.cells (cellsOf .u8 [(b : Int)]) 5)) (some ⟨w.heap.size, 0, none⟩) 1 (fun _ => b) :=
  .inr ⟨_, 0, rfl, by simp, fun j hj => by
    obtain rfl : j = 0 := by omega
    exact (IntBlk.new w .u8 5 [(b : Int)]).cell (i := 0) (by simp)⟩
theorem OwnS.alloc {base top k : Nat} {v : Value} {F : Nat → Nat} {w : World} (h : OwnS 5 1 w base top v k F) (ht : top ≤ w.heap.size) (o : Obj) : OwnS 5 1 (w.alloc o) base top v k F :=
  h.same fun B _ h2 => Below.heap_alloc _ _ _ (by omega)
theorem OwnS.lower {base base' top k : Nat} {v : Value} {F : Nat → Nat} {w : World} (h : OwnS 5 1 w base top v k F) (hb : base' ≤ base) : OwnS 5 1 w base' top v k F := by
  rcases h with h | ⟨B, c, cur, h1, h2, h3⟩
  · exact .inl h
  · exact .inr ⟨B, c, cur, h1, Nat.le_trans hb h2, h3⟩
theorem OwnS.later {base top k : Nat} {v : Value} {F : Nat → Nat} {w w' : World} (h : OwnS 5 1 w base top v k F) (ht : top ≤ w.heap.size) (hb : Below w.heap.size w w') : OwnS 5 1 w' base top v k F :=
  h.same fun B _ h2 => hb.block B (by omega)
attribute [local irreducible] padB padL endB

set_option maxRecDepth 100000 in
set_option maxHeartbeats 2000000 in
theorem refPad_any (n : Int) (w : World) :
    Calls Tryd.prog 31 #[.int .i64 n] w fun e w' => ∃ v, e = .returned v ∧ OwnS 5 1 w' w.heap.size w'.heap.size v (padL (effN n)) (padB (effN n)) ∧ Below w.heap.size w w' := by
  have hm := effN_le n
  have hcase : n < 0 ∧ effN n = 0 ∨ ¬ n < 0 ∧ 1099511627776 < n ∧ effN n = 0 ∨ ¬ n < 0 ∧ ¬ 1099511627776 < n ∧ n = effN n := by
    unfold effN
    by_cases h : n < 0 ∨ 1099511627776 < n
    · rw [if_pos h]; omega
    · rw [if_neg h]; omega
  generalize effN n = m at *
  have hL := padL_bd m
  have hmod := padL_mod m
  have hpad : ∀ k, 1 ≤ k → k ≤ padL m - 8 → ((m + k + 8) % 64 = 0 ↔ k = padL m - 8) := fun k h1 h2 => by
    have hd : padL m = 9 + (64 - (m + 9) % 64) % 64 := by unfold padL; rfl
    constructor
    · intro h; omega
    · intro h; omega
  have P0 := Lib.hid (padB_zero m)
  have PM := Lib.hid (fun (j : Nat) h0 h => padB_mid (n := m) (j := j) h0 h)
  have PE := Lib.hid (fun (j : Nat) hj => padB_end (n := m) (j := j) hj)
  have E1 := Lib.hid (endB_first m)
  have E2 := Lib.hid (endB_next m)
  have HP := Lib.hid hpad
  generalize padL m = L at *
  clear hpad hmod
  have e2 : 1 ≤ L - 8 ∧ L ≤ 72 := by omega
  have HD : Hid (n < 0 ∧ (0 : Int) = m ∨ ¬ n < 0 ∧ 1099511627776 < n ∧ (0 : Int) = m ∨ n = m) := Lib.hid (by omega)
  clear hcase
  rcases HD.out with ⟨e0, hz⟩ | ⟨e0, e1, hz⟩ | hz
  · obtain rfl : m = 0 := by omega
    clear hz HD
    go_enter Tryd.func31, Tryd.ntmps31
    go_wp2_with (first
      | (refine wpList_buildFlat rfl 22 5 1 _ rfl .u8 [((128 : Nat) : Int)] bytesUnder byteInfo (by rw [byteZero1]; rfl) rfl (by omega) (by omega) rfl ?_))
    go_loopw [3] (fun v3 wr => ∃ k : Nat, 1 ≤ k ∧ k ≤ L - 8 ∧ OwnS 5 1 wr w.heap.size wr.heap.size v3 k (padB 0) ∧ Below w.heap.size w wr) (fun v3 _ => L - (match v3 with | .slice _ k _ => k | _ => 0))
    case atStart => exact ⟨1, by omega, by omega, by rw [World.size_alloc]; exact OwnS.one w _ _ 128 (Nat.le_refl _) P0.out, (Below.refl _ w).alloc (Nat.le_refl _) _⟩
    case round =>
      obtain ⟨k, k1, k2, hv, hw⟩ := hrel
      obtain ⟨p, c, rfl, kc, cm, hbytes, hpb⟩ := hv.bytes (Nat.le_refl _)
      have HV := Lib.hid hv
      have HW := Lib.hid hw
      have hws := hw.size
      have hk := HP.out k k1 k2
      have q1 : IntKind.i64.wrap (((0 : Nat) : Int) + k) = ((0 : Nat) : Int) + k := IntWalk.i64_in _ (by omega)
      have q2 : IntKind.i64.wrap (((0 : Nat) : Int) + k + 8) = ((0 : Nat) : Int) + k + 8 := IntWalk.i64_in _ (by omega)
      have l0 : (0 : Int) ≤ ((0 : Nat) : Int) + k + 8 := by omega
      clear hv hw hbytes hpb
      by_cases hlt : k = L - 8
      · have t0 : (((k : Int) + 8) % 64 != 0) = false := by simp; omega
        clear hk
        have HLT := Lib.hid hlt
        clear hlt
        go_wp2
        go_loopw [4, 5, 6] (fun v4 v5 v6 wk => ∃ i x : Nat, i ≤ 8 ∧ v4 = .int .i64 x ∧ x = 0 * 8 / 256 ^ i ∧ v6 = .int .i64 i ∧ OwnS 5 1 wk w.heap.size wk.heap.size v5 i (endB 0 i) ∧ OwnS 5 1 wk w.heap.size wr.heap.size (.slice p k c) k (padB 0) ∧ wr.heap.size ≤ wk.heap.size ∧ Below w.heap.size w wk) (fun _ _ v6 _ => 8 - (intOf v6).toNat)
        case atStart => exact ⟨0, 0 * 8, by omega, rfl, by simp, rfl, OwnS.nil _ _ _ _ _ _, HV.out, Nat.le_refl _, HW.out⟩
        case round =>
          obtain ⟨i, x, hi, rfl, hx, rfl, hv5, hv3, hsz, hw⟩ := hrel
          have hxb : x ≤ 0 * 8 := by rw [hx]; exact Nat.div_le_self _ _
          have HX := Lib.hid hx
          have H3 := Lib.hid hv3
          have H5 := Lib.hid hv5
          have HS := Lib.hid hsz
          have HK := Lib.hid hw
          have hks := hw.size
          obtain ⟨p5, c5, rfl, kc5, cm5, hb5, hpb5⟩ := hv5.bytes (Nat.le_refl _)
          have HB5 := Lib.hid hb5
          clear hx hv3 hv5 hw hpb5 hb5
          by_cases h8 : i < 8
          · have e3 : (i : Int) < 8 := by omega
            obtain ⟨b, hb⟩ : ∃ b, x % 256 = b := ⟨_, rfl⟩
            have q3 : IntKind.u8.wrap ((x : Int) % 256) = (b : Int) := by rw [IntKind.wrap_u8']; omega
            have q4 : ((x : Int) / 256) = ((x / 256 : Nat) : Int) := by omega
            have HF : Hid (endB 0 (i + 1) 0 = b) := Lib.hid (by rw [E1.out, ← HX.out]; exact hb)
            have HQ := Lib.hid q4
            clear hb q4 hsz
            go_wp2_with (first
              | (refine wpList_buildFlat rfl 22 5 1 _ rfl .u8 [(b : Int)] bytesUnder byteInfo (by rw [byteZero1]; rfl) rfl (by omega) (by omega) rfl ?_)
              | (refine wpList_append_own_bytes rfl _ _ rfl wr.heap.size (wr.heap.size + 1) 1 _ (endB 0 (i + 1)) (endB 0 i) p5 i c5 rfl rfl (OwnS.one wr _ _ b (Nat.le_refl _) HF.out) (HB5.out.below ((Below.refl _ wr).alloc (Nat.le_refl _) _)) (fun j _ => E2.out i j) (by omega) (by rw [World.size_alloc]; omega) ?_; intro v' w' hv' hb'))
            go_roundw
            case rel => exact ⟨i + 1, x / 256, by omega, congrArg (Value.int .i64) HQ.out, by rw [HX.out, Nat.div_div_eq_div_mul, ← Nat.pow_succ], by go_num, by have := hv'.lower hks; rw [Nat.add_comm 1 i] at this; exact this, (H3.out.alloc HS.out _).same fun B _ h2 => hb'.block B (by have := HS.out; omega), by have h1 := hb'.size; rw [World.size_alloc] at h1; have h2 := HS.out; omega, (HK.out.alloc hks _).trans (hb'.mono hks)⟩
            case measure => simp [intOf]; omega
          · obtain rfl : i = 8 := by omega
            have hd1 : decide (((8 : Nat) : Int) < 8) = false := rfl
            have HE : Hid (∀ j, j < 8 → endB 0 8 j = padB 0 (k + j)) := Lib.hid (by rw [HLT.out]; exact PE.out)
            clear hsz
            go_wp2_with (refine wpList_append_own_bytes rfl _ _ rfl w.heap.size _ k _ (padB 0) (endB 0 8) p5 8 c5 rfl rfl H3.out HB5.out HE.out (by omega) hks ?_; intro v' w' hv' hb')
            go_ret
            exact ⟨_, rfl, by rw [show L = k + 8 by have := HLT.out; omega]; exact hv', HK.out.trans hb'⟩
      · have t0 : (((k : Int) + 8) % 64 != 0) = true := by simp; omega
        have HF : Hid (∀ j, j < 1 → (0 : Nat) = padB 0 (k + j)) := Lib.hid (fun j hj => (PM.out (k + j) (by omega) (by omega)).symm)
        have HA : Hid (OwnS 5 1 (wr.alloc (.cells (cellsOf .u8 [((0 : Nat) : Int)]) 5)) w.heap.size wr.heap.size (.slice p k c) k (padB 0)) := Lib.hid (HV.out.alloc (Nat.le_refl _) _)
        clear hk
        go_wp2_with (first
          | (refine wpList_buildFlat rfl 22 5 1 _ rfl .u8 [((0 : Nat) : Int)] bytesUnder byteInfo (by rw [byteZero1]; rfl) rfl (by omega) (by omega) rfl ?_)
          | (refine wpList_append_own_bytes rfl _ _ rfl w.heap.size wr.heap.size k _ (padB 0) (fun _ => 0) (some ⟨wr.heap.size, 0, none⟩) 1 1 rfl rfl HA.out (bytesAt_one wr 0) HF.out (by omega) (by rw [World.size_alloc]; omega) ?_; intro v' w' hv' hb'))
        obtain ⟨p', c', rfl, _, _, _, _⟩ := hv'.bytes (Nat.le_refl _)
        go_roundw
        case rel => exact ⟨k + 1, by omega, by omega, hv', (HW.out.alloc hws _).trans (hb'.mono (Nat.le_refl _))⟩
        case measure => simp only []; omega
  · obtain rfl : m = 0 := by omega
    clear hz HD
    go_enter Tryd.func31, Tryd.ntmps31
    go_wp2_with (first
      | (refine wpList_buildFlat rfl 22 5 1 _ rfl .u8 [((128 : Nat) : Int)] bytesUnder byteInfo (by rw [byteZero1]; rfl) rfl (by omega) (by omega) rfl ?_))
    go_loopw [3] (fun v3 wr => ∃ k : Nat, 1 ≤ k ∧ k ≤ L - 8 ∧ OwnS 5 1 wr w.heap.size wr.heap.size v3 k (padB 0) ∧ Below w.heap.size w wr) (fun v3 _ => L - (match v3 with | .slice _ k _ => k | _ => 0))
    case atStart => exact ⟨1, by omega, by omega, by rw [World.size_alloc]; exact OwnS.one w _ _ 128 (Nat.le_refl _) P0.out, (Below.refl _ w).alloc (Nat.le_refl _) _⟩
    case round =>
      obtain ⟨k, k1, k2, hv, hw⟩ := hrel
      obtain ⟨p, c, rfl, kc, cm, hbytes, hpb⟩ := hv.bytes (Nat.le_refl _)
      have HV := Lib.hid hv
      have HW := Lib.hid hw
      have hws := hw.size
      have hk := HP.out k k1 k2
      have q1 : IntKind.i64.wrap (((0 : Nat) : Int) + k) = ((0 : Nat) : Int) + k := IntWalk.i64_in _ (by omega)
      have q2 : IntKind.i64.wrap (((0 : Nat) : Int) + k + 8) = ((0 : Nat) : Int) + k + 8 := IntWalk.i64_in _ (by omega)
      have l0 : (0 : Int) ≤ ((0 : Nat) : Int) + k + 8 := by omega
      clear hv hw hbytes hpb
      by_cases hlt : k = L - 8
      · have t0 : (((k : Int) + 8) % 64 != 0) = false := by simp; omega
        clear hk
        have HLT := Lib.hid hlt
        clear hlt
        go_wp2
        go_loopw [4, 5, 6] (fun v4 v5 v6 wk => ∃ i x : Nat, i ≤ 8 ∧ v4 = .int .i64 x ∧ x = 0 * 8 / 256 ^ i ∧ v6 = .int .i64 i ∧ OwnS 5 1 wk w.heap.size wk.heap.size v5 i (endB 0 i) ∧ OwnS 5 1 wk w.heap.size wr.heap.size (.slice p k c) k (padB 0) ∧ wr.heap.size ≤ wk.heap.size ∧ Below w.heap.size w wk) (fun _ _ v6 _ => 8 - (intOf v6).toNat)
        case atStart => exact ⟨0, 0 * 8, by omega, rfl, by simp, rfl, OwnS.nil _ _ _ _ _ _, HV.out, Nat.le_refl _, HW.out⟩
        case round =>
          obtain ⟨i, x, hi, rfl, hx, rfl, hv5, hv3, hsz, hw⟩ := hrel
          have hxb : x ≤ 0 * 8 := by rw [hx]; exact Nat.div_le_self _ _
          have HX := Lib.hid hx
          have H3 := Lib.hid hv3
          have H5 := Lib.hid hv5
          have HS := Lib.hid hsz
          have HK := Lib.hid hw
          have hks := hw.size
          obtain ⟨p5, c5, rfl, kc5, cm5, hb5, hpb5⟩ := hv5.bytes (Nat.le_refl _)
          have HB5 := Lib.hid hb5
          clear hx hv3 hv5 hw hpb5 hb5
          by_cases h8 : i < 8
          · have e3 : (i : Int) < 8 := by omega
            obtain ⟨b, hb⟩ : ∃ b, x % 256 = b := ⟨_, rfl⟩
            have q3 : IntKind.u8.wrap ((x : Int) % 256) = (b : Int) := by rw [IntKind.wrap_u8']; omega
            have q4 : ((x : Int) / 256) = ((x / 256 : Nat) : Int) := by omega
            have HF : Hid (endB 0 (i + 1) 0 = b) := Lib.hid (by rw [E1.out, ← HX.out]; exact hb)
            have HQ := Lib.hid q4
            clear hb q4 hsz
            go_wp2_with (first
              | (refine wpList_buildFlat rfl 22 5 1 _ rfl .u8 [(b : Int)] bytesUnder byteInfo (by rw [byteZero1]; rfl) rfl (by omega) (by omega) rfl ?_)
              | (refine wpList_append_own_bytes rfl _ _ rfl wr.heap.size (wr.heap.size + 1) 1 _ (endB 0 (i + 1)) (endB 0 i) p5 i c5 rfl rfl (OwnS.one wr _ _ b (Nat.le_refl _) HF.out) (HB5.out.below ((Below.refl _ wr).alloc (Nat.le_refl _) _)) (fun j _ => E2.out i j) (by omega) (by rw [World.size_alloc]; omega) ?_; intro v' w' hv' hb'))
            go_roundw
            case rel => exact ⟨i + 1, x / 256, by omega, congrArg (Value.int .i64) HQ.out, by rw [HX.out, Nat.div_div_eq_div_mul, ← Nat.pow_succ], by go_num, by have := hv'.lower hks; rw [Nat.add_comm 1 i] at this; exact this, (H3.out.alloc HS.out _).same fun B _ h2 => hb'.block B (by have := HS.out; omega), by have h1 := hb'.size; rw [World.size_alloc] at h1; have h2 := HS.out; omega, (HK.out.alloc hks _).trans (hb'.mono hks)⟩
            case measure => simp [intOf]; omega
          · obtain rfl : i = 8 := by omega
            have hd1 : decide (((8 : Nat) : Int) < 8) = false := rfl
            have HE : Hid (∀ j, j < 8 → endB 0 8 j = padB 0 (k + j)) := Lib.hid (by rw [HLT.out]; exact PE.out)
            clear hsz
            go_wp2_with (refine wpList_append_own_bytes rfl _ _ rfl w.heap.size _ k _ (padB 0) (endB 0 8) p5 8 c5 rfl rfl H3.out HB5.out HE.out (by omega) hks ?_; intro v' w' hv' hb')
            go_ret
            exact ⟨_, rfl, by rw [show L = k + 8 by have := HLT.out; omega]; exact hv', HK.out.trans hb'⟩
      · have t0 : (((k : Int) + 8) % 64 != 0) = true := by simp; omega
        have HF : Hid (∀ j, j < 1 → (0 : Nat) = padB 0 (k + j)) := Lib.hid (fun j hj => (PM.out (k + j) (by omega) (by omega)).symm)
        have HA : Hid (OwnS 5 1 (wr.alloc (.cells (cellsOf .u8 [((0 : Nat) : Int)]) 5)) w.heap.size wr.heap.size (.slice p k c) k (padB 0)) := Lib.hid (HV.out.alloc (Nat.le_refl _) _)
        clear hk
        go_wp2_with (first
          | (refine wpList_buildFlat rfl 22 5 1 _ rfl .u8 [((0 : Nat) : Int)] bytesUnder byteInfo (by rw [byteZero1]; rfl) rfl (by omega) (by omega) rfl ?_)
          | (refine wpList_append_own_bytes rfl _ _ rfl w.heap.size wr.heap.size k _ (padB 0) (fun _ => 0) (some ⟨wr.heap.size, 0, none⟩) 1 1 rfl rfl HA.out (bytesAt_one wr 0) HF.out (by omega) (by rw [World.size_alloc]; omega) ?_; intro v' w' hv' hb'))
        obtain ⟨p', c', rfl, _, _, _, _⟩ := hv'.bytes (Nat.le_refl _)
        go_roundw
        case rel => exact ⟨k + 1, by omega, by omega, hv', (HW.out.alloc hws _).trans (hb'.mono (Nat.le_refl _))⟩
        case measure => simp only []; omega
  · subst hz
    clear HD
    have e0 : ¬ (m : Int) < 0 := by omega
    have e1 : ¬ 1099511627776 < (m : Int) := by omega
    go_enter Tryd.func31, Tryd.ntmps31
    go_wp2_with (first
      | (refine wpList_buildFlat rfl 22 5 1 _ rfl .u8 [((128 : Nat) : Int)] bytesUnder byteInfo (by rw [byteZero1]; rfl) rfl (by omega) (by omega) rfl ?_))
    go_loopw [3] (fun v3 wr => ∃ k : Nat, 1 ≤ k ∧ k ≤ L - 8 ∧ OwnS 5 1 wr w.heap.size wr.heap.size v3 k (padB m) ∧ Below w.heap.size w wr) (fun v3 _ => L - (match v3 with | .slice _ k _ => k | _ => 0))
    case atStart => exact ⟨1, by omega, by omega, by rw [World.size_alloc]; exact OwnS.one w _ _ 128 (Nat.le_refl _) P0.out, (Below.refl _ w).alloc (Nat.le_refl _) _⟩
    case round =>
      obtain ⟨k, k1, k2, hv, hw⟩ := hrel
      obtain ⟨p, c, rfl, kc, cm, hbytes, hpb⟩ := hv.bytes (Nat.le_refl _)
      have HV := Lib.hid hv
      have HW := Lib.hid hw
      have hws := hw.size
      have hk := HP.out k k1 k2
      have q1 : IntKind.i64.wrap ((m : Int) + k) = (m : Int) + k := IntWalk.i64_in _ (by omega)
      have q2 : IntKind.i64.wrap ((m : Int) + k + 8) = (m : Int) + k + 8 := IntWalk.i64_in _ (by omega)
      have l0 : (0 : Int) ≤ (m : Int) + k + 8 := by omega
      clear hv hw hbytes hpb
      by_cases hlt : k = L - 8
      · have t0 : (((m : Int) + k + 8) % 64 != 0) = false := by simp; omega
        clear hk
        have HLT := Lib.hid hlt
        clear hlt
        go_wp2
        go_loopw [4, 5, 6] (fun v4 v5 v6 wk => ∃ i x : Nat, i ≤ 8 ∧ v4 = .int .i64 x ∧ x = m * 8 / 256 ^ i ∧ v6 = .int .i64 i ∧ OwnS 5 1 wk w.heap.size wk.heap.size v5 i (endB m i) ∧ OwnS 5 1 wk w.heap.size wr.heap.size (.slice p k c) k (padB m) ∧ wr.heap.size ≤ wk.heap.size ∧ Below w.heap.size w wk) (fun _ _ v6 _ => 8 - (intOf v6).toNat)
        case atStart => exact ⟨0, m * 8, by omega, congrArg (Value.int .i64) (by omega), by simp, rfl, OwnS.nil _ _ _ _ _ _, HV.out, Nat.le_refl _, HW.out⟩
        case round =>
          obtain ⟨i, x, hi, rfl, hx, rfl, hv5, hv3, hsz, hw⟩ := hrel
          have hxb : x ≤ m * 8 := by rw [hx]; exact Nat.div_le_self _ _
          have HX := Lib.hid hx
          have H3 := Lib.hid hv3
          have H5 := Lib.hid hv5
          have HS := Lib.hid hsz
          have HK := Lib.hid hw
          have hks := hw.size
          obtain ⟨p5, c5, rfl, kc5, cm5, hb5, hpb5⟩ := hv5.bytes (Nat.le_refl _)
          have HB5 := Lib.hid hb5
          clear hx hv3 hv5 hw hpb5 hb5
          by_cases h8 : i < 8
          · have e3 : (i : Int) < 8 := by omega
            obtain ⟨b, hb⟩ : ∃ b, x % 256 = b := ⟨_, rfl⟩
            have q3 : IntKind.u8.wrap ((x : Int) % 256) = (b : Int) := by rw [IntKind.wrap_u8']; omega
            have q4 : ((x : Int) / 256) = ((x / 256 : Nat) : Int) := by omega
            have HF : Hid (endB m (i + 1) 0 = b) := Lib.hid (by rw [E1.out, ← HX.out]; exact hb)
            have HQ := Lib.hid q4
            clear hb q4 hsz
            go_wp2_with (first
              | (refine wpList_buildFlat rfl 22 5 1 _ rfl .u8 [(b : Int)] bytesUnder byteInfo (by rw [byteZero1]; rfl) rfl (by omega) (by omega) rfl ?_)
              | (refine wpList_append_own_bytes rfl _ _ rfl wr.heap.size (wr.heap.size + 1) 1 _ (endB m (i + 1)) (endB m i) p5 i c5 rfl rfl (OwnS.one wr _ _ b (Nat.le_refl _) HF.out) (HB5.out.below ((Below.refl _ wr).alloc (Nat.le_refl _) _)) (fun j _ => E2.out i j) (by omega) (by rw [World.size_alloc]; omega) ?_; intro v' w' hv' hb'))
            go_roundw
            case rel => exact ⟨i + 1, x / 256, by omega, congrArg (Value.int .i64) HQ.out, by rw [HX.out, Nat.div_div_eq_div_mul, ← Nat.pow_succ], by go_num, by have := hv'.lower hks; rw [Nat.add_comm 1 i] at this; exact this, (H3.out.alloc HS.out _).same fun B _ h2 => hb'.block B (by have := HS.out; omega), by have h1 := hb'.size; rw [World.size_alloc] at h1; have h2 := HS.out; omega, (HK.out.alloc hks _).trans (hb'.mono hks)⟩
            case measure => simp [intOf]; omega
          · obtain rfl : i = 8 := by omega
            have hd1 : decide (((8 : Nat) : Int) < 8) = false := rfl
            have HE : Hid (∀ j, j < 8 → endB m 8 j = padB m (k + j)) := Lib.hid (by rw [HLT.out]; exact PE.out)
            clear hsz
            go_wp2_with (refine wpList_append_own_bytes rfl _ _ rfl w.heap.size _ k _ (padB m) (endB m 8) p5 8 c5 rfl rfl H3.out HB5.out HE.out (by omega) hks ?_; intro v' w' hv' hb')
            go_ret
            exact ⟨_, rfl, by rw [show L = k + 8 by have := HLT.out; omega]; exact hv', HK.out.trans hb'⟩
      · have t0 : (((m : Int) + k + 8) % 64 != 0) = true := by simp; omega
        have HF : Hid (∀ j, j < 1 → (0 : Nat) = padB m (k + j)) := Lib.hid (fun j hj => (PM.out (k + j) (by omega) (by omega)).symm)
        have HA : Hid (OwnS 5 1 (wr.alloc (.cells (cellsOf .u8 [((0 : Nat) : Int)]) 5)) w.heap.size wr.heap.size (.slice p k c) k (padB m)) := Lib.hid (HV.out.alloc (Nat.le_refl _) _)
        clear hk
        go_wp2_with (first
          | (refine wpList_buildFlat rfl 22 5 1 _ rfl .u8 [((0 : Nat) : Int)] bytesUnder byteInfo (by rw [byteZero1]; rfl) rfl (by omega) (by omega) rfl ?_)
          | (refine wpList_append_own_bytes rfl _ _ rfl w.heap.size wr.heap.size k _ (padB m) (fun _ => 0) (some ⟨wr.heap.size, 0, none⟩) 1 1 rfl rfl HA.out (bytesAt_one wr 0) HF.out (by omega) (by rw [World.size_alloc]; omega) ?_; intro v' w' hv' hb'))
        obtain ⟨p', c', rfl, _, _, _, _⟩ := hv'.bytes (Nat.le_refl _)
        go_roundw
        case rel => exact ⟨k + 1, by omega, by omega, hv', (HW.out.alloc hws _).trans (hb'.mono (Nat.le_refl _))⟩
        case measure => simp only []; omega
end Go.Proofs.YtfjbehobpkmjbaaDoor
