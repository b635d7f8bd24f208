/- RdWords: cut by mkdoor.py out of XWdProg, XWdPut, XWdFill, XWdRef: package words' Put, Take, Fill and citadelref08's Number, Take. Conditions: as each says. -/
import Derived.Test.YtghdeedglekphaaDoorPlBase
import Derived.Test.YtghdeedglekphaaDoorWdNum
namespace Go.Proofs.YtghdeedglekphaaDoor
open Go.ChangeShapes Go.WideShapes Go.ChangeAt Go.RowKit Go.Shelf
set_option linter.unusedVariables false
/-! ### Sizes -/
theorem good_yes (s : Int) (h : s = 1 ∨ s = 2 ∨ s = 4 ∨ s = 8) (w : World) : Calls Tryd.prog 26 #[.int .i64 s] w fun e w' => e = .returned (.bool true) ∧ w = w' := by
  rcases h with rfl | rfl | rfl | rfl <;>
  · go_enter Tryd.func26, Tryd.ntmps26
    go_wp2
    go_ret
    exact ⟨rfl, rfl⟩
theorem good_no (s : Int) (h1 : s ≠ 1) (h2 : s ≠ 2) (h4 : s ≠ 4) (h8 : s ≠ 8) (w : World) : Calls Tryd.prog 26 #[.int .i64 s] w fun e w' => e = .returned (.bool false) ∧ w = w' := by
  have d1 : (s == 1) = false := by simp; exact h1
  have d2 : (s == 2) = false := by simp; exact h2
  have d4 : (s == 4) = false := by simp; exact h4
  have d8 : (s == 8) = false := by simp; exact h8
  clear h1 h2 h4 h8
  go_enter Tryd.func26, Tryd.ntmps26
  go_wp2
  go_ret
  exact ⟨rfl, rfl⟩
/-- A number has a size. -/
def fitsN (s : Nat) (z : Int) : Prop := s = 8 ∨ (0 ≤ z ∧ z < 256 ^ s)
instance (s : Nat) (z : Int) : Decidable (fitsN s z) := inferInstanceAs (Decidable (_ ∨ _))
set_option maxHeartbeats 1000000 in
theorem fits_any (s : Nat) (h : s = 1 ∨ s = 2 ∨ s = 4 ∨ s = 8) (z : Int) (w : World) : Calls Tryd.prog 27 #[.int .i64 s, .int .i64 z] w fun e w' => e = .returned (.bool (decide (fitsN s z))) ∧ w = w' := by
  rcases h with rfl | rfl | rfl | rfl
  · have d1 : (z / 256 == 0) = decide (fitsN 1 z) := by
      unfold fitsN
      rw [Bool.eq_iff_iff]
      simp only [beq_iff_eq, decide_eq_true_eq, show (256 : Int) ^ 1 = 256 from rfl]
      omega
    go_enter Tryd.func27, Tryd.ntmps27
    go_wp2
    go_ret
    exact ⟨rfl, rfl⟩
  · have d1 : (z / 65536 == 0) = decide (fitsN 2 z) := by
      unfold fitsN
      rw [Bool.eq_iff_iff]
      simp only [beq_iff_eq, decide_eq_true_eq, show (256 : Int) ^ 2 = 65536 from rfl]
      omega
    go_enter Tryd.func27, Tryd.ntmps27
    go_wp2
    go_ret
    exact ⟨rfl, rfl⟩
  · have d1 : (z / 4294967296 == 0) = decide (fitsN 4 z) := by
      unfold fitsN
      rw [Bool.eq_iff_iff]
      simp only [beq_iff_eq, decide_eq_true_eq, show (256 : Int) ^ 4 = 4294967296 from rfl]
      omega
    go_enter Tryd.func27, Tryd.ntmps27
    go_wp2
    go_ret
    exact ⟨rfl, rfl⟩
  · have hf : decide (fitsN 8 z) = true := by simp [fitsN]
    rw [hf]; clear hf
    go_enter Tryd.func27, Tryd.ntmps27
    go_wp2
    go_ret
    exact ⟨rfl, rfl⟩

set_option maxRecDepth 100000 in
set_option maxHeartbeats 1000000 in
theorem extend_any (p : Option Addr) (n cap : Nat) (g : Nat → Nat) (more N : Nat) (hN : N = n + more) (hm : N ≤ 140737488355328) (w : World) (hp : BytesAt w p n g) :
    Calls Tryd.prog 28 #[.slice p n cap, .int .i64 more] w fun e w' => e = .returned (.slice (some ⟨w.heap.size, 0, none⟩) N N) ∧ IntBlk w' w.heap.size .u8 5 (mk N (extF n g)) ∧ Below w.heap.size w w' := by
  have q1 : IntKind.i64.wrap ((n : Int) + (more : Int)) = (N : Int) := by rw [IntWalk.i64_in _ (by omega)]; omega
  have b1 : Below w.heap.size w (w.alloc (.cells (cellsOf .u8 (mk N zeroK)) 5)) := (Below.refl _ w).alloc (Nat.le_refl _) _
  have hnN : n ≤ N := by omega
  have hz := IntBlk.new w .u8 5 (mk N zeroK)
  have HZ := Lib.hid hz
  have B1 := Lib.hid b1
  have e1 : min (n : Int) (N : Int) = (n : Int) := by omega
  have HE := Lib.hid (extF_put n N g)
  have HP := Lib.hid (hp.below b1)
  clear hN hz b1 hp
  go_enter Tryd.func28, Tryd.ntmps28
  go_wp2_with (first
    | (refine wpList_noughts rfl _ _ rfl N hm rfl rfl ?_)
    | (refine wpList_copy_bytes rfl _ _ rfl w.heap.size 0 N N N zeroK _ rfl p n cap (fun _ => rfl) g rfl 5 HZ.out hnN ?own HP.out ?_
       case own => omega
       intro v w2 hr2 hb2 hs2))
  go_ret
  exact ⟨rfl, by rw [← HE.out]; exact hr2, B1.out.trans (hb2.below (Nat.le_refl _) (by simp))⟩

/-- A number's lowest k bytes written at the end of s places from L on. -/
def wrTo (F : Nat → Nat) (L s : Nat) (z : Int) (k : Nat) : Nat → Nat := fun j => if L + s ≤ j + k ∧ j < L + s then dig z (L + s - 1 - j) else F j
theorem wrTo_zero (F : Nat → Nat) (L s : Nat) (z : Int) : wrTo F L s z 0 = F := funext fun j => if_neg (by omega)
theorem wrTo_end (F : Nat → Nat) (L s : Nat) (z : Int) : wrTo F L s z s = put F L s (numF s z) := funext fun j => by
  unfold wrTo put numF
  by_cases h : L ≤ j ∧ j < L + s
  · rw [if_pos (by omega), if_pos h, show s - 1 - (j - L) = L + s - 1 - j by omega]
  · rw [if_neg (by omega), if_neg h]
theorem wrTo_step (F : Nat → Nat) (L s N : Nat) (z : Int) {k : Nat} (hk : k < s) {x : Int} (hx : x = (dig z k : Nat)) : (mk N (wrTo F L s z k)).set (L + (s - 1 - k)) x = mk N (wrTo F L s z (k + 1)) :=
  mk_set_is hx fun j _ => by
    unfold wrTo
    by_cases e : j = L + (s - 1 - k)
    · rw [if_pos e, if_pos (by omega), show L + s - 1 - j = k by omega]
    · rw [if_neg e]
      by_cases h : L + s ≤ j + k ∧ j < L + s
      · rw [if_pos h, if_pos (by omega)]
      · rw [if_neg h, if_neg (by omega)]
theorem valN_succ (k : Nat) (g : Nat → Nat) : valN (k + 1) g = valN k g * 256 + g k := rfl
theorem wrap64_is (x : Int) : wrap64 x = IntKind.i64.wrap x := by rw [IntKind.wrap_i64]; try (unfold wrap64; omega)
section
attribute [local irreducible] wrTo dig valN
set_option maxRecDepth 100000 in
set_option maxHeartbeats 1000000 in
theorem write_any (D L s cap N : Nat) (z : Int) (F : Nat → Nat) (hs : s ≤ 8) (hN : L + s ≤ N) (hNN : N ≤ 140737488355328) (w : World) (hD : IntBlk w D .u8 5 (mk N F)) :
    Calls Tryd.prog 29 #[.slice (some ⟨D, L, none⟩) s cap, .int .i64 z] w fun e w' => (∃ v, e = .returned v) ∧ IntBlk w' D .u8 5 (mk N (put F L s (numF s z))) ∧ But D w w' := by
  have HD := Lib.hid hD
  clear hD
  go_enter Tryd.func29, Tryd.ntmps29
  go_wp2
  go_loopw [7] (fun v wr => ∃ k : Nat, k ≤ s ∧ v = .int .i64 k ∧ IntBlk wr D .u8 5 (mk N (wrTo F L s z k)) ∧ But D w wr) (fun v _ => s - (intOf v).toNat)
  case atStart => exact ⟨0, by omega, rfl, by rw [wrTo_zero]; exact HD.out, .of (Below.refl _ _)⟩
  case round =>
    clear HD
    obtain ⟨k, hk, rfl, ha, hb⟩ := hrel
    have HA := Lib.hid ha; have HB := Lib.hid hb
    by_cases hlt : k < s
    · have e1 : (k : Int) < (s : Int) := by omega
      have e0 : IntKind.i64.wrap ((s : Int) - 1) = ((s - 1 : Nat) : Int) := by rw [IntWalk.i64_in _ (by omega)]; omega
      have e2 : IntKind.i64.wrap (((s - 1 : Nat) : Int) - (k : Int)) = ((s - 1 - k : Nat) : Int) := by rw [IntWalk.i64_in _ (by omega)]; omega
      have e3 : IntKind.i64.wrap (8 * (k : Int)) = ((8 * k : Nat) : Int) := by rw [IntWalk.i64_in _ (by omega)]; omega
      have e4 : ((s - 1 - k : Nat) : Int) < (s : Int) := by omega
      have e6 : s - 1 - k < s := by omega
      have e5 : (0 : Int) ≤ ((8 * k : Nat) : Int) := by omega
      have c1 := ha.cell (i := L + (s - 1 - k)) (by rw [mk_len]; omega)
      have f1 := ha.free (L + (s - 1 - k))
      have HV := Lib.hid (fun (x : Int) (hx : x = z / 2 ^ (8 * k) % 256) => wrTo_step F L s N z hlt (x := x) (by rw [hx, dig_shift]))
      clear ha hb
      generalize hm1 : s - 1 = s1 at *
      generalize hm2 : s1 - k = m at *
      generalize hm8 : 8 * k = m8 at *
      go_wp2
      go_roundw
      case rel => exact ⟨k + 1, by omega, by go_num, by rw [← HV.out _ rfl]; exact HA.out.set (L + m) _, HB.out.trans (.setCell _ _ _ _)⟩
      case measure => simp [intOf]; omega
    · have e1 : ¬ (k : Int) < (s : Int) := by omega
      obtain rfl : k = s := by omega
      clear ha hb
      go_wp2
      refine bodyPost_end (results_none rfl _ _ _) rfl ?_
      rw [wrTo_end] at HA
      exact ⟨⟨_, rfl⟩, HA.out, HB.out⟩
set_option maxRecDepth 100000 in
set_option maxHeartbeats 1000000 in
theorem read_any (p : Option Addr) (n cap : Nat) (g : Nat → Nat) (hg : ∀ i, i < n → g i < 256) (hn : n ≤ 8) (w : World) (hp : BytesAt w p n g) :
    Calls Tryd.prog 50 #[.slice p n cap] w fun e w' => e = .returned (.int .i64 (IntKind.i64.wrap (valN n g : Nat))) ∧ w = w' := by
  have HP := Lib.hid hp
  clear hp
  have hv : ∀ k, k ≤ n → valN k g < 256 ^ 8 := fun k hk => Nat.lt_of_lt_of_le (valN_lt k (fun i hi => hg i (by omega))) (Nat.pow_le_pow_right (by omega) (by omega))
  go_enter Tryd.func50, Tryd.ntmps50
  go_wp2
  go_loopw [8, 3] (fun v v3 wr => ∃ k : Nat, k ≤ n ∧ v = .int .i64 k ∧ v3 = .int .i64 (IntKind.i64.wrap (valN k g : Nat)) ∧ w = wr) (fun v _ _ => n - (intOf v).toNat)
  case atStart => exact ⟨0, by omega, rfl, by unfold valN; rfl, rfl⟩
  case round =>
    obtain ⟨k, hk, rfl, rfl, rfl⟩ := hrel
    by_cases hlt : k < n
    · have e1 : (k : Int) < (n : Int) := by omega
      obtain ⟨B, o, rfl, c1⟩ : ∃ B o, p = some ⟨B, o, none⟩ ∧ w.cell? ⟨B, o + k, none⟩ = some (.int .u8 (g k : Nat)) := by
        rcases HP.out with h | ⟨B, o, h, _, hc⟩
        · omega
        · exact ⟨B, o, h, hc k hlt⟩
      have HS := Lib.hid (show bits .or .i64 (IntKind.i64.wrap (IntKind.i64.wrap (valN k g : Nat) * 256)) (g k : Nat) = IntKind.i64.wrap (valN (k + 1) g : Nat) by
        have h1 : IntKind.i64.wrap (IntKind.i64.wrap (valN k g : Nat) * 256) = IntKind.i64.wrap ((valN k g : Nat) * 256) := by
          rw [IntKind.wrap_i64, IntKind.wrap_i64, IntKind.wrap_i64]; omega
        rw [h1, shl_or (hg k hlt), valN_succ])
      have hgk := hg k hlt
      clear hv hg
      generalize IntKind.i64.wrap (valN k g : Nat) = u at *
      go_wp2
      go_roundw
      case rel => exact ⟨k + 1, by omega, by go_num, by rw [← HS.out]; simp [wrap64_is], trivial⟩
      case measure => simp [intOf]; omega
    · have e1 : ¬ (k : Int) < (n : Int) := by omega
      obtain rfl : k = n := by omega
      go_wp2
      go_ret
      exact ⟨rfl, rfl⟩
end
section

/-- A size that numbers have. -/
def IsSize (s : Int) : Prop := s = 1 ∨ s = 2 ∨ s = 4 ∨ s = 8
/-- Bytes, and others behind them. -/
def cat (n : Nat) (g h : Nat → Nat) : Nat → Nat := fun j => if j < n then g j else h (j - n)
theorem cat_put (n s : Nat) (g h : Nat → Nat) : mk (n + s) (put (extF n g) n s h) = mk (n + s) (cat n g h) := mk_ext fun j hj => by
  unfold put extF cat
  by_cases e : j < n
  · rw [if_neg (by omega), if_pos e, if_pos e]
  · rw [if_pos (by omega), if_neg e]
attribute [local irreducible] dig valN numF extF cat put
set_option maxRecDepth 100000 in
set_option maxHeartbeats 1000000 in
theorem Put_form (p : Option Addr) (n cap : Nat) (s z : Int) (hs : ¬ IsSize s) (w : World) : Calls Tryd.prog 11 #[.slice p n cap, .int .i64 s, .int .i64 z] w fun e w' => e = .returned (.tuple #[.slice none 0 0, .iface 40 (.int .i64 2)]) ∧ w = w' := by
  unfold IsSize at hs
  have GC := Lib.hid (fun W => good_no s (by omega) (by omega) (by omega) (by omega) W)
  clear hs
  go_enter Tryd.func11, Tryd.ntmps11
  go_wp2_with (first
    | (go_at_call 26; refine (GC.out _).mono ?_; rintro e w1 ⟨rfl, rfl⟩; clear GC))
  go_ret2
  exact ⟨rfl, rfl⟩
set_option maxRecDepth 100000 in
set_option maxHeartbeats 1000000 in
theorem Put_range (p : Option Addr) (n cap : Nat) (s : Nat) (z : Int) (hs : IsSize s) (hz : ¬ fitsN s z) (w : World) : Calls Tryd.prog 11 #[.slice p n cap, .int .i64 s, .int .i64 z] w fun e w' => e = .returned (.tuple #[.slice none 0 0, .iface 40 (.int .i64 1)]) ∧ w = w' := by
  unfold IsSize at hs
  have GC := Lib.hid (fun W => good_yes s (by omega) W)
  have FC := Lib.hid (fun W => fits_any s (by omega) z W)
  rw [decide_eq_false hz] at FC
  clear hs hz
  go_enter Tryd.func11, Tryd.ntmps11
  go_wp2_with (first
    | (go_at_call 26; refine (GC.out _).mono ?_; rintro e w1 ⟨rfl, rfl⟩; clear GC)
    | (go_at_call 27; refine (FC.out _).mono ?_; rintro e w2 ⟨rfl, rfl⟩; clear FC))
  go_ret2
  exact ⟨rfl, rfl⟩
set_option maxRecDepth 100000 in
set_option maxHeartbeats 1000000 in
theorem Put_ok (p : Option Addr) (n cap : Nat) (g : Nat → Nat) (s : Nat) (z : Int) (hs : IsSize s) (hz : fitsN s z) (hn : n ≤ 140737488351232) (w : World) (hp : BytesAt w p n g) :
    Calls Tryd.prog 11 #[.slice p n cap, .int .i64 s, .int .i64 z] w fun e w' => e = .returned (.tuple #[.slice (some ⟨w.heap.size, 0, none⟩) (n + s) (n + s), .nilIface]) ∧ IntBlk w' w.heap.size .u8 5 (mk (n + s) (cat n g (numF s z))) ∧ Below w.heap.size w w' := by
  unfold IsSize at hs
  have GC := Lib.hid (fun W => good_yes s (by omega) W)
  have FC := Lib.hid (fun W => fits_any s (by omega) z W)
  rw [decide_eq_true hz] at FC
  obtain ⟨N, hN⟩ : ∃ N, n + s = N := ⟨_, rfl⟩
  have EC := Lib.hid (extend_any p n cap g s N hN.symm (by omega) w hp)
  have q1 : n ≤ N := by omega
  have q2 : n < N := by omega
  have q3 : N - n = s := by omega
  have WC := Lib.hid (fun (W : World) h => write_any w.heap.size n s s N z (extF n g) (by omega) (by omega) (by omega) W h)
  have HE := Lib.hid (cat_put n s g (numF s z))
  rw [hN] at HE ⊢
  clear hs hz hn hN hp
  go_enter Tryd.func11, Tryd.ntmps11
  go_wp2_with (first
    | (go_at_call 26; refine (GC.out _).mono ?_; rintro e w1 ⟨rfl, rfl⟩; clear GC)
    | (go_at_call 27; refine (FC.out _).mono ?_; rintro e w2 ⟨rfl, rfl⟩; clear FC)
    | (go_at_call 28; refine EC.out.mono ?_; rintro e w3 ⟨rfl, hr3, hb3⟩; have R3 := Lib.hid hr3; have B3 := Lib.hid hb3; clear EC hr3 hb3)
    | (refine wpList_tail rfl _ _ rfl (some ⟨w.heap.size, 0, none⟩) N N n n rfl rfl rfl q1 (Nat.le_refl _) ?_; intro p' _ hp'; rw [hp' _ 0 n rfl (Nat.zero_add n).symm q2, q3]; clear hp')
    | (go_at_call 29; refine (WC.out w3 R3.out).mono ?_; rintro e w4 ⟨⟨v4, rfl⟩, hr4, hb4⟩; have R4 := Lib.hid hr4; have B4 := Lib.hid (B3.out.trans (hb4.below (Nat.le_refl _) B3.out.size)); clear WC hr4 hb4 B3 R3))
  go_ret2
  exact ⟨rfl, by rw [← HE.out]; exact R4.out, B4.out⟩
theorem extF_all (n : Nat) (g : Nat → Nat) : mk n (extF n g) = mk n g := mk_ext fun j hj => by unfold extF; rw [if_pos hj]
/-- Bytes as new memory. -/
theorem clone_any (p : Option Addr) (n cap : Nat) (g : Nat → Nat) (hn : n ≤ 140737488355328) (w : World) (hp : BytesAt w p n g) :
    Calls Tryd.prog 28 #[.slice p n cap, .int .i64 0] w fun e w' => e = .returned (.slice (some ⟨w.heap.size, 0, none⟩) n n) ∧ IntBlk w' w.heap.size .u8 5 (mk n g) ∧ Below w.heap.size w w' := by
  have := extend_any p n cap g 0 n (by omega) hn w hp
  rwa [extF_all] at this
set_option maxRecDepth 100000 in
set_option maxHeartbeats 1000000 in
theorem Take_size (p : Option Addr) (n cap : Nat) (s : Int) (hs : ¬ IsSize s) (w : World) : Calls Tryd.prog 35 #[.slice p n cap, .int .i64 s] w fun e w' => e = .returned (.tuple #[.int .i64 0, .slice none 0 0, .iface 40 (.int .i64 2)]) ∧ w = w' := by
  unfold IsSize at hs
  have GC := Lib.hid (fun W => good_no s (by omega) (by omega) (by omega) (by omega) W)
  clear hs
  go_enter Tryd.func35, Tryd.ntmps35
  go_wp2_with (first
    | (go_at_call 26; refine (GC.out _).mono ?_; rintro e w1 ⟨rfl, rfl⟩; clear GC))
  go_ret3
  exact ⟨rfl, rfl⟩
set_option maxRecDepth 100000 in
set_option maxHeartbeats 1000000 in
theorem Take_short (p : Option Addr) (n cap : Nat) (s : Nat) (hs : IsSize s) (h : n < s) (w : World) : Calls Tryd.prog 35 #[.slice p n cap, .int .i64 s] w fun e w' => e = .returned (.tuple #[.int .i64 0, .slice none 0 0, .iface 40 (.int .i64 2)]) ∧ w = w' := by
  unfold IsSize at hs
  have GC := Lib.hid (fun W => good_yes s (by omega) W)
  have d1 : decide ((n : Int) < (s : Int)) = true := by simp; omega
  have d2 : decide (n < s) = true := by simp; omega
  clear hs h
  go_enter Tryd.func35, Tryd.ntmps35
  go_wp2_with (first
    | (go_at_call 26; refine (GC.out _).mono ?_; rintro e w1 ⟨rfl, rfl⟩; clear GC))
  go_ret3
  exact ⟨rfl, rfl⟩
set_option maxRecDepth 100000 in
set_option maxHeartbeats 1000000 in
theorem Take_ok (p : Option Addr) (n cap : Nat) (g : Nat → Nat) (hg : ∀ i, i < n → g i < 256) (s : Nat) (hs : IsSize s) (h : s ≤ n) (hcap : n ≤ cap) (hn : n ≤ 140737488355328) (w : World) (hp : BytesAt w p n g) :
    Calls Tryd.prog 35 #[.slice p n cap, .int .i64 s] w fun e w' => ∃ D, e = .returned (.tuple #[.int .i64 (IntKind.i64.wrap (valN s g : Nat)), .slice (some ⟨D, 0, none⟩) (n - s) (n - s), .nilIface]) ∧ IntBlk w' D .u8 5 (mk (n - s) (fun j => g (s + j))) ∧ w.heap.size ≤ D ∧ Below w.heap.size w w' := by
  unfold IsSize at hs
  have GC := Lib.hid (fun W => good_yes s (by omega) W)
  have d1 : decide ((n : Int) < (s : Int)) = false := by simp; omega
  have d2 : decide (n < s) = false := by simp; omega
  have k1 : s ≤ cap := by omega
  have RC := Lib.hid (fun W hW => read_any p s cap g (fun i hi => hg i (by omega)) (by omega) W hW)
  have EC := Lib.hid (fun q W hW => clone_any q (n - s) (cap - s) (fun j => g (s + j)) (by omega) W hW)
  have HP := Lib.hid (fun (W : World) (hb : Below w.heap.size w W) => (hp.below hb).upto (k := s) h)
  have HQ := Lib.hid (fun q (hq : Behind p n s (n - s) q) (W : World) (hb : Below w.heap.size w W) => hq W g (hp.below hb))
  have c0 : Below w.heap.size w w.drew := (Below.refl _ w).drew
  clear hs hp hn hg
  go_enter Tryd.func35, Tryd.ntmps35
  go_wp2_with (first
    | (go_at_call 26; refine (GC.out _).mono ?_; rintro e w1 ⟨rfl, rfl⟩; clear GC))
  refine wp_region_sched [(0, true), (1, true), (2, true), (4, true), (5, true), (6, true), (3, false), (7, false), (8, true), (9, true), (10, true)] (fun W => Below w.heap.size w W) (by kernel_rfl) (by kernel_rfl) c0 ?_
  refine walk_float rfl rfl (fun K' hK' => ?_)
  refine gives_move _ rfl ?_
  go_simp
  refine hK' _ ?_
  clear hK' K'
  refine walk_float rfl rfl (fun K' hK' => ?_)
  refine gives_move _ rfl ?_
  go_simp
  refine hK' _ ?_
  clear hK' K'
  refine walk_float rfl rfl (fun K' hK' => ?_)
  refine gives_upto _ _ rfl p n cap s s rfl rfl rfl k1 ?_
  go_simp
  refine hK' _ ?_
  clear hK' K'
  refine walk_float rfl rfl (fun K' hK' => ?_)
  refine gives_move _ rfl ?_
  go_simp
  refine hK' _ ?_
  clear hK' K'
  refine walk_float rfl rfl (fun K' hK' => ?_)
  refine gives_move _ rfl ?_
  go_simp
  refine hK' _ ?_
  clear hK' K'
  refine walk_float rfl rfl (fun K' hK' => ?_)
  refine gives_tail _ _ rfl p n cap s s rfl rfl rfl h hcap ?_
  intro q hq
  go_simp
  refine hK' _ ?_
  clear hK' K'
  refine walk_done rfl rfl (fun K' hK' => ?_)
  refine done_enter1 _ _ _ rfl 50 rfl (enters_of Tryd.func50 (by kernel_rfl) rfl) _ rfl _ (RC.out _ (HP.out _ c0)) ?_
  rintro e w1 ⟨rfl, rfl⟩
  refine ⟨_, rfl, c0, ?_⟩
  go_simp
  refine hK' _ _ ?_
  clear hK' K'
  refine walk_done rfl rfl (fun K' hK' => ?_)
  refine done_enter2 _ _ _ _ rfl 28 rfl (enters_of Tryd.func28 (by kernel_rfl) rfl) _ _ rfl rfl _ (EC.out q _ (HQ.out q hq _ c0)) ?_
  rintro e w2 ⟨rfl, hr2, hb2⟩
  have B2 := c0.trans hb2
  refine ⟨_, rfl, B2, ?_⟩
  go_simp
  refine hK' _ _ ?_
  clear hK' K'
  refine walk_float rfl rfl (fun K' hK' => ?_)
  refine gives_assign _ rfl ?_
  go_simp
  refine hK' _ ?_
  clear hK' K'
  refine walk_float rfl rfl (fun K' hK' => ?_)
  refine gives_assign _ rfl ?_
  go_simp
  refine hK' _ ?_
  clear hK' K'
  refine walk_float rfl rfl (fun K' hK' => ?_)
  refine gives_assign _ rfl ?_
  go_simp
  refine hK' _ ?_
  clear hK' K'
  refine walk_nil ?_
  go_wp2
  go_ret3
  exact ⟨_, rfl, hr2, Nat.le_refl _, B2⟩
end
section
attribute [local irreducible] mk extF put
set_option maxRecDepth 100000 in
set_option maxHeartbeats 1000000 in
theorem Fill_ok (p : Option Addr) (n cap : Nat) (g : Nat → Nat) (hn : n ≤ 128) (w : World) (hp : BytesAt w p n g) :
    Calls Tryd.prog 13 #[.slice p n cap] w fun e w' => e = .returned (.tuple #[.agg (cellsOf .u8 (mk 128 (extF n g))), .nilIface]) ∧ Below w.heap.size w w' := by
  have d1 : decide ((128 : Int) < (n : Int)) = false := by simp; omega
  have d2 : decide (128 < n) = false := by simp; omega
  have b2 := below_two w (.cells (cellsOf .u8 (mk 128 zeroK)) 30) (.cells (cellsOf .u8 (mk 128 zeroK)) 30)
  have HP := Lib.hid (hp.below b2)
  have Y0 := Lib.hid ((IntBlk.new w .u8 30 (mk 128 zeroK)).alloc (.cells (cellsOf .u8 (mk 128 zeroK)) 30))
  have Z0 := Lib.hid (blk_two w .u8 30 (mk 128 zeroK) (.cells (cellsOf .u8 (mk 128 zeroK)) 30))
  have B0 := Lib.hid b2
  have HN := Lib.hid hn
  have HE := Lib.hid (extF_put n 128 g)
  clear b2 hp hn
  go_enter Tryd.func13, Tryd.ntmps13
  go_wp2_with (first
    | (refine wpList_sec_alloc rfl rfl w.heap.size rfl ?_)
    | (refine wpList_sec_alloc rfl rfl (w.heap.size + 1) ?own ?_
       case own => exact World.size_alloc _ _)
    | (refine wpList_sec_row rfl _ rfl (w.heap.size + 1) rfl ?_)
    | (refine wpList_copy_bytes rfl _ _ rfl (w.heap.size + 1) 0 128 128 128 zeroK _ rfl p n cap (fun _ => rfl) g rfl 30 Z0.out HN.out (by omega) HP.out ?_
       intro v w2 hr2 hb2 hs2
       rw [HE.out] at hr2
       have Z2 := Lib.hid hr2
       have Y2 := Lib.hid (hb2.blk Y0.out (by omega))
       have B2 := Lib.hid (B0.out.trans (hb2.below (by omega) B0.out.size))
       clear hr2 hb2 hs2 Y0 Z0 B0 HP HE)
    | (refine wpList_sec_load rfl _ rfl (w.heap.size + 1) (extF n g) rfl Z2.out ?_)
    | (refine store_row_on rfl 30 _ _ rfl rfl w.heap.size (cellsOf .u8 (mk 128 (extF n g))) rfl rfl 30 (cellsOf .u8 (mk 128 zeroK)) Y2.out (secSize _) (sec_same _ _) (cellsOf_one _ _) ?_))
  exact bodyPost_ret (results_cell_row_tmp rfl _ _ w.heap.size 30 (cellsOf .u8 (mk 128 (extF n g))) (0, 0) _ rfl (Y2.out.setRow .u8 (mk 128 (extF n g))) secUnder rfl (secSize _)) rfl ⟨rfl, below_setRow B2.out (Nat.le_refl _) _⟩
set_option maxRecDepth 100000 in
set_option maxHeartbeats 1000000 in
theorem Fill_range (p : Option Addr) (n cap : Nat) (hn : 128 < n) (w : World) :
    Calls Tryd.prog 13 #[.slice p n cap] w fun e w' => e = .returned (.tuple #[.agg (cellsOf .u8 (mk 128 zeroK)), .iface 40 (.int .i64 1)]) ∧ Below w.heap.size w w' := by
  have d1 : decide ((128 : Int) < (n : Int)) = true := by simp; omega
  have d2 : decide (128 < n) = true := by simp; omega
  have b2 := below_two w (.cells (cellsOf .u8 (mk 128 zeroK)) 30) (.cells (cellsOf .u8 (mk 128 zeroK)) 30)
  have Y0 := Lib.hid ((IntBlk.new w .u8 30 (mk 128 zeroK)).alloc (.cells (cellsOf .u8 (mk 128 zeroK)) 30))
  have B0 := Lib.hid b2
  clear b2 hn
  go_enter Tryd.func13, Tryd.ntmps13
  go_wp2_with (first
    | (refine wpList_sec_alloc rfl rfl w.heap.size rfl ?_)
    | (refine wpList_sec_alloc rfl rfl (w.heap.size + 1) ?own ?_
       case own => exact World.size_alloc _ _)
    | (refine wpList_sec_build0 rfl rfl ?_)
    | (refine store_row_on rfl 30 _ _ rfl rfl w.heap.size (cellsOf .u8 (mk 128 zeroK)) rfl rfl 30 (cellsOf .u8 (mk 128 zeroK)) Y0.out (secSize _) (sec_same _ _) (cellsOf_one _ _) ?_))
  exact bodyPost_ret (results_cell_row_tmp rfl _ _ w.heap.size 30 (cellsOf .u8 (mk 128 zeroK)) (0, 0) _ rfl (Y0.out.setRow .u8 (mk 128 zeroK)) secUnder rfl (secSize _)) rfl ⟨rfl, below_setRow B0.out (Nat.le_refl _) _⟩
end
section

attribute [local irreducible] dig valN numF extF cat put
set_option maxRecDepth 100000 in
set_option maxHeartbeats 1000000 in
theorem refTake_size (p : Option Addr) (n cap : Nat) (s : Int) (hs : ¬ IsSize s) (w : World) : Calls Tryd.prog 18 #[.slice p n cap, .int .i64 s] w fun e w' => e = .returned (.tuple #[.int .i64 0, .bool false]) ∧ w = w' := by
  unfold IsSize at hs
  have d1 : (s != 1) = true := by simp; omega
  have d2 : (s != 2) = true := by simp; omega
  have d4 : (s != 4) = true := by simp; omega
  have d8 : (s != 8) = true := by simp; omega
  clear hs
  go_enter Tryd.func18, Tryd.ntmps18
  go_wp2
  go_ret2
  exact ⟨rfl, rfl⟩
set_option maxRecDepth 100000 in
set_option maxHeartbeats 1000000 in
theorem refTake_short (p : Option Addr) (n cap : Nat) (s : Nat) (hs : IsSize s) (h : n < s) (w : World) : Calls Tryd.prog 18 #[.slice p n cap, .int .i64 s] w fun e w' => e = .returned (.tuple #[.int .i64 0, .bool false]) ∧ w = w' := by
  have d0 : decide ((n : Int) < (s : Int)) = true := by simp; omega
  have d00 : decide (n < s) = true := by simp; omega
  clear h
  rcases hs with hs | hs | hs | hs
  case' inl => have d1 : ((s : Int) != 1) = false := by simp; omega
  case' inr.inl =>
    have d1 : ((s : Int) != 1) = true := by simp; omega
    have d2 : ((s : Int) != 2) = false := by simp; omega
  case' inr.inr.inl =>
    have d1 : ((s : Int) != 1) = true := by simp; omega
    have d2 : ((s : Int) != 2) = true := by simp; omega
    have d4 : ((s : Int) != 4) = false := by simp; omega
  case' inr.inr.inr =>
    have d1 : ((s : Int) != 1) = true := by simp; omega
    have d2 : ((s : Int) != 2) = true := by simp; omega
    have d4 : ((s : Int) != 4) = true := by simp; omega
    have d8 : ((s : Int) != 8) = false := by simp; omega
  all_goals
    clear hs
    go_enter Tryd.func18, Tryd.ntmps18
    go_wp2
    go_ret2
    exact ⟨rfl, rfl⟩
set_option maxRecDepth 100000 in
set_option maxHeartbeats 4000000 in
theorem refTake_ok (p : Option Addr) (n cap : Nat) (g : Nat → Nat) (hg : ∀ i, i < n → g i < 256) (s : Nat) (hs : IsSize s) (h : s ≤ n) (w : World) (hp : BytesAt w p n g) :
    Calls Tryd.prog 18 #[.slice p n cap, .int .i64 s] w fun e w' => e = .returned (.tuple #[.int .i64 (IntKind.i64.wrap (valN s g : Nat)), .bool true]) ∧ w = w' := by
  have d0 : decide ((n : Int) < (s : Int)) = false := by simp; omega
  have d00 : decide (n < s) = false := by simp; omega
  have hv : ∀ k, k ≤ s → valN k g < 256 ^ 8 := fun k hk => Nat.lt_of_lt_of_le (valN_lt k (fun i hi => hg i (by omega))) (Nat.pow_le_pow_right (by omega) (by unfold IsSize at hs; omega))
  have HP := Lib.hid hp
  have HV := Lib.hid hv
  have HG := Lib.hid hg
  have HS := Lib.hid h
  have HS8 := Lib.hid (show s ≤ 8 by unfold IsSize at hs; omega)
  clear hp hv h hg
  rcases hs with hs | hs | hs | hs
  case' inl => have d1 : ((s : Int) != 1) = false := by simp; omega
  case' inr.inl =>
    have d1 : ((s : Int) != 1) = true := by simp; omega
    have d2 : ((s : Int) != 2) = false := by simp; omega
  case' inr.inr.inl =>
    have d1 : ((s : Int) != 1) = true := by simp; omega
    have d2 : ((s : Int) != 2) = true := by simp; omega
    have d4 : ((s : Int) != 4) = false := by simp; omega
  case' inr.inr.inr =>
    have d1 : ((s : Int) != 1) = true := by simp; omega
    have d2 : ((s : Int) != 2) = true := by simp; omega
    have d4 : ((s : Int) != 4) = true := by simp; omega
    have d8 : ((s : Int) != 8) = false := by simp; omega
  all_goals
    clear hs
    go_enter Tryd.func18, Tryd.ntmps18
    go_wp2
    go_loopw [7, 6] (fun v v6 wr => ∃ k : Nat, k ≤ s ∧ v = .int .i64 k ∧ v6 = .int .u64 (valN k g : Nat) ∧ w = wr) (fun v _ _ => s - (intOf v).toNat)
    case atStart => exact ⟨0, by omega, rfl, by unfold valN; rfl, rfl⟩
    case round =>
      obtain ⟨k, hk, rfl, rfl, rfl⟩ := hrel
      by_cases hlt : k < s
      · have e1 : (k : Int) < (s : Int) := by omega
        have e2 : (k : Int) < (n : Int) := by have := HS.out; omega
        have e3 : k < n := by omega
        have q1 : IntKind.i64.wrap ((k : Int) + 1) = (k : Int) + 1 := IntWalk.i64_in _ (by have := HS8.out; omega)
        obtain ⟨B, o, rfl, c1⟩ : ∃ B o, p = some ⟨B, o, none⟩ ∧ w.cell? ⟨B, o + k, none⟩ = some (.int .u8 (g k : Nat)) := by
          rcases HP.out with h | ⟨B, o, h, _, hc⟩
          · omega
          · exact ⟨B, o, h, hc k e3⟩
        have hgk := HG.out k e3
        have hv0 := HV.out k (by omega)
        have hv1 := HV.out (k + 1) (by omega)
        rw [valN_succ] at hv1
        have e4 : IntKind.u64.wrap ((valN k g : Nat) * 256) = (valN k g : Nat) * 256 := by rw [IntKind.wrap_u64]; omega
        have e5 : IntKind.u64.wrap ((valN k g : Nat) * 256 + (g k : Nat)) = (valN k g : Nat) * 256 + (g k : Nat) := by rw [IntKind.wrap_u64]; omega
        have e6 : IntKind.u64.wrap (g k : Nat) = (g k : Nat) := by rw [IntKind.wrap_u64]; omega
        have HE := Lib.hid (show ((valN k g : Nat) : Int) * 256 + (g k : Nat) = (valN (k + 1) g : Nat) by rw [valN_succ]; omega)
        clear hv0 hv1 hgk
        generalize ((valN k g : Nat) : Int) = u at *
        go_wp2
        go_roundw
        case rel => exact ⟨k + 1, by omega, by go_num, by rw [← HE.out], trivial⟩
        case measure => simp [intOf]; omega
      · have e1 : ¬ (k : Int) < (s : Int) := by omega
        obtain rfl : k = s := by omega
        go_wp2
        go_ret2
        exact ⟨by rw [← wrap64_is]; rfl, rfl⟩
/-- A number cut to 64 bits. -/
def cutN (z : Int) : Nat := (z % 18446744073709551616).toNat
theorem cutN_dig (z : Int) {i : Nat} (hi : i < 8) : cutN z / 256 ^ i % 256 = dig z i := by
  have h := dig_cut z ((cutN z : Nat) : Int) (by unfold cutN; omega) hi
  rw [h]
  unfold dig
  have e : ((cutN z : Nat) : Int) / 256 ^ i % 256 = ((cutN z / 256 ^ i % 256 : Nat) : Int) := by
    rw [Int.natCast_emod, Int.natCast_ediv, Int.natCast_pow]; rfl
  rw [e]; rfl
theorem cutN_next (z : Int) (i : Nat) : cutN z / 256 ^ i / 256 = cutN z / 256 ^ (i + 1) := by rw [Nat.div_div_eq_div_mul, Nat.pow_succ]
theorem numF_first (k : Nat) (z : Int) : numF (k + 1) z 0 = dig z k := by unfold numF; rw [show k + 1 - 1 - 0 = k by omega]
theorem numF_after (k : Nat) (z : Int) (j : Nat) : numF k z j = numF (k + 1) z (1 + j) := by unfold numF; rw [show k + 1 - 1 - (1 + j) = k - 1 - j by omega]
section
variable {ops : Array Oper} {rest : List Oper} {o : Oper} {a : Act} {w : World} {Q : Exit → Act → World → Prop}
theorem wpList_u64_quo (hgd : o.guard = none) (x : Operand) (ho : o.op = .binOp .quo 79 x (.const (.int .u64 256)) 79) (n m : Nat) (hx : a.eval x = .int .u64 n) (e4 : IntKind.u64.wrap ((n : Int) / 256) = (m : Int))
    (h : wpList Tryd.prog ops Q rest (a.put o.dst (.int .u64 m)) w) : wpList Tryd.prog ops Q (o :: rest) a w :=
  wpList_plain hgd fun _ hK => by
    unfold Oper.wp execOp
    simp only [ho, hx]
    simp [go_sem, e4]
    exact hK _ _ h
end
set_option maxRecDepth 100000 in
set_option maxHeartbeats 1000000 in
theorem refNumber_size (s z : Int) (hs : ¬ IsSize s) (w : World) : Calls Tryd.prog 14 #[.int .i64 s, .int .i64 z] w fun e w' => e = .returned (.tuple #[.slice none 0 0, .int .i64 2]) ∧ w = w' := by
  unfold IsSize at hs
  have d1 : (s != 1) = true := by simp; omega
  have d2 : (s != 2) = true := by simp; omega
  have d4 : (s != 4) = true := by simp; omega
  have d8 : (s != 8) = true := by simp; omega
  clear hs
  go_enter Tryd.func14, Tryd.ntmps14
  go_wp2
  go_ret2
  exact ⟨rfl, rfl⟩
set_option maxRecDepth 100000 in
set_option maxHeartbeats 4000000 in
theorem refNumber_range (s : Nat) (z : Int) (hs : IsSize s) (hz : ¬ fitsN s z) (w : World) : Calls Tryd.prog 14 #[.int .i64 s, .int .i64 z] w fun e w' => e = .returned (.tuple #[.slice none 0 0, .int .i64 1]) ∧ w = w' := by
  unfold fitsN at hz
  rcases hs with hs | hs | hs | hs
  · have hs' : s = 1 := by omega
    subst hs'
    simp only [show (256 : Int) ^ 1 = 256 from rfl] at hz
    by_cases hn : z < 0
    · have x1 : decide ((255 : Int) < z) = false := by simp; omega
      have x2 : decide (z < 0) = true := by simp; omega
      clear hz hn hs
      go_enter Tryd.func14, Tryd.ntmps14
      go_wp2
      go_ret2
      exact ⟨rfl, rfl⟩
    · have x1 : decide ((255 : Int) < z) = true := by simp; omega
      clear hz hn hs
      go_enter Tryd.func14, Tryd.ntmps14
      go_wp2
      go_ret2
      exact ⟨rfl, rfl⟩
  · have hs' : s = 2 := by omega
    subst hs'
    simp only [show (256 : Int) ^ 2 = 65536 from rfl] at hz
    by_cases hn : z < 0
    · have x1 : decide ((65535 : Int) < z) = false := by simp; omega
      have x2 : decide (z < 0) = true := by simp; omega
      clear hz hn hs
      go_enter Tryd.func14, Tryd.ntmps14
      go_wp2
      go_ret2
      exact ⟨rfl, rfl⟩
    · have x1 : decide ((65535 : Int) < z) = true := by simp; omega
      clear hz hn hs
      go_enter Tryd.func14, Tryd.ntmps14
      go_wp2
      go_ret2
      exact ⟨rfl, rfl⟩
  · have hs' : s = 4 := by omega
    subst hs'
    simp only [show (256 : Int) ^ 4 = 4294967296 from rfl] at hz
    by_cases hn : z < 0
    · have x1 : decide ((4294967295 : Int) < z) = false := by simp; omega
      have x2 : decide (z < 0) = true := by simp; omega
      clear hz hn hs
      go_enter Tryd.func14, Tryd.ntmps14
      go_wp2
      go_ret2
      exact ⟨rfl, rfl⟩
    · have x1 : decide ((4294967295 : Int) < z) = true := by simp; omega
      clear hz hn hs
      go_enter Tryd.func14, Tryd.ntmps14
      go_wp2
      go_ret2
      exact ⟨rfl, rfl⟩
  · exact absurd (.inl (by omega)) hz
set_option maxRecDepth 100000 in
set_option maxHeartbeats 8000000 in
theorem refNumber_ok (s : Nat) (z : Int) (hs : IsSize s) (hz : fitsN s z) (w : World) : Calls Tryd.prog 14 #[.int .i64 s, .int .i64 z] w fun e w' => ∃ p c, e = .returned (.tuple #[.slice p s c, .int .i64 0]) ∧ BytesAt w' p s (numF s z) ∧ Below w.heap.size w w' := by
  have hu : IntKind.u64.wrap z = (cutN z : Nat) := by rw [IntKind.wrap_u64]; unfold cutN; omega
  have hs8 : s ≤ 8 := by unfold IsSize at hs; omega
  unfold fitsN at hz
  rcases hs with hs | hs | hs | hs
  case' inl =>
    have d1 : ((s : Int) != 1) = false := by simp; omega
    have g1 : ((s : Int) == 1) = true := by simp; omega
    have g2 : ((s : Int) == 2) = false := by simp; omega
    have g4 : ((s : Int) == 4) = false := by simp; omega
    have g8 : decide ((s : Int) < 8) = true := by simp; omega
    have g88 : decide (s < 8) = true := by simp; omega
    have x0 : 0 ≤ z ∧ z ≤ 255 := by
      rcases hz with h | ⟨h1, h2⟩
      · omega
      · rw [show s = 1 by omega, show (256 : Int) ^ 1 = 256 from rfl] at h2; omega
    have x1 : decide ((255 : Int) < z) = false := by simp; omega
    have x2 : decide (z < 0) = false := by simp; omega
    clear x0
  case' inr.inl =>
    have d1 : ((s : Int) != 1) = true := by simp; omega
    have d2 : ((s : Int) != 2) = false := by simp; omega
    have g1 : ((s : Int) == 1) = false := by simp; omega
    have g2 : ((s : Int) == 2) = true := by simp; omega
    have g4 : ((s : Int) == 4) = false := by simp; omega
    have g8 : decide ((s : Int) < 8) = true := by simp; omega
    have g88 : decide (s < 8) = true := by simp; omega
    have x0 : 0 ≤ z ∧ z ≤ 65535 := by
      rcases hz with h | ⟨h1, h2⟩
      · omega
      · rw [show s = 2 by omega, show (256 : Int) ^ 2 = 65536 from rfl] at h2; omega
    have x1 : decide ((65535 : Int) < z) = false := by simp; omega
    have x2 : decide (z < 0) = false := by simp; omega
    clear x0
  case' inr.inr.inl =>
    have d1 : ((s : Int) != 1) = true := by simp; omega
    have d2 : ((s : Int) != 2) = true := by simp; omega
    have d4 : ((s : Int) != 4) = false := by simp; omega
    have g1 : ((s : Int) == 1) = false := by simp; omega
    have g2 : ((s : Int) == 2) = false := by simp; omega
    have g4 : ((s : Int) == 4) = true := by simp; omega
    have g8 : decide ((s : Int) < 8) = true := by simp; omega
    have g88 : decide (s < 8) = true := by simp; omega
    have x0 : 0 ≤ z ∧ z ≤ 4294967295 := by
      rcases hz with h | ⟨h1, h2⟩
      · omega
      · rw [show s = 4 by omega, show (256 : Int) ^ 4 = 4294967296 from rfl] at h2; omega
    have x1 : decide ((4294967295 : Int) < z) = false := by simp; omega
    have x2 : decide (z < 0) = false := by simp; omega
    clear x0
  case' inr.inr.inr =>
    have d1 : ((s : Int) != 1) = true := by simp; omega
    have d2 : ((s : Int) != 2) = true := by simp; omega
    have d4 : ((s : Int) != 4) = true := by simp; omega
    have d8 : ((s : Int) != 8) = false := by simp; omega
    have g1 : ((s : Int) == 1) = false := by simp; omega
    have g2 : ((s : Int) == 2) = false := by simp; omega
    have g4 : ((s : Int) == 4) = false := by simp; omega
    have g8 : decide ((s : Int) < 8) = false := by simp; omega
    have g88 : decide (s < 8) = false := by simp; omega
  all_goals
    clear hs hz
    go_enter Tryd.func14, Tryd.ntmps14
    go_wp2
    go_loopw [8, 6, 7] (fun v v6 v7 wr => ∃ k : Nat, k ≤ s ∧ v = .int .i64 k ∧ v6 = .int .u64 (cutN z / 256 ^ k : Nat) ∧ OwnS 5 1 wr w.heap.size wr.heap.size v7 k (numF k z) ∧ Below w.heap.size w wr) (fun v _ _ _ => s - (intOf v).toNat)
    case' round =>
      clear hu d1 g1 g2 g4 g8 g88
      try clear d2
      try clear d4
      try clear d8
      try clear x1 x2
    case atStart => exact ⟨0, by omega, rfl, by rw [Nat.pow_zero, Nat.div_one], .inl ⟨rfl, rfl⟩, Below.refl _ _⟩
    case round =>
      obtain ⟨k, hk, rfl, rfl, ho, hb⟩ := hrel
      by_cases hlt : k < s
      · have e1 : (k : Int) < (s : Int) := by omega
        have q1 : IntKind.i64.wrap ((k : Int) + 1) = (k : Int) + 1 := IntWalk.i64_in _ (by omega)
        have hd := cutN_dig z (i := k) (by omega)
        have hn := cutN_next z k
        obtain ⟨v7, c7, rfl, hc7, _, hb7, _⟩ := ho.bytes (Nat.le_refl _)
        generalize hx : cutN z / 256 ^ k = x at *
        have e2 : ((x : Nat) : Int) % 256 = (dig z k : Nat) := by omega
        have hxb : x < 18446744073709551616 := by
          rw [← hx]; exact Nat.lt_of_le_of_lt (Nat.div_le_self _ _) (by unfold cutN; omega)
        obtain ⟨y, hy⟩ : ∃ y, x / 256 = y := ⟨_, rfl⟩
        have e4 : IntKind.u64.wrap ((x : Int) / 256) = (y : Int) := by
          rw [IntKind.wrap_u64]; omega
        rw [hy] at hn
        clear hxb
        have hdl := dig_lt z k
        generalize hb0 : dig z k = b at *
        have HN := Lib.hid hn
        have HB7 := Lib.hid hb7; have HB := Lib.hid hb
        have HF0 := Lib.hid (show numF (k + 1) z 0 = b by rw [numF_first, hb0])
        have E4 := Lib.hid e4
        clear hn hd ho hb7 hb hx hb0 e4 hy
        go_wp2_with (first
          | (refine wpList_u64_quo rfl (.tmp 66) rfl x y rfl E4.out ?_)
          | (refine wpList_append_own_bytes rfl (.tmp 63) (.tmp 64) rfl w.heap.size (wr.heap.size + 1) 1 (.slice (some ⟨wr.heap.size, 0, none⟩) 1 1) (numF (k + 1) z) (numF k z) v7 k c7 rfl rfl (OwnS.one wr _ w.heap.size b HB.out.size HF0.out) (HB7.out.below ((Below.refl _ wr).alloc (Nat.le_refl _) _)) (fun j _ => numF_after k z j) ?own ?bas ?_
             case own => omega
             case bas => have := HB.out.size; simp; omega
             intro v8 w8 ho8 hb8
             obtain ⟨p8, c8, hv8, _⟩ := ho8.bytes (Nat.le_refl _)
             subst hv8
             have O8 := Lib.hid ho8
             have B8 := Lib.hid ((HB.out.alloc HB.out.size (.cells #[.int .u8 (b : Nat)] 5)).trans hb8)
             clear ho8 hb8 HB HB7))
        have hkk := O8.out
        rw [Nat.add_comm 1 k] at hkk
        have HK := Lib.hid hkk
        clear hkk
        go_wp2
        go_roundw
        case rel => exact ⟨k + 1, by omega, by go_num, by rw [← HN.out], by rw [Nat.add_comm 1 k]; exact HK.out, B8.out⟩
        case measure => simp [intOf]; omega
      · have e1 : ¬ (k : Int) < (s : Int) := by omega
        obtain rfl : k = s := by omega
        obtain ⟨v7, c7, rfl, hc7, _, hb7, _⟩ := ho.bytes (Nat.le_refl _)
        have HB7 := Lib.hid hb7; have HB := Lib.hid hb
        clear hb7 hb ho
        go_wp2
        go_ret2
        exact ⟨_, ⟨_, rfl⟩, HB7.out, HB.out⟩
end
end Go.Proofs.YtghdeedglekphaaDoor
