/- The contract of package citadelref05's Piece: a key's piece. It writes nothing that was there. Condition: the key has no more than 90000 bytes. -/
import Derived.Test.YtfjbehobpkmjbaaDoorMacQ
import Derived.Test.YtfjbehobpkmjbaaDoorRefOf
import Derived.Test.YtfjbehobpkmjbaaDoorRefPad
namespace Go.Proofs.YtfjbehobpkmjbaaDoor
open Go.ChangeShapes Go.WideShapes Go.ChangeAt Go.RowKit

theorem pieK_in {n : Nat} {g : Nat → Nat} (h : n ≤ 64) : ∀ j, j < n → g j = pieK n g (0 + j) := fun j hj => by
  rw [pieK_short h, Nat.zero_add]; unfold inG; rw [if_pos ⟨hj, by omega⟩]
theorem pieK_zero {n : Nat} {g : Nat → Nat} (h : n ≤ 64) : ∀ j, n ≤ j → j < 64 → pieK n g j = 0 := fun j hj _ => by
  rw [pieK_short h]; unfold inG; rw [if_neg (by omega)]; rfl
theorem pieK_dig {n : Nat} {g : Nat → Nat} (h : 64 < n) : ∀ j, j < 32 → digF n g j = pieK n g (0 + j) := fun j hj => by
  rw [pieK_long h, Nat.zero_add]; unfold inG; rw [if_pos ⟨hj, by omega⟩]
theorem pieK_after {n : Nat} {g : Nat → Nat} (h : 64 < n) : ∀ j, 32 ≤ j → j < 64 → pieK n g j = 0 := fun j hj _ => by
  rw [pieK_long h]; unfold inG; rw [if_neg (by omega)]; rfl
attribute [local irreducible] digF pieK mskB inG cat2

set_option maxRecDepth 100000 in
set_option maxHeartbeats 2000000 in
theorem refPiece_any (p : Option Addr) (n cap : Nat) (g : Nat → Nat) (hn : n ≤ 90000) (hg : ∀ i, i < n → g i < 256) (w : World) (hp : BytesAt w p n g) :
    Calls Tryd.prog 14 #[.slice p n cap] w fun e w' => ∃ p' c', e = .returned (.slice p' 64 c') ∧ 64 ≤ c' ∧ BytesAt w' p' 64 (pieK n g) ∧ Below w.heap.size w w' := by
  have a0 : Below w.heap.size w (w.alloc (.cells (cellsOf .u8 []) 5)) := (Below.refl _ w).alloc (Nat.le_refl _) _
  have HP := Lib.hid (hp.below a0)
  have HQ := Lib.hid hp
  have A0 := Lib.hid a0
  have RO := Lib.hid (fun W h => refOf_any p n cap g hn hg W h)
  clear a0
  by_cases h : 64 < n
  · have e1 : ¬ n ≤ 64 := by omega
    have e2 : (64 : Int) < n := by omega
    have HF0 := Lib.hid (pieK_dig (g := g) h)
    have HFZ := Lib.hid (pieK_after (g := g) h)
    have HFI := Lib.hid (show ∀ j, j < n → g j = g (0 + j) from fun j _ => by rw [Nat.zero_add])
    generalize digF n g = D at *
    generalize pieK n g = F at *
    clear hp
    go_enter Tryd.func14, Tryd.ntmps14
    go_wp2_with (first
      | (refine wpList_buildFlat rfl 22 5 0 _ rfl .u8 [] bytesUnder byteInfo (by rw [byteZero1]; rfl) rfl (by omega) (by omega) rfl ?_)
      | (refine wpList_append_own_bytes rfl (.tmp 5) (.tmp 6) rfl w.heap.size (w.heap.size + 1) 0 _ g g p n cap rfl rfl (OwnS.empty w g w.heap.size (Nat.le_refl _)) HP.out HFI.out (by omega) (by simp) ?_; intro v1 w1 hv1 hb1
         rw [Nat.zero_add] at hv1
         obtain ⟨q1, c1, rfl, _, _, _, _⟩ := hv1.bytes (Nat.le_refl _)
         have L1 := Lib.hid (A0.out.trans hb1)
         have P1 := Lib.hid (HQ.out.below (A0.out.trans hb1))
         clear hv1 hb1 A0 HP)
      | (go_at_call 26; refine (RO.out w1 P1.out).mono ?_; rintro e w2 ⟨rfl, hb2⟩
         have L2 := Lib.hid (L1.out.trans (hb2.mono L1.out.size))
         clear hb2 L1 P1)
      | (refine store_row_on rfl 30 _ _ rfl rfl w2.heap.size (cellsOf .u8 (mk 32 D)) rfl rfl 30 (cellsOf .u8 (mk 32 zeroK)) (IntBlk.new w2 .u8 _ (mk 32 zeroK)) (sumSize _) (by rw [cellsOf_size, cellsOf_size, mk_len, mk_len]) (cellsOf_one _ _) ?_
         have E0 : Below w2.heap.size w2 ((w2.alloc (.cells (cellsOf .u8 (mk 32 zeroK)) 30)).setRow w2.heap.size (cellsOf .u8 (mk 32 D))) := below_setRow ((Below.refl _ w2).alloc (Nat.le_refl _) _) (Nat.le_refl _) _
         have E1 : IntBlk ((w2.alloc (.cells (cellsOf .u8 (mk 32 zeroK)) 30)).setRow w2.heap.size (cellsOf .u8 (mk 32 D))) w2.heap.size .u8 30 (mk 32 D) := (IntBlk.new w2 .u8 _ (mk 32 zeroK)).setRow .u8 _
         change wpList _ _ _ _ _ ((w2.alloc (.cells (cellsOf .u8 (mk 32 zeroK)) 30)).setRow w2.heap.size (cellsOf .u8 (mk 32 D)))
         generalize (w2.alloc (.cells (cellsOf .u8 (mk 32 zeroK)) 30)).setRow w2.heap.size (cellsOf .u8 (mk 32 D)) = V at *
         have L3 := Lib.hid (L2.out.trans (E0.mono L2.out.size))
         have V3 := Lib.hid (E1.alloc (.cells (cellsOf .u8 []) 5)).bytes
         clear E0 E1 L2)
      | (refine wpList_append_own_bytes rfl (.tmp 13) (.tmp 14) rfl V.heap.size (V.heap.size + 1) 0 _ F D (some ⟨w2.heap.size, 0, none⟩) 32 32 rfl rfl (OwnS.empty V F V.heap.size (Nat.le_refl _)) V3.out HF0.out (by omega) (by simp) ?_; intro v4 w4 hv4 hb4
         have HV0 : Hid (OwnS 5 1 w4 w.heap.size w4.heap.size v4 32 F) := Lib.hid (hv4.lower (by have := L3.out.size; omega))
         have HL0 : Hid (Below w.heap.size w w4) := Lib.hid (L3.out.trans ((((Below.refl _ V).alloc (Nat.le_refl _) (.cells (cellsOf .u8 []) 5)).trans hb4).mono L3.out.size))
         clear hv4 hb4 L3 V3))
    go_loopw [3] (fun v3 wr => ∃ k : Nat, 32 ≤ k ∧ k ≤ 64 ∧ OwnS 5 1 wr w.heap.size wr.heap.size v3 k F ∧ Below w.heap.size w wr) (fun v3 _ => 64 - (match v3 with | .slice _ k _ => k | _ => 0))
    case atStart => exact ⟨32, by omega, by omega, HV0.out, HL0.out⟩
    case round =>
      clear HV0 HL0
      obtain ⟨k, k1, k2, hv, hw⟩ := hrel
      obtain ⟨p', c', rfl, kc, cm, hbytes, hpb⟩ := hv.bytes (Nat.le_refl _)
      have HV := Lib.hid hv
      have HW := Lib.hid hw
      have HBY := Lib.hid hbytes
      have hws := hw.size
      clear hv hw hbytes hpb
      by_cases hlt : k = 64
      · have t0 : decide ((k : Int) < 64) = false := by simp; omega
        have HLT := Lib.hid hlt
        clear hlt
        go_wp2
        go_ret
        exact ⟨p', c', by rw [HLT.out]; rfl, by have := HLT.out; omega, by rw [← HLT.out]; exact HBY.out, HW.out⟩
      · have t0 : decide ((k : Int) < 64) = true := by simp; omega
        have HF1 : Hid (∀ j, j < 1 → (0 : Nat) = F (k + j)) := Lib.hid (fun j hj => (HFZ.out (k + j) (by omega) (by omega)).symm)
        have HA : Hid (OwnS 5 1 (wr.alloc (.cells (cellsOf .u8 [((0 : Nat) : Int)]) 5)) w.heap.size wr.heap.size (.slice p' k c') k F) := Lib.hid (HV.out.alloc (Nat.le_refl _) _)
        go_wp2_with (first
          | (refine wpList_buildFlat rfl 22 5 1 _ rfl .u8 [((0 : Nat) : Int)] bytesUnder byteInfo (by rw [byteZero1]; rfl) rfl (by omega) (by omega) rfl ?_)
          | (refine wpList_append_own_bytes rfl _ _ rfl w.heap.size wr.heap.size k _ F (fun _ => 0) (some ⟨wr.heap.size, 0, none⟩) 1 1 rfl rfl HA.out (bytesAt_one wr 0) HF1.out (by omega) (by rw [World.size_alloc]; omega) ?_; intro v' w' hv' hb'))
        obtain ⟨p2, c2, rfl, _, _, _, _⟩ := hv'.bytes (Nat.le_refl _)
        go_roundw
        case rel => exact ⟨k + 1, by omega, by omega, hv', (HW.out.alloc hws _).trans (hb'.mono (Nat.le_refl _))⟩
        case measure => simp only []; omega
  · have e1 : n ≤ 64 := by omega
    have e2 : ¬ (64 : Int) < n := by omega
    have HF0 := Lib.hid (pieK_in (g := g) e1)
    have HFZ := Lib.hid (pieK_zero (g := g) e1)
    generalize pieK n g = F at *
    clear hp RO
    go_enter Tryd.func14, Tryd.ntmps14
    go_wp2_with (first
      | (refine wpList_buildFlat rfl 22 5 0 _ rfl .u8 [] bytesUnder byteInfo (by rw [byteZero1]; rfl) rfl (by omega) (by omega) rfl ?_)
      | (refine wpList_append_own_bytes rfl (.tmp 5) (.tmp 6) rfl w.heap.size (w.heap.size + 1) 0 _ F g p n cap rfl rfl (OwnS.empty w F w.heap.size (Nat.le_refl _)) HP.out HF0.out (by omega) (by simp) ?_; intro v1 w1 hv1 hb1
         rw [Nat.zero_add] at hv1
         obtain ⟨q1, c1, rfl, _, _, _, _⟩ := hv1.bytes (Nat.le_refl _)
         have HV0 := Lib.hid hv1
         have HL0 := Lib.hid (A0.out.trans hb1)
         clear hv1 hb1 A0 HP))
    go_loopw [3] (fun v3 wr => ∃ k : Nat, n ≤ k ∧ k ≤ 64 ∧ OwnS 5 1 wr w.heap.size wr.heap.size v3 k F ∧ Below w.heap.size w wr) (fun v3 _ => 64 - (match v3 with | .slice _ k _ => k | _ => 0))
    case atStart => exact ⟨n, by omega, by omega, HV0.out, HL0.out⟩
    case round =>
      clear HV0 HL0
      obtain ⟨k, k1, k2, hv, hw⟩ := hrel
      obtain ⟨p', c', rfl, kc, cm, hbytes, hpb⟩ := hv.bytes (Nat.le_refl _)
      have HV := Lib.hid hv
      have HW := Lib.hid hw
      have HBY := Lib.hid hbytes
      have hws := hw.size
      clear hv hw hbytes hpb
      by_cases hlt : k = 64
      · have t0 : decide ((k : Int) < 64) = false := by simp; omega
        have HLT := Lib.hid hlt
        clear hlt
        go_wp2
        go_ret
        exact ⟨p', c', by rw [HLT.out]; rfl, by have := HLT.out; omega, by rw [← HLT.out]; exact HBY.out, HW.out⟩
      · have t0 : decide ((k : Int) < 64) = true := by simp; omega
        have HF1 : Hid (∀ j, j < 1 → (0 : Nat) = F (k + j)) := Lib.hid (fun j hj => (HFZ.out (k + j) (by omega) (by omega)).symm)
        have HA : Hid (OwnS 5 1 (wr.alloc (.cells (cellsOf .u8 [((0 : Nat) : Int)]) 5)) w.heap.size wr.heap.size (.slice p' k c') k F) := Lib.hid (HV.out.alloc (Nat.le_refl _) _)
        go_wp2_with (first
          | (refine wpList_buildFlat rfl 22 5 1 _ rfl .u8 [((0 : Nat) : Int)] bytesUnder byteInfo (by rw [byteZero1]; rfl) rfl (by omega) (by omega) rfl ?_)
          | (refine wpList_append_own_bytes rfl _ _ rfl w.heap.size wr.heap.size k _ F (fun _ => 0) (some ⟨wr.heap.size, 0, none⟩) 1 1 rfl rfl HA.out (bytesAt_one wr 0) HF1.out (by omega) (by rw [World.size_alloc]; omega) ?_; intro v' w' hv' hb'))
        obtain ⟨p2, c2, rfl, _, _, _, _⟩ := hv'.bytes (Nat.le_refl _)
        go_roundw
        case rel => exact ⟨k + 1, by omega, by omega, hv', (HW.out.alloc hws _).trans (hb'.mono (Nat.le_refl _))⟩
        case measure => simp only []; omega
end Go.Proofs.YtfjbehobpkmjbaaDoor
