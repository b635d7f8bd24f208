/- The contracts of citadelref10's Good and cell. Condition: bytes are bytes. -/
import Derived.Test.YtdeojhcfbiekmaaDoorRdMake
namespace Go.Proofs.YtdeojhcfbiekmaaDoor
open Go.ChangeShapes Go.WideShapes Go.ChangeAt Go.RowKit
set_option linter.unusedVariables false
/-- The first k bytes of a row, then noughts. -/
def secTo (n : Nat) (g : Nat → Nat) (k : Nat) : Nat → Nat := fun j => if j < k ∧ j < n then g j else 0
theorem secTo_zero (n : Nat) (g : Nat → Nat) : mk 128 (secTo n g 0) = mk 128 zeroK := mk_ext fun j _ => by unfold secTo; rw [if_neg (by omega)]; rfl
theorem secTo_next (n : Nat) (g : Nat → Nat) {k : Nat} (h : k < n) : (mk 128 (secTo n g k)).set k (g k : Nat) = mk 128 (secTo n g (k + 1)) := by
  apply List.ext_getElem
  · rw [List.length_set, mk_len, mk_len]
  · intro i h1 h2
    rw [List.getElem_set]
    by_cases e : k = i
    · subst e; rw [if_pos rfl]; simp [mk, secTo, h]
    · rw [if_neg e]
      have e2 : i < k + 1 ↔ i < k := by omega
      simp only [mk, List.getElem_map, List.getElem_range, secTo, e2]
theorem secTo_end (n : Nat) (g : Nat → Nat) {k : Nat} (h : n ≤ k ∨ 128 ≤ k) : mk 128 (secTo n g k) = mk 128 (secTo n g 128) := mk_ext fun j hj => by
  unfold secTo
  have e : (j < k ∧ j < n) ↔ (j < 128 ∧ j < n) := by omega
  simp only [e]
attribute [local irreducible] secTo
set_option maxRecDepth 100000 in
set_option maxHeartbeats 4000000 in
theorem refcell_any (p : Option Addr) (n cap : Nat) (g : Nat → Nat) (hn : n ≤ 100000) (w : World) (hp : BytesAt w p n g) :
    Calls Tryd.prog 31 #[.slice p n cap] w fun e w' => e = .returned (.agg (cellsOf .u8 (mk 128 (secTo n g 128)))) ∧ Below w.heap.size w w' := by
  have HP := Lib.hid hp
  have HN := Lib.hid hn
  have HX := Lib.hid (fun k (h : k < n) => secTo_next n g h)
  have HE := Lib.hid (fun k (h : n ≤ k ∨ 128 ≤ k) => secTo_end n g h)
  have R0 := Lib.hid (IntBlk.new w .u8 31 (mk 128 zeroK))
  have C0 := Lib.hid (IntBlk.new (w.alloc (.cells (cellsOf .u8 (mk 128 zeroK)) 31)) .u8 31 (mk 128 zeroK))
  have B0 := Lib.hid ((Below.refl _ w).alloc (Nat.le_refl _) (.cells (cellsOf .u8 (mk 128 zeroK)) 31))
  have S0 := Lib.hid (World.size_alloc w (.cells (cellsOf .u8 (mk 128 zeroK)) 31))
  clear hp hn
  go_enter Tryd.func31, Tryd.ntmps31
  go_wp2_with (first
    | (refine wpList_sec_alloc rfl rfl w.heap.size rfl ?_
       generalize hw1 : w.alloc (.cells (cellsOf .u8 (mk 128 zeroK)) 31) = w1 at *
       have HW1 := Lib.hid hw1
       clear hw1)
    | (refine wpList_sec_alloc rfl rfl w1.heap.size rfl ?_
       have B1 := Lib.hid (B0.out.trans (((Below.refl _ w1).alloc (Nat.le_refl _) (.cells (cellsOf .u8 (mk 128 zeroK)) 31)).mono B0.out.size))
       have R1 := Lib.hid (R0.out.alloc (.cells (cellsOf .u8 (mk 128 zeroK)) 31))
       have L1 := Lib.hid (show w.heap.size < w1.heap.size from R0.out.lt)
       generalize w1.alloc (.cells (cellsOf .u8 (mk 128 zeroK)) 31) = w2 at *))
  rw [← secTo_zero n g] at C0
  have L2 := Lib.hid (show w.heap.size ≤ w1.heap.size from B0.out.size)
  generalize w1.heap.size = S at *
  go_loopw [4] (fun v4 wr => ∃ k : Nat, k ≤ n ∧ k ≤ 128 ∧ v4 = .int .i64 k ∧ IntBlk wr S .u8 31 (mk 128 (secTo n g k)) ∧ IntBlk wr w.heap.size .u8 31 (mk 128 zeroK) ∧ Below w.heap.size w wr) (fun v4 _ => n - (intOf v4).toNat)
  case atStart => exact ⟨0, Nat.zero_le _, Nat.zero_le _, rfl, C0.out, R1.out, B1.out⟩
  case round =>
    obtain ⟨k, hk, hk8, rfl, hc, hr, hb⟩ := hrel
    have HC := Lib.hid hc
    have HR := Lib.hid hr
    have HB := Lib.hid hb
    clear hr hb C0 R1 B1 B0 R0 S0
    by_cases hlt : k < n
    · have f1 : (k : Int) < (n : Int) := by omega
      by_cases h8 : k < 128
      · have f2 : decide ((k : Int) < 128) = true := decide_eq_true (by omega)
        have f3 : decide (k < 128) = true := decide_eq_true h8
        have f4 : (0 : Int) ≤ k := by omega
        have f5 : (k : Int) < 128 := by omega
        have f6 : IntKind.i64.wrap ((k : Int) + 1) = ((k + 1 : Nat) : Int) := by have := HN.out; rw [IntWalk.i64_in _ (by omega)]; omega
        rcases HP.out.below HB.out with he | ⟨B, o, rfl, hB, hcell⟩
        · omega
        have c1 := hcell k hlt
        have c2 := hc.cell (i := k) (by rw [mk_len]; exact h8)
        have g2 := hc.free k
        have HLT := Lib.hid hlt
        have H8 := Lib.hid h8
        have HXK := Lib.hid (HX.out k hlt)
        clear hc hB hcell hlt h8
        generalize g k = x at *
        go_wp2
        go_roundw
        case rel => exact ⟨k + 1, HLT.out, H8.out, by go_num, by rw [← HXK.out]; exact HC.out.set k _, HR.out.other (a := ⟨S, k, none⟩) (by have := L1.out; show S ≠ w.heap.size; omega) _, HB.out.setCell (p := ⟨S, k, none⟩) L2.out _⟩
        case measure => have := HLT.out; simp [intOf]; omega
      · have f2 : decide ((k : Int) < 128) = false := decide_eq_false (by omega)
        have f3 : decide (k < 128) = false := decide_eq_false h8
        have hee := HE.out k (by omega)
        rw [hee] at HC
        clear hc hee
        go_wp2_with (first
          | (refine wpList_sec_load rfl _ rfl S (secTo n g 128) rfl HC.out ?_)
          | (refine store_row_on rfl 31 _ _ rfl rfl w.heap.size (cellsOf .u8 (mk 128 (secTo n g 128))) rfl rfl 31 (cellsOf .u8 (mk 128 zeroK)) HR.out (secSize _) (sec_same _ _) (cellsOf_one _ _) ?_))
        exact bodyPost_ret (results_cell_row rfl _ _ w.heap.size 31 (cellsOf .u8 (mk 128 (secTo n g 128))) (0, 0) _ rfl (HR.out.setRow .u8 (mk 128 (secTo n g 128))) secUnder rfl (secSize _)) rfl ⟨rfl, below_setRow HB.out (Nat.le_refl _) _⟩
    · have f1 : ¬ (k : Int) < (n : Int) := by omega
      have hee := HE.out k (by omega)
      rw [hee] at HC
      clear hc hee
      go_wp2_with (first
        | (refine wpList_sec_load rfl _ rfl S (secTo n g 128) rfl HC.out ?_)
        | (refine store_row_on rfl 31 _ _ rfl rfl w.heap.size (cellsOf .u8 (mk 128 (secTo n g 128))) rfl rfl 31 (cellsOf .u8 (mk 128 zeroK)) HR.out (secSize _) (sec_same _ _) (cellsOf_one _ _) ?_))
      exact bodyPost_ret (results_cell_row rfl _ _ w.heap.size 31 (cellsOf .u8 (mk 128 (secTo n g 128))) (0, 0) _ rfl (HR.out.setRow .u8 (mk 128 (secTo n g 128))) secUnder rfl (secSize _)) rfl ⟨rfl, below_setRow HB.out (Nat.le_refl _) _⟩
end Go.Proofs.YtdeojhcfbiekmaaDoor
