/- The contract of citadelnum.Cell: a sector of bytes, one behind the other, again and again. Condition: the bytes lie in memory. -/
import Derived.Test.YtbdldnhpgpjnoaaDoorPlBase
namespace Go.Proofs.YtbdldnhpgpjnoaaDoor
open Go.ChangeShapes Go.WideShapes Go.ChangeAt Go.RowKit
set_option linter.unusedVariables false
def cellF (n : Nat) (g : Nat → Nat) : Nat → Nat := fun j => if n = 0 then 0 else g (j % n)
def cellTo (n : Nat) (g : Nat → Nat) (k : Nat) : Nat → Nat := fun j => if j < k then cellF n g j else 0
theorem cellTo_zero (n : Nat) (g : Nat → Nat) : mk 128 (cellTo n g 0) = mk 128 zeroK := mk_ext fun j _ => if_neg (Nat.not_lt_zero j)
theorem cellTo_end (n : Nat) (g : Nat → Nat) : mk 128 (cellTo n g 128) = mk 128 (cellF n g) := mk_ext fun j hj => if_pos hj
theorem cellTo_step (n : Nat) (g : Nat → Nat) {k : Nat} (hn : n ≠ 0) {x : Int} (hx : x = (g (k % n) : Nat)) : (mk 128 (cellTo n g k)).set k x = mk 128 (cellTo n g (k + 1)) :=
  mk_set_is hx fun j hj => by
    unfold cellTo
    by_cases e : j = k
    · subst e
      rw [if_pos rfl, if_pos (Nat.lt_succ_self j)]
      unfold cellF
      rw [if_neg hn]
    · rw [if_neg e]
      by_cases h : j < k
      · rw [if_pos h, if_pos (Nat.lt_succ_of_lt h)]
      · rw [if_neg h, if_neg (fun h2 => by omega)]
theorem cellF_none (g : Nat → Nat) : cellF 0 g = zeroK := funext fun _ => if_pos rfl
attribute [local irreducible] mk cellF cellTo
set_option maxRecDepth 100000 in
set_option maxHeartbeats 1000000 in
theorem Cell_any (p : Option Addr) (n cap : Nat) (g : Nat → Nat) (w : World) (hp : BytesAt w p n g) :
    Calls Tryd.prog 11 #[.slice p n cap] w fun e w' => e = .returned (.agg (cellsOf .u8 (mk 128 (cellF n g)))) ∧ Below w.heap.size w w' := by
  have Z0 := Lib.hid (blk_two w .u8 24 (mk 128 zeroK) (.cells (cellsOf .u8 (mk 128 zeroK)) 24))
  have Y0 := Lib.hid ((IntBlk.new w .u8 24 (mk 128 zeroK)).alloc (.cells (cellsOf .u8 (mk 128 zeroK)) 24))
  have B0 := Lib.hid (below_two w (.cells (cellsOf .u8 (mk 128 zeroK)) 24) (.cells (cellsOf .u8 (mk 128 zeroK)) 24))
  have NE := Lib.hid (show w.heap.size ≠ w.heap.size + 1 by omega)
  have LE := Lib.hid (show w.heap.size ≤ w.heap.size + 1 by omega)
  have Y1 := Lib.hid (Y0.out.otherRow NE.out (cellsOf .u8 (mk 128 zeroK)))
  have Z1 := Lib.hid (Z0.out.setRow .u8 (mk 128 zeroK))
  have B1 := Lib.hid (below_setRow B0.out LE.out (cellsOf .u8 (mk 128 zeroK)))
  have HP := Lib.hid hp
  clear hp Y0 B0
  go_enter Tryd.func11, Tryd.ntmps11
  go_wp2_with (first
    | (refine wpList_sec_alloc rfl rfl w.heap.size rfl ?_)
    | (refine wpList_sec_alloc rfl rfl (w.heap.size + 1) ?own ?_
       case own => exact World.size_alloc _ _)
    | (refine wpList_sec_build0 rfl rfl ?_)
    | (refine store_row_on rfl 24 _ _ rfl rfl (w.heap.size + 1) (cellsOf .u8 (mk 128 zeroK)) rfl rfl 24 (cellsOf .u8 (mk 128 zeroK)) Z0.out (secSize _) (sec_same _ _) (cellsOf_one _ _) ?_))
  generalize ((w.alloc (.cells (cellsOf .u8 (mk 128 zeroK)) 24)).alloc (.cells (cellsOf .u8 (mk 128 zeroK)) 24)).setRow (w.heap.size + 1) (cellsOf .u8 (mk 128 zeroK)) = W1 at *
  clear Z0
  obtain ⟨S, hS⟩ : ∃ S, w.heap.size + 1 = S := ⟨_, rfl⟩
  rw [hS] at Z1 NE LE ⊢
  clear hS
  go_loopw [6] (fun v wr => ∃ k : Nat, k ≤ 128 ∧ v = .int .i64 k ∧ IntBlk wr S .u8 24 (mk 128 (cellTo n g k)) ∧ IntBlk wr w.heap.size .u8 24 (mk 128 zeroK) ∧ Below w.heap.size w wr) (fun v _ => 128 - (intOf v).toNat)
  case atStart => exact ⟨0, Nat.zero_le _, rfl, by rw [cellTo_zero]; exact Z1.out, Y1.out, B1.out⟩
  case round =>
    obtain ⟨k, hk, rfl, hz, hy, hb⟩ := hrel
    have HZ := Lib.hid hz
    have HY := Lib.hid hy
    have HB := Lib.hid hb
    clear hz hy hb Z1 Y1 B1
    by_cases hlt : k < 128
    · have e1 : decide ((k : Int) < 128) = true := by simp; omega
      have e1b : decide (k < 128) = true := by simp; omega
      have e2 : (0 : Int) ≤ k := by omega
      have e2c : (k : Int) < 128 := by omega
      have e3 : IntKind.i64.wrap ((k : Int) + 1) = ((k + 1 : Nat) : Int) := by rw [IntWalk.i64_in _ (by omega)]; omega
      have HLT := Lib.hid hlt
      by_cases hn0 : n = 0
      · subst hn0
        have ST : mk 128 (cellTo 0 g k) = mk 128 (cellTo 0 g (k + 1)) := mk_ext fun j _ => by
          unfold cellTo cellF; simp
        have HST := Lib.hid ST
        clear ST hlt
        go_wp2
        go_roundw
        case rel => exact ⟨k + 1, HLT.out, by go_num, by rw [← HST.out]; exact HZ.out, HY.out, HB.out⟩
        case measure => have := HLT.out; simp [intOf]; omega
      · rcases HP.out with he | ⟨B, o, rfl, hB, hc⟩
        · exact absurd he hn0
        have hmn : k % n < n := Nat.mod_lt _ (by omega)
        have cl := (HB.out.cell (p := ⟨B, o + k % n, none⟩) hB).trans (hc (k % n) hmn)
        have dn : decide ((0 : Int) < (n : Int)) = true := by simp; omega
        have dn2 : decide (0 < n) = true := by simp; omega
        have em : (k : Int).tmod (n : Int) = ((k % n : Nat) : Int) := by rw [Int.tmod_eq_emod_of_nonneg (by omega)]; rfl
        have ez : ((n : Int) == 0) = false := by simp; omega
        have ez2 : ¬ ((n : Int) = 0) := by omega
        have HST := Lib.hid (fun (x : Int) (hx : x = (g (k % n) : Nat)) => cellTo_step n g (k := k) hn0 hx)
        have b1 : ((k % n : Nat) : Int) < (n : Int) := by omega
        have b2 : (0 : Int) ≤ ((k % n : Nat) : Int) := by omega
        have ck := HZ.out.cell (i := k) (by rw [mk_len]; omega)
        have fk := HZ.out.free k
        have HS2 := Lib.hid (fun (x : Int) => HZ.out.set k x)
        have NS := Lib.hid NE.out.symm
        clear hc hB hn0 hlt hmn
        generalize hr : k % n = r at *
        generalize g r = gr at *
        clear hr
        go_wp2
        go_roundw
        case rel => exact ⟨k + 1, HLT.out, by go_num, by rw [← HST.out _ rfl]; exact HS2.out _, HY.out.other NS.out _, HB.out.setCell (p := ⟨S, k, none⟩) LE.out _⟩
        case measure => have := HLT.out; simp [intOf]; omega
    · have e1 : decide ((k : Int) < 128) = false := by simp; omega
      have e1b : decide (k < 128) = false := by simp; omega
      obtain rfl : k = 128 := by omega
      rw [cellTo_end] at HZ
      clear hlt
      go_wp2_with (first
        | (refine wpList_sec_load rfl _ rfl S (cellF n g) rfl HZ.out ?_)
        | (refine store_row_on rfl 24 _ _ rfl rfl w.heap.size (cellsOf .u8 (mk 128 (cellF n g))) rfl rfl 24 (cellsOf .u8 (mk 128 zeroK)) HY.out (secSize _) (sec_same _ _) (cellsOf_one _ _) ?_))
      exact bodyPost_ret (results_cell_row rfl _ _ w.heap.size 24 (cellsOf .u8 (mk 128 (cellF n g))) (0, 0) _ rfl (HY.out.setRow .u8 (mk 128 (cellF n g))) secUnder rfl (secSize _)) rfl ⟨rfl, below_setRow HB.out (Nat.le_refl _) _⟩
end Go.Proofs.YtbdldnhpgpjnoaaDoor
