/- The contract of package platter's Read. Conditions: the disk lies in memory. -/
import Derived.Test.YtbejfpdkfpgipaaPlSettle
namespace Go.Proofs.Ytbejfpdkfpgipaa
open Go.ChangeShapes Go.WideShapes Go.ChangeAt Go.RowKit
set_option linter.unusedVariables false
/-- What a sector reads. -/
def Disk.now (d : Disk) (i : Nat) : List Int := (d.opn i).getD (d.sure i)
section
variable {ops : Array Oper} {rest : List Oper} {o : Oper} {a : Act} {w : World} {Q : Exit → Act → World → Prop}
/-- 'c, ok := p.open[at]'. -/
theorem wpList_look_open (hgd : o.guard = none) (m x : Operand) (ho : o.op = Op.lookup 86 m x true) (mb made : Nat) (opn : Int → Option (List Int)) (hm : a.eval m = .map (some mb)) (z : Int) (hx : a.eval x = .int .i64 z) (hz : -9223372036854775808 ≤ z ∧ z ≤ 9223372036854775807) (hO : OpenAt w mb made opn)
    (h : wpList Try.prog ops Q rest (a.put o.dst (.tuple #[.agg (cellsOf .u8 ((opn z).getD (mk 128 zeroK))), .bool (opn z).isSome])) w) : wpList Try.prog ops Q (o :: rest) a w := by
  obtain ⟨n, D, hn, hown, hr⟩ := hO
  refine wpList_lookup_own_ok w hgd m x 86 ho 3 40 intKey Try.underlying86 cellR (secZero_run w) _ _ (cellR_mk zeroK) mb n D hm hown _ (.int .i64 z) hx (key_i64 z hz.1 hz.2) fun v ps hv => ?_
  obtain ⟨g, rfl, hy⟩ := cellR_inv hv
  have e1 : D.atKey (.int .i64 z) (.held (.agg (cellsOf .u8 (mk 128 zeroK)))) = .held (.agg (cellsOf .u8 (mk 128 g))) := by injection hy
  rw [hr.has]
  cases hq : opn z with
  | none =>
    rw [hq] at h
    have hf := hr.has z
    rw [hq] at hf
    rw [Go.Maps.atKey_of_not_has hf] at e1
    have e2 : cellsOf .u8 (mk 128 zeroK) = cellsOf .u8 (mk 128 g) := by injection e1 with e; injection e
    rw [← e2]; exact h
  | some l =>
    rw [hq] at h
    have e3 := (hr.val z l hq).2 (.held (.agg (cellsOf .u8 (mk 128 zeroK))))
    rw [e1] at e3
    have e2 : cellsOf .u8 (mk 128 g) = cellsOf .u8 l := by injection e3 with e; injection e
    rw [e2]; exact h
theorem wpList_elem_sec (hgd : o.guard = none) (x y : Operand) (ho : o.op = .indexAddr 53 x y) (B n cap k : Nat) (hx : a.eval x = .slice (some ⟨B, 0, none⟩) n cap) (hy : a.eval y = .int .i64 k) (hk4 : k < n)
    (h : wpList Try.prog ops Q rest (a.put o.dst (.pointer (some ⟨B, 128 * k, none⟩))) w) : wpList Try.prog ops Q (o :: rest) a w :=
  wpList_plain hgd fun K hK => by
    have h0 : (k : Int) < n := by omega
    have hi := secInfo3
    cases hq : Try.prog.info? 40 with
    | none => simp [hq] at hi
    | some i =>
      have hs : i.size = 128 := by simpa [hq] using hi
      have hrun : (execOp a.eval o).run Try.prog w = .ok (.value (.pointer (some ⟨B, 128 * k, none⟩))) w := by
        unfold execOp
        simp only [ho, hx, hy]
        simp [go_sem, Try.underlying53, h0, sizeOf, typeInfo, hq, hs, addr_add, Nat.mul_comm]
      unfold Oper.wp
      rw [hrun]
      exact hK _ _ h
end
section
variable {w : World} {b : Blks} {d : Disk}
theorem below_laid (w : World) (n : Nat) (cs : Array Value) : True := trivial
theorem now_mk (h : DiskAt w b d) {i : Nat} (hi : i < d.ns) : ∃ g : Nat → Nat, d.now i = mk 128 g := by
  unfold Disk.now
  cases hq : d.opn i with
  | none => obtain ⟨F, _, hF⟩ := h.sect; exact ⟨_, hF i hi⟩
  | some l => obtain ⟨n, D, _, _, hr⟩ := h.opn; exact (hr.val i l hq).1
attribute [local irreducible] mk
def zeroSec : Value := .agg (cellsOf .u8 (mk 128 zeroK))
set_option maxRecDepth 100000 in
set_option maxHeartbeats 1000000 in
theorem Read_range (h : DiskAt w b d) (x : Int) (hx : hasB d.ns x = false) : Calls Try.prog 32 #[.pointer (some ⟨b.B, 0, none⟩), .int .i64 x] w fun e w' => e = .returned (.tuple #[zeroSec, errV 1]) ∧ Below w.heap.size w w' := by
  have HD := Lib.hid (h.alloc (.cells (cellsOf .u8 (mk 128 zeroK)) 40))
  have HB := Lib.hid ((Below.refl _ w).alloc (Nat.le_refl _) (.cells (cellsOf .u8 (mk 128 zeroK)) 40))
  have HH := Lib.hid (has_ok HD.out x)
  have Y0 := Lib.hid (IntBlk.new w .u8 40 (mk 128 zeroK))
  rw [hx] at HH
  unfold errV zeroSec
  clear h hx
  go_enter Try.func32, Try.ntmps32
  go_wp2_with (first
    | (go_at_call 44; refine (HH.out).mono ?_; rintro e w1 ⟨rfl, rfl⟩)
    | (refine wpList_sec_alloc rfl rfl w.heap.size rfl ?_)
    | (refine wpList_sec_build0 rfl rfl ?_)
    | (refine store_row_on rfl 40 _ _ rfl rfl w.heap.size (cellsOf .u8 (mk 128 zeroK)) rfl rfl 40 (cellsOf .u8 (mk 128 zeroK)) Y0.out (secSize _) (sec_same _ _) (cellsOf_one _ _) ?_))
  exact bodyPost_ret (results_cell_row_tmp rfl _ _ w.heap.size 40 (cellsOf .u8 (mk 128 zeroK)) (0, 0) _ rfl (Y0.out.setRow .u8 (mk 128 zeroK)) secUnder rfl (secSize _)) rfl ⟨rfl, below_setRow HB.out (Nat.le_refl _) _⟩
set_option maxRecDepth 100000 in
set_option maxHeartbeats 1000000 in
theorem Read_down (h : DiskAt w b d) (x : Int) (hx : hasB d.ns x = true) (hd : d.down = true) : Calls Try.prog 32 #[.pointer (some ⟨b.B, 0, none⟩), .int .i64 x] w fun e w' => e = .returned (.tuple #[zeroSec, errV 5]) ∧ Below w.heap.size w w' := by
  have HD := Lib.hid (h.alloc (.cells (cellsOf .u8 (mk 128 zeroK)) 40))
  have HB := Lib.hid ((Below.refl _ w).alloc (Nat.le_refl _) (.cells (cellsOf .u8 (mk 128 zeroK)) 40))
  have HH := Lib.hid (has_ok HD.out x)
  have Y0 := Lib.hid (IntBlk.new w .u8 40 (mk 128 zeroK))
  have c3 := HD.out.c3
  rw [hd] at c3
  rw [hx] at HH
  unfold errV zeroSec
  clear h hx
  go_enter Try.func32, Try.ntmps32
  go_wp2_with (first
    | (go_at_call 44; refine (HH.out).mono ?_; rintro e w1 ⟨rfl, rfl⟩)
    | (refine wpList_sec_alloc rfl rfl w.heap.size rfl ?_)
    | (refine wpList_sec_build0 rfl rfl ?_)
    | (refine store_row_on rfl 40 _ _ rfl rfl w.heap.size (cellsOf .u8 (mk 128 zeroK)) rfl rfl 40 (cellsOf .u8 (mk 128 zeroK)) Y0.out (secSize _) (sec_same _ _) (cellsOf_one _ _) ?_))
  exact bodyPost_ret (results_cell_row_tmp rfl _ _ w.heap.size 40 (cellsOf .u8 (mk 128 zeroK)) (0, 0) _ rfl (Y0.out.setRow .u8 (mk 128 zeroK)) secUnder rfl (secSize _)) rfl ⟨rfl, below_setRow HB.out (Nat.le_refl _) _⟩
set_option maxRecDepth 100000 in
set_option maxHeartbeats 1000000 in
theorem Read_nil (w : World) (x : Int) : Calls Try.prog 32 #[.pointer none, .int .i64 x] w fun e w' => e = .returned (.tuple #[zeroSec, errV 1]) ∧ Below w.heap.size w w' := by
  have HB := Lib.hid ((Below.refl _ w).alloc (Nat.le_refl _) (.cells (cellsOf .u8 (mk 128 zeroK)) 40))
  have HH := Lib.hid (fun W => has_nil x W)
  have Y0 := Lib.hid (IntBlk.new w .u8 40 (mk 128 zeroK))
  unfold errV zeroSec
  go_enter Try.func32, Try.ntmps32
  go_wp2_with (first
    | (go_at_call 44; refine (HH.out _).mono ?_; rintro e w1 ⟨rfl, rfl⟩)
    | (refine wpList_sec_alloc rfl rfl w.heap.size rfl ?_)
    | (refine wpList_sec_build0 rfl rfl ?_)
    | (refine store_row_on rfl 40 _ _ rfl rfl w.heap.size (cellsOf .u8 (mk 128 zeroK)) rfl rfl 40 (cellsOf .u8 (mk 128 zeroK)) Y0.out (secSize _) (sec_same _ _) (cellsOf_one _ _) ?_))
  exact bodyPost_ret (results_cell_row_tmp rfl _ _ w.heap.size 40 (cellsOf .u8 (mk 128 zeroK)) (0, 0) _ rfl (Y0.out.setRow .u8 (mk 128 zeroK)) secUnder rfl (secSize _)) rfl ⟨rfl, below_setRow HB.out (Nat.le_refl _) _⟩

set_option maxRecDepth 100000 in
set_option maxHeartbeats 2000000 in
theorem Read_ok (h : DiskAt w b d) (i : Nat) (hi : i < d.ns) (hd : d.down = false) : Calls Try.prog 32 #[.pointer (some ⟨b.B, 0, none⟩), .int .i64 i] w fun e w' => e = .returned (.tuple #[.agg (cellsOf .u8 (d.now i)), .nilIface]) ∧ Below w.heap.size w w' := by
  have hns := h.ns2
  have Hh := Lib.hid h
  have HD := Lib.hid (h.alloc (.cells (cellsOf .u8 (mk 128 zeroK)) 40))
  have HB := Lib.hid ((Below.refl _ w).alloc (Nat.le_refl _) (.cells (cellsOf .u8 (mk 128 zeroK)) 40))
  have HH := Lib.hid (has_ok HD.out i)
  rw [show hasB d.ns (i : Int) = true by unfold hasB; simp; exact hi] at HH
  have HI := Lib.hid hi
  have HZ := Lib.hid (show -9223372036854775808 ≤ (i : Int) ∧ (i : Int) ≤ 9223372036854775807 by omega)
  have c3 := HD.out.c3
  rw [hd] at c3
  have c5 := HD.out.c5
  have HO := Lib.hid HD.out.opn
  have Z0 := Lib.hid (blk_two w .u8 40 (mk 128 zeroK) (.cells (cellsOf .u8 (mk 128 zeroK)) 40))
  have Y0 := Lib.hid ((IntBlk.new w .u8 40 (mk 128 zeroK)).alloc (.cells (cellsOf .u8 (mk 128 zeroK)) 40))
  have B0 := Lib.hid (below_two w (.cells (cellsOf .u8 (mk 128 zeroK)) 40) (.cells (cellsOf .u8 (mk 128 zeroK)) 40))
  have NE := Lib.hid (show w.heap.size ≠ w.heap.size + 1 by omega)
  have LE := Lib.hid (show w.heap.size ≤ w.heap.size + 1 by omega)
  cases hq : d.opn i with
  | some l =>
    obtain ⟨f, rfl⟩ : ∃ f : Nat → Nat, l = mk 128 f := by
      obtain ⟨n, D, _, _, hr⟩ := h.opn
      exact (hr.val i l hq).1
    have hnow : d.now i = mk 128 f := by unfold Disk.now; rw [hq]; rfl
    rw [hnow]
    have HQ := Lib.hid hq
    clear h hi hd hnow hq hns
    go_enter Try.func32, Try.ntmps32
    go_wp2_with (first
      | (go_at_call 44; refine (HH.out).mono ?_; rintro e w1 ⟨rfl, rfl⟩)
      | (refine wpList_sec_alloc rfl rfl w.heap.size rfl ?_)
      | (refine wpList_sec_alloc rfl rfl (w.heap.size + 1) ?own ?_
         case own => exact World.size_alloc _ _)
      | (refine wpList_look_open rfl _ _ rfl b.mb d.made d.opn rfl i rfl HZ.out HO.out ?_
         rw [HQ.out]
         simp only [Option.getD_some, Option.isSome_some])
      | (refine store_row_on rfl 40 _ _ rfl rfl (w.heap.size + 1) (cellsOf .u8 (mk 128 f)) rfl rfl 40 (cellsOf .u8 (mk 128 zeroK)) Z0.out (secSize _) (sec_same _ _) (cellsOf_one _ _) ?_
         have Z1 := Lib.hid (Z0.out.setRow .u8 (mk 128 f))
         have Y1 := Lib.hid (Y0.out.otherRow NE.out (cellsOf .u8 (mk 128 f)))
         have B1 := Lib.hid (below_setRow B0.out LE.out (cellsOf .u8 (mk 128 f)))
         clear Z0 Y0 B0)
      | (refine wpList_sec_load rfl _ rfl (w.heap.size + 1) f rfl Z1.out ?_)
      | (refine store_row_on rfl 40 _ _ rfl rfl w.heap.size (cellsOf .u8 (mk 128 f)) rfl rfl 40 (cellsOf .u8 (mk 128 zeroK)) Y1.out (secSize _) (sec_same _ _) (cellsOf_one _ _) ?_))
    exact bodyPost_ret (results_cell_row_tmp rfl _ _ w.heap.size 40 (cellsOf .u8 (mk 128 f)) (0, 0) _ rfl (Y1.out.setRow .u8 (mk 128 f)) secUnder rfl (secSize _)) rfl ⟨rfl, below_setRow B1.out (Nat.le_refl _) _⟩
  | none =>
    obtain ⟨F, hF, hFs⟩ := h.sect
    have hnow : d.now i = mk 128 (fun j => F (128 * i + j)) := by unfold Disk.now; rw [hq]; exact hFs i hi
    rw [hnow]
    obtain ⟨f, hf⟩ : ∃ f : Nat → Nat, f = fun j => F (128 * i + j) := ⟨_, rfl⟩
    rw [← hf]
    have HQ := Lib.hid hq
    have HF := Lib.hid hF
    have HE := Lib.hid hf
    have HK := Lib.hid (show 128 * i + 128 ≤ 128 * d.ns by omega)
    clear h hi hd hnow hq hns hF hFs hf
    go_enter Try.func32, Try.ntmps32
    go_wp2_with (first
      | (go_at_call 44; refine (HH.out).mono ?_; rintro e w1 ⟨rfl, rfl⟩)
      | (refine wpList_sec_alloc rfl rfl w.heap.size rfl ?_)
      | (refine wpList_sec_alloc rfl rfl (w.heap.size + 1) ?own ?_
         case own => exact World.size_alloc _ _)
      | (refine wpList_look_open rfl _ _ rfl b.mb d.made d.opn rfl i rfl HZ.out HO.out ?_
         rw [HQ.out]
         simp only [Option.getD_none, Option.isSome_none])
      | (refine store_row_on rfl 40 _ _ rfl rfl (w.heap.size + 1) (cellsOf .u8 (mk 128 zeroK)) rfl rfl 40 (cellsOf .u8 (mk 128 zeroK)) Z0.out (secSize _) (sec_same _ _) (cellsOf_one _ _) ?_
         have Y1 := Lib.hid (Y0.out.otherRow NE.out (cellsOf .u8 (mk 128 zeroK)))
         have B1 := Lib.hid (below_setRow B0.out LE.out (cellsOf .u8 (mk 128 zeroK)))
         clear Z0 Y0 B0
         have HX := Lib.hid (Hh.out.below B1.out)
         have c4 := HX.out.c4
         have F1 := Lib.hid ((HF.out).below B1.out HF.out.lt))
      | (refine wpList_elem_sec rfl _ _ rfl b.sb d.ns d.ns i rfl rfl HI.out ?_)
      | (refine wpList_load_part rfl 40 _ rfl b.sb (128 * i) 128 f rfl _ ?cc secUnder rfl secInfo3 ?_
         case cc => rw [HE.out]; exact F1.out.cells HK.out)
      | (refine store_row_on rfl 40 _ _ rfl rfl w.heap.size (cellsOf .u8 (mk 128 f)) rfl rfl 40 (cellsOf .u8 (mk 128 zeroK)) Y1.out (secSize _) (sec_same _ _) (cellsOf_one _ _) ?_))
    exact bodyPost_ret (results_cell_row_tmp rfl _ _ w.heap.size 40 (cellsOf .u8 (mk 128 f)) (0, 0) _ rfl (Y1.out.setRow .u8 (mk 128 f)) secUnder rfl (secSize _)) rfl ⟨rfl, below_setRow B1.out (Nat.le_refl _) _⟩
end
end Go.Proofs.Ytbejfpdkfpgipaa
