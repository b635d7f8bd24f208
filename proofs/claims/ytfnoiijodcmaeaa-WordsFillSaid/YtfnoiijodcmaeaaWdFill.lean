/- Sectors by value: made, built, loaded, laid, compared; the contract of package words' Fill. Conditions: as each says. -/
import Derived.Test.YtfnoiijodcmaeaaWdApp
namespace Go.Proofs.Ytfnoiijodcmaeaa
open Go.ChangeShapes Go.WideShapes Go.ChangeAt Go.RowKit
set_option linter.unusedVariables false

def secV (f : Nat → Nat) : Value := .agg (cellsOf .u8 (mk 128 f))
theorem secUnder : Try.prog.underlying 55 = some (.array 128 5) := Try.underlying55
theorem secSize (f : Nat → Nat) : (Try.prog.info? 55).map (·.size) = some (cellsOf .u8 (mk 128 f)).size := by
  rw [cellsOf_size, mk_len]; kernel_rfl
theorem sec_eq (f g : Nat → Nat) (w : World) : (Op.equalIn 10000 55 (.agg (cellsOf .u8 (mk 128 f))) (.agg (cellsOf .u8 (mk 128 g)))).run Try.prog w = .ok (mk 128 f == mk 128 g) w :=
  run_equalIn_ints w 9998 (mk 128 f) (mk 128 g) (by rw [mk_len]; exact secUnder) byteElem (by rw [mk_len, mk_len])
theorem secZero_run (W : World) : (zeroValue 55).run Try.prog W = .ok (.agg (cellsOf .u8 (mk 128 zeroK))) W := by
  have h : (Try.prog.info? 55).bind (·.zero) = some (.agg (cellsOf .u8 (mk 128 zeroK))) := by kernel_rfl
  cases hq : Try.prog.info? 55 with
  | none => rw [hq] at h; simp at h
  | some i =>
    rw [hq] at h
    simp only [Option.bind_some] at h
    simp [zeroValue, typeInfo, hq, h]
theorem sec_same (f g : Nat → Nat) : (cellsOf .u8 (mk 128 f)).size = (cellsOf .u8 (mk 128 g)).size := by simp only [cellsOf_size, mk_len]
def fiveK : Nat → Nat := fun j => if j = 0 then 5 else 0
theorem sec_built0 : Try.prog.built 55 [] = some (cellsOf .u8 (mk 128 zeroK)) := by kernel_rfl
theorem sec_built5 : Try.prog.built 55 [(0, .int .u8 5)] = some (cellsOf .u8 (mk 128 fiveK)) := by kernel_rfl
section
variable {ops : Array Oper} {rest : List Oper} {o : Oper} {a : Act} {w : World} {Q : Exit → Act → World → Prop}
theorem wpList_sec_alloc (hw : Region.wanted o (yielded ops a.tmps) = true) (ho : o.op = .alloc 55) (S : Nat) (hS : w.heap.size = S)
    (h : wpList Try.prog ops Q rest (a.put o.dst (.pointer (some ⟨S, 0, none⟩))) (w.alloc (.cells (cellsOf .u8 (mk 128 zeroK)) 55))) : wpList Try.prog ops Q (o :: rest) a w :=
  wanted_step hw fun K hK => by
    subst hS
    have e := secZero_run w
    unfold Oper.wp execOp
    simp only [ho]
    simp [go_sem, e]
    exact hK _ _ h
theorem wpList_sec_row (hw : Region.wanted o (yielded ops a.tmps) = true) (x : Operand) (ho : o.op = .slice 55 x none none none) (B : Nat) (hx : a.eval x = .pointer (some ⟨B, 0, none⟩))
    (h : wpList Try.prog ops Q rest (a.put o.dst (.slice (some ⟨B, 0, none⟩) 128 128)) w) : wpList Try.prog ops Q (o :: rest) a w :=
  wanted_step hw fun K hK => by
    have hs := byteElem.run_size (P := Try.prog) w
    have hr : (Instr.sliceAt 55 (.pointer (some ⟨B, 0, none⟩)) none none none).run Try.prog w = .ok (.slice (some ⟨B, 0, none⟩) 128 128) w := by
      simp [go_sem, hs, addr_add, Program.elem]
    unfold Oper.wp execOp
    simp only [ho, hx]
    simp [hr]
    exact hK _ _ h
theorem wpList_sec_build0 (hw : Region.wanted o (yielded ops a.tmps) = true) (ho : o.op = .build 55 #[])
    (h : wpList Try.prog ops Q rest (a.put o.dst (.agg (cellsOf .u8 (mk 128 zeroK)))) w) : wpList Try.prog ops Q (o :: rest) a w :=
  wanted_step hw fun K hK => by
    have e := run_build w 55 #[] _ sec_built0
    unfold Oper.wp execOp
    simp only [ho]
    simp [e]
    exact hK _ _ h
theorem wpList_sec_build5 (hw : Region.wanted o (yielded ops a.tmps) = true) (ho : o.op = .build 55 #[(0, .const (.int .u8 5))])
    (h : wpList Try.prog ops Q rest (a.put o.dst (.agg (cellsOf .u8 (mk 128 fiveK)))) w) : wpList Try.prog ops Q (o :: rest) a w :=
  wanted_step hw fun K hK => by
    have e := run_build w 55 #[(0, .int .u8 5)] _ sec_built5
    unfold Oper.wp execOp
    simp only [ho]
    simp [Act.eval, e]
    exact hK _ _ h
theorem wpList_sec_load (hw : Region.wanted o (yielded ops a.tmps) = true) (x : Operand) (ho : o.op = .load 55 x) (B : Nat) (f : Nat → Nat) (hx : a.eval x = .pointer (some ⟨B, 0, none⟩)) (hB : IntBlk w B .u8 55 (mk 128 f))
    (h : wpList Try.prog ops Q rest (a.put o.dst (.agg (cellsOf .u8 (mk 128 f)))) w) : wpList Try.prog ops Q (o :: rest) a w :=
  wanted_step hw fun K hK => by
    unfold Oper.wp execOp
    simp only [ho, hx, Instr.loadAt, Instr.sureAddr, Sem.run_bind, Sem.run_pure, Result.andThen_ok, run_loadVar_row w B 55 55 _ (0, 0) _ hB secUnder rfl (secSize f)]
    exact hK _ _ h
theorem wpList_sec_neq (hw : Region.wanted o (yielded ops a.tmps) = true) (x y : Operand) (ho : o.op = .binOp .neq 55 x y 55) (f g : Nat → Nat) (hx : a.eval x = .agg (cellsOf .u8 (mk 128 f))) (hy : a.eval y = .agg (cellsOf .u8 (mk 128 g))) (he : mk 128 f = mk 128 g)
    (h : wpList Try.prog ops Q rest (a.put o.dst (.bool false)) w) : wpList Try.prog ops Q (o :: rest) a w :=
  wanted_step hw fun K hK => by
    have e := sec_eq g g w
    unfold Oper.wp execOp
    simp only [ho, hx, hy]
    simp [go_sem, he, e]
    exact hK _ _ h
theorem wpList_sec_eql (hw : Region.wanted o (yielded ops a.tmps) = true) (x y : Operand) (ho : o.op = .binOp .eql 55 x y 55) (f g : Nat → Nat) (hx : a.eval x = .agg (cellsOf .u8 (mk 128 f))) (hy : a.eval y = .agg (cellsOf .u8 (mk 128 g))) (he : mk 128 f = mk 128 g)
    (h : wpList Try.prog ops Q rest (a.put o.dst (.bool true)) w) : wpList Try.prog ops Q (o :: rest) a w :=
  wanted_step hw fun K hK => by
    have e := sec_eq g g w
    unfold Oper.wp execOp
    simp only [ho, hx, hy]
    simp [go_sem, he, e]
    exact hK _ _ h
end
theorem results_cell_row_tmp {P : Program} {fn : Func} {p u : Tmp} {ty : TypeId} (h : fn.results = #[.cell p ty, .tmp u]) (tmps : Array Value) (w : World) (g : Nat) (t : TypeId) (cs : Array Value) (fr : Nat × Nat) (d : TypeDesc)
    (hp : tmps.getD p undef = .pointer (some ⟨g, 0, none⟩)) (hg : w.heap[g]? = some (.cells cs t fr)) (hu : P.underlying ty = some d) (hd : (match d with | .struct _ | .array _ _ => true | _ => false) = true) (hi : (P.info? ty).map (·.size) = some cs.size) :
    (results fn tmps).run P w = .ok (.tuple #[.agg cs, tmps.getD u undef]) w := by
  rw [results_cell_tmp h, hp]
  simp only [asAddr, Sem.run_pure, Result.andThen_ok, run_loadVar_row w g t ty cs fr d hg hu hd hi]
attribute [local irreducible] mk extF put
set_option maxRecDepth 100000 in
set_option maxHeartbeats 1000000 in
theorem Fill_ok (p : Option Addr) (n cap : Nat) (g : Nat → Nat) (hn : n ≤ 128) (w : World) (hp : BytesAt w p n g) :
    Calls Try.prog 27 #[.slice p n cap] w fun e w' => e = .returned (.tuple #[.agg (cellsOf .u8 (mk 128 (extF n g))), .nilIface]) ∧ Below w.heap.size w w' := by
  have d1 : decide ((128 : Int) < (n : Int)) = false := by simp; omega
  have d2 : decide (128 < n) = false := by simp; omega
  have b2 := below_two w (.cells (cellsOf .u8 (mk 128 zeroK)) 55) (.cells (cellsOf .u8 (mk 128 zeroK)) 55)
  have HP := Lib.hid (hp.below b2)
  have Y0 := Lib.hid ((IntBlk.new w .u8 55 (mk 128 zeroK)).alloc (.cells (cellsOf .u8 (mk 128 zeroK)) 55))
  have Z0 := Lib.hid (blk_two w .u8 55 (mk 128 zeroK) (.cells (cellsOf .u8 (mk 128 zeroK)) 55))
  have B0 := Lib.hid b2
  have HN := Lib.hid hn
  have HE := Lib.hid (extF_put n 128 g)
  clear b2 hp hn
  go_enter Try.func27, Try.ntmps27
  go_wp2_with (first
    | (refine wpList_sec_alloc rfl rfl w.heap.size rfl ?_)
    | (refine wpList_sec_alloc rfl rfl (w.heap.size + 1) ?own ?_
       case own => exact World.size_alloc _ _)
    | (refine wpList_sec_row rfl _ rfl (w.heap.size + 1) rfl ?_)
    | (refine wpList_copy_bytes rfl _ _ rfl (w.heap.size + 1) 0 128 128 128 zeroK _ rfl p n cap (fun _ => rfl) g rfl 55 Z0.out HN.out (by omega) HP.out ?_
       intro v w2 hr2 hb2 hs2
       rw [HE.out] at hr2
       have Z2 := Lib.hid hr2
       have Y2 := Lib.hid (hb2.blk Y0.out (by omega))
       have B2 := Lib.hid (B0.out.trans (hb2.below (by omega) B0.out.size))
       clear hr2 hb2 hs2 Y0 Z0 B0 HP HE)
    | (refine wpList_sec_load rfl _ rfl (w.heap.size + 1) (extF n g) rfl Z2.out ?_)
    | (refine store_row_on rfl 55 _ _ rfl rfl w.heap.size (cellsOf .u8 (mk 128 (extF n g))) rfl rfl 55 (cellsOf .u8 (mk 128 zeroK)) Y2.out (secSize _) (sec_same _ _) (cellsOf_one _ _) ?_))
  exact bodyPost_ret (results_cell_row_tmp rfl _ _ w.heap.size 55 (cellsOf .u8 (mk 128 (extF n g))) (0, 0) _ rfl (Y2.out.setRow .u8 (mk 128 (extF n g))) secUnder rfl (secSize _)) rfl ⟨rfl, below_setRow B2.out (Nat.le_refl _) _⟩
set_option maxRecDepth 100000 in
set_option maxHeartbeats 1000000 in
theorem Fill_range (p : Option Addr) (n cap : Nat) (hn : 128 < n) (w : World) :
    Calls Try.prog 27 #[.slice p n cap] w fun e w' => e = .returned (.tuple #[.agg (cellsOf .u8 (mk 128 zeroK)), .iface 40 (.int .i64 1)]) ∧ Below w.heap.size w w' := by
  have d1 : decide ((128 : Int) < (n : Int)) = true := by simp; omega
  have d2 : decide (128 < n) = true := by simp; omega
  have b2 := below_two w (.cells (cellsOf .u8 (mk 128 zeroK)) 55) (.cells (cellsOf .u8 (mk 128 zeroK)) 55)
  have Y0 := Lib.hid ((IntBlk.new w .u8 55 (mk 128 zeroK)).alloc (.cells (cellsOf .u8 (mk 128 zeroK)) 55))
  have B0 := Lib.hid b2
  clear b2 hn
  go_enter Try.func27, Try.ntmps27
  go_wp2_with (first
    | (refine wpList_sec_alloc rfl rfl w.heap.size rfl ?_)
    | (refine wpList_sec_alloc rfl rfl (w.heap.size + 1) ?own ?_
       case own => exact World.size_alloc _ _)
    | (refine wpList_sec_build0 rfl rfl ?_)
    | (refine store_row_on rfl 55 _ _ rfl rfl w.heap.size (cellsOf .u8 (mk 128 zeroK)) rfl rfl 55 (cellsOf .u8 (mk 128 zeroK)) Y0.out (secSize _) (sec_same _ _) (cellsOf_one _ _) ?_))
  exact bodyPost_ret (results_cell_row_tmp rfl _ _ w.heap.size 55 (cellsOf .u8 (mk 128 zeroK)) (0, 0) _ rfl (Y0.out.setRow .u8 (mk 128 zeroK)) secUnder rfl (secSize _)) rfl ⟨rfl, below_setRow B0.out (Nat.le_refl _) _⟩
/-- A sector that was made and laid. -/
theorem sec_laid (w : World) (f : Nat → Nat) : IntBlk ((w.alloc (.cells (cellsOf .u8 (mk 128 zeroK)) 55)).setRow w.heap.size (cellsOf .u8 (mk 128 f))) w.heap.size .u8 55 (mk 128 f) ∧ Below w.heap.size w ((w.alloc (.cells (cellsOf .u8 (mk 128 zeroK)) 55)).setRow w.heap.size (cellsOf .u8 (mk 128 f))) :=
  ⟨(IntBlk.new w .u8 55 (mk 128 zeroK)).setRow .u8 (mk 128 f), below_setRow ((Below.refl _ w).alloc (Nat.le_refl _) _) (Nat.le_refl _) _⟩
end Go.Proofs.Ytfnoiijodcmaeaa
