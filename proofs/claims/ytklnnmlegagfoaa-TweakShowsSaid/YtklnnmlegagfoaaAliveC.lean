/- The contract of the laws' own fixed fact: the chapter's example answers as it should. No condition. -/
import Derived.Test.YtklnnmlegagfoaaExam6
import Derived.Test.YtklnnmlegagfoaaTwProg
import Derived.Test.YtklnnmlegagfoaaTwBase
namespace Go.Proofs.Ytklnnmlegagfoaa
open Go.ChangeShapes Go.WideShapes Go.ChangeAt Go.RowKit

theorem run_noughts (M : Nat) (hM : M ≤ 100000) (w : World) : (Instr.makeSlice 22 (.int .i64 M) (.int .i64 M)).run Try.prog w = .ok (.slice (some ⟨w.heap.size, 0, none⟩) M M) (w.alloc (.cells (cellsOf .u8 (mk M zeroK)) 5)) := by
  have hi := byteInfo
  have hz := byteZero1
  have hb := byteBytes1
  cases hq : Try.prog.info? 5 with
  | none => rw [hq] at hi; simp at hi
  | some i =>
    rw [hq] at hi hz hb
    have hsz : i.size = 1 := by simpa using hi
    have hzz : i.zero = some (.int .u8 0) := by simpa using hz
    have hby : i.bytes = 1 := by simpa using hb
    have e := run_make (P := Try.prog) w 22 5 i _ bytesUnder hq hzz .i64 .i64 M M (by omega) (by omega) (by rw [hby]; omega) (by omega)
    have hc : (Value.int .u8 0).cells = cellsOf .u8 (mk 1 zeroK) := rfl
    rw [hsz, Int.toNat_natCast, made_zero hc (by omega), Nat.mul_one] at e
    exact e
theorem done_noughts {o : Oper} {a : Act} {w : World} {K : Value → World → Prop} (x y : Operand) (ho : o.op = .makeSlice 22 x y) (M : Nat) (hM : M ≤ 100000) (hx : a.eval x = .int .i64 M) (hy : a.eval y = .int .i64 M)
    (h : K (.slice (some ⟨w.heap.size, 0, none⟩) M M) (w.alloc (.cells (cellsOf .u8 (mk M zeroK)) 5))) : doneAt Try.prog o a w K := by
  have e := run_noughts M hM w
  unfold doneAt execOp
  simp only [ho]
  simp [hx, hy, e]
  exact h
theorem gives_take {o : Oper} {a : Act} {C : World → Prop} {K : Act → Prop} (x : Operand) (i : Nat) (ho : o.op = .extract x i) (vs : Array Value) (v : Value) (hx : a.eval x = .tuple vs) (hv : vs[i]? = some v) (hk : K (a.put o.dst v)) : ∃ v, Gives Try.prog C o a v ∧ K (a.put o.dst v) := by
  refine ⟨_, fun w _ => ?_, hk⟩
  unfold execOp
  simp only [ho, hx]
  simp [go_sem, hv]
theorem IntBlk.bytesAt {w : World} {B N : Nat} {t : TypeId} {F : Nat → Nat} (h : IntBlk w B .u8 t (mk N F)) : BytesAt w (some ⟨B, 0, none⟩) N F :=
  .inr ⟨B, 0, rfl, h.lt, fun j hj => by have := h.cells (o := 0) (n := N) (by omega) j hj; simp only [Nat.zero_add] at this ⊢; exact this⟩
/-- The example, whatever lies where. -/
theorem Hide_example (A B : Nat) (W : World) (hA : IntBlk W A .u8 5 (mk 32 zeroK)) (hB : IntBlk W B .u8 5 (mk 32 zeroK)) :
    Calls Try.prog 24 #[.slice (some ⟨A, 0, none⟩) 32 32, .int .i64 0, .slice (some ⟨B, 0, none⟩) 32 32] W fun e w' => ∃ D, e = .returned (.tuple #[.slice (some ⟨D, 0, none⟩) 32 32, .nilIface]) ∧ w'.cell? ⟨D, 0, none⟩ = some (.int .u8 145) ∧ w'.cell? ⟨D, 31, none⟩ = some (.int .u8 46) ∧ Below W.heap.size W w' := by
  refine (Hide_ok (some ⟨A, 0, none⟩) 32 32 4 zeroK 0 (some ⟨B, 0, none⟩) 32 32 zeroK rfl (.inl rfl) (by omega) (fun i _ => by unfold zeroK; omega) (by omega) (by omega) (fun i _ => by unfold zeroK; omega) W hA.bytesAt hB.bytesAt).mono fun e w' ⟨D, he, hr, _, hb⟩ => ⟨D, he, ?_, ?_, hb⟩
  · have := hr.cell (i := 0) (by rw [mk_len]; omega)
    rw [mk_get (by omega)] at this
    rw [this]
    exact congrArg (fun x : Nat => some (Value.int .u8 (x : Int))) example_first
  · have := hr.cell (i := 31) (by rw [mk_len]; omega)
    rw [mk_get (by omega)] at this
    rw [this]
    exact congrArg (fun x : Nat => some (Value.int .u8 (x : Int))) example_last
attribute [local irreducible] txtW twF rkS wB

set_option maxRecDepth 100000 in
set_option maxHeartbeats 1000000 in
theorem alive_any (w : World) : Calls Try.prog 16 #[] w fun e w' => e = .returned (.bool true) ∧ Below w.heap.size w w' := by
  go_enter Try.func16, Try.ntmps16
  go_wp2
  have c0 : Below w.heap.size w w.drew := (Below.refl _ w).drew
  refine wp_region_tree (.two 0 (.one 1 (.one 2 (.float 3 (.float 4 (.float 5 (.float 6 (.float 7 .over))))))) 1 (.one 0 (.one 2 (.float 3 (.float 4 (.float 5 (.float 6 (.float 7 .over)))))))) (fun W => Below w.heap.size w W) (by kernel_rfl) (by kernel_rfl) c0 ?_
  have n1 := IntBlk.new w.drew .u8 5 (mk 32 zeroK)
  have n2 := IntBlk.new (w.drew.alloc (.cells (cellsOf .u8 (mk 32 zeroK)) 5)) .u8 5 (mk 32 zeroK)
  have n1' := n1.alloc (.cells (cellsOf .u8 (mk 32 zeroK)) 5)
  have a1 : Below w.heap.size w (w.drew.alloc (.cells (cellsOf .u8 (mk 32 zeroK)) 5)) := c0.alloc (Nat.le_refl _) _
  have a2 : Below w.heap.size w ((w.drew.alloc (.cells (cellsOf .u8 (mk 32 zeroK)) 5)).alloc (.cells (cellsOf .u8 (mk 32 zeroK)) 5)) := a1.alloc a1.size _
  refine tree_two ?_ ?_
  · refine tree_one rfl rfl (fun K' hK => ?_)
    refine done_noughts _ _ rfl 32 (by omega) rfl rfl ⟨a1, ?_⟩
    go_simp
    refine hK _ _ ?_
    clear hK K'
    refine tree_one rfl rfl (fun K' hK => ?_)
    refine done_noughts _ _ rfl 32 (by omega) rfl rfl ⟨a2, ?_⟩
    go_simp
    refine hK _ _ ?_
    clear hK K'
    have n2' : IntBlk ((w.drew.alloc (.cells (cellsOf .u8 (mk 32 zeroK)) 5)).alloc (.cells (cellsOf .u8 (mk 32 zeroK)) 5)) (w.heap.size + 1) .u8 5 (mk 32 zeroK) := by
      have := n2; rw [World.size_alloc] at this; exact this
    have HX := Hide_example w.heap.size (w.heap.size + 1) _ n1' n2'
    change walkT _ _ _ _ _ _ ((w.drew.alloc (.cells (cellsOf .u8 (mk 32 zeroK)) 5)).alloc (.cells (cellsOf .u8 (mk 32 zeroK)) 5))
    generalize (w.drew.alloc (.cells (cellsOf .u8 (mk 32 zeroK)) 5)).alloc (.cells (cellsOf .u8 (mk 32 zeroK)) 5) = w2 at *
    clear n1 n2 n1' n2' a1 c0
    refine tree_one rfl rfl (fun K' hK => ?_)
    refine done_call _ #[_, _, _] _ rfl 24 #[.slice (some ⟨w.heap.size, 0, none⟩) 32 32, .int .i64 0, .slice (some ⟨(w.heap.size + 1), 0, none⟩) 32 32] rfl (by simp only [List.map_toArray, List.map_cons, List.map_nil]; rfl) (by simp [go_sem]) (HX.mono fun e w3 hh => ?_)
    obtain ⟨D, rfl, h1, h2, hb⟩ := hh
    have a3 := a2.trans (hb.mono a2.size)
    refine ⟨_, rfl, a3, ?_⟩
    go_simp
    refine hK _ _ ?_
    clear hK K' hb HX a2
    iterate 5 (
      refine tree_float rfl rfl (fun K hK => ?_)
      first
        | (refine gives_move _ rfl ?_)
        | (refine gives_take _ 0 rfl #[.slice (some ⟨D, 0, none⟩) 32 32, .nilIface] _ rfl rfl ?_)
        | (refine gives_take _ 1 rfl #[.slice (some ⟨D, 0, none⟩) 32 32, .nilIface] _ rfl rfl ?_)
        | (refine gives_assign _ rfl ?_)
      go_simp
      refine hK _ ?_
      clear hK K)
    refine tree_over ?_
    go_wp2
    go_ret
    exact ⟨rfl, a3⟩
  · refine tree_one rfl rfl (fun K' hK => ?_)
    refine done_noughts _ _ rfl 32 (by omega) rfl rfl ⟨a1, ?_⟩
    go_simp
    refine hK _ _ ?_
    clear hK K'
    refine tree_one rfl rfl (fun K' hK => ?_)
    refine done_noughts _ _ rfl 32 (by omega) rfl rfl ⟨a2, ?_⟩
    go_simp
    refine hK _ _ ?_
    clear hK K'
    have n2' : IntBlk ((w.drew.alloc (.cells (cellsOf .u8 (mk 32 zeroK)) 5)).alloc (.cells (cellsOf .u8 (mk 32 zeroK)) 5)) (w.heap.size + 1) .u8 5 (mk 32 zeroK) := by
      have := n2; rw [World.size_alloc] at this; exact this
    have HX := Hide_example (w.heap.size + 1) w.heap.size _ n2' n1'
    change walkT _ _ _ _ _ _ ((w.drew.alloc (.cells (cellsOf .u8 (mk 32 zeroK)) 5)).alloc (.cells (cellsOf .u8 (mk 32 zeroK)) 5))
    generalize (w.drew.alloc (.cells (cellsOf .u8 (mk 32 zeroK)) 5)).alloc (.cells (cellsOf .u8 (mk 32 zeroK)) 5) = w2 at *
    clear n1 n2 n1' n2' a1 c0
    refine tree_one rfl rfl (fun K' hK => ?_)
    refine done_call _ #[_, _, _] _ rfl 24 #[.slice (some ⟨(w.heap.size + 1), 0, none⟩) 32 32, .int .i64 0, .slice (some ⟨w.heap.size, 0, none⟩) 32 32] rfl (by simp only [List.map_toArray, List.map_cons, List.map_nil]; rfl) (by simp [go_sem]) (HX.mono fun e w3 hh => ?_)
    obtain ⟨D, rfl, h1, h2, hb⟩ := hh
    have a3 := a2.trans (hb.mono a2.size)
    refine ⟨_, rfl, a3, ?_⟩
    go_simp
    refine hK _ _ ?_
    clear hK K' hb HX a2
    iterate 5 (
      refine tree_float rfl rfl (fun K hK => ?_)
      first
        | (refine gives_move _ rfl ?_)
        | (refine gives_take _ 0 rfl #[.slice (some ⟨D, 0, none⟩) 32 32, .nilIface] _ rfl rfl ?_)
        | (refine gives_take _ 1 rfl #[.slice (some ⟨D, 0, none⟩) 32 32, .nilIface] _ rfl rfl ?_)
        | (refine gives_assign _ rfl ?_)
      go_simp
      refine hK _ ?_
      clear hK K)
    refine tree_over ?_
    go_wp2
    go_ret
    exact ⟨rfl, a3⟩
end Go.Proofs.Ytklnnmlegagfoaa
