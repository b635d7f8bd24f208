/- The contracts of the document's Nobody and Same (of what is the same). Conditions: the registrations lie in memory, at most 1000. -/
import Derived.Test.YtfnkdmdcjliebaaRvGood
namespace Go.Proofs.Ytfnkdmdcjliebaa
open Go.ChangeShapes Go.WideShapes Go.ChangeAt Go.RowKit
set_option linter.unusedVariables false
theorem rv_under : Try.prog.underlying rvT = some (.struct (Try.prog.fieldsOf rvT)) := by kernel_rfl
theorem rvA_size (q : Option Addr) (n c : Nat) (r : ResvOf) : (Try.prog.info? rvT).map (·.size) = some (resvA q n c r).size := by
  show _ = some 5
  kernel_rfl
theorem rvA_one (q : Option Addr) (n c : Nat) (r : ResvOf) : (resvA q n c r).all (·.oneCell') = true := by simp [resvA, Value.oneCell']
section
variable {o : Oper} {a : Act} {C : World → Prop} {K : Act → Prop}
theorem gives_rg_load (x : Operand) (ho : o.op = .load rgT x) (B off : Nat) (hx : a.eval x = .pointer (some ⟨B, off, none⟩)) (u c : Int) (hc : ∀ w, C w → w.rangeAt B off (regC (u, c))) (hk : K (a.put o.dst (.agg #[.int .i64 u, .int .i64 c]))) : ∃ v, Gives Try.prog C o a v ∧ K (a.put o.dst v) :=
  ⟨_, fun w hw => by
    unfold execOp
    simp only [ho, hx, Instr.loadAt, Instr.sureAddr, Sem.run_bind, Sem.run_pure, Result.andThen_ok, run_loadVar_mid w B off rgT (regC (u, c)) _ (hc w hw) Try.underlying39 rfl regSize]
    rfl, hk⟩
theorem gives_rg_isnt (x y : Operand) (ho : o.op = .binOp .neq rgT x y rgT) (u c : Int) (hx : a.eval x = .agg #[.int .i64 u, .int .i64 c]) (hy : a.eval y = .agg #[.int .i64 u, .int .i64 c]) (hk : K (a.put o.dst (.bool false))) : ∃ v, Gives Try.prog C o a v ∧ K (a.put o.dst v) :=
  ⟨_, fun w _ => by
    unfold execOp
    simp only [ho, hx, hy]
    simp [go_sem], hk⟩
end
attribute [local irreducible] regC atR
attribute [local go_sem] Oper.semAt_some
theorem refNobody_any (w : World) : Calls Try.prog 26 #[] w fun e w' => e = .returned (.agg (resvA none 0 0 nobodyR)) ∧ Below w.heap.size w w' := by
  have BX := Lib.hid (RvBox.alloc w none 0 0 nobodyR)
  have BB := Lib.hid (box_below w (.cells (resvA none 0 0 nobodyR) rvT))
  go_enter Try.func26, Try.ntmps26
  go_wp2
  exact bodyPost_ret (results_cell_row rfl _ _ w.heap.size rvT (resvA none 0 0 nobodyR) (0, 0) _ rfl BX.out Try.underlying24 rfl (rvA_size _ _ _ _)) rfl ⟨rfl, BB.out⟩
set_option maxRecDepth 100000 in
set_option maxHeartbeats 4000000 in
theorem refSame_eq {w : World} {q q' : Option Addr} {n c c' : Nat} {r : ResvOf} (hq : RegsAt w q r.regs) (hq' : RegsAt w q' r.regs) (hn : r.regs.length = n) (hl : n ≤ 1000) :
    Calls Try.prog 12 #[.agg (resvA q n c r), .agg (resvA q' n c' r)] w fun e w' => e = .returned (.bool true) ∧ Below w.heap.size w w' := by
  have BB := Lib.hid (below_two w (.cells (resvA q n c r) rvT) (.cells (resvA q' n c' r) rvT))
  have BX := Lib.hid (show RvBox ((w.alloc (.cells (resvA q n c r) rvT)).alloc (.cells (resvA q' n c' r) rvT)) w.heap.size q n c r from (RvBox.alloc w q n c r).keep (Below.heap_alloc _ _ _ (by rw [World.size_alloc]; omega)))
  have BY := Lib.hid (show RvBox ((w.alloc (.cells (resvA q n c r) rvT)).alloc (.cells (resvA q' n c' r) rvT)) (w.heap.size + 1) q' n c' r from by
    have := RvBox.alloc (w.alloc (.cells (resvA q n c r) rvT)) q' n c' r
    rw [World.size_alloc] at this; exact this)
  have HR := Lib.hid (fun i (hi : i < r.regs.length) => regs_at hq (k := i) hi)
  have HR' := Lib.hid (fun i (hi : i < r.regs.length) => regs_at hq' (k := i) hi)
  have HL := Lib.hid hl
  have c0 := BX.out.c0
  have c1 := BX.out.c1
  have c2 := BX.out.c2
  have c3 := BX.out.c3
  have c4 := BX.out.c4
  have d0 := BY.out.c0
  have d1 := BY.out.c1
  have d2 := BY.out.c2
  have d3 := BY.out.c3
  have d4 := BY.out.c4
  rw [hn] at HR HR'
  clear hq hq' hl
  go_enter Try.func12, Try.ntmps12
  unfold resvA at *
  go_wp2
  generalize (w.alloc (.cells #[.slice q n c, .int .i64 r.h, .int .i64 r.t, .bool r.s, .int .i64 r.g] rvT)).alloc (.cells #[.slice q' n c', .int .i64 r.h, .int .i64 r.t, .bool r.s, .int .i64 r.g] rvT) = w1 at *
  clear c0 c1 c2 c3 c4 d0 d1 d2 d3 d4
  go_loopw [5] (fun v5 wr => ∃ i : Nat, i ≤ n ∧ v5 = .int .i64 i ∧ Below w1.heap.size w1 wr) (fun v5 _ => n - (intOf v5).toNat)
  case atStart => exact ⟨0, Nat.zero_le _, rfl, Below.refl _ _⟩
  case round =>
    obtain ⟨i, hi, rfl, hb⟩ := hrel
    have BBr := Lib.hid hb
    have BXr := Lib.hid (BX.out.keep (hb.block _ BX.out.lt))
    have BYr := Lib.hid (BY.out.keep (hb.block _ BY.out.lt))
    have c0 := BXr.out.c0
    have d0 := BYr.out.c0
    clear hb
    by_cases hlt : i < n
    · have f1 : (i : Int) < (n : Int) := by omega
      have HLT := Lib.hid hlt
      have f3 : IntKind.i64.wrap ((i : Int) + 1) = ((i + 1 : Nat) : Int) := by have := HL.out; rw [IntWalk.i64_in _ (by omega)]; omega
      obtain ⟨LB, o, rfl, hB, hrg⟩ := HR.out i hlt
      obtain ⟨LC, o', rfl, hB', hrg'⟩ := HR'.out i hlt
      have hw : Below w.heap.size w wr.drew := (BB.out.trans (BBr.out.mono BB.out.size)).drew
      have K0 := Lib.hid (rangeAt_below hrg hw hB)
      have K1 := Lib.hid (rangeAt_below hrg' hw hB')
      clear hrg hrg' hlt hi hw
      generalize atR r.regs i = p at *
      obtain ⟨u, y⟩ := p
      go_wp2
      refine wp_region_sched [(0, true), (1, true), (2, true), (3, true), (4, true), (5, true), (6, true), (7, true), (8, true), (9, true), (10, true)] (fun V => V = wr.drew) (by kernel_rfl) (by kernel_rfl) rfl ?_
      refine walk_float rfl rfl (fun K hK => ?_)
      refine gives_rvfield _ 0 rfl (by decide) w.heap.size rfl ?_
      go_simp
      refine hK _ ?_
      clear hK K
      refine walk_float rfl rfl (fun K hK => ?_)
      refine gives_cell rgS _ rfl ⟨w.heap.size, 0, none⟩ (.slice (some ⟨LB, o, none⟩) n c) rfl box_regs (fun V hV => by rw [hV]; exact BXr.out.c0) ?_
      go_simp
      refine hK _ ?_
      clear hK K
      refine walk_float rfl rfl (fun K hK => ?_)
      refine gives_move _ rfl ?_
      go_simp
      refine hK _ ?_
      clear hK K
      refine walk_float rfl rfl (fun K hK => ?_)
      refine gives_reg_elem _ _ rfl LB o n c i rfl rfl HLT.out ?_
      go_simp
      refine hK _ ?_
      clear hK K
      refine walk_float rfl rfl (fun K hK => ?_)
      refine gives_rg_load _ rfl LB (o + 2 * i) rfl u y (fun V hV => by rw [hV]; exact K0.out) ?_
      go_simp
      refine hK _ ?_
      clear hK K
      refine walk_float rfl rfl (fun K hK => ?_)
      refine gives_rvfield _ 0 rfl (by decide) (w.heap.size + 1) rfl ?_
      go_simp
      refine hK _ ?_
      clear hK K
      refine walk_float rfl rfl (fun K hK => ?_)
      refine gives_cell rgS _ rfl ⟨w.heap.size + 1, 0, none⟩ (.slice (some ⟨LC, o', none⟩) n c') rfl box_regs (fun V hV => by rw [hV]; exact BYr.out.c0) ?_
      go_simp
      refine hK _ ?_
      clear hK K
      refine walk_float rfl rfl (fun K hK => ?_)
      refine gives_move _ rfl ?_
      go_simp
      refine hK _ ?_
      clear hK K
      refine walk_float rfl rfl (fun K hK => ?_)
      refine gives_reg_elem _ _ rfl LC o' n c' i rfl rfl HLT.out ?_
      go_simp
      refine hK _ ?_
      clear hK K
      refine walk_float rfl rfl (fun K hK => ?_)
      refine gives_rg_load _ rfl LC (o' + 2 * i) rfl u y (fun V hV => by rw [hV]; exact K1.out) ?_
      go_simp
      refine hK _ ?_
      clear hK K
      refine walk_float rfl rfl (fun K hK => ?_)
      refine gives_rg_isnt _ _ rfl u y rfl rfl ?_
      go_simp
      refine hK _ ?_
      clear hK K
      refine walk_nil ?_
      go_wp2
      go_roundw
      case rel => exact ⟨i + 1, HLT.out, by go_num, BBr.out.drew⟩
      case measure => have := HLT.out; simp [intOf]; omega
    · have f1 : ¬ (i : Int) < (n : Int) := by omega
      obtain rfl : i = n := by omega
      have hw := Lib.hid (BB.out.trans (BBr.out.mono BB.out.size))
      clear hlt hi
      go_wp2
      go_ret
      exact ⟨rfl, hw.out⟩
end Go.Proofs.Ytfnkdmdcjliebaa
