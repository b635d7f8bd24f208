/- The contract of the program's Do, and with it what stage 14's laws ask of package resv. Conditions: as the contract says. -/
import Derived.Test.YtfnkdmdcjliebaaRvEnt
namespace Go.Proofs.Ytfnkdmdcjliebaa
open Go.ChangeShapes Go.WideShapes Go.ChangeAt Go.RowKit
set_option linter.unusedVariables false
set_option linter.unusedSimpArgs false
section
variable {o : Oper} {a : Act} {w : World} {C : World → Prop}
theorem gives_extract {K : Act → Prop} (x : Operand) (k : Nat) (ho : o.op = .extract x k) (vs : Array Value) (hx : a.eval x = .tuple vs) (v : Value) (hv : vs[k]? = some v) (hk : K (a.put o.dst v)) : ∃ v, Gives Try.prog C o a v ∧ K (a.put o.dst v) :=
  ⟨_, fun w _ => by
    unfold execOp
    simp only [ho, hx]
    simp [go_sem, hv], hk⟩
theorem done_boxA_new {K : Value → World → Prop} {T : TypeId} {sz : Nat} {z : Array Value} (R : IsRow T sz z) (ho : o.op = .alloc T)
    (h : ∀ w', BoxA w' w.heap.size T z → Below w.heap.size w w' → w'.heap.size = w.heap.size + 1 → K (.pointer (some ⟨w.heap.size, 0, none⟩)) w') : doneAt Try.prog o a w K := by
  have e := R.zero_run w
  have hh := h _ (BoxA.alloc w T z) ((Below.refl _ w).alloc (Nat.le_refl _) _) (World.size_alloc _ _)
  unfold doneAt execOp
  simp only [ho]
  simp [go_sem, e, doneUpon]
  exact hh
theorem done_boxA_put {K : Value → World → Prop} {T : TypeId} {sz : Nat} {z : Array Value} (R : IsRow T sz z) (x y : Operand) (ho : o.op = .store T x y) (O : Nat) (A old : Array Value) (hA : A.size = sz) (h1 : A.all (·.oneCell') = true) (hold : old.size = sz) (hx : a.eval x = .pointer (some ⟨O, 0, none⟩)) (hy : a.eval y = .agg A) (hO : BoxA w O T old)
    (h : ∀ w', BoxA w' O T A → Keeps (fun k => k = O) w w' → w'.heap.size = w.heap.size → K undef w') : doneAt Try.prog o a w K := by
  have hh := h _ (setRow_heap _ _ _ _ _ (0, 0) hO) (keeps_row O _ w) (by simp)
  unfold doneAt execOp
  simp only [ho, hx, hy, Instr.storeAt, Instr.sureAddr, Sem.run_bind, Sem.run_pure, Result.andThen_ok, run_storeVar_row w O T T old A hO (by rw [hA]; exact R.size) (hold.trans hA.symm) h1]
  exact hh
theorem done_call1' {K : Value → World → Prop} (x y : Operand) (ts : Array TypeId) (ho : o.op = .call { callee := .value x, args := #[y], argTypes := ts }) (g : FuncId) (hx : a.eval x = .func (.func g) #[] #[])
    (p : Value) (hy : a.eval y = p) (hf : ∀ (args : Array Value) (w : World), (callFunc g args).run Try.prog w = .ok (.enter g args) w)
    (hc : Calls Try.prog g #[p] w fun e w' => ∃ v, e = .returned v ∧ K v w') : doneAt Try.prog o a w K :=
  done_call x #[y] ts ho g #[p] hx (by simp only [List.map_toArray, List.map_cons, List.map_nil, hy]) (hf _ w) hc
end
theorem rvAt_own {W : World} {base top : Nat} {q : Option Addr} {n c : Nat} {r : ResvOf} (h : OwnL rgT 2 regC W base top (.slice q n c) r.regs) (hk : r.ok) (hl : r.regs.length ≤ 4) : RvAt W q n c r := by
  obtain ⟨p, c', hv, h1, h2, h3, -⟩ := h.rows elemReg.len
  cases hv
  exact ⟨h3, rfl, h1, h2, hk, by omega⟩
theorem own_ne_box {W : World} {base top J : Nat} {q : Option Addr} {m c : Nat} {ks : List (Int × Int)} {A : Array Value} (h : OwnL rgT 2 regC W base top (.slice q m c) ks) (hJ : BoxA W J rvT A) : ∀ B, AtB q B → B ≠ J := by
  rintro B ⟨o, e⟩ rfl
  rcases h with ⟨h1, _⟩ | ⟨B', cp, cur, h1, h2, h3, h4, h5⟩
  · cases h1; cases e
  · cases h1; cases e
    rw [hJ] at h4
    have h6 := Option.some.inj h4
    injection h6 with e1 e2 e3
    exact absurd e2 (by decide)
theorem do_good0 {r : ResvOf} {o : ROp} (g : GoodR r) (hw : wellR o = true) (he : entR r o = true) {rr : ResvOf} {z : Int} (hr : runP r o = (rr, z)) : doR r o = if z = 0 then (rr, 0) else (nobodyR, z) := by
  rw [do_steps g hw, he, hr]
  by_cases hz : z = 0
  · subst hz; rfl
  · simp [hz]
theorem do_bad {r : ResvOf} {o : ROp} (h : goodR r = false ∨ wellR o = false) : doR r o = (nobodyR, 2) := by
  unfold doR
  rw [if_pos (by rcases h with h | h <;> rw [h] <;> simp)]
theorem do_conflict {r : ResvOf} {o : ROp} (g : GoodR r) (hw : wellR o = true) (he : entR r o = false) : doR r o = (nobodyR, 9) := by
  rw [do_steps g hw, he]; rfl
theorem check_good {w : World} {q : Option Addr} {n c : Nat} {r : ResvOf} (hq : RvAt w q n c r) {b : Bool} (h : goodR r = b) :
    Calls Try.prog 14 #[.agg (resvA q n c r)] w fun e w' => e = .returned (if b then .nilIface else .iface 45 (.int .i64 2)) ∧ Below w.heap.size w w' := by
  refine (Check_any hq).mono ?_
  rintro e w' ⟨rfl, hb⟩
  refine ⟨?_, hb⟩
  rw [h]
  cases b <;> rfl
attribute [local irreducible] regC atR keyR inR risesR formR goodR allR holdersR holdsR allowedR goneF hasR selfF withL PB endP errN runP regP releaseP reserveP preemptP wellR entR doR
attribute [local go_sem] Oper.semAt_some
set_option maxRecDepth 100000 in
set_option maxHeartbeats 16000000 in
theorem do_form1 {w : World} {q : Option Addr} {n c : Nat} {r : ResvOf} (hq : RvAt w q n c r) (o : ROp) (hg : goodR r = false) :
    Calls Try.prog 10 #[.agg (resvA q n c r), .agg (ropA o)] w fun e w' => e = .returned (.tuple #[.agg (resvA none 0 0 nobodyR), .iface 45 (.int .i64 2)]) ∧ Below w.heap.size w w' := by
  have HC := Lib.hid (fun (W : World) (hb : Below w.heap.size w W) => (check_good (RvAt.below hq hb) hg : Calls Try.prog 14 #[.agg (resvA q n c r)] W fun e w' => e = .returned (.iface 45 (.int .i64 2)) ∧ Below W.heap.size W w'))
  clear hq hg
  go_enter Try.func10, Try.ntmps10
  go_wp2_with (first
    | (with_reducible show wpList _ _ _ (⟨_, Op.box rvT _, _, _, _, none⟩ :: _) _ _
       refine wpList_boxA_of rfl _ rfl (resvA q n c r) rfl ?_
       intro w1 x1 l1 s1
       have X1 := Lib.hid x1
       have L1 := Lib.hid l1
       have S1 := Lib.hid s1
       clear x1 l1 s1)
    | (with_reducible show wpList _ _ _ (⟨_, Op.box roT _, _, _, _, none⟩ :: _) _ _
       refine wpList_boxA_of rfl _ rfl (ropA o) rfl ?_
       intro w2 x2 l2 s2
       rw [S1.out] at x2 s2
       rw [S1.out]
       have X2 := Lib.hid x2
       have L2 := Lib.hid l2
       have S2 := Lib.hid s2
       clear x2 l2 s2)
    | (with_reducible show wpList _ _ _ (⟨_, Op.alloc rvT, _, _, _, _⟩ :: _) _ _
       refine wpList_boxA_new rowRv rfl rfl (w.heap.size + 1 + 1) S2.out ?_
       intro w3 x3 l3 s3
       have T3 := Lib.hid (new3 X1.out L1.out S1.out X2.out L2.out S2.out x3 l3)
       obtain ⟨c0, c1, c2, c3, c4⟩ := T3.out.c
       obtain ⟨d0, d1, d2, d3, d4, d5⟩ := T3.out.d
       clear x3 l3 s3 X1 L1 S1 X2 L2 S2)
    | (with_reducible show wpList _ _ _ (⟨_, Op.load rvT _, _, _, _, none⟩ :: _) _ _
       refine wpList_boxA_load rowRv rfl _ rfl w.heap.size (resvA q n c r) rfl rfl T3.out.s ?_)
    | (go_at_call 14
       refine (HC.out _ T3.out.low).mono ?_; rintro e w4 ⟨rfl, hb4⟩
       have T4 := Lib.hid (T3.out.mono hb4)
       clear hb4 T3 c0 c1 c2 c3 c4 d0 d1 d2 d3 d4 d5 HC)
    | (go_at_call 30
       refine (nobodys_any _).mono ?_; rintro e w7 ⟨rfl, hb7⟩
       have T7 := Lib.hid (T4.out.mono hb7)
       clear hb7 T4)
    | (with_reducible show wpList _ _ _ (⟨_, Op.store rvT (.tmp 4) _, _, _, _, none⟩ :: _) _ _
       refine wpList_boxA_put rowRv rfl _ _ rfl rfl (w.heap.size + 1 + 1) (resvA none 0 0 nobodyR) _ rfl (rvA_one _ _ _ _) rfl rfl rfl T7.out.r ?_
       intro w9 x9 k9 s9
       have T9 := Lib.hid (T7.out.setR x9 k9)
       clear x9 k9 s9))
  exact bodyPost_ret (results_cell_row_tmp rfl _ _ (w.heap.size + 1 + 1) rvT (resvA none 0 0 nobodyR) (0, 0) _ rfl T9.out.r Try.underlying24 rfl (rvA_size _ _ _ _)) rfl ⟨rfl, T9.out.low⟩
set_option maxRecDepth 100000 in
set_option maxHeartbeats 16000000 in
theorem do_form2 {w : World} {q : Option Addr} {n c : Nat} {r : ResvOf} (hq : RvAt w q n c r) (o : ROp) (hg : GoodR r) (hw : wellR o = false) :
    Calls Try.prog 10 #[.agg (resvA q n c r), .agg (ropA o)] w fun e w' => e = .returned (.tuple #[.agg (resvA none 0 0 nobodyR), .iface 45 (.int .i64 2)]) ∧ Below w.heap.size w w' := by
  have HC := Lib.hid (fun (W : World) (hb : Below w.heap.size w W) => (check_good (RvAt.below hq hb) (good_iff.2 hg) : Calls Try.prog 14 #[.agg (resvA q n c r)] W fun e w' => e = .returned .nilIface ∧ Below W.heap.size W w'))
  have HF := Lib.hid (fun (W : World) => (by have h := inForm_any W o; rw [hw] at h; exact h : Calls Try.prog 29 #[.agg (ropA o)] W fun e w' => e = .returned (.bool false) ∧ Below W.heap.size W w'))
  clear hq hg
  go_enter Try.func10, Try.ntmps10
  go_wp2_with (first
    | (with_reducible show wpList _ _ _ (⟨_, Op.box rvT _, _, _, _, none⟩ :: _) _ _
       refine wpList_boxA_of rfl _ rfl (resvA q n c r) rfl ?_
       intro w1 x1 l1 s1
       have X1 := Lib.hid x1
       have L1 := Lib.hid l1
       have S1 := Lib.hid s1
       clear x1 l1 s1)
    | (with_reducible show wpList _ _ _ (⟨_, Op.box roT _, _, _, _, none⟩ :: _) _ _
       refine wpList_boxA_of rfl _ rfl (ropA o) rfl ?_
       intro w2 x2 l2 s2
       rw [S1.out] at x2 s2
       rw [S1.out]
       have X2 := Lib.hid x2
       have L2 := Lib.hid l2
       have S2 := Lib.hid s2
       clear x2 l2 s2)
    | (with_reducible show wpList _ _ _ (⟨_, Op.alloc rvT, _, _, _, _⟩ :: _) _ _
       refine wpList_boxA_new rowRv rfl rfl (w.heap.size + 1 + 1) S2.out ?_
       intro w3 x3 l3 s3
       have T3 := Lib.hid (new3 X1.out L1.out S1.out X2.out L2.out S2.out x3 l3)
       obtain ⟨c0, c1, c2, c3, c4⟩ := T3.out.c
       obtain ⟨d0, d1, d2, d3, d4, d5⟩ := T3.out.d
       clear x3 l3 s3 X1 L1 S1 X2 L2 S2)
    | (with_reducible show wpList _ _ _ (⟨_, Op.load rvT _, _, _, _, none⟩ :: _) _ _
       refine wpList_boxA_load rowRv rfl _ rfl w.heap.size (resvA q n c r) rfl rfl T3.out.s ?_)
    | (go_at_call 14
       refine (HC.out _ T3.out.low).mono ?_; rintro e w4 ⟨rfl, hb4⟩
       have T4 := Lib.hid (T3.out.mono hb4)
       clear hb4 T3 c0 c1 c2 c3 c4 d0 d1 d2 d3 d4 d5 HC)
    | (with_reducible show wpList _ _ _ (⟨_, Op.load roT _, _, _, _, some _⟩ :: _) _ _
       refine wpList_boxA_loadw rowOp _ rfl rfl (w.heap.size + 1) (ropA o) rfl rfl T4.out.p ?_)
    | (go_at_call 29
       refine (HF.out _).mono ?_; rintro e w5 ⟨rfl, hb5⟩
       have T5 := Lib.hid (T4.out.mono hb5)
       clear hb5 T4 HF)
    | (go_at_call 30
       refine (nobodys_any _).mono ?_; rintro e w7 ⟨rfl, hb7⟩
       have T7 := Lib.hid (T5.out.mono hb7)
       clear hb7 T5)
    | (with_reducible show wpList _ _ _ (⟨_, Op.store rvT (.tmp 4) _, _, _, _, none⟩ :: _) _ _
       refine wpList_boxA_put rowRv rfl _ _ rfl rfl (w.heap.size + 1 + 1) (resvA none 0 0 nobodyR) _ rfl (rvA_one _ _ _ _) rfl rfl rfl T7.out.r ?_
       intro w9 x9 k9 s9
       have T9 := Lib.hid (T7.out.setR x9 k9)
       clear x9 k9 s9))
  exact bodyPost_ret (results_cell_row_tmp rfl _ _ (w.heap.size + 1 + 1) rvT (resvA none 0 0 nobodyR) (0, 0) _ rfl T9.out.r Try.underlying24 rfl (rvA_size _ _ _ _)) rfl ⟨rfl, T9.out.low⟩
set_option maxRecDepth 100000 in
set_option maxHeartbeats 16000000 in
theorem do_conf {w : World} {q : Option Addr} {n c : Nat} {r : ResvOf} (hq : RvAt w q n c r) (o : ROp) (hg : GoodR r) (hw : wellR o = true) (he : entR r o = false) :
    Calls Try.prog 10 #[.agg (resvA q n c r), .agg (ropA o)] w fun e w' => e = .returned (.tuple #[.agg (resvA none 0 0 nobodyR), .iface 45 (.int .i64 9)]) ∧ Below w.heap.size w w' := by
  have HC := Lib.hid (fun (W : World) (hb : Below w.heap.size w W) => (check_good (RvAt.below hq hb) (good_iff.2 hg) : Calls Try.prog 14 #[.agg (resvA q n c r)] W fun e w' => e = .returned .nilIface ∧ Below W.heap.size W w'))
  have HF := Lib.hid (fun (W : World) => (by have h := inForm_any W o; rw [hw] at h; exact h : Calls Try.prog 29 #[.agg (ropA o)] W fun e w' => e = .returned (.bool true) ∧ Below W.heap.size W w'))
  have HE := Lib.hid (fun (W : World) (hb : Below w.heap.size w W) => (by have h := entitled_any (RvAt.below hq hb) hg hw; rw [he] at h; exact h : Calls Try.prog 31 #[.agg (resvA q n c r), .agg (ropA o)] W fun e w' => e = .returned (.bool false) ∧ Below W.heap.size W w'))
  clear hq hg
  go_enter Try.func10, Try.ntmps10
  go_wp2_with (first
    | (with_reducible show wpList _ _ _ (⟨_, Op.box rvT _, _, _, _, none⟩ :: _) _ _
       refine wpList_boxA_of rfl _ rfl (resvA q n c r) rfl ?_
       intro w1 x1 l1 s1
       have X1 := Lib.hid x1
       have L1 := Lib.hid l1
       have S1 := Lib.hid s1
       clear x1 l1 s1)
    | (with_reducible show wpList _ _ _ (⟨_, Op.box roT _, _, _, _, none⟩ :: _) _ _
       refine wpList_boxA_of rfl _ rfl (ropA o) rfl ?_
       intro w2 x2 l2 s2
       rw [S1.out] at x2 s2
       rw [S1.out]
       have X2 := Lib.hid x2
       have L2 := Lib.hid l2
       have S2 := Lib.hid s2
       clear x2 l2 s2)
    | (with_reducible show wpList _ _ _ (⟨_, Op.alloc rvT, _, _, _, _⟩ :: _) _ _
       refine wpList_boxA_new rowRv rfl rfl (w.heap.size + 1 + 1) S2.out ?_
       intro w3 x3 l3 s3
       have T3 := Lib.hid (new3 X1.out L1.out S1.out X2.out L2.out S2.out x3 l3)
       obtain ⟨c0, c1, c2, c3, c4⟩ := T3.out.c
       obtain ⟨d0, d1, d2, d3, d4, d5⟩ := T3.out.d
       clear x3 l3 s3 X1 L1 S1 X2 L2 S2)
    | (with_reducible show wpList _ _ _ (⟨_, Op.load rvT _, _, _, _, none⟩ :: _) _ _
       refine wpList_boxA_load rowRv rfl _ rfl w.heap.size (resvA q n c r) rfl rfl T3.out.s ?_)
    | (go_at_call 14
       refine (HC.out _ T3.out.low).mono ?_; rintro e w4 ⟨rfl, hb4⟩
       have T4 := Lib.hid (T3.out.mono hb4)
       clear hb4 T3 c0 c1 c2 c3 c4 d0 d1 d2 d3 d4 d5 HC)
    | (with_reducible show wpList _ _ _ (⟨_, Op.load roT _, _, _, _, some _⟩ :: _) _ _
       refine wpList_boxA_loadw rowOp _ rfl rfl (w.heap.size + 1) (ropA o) rfl rfl T4.out.p ?_)
    | (go_at_call 29
       refine (HF.out _).mono ?_; rintro e w5 ⟨rfl, hb5⟩
       have T5 := Lib.hid (T4.out.mono hb5)
       clear hb5 T4 HF)
    | (with_reducible show wpList _ _ _ (⟨_, Op.load rvT _, _, _, _, none⟩ :: _) _ _
       refine wpList_boxA_load rowRv rfl _ rfl w.heap.size (resvA q n c r) rfl rfl T5.out.s ?_)
    | (with_reducible show wpList _ _ _ (⟨_, Op.load roT _, _, _, _, none⟩ :: _) _ _
       refine wpList_boxA_load rowOp rfl _ rfl (w.heap.size + 1) (ropA o) rfl rfl T5.out.p ?_)
    | (go_at_call 31
       refine (HE.out _ T5.out.low).mono ?_; rintro e w6 ⟨rfl, hb6⟩
       have T6 := Lib.hid (T5.out.mono hb6)
       clear hb6 T5 HE)
    | (go_at_call 30
       refine (nobodys_any _).mono ?_; rintro e w7 ⟨rfl, hb7⟩
       have T7 := Lib.hid (T6.out.mono hb7)
       clear hb7 T6)
    | (with_reducible show wpList _ _ _ (⟨_, Op.store rvT (.tmp 4) _, _, _, _, none⟩ :: _) _ _
       refine wpList_boxA_put rowRv rfl _ _ rfl rfl (w.heap.size + 1 + 1) (resvA none 0 0 nobodyR) _ rfl (rvA_one _ _ _ _) rfl rfl rfl T7.out.r ?_
       intro w9 x9 k9 s9
       have T9 := Lib.hid (T7.out.setR x9 k9)
       clear x9 k9 s9))
  exact bodyPost_ret (results_cell_row_tmp rfl _ _ (w.heap.size + 1 + 1) rvT (resvA none 0 0 nobodyR) (0, 0) _ rfl T9.out.r Try.underlying24 rfl (rvA_size _ _ _ _)) rfl ⟨rfl, T9.out.low⟩
set_option maxRecDepth 100000 in
set_option maxHeartbeats 16000000 in
theorem do_runs {w : World} {q : Option Addr} {n c : Nat} {r : ResvOf} (hq : RvAt w q n c r) (o : ROp) (hg : GoodR r) (hw : wellR o = true) (he : entR r o = true) {rr : ResvOf} (hr : runP r o = (rr, 0)) :
    Calls Try.prog 10 #[.agg (resvA q n c r), .agg (ropA o)] w fun e w' => ∃ q' m c', e = .returned (.tuple #[.agg (resvA q' m c' rr), .nilIface]) ∧ OwnR w w' q' m c' rr.regs ∧ Below w.heap.size w w' := by
  have HC := Lib.hid (fun (W : World) (hb : Below w.heap.size w W) => (check_good (RvAt.below hq hb) (good_iff.2 hg) : Calls Try.prog 14 #[.agg (resvA q n c r)] W fun e w' => e = .returned .nilIface ∧ Below W.heap.size W w'))
  have HF := Lib.hid (fun (W : World) => (by have h := inForm_any W o; rw [hw] at h; exact h : Calls Try.prog 29 #[.agg (ropA o)] W fun e w' => e = .returned (.bool true) ∧ Below W.heap.size W w'))
  have HE := Lib.hid (fun (W : World) (hb : Below w.heap.size w W) => (by have h := entitled_any (RvAt.below hq hb) hg hw; rw [he] at h; exact h : Calls Try.prog 31 #[.agg (resvA q n c r), .agg (ropA o)] W fun e w' => e = .returned (.bool true) ∧ Below W.heap.size W w'))
  have HCP := Lib.hid (fun (W : World) (hb : Below w.heap.size w W) => copied_any (c := c) (RowsAt.below hq.at_ hb) hq.len hq.few)
  have OKR := Lib.hid hq.ok
  have FEW := Lib.hid hg.few
  have HRN := Lib.hid (fun (W : World) q2 n2 c2 (h1 : OwnL rgT 2 regC W (w.heap.size + 1 + 1 + 1) W.heap.size (.slice q2 n2 c2) r.regs) (h2 : w.heap.size + 1 + 1 + 1 ≤ W.heap.size) (h3 : RvAt W q2 n2 c2 r) => (by
    refine (runP_any h1 h2 h3 hg hw).mono ?_
    rintro e w' ⟨q', m, c', rr', z, rfl, hz, ho, hb⟩
    rw [hr] at hz
    cases hz
    exact ⟨q', m, c', by rw [errN_zero], ho rfl, hb⟩ : Calls Try.prog 32 #[.agg (resvA q2 n2 c2 r), .agg (ropA o)] W fun e w' => ∃ q' m c', e = .returned (.tuple #[.agg (resvA q' m c' rr), .nilIface]) ∧ OwnL rgT 2 regC w' (w.heap.size + 1 + 1 + 1) w'.heap.size (.slice q' m c') rr.regs ∧ Below W.heap.size W w'))
  clear hq hg hr hw he
  go_enter Try.func10, Try.ntmps10
  go_wp2_with (first
    | (with_reducible show wpList _ _ _ (⟨_, Op.box rvT _, _, _, _, none⟩ :: _) _ _
       refine wpList_boxA_of rfl _ rfl (resvA q n c r) rfl ?_
       intro w1 x1 l1 s1
       have X1 := Lib.hid x1
       have L1 := Lib.hid l1
       have S1 := Lib.hid s1
       clear x1 l1 s1)
    | (with_reducible show wpList _ _ _ (⟨_, Op.box roT _, _, _, _, none⟩ :: _) _ _
       refine wpList_boxA_of rfl _ rfl (ropA o) rfl ?_
       intro w2 x2 l2 s2
       rw [S1.out] at x2 s2
       rw [S1.out]
       have X2 := Lib.hid x2
       have L2 := Lib.hid l2
       have S2 := Lib.hid s2
       clear x2 l2 s2)
    | (with_reducible show wpList _ _ _ (⟨_, Op.alloc rvT, _, _, _, _⟩ :: _) _ _
       refine wpList_boxA_new rowRv rfl rfl (w.heap.size + 1 + 1) S2.out ?_
       intro w3 x3 l3 s3
       have T3 := Lib.hid (new3 X1.out L1.out S1.out X2.out L2.out S2.out x3 l3)
       obtain ⟨c0, c1, c2, c3, c4⟩ := T3.out.c
       obtain ⟨d0, d1, d2, d3, d4, d5⟩ := T3.out.d
       clear x3 l3 s3 X1 L1 S1 X2 L2 S2)
    | (with_reducible show wpList _ _ _ (⟨_, Op.load rvT _, _, _, _, none⟩ :: _) _ _
       refine wpList_boxA_load rowRv rfl _ rfl w.heap.size (resvA q n c r) rfl rfl T3.out.s ?_)
    | (go_at_call 14
       refine (HC.out _ T3.out.low).mono ?_; rintro e w4 ⟨rfl, hb4⟩
       have T4 := Lib.hid (T3.out.mono hb4)
       clear hb4 T3 c0 c1 c2 c3 c4 d0 d1 d2 d3 d4 d5 HC)
    | (with_reducible show wpList _ _ _ (⟨_, Op.load roT _, _, _, _, some _⟩ :: _) _ _
       refine wpList_boxA_loadw rowOp _ rfl rfl (w.heap.size + 1) (ropA o) rfl rfl T4.out.p ?_)
    | (go_at_call 29
       refine (HF.out _).mono ?_; rintro e w5 ⟨rfl, hb5⟩
       have T5 := Lib.hid (T4.out.mono hb5)
       clear hb5 T4 HF)
    | (with_reducible show wpList _ _ _ (⟨_, Op.load rvT _, _, _, _, none⟩ :: _) _ _
       refine wpList_boxA_load rowRv rfl _ rfl w.heap.size (resvA q n c r) rfl rfl T5.out.s ?_)
    | (with_reducible show wpList _ _ _ (⟨_, Op.load roT _, _, _, _, none⟩ :: _) _ _
       refine wpList_boxA_load rowOp rfl _ rfl (w.heap.size + 1) (ropA o) rfl rfl T5.out.p ?_)
    | (go_at_call 31
       refine (HE.out _ T5.out.low).mono ?_; rintro e w6 ⟨rfl, hb6⟩
       have T6 := Lib.hid (T5.out.mono hb6)
       clear hb6 T5 HE))
  refine wp_region_tree (.float 0 (.float 2 (.two 1 (.two 3 (.float 4 (.float 5 (.float 6 (.one 7 (.one 8 (.float 9 .over)))))) 7 (.one 3 (.float 4 (.float 5 (.float 6 (.one 8 (.float 9 .over))))))) 7 (.one 1 (.one 3 (.float 4 (.float 5 (.float 6 (.one 8 (.float 9 .over)))))))))) (fun V => BoxA V w.heap.size rvT (resvA q n c r) ∧ BoxA V (w.heap.size + 1) roT (ropA o)) (by kernel_rfl) (by kernel_rfl) ⟨T6.out.s, T6.out.p⟩ ?_
  refine tree_float rfl rfl (fun K hK => ?_)
  refine gives_boxA_load rowRv _ rfl w.heap.size (resvA q n c r) rfl rfl (fun V hV => hV.1) ?_
  go_simp
  refine hK _ ?_
  clear hK K
  refine tree_float rfl rfl (fun K hK => ?_)
  refine gives_boxA_load rowOp _ rfl (w.heap.size + 1) (ropA o) rfl rfl (fun V hV => hV.2) ?_
  go_simp
  refine hK _ ?_
  clear hK K
  have TD := Lib.hid T6.out.drew
  clear T6
  refine tree_two ?_ ?_
  · refine tree_one rfl rfl (fun K hK => ?_)
    refine done_call1' _ _ _ rfl 33 rfl (.agg (resvA q n c r)) rfl (enters_of Try.func33 (by kernel_rfl) rfl) ?_
    refine (HCP.out _ TD.out.low).mono ?_
    rintro e y1 ⟨q2, n2, c2, rfl, ho, hb⟩
    have TY1 := Lib.hid (TD.out.mono hb)
    have OC := Lib.hid (OwnL.lower ho TD.out.r.lt)
    have BC := Lib.hid (show w.heap.size + 1 + 1 + 1 ≤ y1.heap.size from Nat.le_trans TD.out.r.lt hb.size)
    clear ho hb
    refine ⟨_, rfl, ⟨TY1.out.s, TY1.out.p⟩, ?_⟩
    go_simp
    refine hK _ _ ?_
    clear hK K
    refine tree_two ?_ ?_
    · refine tree_one rfl rfl (fun K hK => ?_)
      refine done_call2 _ _ _ _ rfl 32 rfl (.agg (resvA q2 n2 c2 r)) (.agg (ropA o)) rfl rfl (enters_of Try.func32 (by kernel_rfl) rfl) ?_
      have RC := Lib.hid (rvAt_own OC.out OKR.out FEW.out)
      refine (HRN.out _ _ _ _ OC.out BC.out RC.out).mono ?_
      rintro e y2 ⟨q3, n3, c3, rfl, ho, hb⟩
      have ON := Lib.hid ho
      have TY2 := Lib.hid (TY1.out.mono hb)
      clear RC hb ho
      refine ⟨_, rfl, ⟨TY2.out.s, TY2.out.p⟩, ?_⟩
      go_simp
      refine hK _ _ ?_
      clear hK K
      refine tree_float rfl rfl (fun K hK => ?_)
      refine gives_move _ rfl ?_
      go_simp
      refine hK _ ?_
      clear hK K
      refine tree_float rfl rfl (fun K hK => ?_)
      refine gives_extract _ 0 rfl _ rfl (.agg (resvA q3 n3 c3 rr)) rfl ?_
      go_simp
      refine hK _ ?_
      clear hK K
      refine tree_float rfl rfl (fun K hK => ?_)
      refine gives_extract _ 1 rfl _ rfl .nilIface rfl ?_
      go_simp
      refine hK _ ?_
      clear hK K
      refine tree_one rfl rfl (fun K hK => ?_)
      refine done_boxA_new rowRv rfl ?_
      intro y3 x l s
      have JY3 := Lib.hid (show BoxA y3 y2.heap.size rvT _ from x)
      have TY3 := Lib.hid (TY2.out.mono l)
      have OM := Lib.hid ((OwnL.below ON.out (Nat.le_refl _) l).raise l.size)
      have HJJ := Lib.hid (show w.heap.size + 1 + 1 < y2.heap.size from TY2.out.r.lt)
      clear x l s ON
      refine ⟨⟨TY3.out.s, TY3.out.p⟩, ?_⟩
      go_simp
      refine hK _ _ ?_
      clear hK K
      generalize y2.heap.size = J at *
      refine tree_one rfl rfl (fun K hK => ?_)
      refine done_boxA_put rowRv _ _ rfl J (resvA q3 n3 c3 rr) _ rfl (rvA_one _ _ _ _) rfl rfl rfl JY3.out ?_
      intro wz x k s
      have JZ := Lib.hid x
      have TZ := Lib.hid (ThS.keepB TY3.out k HJJ.out)
      have OZ := Lib.hid (keepR OM.out k s (own_ne_box OM.out JY3.out))
      clear x k s
      refine ⟨⟨TZ.out.s, TZ.out.p⟩, ?_⟩
      go_simp
      refine hK _ _ ?_
      clear hK K
      refine tree_float rfl rfl (fun K hK => ?_)
      refine gives_assign _ rfl ?_
      go_simp
      refine hK _ ?_
      clear hK K
      refine tree_over ?_
      go_wp2_with (first
        | (with_reducible show wpList _ _ _ (⟨_, Op.load rvT _, _, _, _, none⟩ :: _) _ _
           refine wpList_boxA_load rowRv rfl _ rfl J (resvA q3 n3 c3 rr) rfl rfl JZ.out ?_)
        | (with_reducible show wpList _ _ _ (⟨_, Op.store rvT (.tmp 4) _, _, _, _, none⟩ :: _) _ _
           refine wpList_boxA_put rowRv rfl _ _ rfl rfl (w.heap.size + 1 + 1) (resvA q3 n3 c3 rr) _ rfl (rvA_one _ _ _ _) rfl rfl rfl TZ.out.r ?_
           intro w9 x9 k9 s9
           have T9 := Lib.hid (TZ.out.setR x9 k9)
           have O9 := Lib.hid (keepR OZ.out k9 s9 (fun B hB => by have := own_at OZ.out B hB; omega))
           clear x9 k9 s9))
      exact bodyPost_ret (results_cell_row_tmp rfl _ _ (w.heap.size + 1 + 1) rvT (resvA q3 n3 c3 rr) (0, 0) _ rfl T9.out.r Try.underlying24 rfl (rvA_size _ _ _ _)) rfl ⟨q3, n3, c3, rfl, OwnL.lower O9.out (by omega), T9.out.low⟩
    · refine tree_one rfl rfl (fun K hK => ?_)
      refine done_boxA_new rowRv rfl ?_
      intro y2 x l s
      have JY2 := Lib.hid (show BoxA y2 y1.heap.size rvT _ from x)
      have TY2 := Lib.hid (TY1.out.mono l)
      have OD := Lib.hid ((OwnL.below OC.out (Nat.le_refl _) l).raise l.size)
      have BD := Lib.hid (show w.heap.size + 1 + 1 + 1 ≤ y2.heap.size from Nat.le_trans BC.out l.size)
      have HJJ := Lib.hid (show w.heap.size + 1 + 1 < y1.heap.size from TY1.out.r.lt)
      clear x l s OC BC
      refine ⟨⟨TY2.out.s, TY2.out.p⟩, ?_⟩
      go_simp
      refine hK _ _ ?_
      clear hK K
      generalize y1.heap.size = J at *
      refine tree_one rfl rfl (fun K hK => ?_)
      refine done_call2 _ _ _ _ rfl 32 rfl (.agg (resvA q2 n2 c2 r)) (.agg (ropA o)) rfl rfl (enters_of Try.func32 (by kernel_rfl) rfl) ?_
      have RC := Lib.hid (rvAt_own OD.out OKR.out FEW.out)
      refine (HRN.out _ _ _ _ OD.out BD.out RC.out).mono ?_
      rintro e y3 ⟨q3, n3, c3, rfl, ho, hb⟩
      have ON := Lib.hid ho
      have TY3 := Lib.hid (TY2.out.mono hb)
      have JY3 := Lib.hid (JY2.out.keep (hb.block _ JY2.out.lt))
      clear RC hb ho
      refine ⟨_, rfl, ⟨TY3.out.s, TY3.out.p⟩, ?_⟩
      go_simp
      refine hK _ _ ?_
      clear hK K
      refine tree_float rfl rfl (fun K hK => ?_)
      refine gives_move _ rfl ?_
      go_simp
      refine hK _ ?_
      clear hK K
      refine tree_float rfl rfl (fun K hK => ?_)
      refine gives_extract _ 0 rfl _ rfl (.agg (resvA q3 n3 c3 rr)) rfl ?_
      go_simp
      refine hK _ ?_
      clear hK K
      refine tree_float rfl rfl (fun K hK => ?_)
      refine gives_extract _ 1 rfl _ rfl .nilIface rfl ?_
      go_simp
      refine hK _ ?_
      clear hK K
      refine tree_one rfl rfl (fun K hK => ?_)
      refine done_boxA_put rowRv _ _ rfl J (resvA q3 n3 c3 rr) _ rfl (rvA_one _ _ _ _) rfl rfl rfl JY3.out ?_
      intro wz x k s
      have JZ := Lib.hid x
      have TZ := Lib.hid (ThS.keepB TY3.out k HJJ.out)
      have OZ := Lib.hid (keepR ON.out k s (own_ne_box ON.out JY3.out))
      clear x k s
      refine ⟨⟨TZ.out.s, TZ.out.p⟩, ?_⟩
      go_simp
      refine hK _ _ ?_
      clear hK K
      refine tree_float rfl rfl (fun K hK => ?_)
      refine gives_assign _ rfl ?_
      go_simp
      refine hK _ ?_
      clear hK K
      refine tree_over ?_
      go_wp2_with (first
        | (with_reducible show wpList _ _ _ (⟨_, Op.load rvT _, _, _, _, none⟩ :: _) _ _
           refine wpList_boxA_load rowRv rfl _ rfl J (resvA q3 n3 c3 rr) rfl rfl JZ.out ?_)
        | (with_reducible show wpList _ _ _ (⟨_, Op.store rvT (.tmp 4) _, _, _, _, none⟩ :: _) _ _
           refine wpList_boxA_put rowRv rfl _ _ rfl rfl (w.heap.size + 1 + 1) (resvA q3 n3 c3 rr) _ rfl (rvA_one _ _ _ _) rfl rfl rfl TZ.out.r ?_
           intro w9 x9 k9 s9
           have T9 := Lib.hid (TZ.out.setR x9 k9)
           have O9 := Lib.hid (keepR OZ.out k9 s9 (fun B hB => by have := own_at OZ.out B hB; omega))
           clear x9 k9 s9))
      exact bodyPost_ret (results_cell_row_tmp rfl _ _ (w.heap.size + 1 + 1) rvT (resvA q3 n3 c3 rr) (0, 0) _ rfl T9.out.r Try.underlying24 rfl (rvA_size _ _ _ _)) rfl ⟨q3, n3, c3, rfl, OwnL.lower O9.out (by omega), T9.out.low⟩
  · refine tree_one rfl rfl (fun K hK => ?_)
    refine done_boxA_new rowRv rfl ?_
    intro y1 x l s
    have JY1 := Lib.hid (show BoxA y1 w6.heap.size rvT _ from x)
    have TY1 := Lib.hid (TD.out.mono l)
    have HJJ := Lib.hid (show w.heap.size + 1 + 1 < w6.heap.size from TD.out.r.lt)
    clear x l s
    refine ⟨⟨TY1.out.s, TY1.out.p⟩, ?_⟩
    go_simp
    refine hK _ _ ?_
    clear hK K
    generalize w6.heap.size = J at *
    refine tree_one rfl rfl (fun K hK => ?_)
    refine done_call1' _ _ _ rfl 33 rfl (.agg (resvA q n c r)) rfl (enters_of Try.func33 (by kernel_rfl) rfl) ?_
    refine (HCP.out _ TY1.out.low).mono ?_
    rintro e y2 ⟨q2, n2, c2, rfl, ho, hb⟩
    have TY2 := Lib.hid (TY1.out.mono hb)
    have OC := Lib.hid (OwnL.lower ho TY1.out.r.lt)
    have BC := Lib.hid (show w.heap.size + 1 + 1 + 1 ≤ y2.heap.size from Nat.le_trans TY1.out.r.lt hb.size)
    have JY2 := Lib.hid (JY1.out.keep (hb.block _ JY1.out.lt))
    clear ho hb
    refine ⟨_, rfl, ⟨TY2.out.s, TY2.out.p⟩, ?_⟩
    go_simp
    refine hK _ _ ?_
    clear hK K
    refine tree_one rfl rfl (fun K hK => ?_)
    refine done_call2 _ _ _ _ rfl 32 rfl (.agg (resvA q2 n2 c2 r)) (.agg (ropA o)) rfl rfl (enters_of Try.func32 (by kernel_rfl) rfl) ?_
    have RC := Lib.hid (rvAt_own OC.out OKR.out FEW.out)
    refine (HRN.out _ _ _ _ OC.out BC.out RC.out).mono ?_
    rintro e y3 ⟨q3, n3, c3, rfl, ho, hb⟩
    have ON := Lib.hid ho
    have TY3 := Lib.hid (TY2.out.mono hb)
    have JY3 := Lib.hid (JY2.out.keep (hb.block _ JY2.out.lt))
    clear RC hb ho
    refine ⟨_, rfl, ⟨TY3.out.s, TY3.out.p⟩, ?_⟩
    go_simp
    refine hK _ _ ?_
    clear hK K
    refine tree_float rfl rfl (fun K hK => ?_)
    refine gives_move _ rfl ?_
    go_simp
    refine hK _ ?_
    clear hK K
    refine tree_float rfl rfl (fun K hK => ?_)
    refine gives_extract _ 0 rfl _ rfl (.agg (resvA q3 n3 c3 rr)) rfl ?_
    go_simp
    refine hK _ ?_
    clear hK K
    refine tree_float rfl rfl (fun K hK => ?_)
    refine gives_extract _ 1 rfl _ rfl .nilIface rfl ?_
    go_simp
    refine hK _ ?_
    clear hK K
    refine tree_one rfl rfl (fun K hK => ?_)
    refine done_boxA_put rowRv _ _ rfl J (resvA q3 n3 c3 rr) _ rfl (rvA_one _ _ _ _) rfl rfl rfl JY3.out ?_
    intro wz x k s
    have JZ := Lib.hid x
    have TZ := Lib.hid (ThS.keepB TY3.out k HJJ.out)
    have OZ := Lib.hid (keepR ON.out k s (own_ne_box ON.out JY3.out))
    clear x k s
    refine ⟨⟨TZ.out.s, TZ.out.p⟩, ?_⟩
    go_simp
    refine hK _ _ ?_
    clear hK K
    refine tree_float rfl rfl (fun K hK => ?_)
    refine gives_assign _ rfl ?_
    go_simp
    refine hK _ ?_
    clear hK K
    refine tree_over ?_
    go_wp2_with (first
      | (with_reducible show wpList _ _ _ (⟨_, Op.load rvT _, _, _, _, none⟩ :: _) _ _
         refine wpList_boxA_load rowRv rfl _ rfl J (resvA q3 n3 c3 rr) rfl rfl JZ.out ?_)
      | (with_reducible show wpList _ _ _ (⟨_, Op.store rvT (.tmp 4) _, _, _, _, none⟩ :: _) _ _
         refine wpList_boxA_put rowRv rfl _ _ rfl rfl (w.heap.size + 1 + 1) (resvA q3 n3 c3 rr) _ rfl (rvA_one _ _ _ _) rfl rfl rfl TZ.out.r ?_
         intro w9 x9 k9 s9
         have T9 := Lib.hid (TZ.out.setR x9 k9)
         have O9 := Lib.hid (keepR OZ.out k9 s9 (fun B hB => by have := own_at OZ.out B hB; omega))
         clear x9 k9 s9))
    exact bodyPost_ret (results_cell_row_tmp rfl _ _ (w.heap.size + 1 + 1) rvT (resvA q3 n3 c3 rr) (0, 0) _ rfl T9.out.r Try.underlying24 rfl (rvA_size _ _ _ _)) rfl ⟨q3, n3, c3, rfl, OwnL.lower O9.out (by omega), T9.out.low⟩
set_option maxRecDepth 100000 in
set_option maxHeartbeats 16000000 in
theorem do_fails {w : World} {q : Option Addr} {n c : Nat} {r : ResvOf} (hq : RvAt w q n c r) (o : ROp) (hg : GoodR r) (hw : wellR o = true) (he : entR r o = true) {rr : ResvOf} {z : Int} (hr : runP r o = (rr, z)) (hz : z ≠ 0) :
    Calls Try.prog 10 #[.agg (resvA q n c r), .agg (ropA o)] w fun e w' => e = .returned (.tuple #[.agg (resvA none 0 0 nobodyR), .iface 45 (.int .i64 z)]) ∧ Below w.heap.size w w' := by
  have HC := Lib.hid (fun (W : World) (hb : Below w.heap.size w W) => (check_good (RvAt.below hq hb) (good_iff.2 hg) : Calls Try.prog 14 #[.agg (resvA q n c r)] W fun e w' => e = .returned .nilIface ∧ Below W.heap.size W w'))
  have HF := Lib.hid (fun (W : World) => (by have h := inForm_any W o; rw [hw] at h; exact h : Calls Try.prog 29 #[.agg (ropA o)] W fun e w' => e = .returned (.bool true) ∧ Below W.heap.size W w'))
  have HE := Lib.hid (fun (W : World) (hb : Below w.heap.size w W) => (by have h := entitled_any (RvAt.below hq hb) hg hw; rw [he] at h; exact h : Calls Try.prog 31 #[.agg (resvA q n c r), .agg (ropA o)] W fun e w' => e = .returned (.bool true) ∧ Below W.heap.size W w'))
  have HCP := Lib.hid (fun (W : World) (hb : Below w.heap.size w W) => copied_any (c := c) (RowsAt.below hq.at_ hb) hq.len hq.few)
  have OKR := Lib.hid hq.ok
  have FEW := Lib.hid hg.few
  have HRN := Lib.hid (fun (W : World) q2 n2 c2 (h1 : OwnL rgT 2 regC W (w.heap.size + 1 + 1 + 1) W.heap.size (.slice q2 n2 c2) r.regs) (h2 : w.heap.size + 1 + 1 + 1 ≤ W.heap.size) (h3 : RvAt W q2 n2 c2 r) => (by
    refine (runP_any h1 h2 h3 hg hw).mono ?_
    rintro e w' ⟨q', m, c', rr', z', rfl, hz', ho, hb⟩
    rw [hr] at hz'
    cases hz'
    exact ⟨q', m, c', rr, by rw [errN_not hz], hb⟩ : Calls Try.prog 32 #[.agg (resvA q2 n2 c2 r), .agg (ropA o)] W fun e w' => ∃ q' m c' rr', e = .returned (.tuple #[.agg (resvA q' m c' rr'), .iface 45 (.int .i64 z)]) ∧ Below W.heap.size W w'))
  clear hq hg hr hw he
  go_enter Try.func10, Try.ntmps10
  go_wp2_with (first
    | (with_reducible show wpList _ _ _ (⟨_, Op.box rvT _, _, _, _, none⟩ :: _) _ _
       refine wpList_boxA_of rfl _ rfl (resvA q n c r) rfl ?_
       intro w1 x1 l1 s1
       have X1 := Lib.hid x1
       have L1 := Lib.hid l1
       have S1 := Lib.hid s1
       clear x1 l1 s1)
    | (with_reducible show wpList _ _ _ (⟨_, Op.box roT _, _, _, _, none⟩ :: _) _ _
       refine wpList_boxA_of rfl _ rfl (ropA o) rfl ?_
       intro w2 x2 l2 s2
       rw [S1.out] at x2 s2
       rw [S1.out]
       have X2 := Lib.hid x2
       have L2 := Lib.hid l2
       have S2 := Lib.hid s2
       clear x2 l2 s2)
    | (with_reducible show wpList _ _ _ (⟨_, Op.alloc rvT, _, _, _, _⟩ :: _) _ _
       refine wpList_boxA_new rowRv rfl rfl (w.heap.size + 1 + 1) S2.out ?_
       intro w3 x3 l3 s3
       have T3 := Lib.hid (new3 X1.out L1.out S1.out X2.out L2.out S2.out x3 l3)
       obtain ⟨c0, c1, c2, c3, c4⟩ := T3.out.c
       obtain ⟨d0, d1, d2, d3, d4, d5⟩ := T3.out.d
       clear x3 l3 s3 X1 L1 S1 X2 L2 S2)
    | (with_reducible show wpList _ _ _ (⟨_, Op.load rvT _, _, _, _, none⟩ :: _) _ _
       refine wpList_boxA_load rowRv rfl _ rfl w.heap.size (resvA q n c r) rfl rfl T3.out.s ?_)
    | (go_at_call 14
       refine (HC.out _ T3.out.low).mono ?_; rintro e w4 ⟨rfl, hb4⟩
       have T4 := Lib.hid (T3.out.mono hb4)
       clear hb4 T3 c0 c1 c2 c3 c4 d0 d1 d2 d3 d4 d5 HC)
    | (with_reducible show wpList _ _ _ (⟨_, Op.load roT _, _, _, _, some _⟩ :: _) _ _
       refine wpList_boxA_loadw rowOp _ rfl rfl (w.heap.size + 1) (ropA o) rfl rfl T4.out.p ?_)
    | (go_at_call 29
       refine (HF.out _).mono ?_; rintro e w5 ⟨rfl, hb5⟩
       have T5 := Lib.hid (T4.out.mono hb5)
       clear hb5 T4 HF)
    | (with_reducible show wpList _ _ _ (⟨_, Op.load rvT _, _, _, _, none⟩ :: _) _ _
       refine wpList_boxA_load rowRv rfl _ rfl w.heap.size (resvA q n c r) rfl rfl T5.out.s ?_)
    | (with_reducible show wpList _ _ _ (⟨_, Op.load roT _, _, _, _, none⟩ :: _) _ _
       refine wpList_boxA_load rowOp rfl _ rfl (w.heap.size + 1) (ropA o) rfl rfl T5.out.p ?_)
    | (go_at_call 31
       refine (HE.out _ T5.out.low).mono ?_; rintro e w6 ⟨rfl, hb6⟩
       have T6 := Lib.hid (T5.out.mono hb6)
       clear hb6 T5 HE))
  refine wp_region_tree (.float 0 (.float 2 (.two 1 (.two 3 (.float 4 (.float 5 (.float 6 (.one 7 (.one 8 (.float 9 .over)))))) 7 (.one 3 (.float 4 (.float 5 (.float 6 (.one 8 (.float 9 .over))))))) 7 (.one 1 (.one 3 (.float 4 (.float 5 (.float 6 (.one 8 (.float 9 .over)))))))))) (fun V => BoxA V w.heap.size rvT (resvA q n c r) ∧ BoxA V (w.heap.size + 1) roT (ropA o)) (by kernel_rfl) (by kernel_rfl) ⟨T6.out.s, T6.out.p⟩ ?_
  refine tree_float rfl rfl (fun K hK => ?_)
  refine gives_boxA_load rowRv _ rfl w.heap.size (resvA q n c r) rfl rfl (fun V hV => hV.1) ?_
  go_simp
  refine hK _ ?_
  clear hK K
  refine tree_float rfl rfl (fun K hK => ?_)
  refine gives_boxA_load rowOp _ rfl (w.heap.size + 1) (ropA o) rfl rfl (fun V hV => hV.2) ?_
  go_simp
  refine hK _ ?_
  clear hK K
  have TD := Lib.hid T6.out.drew
  clear T6
  refine tree_two ?_ ?_
  · refine tree_one rfl rfl (fun K hK => ?_)
    refine done_call1' _ _ _ rfl 33 rfl (.agg (resvA q n c r)) rfl (enters_of Try.func33 (by kernel_rfl) rfl) ?_
    refine (HCP.out _ TD.out.low).mono ?_
    rintro e y1 ⟨q2, n2, c2, rfl, ho, hb⟩
    have TY1 := Lib.hid (TD.out.mono hb)
    have OC := Lib.hid (OwnL.lower ho TD.out.r.lt)
    have BC := Lib.hid (show w.heap.size + 1 + 1 + 1 ≤ y1.heap.size from Nat.le_trans TD.out.r.lt hb.size)
    clear ho hb
    refine ⟨_, rfl, ⟨TY1.out.s, TY1.out.p⟩, ?_⟩
    go_simp
    refine hK _ _ ?_
    clear hK K
    refine tree_two ?_ ?_
    · refine tree_one rfl rfl (fun K hK => ?_)
      refine done_call2 _ _ _ _ rfl 32 rfl (.agg (resvA q2 n2 c2 r)) (.agg (ropA o)) rfl rfl (enters_of Try.func32 (by kernel_rfl) rfl) ?_
      have RC := Lib.hid (rvAt_own OC.out OKR.out FEW.out)
      refine (HRN.out _ _ _ _ OC.out BC.out RC.out).mono ?_
      rintro e y2 ⟨q3, n3, c3, rr, rfl, hb⟩
      have TY2 := Lib.hid (TY1.out.mono hb)
      clear RC hb
      refine ⟨_, rfl, ⟨TY2.out.s, TY2.out.p⟩, ?_⟩
      go_simp
      refine hK _ _ ?_
      clear hK K
      refine tree_float rfl rfl (fun K hK => ?_)
      refine gives_move _ rfl ?_
      go_simp
      refine hK _ ?_
      clear hK K
      refine tree_float rfl rfl (fun K hK => ?_)
      refine gives_extract _ 0 rfl _ rfl (.agg (resvA q3 n3 c3 rr)) rfl ?_
      go_simp
      refine hK _ ?_
      clear hK K
      refine tree_float rfl rfl (fun K hK => ?_)
      refine gives_extract _ 1 rfl _ rfl (.iface 45 (.int .i64 z)) rfl ?_
      go_simp
      refine hK _ ?_
      clear hK K
      refine tree_one rfl rfl (fun K hK => ?_)
      refine done_boxA_new rowRv rfl ?_
      intro y3 x l s
      have JY3 := Lib.hid (show BoxA y3 y2.heap.size rvT _ from x)
      have TY3 := Lib.hid (TY2.out.mono l)
      have HJJ := Lib.hid (show w.heap.size + 1 + 1 < y2.heap.size from TY2.out.r.lt)
      clear x l s
      refine ⟨⟨TY3.out.s, TY3.out.p⟩, ?_⟩
      go_simp
      refine hK _ _ ?_
      clear hK K
      generalize y2.heap.size = J at *
      refine tree_one rfl rfl (fun K hK => ?_)
      refine done_boxA_put rowRv _ _ rfl J (resvA q3 n3 c3 rr) _ rfl (rvA_one _ _ _ _) rfl rfl rfl JY3.out ?_
      intro wz x k s
      have JZ := Lib.hid x
      have TZ := Lib.hid (ThS.keepB TY3.out k HJJ.out)
      clear x k s
      refine ⟨⟨TZ.out.s, TZ.out.p⟩, ?_⟩
      go_simp
      refine hK _ _ ?_
      clear hK K
      refine tree_float rfl rfl (fun K hK => ?_)
      refine gives_assign _ rfl ?_
      go_simp
      refine hK _ ?_
      clear hK K
      refine tree_over ?_
      go_wp2_with (first
        | (go_at_call 30
           refine (nobodys_any _).mono ?_; rintro e w7 ⟨rfl, hb7⟩
           have T7 := Lib.hid (TZ.out.mono hb7)
           clear hb7 TZ)
        | (with_reducible show wpList _ _ _ (⟨_, Op.store rvT (.tmp 4) _, _, _, _, none⟩ :: _) _ _
           refine wpList_boxA_put rowRv rfl _ _ rfl rfl (w.heap.size + 1 + 1) (resvA none 0 0 nobodyR) _ rfl (rvA_one _ _ _ _) rfl rfl rfl T7.out.r ?_
           intro w9 x9 k9 s9
           have T9 := Lib.hid (T7.out.setR x9 k9)
           clear x9 k9 s9))
      exact bodyPost_ret (results_cell_row_tmp rfl _ _ (w.heap.size + 1 + 1) rvT (resvA none 0 0 nobodyR) (0, 0) _ rfl T9.out.r Try.underlying24 rfl (rvA_size _ _ _ _)) rfl ⟨rfl, T9.out.low⟩
    · refine tree_one rfl rfl (fun K hK => ?_)
      refine done_boxA_new rowRv rfl ?_
      intro y2 x l s
      have JY2 := Lib.hid (show BoxA y2 y1.heap.size rvT _ from x)
      have TY2 := Lib.hid (TY1.out.mono l)
      have OD := Lib.hid ((OwnL.below OC.out (Nat.le_refl _) l).raise l.size)
      have BD := Lib.hid (show w.heap.size + 1 + 1 + 1 ≤ y2.heap.size from Nat.le_trans BC.out l.size)
      have HJJ := Lib.hid (show w.heap.size + 1 + 1 < y1.heap.size from TY1.out.r.lt)
      clear x l s OC BC
      refine ⟨⟨TY2.out.s, TY2.out.p⟩, ?_⟩
      go_simp
      refine hK _ _ ?_
      clear hK K
      generalize y1.heap.size = J at *
      refine tree_one rfl rfl (fun K hK => ?_)
      refine done_call2 _ _ _ _ rfl 32 rfl (.agg (resvA q2 n2 c2 r)) (.agg (ropA o)) rfl rfl (enters_of Try.func32 (by kernel_rfl) rfl) ?_
      have RC := Lib.hid (rvAt_own OD.out OKR.out FEW.out)
      refine (HRN.out _ _ _ _ OD.out BD.out RC.out).mono ?_
      rintro e y3 ⟨q3, n3, c3, rr, rfl, hb⟩
      have TY3 := Lib.hid (TY2.out.mono hb)
      have JY3 := Lib.hid (JY2.out.keep (hb.block _ JY2.out.lt))
      clear RC hb
      refine ⟨_, rfl, ⟨TY3.out.s, TY3.out.p⟩, ?_⟩
      go_simp
      refine hK _ _ ?_
      clear hK K
      refine tree_float rfl rfl (fun K hK => ?_)
      refine gives_move _ rfl ?_
      go_simp
      refine hK _ ?_
      clear hK K
      refine tree_float rfl rfl (fun K hK => ?_)
      refine gives_extract _ 0 rfl _ rfl (.agg (resvA q3 n3 c3 rr)) rfl ?_
      go_simp
      refine hK _ ?_
      clear hK K
      refine tree_float rfl rfl (fun K hK => ?_)
      refine gives_extract _ 1 rfl _ rfl (.iface 45 (.int .i64 z)) rfl ?_
      go_simp
      refine hK _ ?_
      clear hK K
      refine tree_one rfl rfl (fun K hK => ?_)
      refine done_boxA_put rowRv _ _ rfl J (resvA q3 n3 c3 rr) _ rfl (rvA_one _ _ _ _) rfl rfl rfl JY3.out ?_
      intro wz x k s
      have JZ := Lib.hid x
      have TZ := Lib.hid (ThS.keepB TY3.out k HJJ.out)
      clear x k s
      refine ⟨⟨TZ.out.s, TZ.out.p⟩, ?_⟩
      go_simp
      refine hK _ _ ?_
      clear hK K
      refine tree_float rfl rfl (fun K hK => ?_)
      refine gives_assign _ rfl ?_
      go_simp
      refine hK _ ?_
      clear hK K
      refine tree_over ?_
      go_wp2_with (first
        | (go_at_call 30
           refine (nobodys_any _).mono ?_; rintro e w7 ⟨rfl, hb7⟩
           have T7 := Lib.hid (TZ.out.mono hb7)
           clear hb7 TZ)
        | (with_reducible show wpList _ _ _ (⟨_, Op.store rvT (.tmp 4) _, _, _, _, none⟩ :: _) _ _
           refine wpList_boxA_put rowRv rfl _ _ rfl rfl (w.heap.size + 1 + 1) (resvA none 0 0 nobodyR) _ rfl (rvA_one _ _ _ _) rfl rfl rfl T7.out.r ?_
           intro w9 x9 k9 s9
           have T9 := Lib.hid (T7.out.setR x9 k9)
           clear x9 k9 s9))
      exact bodyPost_ret (results_cell_row_tmp rfl _ _ (w.heap.size + 1 + 1) rvT (resvA none 0 0 nobodyR) (0, 0) _ rfl T9.out.r Try.underlying24 rfl (rvA_size _ _ _ _)) rfl ⟨rfl, T9.out.low⟩
  · refine tree_one rfl rfl (fun K hK => ?_)
    refine done_boxA_new rowRv rfl ?_
    intro y1 x l s
    have JY1 := Lib.hid (show BoxA y1 w6.heap.size rvT _ from x)
    have TY1 := Lib.hid (TD.out.mono l)
    have HJJ := Lib.hid (show w.heap.size + 1 + 1 < w6.heap.size from TD.out.r.lt)
    clear x l s
    refine ⟨⟨TY1.out.s, TY1.out.p⟩, ?_⟩
    go_simp
    refine hK _ _ ?_
    clear hK K
    generalize w6.heap.size = J at *
    refine tree_one rfl rfl (fun K hK => ?_)
    refine done_call1' _ _ _ rfl 33 rfl (.agg (resvA q n c r)) rfl (enters_of Try.func33 (by kernel_rfl) rfl) ?_
    refine (HCP.out _ TY1.out.low).mono ?_
    rintro e y2 ⟨q2, n2, c2, rfl, ho, hb⟩
    have TY2 := Lib.hid (TY1.out.mono hb)
    have OC := Lib.hid (OwnL.lower ho TY1.out.r.lt)
    have BC := Lib.hid (show w.heap.size + 1 + 1 + 1 ≤ y2.heap.size from Nat.le_trans TY1.out.r.lt hb.size)
    have JY2 := Lib.hid (JY1.out.keep (hb.block _ JY1.out.lt))
    clear ho hb
    refine ⟨_, rfl, ⟨TY2.out.s, TY2.out.p⟩, ?_⟩
    go_simp
    refine hK _ _ ?_
    clear hK K
    refine tree_one rfl rfl (fun K hK => ?_)
    refine done_call2 _ _ _ _ rfl 32 rfl (.agg (resvA q2 n2 c2 r)) (.agg (ropA o)) rfl rfl (enters_of Try.func32 (by kernel_rfl) rfl) ?_
    have RC := Lib.hid (rvAt_own OC.out OKR.out FEW.out)
    refine (HRN.out _ _ _ _ OC.out BC.out RC.out).mono ?_
    rintro e y3 ⟨q3, n3, c3, rr, rfl, hb⟩
    have TY3 := Lib.hid (TY2.out.mono hb)
    have JY3 := Lib.hid (JY2.out.keep (hb.block _ JY2.out.lt))
    clear RC hb
    refine ⟨_, rfl, ⟨TY3.out.s, TY3.out.p⟩, ?_⟩
    go_simp
    refine hK _ _ ?_
    clear hK K
    refine tree_float rfl rfl (fun K hK => ?_)
    refine gives_move _ rfl ?_
    go_simp
    refine hK _ ?_
    clear hK K
    refine tree_float rfl rfl (fun K hK => ?_)
    refine gives_extract _ 0 rfl _ rfl (.agg (resvA q3 n3 c3 rr)) rfl ?_
    go_simp
    refine hK _ ?_
    clear hK K
    refine tree_float rfl rfl (fun K hK => ?_)
    refine gives_extract _ 1 rfl _ rfl (.iface 45 (.int .i64 z)) rfl ?_
    go_simp
    refine hK _ ?_
    clear hK K
    refine tree_one rfl rfl (fun K hK => ?_)
    refine done_boxA_put rowRv _ _ rfl J (resvA q3 n3 c3 rr) _ rfl (rvA_one _ _ _ _) rfl rfl rfl JY3.out ?_
    intro wz x k s
    have JZ := Lib.hid x
    have TZ := Lib.hid (ThS.keepB TY3.out k HJJ.out)
    clear x k s
    refine ⟨⟨TZ.out.s, TZ.out.p⟩, ?_⟩
    go_simp
    refine hK _ _ ?_
    clear hK K
    refine tree_float rfl rfl (fun K hK => ?_)
    refine gives_assign _ rfl ?_
    go_simp
    refine hK _ ?_
    clear hK K
    refine tree_over ?_
    go_wp2_with (first
      | (go_at_call 30
         refine (nobodys_any _).mono ?_; rintro e w7 ⟨rfl, hb7⟩
         have T7 := Lib.hid (TZ.out.mono hb7)
         clear hb7 TZ)
      | (with_reducible show wpList _ _ _ (⟨_, Op.store rvT (.tmp 4) _, _, _, _, none⟩ :: _) _ _
         refine wpList_boxA_put rowRv rfl _ _ rfl rfl (w.heap.size + 1 + 1) (resvA none 0 0 nobodyR) _ rfl (rvA_one _ _ _ _) rfl rfl rfl T7.out.r ?_
         intro w9 x9 k9 s9
         have T9 := Lib.hid (T7.out.setR x9 k9)
         clear x9 k9 s9))
    exact bodyPost_ret (results_cell_row_tmp rfl _ _ (w.heap.size + 1 + 1) rvT (resvA none 0 0 nobodyR) (0, 0) _ rfl T9.out.r Try.underlying24 rfl (rvA_size _ _ _ _)) rfl ⟨rfl, T9.out.low⟩
theorem Do_any {w : World} {q : Option Addr} {n c : Nat} {r : ResvOf} (o : ROp) (hq : RvAt w q n c r) :
    Calls Try.prog 10 #[.agg (resvA q n c r), .agg (ropA o)] w fun e w' => ∃ q' n' c', e = .returned (.tuple #[.agg (resvA q' n' c' (doR r o).1), errN (doR r o).2]) ∧ OwnR w w' q' n' c' (doR r o).1.regs ∧ Below w.heap.size w w' := by
  have none2 : ∀ z : Int, z ≠ 0 → doR r o = (nobodyR, z) → ∀ (e : Ending) (w' : World), (e = .returned (.tuple #[.agg (resvA none 0 0 nobodyR), .iface 45 (.int .i64 z)]) ∧ Below w.heap.size w w') → ∃ q' n' c', e = .returned (.tuple #[.agg (resvA q' n' c' (doR r o).1), errN (doR r o).2]) ∧ OwnR w w' q' n' c' (doR r o).1.regs ∧ Below w.heap.size w w' := by
    rintro z hz hd e w' ⟨rfl, hb⟩
    rw [hd, errN_not hz]
    exact ⟨none, 0, 0, rfl, OwnL.nil _ _ _ _ _ _, hb⟩
  cases hg : goodR r with
  | false => exact (do_form1 hq o hg).mono fun e w' h => none2 2 (by decide) (do_bad (.inl hg)) e w' h
  | true =>
    have g := good_iff.1 hg
    cases hw : wellR o with
    | false => exact (do_form2 hq o g hw).mono fun e w' h => none2 2 (by decide) (do_bad (.inr hw)) e w' h
    | true =>
      cases he : entR r o with
      | false => exact (do_conf hq o g hw he).mono fun e w' h => none2 9 (by decide) (do_conflict g hw he) e w' h
      | true =>
        obtain ⟨rr, z, hr⟩ : ∃ rr z, runP r o = (rr, z) := ⟨_, _, rfl⟩
        have hd := do_good0 g hw he hr
        by_cases hz : z = 0
        · subst hz
          rw [if_pos rfl] at hd
          refine (do_runs hq o g hw he hr).mono ?_
          rintro e w' ⟨q', m, c', rfl, ho, hb⟩
          rw [hd, errN_zero]
          exact ⟨q', m, c', rfl, ho, hb⟩
        · rw [if_neg hz] at hd
          exact (do_fails hq o g hw he hr hz).mono fun e w' h => none2 z hz hd e w' h
/-- What stage 14's laws ask of package resv holds of it. -/
theorem resvSpec : ResvSpec where
  do_ := fun o hq _ => Do_any o hq
  check := fun hq => Check_any hq
  allowed := fun who acc _ _ hq hg => Allowed_any hq (good_iff.1 hg) who acc
  holders := fun hq hg => (Holders_any hq (good_iff.1 hg)).mono fun e w' ⟨v, T, h1, h2, h3, h4⟩ => ⟨v, T, h1, h2, fun k hk => .inr (h3 k hk), h4⟩
end Go.Proofs.Ytfnkdmdcjliebaa
