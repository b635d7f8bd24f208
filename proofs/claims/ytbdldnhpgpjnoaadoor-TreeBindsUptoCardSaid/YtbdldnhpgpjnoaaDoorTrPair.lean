/- Pairs of tags: made, written, read, compared, in and out of rounds; regions within a round whose order Go leaves open. Conditions: as each says. -/
import Derived.Test.YtbdldnhpgpjnoaaDoorTrBind
namespace Go.Proofs.YtbdldnhpgpjnoaaDoor
open Go.ChangeShapes Go.WideShapes Go.ChangeAt Go.RowKit
set_option linter.unusedVariables false
/-! ### Drawn orders, in a round -/
section
variable {P : Program} {C : World → Prop} {Q : Exit → Act → World → Prop} {l n : Nat}
theorem roundIn_sched {id : Nat} {a : Act} {w : World} {xs : List Oper} (s : List (Nat × Bool)) (C : World → Prop) (hm : P.follows .mixedOrders = true) (hB : (Region.noSelect xs.toArray && decide (s.length = xs.length) && schedB .any xs.toArray s (Array.replicate xs.length false)) = true) (hd : xs.all noDefer = true) (hq : ¬ LetsOut Q) (hC : C w.drew)
    (h : walkS P xs.toArray C (fun a' w' => Q .normal a' w') s a w.drew) : (Code.region id xs.toArray true).wpIn (Fence.wide.inRound l) n P Q a w := by
  simp only [Bool.and_eq_true, decide_eq_true_eq] at hB
  refine wpIn_region_any hm (wpAnyIn_round (fun o ho => List.all_eq_true.1 hd o (by simpa using ho)) hq _ _ _ _ ?_)
  have := any_of_anyC (Q := Q) (fun a w _ h => h) _ _ _ _ hC (anyC_sched (md := .any) hB.1.1 s _ a w.drew hC hB.2 h)
  rw [hB.1.2] at this
  simpa using this
theorem roundIn_tree {id : Nat} {a : Act} {w : World} {xs : List Oper} (t : Tree) (C : World → Prop) (hm : P.follows .mixedOrders = true) (hB : (Region.noSelect xs.toArray && decide (t.count = xs.length) && t.fits .any xs.toArray (Array.replicate xs.length false)) = true) (hd : xs.all noDefer = true) (hq : ¬ LetsOut Q) (hC : C w.drew)
    (h : walkT P xs.toArray C (fun a' w' => Q .normal a' w') t a w.drew) : (Code.region id xs.toArray true).wpIn (Fence.wide.inRound l) n P Q a w := by
  simp only [Bool.and_eq_true, decide_eq_true_eq] at hB
  refine wpIn_region_any hm (wpAnyIn_round (fun o ho => List.all_eq_true.1 hd o (by simpa using ho)) hq _ _ _ _ ?_)
  have := any_of_anyC (Q := Q) (fun a w _ h => h) _ _ _ _ hC (anyC_tree (md := .any) hB.1.1 t _ a w.drew hC hB.2 h)
  rw [hB.1.2] at this
  simpa using this
end
/-! ### Pairs -/
theorem pairZ_run (W : World) : (zeroValue 74).run Tryd.prog W = .ok (pairS nought nought) W := by
  have h : (Tryd.prog.info? 74).bind (·.zero) = some (pairS nought nought) := by kernel_rfl
  cases hq : Tryd.prog.info? 74 with
  | none => rw [hq] at h; simp at h
  | some i =>
    rw [hq] at h
    simp only [Option.bind_some] at h
    simp [zeroValue, typeInfo, hq, h]
theorem pair_flat (x y : List Int) : [x, y].flatMap sumC = sumC x ++ sumC y := by simp
theorem pair_there {w : World} {B : Nat} {a b : List Int} (h : SumsB w B [a, b]) : w.there B 0 64 := fun j hj => by
  have := h.there (k := j / 32) (by show j / 32 < 2; omega) (j % 32) (Nat.mod_lt _ (by decide))
  rw [show 0 + j = 32 * (j / 32) + j % 32 by omega]; exact this
theorem pair_range {w : World} {B : Nat} {a b : List Int} (h : SumsB w B [a, b]) : w.rangeAt B 0 (sumC a ++ sumC b) := fun j v hv => by
  by_cases hj : j < 32
  · rw [List.getElem?_append_left (by rw [sumC_len]; exact hj)] at hv
    exact h.rows 0 a rfl j v hv
  · rw [List.getElem?_append_right (by rw [sumC_len]; omega), sumC_len] at hv
    have := h.rows 1 b rfl (j - 32) v hv
    rw [show 32 * 1 + (j - 32) = 0 + j by omega] at this; exact this
section
variable {o : Oper} {a : Act} {w : World} {C : World → Prop} {K : Act → Prop} {KK : Value → World → Prop}
theorem gives_pair_build (u v : Operand) (ho : o.op = .build 74 #[(0, u), (1, v)]) (x y : List Int) (hu : a.eval u = sumVal x) (hv : a.eval v = sumVal y) (hk : K (a.put o.dst (pairS x y))) : ∃ v, Gives Tryd.prog C o a v ∧ K (a.put o.dst v) :=
  gives_build_any 74 _ #[(0, sumVal x), (1, sumVal y)] _ ho (by simp [hu, hv]) (fun w => run_build w 74 #[(0, sumVal x), (1, sumVal y)] _ (pair_built x y)) hk
theorem done_pair_alloc (ho : o.op = .alloc 74) (S : Nat) (hS : w.heap.size = S) (h : ∀ w', SumsB w' S [nought, nought] → Below S w w' → w'.heap.size = S + 1 → KK (.pointer (some ⟨S, 0, none⟩)) w') : doneAt Tryd.prog o a w KK := by
  subst hS
  have e := pairZ_run w
  unfold pairS at e
  rw [← pair_flat] at e
  unfold doneAt execOp
  simp only [ho]
  simp only [Instr.alloc, Sem.run_bind, e, Result.andThen_ok]
  exact h _ (SumsB.new w [nought, nought] _) ((Below.refl _ _).alloc (Nat.le_refl _) _) (by simp)
theorem done_sum_alloc (ho : o.op = .alloc 27) (S : Nat) (hS : w.heap.size = S) (h : ∀ w', SumsB w' S [nought] → Below S w w' → w'.heap.size = S + 1 → KK (.pointer (some ⟨S, 0, none⟩)) w') : doneAt Tryd.prog o a w KK := by
  subst hS
  have e := sumZ_run w
  rw [sumVal_cells] at e
  unfold doneAt execOp
  simp only [ho]
  simp [go_sem, e]
  exact h _ (SumsB.box w nought _) ((Below.refl _ _).alloc (Nat.le_refl _) _) (by simp)
theorem done_pair_store (x y : Operand) (ho : o.op = .store 74 x y) (B : Nat) (hx : a.eval x = .pointer (some ⟨B, 0, none⟩)) (c d : List Int) (hy : a.eval y = pairS c d) (e f : List Int) (hl : SumsB w B [e, f])
    (h : ∀ w', SumsB w' B [c, d] → But B w w' → w'.heap.size = w.heap.size → KK undef w') : doneAt Tryd.prog o a w KK := by
  unfold doneAt execOp
  unfold pairS at hy
  simp only [ho, hx, hy]
  have hsz : (sumC c ++ sumC d).toArray.size = 64 := by rw [List.size_toArray, List.length_append, sumC_len, sumC_len]
  rw [Sem.run_bind, run_storeAt_mid w B 0 74 (sumC c ++ sumC d).toArray (by rw [hsz]; exact pair_there hl) (by rw [hsz]; exact pair_size) (by rw [← pair_flat]; exact all_oneCell_toArray (sum_len1 _))]
  have ho2 := hl.over (k := 0) (m := [c, d]) (Nat.le_refl 2)
  rw [pair_flat] at ho2
  exact h _ ho2 (but_setCells B _ _ w) (size_setCells B _ _ w)
theorem pair_addr (x y : Operand) (ho : o.op = .indexAddr 74 x y) (B k : Nat) (hx : a.eval x = .pointer (some ⟨B, 0, none⟩)) (hy : a.eval y = .int .i64 k) (hk : k < 2) (w : World) : (execOp a.eval o).run Tryd.prog w = .ok (.value (.pointer (some ⟨B, 32 * k, none⟩))) w := by
  have h0 : (k : Int) < 2 := by omega
  have hi := sumSz
  cases hq : Tryd.prog.info? 27 with
  | none => simp [hq] at hi
  | some i =>
    have hs : i.size = 32 := by simpa [hq] using hi
    unfold execOp
    simp only [ho, hx, hy]
    simp [go_sem, h0, sizeOf, typeInfo, hq, hs, addr_add, Nat.mul_comm]
theorem gives_pair_addr (x y : Operand) (ho : o.op = .indexAddr 74 x y) (B k : Nat) (hx : a.eval x = .pointer (some ⟨B, 0, none⟩)) (hy : a.eval y = .int .i64 k) (hk' : k < 2) (hk : K (a.put o.dst (.pointer (some ⟨B, 32 * k, none⟩)))) : ∃ v, Gives Tryd.prog C o a v ∧ K (a.put o.dst v) :=
  ⟨_, fun w _ => pair_addr x y ho B k hx hy hk' w, hk⟩
theorem exec_pair_load (x : Operand) (ho : o.op = .load 74 x) (B : Nat) (hx : a.eval x = .pointer (some ⟨B, 0, none⟩)) (c d : List Int) (h : SumsB w B [c, d]) : (execOp a.eval o).run Tryd.prog w = .ok (.value (pairS c d)) w := by
  unfold execOp
  simp only [ho, hx, Instr.loadAt, Instr.sureAddr, Sem.run_bind, Sem.run_pure, Result.andThen_ok, run_loadVar_mid w B 0 74 (sumC c ++ sumC d) _ (pair_range h) pair_under rfl (by rw [List.length_append, sumC_len, sumC_len]; exact pair_size)]
  rfl
theorem exec_pair_neq (x y : Operand) (ho : o.op = .binOp .neq 74 x y 74) (c d e f : List Int) (hx : a.eval x = pairS c d) (hy : a.eval y = pairS e f) (hv : (sameSum c e && sameSum d f) = false) : (execOp a.eval o).run Tryd.prog w = .ok (.value (.bool true)) w := by
  unfold execOp
  simp only [ho, hx, hy]
  have q := run_neq_struct (P := Tryd.prog) w 74 (sumC c ++ sumC d).toArray (sumC e ++ sumC f).toArray
  have p := pair_eq c d e f w
  unfold pairS at p ⊢
  rw [p, hv] at q
  have g := run_eqGuard_agg (P := Tryd.prog) w .neq 74 x y (sumC c ++ sumC d).toArray (sumC e ++ sumC f).toArray (by kernel_rfl)
  simp only [Sem.run_bind, g, q, Result.andThen_ok, Sem.run_pure]
  rfl
end
theorem box_sums (w : World) : (isAgg 34).run Tryd.prog w = .ok false w := by simp [go_sem]
section
variable {o : Oper} {a : Act} {C : World → Prop} {K : Act → Prop}
theorem gives_any (v : Value) (h : ∀ w, (execOp a.eval o).run Tryd.prog w = .ok (.value v) w) (hk : K (a.put o.dst v)) : ∃ v, Gives Tryd.prog C o a v ∧ K (a.put o.dst v) := ⟨v, fun w _ => h w, hk⟩
theorem gives_twice (x : Operand) (ho : o.op = .binOp .mul 3 (.const (.int .i64 2)) x 3) (k : Nat) (hx : a.eval x = .int .i64 k) (hk' : k < 1000) (m : Nat) (hm : 2 * k = m) (hk : K (a.put o.dst (.int .i64 m))) : ∃ v, Gives Tryd.prog C o a v ∧ K (a.put o.dst v) :=
  gives_any _ (fun w => by
    have e : wrap64 (2 * (k : Int)) = (m : Int) := by rw [IntWalk.wrap64_in _ (by omega)]; omega
    have e2 : IntKind.i64.wrap (2 * (k : Int)) = (m : Int) := by rw [IntWalk.i64_in _ (by omega)]; omega
    unfold execOp
    simp only [ho, hx]
    simp [go_sem, e2, Act.eval]) hk
theorem gives_more (x : Operand) (ho : o.op = .binOp .add 3 x (.const (.int .i64 1)) 3) (k : Nat) (hx : a.eval x = .int .i64 k) (hk' : k < 1000) (m : Nat) (hm : k + 1 = m) (hk : K (a.put o.dst (.int .i64 m))) : ∃ v, Gives Tryd.prog C o a v ∧ K (a.put o.dst v) :=
  gives_any _ (fun w => by
    have e : wrap64 ((k : Int) + 1) = (m : Int) := by rw [IntWalk.wrap64_in _ (by omega)]; omega
    have e2 : IntKind.i64.wrap ((k : Int) + 1) = (m : Int) := by rw [IntWalk.i64_in _ (by omega)]; omega
    unfold execOp
    simp only [ho, hx]
    simp [go_sem, e2, Act.eval]) hk
theorem gives_three (x : Operand) (ho : o.op = .binOp .sub 3 (.const (.int .i64 3)) x 3) (k : Nat) (hx : a.eval x = .int .i64 k) (hk' : k ≤ 3) (m : Nat) (hm : 3 - k = m) (hk : K (a.put o.dst (.int .i64 m))) : ∃ v, Gives Tryd.prog C o a v ∧ K (a.put o.dst v) :=
  gives_any _ (fun w => by
    have e : wrap64 (3 - (k : Int)) = (m : Int) := by rw [IntWalk.wrap64_in _ (by omega)]; omega
    have e2 : IntKind.i64.wrap (3 - (k : Int)) = (m : Int) := by rw [IntWalk.i64_in _ (by omega)]; omega
    unfold execOp
    simp only [ho, hx]
    simp [go_sem, e2, Act.eval]) hk
theorem gives_unsign (x : Operand) (ho : o.op = .convert 3 41 x) (k : Nat) (hx : a.eval x = .int .i64 k) (hk' : k < 1000) (hk : K (a.put o.dst (.int .u64 k))) : ∃ v, Gives Tryd.prog C o a v ∧ K (a.put o.dst v) :=
  gives_any _ (fun w => by
    have e : IntKind.u64.wrap (k : Int) = (k : Int) := by rw [IntKind.wrap_u64]; omega
    unfold execOp
    simp only [ho, hx]
    simp [go_sem, e]) hk
theorem gives_shift (x y : Operand) (ho : o.op = .binOp .shr 3 x y 41) (b j : Nat) (hb : b < 16) (hj : j < 4) (hx : a.eval x = .int .i64 b) (hy : a.eval y = .int .u64 j) (m : Nat) (hm : b / 2 ^ j = m) (hk : K (a.put o.dst (.int .i64 m))) : ∃ v, Gives Tryd.prog C o a v ∧ K (a.put o.dst v) :=
  gives_any _ (fun w => by
    subst hm
    have h1 : b / 2 ^ j < 16 := Nat.lt_of_le_of_lt (Nat.div_le_self _ _) hb
    unfold execOp
    simp only [ho, hx, hy]
    simp [go_sem]) hk
theorem low_bit16 : ∀ b : Nat, b < 16 → bits BinOp.and IntKind.i64 (b : Int) 1 = (b : Int) % 2 := by decide
theorem gives_low (x : Operand) (ho : o.op = .binOp .and 3 x (.const (.int .i64 1)) 3) (b : Nat) (hb : b < 16) (hx : a.eval x = .int .i64 b) (m : Nat) (hm : b % 2 = m) (hk : K (a.put o.dst (.int .i64 m))) : ∃ v, Gives Tryd.prog C o a v ∧ K (a.put o.dst v) :=
  gives_any _ (fun w => by
    subst hm
    unfold execOp
    simp only [ho, hx]
    simp [go_sem, Act.eval, low_bit16 b hb]) hk
end
end Go.Proofs.YtbdldnhpgpjnoaaDoor
