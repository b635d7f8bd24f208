/- Operations on maps keyed by pairs; a line's sector and its mark; what CacheLast keeps. Conditions: as each says. -/
import Derived.Test.YtlaclakndleonaaCaMap
import Derived.Test.YtlaclakndleonaaCaReg
namespace Go.Proofs.Ytlaclakndleonaa
open Go.ChangeShapes Go.WideShapes Go.ChangeAt Go.RowKit
set_option linter.unusedVariables false
/-- A sector as a value. -/
theorem OpBox.w {W : World} {O : Nat} {c : OpOf} (h : OpBox W O c) : W.cell? ⟨O, 2, none⟩ = some (.int .i64 c.b) := h.cell 2
def cellV (s : List Int) : Value := .agg (cellsOf .u8 (mk 128 (natF s)))
theorem cellV_one {n : Nat} (h : n < 256) : .agg (cellsOf .u8 (mk 128 (oneB n))) = cellV (mk 128 (oneB n)) := by
  unfold cellV
  rw [(isSec_mk (f := oneB n) fun i _ => by unfold oneB; split <;> omega).mk']
theorem pair_built (u c : Int) : Try.prog.built 55 [(0, .int .i64 u), (1, .int .i64 c)] = some #[.int .i64 u, .int .i64 c] := by kernel_rfl
theorem run_pair (u c : Int) (w : World) : (Instr.build 55 #[(0, .int .i64 u), (1, .int .i64 c)]).run Try.prog w = .ok (pk u c) w := run_build w 55 _ _ (pair_built u c)
section
variable {ops : Array Oper} {rest : List Oper} {o : Oper} {a : Act} {w : World} {Q : Exit → Act → World → Prop} {C : World → Prop} {K : Act → Prop} {t e : TypeId} {b n : Nat} {z : Value} {f : Int → Int → Value}
theorem want_of {v : Value} (g : ∃ u, Gives Try.prog (fun W => W = w) o a u ∧ a.put o.dst u = a.put o.dst v) (hw : Region.wanted o (yielded ops a.tmps) = true) (h : wpList Try.prog ops Q rest (a.put o.dst v) w) : wpList Try.prog ops Q (o :: rest) a w := by
  obtain ⟨u, hu, hk⟩ := g
  exact wanted_step hw fun K hK => by
    unfold Oper.wp
    rw [hu w rfl]
    show K (a.put o.dst u) w
    rw [hk]
    exact hK _ _ h
theorem gives_pair (x y : Operand) (ho : o.op = .build 55 #[(0, x), (1, y)]) (u c : Int) (hx : a.eval x = .int .i64 u) (hy : a.eval y = .int .i64 c) (hk : K (a.put o.dst (pk u c))) : ∃ v, Gives Try.prog C o a v ∧ K (a.put o.dst v) :=
  gives_build_any _ _ #[(0, .int .i64 u), (1, .int .i64 c)] _ ho (by simp [hx, hy]) (run_pair u c) hk
theorem wpList_pair (hw : Region.wanted o (yielded ops a.tmps) = true) (x y : Operand) (ho : o.op = .build 55 #[(0, x), (1, y)]) (u c : Int) (hx : a.eval x = .int .i64 u) (hy : a.eval y = .int .i64 c) (h : wpList Try.prog ops Q rest (a.put o.dst (pk u c)) w) : wpList Try.prog ops Q (o :: rest) a w :=
  want_of (gives_pair (C := fun W => W = w) (K := fun a' => a' = a.put o.dst (pk u c)) x y ho u c hx hy rfl) hw h
theorem gives_sec1 (x : Operand) (ho : o.op = .build 40 #[(0, x)]) (m : Nat) (hm : m < 256) (hx : a.eval x = .int .u8 m) (hk : K (a.put o.dst (cellV (mk 128 (oneB m))))) : ∃ v, Gives Try.prog C o a v ∧ K (a.put o.dst v) :=
  gives_build_any _ _ #[(0, .int .u8 m)] _ ho (by simp [hx]) (fun W => by rw [← cellV_one hm]; exact run_sec1 m W) hk
theorem wpList_sec1v (hw : Region.wanted o (yielded ops a.tmps) = true) (x : Operand) (ho : o.op = .build 40 #[(0, x)]) (m : Nat) (hm : m < 256) (hx : a.eval x = .int .u8 m) (h : wpList Try.prog ops Q rest (a.put o.dst (cellV (mk 128 (oneB m)))) w) : wpList Try.prog ops Q (o :: rest) a w :=
  want_of (gives_sec1 (C := fun W => W = w) (K := fun a' => a' = a.put o.dst (cellV (mk 128 (oneB m)))) x ho m hm hx rfl) hw h
theorem gives_line_field (x : Operand) (i off : Nat) (hi : (i, off) ∈ [(0, 0), (1, 1), (2, 2), (3, 130)]) (ho : o.op = .fieldAddr 42 x i) (B : Nat) (hx : a.eval x = .pointer (some ⟨B, 0, none⟩)) (hk : K (a.put o.dst (.pointer (some ⟨B, off, none⟩)))) : ∃ v, Gives Try.prog C o a v ∧ K (a.put o.dst v) :=
  ⟨_, fun w _ => by
    simp only [List.mem_cons, List.not_mem_nil, Prod.mk.injEq, or_false] at hi
    unfold execOp
    simp only [ho, hx]
    rcases hi with ⟨rfl, rfl⟩ | ⟨rfl, rfl⟩ | ⟨rfl, rfl⟩ | ⟨rfl, rfl⟩ <;> simp [go_sem, addr_add], hk⟩
theorem line_sec {W : World} {O : Nat} {l : LineOf} (h : LineBox W O l) : W.rangeAt O 2 (secC l.c) := fun j v hv => by
  have e := h.cell (2 + j)
  rw [e]
  unfold lineC
  rw [show 2 + j = j + 1 + 1 by omega, List.getElem?_cons_succ, List.getElem?_cons_succ, List.getElem?_append_left (List.getElem?_eq_some_iff.1 hv).1]
  exact hv
theorem gives_line_sec (x : Operand) (ho : o.op = .load 40 x) (B : Nat) (hx : a.eval x = .pointer (some ⟨B, 2, none⟩)) (l : LineOf) (hc : ∀ W, C W → LineBox W B l) (hk : K (a.put o.dst (cellV l.c))) : ∃ v, Gives Try.prog C o a v ∧ K (a.put o.dst v) :=
  ⟨_, fun w hw => by
    unfold execOp
    simp only [ho, hx, Instr.loadAt, Instr.sureAddr, Sem.run_bind, Sem.run_pure, Result.andThen_ok, run_loadVar_mid w B 2 40 (secC l.c) _ (line_sec (hc w hw)) secUnder rfl (by rw [secC_len]; have := secSize zeroK; rwa [cellsOf_size, mk_len] at this)]
    rfl, by
      have : (Value.agg (secC l.c).toArray) = cellV l.c := by unfold cellV secC; simp
      rw [this]; exact hk⟩
theorem wpList_line_sec (hw : Region.wanted o (yielded ops a.tmps) = true) (x : Operand) (ho : o.op = .load 40 x) (B : Nat) (hx : a.eval x = .pointer (some ⟨B, 2, none⟩)) (l : LineOf) (hc : LineBox w B l) (h : wpList Try.prog ops Q rest (a.put o.dst (cellV l.c)) w) : wpList Try.prog ops Q (o :: rest) a w :=
  want_of (gives_line_sec (C := fun W => W = w) (K := fun a' => a' = a.put o.dst (cellV l.c)) x ho B hx l (fun W e => by rw [e]; exact hc) rfl) hw h
theorem gives_sec_isnt (x y : Operand) (ho : o.op = .binOp .neq 40 x y 40) (s : List Int) (hx : a.eval x = cellV s) (hy : a.eval y = cellV s) (hk : K (a.put o.dst (.bool false))) : ∃ v, Gives Try.prog C o a v ∧ K (a.put o.dst v) :=
  ⟨_, fun w _ => by
    have e := sec_eq (natF s) (natF s) w
    unfold execOp
    simp only [ho, hx, hy, cellV]
    simp [go_sem, e], hk⟩
theorem wpList_sec_isnt (hw : Region.wanted o (yielded ops a.tmps) = true) (x y : Operand) (ho : o.op = .binOp .neq 40 x y 40) (s : List Int) (hx : a.eval x = cellV s) (hy : a.eval y = cellV s) (h : wpList Try.prog ops Q rest (a.put o.dst (.bool false)) w) : wpList Try.prog ops Q (o :: rest) a w :=
  want_of (gives_sec_isnt (C := fun W => W = w) (K := fun a' => a' = a.put o.dst (.bool false)) x y ho s hx hy rfl) hw h
theorem gives_line_zero (ho : o.op = .build 42 #[]) (hk : K (a.put o.dst (lineV noLine))) : ∃ v, Gives Try.prog C o a v ∧ K (a.put o.dst v) :=
  gives_build_any _ _ #[] _ ho (by simp) (fun W => run_build W 42 _ _ (by kernel_rfl)) hk
theorem gives_map_look (ht : Try.prog.underlying t = some (.map 55 e)) (hz : ∀ W : World, (zeroValue e).run Try.prog W = .ok z W) (x y : Operand) (ho : o.op = .lookup t x y false) (u c : Int) (hx : a.eval x = .map (some b)) (hy : a.eval y = pk u c) (hu : okI u) (hc : okI c) (hC : ∀ W, C W → MapF W b n z f) (hk : K (a.put o.dst (f u c))) : ∃ v, Gives Try.prog C o a v ∧ K (a.put o.dst v) :=
  ⟨_, fun w hw => by
    have e := (hC w hw).look ht (hz w) hu hc
    unfold execOp
    simp only [ho, hx, hy]
    rw [Sem.run_bind, e]; rfl, hk⟩
theorem wpList_map_look (hw : Region.wanted o (yielded ops a.tmps) = true) (ht : Try.prog.underlying t = some (.map 55 e)) (hz : ∀ W : World, (zeroValue e).run Try.prog W = .ok z W) (x y : Operand) (ho : o.op = .lookup t x y false) (u c : Int) (hx : a.eval x = .map (some b)) (hy : a.eval y = pk u c) (hu : okI u) (hc : okI c) (hC : MapF w b n z f) (h : wpList Try.prog ops Q rest (a.put o.dst (f u c)) w) : wpList Try.prog ops Q (o :: rest) a w :=
  want_of (gives_map_look (C := fun W => W = w) (K := fun a' => a' = a.put o.dst (f u c)) ht hz x y ho u c hx hy hu hc (fun W e => by rw [e]; exact hC) rfl) hw h
theorem wpList_map_store (hgd : o.guard = none) (ht : Try.prog.underlying t = some (.map 55 e)) (x y v : Operand) (ho : o.op = .mapUpdate t x y v) (u c : Int) (val : Value) (hx : a.eval x = .map (some b)) (hy : a.eval y = pk u c) (hv : a.eval v = val) (hu : okI u) (hc : okI c) (hn : n < maxLen) (hC : MapF w b n z f)
    (h : ∀ w', MapF w' b (n + 1) z (putF f u c val) → Keeps (fun k => k = b) w w' → wpList Try.prog ops Q rest (a.put o.dst undef) w') : wpList Try.prog ops Q (o :: rest) a w :=
  wpList_plain hgd fun K' hK' => by
    obtain ⟨w', hrun, r1, r2⟩ := hC.store ht hn hu hc val
    unfold Oper.wp
    simp [execOp, ho, hx, hy, hv, hrun, Result.andThen]
    exact hK' _ _ (h w' r1 (turned_keeps r2))
theorem wpList_map_made (hgd : o.guard = none) (ho : o.op = .makeMap t none) (ht : Try.prog.underlying t = some (.map 55 e)) (h : wpList Try.prog ops Q rest (a.put o.dst (.map (some w.heap.size))) (w.alloc (.map #[] 0))) : wpList Try.prog ops Q (o :: rest) a w :=
  wpList_plain hgd fun K' hK' => by
    unfold Oper.wp
    simp [execOp, ho, go_sem, Result.andThen]
    exact hK' _ _ h
theorem done_map_entry {K : Value → World → Prop} (ht : Try.prog.underlying t = some (.map 55 e)) (hz : ∀ W : World, (zeroValue e).run Try.prog W = .ok z W) (x y : Operand) (ho : o.op = .mapEntry t x y) (u c : Int) (hx : a.eval x = .map (some b)) (hy : a.eval y = pk u c) (hu : okI u) (hc : okI c) (hn : n < maxLen) (hC : MapF w b n z f)
    (h : ∀ v0 (st : Nat) W1, MapF W1 b (n + 1) z f → Keeps (fun k => k = b) w W1 → (∀ v, ∃ W2, (Instr.entryStore t (.map (some b)) (.int .i64 st) v).run Try.prog W1 = .ok () W2 ∧ MapF W2 b (n + 1) z (putF f u c v) ∧ Keeps (fun k => k = b) W1 W2) → K (.tuple #[v0, .int .i64 st]) W1) : doneAt Try.prog o a w K := by
  obtain ⟨v0, st, W1, hr, h1, h2, h3⟩ := hC.entry ht hz hn hu hc
  unfold doneAt execOp
  simp only [ho, hx, hy]
  rw [Sem.run_bind, hr]
  exact h v0 st W1 h1 h2 h3
theorem done_entry_store {K : Value → World → Prop} (x y v : Operand) (ho : o.op = .entryStore t x y v) (st : Nat) (val : Value) (hx : a.eval x = .map (some b)) (hy : a.eval y = .int .i64 st) (hv : a.eval v = val) (W2 : World) (hr : (Instr.entryStore t (.map (some b)) (.int .i64 st) val).run Try.prog w = .ok () W2) (h : K undef W2) : doneAt Try.prog o a w K := by
  unfold doneAt execOp
  simp only [ho, hx, hy, hv]
  rw [Sem.run_bind, hr]
  exact h
end
/-! ### What was put last -/
/-- Each line holds what f says. -/
def LastOk (ls : List LineOf) (f : Int → Int → Value) : Prop := ∀ l ∈ ls, f l.u l.b = cellV l.c
theorem got_none {ls : List LineOf} {u b : Int} (hf : ¬ findL ls u b < ls.length) : gotL ls u b = noLine := if_neg hf
theorem got_in {ls : List LineOf} {u b : Int} (hf : findL ls u b < ls.length) : gotL ls u b = lineAt ls (findL ls u b) := if_pos hf
theorem mem_getL {ls : List LineOf} {u b : Int} {l : LineOf} (h : l ∈ getL ls u b) : l ∈ ls := by
  unfold getL at h
  split at h
  · rename_i hf
    rcases List.mem_append.1 h with e | e
    · exact mem_out e
    · obtain rfl : l = lineAt ls (findL ls u b) := by simpa using e
      exact lineAt_mem hf
  · exact h
theorem LastOk.get {ls : List LineOf} {f : Int → Int → Value} (h : LastOk ls f) (u b : Int) : LastOk (getL ls u b) f := fun l hl => h l (mem_getL hl)
theorem LastOk.got {ls : List LineOf} {f : Int → Int → Value} (h : LastOk ls f) (u b : Int) (hf : findL ls u b < ls.length) : f u b = cellV (gotL ls u b).c := by
  have e : gotL ls u b = lineAt ls (findL ls u b) := if_pos hf
  have his := LineOf.is_iff.1 (idx_is (p := fun l => l.is u b) hf)
  rw [e]
  have := h _ (lineAt_mem hf)
  rw [show (lineAt ls (findL ls u b)).u = u from his.1, show (lineAt ls (findL ls u b)).b = b from his.2] at this
  exact this
theorem LastOk.clean {ls : List LineOf} {f : Int → Int → Value} (h : LastOk ls f) : LastOk (cleanedL ls) f := fun l hl => by
  unfold cleanedL at hl
  obtain ⟨x, hx, rfl⟩ := List.mem_map.1 hl
  exact h x hx
theorem LastOk.drop {ls : List LineOf} {f : Int → Int → Value} (h : LastOk ls f) (u : Int) : LastOk (dropL ls u) f := fun l hl => h l (List.mem_filter.1 hl).1
theorem put_failed {q : Int} {ls : List LineOf} {l : LineOf} (h : putN q ls l ≠ 0) : putN q ls l = 7 ∧ putS q ls l = ls := by
  unfold putN at h ⊢
  unfold putS
  split at h <;> rename_i h1
  · exact absurd rfl h
  · rw [if_neg h1, if_neg h1]
    split at h <;> rename_i h2
    · rw [if_pos h2, if_pos h2]
      split at h <;> rename_i h3
      · exact absurd rfl h
      · rw [if_neg h3, if_neg h3]; exact ⟨rfl, rfl⟩
    · exact absurd rfl h
/-- Behind a put that is taken: the lines that stood there but for one, none of that block, and the line itself at the end. -/
theorem put_taken {q : Int} {ls : List LineOf} {l : LineOf} (g : GoodL q ls) (h : putN q ls l = 0) : ∃ A d, putS q ls l = A ++ [{ l with d := l.d || d }] ∧ (∀ y ∈ A, y ∈ ls ∧ y.is l.u l.b = false) := by
  unfold putN at h
  unfold putS
  by_cases h1 : findL ls l.u l.b < ls.length
  · rw [if_pos h1]
    refine ⟨_, _, rfl, fun y hy => ⟨mem_out hy, ?_⟩⟩
    have e := filter_out (p := fun x => x.is l.u l.b) ls (g.apart.imp fun hxy ⟨e1, e2⟩ => by
      rw [LineOf.is_iff] at e1 e2
      exact hxy ⟨e1.1.trans e2.1.symm, e1.2.trans e2.2.symm⟩) h1
    have hy' : y ∈ ls.filter (fun x => !(x.is l.u l.b)) := by rw [e]; exact hy
    simpa using (List.mem_filter.1 hy').2
  · have hno : ∀ y ∈ ls, y.is l.u l.b = false := fun y hy => by
      cases hy2 : y.is l.u l.b with
      | false => rfl
      | true => exact absurd (List.findIdx_lt_length_of_exists ⟨y, hy, hy2⟩) h1
    rw [if_neg h1] at h ⊢
    have hl : { l with d := l.d || false } = l := by cases l; simp
    by_cases h2 : q ≤ (ls.length : Int)
    · rw [if_pos h2] at h ⊢
      by_cases h3 : cleanL ls < ls.length
      · rw [if_pos h3]
        exact ⟨_, false, by rw [hl], fun y hy => ⟨mem_out hy, hno y (mem_out hy)⟩⟩
      · rw [if_neg h3] at h; simp at h
    · rw [if_neg h2]
      exact ⟨_, false, by rw [hl], fun y hy => ⟨hy, hno y hy⟩⟩
theorem got_last {A : List LineOf} {x : LineOf} {u b : Int} (hx : x.is u b = true) (hA : ∀ y ∈ A, y.is u b = false) : findL (A ++ [x]) u b < (A ++ [x]).length ∧ gotL (A ++ [x]) u b = x := by
  have e : findL (A ++ [x]) u b = A.length := by
    unfold findL
    rw [List.findIdx_append]
    have h1 : A.findIdx (fun l => l.is u b) = A.length := List.findIdx_eq_length.2 (fun y hy => by simpa using hA y hy)
    rw [h1, if_neg (Nat.lt_irrefl _), List.findIdx_cons, hx]
    simp
  have hl : findL (A ++ [x]) u b < (A ++ [x]).length := by rw [e, List.length_append]; simp
  refine ⟨hl, ?_⟩
  unfold gotL
  rw [if_pos hl, e]
  unfold lineAt
  rw [List.getD_eq_getElem?_getD, List.getElem?_append_right (Nat.le_refl _)]
  simp
/-- What is got behind a put that was taken. -/
theorem put_got {q : Int} {ls : List LineOf} {l : LineOf} (g : GoodL q ls) (h : putN q ls l = 0) : findL (putS q ls l) l.u l.b < (putS q ls l).length ∧ ∃ d, gotL (putS q ls l) l.u l.b = { l with d := l.d || d } := by
  obtain ⟨A, d, e, hA⟩ := put_taken g h
  have := got_last (A := A) (x := { l with d := l.d || d }) (u := l.u) (b := l.b) (by rw [LineOf.is_iff]; exact ⟨rfl, rfl⟩) (fun y hy => (hA y hy).2)
  rw [e]
  exact ⟨this.1, d, this.2⟩
theorem LastOk.put {q : Int} {ls : List LineOf} {l : LineOf} {f : Int → Int → Value} (h : LastOk ls f) (g : GoodL q ls) (h0 : putN q ls l = 0) : LastOk (putS q ls l) (putF f l.u l.b (cellV l.c)) := by
  obtain ⟨A, d, e, hA⟩ := put_taken g h0
  rw [e]
  intro y hy
  unfold putF
  rcases List.mem_append.1 hy with e1 | e1
  · have := (hA y e1).2
    rw [LineOf.is_not] at this
    rw [if_neg this]
    exact h y (hA y e1).1
  · obtain rfl : y = { l with d := l.d || d } := by simpa using e1
    rw [if_pos ⟨rfl, rfl⟩]
theorem drop_not (ls : List LineOf) (u b : Int) : ¬ findL (dropL ls u) u b < (dropL ls u).length := fun hf => by
  have his := LineOf.is_iff.1 (idx_is (p := fun l => l.is u b) hf)
  have this : (!((lineAt (dropL ls u) (findL (dropL ls u) u b)).u == u)) = true := (List.mem_filter.1 (lineAt_mem hf)).2
  rw [show (lineAt (dropL ls u) (findL (dropL ls u) u b)).u = u from his.1] at this
  simp at this
theorem clean_none (ls : List LineOf) : dirtyL (cleanedL ls) = [] := by
  unfold dirtyL cleanedL
  rw [List.filter_eq_nil_iff]
  intro x hx
  obtain ⟨y, _, rfl⟩ := List.mem_map.1 hx
  simp
end Go.Proofs.Ytlaclakndleonaa
