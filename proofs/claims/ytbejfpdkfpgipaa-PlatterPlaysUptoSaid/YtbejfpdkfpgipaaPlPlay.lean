/- What PlatterPlays keeps between two calls: a disk and the document's, of one make, in blocks of their own; laws of what its regions do. Conditions: as each says. -/
import Derived.Test.YtbejfpdkfpgipaaPlLong
import Derived.Test.YtbejfpdkfpgipaaPlAny
import Derived.Test.YtbejfpdkfpgipaaPlRefE
import Derived.Test.YtbejfpdkfpgipaaPlRefF
import Derived.Test.YtbejfpdkfpgipaaPlRefN
import Derived.Test.YtbejfpdkfpgipaaPlCell
import Derived.Test.YtbejfpdkfpgipaaPlOver
import Derived.Test.YtbejfpdkfpgipaaPlSame
import Derived.Test.YtbejfpdkfpgipaaPlLopen
import Derived.Test.YtbejfpdkfpgipaaPlCnt
import Derived.Test.YtbejfpdkfpgipaaPlAlive
namespace Go.Proofs.Ytbejfpdkfpgipaa
open Go.ChangeShapes Go.WideShapes Go.ChangeAt Go.RowKit
set_option linter.unusedVariables false
structure PS (w0 wr : World) (b : Blks) (r : RBlk) (base : Nat) (d e : Disk) (L : Nat) (R : Since) : Prop where
  plat : DiskAt wr b d
  ref : RefAt wr r base e L R
  low : Below w0.heap.size w0 wr
  bo : ∀ k, b.own k → w0.heap.size ≤ k ∧ k < base
  ro : ∀ k, r.fix k → w0.heap.size ≤ k
  ap : ∀ k, b.own k → ¬ r.fix k
  lob : w0.heap.size ≤ base
  fit : base ≤ wr.heap.size
namespace PS
variable {w0 wr w' : World} {b : Blks} {r : RBlk} {base : Nat} {d e d' e' : Disk} {L L' : Nat} {R R' : Since}
theorem rown (h : PS w0 wr b r base d e L R) {k : Nat} (hk : r.own R e.ns k) : w0.heap.size ≤ k := by
  rcases hk with hk | hk
  · exact h.ro k hk
  · exact Nat.le_trans h.lob (h.ref.rowLt hk).1
theorem apart (h : PS w0 wr b r base d e L R) {k : Nat} (hk : r.own R e.ns k) : ¬ b.own k := by
  rcases hk with hk | hk
  · exact fun hb => h.ap k hb hk
  · exact fun hb => by have := (h.ref.rowLt hk).1; have := (h.bo k hb).2; omega
theorem below (h : PS w0 wr b r base d e L R) (hb : Below wr.heap.size wr w') : PS w0 w' b r base d e L R :=
  ⟨h.plat.below hb, h.ref.below hb, h.low.trans (hb.mono h.low.size), h.bo, h.ro, h.ap, h.lob, Nat.le_trans h.fit hb.size⟩
theorem drew (h : PS w0 wr b r base d e L R) : PS w0 wr.drew b r base d e L R := h.below ((Below.refl _ wr).drew)
theorem left (h : PS w0 wr b r base d e L R) (hd : DiskAt w' b d') (hk : Keeps b.own wr w') : PS w0 w' b r base d' e L R :=
  ⟨hd, h.ref.keeps hk (fun k hk hb => h.apart hk hb), h.low.trans (hk.below h.low.size (fun k hk hb => by have := (h.bo k hb).1; omega)), h.bo, h.ro, h.ap, h.lob, Nat.le_trans h.fit hk.size⟩
theorem right (h : PS w0 wr b r base d e L R) (hr : RefAt w' r base e' L' R') (hk : Keeps (r.own R e.ns) wr w') : PS w0 w' b r base d e' L' R' :=
  ⟨h.plat.keeps hk (fun k hb hk => h.apart hk hb), hr, h.low.trans (hk.below h.low.size (fun k hk hr => by have := h.rown hr; omega)), h.bo, h.ro, h.ap, h.lob, Nat.le_trans h.fit hk.size⟩
theorem but (h : PS w0 wr b r base d e L R) {D : Nat} (hb : But D wr w') (h1 : w0.heap.size ≤ D) (h2 : ¬ b.own D) (h3 : ¬ r.own R e.ns D) : PS w0 w' b r base d e L R :=
  ⟨h.plat.keep fun k hk => hb.same k (h.plat.lt hk) (fun e => h2 (e ▸ hk)), h.ref.keep fun k hk => hb.same k (h.ref.blkLt hk) (fun e => h3 (e ▸ hk)), h.low.trans (hb.below h1 h.low.size), h.bo, h.ro, h.ap, h.lob, Nat.le_trans h.fit hb.size⟩
/-- A block made since is no one's. -/
theorem newB (h : PS w0 wr b r base d e L R) {O : Nat} (hO : wr.heap.size ≤ O) : ¬ b.own O := fun hb => by have := h.plat.lt hb; omega
theorem newR (h : PS w0 wr b r base d e L R) {O : Nat} (hO : wr.heap.size ≤ O) : ¬ r.own R e.ns O := fun hb => by have := h.ref.blkLt hb; omega
/-- A block that was there before the law is no one's. -/
theorem oldB (h : PS w0 wr b r base d e L R) {O : Nat} (hO : O < w0.heap.size) : ¬ b.own O := fun hb => by have := (h.bo _ hb).1; omega
theorem oldR (h : PS w0 wr b r base d e L R) {O : Nat} (hO : O < w0.heap.size) : ¬ r.own R e.ns O := fun hb => by have := h.rown hb; omega
end PS
theorem OpBox.keeps {W W' : World} {O : Nat} {c : CallOf} {S : Nat → Prop} (h : OpBox W O c) (hk : Keeps S W W') (hO : ¬ S O) : OpBox W' O c := (hk.block O h.lt hO).trans h
theorem OpBox.below {W W' : World} {O : Nat} {c : CallOf} (h : OpBox W O c) (hb : Below W.heap.size W W') : OpBox W' O c := (hb.block O h.lt).trans h
theorem BytesAt.old {w : World} {p : Option Addr} {n : Nat} {g : Nat → Nat} (h : BytesAt w p n g) : n = 0 ∨ ∃ B o, p = some ⟨B, o, none⟩ ∧ B < w.heap.size := by
  rcases h with h | ⟨B, o, rfl, hB, _⟩
  · exact .inl h
  · exact .inr ⟨B, o, rfl, hB⟩
theorem IntsAt.keeps {S : Nat → Prop} {w w' : World} {p : Option Addr} {l : List Int} (h : IntsAt w p l) (hk : Keeps S w w') (hS : ∀ B o, p = some ⟨B, o, none⟩ → l ≠ [] → ¬ S B) : IntsAt w' p l := by
  rcases h with h | ⟨B, o, rfl, hB, hc⟩
  · exact .inl h
  · by_cases h0 : l = []
    · exact .inl h0
    · exact .inr ⟨B, o, rfl, Nat.lt_of_lt_of_le hB hk.size, fun j hj => (World.cell?_of_block (w := w) (w' := w') (a := ⟨B, o + j, none⟩) (hk.block B hB (hS B o rfl h0))).trans (hc j hj)⟩
theorem upTo_exists (opn : Int → Option (List Int)) (j : Nat) : ∃ l, UpTo opn j l ∧ l.length ≤ j := by
  induction j with
  | zero => exact ⟨[], UpTo.zero opn, Nat.le_refl _⟩
  | succ j ih =>
    obtain ⟨l, h1, h2⟩ := ih
    by_cases e : (opn j).isSome = true
    · exact ⟨_, h1.more e, by rw [List.length_append]; exact Nat.succ_le_succ h2⟩
    · exact ⟨l, h1.skip e, Nat.le_succ_of_le h2⟩
theorem PS.opens {w0 wr : World} {b : Blks} {r : RBlk} {base : Nat} {d : Disk} {L : Nat} {R : Since} (h : PS w0 wr b r base d d L R) (hm : d.made ≤ 100000) : ∃ l : List Int, l.length ≤ 2048 ∧
    (∀ W, DiskAt W b d → Calls Try.prog 36 #[.pointer (some ⟨b.B, 0, none⟩), .int .i64 3000] W fun e w' => ∃ q c, e = .returned (.slice q l.length c) ∧ IntsAt w' q l ∧ Below W.heap.size W w') ∧
    (∀ W, RefAt W r base d L R → Calls Try.prog 37 #[.pointer (some ⟨r.B, 0, none⟩)] W fun e w' => ∃ q c, e = .returned (.slice q l.length c) ∧ IntsAt w' q l ∧ Below W.heap.size W w') := by
  obtain ⟨l, hl, hlen⟩ := upTo_exists d.opn d.ns
  have hns := h.plat.ns2
  have hio := hl.isOpen h.plat
  refine ⟨l, by omega, fun W hW => ?_, fun W hW => ?_⟩
  · have ht : l.take 3000 = l := List.take_of_length_le (by omega)
    have := open_any (.pointer (some ⟨b.B, 0, none⟩)) 3000 l (by omega) W (fun W' hb => (Open_ok (hW.below hb) hm).mono fun e w' ⟨C, l', h1, h2, h3, h4⟩ => ⟨C, h1, by rw [isOpen_unique hio h2]; exact h3, h4⟩)
    rw [ht] at this
    exact this.mono fun e w' ⟨⟨q, c, h1, h2⟩, h3⟩ => ⟨q, c, h1, h2, h3⟩
  · exact (rOpen_ok hW hm).mono fun e w' ⟨l', q, c, h1, h2, _, h3, h4⟩ => by
      have := isOpen_unique hio h2
      subst this
      exact ⟨q, c, h1, h3, h4⟩
theorem done_enter3 {o : Oper} {a : Act} {w : World} {K : Value → World → Prop} (x y z t : Operand) (ts : Array TypeId) (ho : o.op = .call { callee := .value x, args := #[y, z, t], argTypes := ts }) (g : FuncId)
    (hx : a.eval x = .func (.func g) #[] #[]) (hf : ∀ (args : Array Value) (w : World), (callFunc g args).run Try.prog w = .ok (.enter g args) w) (u v s : Value) (hy : a.eval y = u) (hz : a.eval z = v) (ht : a.eval t = s) (R : Ending → World → Prop) (hc : Calls Try.prog g #[u, v, s] w R) (hk : ∀ e w', R e w' → ∃ u, e = .returned u ∧ K u w') : doneAt Try.prog o a w K :=
  done_call x #[y, z, t] ts ho g #[u, v, s] hx (by simp only [List.map_toArray, List.map_cons, List.map_nil, hy, hz, ht]) (hf _ w) (hc.mono hk)
section
variable {o : Oper} {a : Act} {C : World → Prop} {K : Act → Prop}
theorem gives_opfield (x : Operand) (k : Nat) (ho : o.op = .fieldAddr 37 x k) (hk5 : k < 5) (O : Nat) (hx : a.eval x = .pointer (some ⟨O, 0, none⟩)) (hk : K (a.put o.dst (.pointer (some ⟨O, k, none⟩)))) : ∃ v, Gives Try.prog C o a v ∧ K (a.put o.dst v) :=
  ⟨_, fun w _ => by
    unfold execOp
    simp only [ho, hx]
    rcases k with _ | _ | _ | _ | _ | k
    all_goals first | (exfalso; omega) | simp [go_sem], hk⟩
theorem box_int (w : World) : (isAgg 3).run Try.prog w = .ok false w := by simp [go_sem]
theorem box_bool (w : World) : (isAgg 4).run Try.prog w = .ok false w := by simp [go_sem]
theorem box_bytes (w : World) : (isAgg 34).run Try.prog w = .ok false w := by simp [go_sem]
theorem box_ints (w : World) : (isAgg 35).run Try.prog w = .ok false w := by simp [go_sem]
theorem gives_int_eq (x y : Operand) (ho : o.op = .binOp .eql 3 x y 3) (i : Int) (hx : a.eval x = .int .i64 i) (hy : a.eval y = .int .i64 i) (hk : K (a.put o.dst (.bool true))) : ∃ v, Gives Try.prog C o a v ∧ K (a.put o.dst v) :=
  ⟨_, fun w _ => by
    unfold execOp
    simp only [ho, hx, hy]
    simp [go_sem], hk⟩
theorem gives_int_neq (x y : Operand) (ho : o.op = .binOp .neq 3 x y 3) (i : Int) (hx : a.eval x = .int .i64 i) (hy : a.eval y = .int .i64 i) (hk : K (a.put o.dst (.bool false))) : ∃ v, Gives Try.prog C o a v ∧ K (a.put o.dst v) :=
  ⟨_, fun w _ => by
    unfold execOp
    simp only [ho, hx, hy]
    simp [go_sem], hk⟩
theorem gives_int_geq (x y : Operand) (ho : o.op = .binOp .geq 3 x y 3) (i j : Int) (hx : a.eval x = .int .i64 i) (hy : a.eval y = .int .i64 j) (v : Bool) (hv : decide (j ≤ i) = v) (hk : K (a.put o.dst (.bool v))) : ∃ v, Gives Try.prog C o a v ∧ K (a.put o.dst v) :=
  ⟨_, fun w _ => by
    subst hv
    unfold execOp
    simp only [ho, hx, hy]
    simp [go_sem], hk⟩
theorem gives_bool_neq (x y : Operand) (ho : o.op = .binOp .neq 4 x y 4) (i : Bool) (hx : a.eval x = .bool i) (hy : a.eval y = .bool i) (hk : K (a.put o.dst (.bool false))) : ∃ v, Gives Try.prog C o a v ∧ K (a.put o.dst v) :=
  ⟨_, fun w _ => by
    unfold execOp
    simp only [ho, hx, hy]
    cases i <;> simp [go_sem], hk⟩
theorem gives_bool_eq (x y : Operand) (ho : o.op = .binOp .eql 4 x y 4) (i : Bool) (hx : a.eval x = .bool i) (hy : a.eval y = .bool i) (hk : K (a.put o.dst (.bool true))) : ∃ v, Gives Try.prog C o a v ∧ K (a.put o.dst v) :=
  ⟨_, fun w _ => by
    unfold execOp
    simp only [ho, hx, hy]
    cases i <;> simp [go_sem], hk⟩
theorem gives_err_eq (x : Operand) (ho : o.op = .binOp .eql 27 x (.const .nilIface) 27) (no : Nat) (hno : OkNo no) (hx : a.eval x = errN no) (v : Bool) (hv : decide (no = 0) = v) (hk : K (a.put o.dst (.bool v))) : ∃ v, Gives Try.prog C o a v ∧ K (a.put o.dst v) :=
  ⟨_, fun w _ => by
    subst hv
    unfold execOp
    simp only [ho, hx]
    rcases hno with rfl | rfl | rfl <;> simp [go_sem, errN, errV], hk⟩
theorem gives_not (x : Operand) (t : TypeId) (ho : o.op = .unOp .not t x) (b v : Bool) (hv : (!b) = v) (hx : a.eval x = .bool b) (hk : K (a.put o.dst (.bool v))) : ∃ v, Gives Try.prog C o a v ∧ K (a.put o.dst v) :=
  ⟨_, fun w _ => by
    subst hv
    unfold execOp
    simp only [ho, hx]
    simp [go_sem], hk⟩
theorem gives_pick_no (c x y : Operand) (ho : o.op = .pick c x y) (hc : a.eval c = .bool false) (v : Value) (hy : a.eval y = v) (hk : K (a.put o.dst v)) : ∃ v, Gives Try.prog C o a v ∧ K (a.put o.dst v) :=
  ⟨_, fun w _ => by
    unfold execOp
    simp only [ho, hc, hy]
    simp [go_sem], hk⟩
theorem gives_pick_yes (c x y : Operand) (ho : o.op = .pick c x y) (hc : a.eval c = .bool true) (v : Value) (hx : a.eval x = v) (hk : K (a.put o.dst v)) : ∃ v, Gives Try.prog C o a v ∧ K (a.put o.dst v) :=
  ⟨_, fun w _ => by
    unfold execOp
    simp only [ho, hc, hx]
    simp [go_sem], hk⟩
end
section
variable {ops : Array Oper} {C : World → Prop} {R : Act → World → Prop} {i : Nat} {l : List (Nat × Bool)} {a : Act} {w : World} {o : Oper}
/-- What is not wanted. -/
theorem walk_off (hi : ops[i]? = some o) (hw : Region.wanted o (yielded ops a.tmps) = false) (h : walkS Try.prog ops C R l (a.put o.dst undef) w) : walkS Try.prog ops C R ((i, true) :: l) a w :=
  ⟨o, undef, hi, .inr ⟨hw, rfl⟩, h⟩
theorem walk_off' (hi : ops[i]? = some o) (hw : Region.wanted o (yielded ops a.tmps) = false) (h : walkS Try.prog ops C R l (a.put o.dst undef) w) : walkS Try.prog ops C R ((i, false) :: l) a w :=
  ⟨o, hi, .inr ⟨hw, h⟩⟩
theorem done_store_bool {K : Value → World → Prop} (x y : Operand) (ho : o.op = .store 4 x y) (p : Addr) (v : Bool) (hx : a.eval x = .pointer (some p)) (hy : a.eval y = .bool v) (old : Value) (hc : w.cell? p = some old) (hf : w.frozen? p = false)
    (h : K undef (w.setCell p (.bool v))) : doneAt Try.prog o a w K := by
  unfold doneAt execOp
  simp only [ho, hx, hy]
  simp [go_sem, hc, hf]
  exact h
theorem done_store_int {K : Value → World → Prop} (x y : Operand) (ho : o.op = .store 3 x y) (p : Addr) (v : Int) (hx : a.eval x = .pointer (some p)) (hy : a.eval y = .int .i64 v) (old : Value) (hc : w.cell? p = some old) (hf : w.frozen? p = false)
    (h : K undef (w.setCell p (.int .i64 v))) : doneAt Try.prog o a w K := by
  unfold doneAt execOp
  simp only [ho, hx, hy]
  simp [go_sem, hc, hf]
  exact h
end
section
variable {ops : Array Oper} {rest : List Oper} {o : Oper} {a : Act} {w : World} {Q : Exit → Act → World → Prop}
theorem wpList_append_run (hgd : o.guard = none) (s x : Operand) (t tn : TypeId) (ho : o.op = .call { callee := .builtin .append, args := #[s, x], argTypes := #[t, tn] }) (vs vx : Value) (hs : a.eval s = vs) (hx : a.eval x = vx)
    (v' : Value) (w' : World) (hr : (Builtin.append_ #[t, tn] o.type #[vs, vx]).run Try.prog w = .ok v' w') (h : wpList Try.prog ops Q rest (a.put o.dst v') w') : wpList Try.prog ops Q (o :: rest) a w :=
  wpList_plain hgd fun K hK => by
    unfold Oper.wp
    simp [execOp, ho, resolve, invoke, builtin, hs, hx, hr, Result.andThen]
    exact hK _ _ h
end
/-- append([]int{}, keep...). -/
theorem append_ints {w : World} (base E : Nat) (ty : TypeId) (p : Option Addr) (l : List Int) (cap : Nat) (hp : IntsAt w p l) (hl : l.length ≤ 1000000) (hbase : base ≤ w.heap.size) (hE : base ≤ E) (hv : w.ownsRow base 3 1 (.slice (some ⟨E, 0, none⟩) 0 0) 0 []) :
    ∃ q c w', (Builtin.append_ #[35, 35] ty #[.slice (some ⟨E, 0, none⟩) 0 0, .slice p l.length cap]).run Try.prog w = .ok (.slice q l.length c) w' ∧ IntsAt w' q l ∧ Below base w w' ∧ ∀ B o, q = some ⟨B, o, none⟩ → base ≤ B := by
  obtain ⟨ti, hti, htz, hts, htb⟩ := intInfo4
  have hu : Try.prog.underlying 35 = some (.slice 3) := Try.underlying35
  by_cases h0 : l = []
  · subst h0
    have hsrc : Src Try.prog ti.size 35 (.slice p 0 cap) 0 [] w := by
      cases p with
      | none => exact Src.ofNil w hu cap
      | some ad => exact Src.ofSlice w hu ad 0 cap [] (by simp) (fun j u hu => by simp at hu) (fun u hu => by cases hu)
    exact ⟨_, _, w, run_append_nothing (P := Try.prog) w 35 35 ty 3 ti hu hti (some ⟨E, 0, none⟩) 0 0 (Nat.le_refl _) (.slice p 0 cap) hsrc, .inl rfl, Below.refl _ _, fun B o e => by cases e; exact hE⟩
  · rcases hp with hp | ⟨B, off, rfl, hB, hc⟩
    · exact absurd hp h0
    · obtain ⟨v', w', hrun, r1, r2, _⟩ := run_append_own_at (P := Try.prog) w base 35 ty 3 ti (.int .i64 0) 1 8 hu hti htz hts htb rfl (by omega)
        (.slice (some ⟨E, 0, none⟩) 0 0) 0 [] hv ⟨B, off, none⟩ l.length cap (l.map encZ) (by simp) (fun j u hj => by
          rw [addr_add]
          rw [List.getElem?_map] at hj
          cases hq : l[j]? with
          | none => rw [hq] at hj; simp at hj
          | some x =>
            rw [hq] at hj
            have hjl := (List.getElem?_eq_some_iff.1 hq).1
            rw [hc j hjl]
            simp only [Option.map_some, Option.some.injEq] at hj
            rw [← hj, List.getD_eq_getElem?_getD, hq]
            rfl) (fun u hu => by
          obtain ⟨x, _, rfl⟩ := List.mem_map.1 hu
          rfl) (by simp only [maxLen]; omega) (by omega) hbase
      rw [List.nil_append, Nat.zero_add] at r1
      obtain ⟨q, c, rfl, h1, h2⟩ := ints_of_owns (L := l) r1 rfl
      exact ⟨q, c, w', hrun, h1, below_own r2 (fun g hg => by cases hg; exact hE) hbase, h2⟩
end Go.Proofs.Ytbejfpdkfpgipaa
