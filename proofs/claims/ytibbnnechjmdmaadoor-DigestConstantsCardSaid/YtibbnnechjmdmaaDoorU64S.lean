/- Slices of 64-bit words: made, all noughts; grown by append; a few of them said by a function. Condition: no more than 100000 words. -/
import Derived.Test.YtibbnnechjmdmaaDoorOwnS
import Derived.Test.YtibbnnechjmdmaaDoorMake
import Derived.Test.YtibbnnechjmdmaaDoorRootN
namespace Go.Proofs.YtibbnnechjmdmaaDoor
open Go.ChangeShapes Go.WideShapes Go.ChangeAt Go.RowKit

theorem made_zero64 {z : Array Value} {sz : Nat} (hz : z = cellsOf .u64 (mk sz zeroK)) (hs : 0 < sz) (n : Nat) : madeCells z n = cellsOf .u64 (mk n zeroK) := by
  subst hz
  apply Array.ext
  · rw [size_madeCells, cellsOf_size, mk_len]
  · intro i h1 h2
    have hi : i < n := by rw [size_madeCells] at h1; exact h1
    have hsz : (cellsOf .u64 (mk sz zeroK)).size = sz := by rw [cellsOf_size, mk_len]
    have hm : i % sz < sz := Nat.mod_lt _ hs
    have e2 := cellsOf_get .u64 (mk n zeroK) (i := i) (by rw [mk_len]; exact hi)
    rw [mk_get hi, Array.getElem?_eq_getElem h2] at e2
    have e1 := cellsOf_get .u64 (mk sz zeroK) (i := i % sz) (by rw [mk_len]; exact hm)
    rw [mk_get hm] at e1
    have e3 : (madeCells (cellsOf .u64 (mk sz zeroK)) n)[i] = (cellsOf .u64 (mk sz zeroK))[i % sz]! := by
      simp only [madeCells, Array.getElem_map, Array.getElem_range, hsz]
    rw [e3, Array.getElem!_eq_getD, Array.getD_eq_getD_getElem?, e1]
    simp only [Option.some.injEq] at e2
    rw [e2]; rfl
theorem wordsUnder64 : Tryd.prog.underlying 51 = some (.slice 54) := Tryd.underlying51
theorem wordInfo64 : (Tryd.prog.info? 54).map (·.size) = some 1 := by kernel_rfl
theorem wordBytes64 : (Tryd.prog.info? 54).map (·.bytes) = some 8 := by kernel_rfl
theorem wordZero64 : (Tryd.prog.info? 54).bind (·.zero) = some (.int .u64 0) := by kernel_rfl
theorem wordUnder64 : Tryd.prog.underlying 54 = some (.int .u64) := Tryd.underlying54
theorem wpList_make_noughts64 {ops : Array Oper} {rest : List Oper} {o : Oper} {a : Act} {w : World} {Q : Exit → Act → World → Prop} (hgd : o.guard = none) (x y : Operand) (ho : o.op = .makeSlice 51 x y) (M : Nat) (hM : M ≤ 100000) (hx : a.eval x = .int .i64 M) (hy : a.eval y = .int .i64 M)
    (h : wpList Tryd.prog ops Q rest (a.put o.dst (.slice (some ⟨w.heap.size, 0, none⟩) M M)) (w.alloc (.cells (cellsOf .u64 (mk M zeroK)) 54))) : wpList Tryd.prog ops Q (o :: rest) a w :=
  wpList_plain hgd fun _ hK => by
    have hi := wordInfo64
    have hz := wordZero64
    have hb := wordBytes64
    cases hq : Tryd.prog.info? 54 with
    | none => rw [hq] at hi; simp at hi
    | some i =>
      rw [hq] at hi hz hb
      have hsz : i.size = 1 := by simpa using hi
      have hzz : i.zero = some (.int .u64 0) := by simpa using hz
      have hby : i.bytes = 8 := by simpa using hb
      have e := run_make (P := Tryd.prog) w 51 54 i _ wordsUnder64 hq hzz .i64 .i64 M M (by omega) (by omega) (by rw [hby]; omega) (by omega)
      have hc : (Value.int .u64 0).cells = cellsOf .u64 (mk 1 zeroK) := rfl
      rw [hsz, Int.toNat_natCast, made_zero64 hc (by omega), Nat.mul_one] at e
      unfold Oper.wp execOp
      simp only [ho]
      simp [hx, hy, e]
      exact hK _ _ h
def wordsList (n : Nat) (F : Nat → Nat) : List Value := (List.range n).map fun t => Value.int .u64 (F t : Nat)
theorem wordsList_len (n : Nat) (F : Nat → Nat) : (wordsList n F).length = n := by simp [wordsList]
theorem wordsList_get {n : Nat} {F : Nat → Nat} {j : Nat} {u : Value} (h : (wordsList n F)[j]? = some u) : j < n ∧ u = .int .u64 (F j : Nat) := by
  have hj : j < n := by
    rcases Nat.lt_or_ge j (wordsList n F).length with h' | h'
    · rwa [wordsList_len] at h'
    · rw [List.getElem?_eq_none h'] at h; cases h
  refine ⟨hj, ?_⟩
  simp [wordsList, hj] at h
  exact h.symm
theorem wordsList_at {n : Nat} {F : Nat → Nat} {j : Nat} (h : j < n) : (wordsList n F)[j]? = some (.int .u64 (F j : Nat)) := by simp [wordsList, h]
theorem wordsList_one {n : Nat} {F : Nat → Nat} : ∀ u ∈ wordsList n F, u.oneCell' = true := fun u hu => by
  obtain ⟨j, hj⟩ := List.getElem?_of_mem hu
  obtain ⟨_, rfl⟩ := wordsList_get hj
  rfl
theorem wordsList_more (n m : Nat) (F f : Nat → Nat) (h : ∀ j, j < m → f j = F (n + j)) : wordsList n F ++ wordsList m f = wordsList (n + m) F := by
  apply List.ext_getElem?
  intro i
  rcases Nat.lt_or_ge i n with l | l
  · rw [List.getElem?_append_left (by rw [wordsList_len]; exact l), wordsList_at l, wordsList_at (by omega)]
  · rw [List.getElem?_append_right (by rw [wordsList_len]; exact l), wordsList_len]
    rcases Nat.lt_or_ge i (n + m) with l2 | l2
    · rw [wordsList_at (by omega), wordsList_at l2, h _ (by omega), show n + (i - n) = i by omega]
    · rw [List.getElem?_eq_none (by rw [wordsList_len]; omega), List.getElem?_eq_none (by rw [wordsList_len]; omega)]

/-- A slice of k elements, each of sz bytes, in a block between base and top; nil, if there is none. -/
def OwnU (e : TypeId) (sz : Nat) (w : World) (base top : Nat) (v : Value) (k : Nat) (F : Nat → Nat) : Prop :=
  (v = .slice none 0 0 ∧ k = 0) ∨ ∃ B c cur, v = .slice (some ⟨B, 0, none⟩) k c ∧ base ≤ B ∧ B < top ∧ w.heap[B]? = some (.cells cur e (0, 0)) ∧ k ≤ c ∧ c ≤ maxLen ∧ cur.size = c * sz ∧ cur.toList.take (k * sz) = wordsList (k * sz) F
section
variable {e : TypeId} {sz base top : Nat} {v : Value} {k : Nat} {F : Nat → Nat} {w w' : World}
theorem OwnU.nil (e : TypeId) (sz : Nat) (w : World) (base top : Nat) (F : Nat → Nat) : OwnU e sz w base top (.slice none 0 0) 0 F := .inl ⟨rfl, rfl⟩
theorem OwnU.same (h : OwnU e sz w base top v k F) (hb : ∀ B, base ≤ B → B < top → w'.heap[B]? = w.heap[B]?) : OwnU e sz w' base top v k F := by
  rcases h with h | ⟨B, c, cur, h1, h2, h3, h4, h5⟩
  · exact .inl h
  · exact .inr ⟨B, c, cur, h1, h2, h3, by rw [hb B h2 h3]; exact h4, h5⟩
theorem OwnU.raise {top' : Nat} (h : OwnU e sz w base top v k F) (ht : top ≤ top') : OwnU e sz w base top' v k F := by
  rcases h with h | ⟨B, c, cur, h1, h2, h3, h4, h5⟩
  · exact .inl h
  · exact .inr ⟨B, c, cur, h1, h2, by omega, h4, h5⟩
theorem OwnU.owns (h : OwnU e sz w base top v k F) : w.ownsRow base e sz v k (wordsList (k * sz) F) := by
  rcases h with ⟨h1, h2⟩ | ⟨B, c, cur, h1, h2, _, h4, h5, h6, h7, h8⟩
  · subst h2; exact ⟨by rw [wordsList_len], .inl ⟨h1, rfl⟩⟩
  · exact ⟨by rw [wordsList_len], .inr ⟨B, c, cur, h1, h2, h4, h5, h6, h7, h8⟩⟩
theorem OwnU.of_owns (h : w.ownsRow base e sz v k (wordsList (k * sz) F)) : OwnU e sz w base w.heap.size v k F := by
  obtain ⟨_, h1 | ⟨B, c, cur, h1, h2, h4, h5⟩⟩ := h
  · exact .inl h1
  · exact .inr ⟨B, c, cur, h1, h2, (Array.getElem?_eq_some_iff.1 h4).1, h4, h5⟩
theorem OwnU.block (h : OwnU e sz w base top v k F) : ∀ B, v.ownBlock = some B → base ≤ B := by
  rcases h with ⟨h1, _⟩ | ⟨B, c, cur, h1, h2, _⟩
  · subst h1; intro B hB; simp [Value.ownBlock] at hB
  · subst h1; intro B' hB; simp [Value.ownBlock] at hB; omega
end
theorem wpList_append_u64 {ops : Array Oper} {rest : List Oper} {o : Oper} {a : Act} {w : World} {Q : Exit → Act → World → Prop} (hgd : o.guard = none) (s x : Operand)
    (ho : o.op = .call { callee := .builtin .append, args := #[s, x], argTypes := #[51, 51] }) (base top k c : Nat) (v : Value) (F : Nat → Nat) (D y : Nat) (hs : a.eval s = v) (hx : a.eval x = .slice (some ⟨D, 0, none⟩) 1 c)
    (hv : OwnU 54 1 w base top v k F) (hc : w.cell? ⟨D, 0, none⟩ = some (.int .u64 (y : Nat))) (hf : y = F k) (hk : k ≤ 1000) (hbase : base ≤ w.heap.size)
    (h : ∀ v' w', OwnU 54 1 w' base w'.heap.size v' (k + 1) F → Below base w w' → wpList Tryd.prog ops Q rest (a.put o.dst v') w') : wpList Tryd.prog ops Q (o :: rest) a w := by
  have hi := wordInfo64
  have hz := wordZero64
  have hb := wordBytes64
  cases hq : Tryd.prog.info? 54 with
  | none => rw [hq] at hi; simp at hi
  | some i =>
    rw [hq] at hi hb hz
    have hsz : i.size = 1 := by simpa using hi
    have hzz : i.zero = some (.int .u64 0) := by simpa using hz
    have hby : i.bytes = 8 := by simpa using hb
    obtain ⟨v', w', hrun, r1, r2, _⟩ := run_append_own (P := Tryd.prog) w base 51 o.type 54 i (.int .u64 0) 1 8 wordsUnder64 hq hzz hsz hby rfl (by omega)
      v k (wordsList (k * 1) F) hv.owns ⟨D, 0, none⟩ 1 c (wordsList 1 fun _ => y) (by rw [wordsList_len, Nat.one_mul]) (fun j u hj => by
        obtain ⟨hj1, rfl⟩ := wordsList_get hj
        obtain rfl : j = 0 := by omega
        exact hc) wordsList_one (by simp only [maxLen]; omega) (by omega) hbase
    rw [wordsList_more (k * 1) 1 F (fun _ => y) (fun j hj => (by have e : j = 0 := (by omega); subst e; rw [hf, Nat.mul_one, Nat.add_zero])), ← Nat.succ_mul] at r1
    refine wpList_plain hgd fun K hK => ?_
    unfold Oper.wp
    simp [execOp, ho, resolve, invoke, builtin, hs, hx, hrun, Result.andThen]
    exact hK _ _ (h v' w' (OwnU.of_owns r1) (below_own r2 hv.block hbase))
/-- n words in a block. -/
def WAt (w : World) (B n : Nat) (f : Nat → Nat) : Prop := B < w.heap.size ∧ ∀ j, j < n → w.cell? ⟨B, j, none⟩ = some (.int .u64 (f j : Nat))
theorem WAt.below {w w' : World} {B n M : Nat} {f : Nat → Nat} (h : WAt w B n f) (hb : Below M w w') (hM : B < M) : WAt w' B n f :=
  ⟨Nat.lt_of_lt_of_le h.1 hb.size, fun j hj => (hb.cell (p := ⟨B, j, none⟩) hM).trans (h.2 j hj)⟩
theorem WAt.on {w w' : World} {B n : Nat} {f : Nat → Nat} (h : WAt w B n f) (hb : Below w.heap.size w w') : WAt w' B n f := h.below hb h.1
theorem WAt.of_blk {w : World} {B n : Nat} {t : TypeId} {f : Nat → Nat} (h : IntBlk w B .u64 t (mk n f)) : WAt w B n f :=
  ⟨h.lt, fun j hj => by rw [h.cell (i := j) (by rw [mk_len]; exact hj), mk_get hj]⟩
theorem WAt.congr {w : World} {B n : Nat} {f g : Nat → Nat} (h : WAt w B n f) (he : ∀ j, j < n → f j = g j) : WAt w B n g := ⟨h.1, fun j hj => by rw [h.2 j hj, he j hj]⟩
theorem OwnU.words {w : World} {base top k : Nat} {v : Value} {F : Nat → Nat} (h : OwnU 54 1 w base top v k F) (hk : k ≠ 0) : ∃ B c, v = .slice (some ⟨B, 0, none⟩) k c ∧ base ≤ B ∧ B < top ∧ k ≤ c ∧ WAt w B k F := by
  rcases h with ⟨_, h0⟩ | ⟨B, c, cur, h1, h2, h3, h4, h5, _, _, h8⟩
  · exact absurd h0 hk
  · refine ⟨B, c, h1, h2, h3, h5, (Array.getElem?_eq_some_iff.1 h4).1, fun j hj => ?_⟩
    rw [cell_of_row w B j cur _ (0, 0) h4]
    have := wordsList_at (n := k * 1) (F := F) (j := j) (by omega)
    rw [← h8, List.getElem?_take_of_lt (by omega)] at this
    simpa using this
theorem OwnU.below {w w' : World} {base top k M : Nat} {v : Value} {F : Nat → Nat} (h : OwnU 54 1 w base top v k F) (hb : Below M w w') (hM : top ≤ M) : OwnU 54 1 w' base top v k F := h.same fun B _ h2 => hb.block B (by omega)
end Go.Proofs.YtibbnnechjmdmaaDoor
