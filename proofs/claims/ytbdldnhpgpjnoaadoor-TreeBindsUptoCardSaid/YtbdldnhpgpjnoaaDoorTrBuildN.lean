/- Trees as lists of 32 tags: built from 15 on downwards, updated along a path. Conditions: as each says. -/
import Derived.Test.YtbdldnhpgpjnoaaDoorTrPar
namespace Go.Proofs.YtbdldnhpgpjnoaaDoor
open Go Go.RowKit
set_option linter.unusedVariables false
/-- A list of 32 tags said by a function. -/
def listF (T : Nat → List Int) : List (List Int) := (List.range 32).map T
theorem listF_len (T : Nat → List Int) : (listF T).length = 32 := by simp [listF]
theorem listF_get {T : Nat → List Int} {i : Nat} (h : i < 32) : (listF T)[i]? = some (T i) := by unfold listF; rw [List.getElem?_map, List.getElem?_range h]; rfl
theorem listF_at {T : Nat → List Int} {i : Nat} (h : i < 32) : tagAt (listF T) i = T i := by unfold tagAt; rw [List.getD_eq_getElem?_getD, listF_get h]; rfl
theorem listF_ext {T U : Nat → List Int} (h : ∀ i, i < 32 → T i = U i) : listF T = listF U := by
  unfold listF
  exact List.map_congr_left fun i hi => h i (List.mem_range.1 hi)
theorem listF_of {l : List (List Int)} (h : l.length = 32) : listF (tagAt l) = l := by
  apply List.ext_getElem?
  intro i
  rcases Nat.lt_or_ge i 32 with hi | hi
  · rw [listF_get hi]; unfold tagAt; rw [List.getD_eq_getElem?_getD, List.getElem?_eq_getElem (by omega)]; rfl
  · rw [List.getElem?_eq_none (by rw [listF_len]; exact hi), List.getElem?_eq_none (by omega)]
theorem listF_set {T U : Nat → List Int} {k : Nat} {t : List Int} (hk : k < 32) (h : U k = t) (h2 : ∀ i, i ≠ k → U i = T i) : (listF T).set k t = listF U := by
  apply List.ext_getElem?
  intro i
  rcases Nat.lt_or_ge i 32 with hi | hi
  · rw [List.getElem?_set, listF_get hi]
    by_cases e : k = i
    · subst e; rw [if_pos rfl, if_pos (by rw [listF_len]; exact hk), listF_get hi, h]
    · rw [if_neg e, listF_get hi, h2 i (fun e' => e e'.symm)]
  · rw [List.getElem?_eq_none (by rw [List.length_set, listF_len]; exact hi), List.getElem?_eq_none (by rw [listF_len]; exact hi)]
theorem listF_sum {T : Nat → List Int} (h : ∀ i, i < 32 → IsSum (T i)) : ∀ t ∈ listF T, IsSum t := fun t ht => by
  obtain ⟨i, hi, rfl⟩ := List.mem_map.1 ht
  exact h i (List.mem_range.1 hi)
/-! ### Built -/
def treeN (n : Nat) (g : Nat → Nat) (m : List (List Int)) : Nat → List Int := treeF (nodeN n g) nought (tagAt m)
/-- The tree over leaves. -/
def treeL (n : Nat) (g : Nat → Nat) (m : List (List Int)) : List (List Int) := listF (treeN n g m)
theorem treeL_len (n : Nat) (g : Nat → Nat) (m : List (List Int)) : (treeL n g m).length = 32 := listF_len _
theorem treeL_at {n : Nat} {g : Nat → Nat} {m : List (List Int)} {i : Nat} (h : i < 32) : tagAt (treeL n g m) i = treeN n g m i := listF_at h
theorem treeN_sum {n : Nat} {g : Nat → Nat} {m : List (List Int)} (h16 : m.length = 16) (h : ∀ t ∈ m, IsSum t) {i : Nat} (hi : i < 32) : IsSum (treeN n g m i) :=
  treeF_all nought_sum (fun i hi => tagAt_sum h (by omega)) (fun i a b _ _ => nodeN_sum n g i a b) 32 i (by omega) (by omega)
theorem treeL_sum {n : Nat} {g : Nat → Nat} {m : List (List Int)} (h16 : m.length = 16) (h : ∀ t ∈ m, IsSum t) : ∀ t ∈ treeL n g m, IsSum t := listF_sum fun i hi => treeN_sum h16 h hi
/-- The tree as far as it is built: the numbers above k. -/
def bldT (n : Nat) (g : Nat → Nat) (m : List (List Int)) (k : Nat) : List (List Int) := listF fun i => if k < i then treeN n g m i else nought
theorem bldT_len (n : Nat) (g : Nat → Nat) (m : List (List Int)) (k : Nat) : (bldT n g m k).length = 32 := listF_len _
theorem bldT_at {n : Nat} {g : Nat → Nat} {m : List (List Int)} {k i : Nat} (h : i < 32) (hk : k < i) : tagAt (bldT n g m k) i = treeN n g m i := by unfold bldT; rw [listF_at h, if_pos hk]
theorem bldT_zero (n : Nat) (g : Nat → Nat) (m : List (List Int)) : bldT n g m 0 = treeL n g m := listF_ext fun i _ => by
  by_cases h : 0 < i
  · rw [if_pos h]
  · rw [if_neg h]
    obtain rfl : i = 0 := by omega
    rfl
theorem bldT_start {n : Nat} {g : Nat → Nat} {m : List (List Int)} (h : m.length = 16) : (List.replicate 32 nought).take 16 ++ m ++ (List.replicate 32 nought).drop (16 + m.length) = bldT n g m 15 := by
  apply List.ext_getElem?
  intro i
  unfold bldT
  rcases Nat.lt_or_ge i 32 with hi | hi
  · rw [listF_get hi, List.append_assoc]
    by_cases h1 : i < 16
    · rw [List.getElem?_append_left (by simp; omega), List.getElem?_take_of_lt h1, List.getElem?_replicate, if_pos hi, if_neg (by omega)]
    · rw [List.getElem?_append_right (by simp; omega), List.getElem?_append_left (by simp; omega), if_pos (by omega)]
      unfold treeN
      rw [treeF_leaf _ _ _ (by omega)]
      unfold tagAt
      rw [List.length_take, List.length_replicate, List.getD_eq_getElem?_getD, List.getElem?_eq_getElem (show i - min 16 32 < m.length by omega), List.getElem?_eq_getElem (show i - 16 < m.length by omega)]
      rfl
  · rw [List.getElem?_eq_none (by simp; omega), List.getElem?_eq_none (by rw [listF_len]; exact hi)]
theorem bldT_step {n : Nat} {g : Nat → Nat} {m : List (List Int)} {k : Nat} (hk : k + 1 < 16) : (bldT n g m (k + 1)).set (k + 1) (nodeN n g (k + 1) (tagAt (bldT n g m (k + 1)) (2 * (k + 1))) (tagAt (bldT n g m (k + 1)) (2 * (k + 1) + 1))) = bldT n g m k := by
  refine listF_set (by omega) ?_ fun i hi => ?_
  · rw [if_pos (by omega), bldT_at (by omega) (by omega), bldT_at (by omega) (by omega)]
    unfold treeN
    exact treeF_node _ _ _ (by omega) hk
  · by_cases h : k + 1 < i
    · rw [if_pos h, if_pos (by omega)]
    · rw [if_neg h, if_neg (by omega)]
/-! ### Updated -/
/-- A tree with another leaf, k numbers of the path laid. -/
def updT (n : Nat) (g : Nat → Nat) (l : List (List Int)) (b : Nat) (leaf : List Int) (k : Nat) : List (List Int) := listF (updF (nodeN n g) (tagAt l) b leaf k)
theorem updT_len (n : Nat) (g : Nat → Nat) (l : List (List Int)) (b : Nat) (leaf : List Int) (k : Nat) : (updT n g l b leaf k).length = 32 := listF_len _
theorem updT_zero {n : Nat} {g : Nat → Nat} {l : List (List Int)} {b : Nat} {leaf : List Int} (h : l.length = 32) : updT n g l b leaf 0 = l := listF_of h
theorem updT_step {n : Nat} {g : Nat → Nat} {l : List (List Int)} {b : Nat} {leaf : List Int} (hb : b < 16) {k : Nat} (hk : k < 5) : (updT n g l b leaf k).set (pn b k) (climbF (nodeN n g) (tagAt l) b leaf k) = updT n g l b leaf (k + 1) :=
  listF_set (pn_all b hb k hk).2.1 (updF_at hb (by omega) (by omega)) fun i hi => by
    show (if _ then _ else _) = _
    rw [if_neg hi]
theorem updT_at {n : Nat} {g : Nat → Nat} {l : List (List Int)} {b : Nat} {leaf : List Int} {k i : Nat} (hi : i < 32) : tagAt (updT n g l b leaf k) i = updF (nodeN n g) (tagAt l) b leaf k i := listF_at hi
/-- What the document's update reads: the same tag. -/
theorem updT_ref {n : Nat} {g : Nat → Nat} {l : List (List Int)} {b : Nat} {leaf : List Int} (hb : b < 16) {k : Nat} (hk : k < 4) : nodeN n g (pn b (k + 1)) (tagAt (updT n g l b leaf (k + 1)) (2 * pn b (k + 1))) (tagAt (updT n g l b leaf (k + 1)) (2 * pn b (k + 1) + 1)) = climbF (nodeN n g) (tagAt l) b leaf (k + 1) := by
  have := (pn_all b hb (k + 1) (by omega)).2.2.2.1 (by omega)
  rw [updT_at (by omega), updT_at (by omega)]
  exact upd_ref hb hk
theorem updF_sum {n : Nat} {g : Nat → Nat} {T : Nat → List Int} (hT : ∀ i, i < 32 → IsSum (T i)) {b : Nat} {leaf : List Int} (hl : IsSum leaf) : ∀ k i, i < 32 → IsSum (updF (nodeN n g) T b leaf k i)
  | 0, i, hi => hT i hi
  | k + 1, i, hi => by
    show IsSum (if _ then _ else _)
    split
    · cases k with
      | zero => exact hl
      | succ k =>
        rw [climbF]; unfold parF
        split <;> exact nodeN_sum _ _ _ _ _
    · exact updF_sum hT hl k i hi
theorem updT_sum {n : Nat} {g : Nat → Nat} {l : List (List Int)} (h32 : l.length = 32) (h : ∀ t ∈ l, IsSum t) {b : Nat} {leaf : List Int} (hl : IsSum leaf) (k : Nat) : ∀ t ∈ updT n g l b leaf k, IsSum t :=
  listF_sum fun i hi => updF_sum (fun j hj => tagAt_sum h (by omega)) hl k i hi
/-- A tree that was built, updated: built of the other leaves. -/
theorem updT_tree {n : Nat} {g : Nat → Nat} {m : List (List Int)} (h16 : m.length = 16) {b : Nat} (hb : b < 16) (o : List Int) : updT n g (treeL n g m) b o 5 = treeL n g (m.set b o) := by
  refine listF_ext fun i hi => ?_
  have e1 : ∀ j, j < 32 → tagAt (treeL n g m) j = treeF (nodeN n g) nought (tagAt m) j := fun j hj => treeL_at hj
  have e2 : ∀ k, k ≤ 5 → ∀ j, j < 32 → updF (nodeN n g) (tagAt (treeL n g m)) b o k j = updF (nodeN n g) (treeF (nodeN n g) nought (tagAt m)) b o k j ∧ (k < 5 → climbF (nodeN n g) (tagAt (treeL n g m)) b o k = climbF (nodeN n g) (treeF (nodeN n g) nought (tagAt m)) b o k) := fun k => by
    induction k with
    | zero => exact fun _ j hj => ⟨e1 j hj, fun _ => rfl⟩
    | succ k ih =>
      intro hk j hj
      have ic := (ih (by omega) j hj).2 (by omega)
      refine ⟨?_, fun hk5 => ?_⟩
      · show (if _ then _ else _) = (if _ then _ else _)
        rw [(ih (by omega) j hj).1, ic]
      · have hp := pn_all b hb k (by omega)
        have h2 := hp.2.2.2.2 (by omega)
        rw [climbF, climbF, ic]
        unfold parF
        split
        · rw [e1 _ (by omega)]
        · rw [e1 _ (by omega)]
  rw [(e2 5 (by omega) i hi).1, ← upd_tree hb o 32 i (by omega) (by omega)]
  unfold treeN
  have : setLv (tagAt m) b o = tagAt (m.set b o) := by
    funext j
    unfold setLv tagAt
    rw [List.getD_eq_getElem?_getD, List.getD_eq_getElem?_getD, List.getElem?_set]
    by_cases e : b = j
    · subst e; rw [if_pos rfl, if_pos rfl, if_pos (by omega)]; rfl
    · rw [if_neg (fun e' => e e'.symm), if_neg e]
  rw [this]
/-- A tree that was built: what its leaf comes to. -/
theorem climb_built {n : Nat} {g : Nat → Nat} {m : List (List Int)} {b : Nat} (hb : b < 16) : ∀ k, k < 5 → climbF (nodeN n g) (tagAt (treeL n g m)) b (tagAt m b) k = tagAt (treeL n g m) (pn b k)
  | 0, _ => by rw [pn_zero, treeL_at (by omega)]; unfold treeN; rw [treeF_leaf _ _ _ (by omega), show 16 + b - 16 = b by omega]; rfl
  | k + 1, h => by
    have hp := pn_all b hb k (by omega)
    have h2 := hp.2.2.2.2 (by omega)
    have h3 := hp.2.1
    have e := parF_tree (N := nodeN n g) (z := nought) (lv := tagAt m) h2 h3
    rw [climbF, climb_built hb k (by omega), pn_next]
    have e1 : ∀ j, j < 32 → tagAt (treeL n g m) j = treeF (nodeN n g) nought (tagAt m) j := fun j hj => treeL_at hj
    rw [e1 _ h3, e1 _ (show pn b k / 2 < 32 by omega), ← e]
    unfold parF
    split
    · rw [e1 _ (by omega)]
    · rw [e1 _ (by omega)]
theorem SumsB.tag {w : World} {B : Nat} {l : List (List Int)} (h : SumsB w B l) {k : Nat} (hk : k < l.length) : w.rangeAt B (32 * k) (sumC (tagAt l k)) := by unfold tagAt; exact h.get hk
theorem rows_tag {w : World} {q : Option Addr} {l : List (List Int)} (h : RowsAt 32 sumC w q l) {k : Nat} (hk : k < l.length) : ∃ B o, q = some ⟨B, o, none⟩ ∧ B < w.heap.size ∧ w.rangeAt B (o + 32 * k) (sumC (tagAt l k)) := by unfold tagAt; exact sumsAt_get h hk
section
variable {o : Oper} {a : Act} {C : World → Prop} {K : Act → Prop}
theorem gives_int_mul (x y : Operand) (ho : o.op = .binOp .mul 3 x y 3) (i j v : Int) (hx : a.eval x = .int .i64 i) (hy : a.eval y = .int .i64 j) (hv : IntKind.i64.wrap (i * j) = v) (hk : K (a.put o.dst (.int .i64 v))) : ∃ v, Gives Tryd.prog C o a v ∧ K (a.put o.dst v) :=
  ⟨_, fun w _ => by
    subst hv
    unfold execOp
    simp only [ho, hx, hy]
    simp [go_sem], hk⟩
end
theorem done_four {o : Oper} {a : Act} {w : World} {K : Value → World → Prop} (x y z t r : Operand) (ts : Array TypeId) (ho : o.op = .call { callee := .value x, args := #[y, z, t, r], argTypes := ts }) (g : FuncId) (hx : a.eval x = .func (.func g) #[] #[])
    (u v s q : Value) (hy : a.eval y = u) (hz : a.eval z = v) (ht : a.eval t = s) (hr : a.eval r = q) (hf : ∀ (args : Array Value) (w : World), (callFunc g args).run Tryd.prog w = .ok (.enter g args) w)
    (hc : Calls Tryd.prog g #[u, v, s, q] w fun e w' => ∃ r, e = .returned r ∧ K r w') : doneAt Tryd.prog o a w K :=
  done_call x #[y, z, t, r] ts ho g #[u, v, s, q] hx (by simp only [List.map_toArray, List.map_cons, List.map_nil, hy, hz, ht, hr]) (hf _ w) hc
theorem done_five {o : Oper} {a : Act} {w : World} {K : Value → World → Prop} (x y z t r p : Operand) (ts : Array TypeId) (ho : o.op = .call { callee := .value x, args := #[y, z, t, r, p], argTypes := ts }) (g : FuncId) (hx : a.eval x = .func (.func g) #[] #[])
    (u v s q m : Value) (hy : a.eval y = u) (hz : a.eval z = v) (ht : a.eval t = s) (hr : a.eval r = q) (hp : a.eval p = m) (hf : ∀ (args : Array Value) (w : World), (callFunc g args).run Tryd.prog w = .ok (.enter g args) w)
    (hc : Calls Tryd.prog g #[u, v, s, q, m] w fun e w' => ∃ r, e = .returned r ∧ K r w') : doneAt Tryd.prog o a w K :=
  done_call x #[y, z, t, r, p] ts ho g #[u, v, s, q, m] hx (by simp only [List.map_toArray, List.map_cons, List.map_nil, hy, hz, ht, hr, hp]) (hf _ w) hc
end Go.Proofs.YtbdldnhpgpjnoaaDoor
