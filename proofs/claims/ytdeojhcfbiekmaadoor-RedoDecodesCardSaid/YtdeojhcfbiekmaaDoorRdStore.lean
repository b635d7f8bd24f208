/- Sectors written where they lie in a slice: stored, patched, copied over; slices taken of arrays. Conditions: as each says. -/
import Derived.Test.YtdeojhcfbiekmaaDoorRdSec
import Derived.Laws.IdiomCopy
namespace Go.Proofs.YtdeojhcfbiekmaaDoor
open Go.ChangeShapes Go.WideShapes Go.ChangeAt Go.RowKit
set_option linter.unusedVariables false
theorem below_setCells {M : Nat} {w : World} {B : Nat} (hB : M ≤ B) : ∀ (vs : List Value) (o : Nat) (W : World), Below M w W → Below M w (W.setCells B o vs)
  | [], _, _, h => h
  | v :: r, o, W, h => by
    rw [World.setCells]
    exact below_setCells hB r (o + 1) _ (h.setCell (p := ⟨B, o, none⟩) hB v)
theorem size_setCells {B : Nat} : ∀ (vs : List Value) (o : Nat) (W : World), (W.setCells B o vs).heap.size = W.heap.size
  | [], _, _ => rfl
  | v :: r, o, W => by
    rw [World.setCells, size_setCells r]
    simp [World.setCell]
/-- A sector of a list is written over, wholly or in its first bytes. -/
theorem rows_patch {w : World} {B : Nat} {l : List (List Int)} (h : RowsAt 128 secC w (some ⟨B, 0, none⟩) l) {i : Nat} (hi : i < l.length) (vs : List Value) (s : List Int) (hm : vs.length ≤ 128) (ht : w.there B (128 * i) vs.length)
    (h1 : ∀ j, j < vs.length → vs[j]? = (secC s)[j]?) (h2 : ∀ j, vs.length ≤ j → j < 128 → (secC (l.getD i []))[j]? = (secC s)[j]?) : RowsAt 128 secC (w.setCells B (128 * i) vs) (some ⟨B, 0, none⟩) (l.set i s) := by
  rcases h with rfl | ⟨B', o, e, hB, hr⟩
  · simp at hi
  cases e
  refine .inr ⟨B, 0, rfl, by rw [size_setCells]; exact hB, fun k c hk j v hv => ?_⟩
  have hj : j < 128 := by rw [← secC_len c]; exact (List.getElem?_eq_some_iff.1 hv).1
  have same := World.rangeAt_setCells_same w B (128 * i) vs ht
  rw [Nat.zero_add]
  by_cases hki : k = i
  · subst hki
    obtain rfl : s = c := by rw [List.getElem?_set_self hi] at hk; simpa using hk
    by_cases hjv : j < vs.length
    · rw [← h1 j hjv] at hv
      exact same j v hv
    · rw [World.cell?_setCells_out B vs (128 * k) w ⟨B, 128 * k + j, none⟩ (fun _ _ => by right; show 128 * k + vs.length ≤ 128 * k + j; omega)]
      rw [← h2 j (by omega) hj] at hv
      have := hr k (l.getD k []) (by rw [List.getD_eq_getElem?_getD, List.getElem?_eq_getElem hi]; rfl) j v hv
      rwa [Nat.zero_add] at this
  · rw [List.getElem?_set_ne (fun e => hki e.symm)] at hk
    rw [World.cell?_setCells_out B vs (128 * i) w ⟨B, 128 * k + j, none⟩ (fun _ _ => by
      rcases Nat.lt_or_ge k i with e | e
      · left; show 128 * k + j < 128 * i; omega
      · right; show 128 * i + vs.length ≤ 128 * k + j; omega)]
    have := hr k c hk j v hv
    rwa [Nat.zero_add] at this
theorem there_of_own {α : Type} {e : TypeId} {sz base top : Nat} {C : α → List Value} {w : World} {l : List α} {B n c : Nat} (hl : OwnL e sz C w base top (.slice (some ⟨B, 0, none⟩) n c) l) : w.there B 0 (l.length * sz) := by
  rcases hl with ⟨h, _⟩ | ⟨B', c', cur, h, _, _, hb, hc, _, hs, _⟩
  · cases h
  · cases h
    intro j hj
    have : l.length * sz ≤ c * sz := Nat.mul_le_mul_right _ hc
    refine ⟨?_, frozen_of_row w B (0 + j) _ _ hb⟩
    rw [cell_of_row w B (0 + j) _ _ _ hb, Nat.zero_add]
    simp [Array.getElem?_eq_getElem (show j < cur.size by omega)]
theorem there_sub {w : World} {B n o m : Nat} (h : w.there B 0 n) (hm : o + m ≤ n) : w.there B o m := fun j hj => by
  have := h (o + j) (by omega)
  rwa [Nat.zero_add] at this
section
variable {ops : Array Oper} {rest : List Oper} {o : Oper} {a : Act} {w : World} {Q : Exit → Act → World → Prop} {C : World → Prop} {K : Act → Prop}
theorem wpList_sec_store (hgd : o.guard = none) (x y : Operand) (ho : o.op = .store 31 x y) (B off : Nat) (s : List Int) (hx : a.eval x = .pointer (some ⟨B, off, none⟩)) (hy : a.eval y = secVal s) (ht : w.there B off 128)
    (h : wpList Tryd.prog ops Q rest (a.put o.dst undef) (w.setCells B off (secC s))) : wpList Tryd.prog ops Q (o :: rest) a w := by
  refine wpList_store_mid hgd _ x y ho B off (secC s).toArray hx (by rw [hy, ← secVal_arr]) (by rw [List.size_toArray, secC_len]; exact ht) (by rw [List.size_toArray]; exact secC_size s) (all_oneCell_toArray (secC_one s)) ?_
  exact h
theorem arr_slice (t e : TypeId) (n : Nat) (hu : Tryd.prog.underlying t = some (.array n e)) (he : e = 5) (B off : Nat) (w : World) : (Instr.sliceAt t (.pointer (some ⟨B, off, none⟩)) none none none).run Tryd.prog w = .ok (.slice (some ⟨B, off, none⟩) n n) w := by
  subst he
  have hs := byteElem.run_size (P := Tryd.prog) w
  simp [go_sem, hs, addr_add, Program.elem, hu]
theorem gives_arr_slice (t e : TypeId) (n : Nat) (hu : Tryd.prog.underlying t = some (.array n e)) (he : e = 5) (x : Operand) (ho : o.op = .slice t x none none none) (B off : Nat) (hx : a.eval x = .pointer (some ⟨B, off, none⟩)) (hk : K (a.put o.dst (.slice (some ⟨B, off, none⟩) n n))) : ∃ v, Gives Tryd.prog C o a v ∧ K (a.put o.dst v) :=
  ⟨_, fun w _ => by
    have hr := arr_slice t e n hu he B off w
    unfold execOp
    simp only [ho, hx]
    simp [hr], hk⟩
theorem wpList_arr_slice (hw : Region.wanted o (yielded ops a.tmps) = true) (t e : TypeId) (n : Nat) (hu : Tryd.prog.underlying t = some (.array n e)) (he : e = 5) (x : Operand) (ho : o.op = .slice t x none none none) (B off : Nat) (hx : a.eval x = .pointer (some ⟨B, off, none⟩))
    (h : wpList Tryd.prog ops Q rest (a.put o.dst (.slice (some ⟨B, off, none⟩) n n)) w) : wpList Tryd.prog ops Q (o :: rest) a w :=
  wanted_step hw fun K hK => by
    have hr := arr_slice t e n hu he B off w
    unfold Oper.wp execOp
    simp only [ho, hx]
    simp [hr]
    exact hK _ _ h
theorem done_copy {K : Value → World → Prop} (d s : Operand) (ho : o.op = .call { callee := .builtin .copy, args := #[d, s], argTypes := #[22, 22] }) (B off dLen dCap : Nat) (src : Addr) (sLen sCap : Nat) (cs : List Value) (hd : a.eval d = .slice (some ⟨B, off, none⟩) dLen dCap) (hs : a.eval s = .slice (some src) sLen sCap)
    (hn : cs.length = Nat.min sLen dLen) (hsrc : ∀ j v, cs[j]? = some v → w.cell? (src.add j) = some v) (ht : w.there B off cs.length) (h1 : ∀ v ∈ cs, v.oneCell' = true) (h : K (goInt cs.length) (w.setCells B off cs)) : doneAt Tryd.prog o a w K := by
  have hrun := run_copy_cells (P := Tryd.prog) w 22 22 o.type 5 B off dLen dCap src sLen sCap cs bytesUnder byteInfo hn hsrc (fun j hj => (ht j hj).1) (fun j hj => (ht j hj).2) h1
  unfold doneAt
  simp [execOp, ho, resolve, invoke, builtin, hd, hs, hrun, Result.andThen]
  exact h
end
end Go.Proofs.YtdeojhcfbiekmaaDoor
