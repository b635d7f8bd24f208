/- Plain mathematics of what the laws say of entries: with another byte, mixed, with another key. Conditions: as each says. -/
import Derived.Test.YtdeojhcfbiekmaaDoorRdNum
namespace Go.Proofs.YtdeojhcfbiekmaaDoor
open Go Go.RowKit

theorem flat_inj : ∀ {a b : List (List Int)}, (∀ x ∈ a, x.length = 128) → (∀ x ∈ b, x.length = 128) → a.flatten = b.flatten → a = b
  | [], [], _, _, _ => rfl
  | [], y :: b, _, hb, h => by
    have h1 := hb y (List.mem_cons_self ..)
    have := congrArg List.length h
    rw [List.flatten_nil, List.flatten_cons, List.length_append, h1, List.length_nil] at this
    omega
  | x :: a, [], ha, _, h => by
    have h1 := ha x (List.mem_cons_self ..)
    have := congrArg List.length h
    rw [List.flatten_nil, List.flatten_cons, List.length_append, h1, List.length_nil] at this
    omega
  | x :: a, y :: b, ha, hb, h => by
    have h1 := ha x (List.mem_cons_self ..)
    have h2 := hb y (List.mem_cons_self ..)
    rw [List.flatten_cons, List.flatten_cons] at h
    obtain ⟨h3, h4⟩ := List.append_inj h (by rw [h1, h2])
    rw [h3, flat_inj (fun z hz => ha z (List.mem_cons_of_mem _ hz)) (fun z hz => hb z (List.mem_cons_of_mem _ hz)) h4]
theorem textL_flat (s : List Int) (l : List PutOf) : textL s l = (s :: l.map (·.s)).flatten := by
  unfold textL
  rw [List.flatten_cons, List.flatMap_def]
/-- Unlike first sectors or puts' sectors have unlike texts. -/
theorem textL_inj {s s' : List Int} {l l' : List PutOf} (hs : s.length = 128) (hs' : s'.length = 128) (hl : ∀ p ∈ l, p.ok) (hl' : ∀ p ∈ l', p.ok) (h : textL s l = textL s' l') : s = s' ∧ l.map (·.s) = l'.map (·.s) := by
  rw [textL_flat, textL_flat] at h
  have hm : ∀ {m : List PutOf}, (∀ p ∈ m, p.ok) → ∀ x ∈ m.map (·.s), x.length = 128 := fun hk x hx => by
    obtain ⟨p, hp, rfl⟩ := List.mem_map.1 hx
    exact (hk p hp).1
  have := flat_inj (a := s :: l.map (·.s)) (b := s' :: l'.map (·.s)) (fun x hx => (List.mem_cons.1 hx).elim (fun e => e ▸ hs) (hm hl x)) (fun x hx => (List.mem_cons.1 hx).elim (fun e => e ▸ hs') (hm hl' x)) h
  exact List.cons.inj this
theorem firstL_len (count : Int) (l : List PutOf) : (firstL count l).length = 128 := padS_len _
theorem puts_eq : ∀ {l l' : List PutOf}, l.map (·.at') = l'.map (·.at') → l.map (·.s) = l'.map (·.s) → l = l'
  | [], [], _, _ => rfl
  | [], b :: l', h, _ => by simp at h
  | a :: l, [], h, _ => by simp at h
  | a :: l, b :: l', h, k => by
    rw [List.map_cons, List.map_cons] at h k
    obtain ⟨h1, h2⟩ := List.cons.inj h
    obtain ⟨k1, k2⟩ := List.cons.inj k
    rw [PutOf.ext h1 k1, puts_eq h2 k2]
/-- What a first sector says is its entry's. -/
theorem first_inj {count count' : Int} {l l' : List PutOf} (h : goodE count l) (h' : goodE count' l') (hc : count ≤ 9223372036854775807) (hc' : count' ≤ 9223372036854775807) (he : firstL count l = firstL count' l') : count = count' ∧ l.map (·.at') = l'.map (·.at') := by
  constructor
  · rw [← h.count hc, ← h'.count hc', he]
  · rw [← h.says, ← h'.says, he]
theorem countL_most (s : List Int) : countL s ≤ 9223372036854775807 := by
  unfold countL
  have := (show IntKind.i64.wrap (valN 8 (natF s) : Nat) ≤ 9223372036854775807 from by unfold IntKind.wrap; simp [IntKind.bits, IntKind.signed]; omega)
  exact this
theorem dec_count {τ : List Int → List Int} {cs : List (List Int)} {count : Int} {l : List PutOf} (h : decE τ cs = some (count, l)) : count ≤ 9223372036854775807 := by
  match cs, h with
  | s0 :: s1 :: r, h =>
    rw [decE_two] at h
    split at h
    · obtain ⟨rfl, rfl⟩ : countL s0 = count ∧ toldL (saysL s0) r = l := by simpa using h
      exact countL_most s0
    · cases h
theorem dec_ok {τ : List Int → List Int} {cs : List (List Int)} {count : Int} {l : List PutOf} (hcs : ∀ s ∈ cs, IsSec s) (h : decE τ cs = some (count, l)) : ∀ p ∈ l, p.ok := fun p hp => by
  obtain ⟨_, more, rfl⟩ := dec_some h
  refine hcs _ (List.mem_append_left _ ?_)
  unfold encL
  exact List.mem_cons_of_mem _ (List.mem_cons_of_mem _ (List.mem_map_of_mem hp))
theorem padS_tau {a b : List Int} (ha : IsBytes a) (hb : IsBytes b) (la : a.length = 32) (lb : b.length = 32) (h : padS a = padS b) : a = b := padS_inj ha hb (by rw [la, lb]) (by omega) h
/-- With another byte in one sector an entry is none, or unlike texts have one tag. -/
theorem spoilt (τ : List Int → List Int) (hτ : ∀ t, IsBytes (τ t)) (hτl : ∀ t, (τ t).length = 32) {count : Int} {l : List PutOf} (h : goodE count l) (hc : count ≤ 9223372036854775807) (hl : ∀ p ∈ l, p.ok) {b : Nat} {s : List Int} (hb : b < 2 + l.length) (hs : IsSec s) (hne : s ≠ (encL τ count l).getD b []) {n : Int} {p : List PutOf} (hd : decE τ ((encL τ count l).set b s) = some (n, p)) :
    textL (((encL τ count l).set b s).getD 0 []) p ≠ textL (firstL count l) l ∧ τ (textL (((encL τ count l).set b s).getD 0 []) p) = τ (textL (firstL count l) l) := by
  obtain ⟨hg, more, he⟩ := dec_some hd
  have hn := dec_count hd
  have hcs : ∀ x ∈ (encL τ count l).set b s, IsSec x := fun x hx => by
    rcases List.mem_or_eq_of_mem_set hx with hx | rfl
    · unfold encL at hx
      rcases List.mem_cons.1 hx with rfl | hx
      · exact firstL_sec _ _
      · rcases List.mem_cons.1 hx with rfl | hx
        · exact padS_sec (hτ _)
        · obtain ⟨q, hq, rfl⟩ := List.mem_map.1 hx
          exact hl q hq
    · exact hs
  have hp := dec_ok hcs hd
  have key : (encL τ count l).set b s ≠ encL τ count l := fun e => hne (by
    have := congrArg (fun z => z.getD b []) e
    simp only [List.getD_eq_getElem?_getD, List.getElem?_set_self (show b < (encL τ count l).length by rw [encL_len]; exact hb)] at this
    rw [List.getD_eq_getElem?_getD]; exact this)
  -- the same first sector and puts' sectors: the same entry
  have same : ∀ {m : List PutOf} {k : Int}, goodE k m → k ≤ 9223372036854775807 → firstL k m = firstL count l → m.map (·.s) = l.map (·.s) → encL τ k m = encL τ count l := fun hgm hk h1 h2 => by
    obtain ⟨e1, e2⟩ := first_inj hgm h hk hc h1
    rw [e1, puts_eq e2 h2]
  rcases b with _ | _ | b
  · -- the first sector
    have h0 : ((encL τ count l).set 0 s).getD 0 [] = s := rfl
    rw [h0]
    have e0 : (encL τ count l).set 0 s = s :: padS (τ (textL (firstL count l) l)) :: l.map (·.s) := rfl
    rw [e0] at he
    have e1 : s = firstL n p := (List.cons.inj he).1
    have e2 : padS (τ (textL (firstL count l) l)) = padS (τ (textL (firstL n p) p)) := (List.cons.inj (List.cons.inj he).2).1
    refine ⟨fun ht => hne ?_, ?_⟩
    · obtain ⟨h1, _⟩ := textL_inj hs.1 (firstL_len count l) hp hl ht
      rw [h1]; rfl
    · rw [e1]
      exact (padS_tau (hτ _) (hτ _) (hτl _) (hτl _) e2).symm
  · -- the tag's sector
    exfalso
    have e0 : (encL τ count l).set 1 s = firstL count l :: s :: l.map (·.s) := rfl
    rw [e0] at he
    have e1 : firstL count l = firstL n p := (List.cons.inj he).1
    have e2 : s = padS (τ (textL (firstL n p) p)) := (List.cons.inj (List.cons.inj he).2).1
    have e3 : l.map (·.s) = p.map (·.s) ++ more := (List.cons.inj (List.cons.inj he).2).2
    obtain ⟨e4, e5⟩ := first_inj hg h hn hc e1.symm
    have el : p.length = l.length := by have := congrArg List.length e5; simpa using this
    have em : more = [] := by
      have := congrArg List.length e3
      rw [List.length_append, List.length_map, List.length_map, el] at this
      exact List.eq_nil_of_length_eq_zero (by omega)
    rw [em, List.append_nil] at e3
    have e6 := puts_eq e5 e3.symm
    refine hne ?_
    rw [e2, e4, e6]; rfl
  · -- a put's sector
    have e0 : (encL τ count l).set (b + 2) s = firstL count l :: padS (τ (textL (firstL count l) l)) :: (l.map (·.s)).set b s := rfl
    have h0 : ((encL τ count l).set (b + 2) s).getD 0 [] = firstL count l := rfl
    rw [h0]
    rw [e0] at he
    have e1 : firstL count l = firstL n p := (List.cons.inj he).1
    have e2 : padS (τ (textL (firstL count l) l)) = padS (τ (textL (firstL n p) p)) := (List.cons.inj (List.cons.inj he).2).1
    have e3 : (l.map (·.s)).set b s = p.map (·.s) ++ more := (List.cons.inj (List.cons.inj he).2).2
    refine ⟨fun ht => ?_, ?_⟩
    · obtain ⟨_, h2⟩ := textL_inj (firstL_len count l) (firstL_len count l) hp hl ht
      have el : more = [] := by
        have h3 := congrArg List.length e3
        have h4 := congrArg List.length h2
        rw [List.length_append, List.length_set] at h3
        exact List.eq_nil_of_length_eq_zero (by omega)
      rw [el, List.append_nil, h2] at e3
      refine hne ?_
      have hbl : b < (l.map (·.s)).length := by rw [List.length_map]; omega
      have := congrArg (fun z => z.getD b []) e3
      simp only [List.getD_eq_getElem?_getD, List.getElem?_set_self hbl] at this
      rw [List.getD_eq_getElem?_getD]
      show s = _
      exact this
    · rw [← e1] at e2
      exact (padS_tau (hτ _) (hτ _) (hτl _) (hτl _) e2).symm
/-- What is read bears its own text's tag. -/
theorem dec_tag {τ : List Int → List Int} {cs : List (List Int)} {count : Int} {l : List PutOf} (h : decE τ cs = some (count, l)) : cs.getD 1 [] = padS (τ (textL (cs.getD 0 []) l)) ∧ 2 ≤ cs.length := by
  obtain ⟨_, more, rfl⟩ := dec_some h
  exact ⟨rfl, by rw [List.length_append, encL_len]; omega⟩
/-- With another key an entry is none, but where its tag is the same. -/
theorem dec_other (τ τ' : List Int → List Int) {count : Int} {l : List PutOf} (h : goodE count l) (hc : count ≤ 9223372036854775807) : decE τ' (encL τ count l) = if padS (τ (textL (firstL count l) l)) = padS (τ' (textL (firstL count l) l)) then some (count, l) else none := by
  have e1 := h.says
  have e2 := h.count hc
  have e3 := told_back l []
  rw [List.append_nil] at e3
  show (if goodE (countL (firstL count l)) (toldL (saysL (firstL count l)) (l.map (·.s))) ∧ encL τ' (countL (firstL count l)) (toldL (saysL (firstL count l)) (l.map (·.s))) <+: encL τ count l then some (countL (firstL count l), toldL (saysL (firstL count l)) (l.map (·.s))) else none) = _
  rw [e1, e2, e3]
  by_cases ht : padS (τ (textL (firstL count l) l)) = padS (τ' (textL (firstL count l) l))
  · rw [if_pos ht, if_pos ⟨h, by unfold encL; rw [ht]; exact List.prefix_rfl⟩]
  · rw [if_neg ht, if_neg]
    rintro ⟨_, more, hm⟩
    unfold encL at hm
    rw [List.cons_append, List.cons_append] at hm
    exact ht (List.cons.inj (List.cons.inj hm).2).1.symm
end Go.Proofs.YtdeojhcfbiekmaaDoor
