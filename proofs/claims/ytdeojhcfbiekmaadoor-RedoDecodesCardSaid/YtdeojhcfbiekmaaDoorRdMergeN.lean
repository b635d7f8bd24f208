/- Plain mathematics of merged puts: the last put of each number, the numbers rising, and how many they are. No condition. -/
import Derived.Test.YtdeojhcfbiekmaaDoorRdNum
namespace Go.Proofs.YtdeojhcfbiekmaaDoor
open Go Go.RowKit

def noPut : PutOf := ⟨0, []⟩
/-- The place of the last of the first k puts that has a number. -/
def lastTo (l : List PutOf) : Nat → Int → Option Nat
  | 0, _ => none
  | k + 1, x => if (l.getD k noPut).at' = x then some k else lastTo l k x
theorem lastTo_some {l : List PutOf} {x : Int} : ∀ {k i : Nat}, lastTo l k x = some i → i < k ∧ (l.getD i noPut).at' = x ∧ ∀ j, i < j → j < k → (l.getD j noPut).at' ≠ x
  | k + 1, i, h => by
    unfold lastTo at h
    split at h
    · rename_i hx
      obtain rfl : k = i := by simpa using h
      exact ⟨Nat.lt_succ_self _, hx, fun j h1 h2 => by omega⟩
    · rename_i hx
      obtain ⟨h1, h2, h3⟩ := lastTo_some h
      refine ⟨by omega, h2, fun j hj hk => ?_⟩
      by_cases e : j = k
      · subst e; exact hx
      · exact h3 j hj (by omega)
theorem lastTo_has {l : List PutOf} {x : Int} : ∀ {k i : Nat}, i < k → (l.getD i noPut).at' = x → (lastTo l k x).isSome = true
  | k + 1, i, hi, hx => by
    unfold lastTo
    split
    · rfl
    · rename_i hn
      by_cases e : i = k
      · subst e; exact absurd hx hn
      · exact lastTo_has (by omega) hx
theorem lastTo_eq {l : List PutOf} {x : Int} {k i : Nat} (hi : i < k) (hx : (l.getD i noPut).at' = x) (hl : ∀ j, i < j → j < k → (l.getD j noPut).at' ≠ x) : lastTo l k x = some i := by
  obtain ⟨m, hm⟩ := Option.isSome_iff_exists.1 (lastTo_has hi hx)
  obtain ⟨h1, h2, h3⟩ := lastTo_some hm
  rcases Nat.lt_trichotomy i m with h | h | h
  · exact absurd h2 (hl m h h1)
  · rw [hm, h]
  · exact absurd hx (h3 i h hi)
/-- The numbers of puts, rising. -/
structure IsKeys (l : List PutOf) (K : List Int) : Prop where
  up : K.Pairwise (· < ·)
  mem : ∀ x, x ∈ K ↔ (lastTo l l.length x).isSome = true
theorem isKeys_unique {l : List PutOf} {K K' : List Int} (h : IsKeys l K) (h' : IsKeys l K') : K = K' :=
  List.Perm.eq_of_pairwise (le := fun a b => a < b) (fun a b _ _ h1 h2 => absurd h1 (by omega)) h.up h'.up ((List.perm_ext_iff_of_nodup (h.up.imp fun h => by omega) (h'.up.imp fun h => by omega)).2 fun x => by rw [h.mem, h'.mem])
def pickP (l : List PutOf) (x : Int) : PutOf := l.getD ((lastTo l l.length x).getD 0) noPut
/-- The puts merged, when their numbers rise as K. -/
def mergeK (l : List PutOf) (K : List Int) : List PutOf := K.map (pickP l)
theorem mergeK_len (l : List PutOf) (K : List Int) : (mergeK l K).length = K.length := by simp [mergeK]
theorem mergeK_next (l : List PutOf) (K : List Int) {k : Nat} (h : k < K.length) : mergeK l (K.take (k + 1)) = mergeK l (K.take k) ++ [pickP l K[k]] := by
  unfold mergeK
  rw [List.take_add_one, List.getElem?_eq_getElem h, Option.toList_some, List.map_append, List.map_singleton]
theorem IsKeys.mem_iff {l : List PutOf} {K : List Int} (h : IsKeys l K) (x : Int) : x ∈ K ↔ x ∈ l.map (·.at') := by
  rw [h.mem, List.mem_map]
  constructor
  · intro hs
    obtain ⟨i, hi⟩ := Option.isSome_iff_exists.1 hs
    obtain ⟨h1, h2, _⟩ := lastTo_some hi
    refine ⟨l[i], List.getElem_mem h1, ?_⟩
    rw [List.getD_eq_getElem?_getD, List.getElem?_eq_getElem h1] at h2
    exact h2
  · rintro ⟨p, hp, rfl⟩
    obtain ⟨i, hi, rfl⟩ := List.getElem_of_mem hp
    exact lastTo_has hi (by rw [List.getD_eq_getElem?_getD, List.getElem?_eq_getElem hi]; rfl)
theorem IsKeys.pick {l : List PutOf} {K : List Int} (h : IsKeys l K) {x : Int} (hx : x ∈ K) : ∃ i, lastTo l l.length x = some i ∧ ∃ hi : i < l.length, pickP l x = l[i] ∧ l[i].at' = x := by
  obtain ⟨i, hi⟩ := Option.isSome_iff_exists.1 ((h.mem x).1 hx)
  obtain ⟨h1, h2, _⟩ := lastTo_some hi
  rw [List.getD_eq_getElem?_getD, List.getElem?_eq_getElem h1] at h2
  refine ⟨i, hi, h1, ?_, h2⟩
  unfold pickP
  rw [hi, Option.getD_some, List.getD_eq_getElem?_getD, List.getElem?_eq_getElem h1]; rfl
theorem nodup_sub_len : ∀ {K L : List Int}, K.Nodup → (∀ x ∈ K, x ∈ L) → K.length ≤ L.length
  | [], L, _, _ => Nat.zero_le _
  | a :: K, L, hn, hs => by
    have ha := hs a (List.mem_cons_self ..)
    have hn' := List.nodup_cons.1 hn
    have ih := nodup_sub_len (L := L.erase a) hn'.2 fun x hx => (List.mem_erase_of_ne (fun e => by subst e; exact hn'.1 hx)).2 (hs x (List.mem_cons_of_mem _ hx))
    rw [List.length_erase_of_mem ha] at ih
    have : 0 < L.length := List.length_pos_of_mem ha
    rw [List.length_cons]; omega
theorem not_nodup_sub : ∀ {L : List Int}, ¬ L.Nodup → ∃ L' : List Int, L'.length < L.length ∧ ∀ x ∈ L, x ∈ L'
  | [], h => absurd List.nodup_nil h
  | a :: L, h => by
    by_cases ha : a ∈ L
    · exact ⟨L, by simp, fun x hx => (List.mem_cons.1 hx).elim (fun e => e ▸ ha) id⟩
    · obtain ⟨L', h1, h2⟩ := not_nodup_sub (L := L) fun hn => h (List.nodup_cons.2 ⟨ha, hn⟩)
      exact ⟨a :: L', by simp; omega, fun x hx => (List.mem_cons.1 hx).elim (fun e => e ▸ List.mem_cons_self ..) fun h' => List.mem_cons_of_mem _ (h2 x h')⟩
/-- Fewer numbers than puts: one stands twice. -/
theorem IsKeys.fewer {l : List PutOf} {K : List Int} (h : IsKeys l K) : K.length < l.length ↔ ¬ (l.map (·.at')).Nodup := by
  have hK : K.Nodup := h.up.imp fun h => by omega
  constructor
  · intro hl hn
    have := nodup_sub_len hn (L := K) fun x hx => (h.mem_iff x).2 hx
    rw [List.length_map] at this
    omega
  · intro hn
    obtain ⟨L', h1, h2⟩ := not_nodup_sub hn
    have := nodup_sub_len hK (L := L') fun x hx => h2 x ((h.mem_iff x).1 hx)
    rw [List.length_map] at h1
    omega
theorem IsKeys.most {l : List PutOf} {K : List Int} (h : IsKeys l K) : K.length ≤ l.length := by
  have := nodup_sub_len (K := K) (L := l.map (·.at')) (h.up.imp fun h => by omega) fun x hx => (h.mem_iff x).1 hx
  rwa [List.length_map] at this

/-! ### The document's way: again and again the least number behind the last one -/
def laterP (l : List PutOf) (prev : Option Int) (i : Nat) : Prop := match prev with | none => True | some z => z < (l.getD i noPut).at'
instance (l : List PutOf) (prev : Option Int) (i : Nat) : Decidable (laterP l prev i) := by unfold laterP; split <;> infer_instance
def bestTo (l : List PutOf) (prev : Option Int) : Nat → Option Nat
  | 0 => none
  | i + 1 => if laterP l prev i then (match bestTo l prev i with | none => some i | some b => if (l.getD i noPut).at' ≤ (l.getD b noPut).at' then some i else some b) else bestTo l prev i
theorem bestTo_none {l : List PutOf} {prev : Option Int} : ∀ {n : Nat}, bestTo l prev n = none → ∀ i, i < n → ¬ laterP l prev i
  | n + 1, h, i, hi => by
    unfold bestTo at h
    split at h
    · split at h
      · cases h
      · split at h <;> cases h
    · rename_i hn
      by_cases e : i = n
      · subst e; exact hn
      · exact bestTo_none h i (by omega)
theorem bestTo_some {l : List PutOf} {prev : Option Int} : ∀ {n b : Nat}, bestTo l prev n = some b → b < n ∧ laterP l prev b ∧ ∀ i, i < n → laterP l prev i → (l.getD b noPut).at' ≤ (l.getD i noPut).at' ∧ ((l.getD i noPut).at' = (l.getD b noPut).at' → i ≤ b)
  | n + 1, b, h => by
    unfold bestTo at h
    split at h
    · rename_i hl
      split at h
      · rename_i hb
        obtain rfl : n = b := by simpa using h
        refine ⟨by omega, hl, fun i hi hli => ?_⟩
        by_cases e : i = n
        · subst e; exact ⟨Int.le_refl _, fun _ => Nat.le_refl _⟩
        · exact absurd hli (bestTo_none hb i (by omega))
      · rename_i b' hb
        obtain ⟨h1, h2, h3⟩ := bestTo_some hb
        split at h
        · rename_i hle
          obtain rfl : n = b := by simpa using h
          refine ⟨by omega, hl, fun i hi hli => ?_⟩
          by_cases e : i = n
          · subst e; exact ⟨Int.le_refl _, fun _ => Nat.le_refl _⟩
          · exact ⟨Int.le_trans hle (h3 i (by omega) hli).1, fun _ => by omega⟩
        · rename_i hle
          obtain rfl : b' = b := by simpa using h
          refine ⟨by omega, h2, fun i hi hli => ?_⟩
          by_cases e : i = n
          · subst e; exact ⟨by omega, fun he => by omega⟩
          · exact h3 i (by omega) hli
    · rename_i hl
      obtain ⟨h1, h2, h3⟩ := bestTo_some h
      refine ⟨by omega, h2, fun i hi hli => ?_⟩
      by_cases e : i = n
      · subst e; exact absurd hli hl
      · exact h3 i (by omega) hli
/-- The number behind which the k-th is looked for. -/
def prevK (K : List Int) (k : Nat) : Option Int := if k = 0 then none else K[k - 1]?
theorem prevK_lt {l : List PutOf} {K : List Int} (h : IsKeys l K) {k i : Nat} (hk : k ≤ K.length) (hi : i < l.length) : laterP l (prevK K k) i ↔ ∃ m, k ≤ m ∧ K[m]? = some (l.getD i noPut).at' := by
  have hm : (l.getD i noPut).at' ∈ K := (h.mem _).2 (lastTo_has hi rfl)
  obtain ⟨m, hml, hme⟩ := List.getElem_of_mem hm
  have hup : ∀ {a b : Nat} (ha : a < K.length) (hb : b < K.length), a < b → K[a] < K[b] := fun ha hb hab => List.pairwise_iff_getElem.1 h.up _ _ ha hb hab
  have huniq : ∀ m', K[m']? = some (l.getD i noPut).at' → m' = m := fun m' hm' => by
    obtain ⟨h1, h2⟩ := List.getElem?_eq_some_iff.1 hm'
    rcases Nat.lt_trichotomy m' m with e | e | e
    · have := hup h1 hml e; rw [h2, hme] at this; omega
    · exact e
    · have := hup hml h1 e; rw [h2, hme] at this; omega
  have e1 : (∃ m', k ≤ m' ∧ K[m']? = some (l.getD i noPut).at') ↔ k ≤ m :=
    ⟨fun ⟨m', h1, h2⟩ => by rw [← huniq m' h2]; exact h1, fun hkm => ⟨m, hkm, by rw [List.getElem?_eq_getElem hml, hme]⟩⟩
  rw [e1]
  unfold prevK
  by_cases h0 : k = 0
  · rw [if_pos h0]; exact ⟨fun _ => by omega, fun _ => trivial⟩
  · rw [if_neg h0, List.getElem?_eq_getElem (show k - 1 < K.length by omega)]
    show K[k - 1] < (l.getD i noPut).at' ↔ _
    rw [← hme]
    constructor
    · intro hlt
      rcases Nat.lt_or_ge m k with e | e
      · rcases Nat.lt_or_ge m (k - 1) with e2 | e2
        · have := hup hml (show k - 1 < K.length by omega) e2; omega
        · have : m = k - 1 := by omega
          subst this; omega
      · exact e
    · intro hkm; exact hup _ hml (by omega)
theorem best_end {l : List PutOf} {K : List Int} (h : IsKeys l K) {k : Nat} (hk : k ≤ K.length) (hb : bestTo l (prevK K k) l.length = none) : k = K.length := by
  rcases Nat.lt_or_ge k K.length with e | e
  · exfalso
    obtain ⟨i, _, hi, _, hat⟩ := h.pick (List.getElem_mem e)
    refine bestTo_none hb i hi ((prevK_lt h hk hi).2 ⟨k, Nat.le_refl _, ?_⟩)
    rw [List.getD_eq_getElem?_getD, List.getElem?_eq_getElem hi, List.getElem?_eq_getElem e]
    exact congrArg some hat.symm
  · omega
theorem best_next {l : List PutOf} {K : List Int} (h : IsKeys l K) {k b : Nat} (hk : k ≤ K.length) (hb : bestTo l (prevK K k) l.length = some b) : ∃ e : k < K.length, l.getD b noPut = pickP l K[k] ∧ b < l.length := by
  obtain ⟨h1, h2, h3⟩ := bestTo_some hb
  obtain ⟨m, hkm, hm⟩ := (prevK_lt h hk h1).1 h2
  obtain ⟨hml, hme⟩ := List.getElem?_eq_some_iff.1 hm
  have e : k < K.length := by omega
  obtain ⟨i, hli, hi, hp, hat⟩ := h.pick (List.getElem_mem e)
  have hgi : l.getD i noPut = l[i] := by rw [List.getD_eq_getElem?_getD, List.getElem?_eq_getElem hi]; rfl
  have hlater : laterP l (prevK K k) i := (prevK_lt h hk hi).2 ⟨k, Nat.le_refl _, by rw [hgi, List.getElem?_eq_getElem e, hat]⟩
  have hle := h3 i hi hlater
  have hkm' : K[k] ≤ K[m] := by
    rcases Nat.lt_or_ge k m with q | q
    · exact Int.le_of_lt (List.pairwise_iff_getElem.1 h.up _ _ e hml q)
    · have : k = m := by omega
      subst this; exact Int.le_refl _
  have hbe : (l.getD b noPut).at' = K[k] := by rw [hgi, hat] at hle; rw [← hme] at hle; rw [← hme]; omega
  have hlast : lastTo l l.length K[k] = some b := lastTo_eq h1 hbe fun j hj hjl hje => by
    have hlj : laterP l (prevK K k) j := (prevK_lt h hk hjl).2 ⟨k, Nat.le_refl _, by rw [List.getElem?_eq_getElem e, hje]⟩
    have := (h3 j hjl hlj).2 (by rw [hje, hbe])
    omega
  refine ⟨e, ?_, h1⟩
  unfold pickP
  rw [hlast]; rfl
end Go.Proofs.YtdeojhcfbiekmaaDoor
