/- What the statement RedoDecodes walks by: sectors cut out of texts, decodings in one road, the boxes of what is said and counted. Conditions: as each says. -/
import Derived.Test.YtdeojhcfbiekmaaDoorRdCells
import Derived.Test.YtdeojhcfbiekmaaDoorRdPutsF
import Derived.OneCell
namespace Go.Proofs.YtdeojhcfbiekmaaDoor
open Go.ChangeShapes Go.WideShapes Go.ChangeAt Go.RowKit
set_option linter.unusedVariables false
/-- The sectors of the first texts. -/
def secsT (T : Nat → TextOf) (k : Nat) : List (List Int) := (List.range k).map fun i => cutS (T i)
theorem secsT_zero (T : Nat → TextOf) : secsT T 0 = [] := rfl
theorem secsT_next (T : Nat → TextOf) (k : Nat) : secsT T (k + 1) = secsT T k ++ [cutS (T k)] := by unfold secsT; rw [List.range_succ, List.map_append]; rfl
theorem secsT_len (T : Nat → TextOf) (k : Nat) : (secsT T k).length = k := by unfold secsT; simp
theorem secsT_ok {T : Nat → TextOf} {N : Nat} (h : ∀ i, i < N → ∀ j, j < (T i).n → (T i).g j < 256) : ∀ x ∈ secsT T N, IsSec x := fun x hx => by
  unfold secsT at hx
  obtain ⟨i, hi, rfl⟩ := List.mem_map.1 hx
  exact cutS_sec (h i (List.mem_range.1 hi))
theorem secsT_all {W : World} {q : Option Addr} {N : Nat} {T : Nat → TextOf} (h : ListsAt W q N T) : ∀ x ∈ secsT T N, IsSec x := secsT_ok fun i hi => by
  rcases h with h0 | ⟨B, o, _, _, hc⟩
  · omega
  · exact (hc i hi).2.2
theorem cutS_val (T : TextOf) : Value.agg (cellsOf .u8 (mk 128 (extF T.n T.g))) = secVal (cutS T) := by
  rw [sec_val]
  unfold cutS
  rw [mk_ext (f := natF (mk 128 (extF T.n T.g))) (g := extF T.n T.g) fun j hj => natF_mk hj]
/-- A list of integers and a box in which no integer lies. -/
theorem ints_ne {W : World} {X B o : Nat} {L : List Int} {q : Option Addr} {n c : Nat} {t : TypeId} (h : RowsAt 1 intC W (some ⟨B, o, none⟩) L) (hne : L ≠ []) (hX : W.heap[X]? = some (.cells #[.slice q n c] t (0, 0))) : B ≠ X := fun e => by
  subst e
  obtain ⟨B3, o3, e3, _, h5⟩ := int_cell h (List.length_pos_iff.2 hne)
  cases e3
  rw [cell_of_row W _ _ _ _ _ hX] at h5
  rcases o with _ | o
  · simp at h5
  · simp at h5
theorem ints_setRow {W : World} {X : Nat} {L : List Int} {p q : Option Addr} {n c : Nat} {t : TypeId} (h : RowsAt 1 intC W p L) (hX : W.heap[X]? = some (.cells #[.slice q n c] t (0, 0))) (vs : Array Value) : RowsAt 1 intC (W.setRow X vs) p L := by
  by_cases hL : L = []
  · exact .inl hL
  rcases h with h0 | ⟨B, o, rfl, h2, h3⟩
  · exact .inl h0
  · have hne := ints_ne (.inr ⟨B, o, rfl, h2, h3⟩) hL hX
    exact .inr ⟨B, o, rfl, by simpa using h2, fun i x hc j v hv => (World.cell?_of_block (w := W) (a := ⟨B, o + 1 * i + j, none⟩) (setRow_other W X B vs hne)).trans (h3 i x hc j v hv)⟩
theorem secs_setRow {W : World} {X : Nat} {l : List (List Int)} {p q : Option Addr} {n c : Nat} {t : TypeId} (h : RowsAt 128 secC W p l) (hX : W.heap[X]? = some (.cells #[.slice q n c] t (0, 0))) (vs : Array Value) : RowsAt 128 secC (W.setRow X vs) p l := by
  by_cases hL : l = []
  · exact .inl hL
  have h' := h
  rcases h with h0 | ⟨B, o, rfl, h2, h3⟩
  · exact .inl h0
  · have hne : B ≠ X := fun e => by
      subst e
      obtain ⟨B', o', e', _, hr⟩ := secsAt_get h' (List.length_pos_iff.2 hL)
      cases e'
      have e1 := hr 1 ((secC (l.getD 0 []))[1]'(by rw [secC_len]; omega)) (List.getElem?_eq_getElem _)
      rw [cell_of_row W _ _ _ _ _ hX, Array.getElem?_eq_none (by simp)] at e1
      cases e1
    exact .inr ⟨B, o, rfl, by simpa using h2, fun i x hc j v hv => (World.cell?_of_block (w := W) (a := ⟨B, o + 128 * i + j, none⟩) (setRow_other W X B vs hne)).trans (h3 i x hc j v hv)⟩
theorem ints_none (W : World) (p : Option Addr) : RowsAt 1 intC W p ([] : List Int) := .inl rfl
theorem ints_lt {W : World} {p : Option Addr} {L : List Int} (h : RowsAt 1 intC W p L) : ∀ B o, p = some ⟨B, o, none⟩ → L ≠ [] → B < W.heap.size := fun B o e hne => by
  rcases h with h0 | ⟨B', o', e', h2, _⟩
  · exact absurd h0 hne
  · rw [e] at e'; cases e'; exact h2
theorem rows_head {W : World} {B o : Nat} {cs : List (List Int)} (h : RowsAt 128 secC W (some ⟨B, o, none⟩) cs) (hn : 0 < cs.length) : W.rangeAt B o (secC (cs.getD 0 [])) := by
  obtain ⟨B', o', e, _, hr⟩ := secsAt_get h hn
  cases e
  exact hr
theorem box_laid (w : World) (u v : Value) (t : TypeId) : Below w.heap.size w ((w.alloc (.cells #[u] t)).setRow w.heap.size #[v]) ∧ ((w.alloc (.cells #[u] t)).setRow w.heap.size #[v]).heap[w.heap.size]? = some (.cells #[v] t (0, 0)) ∧ ((w.alloc (.cells #[u] t)).setRow w.heap.size #[v]).heap.size = w.heap.size + 1 :=
  ⟨below_setRow ((Below.refl _ w).alloc (Nat.le_refl _) _) (Nat.le_refl _) _, setRow_heap _ _ _ _ _ (0, 0) (heap_alloc_new _ _), by simp⟩
/-- What stands while the law goes its way: the arguments, the table, the result's box. -/
structure St (w0 : World) (kp : Option Addr) (n kc : Nat) (g : Nat → Nat) (q : Option Addr) (N : Nat) (T : Nat → TextOf) (W : World) : Prop where
  k : KeyOk W kp n kc g
  t : TabAt W
  l : ListsAt W q N T
  r : W.heap[w0.heap.size]? = some (.cells #[.bool false] 4 (0, 0))
  lt : w0.heap.size < W.heap.size
  b : Below w0.heap.size w0 W
theorem St.below {w0 W W' : World} {kp q : Option Addr} {n kc N : Nat} {g : Nat → Nat} {T : Nat → TextOf} (h : St w0 kp n kc g q N T W) (hb : Below W.heap.size W W') : St w0 kp n kc g q N T W' :=
  ⟨h.k.below hb, h.t.on hb, h.l.below hb, (hb.block _ h.lt).trans h.r, Nat.lt_of_lt_of_le h.lt hb.size, h.b.trans (hb.mono h.b.size)⟩
/-- Behind the decodings: the result's box and what is older. -/
structure St2 (w0 W : World) : Prop where
  r : W.heap[w0.heap.size]? = some (.cells #[.bool false] 4 (0, 0))
  lt : w0.heap.size < W.heap.size
  b : Below w0.heap.size w0 W
theorem St.two {w0 W : World} {kp q : Option Addr} {n kc N : Nat} {g : Nat → Nat} {T : Nat → TextOf} (h : St w0 kp n kc g q N T W) : St2 w0 W := ⟨h.r, h.lt, h.b⟩
theorem St2.below {w0 W W' : World} (h : St2 w0 W) (hb : Below W.heap.size W W') : St2 w0 W' := ⟨(hb.block _ h.lt).trans h.r, Nat.lt_of_lt_of_le h.lt hb.size, h.b.trans (hb.mono h.b.size)⟩
theorem St2.setRow {w0 W : World} (h : St2 w0 W) {X : Nat} (hX : w0.heap.size < X) (vs : Array Value) : St2 w0 (W.setRow X vs) := ⟨(setRow_other W X _ vs (by omega)).trans h.r, by simpa using h.lt, below_setRow h.b (by omega) _⟩
def decC (o : Option (Int × List PutOf)) : Int := (o.map (·.1)).getD 0
def decP (o : Option (Int × List PutOf)) : List PutOf := (o.map (·.2)).getD []
theorem good_len {c : Int} {l : List PutOf} (h : goodE c l) : l.length ≤ 56 := h.2.1
theorem says_form {o : Option (Int × List PutOf)} {w' : World} {e : Ending} (h : DecSays o w' e) : ∃ p cap, e = .returned (.tuple #[.int .i64 (decC o), .slice p (decP o).length cap, .bool o.isSome]) ∧ RowsAt 129 putC w' p (decP o) := by
  cases o with
  | none => exact ⟨none, 0, h, .inl rfl⟩
  | some cl => obtain ⟨c, l⟩ := cl; exact h
section
attribute [local irreducible] putC natF putsL encL goodE tauK secC decE extF saysL secVal intC
theorem dec_pok {τ : List Int → List Int} {cs : List (List Int)} (hcs : ∀ s ∈ cs, IsSec s) : ∀ p ∈ decP (decE τ cs), p.ok := by
  cases h : decE τ cs with
  | none => intro p hp; cases hp
  | some cl => obtain ⟨c, l⟩ := cl; exact dec_ok hcs h
theorem dec_plen {τ : List Int → List Int} {cs : List (List Int)} : (decP (decE τ cs)).length ≤ 56 := by
  cases h : decE τ cs with
  | none => exact Nat.zero_le _
  | some cl => obtain ⟨c, l⟩ := cl; exact good_len (dec_some h).1
/-- Both decodings give the same, whatever it is. -/
theorem decs_at (cs : List (List Int)) (hcs : ∀ s ∈ cs, IsSec s) {N : Nat} (hN : cs.length = N) (kp : Option Addr) (n kc : Nat) (g : Nat → Nat) (hn : n ≤ 80000) (hm : N ≤ 1000) (q : Option Addr) (cap : Nat) :
    ∃ (c : Int) (pl : List PutOf) (b : Bool), pl.length ≤ 56 ∧ (∀ p ∈ pl, p.ok) ∧
      (∀ W, TabAt W → KeyOk W kp n kc g → RowsAt 128 secC W q cs → Calls Tryd.prog 17 #[.slice kp n kc, .slice q N cap] W fun e w' => (∃ p c', e = .returned (.tuple #[.int .i64 c, .slice p pl.length c', .bool b]) ∧ RowsAt 129 putC w' p pl) ∧ Below W.heap.size W w') ∧
      (∀ W, KeyOk W kp n kc g → RowsAt 128 secC W q cs → Calls Tryd.prog 18 #[.slice kp n kc, .slice q N cap] W fun e w' => (∃ p c', e = .returned (.tuple #[.int .i64 c, .slice p pl.length c', .bool b]) ∧ RowsAt 129 putC w' p pl) ∧ Below W.heap.size W w') := by
  subst hN
  refine ⟨decC (decE (tauK n g) cs), decP (decE (tauK n g) cs), (decE (tauK n g) cs).isSome, dec_plen, dec_pok hcs, fun W ht hk hp => ?_, fun W hk hp => ?_⟩
  · exact (Decode_any kp n kc g (by omega) hk.cap hk.lt q cap cs hcs hm W ht hk.at' hp).mono fun e w' h => ⟨says_form h.1, h.2⟩
  · exact (refDecode_any kp n kc g hn hk.lt q cap cs hcs hm W hk.at' hp).mono fun e w' h => ⟨says_form h.1, h.2⟩
theorem puts_at (cs : List (List Int)) (hcs : ∀ s ∈ cs, IsSec s) {N : Nat} (hN : cs.length = N) (q : Option Addr) (cap : Nat) (W : World) (hp : RowsAt 128 secC W q cs) :
    Calls Tryd.prog 20 #[.slice q N cap] W fun e w' => ∃ C nq nc, e = .returned (.func (.func 51) #[] #[.pointer (some ⟨C, 0, none⟩)]) ∧ BoxL w' C nq nc (saysC cs) ∧ W.heap.size ≤ C ∧ Below W.heap.size W w' ∧ (∀ B f, nq = some ⟨B, f, none⟩ → W.heap.size ≤ B) := by
  subst hN
  exact Puts_fresh q cap cs hcs W hp
theorem says_at (cs : List (List Int)) (hcs : ∀ s ∈ cs, IsSec s) (h0 : 0 < cs.length) (W : World) :
    Calls Tryd.prog 19 #[secVal (cs.getD 0 [])] W fun e w' => ∃ p c, e = .returned (.slice p (saysC cs).length c) ∧ RowsAt 1 intC w' p (saysC cs) ∧ Below W.heap.size W w' := by
  have hs0 : IsSec (cs.getD 0 []) := by rw [List.getD_eq_getElem?_getD, List.getElem?_eq_getElem h0]; exact hcs _ (List.getElem_mem h0)
  have hsc : saysC cs = saysL (cs.getD 0 []) := if_neg (List.length_pos_iff.1 h0)
  rw [hsc, sec_val]
  exact refSays_any _ hs0 W
theorem says_none (cs : List (List Int)) (h : cs = []) : saysC cs = [] := by subst h; rfl
end
/-! ### The loop over what is said -/
structure DeG (w : World) (X K C D : Nat) (p nq : Option Addr) (L : List Int) : Prop where
  w0 : w.heap.size < X
  x : X < K
  k : K < D
  c : C < D
  ck : K < C
  p : ∀ B o, p = some ⟨B, o, none⟩ → L ≠ [] → B < K
  n : ∀ B o, nq = some ⟨B, o, none⟩ → L ≠ [] → K < B ∧ B < D
structure DeS (w : World) (X K C D : Nat) (p : Option Addr) (c : Nat) (nq : Option Addr) (nc : Nat) (L : List Int) (i : Nat) (V : World) : Prop where
  s : V.heap[X]? = some (.cells #[.slice p L.length c] 46 (0, 0))
  k : V.heap[K]? = some (.cells #[.int .i64 i] 3 (0, 0))
  r : V.heap[w.heap.size]? = some (.cells #[.bool false] 4 (0, 0))
  p : RowsAt 1 intC V p L
  box : BoxL V C nq nc L
  low : Below w.heap.size w V
  big : D ≤ V.heap.size
theorem rows_keep {V V' : World} {q : Option Addr} {L : List Int} (h : RowsAt 1 intC V q L) (hs : V.heap.size ≤ V'.heap.size) (bl : ∀ B o, q = some ⟨B, o, none⟩ → L ≠ [] → V'.heap[B]? = V.heap[B]?) : RowsAt 1 intC V' q L := by
  rcases h with h0 | ⟨B, o, h1, h2, h3⟩
  · exact .inl h0
  · by_cases hl : L = []
    · exact .inl hl
    · exact .inr ⟨B, o, h1, by omega, fun i c hc j v hv => (World.cell?_of_block (w := V) (a := ⟨B, o + 1 * i + j, none⟩) (bl B o h1 hl)).trans (h3 i c hc j v hv)⟩
theorem DeS.start {w w16 w17 : World} {X K C c nc : Nat} {p nq : Option Addr} {L : List Int} (hs : St2 w w16) (hi : RowsAt 1 intC w16 p L) (hX : w16.heap[X]? = some (.cells #[.slice p L.length c] 46 (0, 0))) (hK : w16.heap[K]? = some (.cells #[.int .i64 0] 3 (0, 0)))
    (hz : w16.heap.size = K + 1) (hg : w.heap.size < X ∧ X < K) (hf : ∀ B o, p = some ⟨B, o, none⟩ → L ≠ [] → B < K) (hbx : BoxL w17 C nq nc L) (hC : w16.heap.size ≤ C) (hb : Below w16.heap.size w16 w17) (hn : ∀ B f, nq = some ⟨B, f, none⟩ → w16.heap.size ≤ B) :
    DeG w X K C w17.heap.size p nq L ∧ DeS w X K C w17.heap.size p c nq nc L 0 w17 := by
  have hsz := hb.size
  refine ⟨⟨hg.1, hg.2, by omega, hbx.2.2, by omega, hf, fun B o e hne => ⟨by have := hn B o e; omega, ints_lt hbx.2.1 B o e hne⟩⟩, ⟨(hb.block _ (by omega)).trans hX, (hb.block _ (by omega)).trans hK, (hb.block _ hs.lt).trans hs.r, hi.below hb, hbx, hs.b.trans (hb.mono hs.b.size), Nat.le_refl _⟩⟩
theorem DeS.save {w : World} {X K C D c nc i : Nat} {p nq : Option Addr} {L : List Int} {V V' : World} (h : DeS w X K C D p c nq nc L i V) (hs : Save D V V') (g : DeG w X K C D p nq L) : DeS w X K C D p c nq nc L i V' := by
  have hb := h.big
  have g0 := g.w0; have g1 := g.x; have g2 := g.k; have g3 := g.c
  have bl : ∀ k, k < D → V'.heap[k]? = V.heap[k]? := fun k hk => hs.same k (by omega) (by omega) (by omega)
  have hl := h.low
  refine ⟨(bl X (by omega)).trans h.s, (bl K (by omega)).trans h.k, (bl _ (by omega)).trans h.r, rows_keep h.p hs.size fun B o e hne => bl B (by have := g.p B o e hne; omega), ⟨(World.cell?_of_block (w := V) (a := ⟨C, 0, none⟩) (bl C g3)).trans h.box.1, rows_keep h.box.2.1 hs.size fun B o e hne => bl B (g.n B o e hne).2, Nat.lt_of_lt_of_le h.box.2.2 hs.size⟩, ⟨hs.os.trans hl.os, hs.tape.trans hl.tape, hs.output.trans hl.output, Nat.le_trans hl.size hs.size, fun k hk => (bl k (by omega)).trans (hl.block k hk)⟩, Nat.le_trans hb hs.size⟩
theorem DeS.step {w : World} {X K C D c nc i : Nat} {p nq : Option Addr} {L : List Int} {V : World} (h : DeS w X K C D p c nq nc L i V) (g : DeG w X K C D p nq L) (hD : D + 2 ≤ V.heap.size) : Rec D V (V.setCell ⟨K, 0, none⟩ (.int .i64 ((i + 1 : Nat) : Int))) ∧ DeS w X K C D p c nq nc L (i + 1) (V.setCell ⟨K, 0, none⟩ (.int .i64 ((i + 1 : Nat) : Int))) := by
  rw [setCell_one h.k]
  have g0 := g.w0; have g1 := g.x; have g2 := g.k; have g3 := g.c; have g4 := g.ck
  have hb := h.big
  generalize hVV : V.putObj K (.cells #[.int .i64 ((i + 1 : Nat) : Int)] 3 (0, 0)) = V'
  have bl : ∀ k, k ≠ K → V'.heap[k]? = V.heap[k]? := fun k hk => by rw [← hVV]; exact World.putObj_heap_other hk
  have hz : V'.heap.size = V.heap.size := by rw [← hVV]; simp
  have hk : V'.heap[K]? = some (.cells #[.int .i64 ((i + 1 : Nat) : Int)] 3 (0, 0)) := by rw [← hVV]; exact World.putObj_heap_same (by omega)
  have hl : Below w.heap.size w V' := by rw [← hVV]; exact below_turn _ h.low (by omega)
  refine ⟨⟨by omega, bl D (by omega), bl (D + 1) (by omega)⟩, ⟨(bl X (by omega)).trans h.s, hk, (bl _ (by omega)).trans h.r, rows_keep h.p (by omega) fun B o e hne => bl B (by have := g.p B o e hne; omega), ⟨(World.cell?_of_block (w := V) (a := ⟨C, 0, none⟩) (bl C (by omega))).trans h.box.1, rows_keep h.box.2.1 (by omega) fun B o e hne => bl B (by have := (g.n B o e hne).1; omega), by have := h.box.2.2; omega⟩, hl, by omega⟩⟩
/-- The end: the result is laid into its box, and the loop's record turned. -/
theorem DeS.done {w : World} {X K C D D' c nc i : Nat} {p nq : Option Addr} {L : List Int} {V : World} {b : Bool} (h : DeS w X K C D p c nq nc L i V) (g : DeG w X K C D p nq L) (hD : D ≤ D') (hd : V.heap[D']? = some (.deferred (some []))) :
    (V.setCell ⟨w.heap.size, 0, none⟩ (.bool b)).heap[D']? = some (.deferred (some [])) ∧ ∀ o', ((V.setCell ⟨w.heap.size, 0, none⟩ (.bool b)).putObj D' o').cell? ⟨w.heap.size, 0, none⟩ = some (.bool b) ∧ Below w.heap.size w ((V.setCell ⟨w.heap.size, 0, none⟩ (.bool b)).putObj D' o') := by
  rw [setCell_one h.r]
  have g0 := g.w0; have g1 := g.x; have g2 := g.k
  have hb := h.big
  have hne : D' ≠ w.heap.size := by omega
  refine ⟨(World.putObj_heap_other hne).trans hd, fun o' => ⟨?_, below_turn _ (below_turn _ h.low (by omega)) (by omega)⟩⟩
  refine cell_of_one (t := 4) ((World.putObj_heap_other (by omega)).trans (World.putObj_heap_same (by omega)))
end Go.Proofs.YtdeojhcfbiekmaaDoor
