/- The cache's map: what it holds under each place, as functions; look-ups, stores, deletions. Conditions: none. -/
import Derived.Test.YtlaclakndleonaaCmNum
import Derived.DeepKeys3
namespace Go.Proofs.Ytlaclakndleonaa
open Go.ChangeShapes Go.WideShapes Go.ChangeAt Go.RowKit
set_option linter.unusedVariables false
theorem placeUnder : Try.prog.underlying 66 = some (.struct (Try.prog.fieldsOf 66)) := by kernel_rfl
theorem placeLaw : WideMaps.KeyLaw Try.prog 66 := deep_law (m := 2) (by omega) (by kernel_rfl) (by kernel_rfl) (by kernel_rfl)
theorem placeKeyed : Maps.Keyed Try.prog 66 := Maps.Keyed.of_law placeLaw
theorem placeOf_some (u c : Int) (hu : okI u) (hc : okI c) : ∃ l, keyOf Try.prog 66 (pk u c) = some l := by
  obtain ⟨m, hm⟩ := pairTypes
  have h1 : Try.prog.keyType 66 = true := by kernel_rfl
  have h2 : (pk u c).formed Try.prog 66 = true := by kernel_rfl
  have h3 : Try.prog.cellsOf 66 = 2 := by kernel_rfl
  have h4 : Try.prog.cellsOf 3 = 1 := by kernel_rfl
  have w1 := wfI hu
  have w2 := wfI hc
  have e0 := Try.underlying66
  have e1 : Try.prog.underlying 3 = some (.int .i64) := Try.underlying3
  unfold keyOf
  simp only [e0, h1, h2, Bool.and_self, if_true]
  rw [hm]
  have : ∃ ls, Try.prog.keyLits (m + 1 + 1) 66 (pk u c).cells.toList = some ls := by
    simp [Program.keyLits, e0, h3, h4, e1, pk, Value.cells, w1, w2]
  obtain ⟨ls, hls⟩ := this
  rw [hls]
  exact ⟨_, rfl⟩
noncomputable def pl (u c : Int) : Lit := (keyOf Try.prog 66 (pk u c)).getD (.bool false)
theorem keyOf_pl {u c : Int} (hu : okI u) (hc : okI c) : keyOf Try.prog 66 (pk u c) = some (pl u c) := by
  obtain ⟨l, hl⟩ := placeOf_some u c hu hc
  unfold pl
  rw [hl]; rfl
theorem pl_inj {u c u' c' : Int} (hu : okI u) (hc : okI c) (hu' : okI u') (hc' : okI c') (h : pl u c = pl u' c') : u = u' ∧ c = c' := by
  have := placeLaw.inj (keyOf_pl hu hc) (h ▸ keyOf_pl hu' hc')
  simpa [pk] using this
theorem own_tight {H : Type} {P : Program} {k : TypeId} {R : Value → Option (DataW H × List MemPlace)} {w : World} {b n : Nat} {D : DataW H} (h : w.ownsMap P k R b n D) : w.ownsMap P k R b (Maps.size D) D := by
  obtain ⟨es, clock, hb, F, hs, rfl⟩ := h
  exact ⟨es, clock, hb, F, by simp [Maps.size, length_sorted], rfl⟩
/-- Block b holds a map of n entries; under a place lies f's line, if h says so. -/
def MapG (W : World) (b n : Nat) (f : Int → Int → LineOf) (h : Int → Int → Bool) : Prop :=
  ∃ D : DataW Value, W.ownsMap Try.prog 66 RV b n D ∧ Maps.size D = n ∧ ∀ u c, okI u → okI c → D.atKey (pl u c) (.held (lineV noLine)) = .held (lineV (f u c)) ∧ Maps.has D (pl u c) = h u c
abbrev mapT : TypeId := 61
theorem mapUnder : Try.prog.underlying mapT = some (.map 66 42) := Try.underlying61
section
variable {W W' : World} {b n : Nat} {f g : Int → Int → LineOf} {h k : Int → Int → Bool}
theorem MapG.made (W : World) : MapG (W.alloc (.map #[] 0)) W.heap.size 0 (fun _ _ => noLine) (fun _ _ => false) :=
  ⟨.map [], World.ownsMap_made W _ _ _, rfl, fun u c _ _ => ⟨by simp [DataW.atKey], rfl⟩⟩
theorem MapG.congr {n' : Nat} (m : MapG W b n f h) (hn : n = n') (hf : ∀ u c, f u c = g u c) (hh : ∀ u c, h u c = k u c) : MapG W b n' g k := by
  subst hn
  obtain ⟨D, h1, h2, h3⟩ := m
  exact ⟨D, h1, h2, fun u c hu hc => ⟨by rw [← hf]; exact (h3 u c hu hc).1, by rw [← hh]; exact (h3 u c hu hc).2⟩⟩
theorem MapG.keep (m : MapG W b n f h) (hb : W'.heap[b]? = W.heap[b]?) : MapG W' b n f h := by
  obtain ⟨D, ⟨es, clock, h0, h1⟩, h2, h3⟩ := m
  exact ⟨D, ⟨es, clock, by rw [hb]; exact h0, h1⟩, h2, h3⟩
theorem MapG.lt (m : MapG W b n f h) : b < W.heap.size := by
  obtain ⟨D, h1, _⟩ := m
  exact h1.lt
theorem MapG.look (m : MapG W b n f h) {u c : Int} (hu : okI u) (hc : okI c) : (Instr.lookup mapT (.map (some b)) (pk u c) false).run Try.prog W = .ok (lineV (f u c)) W := by
  obtain ⟨D, h1, h2, h3⟩ := m
  obtain ⟨v, ps, hr, hv⟩ := h1.lookup placeKeyed mapUnder (lineZero_run W) (zd := .held (lineV noLine)) (zp := []) rfl (keyOf_pl hu hc)
  rw [(h3 u c hu hc).1] at hv
  unfold RV at hv
  simp at hv
  rw [hr, hv.1]
theorem MapG.look_ok (m : MapG W b n f h) {u c : Int} (hu : okI u) (hc : okI c) : (Instr.lookup mapT (.map (some b)) (pk u c) true).run Try.prog W = .ok (.tuple #[lineV (f u c), .bool (h u c)]) W := by
  obtain ⟨D, h1, h2, h3⟩ := m
  obtain ⟨v, ps, hr, hv⟩ := h1.look_ok placeKeyed mapUnder (lineZero_run W) (zd := .held (lineV noLine)) (zp := []) rfl (keyOf_pl hu hc)
  rw [(h3 u c hu hc).1] at hv
  rw [(h3 u c hu hc).2] at hr
  unfold RV at hv
  simp at hv
  rw [hr, hv.1]
theorem MapG.len (m : MapG W b n f h) (ty : TypeId) : (Builtin.len_ #[mapT] ty #[.map (some b)]).run Try.prog W = .ok (.int .i64 n) W := by
  obtain ⟨D, h1, h2, h3⟩ := m
  rw [h1.len mapUnder ty, h2]
theorem MapG.store (m : MapG W b n f h) (hn : n ≤ 1000000) {u c : Int} (hu : okI u) (hc : okI c) (l : LineOf) :
    ∃ W', (Instr.mapUpdate mapT (.map (some b)) (pk u c) (lineV l)).run Try.prog W = .ok () W' ∧ MapG W' b (if h u c = true then n else n + 1) (fun u' c' => if u' = u ∧ c' = c then l else f u' c') (fun u' c' => if u' = u ∧ c' = c then true else h u' c') ∧ Keeps (fun k => k = b) W W' := by
  obtain ⟨D, h1, h2, h3⟩ := m
  obtain ⟨W', hr, k1, k2⟩ := h1.store placeKeyed mapUnder (by simp only [maxLen]; omega) (d := .held (lineV l)) (ps := []) (keyOf_pl hu hc) rfl
  have hT := h1.tidy placeKeyed
  have hK := placeKeyed.key (keyOf_pl hu hc)
  have es : Maps.size (D.put (pl u c) (.held (lineV l))) = if h u c = true then n else n + 1 := by
    rw [Maps.size_put hT, (h3 u c hu hc).2, h2]
  refine ⟨W', hr, ⟨_, by have := own_tight k1; rw [es] at this; exact this, es, fun u' c' hu' hc' => ?_⟩, turned_keeps k2⟩
  by_cases he : u' = u ∧ c' = c
  · obtain ⟨rfl, rfl⟩ := he
    simp only [and_self, if_true]
    exact ⟨Maps.atKey_put_same hT.isMap hK _ _, Maps.has_put_same hT.isMap hK _⟩
  · have hne : pl u' c' ≠ pl u c := fun e => he (pl_inj hu' hc' hu hc e)
    simp only [he, if_false]
    rw [Maps.atKey_put_other hne, Maps.has_put_other hne]
    exact h3 u' c' hu' hc'
theorem MapG.drop (m : MapG W b n f h) {u c : Int} (hu : okI u) (hc : okI c) (ty : TypeId) :
    ∃ W', (Builtin.delete_ #[mapT, 66] ty #[.map (some b), pk u c]).run Try.prog W = .ok (.tuple #[]) W' ∧ MapG W' b (if h u c = true then n - 1 else n) (fun u' c' => if u' = u ∧ c' = c then noLine else f u' c') (fun u' c' => if u' = u ∧ c' = c then false else h u' c') ∧ Keeps (fun k => k = b) W W' := by
  obtain ⟨D, h1, h2, h3⟩ := m
  obtain ⟨W', hr, k1, k2⟩ := h1.drop placeKeyed mapUnder (keyOf_pl hu hc) ty
  have hT := h1.tidy placeKeyed
  have es : Maps.size (D.del (pl u c)) = if h u c = true then n - 1 else n := by
    have := Maps.size_del (k := pl u c) hT
    rw [(h3 u c hu hc).2, h2] at this
    split at this <;> rename_i e
    · rw [if_pos e]; omega
    · rw [if_neg e]; omega
  refine ⟨W', hr, ⟨_, by have := own_tight k1; rw [es] at this; exact this, es, fun u' c' hu' hc' => ?_⟩, turned_keeps k2⟩
  by_cases he : u' = u ∧ c' = c
  · obtain ⟨rfl, rfl⟩ := he
    simp only [and_self, if_true]
    exact ⟨Maps.atKey_del_same _, Maps.has_del_same⟩
  · have hne : pl u' c' ≠ pl u c := fun e => he (pl_inj hu' hc' hu hc e)
    simp only [he, if_false]
    rw [Maps.atKey_del_other hne, Maps.has_del_other hne]
    exact h3 u' c' hu' hc'
end
/-- The map holds these lines. -/
def MapL (W : World) (b : Nat) (ls : List LineOf) : Prop := MapG W b ls.length (gotL ls) (fun u c => decide (findL ls u c < ls.length))
theorem MapL.made (W : World) : MapL (W.alloc (.map #[] 0)) W.heap.size [] := (MapG.made W).congr rfl (fun _ _ => rfl) (fun _ _ => rfl)
theorem MapL.keep {W W' : World} {b : Nat} {ls : List LineOf} (m : MapL W b ls) (hb : W'.heap[b]? = W.heap[b]?) : MapL W' b ls := MapG.keep m hb
theorem MapL.lt {W : World} {b : Nat} {ls : List LineOf} (m : MapL W b ls) : b < W.heap.size := MapG.lt m
theorem MapL.put {W : World} {b : Nat} {ls : List LineOf} (m : MapL W b ls) (ha : Apart ls) (hn : ls.length ≤ 1000) (l : LineOf) (hl : l.ok) (ls' : List LineOf) (e : ls' = if findL ls l.u l.b < ls.length then outL ls (findL ls l.u l.b) ++ [l] else ls ++ [l]) :
    ∃ W', (Instr.mapUpdate mapT (.map (some b)) (pk l.u l.b) (lineV l)).run Try.prog W = .ok () W' ∧ MapL W' b ls' ∧ Keeps (fun k => k = b) W W' := by
  obtain ⟨W', hr, k1, k2⟩ := MapG.store m (by omega) hl.2.1 hl.2.2 l
  refine ⟨W', hr, ?_, k2⟩
  by_cases hf : findL ls l.u l.b < ls.length
  · rw [if_pos hf] at e
    subst e
    refine k1.congr ?_ (fun u c => ((got_again ha hf u c).1).symm) (fun u c => ((got_again ha hf u c).2.1).symm)
    rw [(got_again ha hf 0 0).2.2.1, if_pos (decide_eq_true hf)]
  · rw [if_neg hf] at e
    subst e
    have hno := find_no hf
    refine k1.congr ?_ (fun u c => ((got_snoc ha hno u c).1).symm) (fun u c => ((got_snoc ha hno u c).2).symm)
    rw [if_neg (by simpa using hf), List.length_append]; rfl
theorem MapL.out {W : World} {b : Nat} {ls : List LineOf} (m : MapL W b ls) (ha : Apart ls) {u c : Int} (hu : okI u) (hc : okI c) (hf : findL ls u c < ls.length) (ty : TypeId) :
    ∃ W', (Builtin.delete_ #[mapT, 66] ty #[.map (some b), pk u c]).run Try.prog W = .ok (.tuple #[]) W' ∧ MapL W' b (outL ls (findL ls u c)) ∧ Keeps (fun k => k = b) W W' := by
  obtain ⟨W', hr, k1, k2⟩ := MapG.drop m hu hc ty
  refine ⟨W', hr, ?_, k2⟩
  refine k1.congr ?_ (fun u' c' => ((got_out ha hf u' c').1).symm) (fun u' c' => ((got_out ha hf u' c').2).symm)
  rw [if_pos (decide_eq_true hf), outL_len hf]
end Go.Proofs.Ytlaclakndleonaa
