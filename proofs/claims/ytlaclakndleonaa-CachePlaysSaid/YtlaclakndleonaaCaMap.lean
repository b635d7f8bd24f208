/- Maps keyed by pairs of integers, made by a law: what they hold, as a function; look-up, store, 'm[k]++'. Conditions: none. -/
import Derived.Test.YtlaclakndleonaaCaOne
import Derived.WideKeyEntry
import Derived.WideKeyArr2
import Derived.Maps.OwnSet
import Derived.Maps.OwnOps
import Derived.Maps.Views
namespace Go.Proofs.Ytlaclakndleonaa
open Go.ChangeShapes Go.WideShapes Go.ChangeAt Go.RowKit
set_option linter.unusedVariables false
def pk (u c : Int) : Value := .agg #[.int .i64 u, .int .i64 c]
theorem pairKey : WideMaps.ArrKey Try.prog 55 3 2 := ⟨Try.underlying55, by kernel_rfl, by kernel_rfl, by kernel_rfl⟩
theorem pairTypes : ∃ m, Try.prog.types.size = m + 1 := ⟨Try.prog.types.size - 1, by have h : 0 < Try.prog.types.size := of_decide_eq_true (by kernel_rfl); omega⟩
theorem pairLaw : WideMaps.KeyLaw Try.prog 55 := pairKey.law
theorem pairKeyed : Maps.Keyed Try.prog 55 := Maps.Keyed.of_law pairLaw
theorem wfI {x : Int} (h : okI x) : (Lit.int .i64 x).wf = true := by
  unfold okI at h
  have e1 : IntKind.i64.min = -9223372036854775808 := by decide
  have e2 : IntKind.i64.max = 9223372036854775807 := by decide
  simp [Lit.wf, e1, e2]
  omega
theorem keyOf_some (u c : Int) (hu : okI u) (hc : okI c) : ∃ l, keyOf Try.prog 55 (pk u c) = some l := by
  obtain ⟨m, hm⟩ := pairTypes
  have h1 := pairKey.keyType ⟨m, hm⟩
  have h2 : (pk u c).formed Try.prog 55 = true := by simp [pk, Value.formed, pairKey.hu, pairKey.size]
  have w1 := wfI hu
  have w2 := wfI hc
  have e1 : Try.prog.underlying 3 = some (.int .i64) := Try.underlying3
  unfold keyOf
  simp only [pairKey.hu, h1, h2, Bool.and_self, if_true]
  rw [hm]
  have : ∃ ls, Try.prog.keyLits (m + 1 + 1) 55 (pk u c).cells.toList = some ls := by
    simp [Program.keyLits, pairKey.hu, pairKey.size, pairKey.one, e1, pk, Value.cells, List.range, List.range.loop, w1, w2]
  obtain ⟨ls, hls⟩ := this
  rw [hls]
  exact ⟨_, rfl⟩
noncomputable def kl (u c : Int) : Lit := (keyOf Try.prog 55 (pk u c)).getD (.bool false)
theorem keyOf_kl {u c : Int} (hu : okI u) (hc : okI c) : keyOf Try.prog 55 (pk u c) = some (kl u c) := by
  obtain ⟨l, hl⟩ := keyOf_some u c hu hc
  unfold kl
  rw [hl]; rfl
theorem kl_inj {u c u' c' : Int} (hu : okI u) (hc : okI c) (hu' : okI u') (hc' : okI c') (h : kl u c = kl u' c') : u = u' ∧ c = c' := by
  have := pairLaw.inj (keyOf_kl hu hc) (h ▸ keyOf_kl hu' hc')
  simpa [pk] using this
def RV (v : Value) : Option (DataW Value × List MemPlace) := some (.held v, [])
/-- Block b holds a map of at most n entries; under a key lies what f says, z where there is none. -/
def MapF (W : World) (b n : Nat) (z : Value) (f : Int → Int → Value) : Prop :=
  ∃ D : DataW Value, W.ownsMap Try.prog 55 RV b n D ∧ Maps.IsMap D ∧ ∀ u c, okI u → okI c → D.atKey (kl u c) (.held z) = .held (f u c)
def putF (f : Int → Int → Value) (u c : Int) (v : Value) : Int → Int → Value := fun u' c' => if u' = u ∧ c' = c then v else f u' c'
section
variable {W W' : World} {b n : Nat} {z : Value} {f : Int → Int → Value} {t e : TypeId}
theorem MapF.made (W : World) (z : Value) : MapF (W.alloc (.map #[] 0)) W.heap.size 0 z (fun _ _ => z) :=
  ⟨.map [], World.ownsMap_made W _ _ _, Maps.isMap_empty, fun u c _ _ => by simp [DataW.atKey]⟩
theorem MapF.mono {n' : Nat} (h : MapF W b n z f) (hn : n ≤ n') : MapF W b n' z f := by
  obtain ⟨D, h1, h2, h3⟩ := h
  exact ⟨D, h1.mono hn, h2, h3⟩
theorem MapF.keep (h : MapF W b n z f) (hb : W'.heap[b]? = W.heap[b]?) : MapF W' b n z f := by
  obtain ⟨D, ⟨es, clock, h0, h1⟩, h2, h3⟩ := h
  exact ⟨D, ⟨es, clock, by rw [hb]; exact h0, h1⟩, h2, h3⟩
theorem MapF.lt (h : MapF W b n z f) : b < W.heap.size := by
  obtain ⟨D, ⟨es, clock, h0, h1⟩, h2, h3⟩ := h
  exact (Array.getElem?_eq_some_iff.1 h0).1
theorem MapF.look (h : MapF W b n z f) (ht : Try.prog.underlying t = some (.map 55 e)) (hz : (zeroValue e).run Try.prog W = .ok z W) {u c : Int} (hu : okI u) (hc : okI c) :
    (Instr.lookup t (.map (some b)) (pk u c) false).run Try.prog W = .ok (f u c) W := by
  obtain ⟨D, h1, h2, h3⟩ := h
  obtain ⟨v, ps, hr, hv⟩ := h1.lookup pairKeyed ht hz (zd := .held z) (zp := []) rfl (keyOf_kl hu hc)
  rw [h3 u c hu hc] at hv
  unfold RV at hv
  simp at hv
  rw [hr, hv.1]
theorem turned_keeps (h : W.mapTurned W' b) : Keeps (fun k => k = b) W W' := (Keeps.refl _ _).grown h.grown (fun k e => by cases e; rfl)
theorem MapF.store (h : MapF W b n z f) (ht : Try.prog.underlying t = some (.map 55 e)) (hn : n < maxLen) {u c : Int} (hu : okI u) (hc : okI c) (v : Value) :
    ∃ W', (Instr.mapUpdate t (.map (some b)) (pk u c) v).run Try.prog W = .ok () W' ∧ MapF W' b (n + 1) z (putF f u c v) ∧ W.mapTurned W' b := by
  obtain ⟨D, h1, h2, h3⟩ := h
  obtain ⟨W', hr, k1, k2⟩ := h1.store pairKeyed ht hn (d := .held v) (ps := []) (keyOf_kl hu hc) rfl
  refine ⟨W', hr, ⟨_, k1, h2.put _ _, fun u' c' hu' hc' => ?_⟩, k2⟩
  unfold putF
  by_cases he : u' = u ∧ c' = c
  · obtain ⟨rfl, rfl⟩ := he
    rw [if_pos ⟨rfl, rfl⟩]
    exact Maps.atKey_put_same h2 (pairKeyed.key (keyOf_kl hu hc)) _ _
  · rw [if_neg he, Maps.atKey_put_other (fun e => he (kl_inj hu' hc' hu hc e))]
    exact h3 u' c' hu' hc'
theorem put_same (f : Int → Int → Value) (u c : Int) : putF f u c (f u c) = f := by
  funext u' c'
  unfold putF
  split
  · rename_i h; rw [h.1, h.2]
  · rfl
/-- 'm[k]++': the entry first, then the store into it. -/
theorem MapF.entry (h : MapF W b n z f) (ht : Try.prog.underlying t = some (.map 55 e)) (hz : ∀ u : World, (zeroValue e).run Try.prog u = .ok z u) (hn : n < maxLen) {u c : Int} (hu : okI u) (hc : okI c) :
    ∃ (v0 : Value) (st : Nat) (W1 : World), (Instr.mapEntry t (.map (some b)) (pk u c)).run Try.prog W = .ok (.tuple #[v0, goInt st]) W1 ∧ MapF W1 b (n + 1) z f ∧ Keeps (fun k => k = b) W W1 ∧
      ∀ v, ∃ W2, (Instr.entryStore t (.map (some b)) (goInt st) v).run Try.prog W1 = .ok () W2 ∧ MapF W2 b (n + 1) z (putF f u c v) ∧ Keeps (fun k => k = b) W1 W2 := by
  have h0 := h
  obtain ⟨D, ⟨es, clock, hb, F, hs, hD⟩, h2, h3⟩ := h
  obtain ⟨v0, st, es1, clock1, hr, hv0, hst⟩ := WideElems.entry_then_store pairLaw ht hz hb F (keyOf_kl hu hc)
  have hk1 : Keeps (fun k => k = b) W (ChangeMaps.setBlock W b (.map es1 clock1)) := turned_keeps ⟨es, clock, es1, clock1, hb, rfl⟩
  have hb1 : (ChangeMaps.setBlock W b (.map es1 clock1)).heap[b]? = some (.map es1 clock1) := ChangeMaps.heap_setBlock_same hb _
  have key : ∀ v, ∃ W2, (Instr.entryStore t (.map (some b)) (goInt st) v).run Try.prog (ChangeMaps.setBlock W b (.map es1 clock1)) = .ok () W2 ∧ MapF W2 b (n + 1) z (putF f u c v) ∧ Keeps (fun k => k = b) (ChangeMaps.setBlock W b (.map es1 clock1)) W2 := fun v => by
    obtain ⟨es', clock', k1, k2⟩ := hst _ v hb1
    obtain ⟨W2, hr2, hm2, -⟩ := h0.store ht hn hu hc v
    rw [k2] at hr2
    refine ⟨_, k1, ?_, turned_keeps ⟨es1, clock1, es', clock', hb1, rfl⟩⟩
    cases hr2
    exact hm2.keep ((ChangeMaps.heap_setBlock_same hb1 _).trans (ChangeMaps.heap_setBlock_same hb _).symm)
  refine ⟨v0, st, _, hr, ?_, hk1, key⟩
  have hrun := hr
  rcases pairLaw.find W (keyOf_kl hu hc) es.toList F.keys with ⟨f1, f2⟩ | ⟨j, e0, f1, f2, f3⟩
  · obtain ⟨W2, hr2, hm2, -⟩ := h0.store ht hn hu hc z
    have e1 : (Instr.mapUpdate t (.map (some b)) (pk u c) z).run Try.prog W = .ok () (ChangeMaps.setBlock W b (.map (es.push ⟨pk u c, z, clock⟩) (clock + 1))) := by
      simp [Instr.mapUpdate, run_underlying ht, MapKept.run_getObj_map hb, pairLaw.check W false (keyOf_kl hu hc), f1, MapKept.run_setObj_map _ hb, Result.andThen, ChangeMaps.setBlock]
    have e2 : (Instr.mapEntry t (.map (some b)) (pk u c)).run Try.prog W = .ok (.tuple #[z, goInt clock]) (ChangeMaps.setBlock W b (.map (es.push ⟨pk u c, z, clock⟩) (clock + 1))) := by
      simp [Instr.mapEntry, run_underlying ht, MapKept.run_getObj_map hb, pairLaw.check W false (keyOf_kl hu hc), f1, hz, MapKept.run_setObj_map _ hb, Result.andThen, ChangeMaps.setBlock]
    rw [e1] at hr2
    rw [e2] at hrun
    have hl := h0.look ht (hz W) hu hc
    have e3 : (Instr.lookup t (.map (some b)) (pk u c) false).run Try.prog W = .ok z W := by
      simp [Instr.lookup, run_underlying ht, MapKept.run_getObj_map hb, pairLaw.check W _ (keyOf_kl hu hc), f1, hz, Result.andThen]
    rw [hl] at e3
    have ez : f u c = z := by injection e3
    cases hr2
    rw [← ez, put_same, ez] at hm2
    injection hrun with h5 h6
    rw [← h6]
    exact hm2
  · have hj : es[j]? = some e0 := by simpa using f2
    have hsame : es.modify j (fun e => { e with key := pk u c }) = es := by
      apply Array.ext'
      rw [Array.toList_modify, ChangeMaps.modify_eq_set _ _ _ _ f2]
      have : ({ e0 with key := pk u c } : MapEntry) = e0 := by rw [← f3]
      rw [this]
      exact WideElems.set_self _ _ _ f2
    have e2 : (Instr.mapEntry t (.map (some b)) (pk u c)).run Try.prog W = .ok (.tuple #[e0.val, goInt e0.born]) (ChangeMaps.setBlock W b (.map es clock)) := by
      simp [Instr.mapEntry, run_underlying ht, MapKept.run_getObj_map hb, pairLaw.check W false (keyOf_kl hu hc), f1, hj, f3, pairLaw.stays W (keyOf_kl hu hc), hsame, MapKept.run_setObj_map _ hb, Result.andThen, ChangeMaps.setBlock]
    rw [e2] at hrun
    injection hrun with h5 h6
    rw [← h6]
    exact (h0.mono (Nat.le_succ n)).keep ((ChangeMaps.heap_setBlock_same hb _).trans hb.symm)
end
end Go.Proofs.Ytlaclakndleonaa
