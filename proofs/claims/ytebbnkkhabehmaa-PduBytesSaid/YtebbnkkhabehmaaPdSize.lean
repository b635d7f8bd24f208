/- A list of frames opened, with the form's own reach for each frame's Data. No condition. -/
import Derived.Test.YtebbnkkhabehmaaPdFrs
import Derived.SizedLaws
namespace Go.Proofs.Ytebbnkkhabehmaa
open Go.ChangeShapes Go.WideShapes Go.ChangeAt Go.RowKit
set_option linter.unusedVariables false
set_option linter.unusedSimpArgs false
theorem weights_mem_all {H : Type} {P : Program} {e : TypeId} : ∀ {l : List (DataW H)} {d : DataW H}, d ∈ l → ∀ {x : Nat}, x ∈ d.weights P e → x ∈ DataW.weightsAll P e l
  | a :: l, d, hd, x, hx => by
    simp only [DataW.weightsAll, List.mem_append]
    rcases List.mem_cons.1 hd with rfl | hd
    · exact .inl hx
    · exact .inr (weights_mem_all hd hx)
theorem weights_slice1 {H : Type} {enc : TypeId × Value → H} {P : Program} {W : World} {base fuel : Nat} {spare : Nat → Bool} {held : Bool} {t e : TypeId} {q : Option Addr} {n cap : Nat} {x : DataW H × List MemPlace} (ht : P.underlying t = some (.slice e)) (ck : P.cellsOf e = 1) (cb : P.bytesOf e = 1)
    (h : DataW.trod enc P W base spare held fuel t [.slice q n cap] = some x) (hw : ∀ y ∈ x.1.weights P t, y ≤ reachBytes) : n ≤ reachBytes := by
  rcases Deep.open_slice1 ht ck h with ⟨he, rfl⟩ | ⟨a, len, cap', m, k, V, D, Pl, he, hb, hl, hm, hmm, rfl, hx⟩
  · simp only [List.cons.injEq, Value.slice.injEq, and_true] at he
    omega
  · simp only [List.cons.injEq, and_true] at he
    cases he
    have := hw ((((List.range n).map D).length + ((List.range (m - n)).map fun j => D (n + j)).length) * P.bytesOf e) (by simp only [DataW.weights, ht]; exact List.mem_cons_self ..)
    rw [cb, Nat.mul_one, List.length_map, List.length_range] at this
    omega
theorem trod_last4w {H : Type} {enc : TypeId × Value → H} {P : Program} {w : World} {base : Nat} {spare : Nat → Bool} {held : Bool} {t : TypeId} {f0 f1 f2 f3 : Field} {fuel : Nat} {cs : List Value} {x : DataW H × List MemPlace} (ht : P.underlying t = some (.struct #[f0, f1, f2, f3])) (h : DataW.trod enc P w base spare held fuel t cs = some x) :
    ∃ y3 n, DataW.trod enc P w base spare held n f3.type ((cs.drop f3.offset).take (P.cellsOf f3.type)) = some y3 ∧ ∀ z ∈ y3.1.weights P f3.type, z ∈ x.1.weights P t := by
  obtain ⟨xs, n, _, rfl, hl, hlen, hf⟩ := DataW.trod_struct ht h
  match xs, hlen with
  | [y0, y1, y2, y3], _ => exact ⟨y3, n, by simpa using hf 3 f3 rfl, fun z hz => by
      simp only [DataW.weights, ht]
      exact DataW.weights_mem_each (j := 3) rfl rfl z hz⟩
set_option maxRecDepth 100000 in
theorem open_frame_sized {H : Type} {enc : TypeId × Value → H} {W : World} {base fuel : Nat} {spare : Nat → Bool} {held : Bool} {cs : List Value} {x : DataW H × List MemPlace} (hf : DataW.trod enc Try.prog W base spare held fuel 24 cs = some x) :
    ∃ f : Fr, cs = f.A.toList ∧ f.Ok W ∧ ((∀ y ∈ x.1.weights Try.prog 24, y ≤ reachBytes) → f.d ≤ reachBytes) := by
  obtain ⟨f, hc, ok⟩ := open_frame_cells hf
  refine ⟨f, hc, ok, fun hw => ?_⟩
  obtain ⟨y3, n, t3, hb⟩ := trod_last4w Try.underlying24 hf
  have k0 : Try.prog.cellsOf 22 = 1 := by kernel_rfl
  simp only [k0] at t3
  rw [hc] at t3
  exact weights_slice1 (q := f.p) (n := f.d) (cap := f.cd) Try.underlying22 (by kernel_rfl) (by kernel_rfl) (show DataW.trod enc Try.prog W base spare held n 22 [.slice f.p f.d f.cd] = some y3 by simpa [Fr.A, frA] using t3) (fun y hy => hw y (hb y hy))
set_option maxRecDepth 100000 in
theorem open_frames_sized {H : Type} {enc : TypeId × Value → H} {W : World} {r : Reach} {b0 base : Nat} {spare : Nat → Bool} {held : Bool} {v : Value} {d : DataW H} {p : List MemPlace} (hv : Value.okWide Try.prog W r b0 50 v) (h : DataW.Trod enc Try.prog W base spare held 50 v d p) :
    ∃ (q : Option Addr) (cap : Nat) (L : List Fr), v = .slice q L.length cap ∧ FrsAt W q L ∧ (∀ f ∈ L, f.Ok W) ∧ L.length ≤ cap ∧ cap ≤ maxLen ∧ ((∀ x ∈ DataW.weights Try.prog 50 d, x ≤ reachBytes) → ∀ f ∈ L, f.d ≤ reachBytes) := by
  obtain ⟨q, n, cap, rfl⟩ := okWide_slice frs_under hv
  obtain ⟨fuel, hf⟩ := h
  have ck : Try.prog.cellsOf 24 = 4 := by kernel_rfl
  have hd : (Value.cells (.slice q n cap)).toList = [.slice q n cap] := rfl
  rw [hd] at hf
  rcases Deep.open_slice frs_under hf with ⟨e, _⟩ | ⟨a, len, cap', m, k, D, Pl, e, hb, hl, hm, hmm, hdx, hx⟩
  · simp only [List.cons.injEq, and_true] at e
    cases e
    exact ⟨none, 0, [], rfl, .inl rfl, fun f h => by simp at h, Nat.le_refl _, Nat.zero_le _, fun _ f h => by simp at h⟩
  · simp only [List.cons.injEq, and_true] at e
    cases e
    by_cases h0 : n = 0
    · subst h0
      exact ⟨some a, cap, [], rfl, .inl rfl, fun f h => by simp at h, hl, hm, fun _ f h => by simp at h⟩
    · have hnm : n ≤ m := by rw [hmm]; split <;> omega
      obtain ⟨B, o, spot⟩ := a
      have hspot : spot = none := by
        obtain ⟨cs, h1, h2⟩ := hx 0 (by omega)
        obtain ⟨f, rfl, hT, hB⟩ := open_frame_sized h2
        rw [ck] at h1
        have h3 := (World.cells?_some h1).2.2 0 (by omega)
        have h4 : W.cell? (((⟨B, o, spot⟩ : Addr).add (0 * 4)).add 0) = some (.int .i64 f.k) := by simpa [Fr.A, frA] using h3
        have := World.cell?_spot h4
        cases spot with
        | none => rfl
        | some s => simp [Addr.add] at this
      subst hspot
      have each : ∀ i, i < n → ∃ f : Fr, (∀ j, j < 4 → W.cell? ⟨B, o + (i * 4 + j), none⟩ = f.A[j]?) ∧ f.Ok W ∧ ((∀ x ∈ DataW.weights Try.prog 24 (D i), x ≤ reachBytes) → f.d ≤ reachBytes) := fun i hi => by
        obtain ⟨cs, h1, h2⟩ := hx i (by omega)
        obtain ⟨f, rfl, hT, hB⟩ := open_frame_sized h2
        rw [ck] at h1
        refine ⟨f, fun j hj => ?_, hT, hB⟩
        have h3 := (World.cells?_some h1).2.2 j hj
        rw [add_plain, add_plain, Nat.add_assoc] at h3
        rw [h3]; simp
      obtain ⟨f0, hx0, _⟩ := each 0 (by omega)
      have hx00 : W.cell? ⟨B, o + (0 * 4 + 0), none⟩ = some (.int .i64 f0.k) := hx0 0 (by omega)
      have ch : ∀ i, ∃ f : Fr, i < n → (∀ j, j < 4 → W.cell? ⟨B, o + (i * 4 + j), none⟩ = f.A[j]?) ∧ f.Ok W ∧ ((∀ x ∈ DataW.weights Try.prog 24 (D i), x ≤ reachBytes) → f.d ≤ reachBytes) := fun i => by
        by_cases hi : i < n
        · obtain ⟨f, hf⟩ := each i hi; exact ⟨f, fun _ => hf⟩
        · exact ⟨frZ, fun h => absurd h hi⟩
      have hlen : ((List.range n).map fun i => Classical.choose (ch i)).length = n := by simp
      refine ⟨some ⟨B, o, none⟩, cap, (List.range n).map fun i => Classical.choose (ch i), by rw [hlen], .inr ⟨B, o, rfl, block_lt_of_cell hx00, fun i f hf j hj => ?_⟩, fun f hf => ?_, by rw [hlen]; exact hl, hm, fun hw f hf => ?_⟩
      · have hi : i < n := by
          rcases Nat.lt_or_ge i n with h | h
          · exact h
          · rw [List.getElem?_eq_none (by rw [hlen]; exact h)] at hf; cases hf
        have he : Classical.choose (ch i) = f := by simpa [hi] using hf
        rw [← he, Nat.mul_comm 4 i, Nat.add_assoc]
        exact (Classical.choose_spec (ch i) hi).1 j hj
      · obtain ⟨i, hi, rfl⟩ := List.mem_map.1 hf
        exact (Classical.choose_spec (ch i) (List.mem_range.1 hi)).2.1
      · obtain ⟨i, hi, rfl⟩ := List.mem_map.1 hf
        have hi := List.mem_range.1 hi
        refine (Classical.choose_spec (ch i) hi).2.2 (fun x hx => hw x ?_)
        have e1 : d = .slice ((List.range n).map D) ((List.range (m - n)).map fun j => D (n + j)) := by injection hdx
        rw [e1]
        simp only [DataW.weights, frs_under, List.mem_cons, List.mem_append]
        exact .inr (.inl (weights_mem_all (List.mem_map.2 ⟨i, List.mem_range.2 hi, rfl⟩) hx))
end Go.Proofs.Ytebbnkkhabehmaa
