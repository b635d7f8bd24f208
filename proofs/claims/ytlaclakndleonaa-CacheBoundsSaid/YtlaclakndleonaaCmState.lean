/- The program's cache in memory: the struct, its map, its order; what a call leaves of it. Conditions: none. -/
import Derived.Test.YtlaclakndleonaaCmDelF
namespace Go.Proofs.Ytlaclakndleonaa
open Go.ChangeShapes Go.WideShapes Go.ChangeAt Go.RowKit
set_option linter.unusedVariables false
/-- The struct in B, the map in M, the order's slice v: the map holds the lines ls, the order is ks. -/
structure CS (w : World) (B M : Nat) (q : Int) (v : Value) (ls : List LineOf) (ks : List (Int × Int)) : Prop where
  box : w.heap[B]? = some (.cells #[.int .i64 q, .map (some M), v] 64 (0, 0))
  map : MapL w M ls
  own : OwnL plT 2 placeC w 0 w.heap.size v ks
  neB : v.ownBlock ≠ some B
  neM : v.ownBlock ≠ some M
  bm : B ≠ M
  few : ks.length ≤ 100
def csS (B M : Nat) (v : Value) (k : Nat) : Prop := k = B ∨ k = M ∨ v.ownBlock = some k
/-- What a call leaves: all blocks but the cache's own stand, and what it owns is its own or new. -/
def CT (w w' : World) (B M : Nat) (q : Int) (v : Value) (ls : List LineOf) (ks : List (Int × Int)) : Prop :=
  ∃ v', CS w' B M q v' ls ks ∧ Keeps (csS B M v) w w' ∧ ∀ k, csS B M v' k → csS B M v k ∨ w.heap.size ≤ k
section
variable {w w' w2 : World} {B M : Nat} {q : Int} {v v' : Value} {ls ls' : List LineOf} {ks ks' : List (Int × Int)}
theorem CS.lt (h : CS w B M q v ls ks) : B < w.heap.size := (Array.getElem?_eq_some_iff.1 h.box).1
theorem CS.own_lt (h : CS w B M q v ls ks) {k : Nat} (hk : csS B M v k) : k < w.heap.size := by
  rcases hk with rfl | rfl | hk
  · exact h.lt
  · exact h.map.lt
  · exact h.own.blockTop k hk
theorem CS.keep (h : CS w B M q v ls ks) (hs : w.heap.size ≤ w'.heap.size) (hb : ∀ k, csS B M v k → w'.heap[k]? = w.heap[k]?) : CS w' B M q v ls ks := by
  refine ⟨(hb _ (.inl rfl)).trans h.box, h.map.keep (hb _ (.inr (.inl rfl))), ?_, h.neB, h.neM, h.bm, h.few⟩
  rcases h.own with h1 | ⟨L, c, cur, h1, h2, h3, h4, h5⟩
  · exact .inl h1
  · exact .inr ⟨L, c, cur, h1, h2, by omega, (hb L (.inr (.inr (by rw [h1]; rfl)))).trans h4, h5⟩
theorem CS.below (h : CS w B M q v ls ks) (hb : Below w.heap.size w w') : CS w' B M q v ls ks := h.keep hb.size fun k hk => hb.block k (h.own_lt hk)
theorem CS.c0 (h : CS w B M q v ls ks) : w.cell? ⟨B, 0, none⟩ = some (.int .i64 q) := cell_of_row _ _ _ _ _ _ h.box
theorem CS.c1 (h : CS w B M q v ls ks) : w.cell? ⟨B, 1, none⟩ = some (.map (some M)) := cell_of_row _ _ _ _ _ _ h.box
theorem CS.c2 (h : CS w B M q v ls ks) : w.cell? ⟨B, 2, none⟩ = some v := cell_of_row _ _ _ _ _ _ h.box
theorem CS.self (h : CS w B M q v ls ks) : CT w w B M q v ls ks := ⟨v, h, .refl _ _, fun _ hk => .inl hk⟩
theorem CS.stay (h : CS w B M q v ls ks) (hb : Below w.heap.size w w') : CT w w' B M q v ls ks := ⟨v, h.below hb, .of hb, fun _ hk => .inl hk⟩
theorem CT.trans (h : CT w w' B M q v ls ks) (k : ∀ v1, CS w' B M q v1 ls ks → CT w' w2 B M q v1 ls' ks') : CT w w2 B M q v ls' ks' := by
  obtain ⟨v1, h1, h2, h3⟩ := h
  obtain ⟨v2, k1, k2, k3⟩ := k v1 h1
  refine ⟨v2, k1, h2.trans' ⟨k2.os, k2.tape, k2.output, k2.size, fun i hi hn => k2.block i (Nat.lt_of_lt_of_le hi h2.size) (fun e => ?_)⟩, fun i hi => ?_⟩
  · rcases h3 i e with e | e
    · exact hn e
    · omega
  · rcases k3 i hi with e | e
    · exact h3 i e
    · exact .inr (Nat.le_trans h2.size e)
/-- A call within a frame that made new blocks ahead. -/
theorem CT.from (h : CS w B M q v ls ks) (hb : Below w.heap.size w w') (hT : CT w' w2 B M q v ls' ks') : CT w w2 B M q v ls' ks' := (h.stay hb).trans fun v1 h1 => by
  obtain rfl : v = v1 := Option.some.inj ((h.below hb).c2.symm.trans h1.c2)
  exact hT
theorem CT.after (hT : CT w w' B M q v ls ks) (hb : Below w'.heap.size w' w2) : CT w w2 B M q v ls ks := hT.trans fun v1 h1 => h1.stay hb
/-- A block that isn't the cache's stands. -/
theorem CT.other (h : CS w B M q v ls ks) (hT : CT w w' B M q v ls' ks') {k : Nat} (hk : k < w.heap.size) (hn : ¬ csS B M v k) : w'.heap[k]? = w.heap[k]? := by
  obtain ⟨v1, h1, h2, h3⟩ := hT
  exact h2.block k hk hn
/-- The order's slice is laid in the struct. -/
theorem CS.order (h : CS w B M q v ls ks) (hk : Keeps (fun k => v.ownBlock = some k) w w2) (ho : OwnL plT 2 placeC w2 0 w2.heap.size v' ks') (hr : ∀ k, v'.ownBlock = some k → v.ownBlock = some k ∨ w.heap.size ≤ k) (hf : ks'.length ≤ 100) :
    w2.heap[B]? = some (.cells #[.int .i64 q, .map (some M), v] 64 (0, 0)) ∧ CT w (w2.setCell ⟨B, 2, none⟩ v') B M q v ls ks' := by
  have hB : w2.heap[B]? = w.heap[B]? := hk.block B h.lt h.neB
  have hM : w2.heap[M]? = w.heap[M]? := hk.block M h.map.lt h.neM
  have hb1 := heap_setCell_same w2 B 2 _ _ v' (hB.trans h.box)
  have oth : ∀ k, k ≠ B → (w2.setCell ⟨B, 2, none⟩ v').heap[k]? = w2.heap[k]? := fun k hk => Below.heap_setCell _ _ _ k (fun e => hk e)
  have nb : ∀ k, (k = B ∨ k = M) → v'.ownBlock ≠ some k := fun k hk e => by
    rcases hr k e with e2 | e2
    · rcases hk with rfl | rfl
      · exact h.neB e2
      · exact h.neM e2
    · rcases hk with rfl | rfl
      · have := h.lt; omega
      · have := h.map.lt; omega
  refine ⟨hB.trans h.box, v', ⟨hb1, h.map.keep ((oth M (fun e => h.bm e.symm)).trans hM), ?_, nb B (.inl rfl), nb M (.inr rfl), h.bm, hf⟩, ?_, fun k hk2 => ?_⟩
  · rw [show (w2.setCell ⟨B, 2, none⟩ v').heap.size = w2.heap.size from by simp [World.setCell]]
    rcases ho with h1 | ⟨L, c, cur, h1, h2, h3, h4, h5⟩
    · exact .inl h1
    · exact .inr ⟨L, c, cur, h1, h2, h3, (oth L (fun e => nb B (.inl rfl) (by rw [h1, ← e]; rfl))).trans h4, h5⟩
  · exact Keeps.setCell (S := csS B M v) (hk.mono fun k _ e => .inr (.inr e)) (B := B) (.inl rfl) 2 v'
  · rcases hk2 with e | e | e
    · exact .inl (.inl e)
    · exact .inl (.inr (.inl e))
    · rcases hr k e with e | e
      · exact .inl (.inr (.inr e))
      · exact .inr e
/-- The map is turned. -/
theorem CS.turned (h : CS w B M q v ls ks) (hk : Keeps (fun k => k = M) w w2) (hm : MapL w2 M ls') : CS w2 B M q v ls' ks := by
  refine ⟨(hk.block B h.lt (fun e => h.bm e)).trans h.box, hm, ?_, h.neB, h.neM, h.bm, h.few⟩
  rcases h.own with h1 | ⟨L, c, cur, h1, h2, h3, h4, h5⟩
  · exact .inl h1
  · exact .inr ⟨L, c, cur, h1, h2, Nat.lt_of_lt_of_le h3 hk.size, (hk.block L h3 (fun e => h.neM (by rw [h1, e]; rfl))).trans h4, h5⟩
theorem CS.turn (h : CS w B M q v ls ks) (hk : Keeps (fun k => k = M) w w2) (hm : MapL w2 M ls') : CT w w2 B M q v ls' ks :=
  ⟨v, h.turned hk hm, hk.mono fun k _ e => .inr (.inl e), fun k hk => .inl hk⟩
end
/-- slices.DeleteFunc over a slice of one's own. -/
theorem DeleteFunc_nil (w : World) (P : Nat) :
    Calls Try.prog 34 #[.slice none 0 0, .func (.func 35) #[] #[.pointer (some ⟨P, 0, none⟩)]] w fun e w' => e = .returned (.slice none 0 0) ∧ w = w' := by
  have HN := Lib.hid (fun fv => IndexFunc_nil w fv)
  go_enter Try.func34, Try.ntmps34
  go_wp2_with (go_at_call 36
               refine (HN.out _).mono ?_; rintro e w1 ⟨rfl, rfl⟩)
  go_ret
  exact ⟨rfl, rfl⟩
theorem DeleteFunc_any {w : World} {v : Value} {ks : List (Int × Int)} (h : OwnL plT 2 placeC w 0 w.heap.size v ks) (hk : ks.length ≤ 1000) (P : Nat) (u c : Int) (hP : PlBox w P u c) (hne : v.ownBlock ≠ some P) :
    Calls Try.prog 34 #[v, .func (.func 35) #[] #[.pointer (some ⟨P, 0, none⟩)]] w fun e w' =>
      ∃ v', e = .returned v' ∧ OwnL plT 2 placeC w' 0 w'.heap.size v' (without ks u c) ∧ (∀ k, v'.ownBlock = some k → v.ownBlock = some k) ∧ Keeps (fun k => v.ownBlock = some k) w w' := by
  have h0 := h
  rcases h with ⟨rfl, rfl⟩ | ⟨B, cap, cur, rfl, h2, h3, h4, h5, h6, h7, h8⟩
  · refine (DeleteFunc_nil w P).mono fun e w' ⟨a, b⟩ => ⟨_, a, .inl ⟨rfl, rfl⟩, fun k hk => hk, ?_⟩
    subst b; exact Keeps.refl _ _
  · obtain ⟨hb, -, -, -, -, -⟩ := h0.pb
    refine (DeleteFunc_row hb hk h5 P u c hP (fun e => hne (by rw [e]; rfl))).mono fun e w' ⟨cur', k, a, b1, b2, b3, b4, b5⟩ => ⟨_, a, ?_, fun j hj => hj, ?_⟩
    · rw [← b4]
      exact b1.own (Nat.zero_le _) b1.lt b3 h6 k b2
    · exact b5.mono fun j _ e => by rw [e]; rfl
end Go.Proofs.Ytlaclakndleonaa
