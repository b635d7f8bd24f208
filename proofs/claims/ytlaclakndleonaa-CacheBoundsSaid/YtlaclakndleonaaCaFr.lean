/- Blocks that a pointer points to; lists that lie there. Conditions: as each says. -/
import Derived.Test.YtlaclakndleonaaCaReg
import Derived.Test.YtlaclakndleonaaCaOne
namespace Go.Proofs.Ytlaclakndleonaa
open Go.ChangeShapes Go.WideShapes Go.ChangeAt Go.RowKit
/-- The block that a pointer points to. -/
def AtP (p : Option Addr) (k : Nat) : Prop := ∃ o, p = some ⟨k, o, none⟩
theorem cell_fr {W W' : World} {p : Addr} (h : W'.heap[p.block]? = W.heap[p.block]?) : W'.cell? p = W.cell? p := World.cell?_of_block (w := W) h
theorem rows_fr {α : Type} {sz : Nat} {C : α → List Value} {W W' : World} {p : Option Addr} {l : List α} (h : RowsAt sz C W p l) (f : Fr (AtP p) W W') : RowsAt sz C W' p l := by
  rcases h with h | ⟨B, o, h1, h2, h3⟩
  · exact .inl h
  · exact .inr ⟨B, o, h1, Nat.lt_of_lt_of_le h2 f.1, fun i c hc j v hv => (cell_fr (p := ⟨B, o + sz * i + j, none⟩) (f.2 B ⟨o, h1⟩)).trans (h3 i c hc j v hv)⟩
theorem rows_keeps {α : Type} {sz : Nat} {C : α → List Value} {W W' : World} {p : Option Addr} {l : List α} {S : Nat → Prop} (h : RowsAt sz C W p l) (f : Keeps S W W') (hs : ∀ j, AtP p j → ¬ S j) : RowsAt sz C W' p l := by
  rcases h with h | ⟨B, o, h1, h2, h3⟩
  · exact .inl h
  · exact .inr ⟨B, o, h1, Nat.lt_of_lt_of_le h2 f.size, fun i c hc j v hv => (cell_fr (p := ⟨B, o + sz * i + j, none⟩) (f.block B h2 (hs B ⟨o, h1⟩))).trans (h3 i c hc j v hv)⟩
theorem Fr.mono {X Y : Nat → Prop} {W W' : World} (h : Fr X W W') (hy : ∀ k, Y k → X k) : Fr Y W W' := ⟨h.1, fun k hk => h.2 k (hy k hk)⟩
theorem QSt.lines {At : AtT} {w W : World} {B : Nat} {q : Int} {ls : List LineOf} {t : Nat} {X : Nat → Prop} (K : CacheSpec At) (h : QSt At w W B q ls t X) : Calls Try.prog 22 #[.pointer (some ⟨B, 0, none⟩)] W fun e W' => ∃ v, e = .returned v ∧ OwnL 42 131 lineC W' W.heap.size W'.heap.size v ls ∧ Below W.heap.size W W' := by
  obtain ⟨S, h1, _⟩ := h
  exact K.lines h1
end Go.Proofs.Ytlaclakndleonaa
