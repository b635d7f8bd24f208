/- What a world keeps: all that was there lies as it lay, but for the blocks in S. Conditions: as each says. -/
import Derived.Test.YtfnkdmdcjliebaaRvNum
namespace Go.Proofs.Ytfnkdmdcjliebaa
open Go.ChangeShapes Go.WideShapes Go.ChangeAt Go.RowKit
set_option linter.unusedVariables false
/-! ### What a world keeps -/
/-- All that was there lies as it lay, but for the blocks in S. -/
structure Keeps (S : Nat → Prop) (w w' : World) : Prop where
  os : w'.os = w.os
  tape : w'.tape = w.tape
  output : w'.output = w.output
  size : w.heap.size ≤ w'.heap.size
  block : ∀ k, k < w.heap.size → ¬ S k → w'.heap[k]? = w.heap[k]?
namespace Keeps
variable {S : Nat → Prop} {w w' w'' : World}
theorem refl (S : Nat → Prop) (w : World) : Keeps S w w := ⟨rfl, rfl, rfl, Nat.le_refl _, fun _ _ _ => rfl⟩
theorem trans (h : Keeps S w w') (k : Keeps S w' w'') : Keeps S w w'' :=
  ⟨k.os.trans h.os, k.tape.trans h.tape, k.output.trans h.output, Nat.le_trans h.size k.size, fun i hi hn => (k.block i (Nat.lt_of_lt_of_le hi h.size) hn).trans (h.block i hi hn)⟩
theorem mono {S' : Nat → Prop} (h : Keeps S w w') (hs : ∀ k, k < w.heap.size → S k → S' k) : Keeps S' w w' := ⟨h.os, h.tape, h.output, h.size, fun i hi hn => h.block i hi (fun e => hn (hs i hi e))⟩
theorem of (h : Below w.heap.size w w') : Keeps S w w' := ⟨h.os, h.tape, h.output, h.size, fun k hk _ => h.block k hk⟩
theorem alloc (h : Keeps S w w') (o : Obj) : Keeps S w (w'.alloc o) := h.trans (.of ((Below.refl _ _).alloc (Nat.le_refl _) _))
theorem drew (h : Keeps S w w') : Keeps S w w'.drew := ⟨h.os, h.tape, h.output, h.size, h.block⟩
theorem setCell (h : Keeps S w w') {B : Nat} (hB : S B) (i : Nat) (v : Value) : Keeps S w (w'.setCell ⟨B, i, none⟩ v) :=
  h.trans ⟨rfl, rfl, rfl, by simp [World.setCell], fun k _ hn => Below.heap_setCell _ _ _ k (fun e => hn (by rw [e]; exact hB))⟩
theorem setRow (h : Keeps S w w') {B : Nat} (hB : S B) (cs : Array Value) : Keeps S w (w'.setRow B cs) :=
  h.trans ⟨rfl, rfl, rfl, by simp, fun k _ hn => setRow_other _ B k cs (fun e => hn (by rw [e]; exact hB))⟩
theorem grown (h : Keeps S w w') {row : Option Nat} (hg : w'.grownBy w'' row) (hr : ∀ k, row = some k → S k) : Keeps S w w'' :=
  h.trans ⟨hg.os, hg.tape, hg.output, hg.size, fun k hk hn => hg.block k hk (fun e => hn (hr k e.symm))⟩
theorem but {B : Nat} (h : Keeps S w w') (hb : But B w' w'') (hB : S B) : Keeps S w w'' :=
  h.trans ⟨hb.low.os, hb.low.tape, hb.low.output, hb.size, fun k hk hn => hb.same k hk (fun e => hn (by rw [e]; exact hB))⟩
theorem below {M : Nat} (h : Keeps S w w') (hM : M ≤ w.heap.size) (hS : ∀ k, k < M → ¬ S k) : Below M w w' := ⟨h.os, h.tape, h.output, h.size, fun k hk => h.block k (by omega) (hS k hk)⟩
theorem blk {C : Nat} {k : IntKind} {t : TypeId} {l : List Int} (h : Keeps S w w') (hC : IntBlk w C k t l) (hn : ¬ S C) : IntBlk w' C k t l := (h.block C hC.lt hn).trans hC
theorem cells {C : Nat} {o : Obj} (h : Keeps S w w') (hC : w.heap[C]? = some o) (hn : ¬ S C) : w'.heap[C]? = some o := (h.block C (Array.getElem?_eq_some_iff.1 hC).1 hn).trans hC
end Keeps


theorem Keeps.trans' {S : Nat → Prop} {w w' w'' : World} (h : Keeps S w w') (k : w''.os = w'.os ∧ w''.tape = w'.tape ∧ w''.output = w'.output ∧ w'.heap.size ≤ w''.heap.size ∧ ∀ k, k < w.heap.size → ¬ S k → w''.heap[k]? = w'.heap[k]?) : Keeps S w w'' :=
  ⟨k.1.trans h.os, k.2.1.trans h.tape, k.2.2.1.trans h.output, Nat.le_trans h.size k.2.2.2.1, fun i hi hn => (k.2.2.2.2 i hi hn).trans (h.block i hi hn)⟩
theorem Keeps.grownL {S : Nat → Prop} {w w' w'' : World} {v : Value} (h : Keeps S w w') (hg : w'.grownBy w'' v.ownBlock) (hr : ∀ k, v.ownBlock = some k → k < w.heap.size → S k) : Keeps S w w'' :=
  h.trans' ⟨hg.os, hg.tape, hg.output, hg.size, fun k hk hn => hg.block k (Nat.lt_of_lt_of_le hk h.size) (fun e => hn (hr k e.symm hk))⟩
end Go.Proofs.Ytfnkdmdcjliebaa
