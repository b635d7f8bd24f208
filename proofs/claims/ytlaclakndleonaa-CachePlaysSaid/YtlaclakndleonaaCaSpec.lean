/- What the laws of stage 13 ask of package cache: contracts of its calls over any state of its own in memory, with blocks of its own. Nothing is claimed here of the program: the laws' walks take such a thing as given. -/
import Derived.Test.YtlaclakndleonaaCaIn
import Derived.Test.YtlaclakndleonaaPlFree
namespace Go.Proofs.Ytlaclakndleonaa
open Go.ChangeShapes Go.WideShapes Go.ChangeAt Go.RowKit
set_option linter.unusedVariables false
/-- An error's value: 0 is none. -/
def errN (z : Int) : Value := if z = 0 then .nilIface else .iface 30 (.int .i64 z)
theorem errN_zero : errN 0 = .nilIface := if_pos rfl
/-- No block has two lines; the bytes are bytes; not more than the quota. -/
structure GoodL (q : Int) (ls : List LineOf) : Prop where
  ok : ∀ l ∈ ls, l.ok
  few : (ls.length : Int) ≤ q
  low : 1 ≤ q
  high : q ≤ 8
  apart : ls.Pairwise fun x y => ¬ (x.u = y.u ∧ x.b = y.b)
/-- What a call leaves of a cache: all blocks but its own stand, what it owns is its own or new. -/
def ToAt (At : World → (Nat → Prop) → Nat → Int → List LineOf → Nat → Prop) (w w' : World) (S : Nat → Prop) (B : Nat) (q : Int) (ls' : List LineOf) (t : Nat) : Prop :=
  ∃ S', At w' S' B q ls' t ∧ Keeps S w w' ∧ ∀ k, S' k → S k ∨ w.heap.size ≤ k
/-- An iterator over lines: it reads the blocks T alone, and makes no memory but new one. -/
def LinesIter (w' : World) (T : Nat → Prop) (L : List LineOf) (v : Value) : Prop :=
  ∃ (gf : FuncId) (lb : Array Value), v = .func (.func gf) #[] lb ∧ (∀ args u, (callFunc gf args).run Try.prog u = .ok (.enter gf args) u) ∧ (∀ k, T k → k < w'.heap.size) ∧
    GivesFr Fence.wide 2 Try.prog gf lb (fun l : LineOf => #[lineV l]) (fun i => lineAt L i) L.length (fun V => ∀ k, T k → V.heap[k]? = w'.heap[k]?)
structure CacheSpec (At : World → (Nat → Prop) → Nat → Int → List LineOf → Nat → Prop) : Prop where
  lt : ∀ {w S B q ls t}, At w S B q ls t → ∀ k, S k → k < w.heap.size
  keep : ∀ {w w' S B q ls t}, At w S B q ls t → w.heap.size ≤ w'.heap.size → (∀ k, S k → w'.heap[k]? = w.heap[k]?) → At w' S B q ls t
  good : ∀ {w S B q ls t}, At w S B q ls t → GoodL q ls
  new_ok : ∀ (q : Int) (w : World), 1 ≤ q → q ≤ 8 → Calls Try.prog 9 #[.int .i64 q] w fun e w' => ∃ B S, e = .returned (.tuple #[.pointer (some ⟨B, 0, none⟩), .nilIface]) ∧ At w' S B q [] 0 ∧ Below w.heap.size w w' ∧ ∀ k, S k → w.heap.size ≤ k
  new_no : ∀ (q : Int) (w : World), ¬ (1 ≤ q ∧ q ≤ 8) → Calls Try.prog 9 #[.int .i64 q] w fun e w' => e = .returned (.tuple #[.pointer none, errN 1]) ∧ Below w.heap.size w w'
  quota : ∀ {w S B q ls t}, At w S B q ls t → Calls Try.prog 11 #[.pointer (some ⟨B, 0, none⟩)] w fun e w' => e = .returned (.int .i64 q) ∧ Below w.heap.size w w'
  get : ∀ {w S B q ls t} (u b : Int), okI u → okI b → At w S B q ls t → t ≤ 100000 → Calls Try.prog 12 #[.pointer (some ⟨B, 0, none⟩), .int .i64 u, .int .i64 b] w fun e w' => e = .returned (.tuple #[lineV (gotL ls u b), .bool (decide (findL ls u b < ls.length))]) ∧ ToAt At w w' S B q (getL ls u b) (t + 1)
  put : ∀ {w S B q ls t} (l : LineOf), l.ok → At w S B q ls t → t ≤ 100000 → Calls Try.prog 15 #[.pointer (some ⟨B, 0, none⟩), lineV l] w fun e w' => e = .returned (errN (putN q ls l)) ∧ ToAt At w w' S B q (putS q ls l) (t + 1)
  clean : ∀ {w S B q ls t}, At w S B q ls t → t ≤ 100000 → Calls Try.prog 18 #[.pointer (some ⟨B, 0, none⟩)] w fun e w' => e = .returned (.int .i64 (dirtyL ls).length) ∧ ToAt At w w' S B q (cleanedL ls) (t + 1)
  drop : ∀ {w S B q ls t} (u : Int), okI u → At w S B q ls t → t ≤ 100000 → Calls Try.prog 20 #[.pointer (some ⟨B, 0, none⟩), .int .i64 u] w fun e w' => e = .returned (.int .i64 ((ls.length - (dropL ls u).length : Nat) : Int)) ∧ ToAt At w w' S B q (dropL ls u) (t + 1)
  lines : ∀ {w S B q ls t}, At w S B q ls t → Calls Try.prog 22 #[.pointer (some ⟨B, 0, none⟩)] w fun e w' => ∃ v, e = .returned v ∧ OwnL 42 131 lineC w' w.heap.size w'.heap.size v ls ∧ Below w.heap.size w w'
  dirty : ∀ {w S B q ls t}, At w S B q ls t → Calls Try.prog 30 #[.pointer (some ⟨B, 0, none⟩)] w fun e w' => ∃ v T, e = .returned v ∧ LinesIter w' T (dirtyL ls) v ∧ (∀ k, T k → S k ∨ w.heap.size ≤ k) ∧ Below w.heap.size w w'
  nil_quota : ∀ (w : World), Calls Try.prog 11 #[.pointer none] w fun e w' => e = .returned (.int .i64 0) ∧ Below w.heap.size w w'
  nil_get : ∀ (u b : Int) (w : World), Calls Try.prog 12 #[.pointer none, .int .i64 u, .int .i64 b] w fun e w' => e = .returned (.tuple #[lineV noLine, .bool false]) ∧ Below w.heap.size w w'
  nil_put : ∀ (l : LineOf) (w : World), l.ok → Calls Try.prog 15 #[.pointer none, lineV l] w fun e w' => e = .returned (errN 7) ∧ Below w.heap.size w w'
  nil_clean : ∀ (w : World), Calls Try.prog 18 #[.pointer none] w fun e w' => e = .returned (.int .i64 0) ∧ Below w.heap.size w w'
  nil_drop : ∀ (u : Int) (w : World), Calls Try.prog 20 #[.pointer none, .int .i64 u] w fun e w' => e = .returned (.int .i64 0) ∧ Below w.heap.size w w'
  nil_lines : ∀ (w : World), Calls Try.prog 22 #[.pointer none] w fun e w' => ∃ v, e = .returned v ∧ OwnL 42 131 lineC w' w.heap.size w'.heap.size v [] ∧ Below w.heap.size w w'
  nil_dirty : ∀ (w : World), Calls Try.prog 30 #[.pointer none] w fun e w' => ∃ v T, e = .returned v ∧ LinesIter w' T [] v ∧ (∀ k, T k → w.heap.size ≤ k) ∧ Below w.heap.size w w'
end Go.Proofs.Ytlaclakndleonaa
