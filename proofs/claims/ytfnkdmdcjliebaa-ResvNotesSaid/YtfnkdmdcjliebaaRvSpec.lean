/- What the laws of stage 14 ask of package resv: contracts of its functions over values. Nothing is claimed here of the program: the laws' walks take such a thing as given. -/
import Derived.Test.YtfnkdmdcjliebaaRvRefB
import Derived.Test.YtfnkdmdcjliebaaRdErr
import Derived.Test.YtfnkdmdcjliebaaPlFree
namespace Go.Proofs.Ytfnkdmdcjliebaa
open Go.ChangeShapes Go.WideShapes Go.ChangeAt Go.RowKit
set_option linter.unusedVariables false
/-- An error's value: 0 is none. -/
def errN (z : Int) : Value := if z = 0 then .nilIface else .iface 45 (.int .i64 z)
theorem errN_zero : errN 0 = .nilIface := if_pos rfl
abbrev roT : TypeId := 26
/-- An operation as a value. -/
def ropA (o : ROp) : Array Value := #[.int .i64 o.op, .int .i64 o.who, .int .i64 o.key, .int .i64 o.new, .int .i64 o.ty, .bool o.s]
def ropC (o : ROp) : List Value := [.int .i64 o.op, .int .i64 o.who, .int .i64 o.key, .int .i64 o.new, .int .i64 o.ty, .bool o.s]
/-- Reservations whose registrations lie in memory. -/
structure RvAt (w : World) (q : Option Addr) (n c : Nat) (r : ResvOf) : Prop where
  at_ : RegsAt w q r.regs
  len : r.regs.length = n
  cap : n ≤ c
  top : c ≤ maxLen
  ok : r.ok
  few : n ≤ 1000
theorem RvAt.below {w w' : World} {q : Option Addr} {n c : Nat} {r : ResvOf} (h : RvAt w q n c r) (hb : Below w.heap.size w w') : RvAt w' q n c r := ⟨RowsAt.below h.at_ hb, h.len, h.cap, h.top, h.ok, h.few⟩
theorem RvAt.nobody (w : World) : RvAt w none 0 0 nobodyR := ⟨.inl rfl, rfl, Nat.le_refl _, Nat.zero_le _, ⟨fun p hp => (nomatch hp), by unfold okI nobodyR; decide, by unfold okI nobodyR; decide, by unfold okI nobodyR; decide⟩, by omega⟩
/-- New memory that holds registrations. -/
abbrev OwnR (w w' : World) (q : Option Addr) (n c : Nat) (ks : List (Int × Int)) : Prop := OwnL rgT 2 regC w' w.heap.size w'.heap.size (.slice q n c) ks
/-- An iterator over integers: it reads the blocks T alone, and makes no memory but new one. -/
def IntsIter (w' : World) (T : Nat → Prop) (L : List Int) (v : Value) : Prop :=
  ∃ (gf : FuncId) (lb : Array Value), v = .func (.func gf) #[] lb ∧ (∀ args u, (callFunc gf args).run Try.prog u = .ok (.enter gf args) u) ∧ (∀ k, T k → k < w'.heap.size) ∧
    GivesFr Fence.wide 2 Try.prog gf lb (fun z : Int => #[.int .i64 z]) (fun i => L.getD i 0) L.length (fun V => ∀ k, T k → V.heap[k]? = w'.heap[k]?)
def AtB (q : Option Addr) (k : Nat) : Prop := ∃ o, q = some ⟨k, o, none⟩
structure ResvSpec : Prop where
  do_ : ∀ {w : World} {q : Option Addr} {n c : Nat} {r : ResvOf} (o : ROp), RvAt w q n c r → o.ok → Calls Try.prog 10 #[.agg (resvA q n c r), .agg (ropA o)] w fun e w' => ∃ q' n' c', e = .returned (.tuple #[.agg (resvA q' n' c' (doR r o).1), errN (doR r o).2]) ∧ OwnR w w' q' n' c' (doR r o).1.regs ∧ Below w.heap.size w w'
  check : ∀ {w : World} {q : Option Addr} {n c : Nat} {r : ResvOf}, RvAt w q n c r → Calls Try.prog 14 #[.agg (resvA q n c r)] w fun e w' => e = .returned (errN (if goodR r then 0 else 2)) ∧ Below w.heap.size w w'
  allowed : ∀ {w : World} {q : Option Addr} {n c : Nat} {r : ResvOf} (who acc : Int), okI who → okI acc → RvAt w q n c r → goodR r = true → Calls Try.prog 20 #[.agg (resvA q n c r), .int .i64 who, .int .i64 acc] w fun e w' => e = .returned (.bool (allowedR r who acc)) ∧ Below w.heap.size w w'
  holders : ∀ {w : World} {q : Option Addr} {n c : Nat} {r : ResvOf}, RvAt w q n c r → goodR r = true → Calls Try.prog 18 #[.agg (resvA q n c r)] w fun e w' => ∃ v T, e = .returned v ∧ IntsIter w' T (holdersR r) v ∧ (∀ k, T k → (AtB q k ∧ r.regs ≠ []) ∨ w.heap.size ≤ k) ∧ Below w.heap.size w w'
/-! ### Runs -/
/-- Operations, one behind the other; those that are refused change nothing. -/
def stepR (r : ResvOf) (o : ROp) : ResvOf := if (doR r o).2 = 0 then (doR r o).1 else r
def runR (r : ResvOf) (os : List ROp) : ResvOf := os.foldl stepR r
def atO (os : List ROp) (k : Nat) : ROp := os.getD k ⟨0, 0, 0, 0, 0, false⟩
theorem atO_get {os : List ROp} {k : Nat} (h : k < os.length) : os[k]? = some (atO os k) := by unfold atO; rw [List.getD_eq_getElem?_getD, List.getElem?_eq_getElem h]; rfl
theorem atO_mem {os : List ROp} {k : Nat} (h : k < os.length) : atO os k ∈ os := List.mem_of_getElem? (atO_get h)
theorem run_take {os : List ROp} {k : Nat} (hk : k < os.length) (r : ResvOf) : runR r (os.take (k + 1)) = stepR (runR r (os.take k)) (atO os k) := by
  have h := atO_get hk
  unfold runR
  rw [List.take_add_one, h, List.foldl_append]; rfl
abbrev OpsAt (w : World) (p : Option Addr) (os : List ROp) : Prop := RowsAt 6 ropC w p os
theorem ops_at {w : World} {q : Option Addr} {os : List ROp} (h : OpsAt w q os) {k : Nat} (hk : k < os.length) : ∃ B o, q = some ⟨B, o, none⟩ ∧ B < w.heap.size ∧ w.rangeAt B (o + 6 * k) (ropC (atO os k)) := by
  rcases h with rfl | ⟨B, o, h1, h2, h3⟩
  · simp at hk
  · exact ⟨B, o, h1, h2, h3 k _ (atO_get hk)⟩
theorem ropSize : (Try.prog.info? roT).map (·.size) = some 6 := by kernel_rfl
theorem ropSize_run (w : World) : (sizeOf roT).run Try.prog w = .ok 6 w := by
  have hi := ropSize
  cases hq : Try.prog.info? roT with
  | none => simp [hq] at hi
  | some i =>
    have hs : i.size = 6 := by simpa [hq] using hi
    simp [sizeOf, typeInfo, hq, hs]
section
variable {ops : Array Oper} {rest : List Oper} {o : Oper} {a : Act} {w : World} {Q : Exit → Act → World → Prop}
theorem wpList_op_elem (hgd : o.guard = none) (x y : Operand) (ho : o.op = .indexAddr 41 x y) (B off n cap k : Nat) (hx : a.eval x = .slice (some ⟨B, off, none⟩) n cap) (hy : a.eval y = .int .i64 k) (hk : k < n) (h : wpList Try.prog ops Q rest (a.put o.dst (.pointer (some ⟨B, off + 6 * k, none⟩))) w) : wpList Try.prog ops Q (o :: rest) a w :=
  wpList_plain hgd fun K hK => by
    have h0 : (k : Int) < n := by omega
    have hs := ropSize_run w
    unfold Oper.wp execOp
    simp only [ho, hx, hy]
    simp [go_sem, Try.underlying41, h0, hs, addr_add]
    rw [Nat.mul_comm]
    exact hK _ _ h
theorem wpList_op_load (hgd : o.guard = none) (x : Operand) (ho : o.op = .load roT x) (B off : Nat) (hx : a.eval x = .pointer (some ⟨B, off, none⟩)) (c : ROp) (hc : w.rangeAt B off (ropC c)) (h : wpList Try.prog ops Q rest (a.put o.dst (.agg (ropA c))) w) : wpList Try.prog ops Q (o :: rest) a w :=
  wpList_load_mid hgd _ x ho B off hx (ropC c) _ hc Try.underlying26 rfl ropSize h
end
end Go.Proofs.Ytfnkdmdcjliebaa
