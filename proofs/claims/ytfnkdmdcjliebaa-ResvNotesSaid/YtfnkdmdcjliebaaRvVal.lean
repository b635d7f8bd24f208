/- Reservations in memory: registrations in slices, the struct as a value and in a box. Conditions: as each says. -/
import Derived.Test.YtfnkdmdcjliebaaRvKeep
import Derived.Laws.StructEq
import Derived.Laws.IdiomCopy
namespace Go.Proofs.Ytfnkdmdcjliebaa
open Go.ChangeShapes Go.WideShapes Go.ChangeAt Go.RowKit
set_option linter.unusedVariables false
abbrev rgT : TypeId := 39
abbrev rgS : TypeId := 22
abbrev rvT : TypeId := 24
def regC (p : Int × Int) : List Value := [.int .i64 p.1, .int .i64 p.2]
theorem regSize : (Try.prog.info? rgT).map (·.size) = some 2 := by kernel_rfl
theorem regSize_run (w : World) : (sizeOf rgT).run Try.prog w = .ok 2 w := by
  have hi := regSize
  cases hq : Try.prog.info? rgT with
  | none => simp [hq] at hi
  | some i =>
    have hs : i.size = 2 := by simpa [hq] using hi
    simp [sizeOf, typeInfo, hq, hs]
def regZ : Value := .agg #[.int .i64 0, .int .i64 0]
theorem regZero : (Try.prog.info? rgT).bind (·.zero) = some regZ := by kernel_rfl
theorem regZero_run (W : World) : (zeroValue rgT).run Try.prog W = .ok regZ W := by
  have h := regZero
  cases hq : Try.prog.info? rgT with
  | none => rw [hq] at h; simp at h
  | some i =>
    rw [hq] at h
    simp only [Option.bind_some] at h
    simp [zeroValue, typeInfo, hq, h]
theorem elemReg : ElemOf Try.prog rgS rgT 2 16 regC where
  under := Try.underlying22
  size := regSize
  bytes := by kernel_rfl
  zero := ⟨regZ, regZero, by kernel_rfl⟩
  len := fun _ => rfl
  one := fun c u hu => by
    simp [regC] at hu
    rcases hu with rfl | rfl <;> rfl
  pos := by decide
def atR (ks : List (Int × Int)) (k : Nat) : Int × Int := ks.getD k (0, 0)
theorem atR_get {ks : List (Int × Int)} {k : Nat} (h : k < ks.length) : ks[k]? = some (atR ks k) := by unfold atR; rw [List.getD_eq_getElem?_getD, List.getElem?_eq_getElem h]; rfl
theorem take_snocR {ks : List (Int × Int)} {j : Nat} (hj : j < ks.length) : ks.take (j + 1) = ks.take j ++ [atR ks j] := by
  have h := atR_get hj
  rw [List.take_add_one, h]; rfl
theorem drop_consR {ks : List (Int × Int)} {j : Nat} (hj : j < ks.length) : ks.drop j = atR ks j :: ks.drop (j + 1) := by
  have h := atR_get hj
  rw [List.getElem?_eq_getElem hj] at h
  rw [List.drop_eq_getElem_cons hj, Option.some.inj h]
abbrev RegsAt (w : World) (q : Option Addr) (ks : List (Int × Int)) : Prop := RowsAt 2 regC w q ks
theorem regs_at {w : World} {q : Option Addr} {ks : List (Int × Int)} (h : RegsAt w q ks) {k : Nat} (hk : k < ks.length) : ∃ B o, q = some ⟨B, o, none⟩ ∧ B < w.heap.size ∧ w.rangeAt B (o + 2 * k) (regC (atR ks k)) := by
  rcases h with rfl | ⟨B, o, h1, h2, h3⟩
  · simp at hk
  · exact ⟨B, o, h1, h2, h3 k _ (atR_get hk)⟩
theorem reg_c0 {W : World} {B o : Nat} {p : Int × Int} (h : W.rangeAt B o (regC p)) : W.cell? ⟨B, o, none⟩ = some (.int .i64 p.1) := h 0 _ rfl
theorem reg_c1 {W : World} {B o : Nat} {p : Int × Int} (h : W.rangeAt B o (regC p)) : W.cell? ⟨B, o + 1, none⟩ = some (.int .i64 p.2) := h 1 _ rfl
/-- Reservations as a value; the registrations' slice is what it is. -/
def resvA (q : Option Addr) (n c : Nat) (r : ResvOf) : Array Value := #[.slice q n c, .int .i64 r.h, .int .i64 r.t, .bool r.s, .int .i64 r.g]
/-- .. in a box. -/
def RvBox (W : World) (O : Nat) (q : Option Addr) (n c : Nat) (r : ResvOf) : Prop := W.heap[O]? = some (.cells (resvA q n c r) rvT (0, 0))
namespace RvBox
variable {W W' : World} {O n c : Nat} {q : Option Addr} {r : ResvOf}
theorem lt (h : RvBox W O q n c r) : O < W.heap.size := (Array.getElem?_eq_some_iff.1 h).1
theorem keep (h : RvBox W O q n c r) (hb : W'.heap[O]? = W.heap[O]?) : RvBox W' O q n c r := hb.trans h
theorem c0 (h : RvBox W O q n c r) : W.cell? ⟨O, 0, none⟩ = some (.slice q n c) := cell_of_row _ _ _ _ _ _ h
theorem c1 (h : RvBox W O q n c r) : W.cell? ⟨O, 1, none⟩ = some (.int .i64 r.h) := cell_of_row _ _ _ _ _ _ h
theorem c2 (h : RvBox W O q n c r) : W.cell? ⟨O, 2, none⟩ = some (.int .i64 r.t) := cell_of_row _ _ _ _ _ _ h
theorem c3 (h : RvBox W O q n c r) : W.cell? ⟨O, 3, none⟩ = some (.bool r.s) := cell_of_row _ _ _ _ _ _ h
theorem c4 (h : RvBox W O q n c r) : W.cell? ⟨O, 4, none⟩ = some (.int .i64 r.g) := cell_of_row _ _ _ _ _ _ h
theorem alloc (W : World) (q : Option Addr) (n c : Nat) (r : ResvOf) : RvBox (W.alloc (.cells (resvA q n c r) rvT)) W.heap.size q n c r := heap_alloc_new W _
theorem free (h : RvBox W O q n c r) (i : Nat) : W.frozen? ⟨O, i, none⟩ = false := frozen_of_row _ _ _ _ _ h
end RvBox
section
variable {ops : Array Oper} {rest : List Oper} {o : Oper} {a : Act} {w : World} {Q : Exit → Act → World → Prop} {C : World → Prop} {K : Act → Prop}
theorem reg_addr (x y : Operand) (ho : o.op = .indexAddr rgS x y) (B off n cap k : Nat) (hx : a.eval x = .slice (some ⟨B, off, none⟩) n cap) (hy : a.eval y = .int .i64 k) (hk : k < n) (w : World) : (execOp a.eval o).run Try.prog w = .ok (.value (.pointer (some ⟨B, off + 2 * k, none⟩))) w := by
  have h0 : (k : Int) < n := by omega
  have hs := regSize_run w
  unfold execOp
  simp only [ho, hx, hy]
  simp [go_sem, Try.underlying22, h0, hs, addr_add, Nat.mul_comm]
theorem wpList_reg_elem (hgd : o.guard = none) (x y : Operand) (ho : o.op = .indexAddr rgS x y) (B off n cap k : Nat) (hx : a.eval x = .slice (some ⟨B, off, none⟩) n cap) (hy : a.eval y = .int .i64 k) (hk : k < n) (h : wpList Try.prog ops Q rest (a.put o.dst (.pointer (some ⟨B, off + 2 * k, none⟩))) w) : wpList Try.prog ops Q (o :: rest) a w :=
  wpList_plain hgd fun K hK => by
    unfold Oper.wp
    rw [reg_addr x y ho B off n cap k hx hy hk w]
    exact hK _ _ h
theorem gives_reg_elem (x y : Operand) (ho : o.op = .indexAddr rgS x y) (B off n cap k : Nat) (hx : a.eval x = .slice (some ⟨B, off, none⟩) n cap) (hy : a.eval y = .int .i64 k) (hk' : k < n) (hk : K (a.put o.dst (.pointer (some ⟨B, off + 2 * k, none⟩)))) : ∃ v, Gives Try.prog C o a v ∧ K (a.put o.dst v) :=
  ⟨_, fun w _ => reg_addr x y ho B off n cap k hx hy hk' w, hk⟩
theorem wpList_reg_load (hgd : o.guard = none) (x : Operand) (ho : o.op = .load rgT x) (B off : Nat) (hx : a.eval x = .pointer (some ⟨B, off, none⟩)) (u c : Int) (hc : w.rangeAt B off (regC (u, c))) (h : wpList Try.prog ops Q rest (a.put o.dst (.agg #[.int .i64 u, .int .i64 c])) w) : wpList Try.prog ops Q (o :: rest) a w :=
  wpList_load_mid hgd _ x ho B off hx (regC (u, c)) _ hc Try.underlying39 rfl regSize h
end
end Go.Proofs.Ytfnkdmdcjliebaa
