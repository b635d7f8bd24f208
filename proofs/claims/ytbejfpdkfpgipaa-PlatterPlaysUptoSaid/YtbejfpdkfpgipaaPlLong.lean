/- The contract of citadellaw09.long: a script that it doesn't call long has few calls, each of which keeps few sectors. Condition: the bulk of the calls is at most 2^20. -/
import Derived.Test.YtbejfpdkfpgipaaPlOps
import Derived.Deep.MidRow
namespace Go.Proofs.Ytbejfpdkfpgipaa
open Go.ChangeShapes Go.WideShapes Go.ChangeAt Go.RowKit
set_option linter.unusedVariables false
def lenS (T : Nat → CallOf) (k : Nat) : Nat := sumN (fun i => 1 + (T i).kl.length / 8) k
theorem sumN_mono {f g : Nat → Nat} (h : ∀ i, f i ≤ g i) (n : Nat) : sumN f n ≤ sumN g n := by
  induction n with
  | zero => exact Nat.le_refl _
  | succ n ih => have := h n; show sumN f n + f n ≤ sumN g n + g n; omega
theorem sumN_at {f : Nat → Nat} {n i : Nat} (hi : i < n) : f i ≤ sumN f n := by
  have := sumN_le (f := f) (k := i + 1) (n := n) hi
  have h2 : sumN f (i + 1) = sumN f i + f i := rfl
  omega
theorem lenS_bulk (T : Nat → CallOf) {n k : Nat} (hk : k ≤ n) (h : sumN (fun i => 1 + (T i).bytes.n + (T i).kl.length) n ≤ 1048576) : lenS T k ≤ 1048576 :=
  Nat.le_trans (Nat.le_trans (sumN_mono (fun i => by have := Nat.div_le_self (T i).kl.length 8; show 1 + (T i).kl.length / 8 ≤ 1 + (T i).bytes.n + (T i).kl.length; omega) k) (sumN_le hk)) h
theorem lenS_few (T : Nat → CallOf) {n : Nat} (h : lenS T n ≤ 400) : n ≤ 400 ∧ ∀ i, i < n → (T i).kl.length ≤ 3300 := by
  constructor
  · have := sumN_mono (f := fun _ => 1) (g := fun i => 1 + (T i).kl.length / 8) (fun i => by omega) n
    rw [sumN_one] at this
    exact Nat.le_trans this h
  · intro i hi
    have : 1 + (T i).kl.length / 8 ≤ lenS T n := sumN_at (f := fun i => 1 + (T i).kl.length / 8) hi
    omega
section
variable {ops : Array Oper} {rest : List Oper} {o : Oper} {a : Act} {w : World} {Q : Exit → Act → World → Prop}
def opZero : Array Value := #[.int .i64 0, .int .i64 0, .int .i64 0, .slice none 0 0, .slice none 0 0]
theorem opZero_run (W : World) : (zeroValue 37).run Try.prog W = .ok (.agg opZero) W := by
  have h : (Try.prog.info? 37).bind (·.zero) = some (.agg opZero) := by kernel_rfl
  cases hq : Try.prog.info? 37 with
  | none => rw [hq] at h; simp at h
  | some i =>
    rw [hq] at h
    simp only [Option.bind_some] at h
    simp [zeroValue, typeInfo, hq, h]
theorem opSize (c : CallOf) : (Try.prog.info? 37).map (·.size) = some c.cells.length := by
  show _ = some 5
  kernel_rfl
theorem wpList_op_alloc (hw : Region.wanted o (yielded ops a.tmps) = true) (ho : o.op = .alloc 37) (h : wpList Try.prog ops Q rest (a.put o.dst (.pointer (some ⟨w.heap.size, 0, none⟩))) (w.alloc (.cells opZero 37))) : wpList Try.prog ops Q (o :: rest) a w :=
  wanted_step hw fun K hK => by
    have e := opZero_run w
    unfold Oper.wp execOp
    simp only [ho]
    simp [go_sem, e]
    exact hK _ _ h
theorem wpList_op_load (hgd : o.guard = none) (x : Operand) (ho : o.op = .load 37 x) (B off : Nat) (hx : a.eval x = .pointer (some ⟨B, off, none⟩)) (c : CallOf) (hc : w.rangeAt B off c.cells) (h : wpList Try.prog ops Q rest (a.put o.dst (.agg c.cells.toArray)) w) : wpList Try.prog ops Q (o :: rest) a w :=
  wpList_load_mid hgd _ x ho B off hx c.cells _ hc Try.underlying37 rfl (opSize c) h
theorem wpList_op_elem (hgd : o.guard = none) (x y : Operand) (ho : o.op = .indexAddr 22 x y) (B off n cap k : Nat) (hx : a.eval x = .slice (some ⟨B, off, none⟩) n cap) (hy : a.eval y = .int .i64 k) (hk : k < n) (h : wpList Try.prog ops Q rest (a.put o.dst (.pointer (some ⟨B, off + 5 * k, none⟩))) w) : wpList Try.prog ops Q (o :: rest) a w :=
  wpList_plain hgd fun K hK => by
    have h0 : (k : Int) < n := by omega
    have hi : (Try.prog.info? 37).map (·.size) = some 5 := by kernel_rfl
    cases hq : Try.prog.info? 37 with
    | none => simp [hq] at hi
    | some i =>
      have hs : i.size = 5 := by simpa [hq] using hi
      have hr : (execOp a.eval o).run Try.prog w = .ok (.value (.pointer (some ⟨B, off + 5 * k, none⟩))) w := by
        unfold execOp
        simp only [ho, hx, hy]
        simp [go_sem, Try.underlying22, h0, sizeOf, typeInfo, hq, hs, addr_add, Nat.mul_comm]
      unfold Oper.wp
      rw [hr]
      exact hK _ _ h
theorem CallOf.one (c : CallOf) : c.cells.toArray.all (·.oneCell') = true := by simp [CallOf.cells, Value.oneCell']
end
/-- A call in a box of its own. -/
def OpBox (W : World) (O : Nat) (c : CallOf) : Prop := W.heap[O]? = some (.cells c.cells.toArray 37 (0, 0))
theorem OpBox.new (W : World) (c : CallOf) : OpBox ((W.alloc (.cells opZero 37)).setRow W.heap.size c.cells.toArray) W.heap.size c := by
  exact setRow_heap _ _ _ _ _ (0, 0) (heap_alloc_new W (.cells opZero 37))
theorem OpBox.cell {W : World} {O : Nat} {c : CallOf} (h : OpBox W O c) (k : Nat) : W.cell? ⟨O, k, none⟩ = c.cells[k]? := (cell_of_row _ _ _ _ _ _ h).trans (by simp)
theorem OpBox.lt {W : World} {O : Nat} {c : CallOf} (h : OpBox W O c) : O < W.heap.size := (Array.getElem?_eq_some_iff.1 h).1
theorem CallsAt.range {W : World} {B off n k : Nat} {c : CallOf} (h : ∀ j, j < 5 → W.cell? ⟨B, off + (5 * k + j), none⟩ = c.cells[j]?) : W.rangeAt B (off + 5 * k) c.cells := fun j v hv => by
  have hj : j < 5 := by
    rcases Nat.lt_or_ge j 5 with e | e
    · exact e
    · rw [List.getElem?_eq_none (show c.cells.length ≤ j from e)] at hv; cases hv
  rw [Nat.add_assoc, h j hj]; exact hv
theorem op_box_below (W : World) (c : CallOf) : Below W.heap.size W ((W.alloc (.cells opZero 37)).setRow W.heap.size c.cells.toArray) :=
  below_setRow ((Below.refl _ W).alloc (Nat.le_refl _) _) (Nat.le_refl _) _
theorem len_wraps (l v s : Nat) (h : s = v + (1 + l / 8)) (hs : s ≤ 1048576) : wrap64 ((l : Int) / 8) = ((l / 8 : Nat) : Int) ∧ wrap64 (1 + ((l / 8 : Nat) : Int)) = ((1 + l / 8 : Nat) : Int) ∧ wrap64 ((v : Int) + ((1 + l / 8 : Nat) : Int)) = (s : Int) := by
  have a1 : l / 8 ≤ 1048576 := by omega
  have a2 : v + (1 + l / 8) ≤ 1048576 := by omega
  subst h
  generalize hq : l / 8 = q at *
  have a0 : (l : Int) / 8 = (q : Int) := by omega
  rw [a0]
  refine ⟨IntWalk.wrap64_in _ (by omega), ?_, ?_⟩
  · rw [IntWalk.wrap64_in _ (by omega)]; omega
  · rw [IntWalk.wrap64_in _ (by omega)]; omega
attribute [local irreducible] lenS
set_option maxRecDepth 100000 in
set_option maxHeartbeats 1000000 in
theorem long_ok (q : Option Addr) (n cap : Nat) (T : Nat → CallOf) (w : World) (h : CallsAt w q n T) (hb : sumN (fun i => 1 + (T i).bytes.n + (T i).kl.length) n ≤ 1048576) :
    Calls Try.prog 11 #[.slice q n cap] w fun e w' => e = .returned (.bool (decide ((400 : Int) < (lenS T n : Nat)))) ∧ Below w.heap.size w w' := by
  have HC := Lib.hid h
  have HB0 := Lib.hid (Below.refl w.heap.size w)
  have HL := Lib.hid (fun k (hk : k ≤ n) => lenS_bulk T hk hb)
  have L0 : lenS T 0 = 0 := by unfold lenS; rfl
  have HL0 := Lib.hid L0
  have HS := Lib.hid (fun k => show lenS T (k + 1) = lenS T k + (1 + (T k).kl.length / 8) by unfold lenS; rfl)
  have hn : n ≤ 1048576 := by
    have h1 := sumN_mono (f := fun _ => 1) (g := fun i => 1 + (T i).bytes.n + (T i).kl.length) (fun i => by omega) n
    rw [sumN_one] at h1
    omega
  have HN := Lib.hid hn
  clear h hb L0 hn
  go_enter Try.func11, Try.ntmps11
  go_wp2
  go_loopw [8, 3] (fun v8 v3 wr => ∃ k : Nat, k ≤ n ∧ v8 = .int .i64 k ∧ v3 = .int .i64 (lenS T k : Nat) ∧ Below w.heap.size w wr) (fun v8 _ _ => n - (intOf v8).toNat)
  case atStart => exact ⟨0, Nat.zero_le _, rfl, by rw [HL0.out]; rfl, HB0.out⟩
  case round =>
    obtain ⟨k, hk, rfl, rfl, hbl⟩ := hrel
    have HB := Lib.hid hbl
    clear hbl HB0
    by_cases hlt : k < n
    · rcases HC.out with he | ⟨B, o, rfl, hB, hc⟩
      · omega
      have HLT := Lib.hid hlt
      have f1 : (k : Int) < (n : Int) := by omega
      have f2 : (0 : Int) ≤ k := by omega
      have f3 : IntKind.i64.wrap ((k : Int) + 1) = ((k + 1 : Nat) : Int) := by have := HN.out; rw [IntWalk.i64_in _ (by omega)]; omega
      have hcl := (hc k hlt).1
      have HR := Lib.hid (CallsAt.range (n := n) (k := k) fun j hj => (HB.out.cell (p := ⟨B, o + (5 * k + j), none⟩) hB).trans (hcl j hj))
      have hS := HS.out k
      have HLK := Lib.hid (HL.out (k + 1) hlt)
      generalize hT : T k = c at *
      have HSK := Lib.hid hS
      generalize hv : lenS T k = v at *
      have ⟨w1, w2, w3⟩ := len_wraps c.kl.length v (lenS T (k + 1)) hS HLK.out
      have W1 := Lib.hid w1
      have W2 := Lib.hid w2
      have W3 := Lib.hid w3
      clear hcl hc hB hS w1 w2 w3
      have OB := Lib.hid (OpBox.new wr c)
      have BB := Lib.hid (HB.out.trans ((op_box_below wr c).mono HB.out.size))
      go_wp2_with (first
        | (refine wpList_op_elem rfl _ _ rfl B o n cap k rfl rfl HLT.out ?_)
        | (refine wpList_op_load rfl _ rfl B (o + 5 * k) rfl c HR.out ?_)
        | (refine wpList_op_alloc rfl rfl ?_)
        | (refine store_row_on rfl 37 _ _ rfl rfl wr.heap.size c.cells.toArray rfl rfl 37 opZero (heap_alloc_new _ _) (opSize c) rfl c.one ?_
           generalize hW : (wr.alloc (.cells opZero 37)).setRow wr.heap.size c.cells.toArray = wb at *
           have c4 : wb.cell? ⟨wr.heap.size, 4, none⟩ = some (.slice c.kq c.kl.length c.kc) := OB.out.cell 4))
      go_roundw
      case rel => exact ⟨k + 1, HLT.out, by go_num, by rw [W1.out, W2.out, W3.out], BB.out⟩
      case measure => have := HLT.out; simp [intOf]; omega
    · have f1 : ¬ (k : Int) < (n : Int) := by omega
      obtain rfl : k = n := by omega
      clear hlt hk
      go_wp2
      go_ret
      exact ⟨rfl, HB.out⟩
end Go.Proofs.Ytbejfpdkfpgipaa
