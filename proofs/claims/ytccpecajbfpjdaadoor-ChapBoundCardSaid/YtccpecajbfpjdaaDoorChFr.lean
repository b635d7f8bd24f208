/- The contract of citadelref16's Fresh. Condition: the number is an int. -/
import Derived.Test.YtccpecajbfpjdaaDoorChRef
namespace Go.Proofs.YtccpecajbfpjdaaDoor
open Go.ChangeShapes Go.WideShapes Go.ChangeAt Go.RowKit Go.Shelf
set_option linter.unusedVariables false
set_option linter.unusedSimpArgs false
/-- The number so many behind another. -/
def atN (b : Int) (i : Nat) : Int := IntKind.i64.wrap (b + i)
theorem atN_zero {b : Int} (h : okI b) : atN b 0 = b := by unfold atN; rw [IntWalk.i64_in _ ⟨by have := h.1; omega, by have := h.2; omega⟩]; omega
theorem atN_next (b : Int) (i : Nat) : IntKind.i64.wrap (atN b i + 1) = atN b (i + 1) := by
  unfold atN; simp only [IntKind.wrap_i64]; omega
theorem atN_in (b : Int) (i : Nat) : okI (atN b i) := by
  unfold atN okI; simp only [IntKind.wrap_i64]; omega
/-- The bytes of draws, one behind the other. -/
def freshT (seed b : Int) : Nat → Nat := fun j => drwD seed (atN b (j / 32)) (j % 32)
theorem freshT_lt (seed b : Int) (j : Nat) : freshT seed b j < 256 := drwD_lt _ _ _
theorem freshT_at (seed b : Int) (i : Nat) : ∀ j, j < 32 → drwD seed (atN b i) j = freshT seed b (32 * i + j) := fun j hj => by
  unfold freshT
  rw [show (32 * i + j) / 32 = i by omega, show (32 * i + j) % 32 = j by omega]
def lenV : Value → Nat | .slice _ n _ => n | _ => 0
section
variable {ops : Array Oper} {rest : List Oper} {o : Oper} {a : Act} {w : World} {Q : Exit → Act → World → Prop}
theorem wpList_uptoN (hw : Region.wanted o (yielded ops a.tmps) = true) (x y : Operand) (ho : o.op = .slice 22 x none (some y) none) (p : Option Addr) (n cap k : Nat) (hx : a.eval x = .slice p n cap) (hy : a.eval y = .int .i64 (k : Nat)) (hk : k ≤ cap)
    (h : wpList Tryd.prog ops Q rest (a.put o.dst (.slice p k cap)) w) : wpList Tryd.prog ops Q (o :: rest) a w :=
  wanted_step hw fun K hK => by
    have hr := run_upto p n cap k hk w
    unfold Oper.wp execOp
    simp only [ho, hx]
    simp [hy, hr]
    exact hK _ _ h
end
attribute [local irreducible] ansT ansD drwT drwD mk zeroK digF tagF numF atN freshT
attribute [local go_sem] Oper.semAt_some
set_option maxRecDepth 100000 in
set_option maxHeartbeats 1000000 in
theorem refFresh_ok {w : World} (seed b : Int) (hb : okI b) (m : Nat) (h1 : 1 ≤ m) (h2 : m ≤ 4096) : Calls Tryd.prog 19 #[.int .i64 seed, .int .i64 b, .int .i64 m] w fun e w' => ∃ p c, e = .returned (.tuple #[.slice p m c, .int .i64 (atN b ((m + 31) / 32))]) ∧ BytesAt w' p m (freshT seed b) ∧ Below w.heap.size w w' := by
  have f1 : decide ((m : Int) < 1) = false := by simp; omega
  have f2 : decide ((4096 : Int) < (m : Int)) = false := by simp; omega
  have f3 : decide (4096 < m) = false := by simp; omega
  have f4 : decide (m < 1) = false := by simp; omega
  obtain ⟨K, hK⟩ : ∃ K, K = (m + 31) / 32 := ⟨_, rfl⟩
  rw [← hK]
  have HK := Lib.hid (show m ≤ 32 * K ∧ 32 * K < m + 32 ∧ K ≤ 128 by omega)
  have HZ := Lib.hid (atN_zero hb)
  clear hK hb
  go_enter Tryd.func19, Tryd.ntmps19
  go_wp2
  go_loopw [8, 9] (fun v8 v9 wr => ∃ i : Nat, i ≤ K ∧ v9 = .int .i64 (atN b i) ∧ OwnS 5 1 wr w.heap.size wr.heap.size v8 (32 * i) (freshT seed b) ∧ Below w.heap.size w wr) (fun v8 _ _ => 32 * K - lenV v8)
  case atStart => exact ⟨0, Nat.zero_le _, by rw [HZ.out], OwnS.nil _ _ _ _ _ _, Below.refl _ _⟩
  case round =>
    obtain ⟨i, hi, rfl, ho, hb⟩ := hrel
    obtain ⟨p, c, rfl, hkc, hcm, hbt, hpb⟩ := ho.bytes (Nat.le_refl _)
    by_cases hlt : i < K
    · have f5 : decide (((32 * i : Nat) : Int) < (m : Int)) = true := by have := HK.out; simp; omega
      have f6 : decide (32 * i < m) = true := by have := HK.out; simp; omega
      have f7 : ((32 * i : Nat) : Int) < (m : Int) := by have := HK.out; omega
      have HO := Lib.hid ho
      have HB := Lib.hid hb
      have HLT := Lib.hid hlt
      have HN := Lib.hid (atN_next b i)
      have HF := Lib.hid (freshT_at seed b i)
      clear ho hb hlt hi hkc hcm hbt hpb HZ
      generalize atN b i = z at *
      have q1 := HN.out
      go_wp2_with (first
        | (go_at_call 16
           refine (refDraw_any seed z).mono ?_; rintro e w2 ⟨rfl, l2⟩
           have L2 := Lib.hid l2
           have O2 := Lib.hid (HO.out.later (Nat.le_refl _) l2)
           have S2 := Lib.hid (HO.out.row)
           clear l2)
        | (with_reducible show wpList _ _ _ (⟨some 10, Op.alloc 25, _, _, _, _⟩ :: _) _ _
           refine wpList_boxA_new rowSum rfl rfl _ rfl ?_
           intro w3 x3 l3 s3
           have X3 := Lib.hid x3
           have O3 := Lib.hid (O2.out.later (by exact L2.out.size) l3)
           have B3 := Lib.hid (HB.out.trans ((L2.out.trans (l3.mono L2.out.size)).mono HB.out.size))
           have L3 := Lib.hid (Nat.le_trans L2.out.size l3.size)
           have J3 := Lib.hid (show wr.heap.size ≤ w2.heap.size from L2.out.size)
           clear x3 l3 s3 O2 L2
           generalize w2.heap.size = J at *)
        | (with_reducible show wpList _ _ _ (⟨_, Op.store 25 _ _, _, _, _, none⟩ :: _) _ _
           refine wpList_boxA_put rowSum rfl _ _ rfl rfl J (cellsOf .u8 (mk 32 (drwD seed z))) (cellsOf .u8 (mk 32 zeroK)) (s32_size _) (s32_one _) (s32_size _) rfl rfl X3.out ?_
           intro w4 x4 k4 s4
           have X4 := Lib.hid x4
           have L4 := Lib.hid (k4.below (M := wr.heap.size) L3.out (fun j hj e => by have := J3.out; omega))
           have O4 := Lib.hid (O3.out.same (fun B hB hB2 => L4.out.block B hB2))
           have B4 := Lib.hid (B3.out.trans (L4.out.mono HB.out.size))
           clear x4 k4 s4 X3 O3 B3)
        | (refine wpList_arr_slice rfl 25 5 32 sumUnder rfl _ rfl J 0 rfl ?_)
        | (refine wpList_append_own_bytes rfl _ _ rfl w.heap.size wr.heap.size (32 * i) _ (freshT seed b) (drwD seed z) (some ⟨J, 0, none⟩) 32 32 rfl rfl O4.out (box_s32 X4.out) HF.out (by have := HK.out; have := HLT.out; omega) B4.out.size ?_
           intro v5 w5 o5 l5
           have O5 := Lib.hid o5
           have B5 := Lib.hid (B4.out.trans l5)
           clear o5 l5 O4 B4))
      go_roundw
      case rel => exact ⟨i + 1, HLT.out, rfl, by rw [show 32 * (i + 1) = 32 * i + 32 by omega]; exact O5.out, B5.out⟩
      case measure =>
        obtain ⟨p5, c5, rfl, -, -, -, -⟩ := O5.out.bytes (Nat.le_refl _)
        have := HLT.out
        simp [lenV]; omega
    · obtain rfl : i = K := by omega
      have f5 : decide (((32 * i : Nat) : Int) < (m : Int)) = false := by have := HK.out; simp; omega
      have f6 : decide (32 * i < m) = false := by have := HK.out; simp; omega
      have f7 : ¬ ((32 * i : Nat) : Int) < (m : Int) := by have := HK.out; omega
      have HC := Lib.hid (show m ≤ c by have := HK.out; omega)
      have HT := Lib.hid (hbt.upto (k := m) HK.out.1)
      have HB := Lib.hid hb
      clear ho hb hlt hi hkc hcm hbt hpb HZ
      go_wp2_with (first
        | (refine wpList_uptoN rfl _ _ rfl p (32 * i) c m rfl rfl HC.out ?_))
      go_ret2
      exact ⟨p, ⟨c, rfl⟩, HT.out, HB.out⟩
set_option maxRecDepth 100000 in
set_option maxHeartbeats 1000000 in
theorem refFresh_no {w : World} (seed b m : Int) (h : m < 1 ∨ 4096 < m) : Calls Tryd.prog 19 #[.int .i64 seed, .int .i64 b, .int .i64 m] w fun e w' => e = .returned (.tuple #[.slice none 0 0, .int .i64 b]) ∧ Below w.heap.size w w' := by
  by_cases h1 : m < 1
  · have f1 : decide (m < 1) = true := by simp [h1]
    go_enter Tryd.func19, Tryd.ntmps19
    go_wp2
    go_ret2
    exact ⟨rfl, Below.refl _ _⟩
  · have f1 : decide (m < 1) = false := by simp; omega
    have f2 : decide ((4096 : Int) < m) = true := by simp; omega
    go_enter Tryd.func19, Tryd.ntmps19
    go_wp2
    go_ret2
    exact ⟨rfl, Below.refl _ _⟩
end Go.Proofs.YtccpecajbfpjdaaDoor
