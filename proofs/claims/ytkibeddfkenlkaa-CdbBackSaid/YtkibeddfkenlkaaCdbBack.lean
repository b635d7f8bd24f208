/- CdbBack: a command comes back from its bytes, and no other bytes are decoded to it. No condition but the arguments' own forms. -/
import Derived.Test.YtkibeddfkenlkaaCbBk
import Derived.Test.YtkibeddfkenlkaaCbOpen
namespace Go.Proofs.Ytkibeddfkenlkaa
open Go.ChangeShapes Go.WideShapes Go.ChangeAt Go.RowKit
namespace cdbBack
set_option linter.unusedVariables false
set_option linter.unusedSimpArgs false
theorem own : ownKnob Try.prog.godebug = none := by kernel_rfl
theorem Same_self {W : World} {q p : Option Addr} {n c d : Nat} {x : CmdOf} {g : Nat → Nat} (hg : ∀ j, j < n → g j < 256) (hq : BytesAt W q n g) (hp : BytesAt W p n g) : Calls Try.prog 20 #[.agg (cmA q n c x), .agg (cmA p n d x)] W fun e w' => e = .returned (.bool true) ∧ Below W.heap.size W w' := by
  have h := Same_cm (c := c) (d := d) (x := x) (y := x) hg hg hq hp
  rw [sameB_iff.2 ⟨rfl, by simp⟩] at h
  exact h
attribute [local irreducible] cmA allC bytC lenC bytesN numsC cat mk zeroK checkN goodC isC rawC rawN dataF exG extF sameB
attribute [local go_sem] Oper.semAt_some
set_option maxRecDepth 100000 in
set_option maxHeartbeats 16000000 in
theorem walk {w : World} (q : Option Addr) (n c : Nat) (g : Nat → Nat) (x : CmdOf) (hok : x.ok) (hg : ∀ i, i < n → g i < 256) (hq : BytesAt w q n g) (hnc : n ≤ c) (hc : c ≤ maxLen) (p : Option Addr) (m d : Nat) (gb : Nat → Nat) (hgb : ∀ i, i < m → gb i < 256) (hp : BytesAt w p m gb) (hmd : m ≤ d) (hd : d ≤ maxLen) : Calls Try.prog 5 #[.agg (cmA q n c x), .slice p m d] w fun e w' => e = .returned (.bool true) ∧ Below w.heap.size w w' := by
  have HQ := Lib.hid (fun (W : World) (hb : Below w.heap.size w W) => hq.below hb)
  have HB := Lib.hid (fun (W : World) (hb : Below w.heap.size w W) => hp.below hb)
  have HG := Lib.hid hg
  have HGB := Lib.hid hgb
  have HMC := Lib.hid hmd
  have HOK := Lib.hid hok
  have EX := Lib.hid (fun W => Encode_ex W)
  clear hg hgb hnc hc hq hp hmd hd hok
  by_cases hl : (16384 : Int) < (n : Int)
  · have f1 : decide ((16384 : Int) < (n : Int)) = true := by simp [hl]
    have f2 : decide (16384 < n) = true := by simp; omega
    clear hl HQ
    go_enter Try.func5, Try.ntmps5
    go_wp2_with (first
      | (with_reducible show wpList _ _ _ (⟨some 2, Op.box cmT _, _, _, _, none⟩ :: _) _ _
         refine wpList_boxA_of rfl _ rfl (cmA q n c x) rfl ?_
         intro w1 x1 l1 s1
         have P1 := Lib.hid (show LwS w [(w.heap.size, cmA q n c x)] w1 from ⟨fun {i y} hi => by rcases i with _ | i; (obtain rfl : (w.heap.size, cmA q n c x) = y := by simpa using hi); exact x1; simp at hi, l1⟩)
         clear x1 l1 s1)
      | (go_at_call 9
         refine (example_any _).mono ?_; rintro e w2 ⟨rfl, l2⟩
         have P2 := Lib.hid (P1.out.mono l2)
         clear l2 P1)
      | (go_at_call 8
         refine (EX.out _).mono ?_; rintro e w3 ⟨D1, C1, rfl, b3, l3⟩
         have P3 := Lib.hid (P2.out.mono l3)
         clear b3 l3 P2 EX)
      | (with_reducible show wpList _ _ _ (⟨some 27, Op.load cmT _, _, _, _, _⟩ :: _) _ _
         refine wpList_boxA_loadw rowCm _ rfl rfl w.heap.size (cmA q n c x) (cmA_size _ _ _ _) rfl (P3.out.box (i := 0) rfl) ?_)
      | (go_at_call 10
         refine large_any.mono ?_; rintro e w4 ⟨rfl, l4⟩
         have P4 := Lib.hid (P3.out.mono l4)
         clear l4 P3))
    go_ret
    exact ⟨rfl, P4.out.low⟩
  have f1 : decide ((16384 : Int) < (n : Int)) = false := by simpa using hl
  have f2 : decide (16384 < n) = false := by simp; omega
  clear hl
  by_cases hl : (16384 : Int) < (m : Int)
  · have f3 : decide ((16384 : Int) < (m : Int)) = true := by simp [hl]
    have f4 : decide (16384 < m) = true := by simp; omega
    clear hl HQ
    go_enter Try.func5, Try.ntmps5
    go_wp2_with (first
      | (with_reducible show wpList _ _ _ (⟨some 2, Op.box cmT _, _, _, _, none⟩ :: _) _ _
         refine wpList_boxA_of rfl _ rfl (cmA q n c x) rfl ?_
         intro w1 x1 l1 s1
         have P1 := Lib.hid (show LwS w [(w.heap.size, cmA q n c x)] w1 from ⟨fun {i y} hi => by rcases i with _ | i; (obtain rfl : (w.heap.size, cmA q n c x) = y := by simpa using hi); exact x1; simp at hi, l1⟩)
         clear x1 l1 s1)
      | (go_at_call 9
         refine (example_any _).mono ?_; rintro e w2 ⟨rfl, l2⟩
         have P2 := Lib.hid (P1.out.mono l2)
         clear l2 P1)
      | (go_at_call 8
         refine (EX.out _).mono ?_; rintro e w3 ⟨D1, C1, rfl, b3, l3⟩
         have P3 := Lib.hid (P2.out.mono l3)
         clear b3 l3 P2 EX)
      | (with_reducible show wpList _ _ _ (⟨some 27, Op.load cmT _, _, _, _, _⟩ :: _) _ _
         refine wpList_boxA_loadw rowCm _ rfl rfl w.heap.size (cmA q n c x) (cmA_size _ _ _ _) rfl (P3.out.box (i := 0) rfl) ?_)
      | (go_at_call 10
         refine large_any.mono ?_; rintro e w4 ⟨rfl, l4⟩
         have P4 := Lib.hid (P3.out.mono l4)
         clear l4 P3))
    go_ret
    exact ⟨rfl, P4.out.low⟩
  have f3 : decide ((16384 : Int) < (m : Int)) = false := by simpa using hl
  have f4 : decide (16384 < m) = false := by simp; omega
  clear hl
  cases hgd : goodC x n with
  | false =>
    cases hi : isC m (extF m gb) with
    | false =>
      have E1 := Lib.hid (show ∀ (W : World), Calls Try.prog 8 #[.agg (cmA q n c x)] W fun e w' => e = .returned (.tuple #[.slice none 0 0, .iface 38 (.int .i64 11)]) ∧ Below W.heap.size W w' from fun W => Encode_no hgd)
      have HI := Lib.hid hi
      clear hi hgd
      go_enter Try.func5, Try.ntmps5
      go_wp2_with (first
        | (with_reducible show wpList _ _ _ (⟨some 2, Op.box cmT _, _, _, _, none⟩ :: _) _ _
           refine wpList_boxA_of rfl _ rfl (cmA q n c x) rfl ?_
           intro w1 x1 l1 s1
           have P1 := Lib.hid (show LwS w [(w.heap.size, cmA q n c x)] w1 from ⟨fun {i y} hi => by rcases i with _ | i; (obtain rfl : (w.heap.size, cmA q n c x) = y := by simpa using hi); exact x1; simp at hi, l1⟩)
           clear x1 l1 s1)
        | (go_at_call 9
           refine (example_any _).mono ?_; rintro e w2 ⟨rfl, l2⟩
           have P2 := Lib.hid (P1.out.mono l2)
           clear l2 P1)
        | (go_at_call 8
           refine (EX.out _).mono ?_; rintro e w3 ⟨D1, C1, rfl, b3, l3⟩
           have P3 := Lib.hid (P2.out.mono l3)
           clear b3 l3 P2 EX)
        | (with_reducible show wpList _ _ _ (⟨some 27, Op.load cmT _, _, _, _, _⟩ :: _) _ _
           refine wpList_boxA_loadw rowCm _ rfl rfl w.heap.size (cmA q n c x) (cmA_size _ _ _ _) rfl (P3.out.box (i := 0) rfl) ?_)
        | (go_at_call 10
           refine large_any.mono ?_; rintro e w4 ⟨rfl, l4⟩
           have P4 := Lib.hid (P3.out.mono l4)
           clear l4 P3)
        | (with_reducible show wpList _ _ _ (⟨some 35, Op.load cmT _, _, _, _, _⟩ :: _) _ _
           refine wpList_boxA_loadw rowCm _ rfl rfl w.heap.size (cmA q n c x) (cmA_size _ _ _ _) rfl (P4.out.box (i := 0) rfl) ?_)
        | (go_at_call 8
           refine (E1.out _).mono ?_; rintro e w5 ⟨rfl, l5⟩
           have P5 := Lib.hid (P4.out.mono l5)
           clear l5 P4 E1)
        | (go_at_call 17
           refine (Decode_not (HB.out _ P5.out.low).ext (extF_lt HGB.out) HMC.out HI.out).mono ?_; rintro e w6 ⟨rfl, l6⟩
           have P6 := Lib.hid (P5.out.mono l6)
           clear l6 P5)
        | (with_reducible show wpList _ _ _ (⟨some 9, Op.alloc cmT, _, _, _, _⟩ :: _) _ _
           refine wpList_boxA_new rowCm rfl rfl w6.heap.size rfl ?_
           intro w6a xx ll ss
           have XX := Lib.hid xx
           have LL := Lib.hid ll
           clear xx ll ss)
        | (with_reducible show wpList _ _ _ (⟨_, Op.store cmT (.tmp 9) _, _, _, _, none⟩ :: _) _ _
           refine wpList_boxA_put rowCm rfl _ _ rfl rfl w6.heap.size (cmA none 0 0 zeroCm) _ (cmA_size _ _ _ _) (cmA_one _ _ _ _) (cmA_size _ _ _ _) rfl rfl XX.out ?_
           intro w7 xx kk ss
           have bb := low_put LL.out (Nat.le_refl _) kk
           have P6b := Lib.hid (P6.out.add rfl LL.out xx kk)
           clear xx kk ss bb XX LL P6))
      go_ret
      exact ⟨rfl, P6b.out.low⟩

    | true =>
      have E1 := Lib.hid (show ∀ (W : World), Calls Try.prog 8 #[.agg (cmA q n c x)] W fun e w' => e = .returned (.tuple #[.slice none 0 0, .iface 38 (.int .i64 11)]) ∧ Below W.heap.size W w' from fun W => Encode_no hgd)
      have HI := Lib.hid hi
      have hip := isC_parts.1 hi
      have HGR := Lib.hid hip.2.2.1
      have HEQ := Lib.hid (show decide (mk (lenC (rawC (extF m gb)) + rawN (extF m gb) m) (allC (rawC (extF m gb)) (dataF (extF m gb))) = mk m gb) = true by
        rw [hip.2.2.2]; exact decide_eq_true (mk_ext fun j hj => by unfold extF; rw [if_pos hj]))
      have HDR := Lib.hid (show ∀ j, j < rawN (extF m gb) m → dataF (extF m gb) j < 256 from fun j _ => by unfold dataF; exact extF_lt HGB.out _)
      have HAR := Lib.hid (show ∀ j, j < lenC (rawC (extF m gb)) + rawN (extF m gb) m → allC (rawC (extF m gb)) (dataF (extF m gb)) j < 256 from fun j hj => allC_lt HDR.out j hj)
      clear hip hi hgd
      go_enter Try.func5, Try.ntmps5
      go_wp2_with (first
        | (with_reducible show wpList _ _ _ (⟨some 2, Op.box cmT _, _, _, _, none⟩ :: _) _ _
           refine wpList_boxA_of rfl _ rfl (cmA q n c x) rfl ?_
           intro w1 x1 l1 s1
           have P1 := Lib.hid (show LwS w [(w.heap.size, cmA q n c x)] w1 from ⟨fun {i y} hi => by rcases i with _ | i; (obtain rfl : (w.heap.size, cmA q n c x) = y := by simpa using hi); exact x1; simp at hi, l1⟩)
           clear x1 l1 s1)
        | (go_at_call 9
           refine (example_any _).mono ?_; rintro e w2 ⟨rfl, l2⟩
           have P2 := Lib.hid (P1.out.mono l2)
           clear l2 P1)
        | (go_at_call 8
           refine (EX.out _).mono ?_; rintro e w3 ⟨D1, C1, rfl, b3, l3⟩
           have P3 := Lib.hid (P2.out.mono l3)
           clear b3 l3 P2 EX)
        | (with_reducible show wpList _ _ _ (⟨some 27, Op.load cmT _, _, _, _, _⟩ :: _) _ _
           refine wpList_boxA_loadw rowCm _ rfl rfl w.heap.size (cmA q n c x) (cmA_size _ _ _ _) rfl (P3.out.box (i := 0) rfl) ?_)
        | (go_at_call 10
           refine large_any.mono ?_; rintro e w4 ⟨rfl, l4⟩
           have P4 := Lib.hid (P3.out.mono l4)
           clear l4 P3)
        | (with_reducible show wpList _ _ _ (⟨some 35, Op.load cmT _, _, _, _, _⟩ :: _) _ _
           refine wpList_boxA_loadw rowCm _ rfl rfl w.heap.size (cmA q n c x) (cmA_size _ _ _ _) rfl (P4.out.box (i := 0) rfl) ?_)
        | (go_at_call 8
           refine (E1.out _).mono ?_; rintro e w5 ⟨rfl, l5⟩
           have P5 := Lib.hid (P4.out.mono l5)
           clear l5 P4 E1)
        | (go_at_call 17
           refine (Decode_yes (HB.out _ P5.out.low).ext (extF_lt HGB.out) HMC.out HI.out).mono ?_; rintro e w6 ⟨q6, rfl, d6, l6⟩
           have P6 := Lib.hid (P5.out.mono l6)
           have B6 := Lib.hid d6.bytes
           clear d6 l6 P5)
        | (with_reducible show wpList _ _ _ (⟨some 9, Op.alloc cmT, _, _, _, _⟩ :: _) _ _
           refine wpList_boxA_new rowCm rfl rfl w6.heap.size rfl ?_
           intro w6a xx ll ss
           have XX := Lib.hid xx
           have LL := Lib.hid ll
           clear xx ll ss)
        | (with_reducible show wpList _ _ _ (⟨_, Op.store cmT (.tmp 9) _, _, _, _, none⟩ :: _) _ _
           refine wpList_boxA_put rowCm rfl _ _ rfl rfl w6.heap.size (cmA q6 (rawN (extF m gb) m) (rawN (extF m gb) m) (rawC (extF m gb))) _ (cmA_size _ _ _ _) (cmA_one _ _ _ _) (cmA_size _ _ _ _) rfl rfl XX.out ?_
           intro w7 xx kk ss
           have bb := low_put LL.out (Nat.le_refl _) kk
           have P6b := Lib.hid (P6.out.add rfl LL.out xx kk)
           have B6b := Lib.hid (B6.out.below bb)
           clear xx kk ss bb XX LL P6 B6)
        | (with_reducible show wpList _ _ _ (⟨some 47, Op.load cmT _, _, _, _, _⟩ :: _) _ _
           refine wpList_boxA_loadw rowCm _ rfl rfl w6.heap.size (cmA q6 (rawN (extF m gb) m) (rawN (extF m gb) m) (rawC (extF m gb))) (cmA_size _ _ _ _) rfl (P6b.out.box (i := 0) rfl) ?_)
        | (go_at_call 8
           refine (Encode_ok B6b.out HGR.out).mono ?_; rintro e w8 ⟨DY, CY, FY, rfl, b8, f8, c8, d8, l8⟩
           have P8 := Lib.hid (P6b.out.mono l8)
           have B8 := Lib.hid (B6b.out.below l8)
           have Y8 := Lib.hid (bytes_congr f8 (b8.first c8))
           clear b8 f8 c8 d8 l8 P6b B6b)
        | (go_at_call 13
           refine (Same_any (some ⟨DY, 0, none⟩) (lenC (rawC (extF m gb)) + (rawN (extF m gb) m)) CY p m d (allC (rawC (extF m gb)) (dataF (extF m gb))) gb HAR.out HGB.out _ Y8.out (HB.out _ P8.out.low)).mono ?_; rintro e w9 ⟨rfl, rfl⟩
           rw [HEQ.out]
           clear Y8))
      go_ret
      exact ⟨rfl, P8.out.low⟩

  | true =>
    cases hi : isC m (extF m gb) with
    | false =>
      have E1 := Lib.hid (fun (W : World) (hb : Below w.heap.size w W) => Encode_ok (c := c) (HQ.out W hb) hgd)
      have HRX := Lib.hid (show rawC (allC x (extF n g)) = x ∧ rawN (allC x (extF n g)) (lenC x + n) = n ∧ ∀ j, j < n → dataF (allC x (extF n g)) j = g j from by
        obtain ⟨r1, r2, r3⟩ := raw_all (g := extF n g) (good_iff.1 hgd) HOK.out
        exact ⟨r1, r2, fun j hj => (r3 j hj).trans (by unfold extF; rw [if_pos hj])⟩)
      have HIX := Lib.hid (show isC (lenC x + n) (allC x (extF n g)) = true from isC_all (good_iff.1 hgd) HOK.out)
      have HI := Lib.hid hi
      clear hi hgd
      go_enter Try.func5, Try.ntmps5
      go_wp2_with (first
        | (with_reducible show wpList _ _ _ (⟨some 2, Op.box cmT _, _, _, _, none⟩ :: _) _ _
           refine wpList_boxA_of rfl _ rfl (cmA q n c x) rfl ?_
           intro w1 x1 l1 s1
           have P1 := Lib.hid (show LwS w [(w.heap.size, cmA q n c x)] w1 from ⟨fun {i y} hi => by rcases i with _ | i; (obtain rfl : (w.heap.size, cmA q n c x) = y := by simpa using hi); exact x1; simp at hi, l1⟩)
           clear x1 l1 s1)
        | (go_at_call 9
           refine (example_any _).mono ?_; rintro e w2 ⟨rfl, l2⟩
           have P2 := Lib.hid (P1.out.mono l2)
           clear l2 P1)
        | (go_at_call 8
           refine (EX.out _).mono ?_; rintro e w3 ⟨D1, C1, rfl, b3, l3⟩
           have P3 := Lib.hid (P2.out.mono l3)
           clear b3 l3 P2 EX)
        | (with_reducible show wpList _ _ _ (⟨some 27, Op.load cmT _, _, _, _, _⟩ :: _) _ _
           refine wpList_boxA_loadw rowCm _ rfl rfl w.heap.size (cmA q n c x) (cmA_size _ _ _ _) rfl (P3.out.box (i := 0) rfl) ?_)
        | (go_at_call 10
           refine large_any.mono ?_; rintro e w4 ⟨rfl, l4⟩
           have P4 := Lib.hid (P3.out.mono l4)
           clear l4 P3)
        | (with_reducible show wpList _ _ _ (⟨some 35, Op.load cmT _, _, _, _, _⟩ :: _) _ _
           refine wpList_boxA_loadw rowCm _ rfl rfl w.heap.size (cmA q n c x) (cmA_size _ _ _ _) rfl (P4.out.box (i := 0) rfl) ?_)
        | (go_at_call 8
           refine (E1.out _ P4.out.low).mono ?_; rintro e w5 ⟨DX, CX, FX, rfl, b5, f5, c5, d5, l5⟩
           have P5 := Lib.hid (P4.out.mono l5)
           have X5 := Lib.hid (bytes_congr (g' := allC x (extF n g)) (fun j hj => (f5 j hj).trans (allC_ext hj).symm) (b5.first c5))
           have CXX := Lib.hid c5
           clear b5 f5 c5 d5 l5 P4 E1)
        | (go_at_call 17
           refine (Decode_not (HB.out _ P5.out.low).ext (extF_lt HGB.out) HMC.out HI.out).mono ?_; rintro e w6 ⟨rfl, l6⟩
           have P6 := Lib.hid (P5.out.mono l6)
           have X6 := Lib.hid (X5.out.below l6)
           clear l6 P5 X5)
        | (with_reducible show wpList _ _ _ (⟨some 9, Op.alloc cmT, _, _, _, _⟩ :: _) _ _
           refine wpList_boxA_new rowCm rfl rfl w6.heap.size rfl ?_
           intro w6a xx ll ss
           have XX := Lib.hid xx
           have LL := Lib.hid ll
           clear xx ll ss)
        | (with_reducible show wpList _ _ _ (⟨_, Op.store cmT (.tmp 9) _, _, _, _, none⟩ :: _) _ _
           refine wpList_boxA_put rowCm rfl _ _ rfl rfl w6.heap.size (cmA none 0 0 zeroCm) _ (cmA_size _ _ _ _) (cmA_one _ _ _ _) (cmA_size _ _ _ _) rfl rfl XX.out ?_
           intro w7 xx kk ss
           have bb := low_put LL.out (Nat.le_refl _) kk
           have P6b := Lib.hid (P6.out.add rfl LL.out xx kk)
           have X6b := Lib.hid (X6.out.below bb)
           clear xx kk ss bb XX LL P6 X6)
        | (go_at_call 17
           refine (Decode_yes X6b.out (allC_ext_lt HG.out) CXX.out HIX.out).mono ?_; rintro e wa ⟨qa, rfl, da, la⟩
           rw [HRX.out.1, HRX.out.2.1]
           rw [HRX.out.2.1] at da
           have PA := Lib.hid (P6b.out.mono la)
           have DA := Lib.hid da.bytes
           have XA := Lib.hid (X6b.out.below la)
           clear da la P6b X6b)
        | (with_reducible show wpList _ _ _ (⟨some 13, Op.alloc cmT, _, _, _, _⟩ :: _) _ _
           refine wpList_boxA_new rowCm rfl rfl wa.heap.size rfl ?_
           intro wb xx ll ss
           have XX := Lib.hid xx
           have LL := Lib.hid ll
           clear xx ll ss)
        | (with_reducible show wpList _ _ _ (⟨_, Op.store cmT (.tmp 13) _, _, _, _, none⟩ :: _) _ _
           refine wpList_boxA_put rowCm rfl _ _ rfl rfl wa.heap.size (cmA qa n n x) _ (cmA_size _ _ _ _) (cmA_one _ _ _ _) (cmA_size _ _ _ _) rfl rfl XX.out ?_
           intro wc xx kk ss
           have bb := low_put LL.out (Nat.le_refl _) kk
           have PAb := Lib.hid (PA.out.add rfl LL.out xx kk)
           have DAb := Lib.hid (DA.out.below bb)
           have XAb := Lib.hid (XA.out.below bb)
           clear xx kk ss bb XX LL PA DA XA)
        | (with_reducible show wpList _ _ _ (⟨some 69, Op.load cmT _, _, _, _, _⟩ :: _) _ _
           refine wpList_boxA_loadw rowCm _ rfl rfl wa.heap.size (cmA qa n n x) (cmA_size _ _ _ _) rfl (PAb.out.box (i := 0) rfl) ?_)
        | (with_reducible show wpList _ _ _ (⟨some 70, Op.load cmT _, _, _, _, _⟩ :: _) _ _
           refine wpList_boxA_loadw rowCm _ rfl rfl w.heap.size (cmA q n c x) (cmA_size _ _ _ _) rfl (PAb.out.box (i := 2) rfl) ?_)
        | (go_at_call 20
           refine (Same_self (c := n) (d := c) (x := x) HG.out (bytes_congr HRX.out.2.2 DAb.out) (HQ.out _ PAb.out.low)).mono ?_; rintro e wd ⟨rfl, ld⟩
           have PD := Lib.hid (PAb.out.mono ld)
           have XD := Lib.hid (XAb.out.below ld)
           clear ld PAb DAb XAb))
      go_ret
      exact ⟨rfl, PD.out.low⟩

    | true =>
      have E1 := Lib.hid (fun (W : World) (hb : Below w.heap.size w W) => Encode_ok (c := c) (HQ.out W hb) hgd)
      have HRX := Lib.hid (show rawC (allC x (extF n g)) = x ∧ rawN (allC x (extF n g)) (lenC x + n) = n ∧ ∀ j, j < n → dataF (allC x (extF n g)) j = g j from by
        obtain ⟨r1, r2, r3⟩ := raw_all (g := extF n g) (good_iff.1 hgd) HOK.out
        exact ⟨r1, r2, fun j hj => (r3 j hj).trans (by unfold extF; rw [if_pos hj])⟩)
      have HIX := Lib.hid (show isC (lenC x + n) (allC x (extF n g)) = true from isC_all (good_iff.1 hgd) HOK.out)
      have HI := Lib.hid hi
      have hip := isC_parts.1 hi
      have HGR := Lib.hid hip.2.2.1
      have HEQ := Lib.hid (show decide (mk (lenC (rawC (extF m gb)) + rawN (extF m gb) m) (allC (rawC (extF m gb)) (dataF (extF m gb))) = mk m gb) = true by
        rw [hip.2.2.2]; exact decide_eq_true (mk_ext fun j hj => by unfold extF; rw [if_pos hj]))
      have HDR := Lib.hid (show ∀ j, j < rawN (extF m gb) m → dataF (extF m gb) j < 256 from fun j _ => by unfold dataF; exact extF_lt HGB.out _)
      have HAR := Lib.hid (show ∀ j, j < lenC (rawC (extF m gb)) + rawN (extF m gb) m → allC (rawC (extF m gb)) (dataF (extF m gb)) j < 256 from fun j hj => allC_lt HDR.out j hj)
      have HBS := Lib.hid (back_same (g := g) (gb := gb) (good_iff.1 hgd) HOK.out hi)
      have HXM := Lib.hid (show decide (mk (lenC x + n) (allC x (extF n g)) = mk m gb) = decide (mk (lenC x + n) (allC x g) = mk m gb) by rw [mk_ext (fun j hj => allC_ext hj)])
      clear hip hi hgd
      go_enter Try.func5, Try.ntmps5
      go_wp2_with (first
        | (with_reducible show wpList _ _ _ (⟨some 2, Op.box cmT _, _, _, _, none⟩ :: _) _ _
           refine wpList_boxA_of rfl _ rfl (cmA q n c x) rfl ?_
           intro w1 x1 l1 s1
           have P1 := Lib.hid (show LwS w [(w.heap.size, cmA q n c x)] w1 from ⟨fun {i y} hi => by rcases i with _ | i; (obtain rfl : (w.heap.size, cmA q n c x) = y := by simpa using hi); exact x1; simp at hi, l1⟩)
           clear x1 l1 s1)
        | (go_at_call 9
           refine (example_any _).mono ?_; rintro e w2 ⟨rfl, l2⟩
           have P2 := Lib.hid (P1.out.mono l2)
           clear l2 P1)
        | (go_at_call 8
           refine (EX.out _).mono ?_; rintro e w3 ⟨D1, C1, rfl, b3, l3⟩
           have P3 := Lib.hid (P2.out.mono l3)
           clear b3 l3 P2 EX)
        | (with_reducible show wpList _ _ _ (⟨some 27, Op.load cmT _, _, _, _, _⟩ :: _) _ _
           refine wpList_boxA_loadw rowCm _ rfl rfl w.heap.size (cmA q n c x) (cmA_size _ _ _ _) rfl (P3.out.box (i := 0) rfl) ?_)
        | (go_at_call 10
           refine large_any.mono ?_; rintro e w4 ⟨rfl, l4⟩
           have P4 := Lib.hid (P3.out.mono l4)
           clear l4 P3)
        | (with_reducible show wpList _ _ _ (⟨some 35, Op.load cmT _, _, _, _, _⟩ :: _) _ _
           refine wpList_boxA_loadw rowCm _ rfl rfl w.heap.size (cmA q n c x) (cmA_size _ _ _ _) rfl (P4.out.box (i := 0) rfl) ?_)
        | (go_at_call 8
           refine (E1.out _ P4.out.low).mono ?_; rintro e w5 ⟨DX, CX, FX, rfl, b5, f5, c5, d5, l5⟩
           have P5 := Lib.hid (P4.out.mono l5)
           have X5 := Lib.hid (bytes_congr (g' := allC x (extF n g)) (fun j hj => (f5 j hj).trans (allC_ext hj).symm) (b5.first c5))
           have CXX := Lib.hid c5
           clear b5 f5 c5 d5 l5 P4 E1)
        | (go_at_call 17
           refine (Decode_yes (HB.out _ P5.out.low).ext (extF_lt HGB.out) HMC.out HI.out).mono ?_; rintro e w6 ⟨q6, rfl, d6, l6⟩
           have P6 := Lib.hid (P5.out.mono l6)
           have B6 := Lib.hid d6.bytes
           have X6 := Lib.hid (X5.out.below l6)
           clear d6 l6 P5 X5)
        | (with_reducible show wpList _ _ _ (⟨some 9, Op.alloc cmT, _, _, _, _⟩ :: _) _ _
           refine wpList_boxA_new rowCm rfl rfl w6.heap.size rfl ?_
           intro w6a xx ll ss
           have XX := Lib.hid xx
           have LL := Lib.hid ll
           clear xx ll ss)
        | (with_reducible show wpList _ _ _ (⟨_, Op.store cmT (.tmp 9) _, _, _, _, none⟩ :: _) _ _
           refine wpList_boxA_put rowCm rfl _ _ rfl rfl w6.heap.size (cmA q6 (rawN (extF m gb) m) (rawN (extF m gb) m) (rawC (extF m gb))) _ (cmA_size _ _ _ _) (cmA_one _ _ _ _) (cmA_size _ _ _ _) rfl rfl XX.out ?_
           intro w7 xx kk ss
           have bb := low_put LL.out (Nat.le_refl _) kk
           have P6b := Lib.hid (P6.out.add rfl LL.out xx kk)
           have B6b := Lib.hid (B6.out.below bb)
           have X6b := Lib.hid (X6.out.below bb)
           clear xx kk ss bb XX LL P6 B6 X6)
        | (with_reducible show wpList _ _ _ (⟨some 47, Op.load cmT _, _, _, _, _⟩ :: _) _ _
           refine wpList_boxA_loadw rowCm _ rfl rfl w6.heap.size (cmA q6 (rawN (extF m gb) m) (rawN (extF m gb) m) (rawC (extF m gb))) (cmA_size _ _ _ _) rfl (P6b.out.box (i := 0) rfl) ?_)
        | (go_at_call 8
           refine (Encode_ok B6b.out HGR.out).mono ?_; rintro e w8 ⟨DY, CY, FY, rfl, b8, f8, c8, d8, l8⟩
           have P8 := Lib.hid (P6b.out.mono l8)
           have B8 := Lib.hid (B6b.out.below l8)
           have Y8 := Lib.hid (bytes_congr f8 (b8.first c8))
           have X8 := Lib.hid (X6b.out.below l8)
           clear b8 f8 c8 d8 l8 P6b B6b X6b)
        | (go_at_call 13
           refine (Same_any (some ⟨DY, 0, none⟩) (lenC (rawC (extF m gb)) + (rawN (extF m gb) m)) CY p m d (allC (rawC (extF m gb)) (dataF (extF m gb))) gb HAR.out HGB.out _ Y8.out (HB.out _ P8.out.low)).mono ?_; rintro e w9 ⟨rfl, rfl⟩
           rw [HEQ.out]
           clear Y8)
        | (go_at_call 17
           refine (Decode_yes X8.out (allC_ext_lt HG.out) CXX.out HIX.out).mono ?_; rintro e wa ⟨qa, rfl, da, la⟩
           rw [HRX.out.1, HRX.out.2.1]
           rw [HRX.out.2.1] at da
           have PA := Lib.hid (P8.out.mono la)
           have DA := Lib.hid da.bytes
           have XA := Lib.hid (X8.out.below la)
           have BA := Lib.hid (B8.out.below la)
           clear da la P8 X8 B8)
        | (with_reducible show wpList _ _ _ (⟨some 13, Op.alloc cmT, _, _, _, _⟩ :: _) _ _
           refine wpList_boxA_new rowCm rfl rfl wa.heap.size rfl ?_
           intro wb xx ll ss
           have XX := Lib.hid xx
           have LL := Lib.hid ll
           clear xx ll ss)
        | (with_reducible show wpList _ _ _ (⟨_, Op.store cmT (.tmp 13) _, _, _, _, none⟩ :: _) _ _
           refine wpList_boxA_put rowCm rfl _ _ rfl rfl wa.heap.size (cmA qa n n x) _ (cmA_size _ _ _ _) (cmA_one _ _ _ _) (cmA_size _ _ _ _) rfl rfl XX.out ?_
           intro wc xx kk ss
           have bb := low_put LL.out (Nat.le_refl _) kk
           have PAb := Lib.hid (PA.out.add rfl LL.out xx kk)
           have DAb := Lib.hid (DA.out.below bb)
           have XAb := Lib.hid (XA.out.below bb)
           have BAb := Lib.hid (BA.out.below bb)
           clear xx kk ss bb XX LL PA DA XA BA)
        | (with_reducible show wpList _ _ _ (⟨some 69, Op.load cmT _, _, _, _, _⟩ :: _) _ _
           refine wpList_boxA_loadw rowCm _ rfl rfl wa.heap.size (cmA qa n n x) (cmA_size _ _ _ _) rfl (PAb.out.box (i := 0) rfl) ?_)
        | (with_reducible show wpList _ _ _ (⟨some 70, Op.load cmT _, _, _, _, _⟩ :: _) _ _
           refine wpList_boxA_loadw rowCm _ rfl rfl w.heap.size (cmA q n c x) (cmA_size _ _ _ _) rfl (PAb.out.box (i := 2) rfl) ?_)
        | (go_at_call 20
           refine (Same_self (c := n) (d := c) (x := x) HG.out (bytes_congr HRX.out.2.2 DAb.out) (HQ.out _ PAb.out.low)).mono ?_; rintro e wd ⟨rfl, ld⟩
           have PD := Lib.hid (PAb.out.mono ld)
           have XD := Lib.hid (XAb.out.below ld)
           have BD := Lib.hid (BAb.out.below ld)
           clear ld PAb DAb XAb BAb)
        | (with_reducible show wpList _ _ _ (⟨some 77, Op.load cmT _, _, _, _, _⟩ :: _) _ _
           refine wpList_boxA_loadw rowCm _ rfl rfl w6.heap.size (cmA q6 (rawN (extF m gb) m) (rawN (extF m gb) m) (rawC (extF m gb))) (cmA_size _ _ _ _) rfl (PD.out.box (i := 1) rfl) ?_)
        | (with_reducible show wpList _ _ _ (⟨some 78, Op.load cmT _, _, _, _, _⟩ :: _) _ _
           refine wpList_boxA_loadw rowCm _ rfl rfl w.heap.size (cmA q n c x) (cmA_size _ _ _ _) rfl (PD.out.box (i := 2) rfl) ?_)
        | (go_at_call 20
           refine (Same_cm (c := (rawN (extF m gb) m)) (d := c) (x := rawC (extF m gb)) (y := x) HDR.out HG.out BD.out (HQ.out _ PD.out.low)).mono ?_; rintro e we ⟨rfl, le⟩
           rw [HBS.out]
           have PE := Lib.hid (PD.out.mono le)
           have XE := Lib.hid (XD.out.below le)
           clear le PD XD BD)
        | (go_at_call 13
           refine (Same_any (some ⟨DX, 0, none⟩) (lenC x + n) CX p m d (allC x (extF n g)) gb (fun j _ => allC_ext_lt HG.out j) HGB.out _ XE.out (HB.out _ PE.out.low)).mono ?_; rintro e wf ⟨rfl, rfl⟩
           rw [HXM.out]
           generalize decide (mk (lenC x + n) (allC x g) = mk m gb) = vb at *
           clear XE))
      go_ret
      exact ⟨by first | rfl | (simp; done), PE.out.low⟩

theorem laidOut : laidOutB Try.prog = true := by kernel_rfl
set_option maxRecDepth 100000 in
theorem lifted (os : Os) (started : os.Started) (H : Type) (enc : TypeId × Value → H) :
    ReturnsInHanded {} Try.checked os 5 .any (Rows.cdbBackSpec.pre6 enc Try.prog Try.f5 Rows.cdbBackRow.domain false) (Rows.cdbBackSpec.post enc Try.prog Try.f5 false true false false) := by
  refine returnsInHanded_of_change (C := Try.checked) own started (by kernel_rfl) Try.func5
    (ChangeSpec.witness6 (enc := enc) (C := Try.checked) false ⟨#[], #[.agg #[.int .i64 0, .int .i64 0, .int .i64 0, .int .i64 0, .slice none 0 0, .int .i64 0, .int .i64 0, .int .i64 0, .int .i64 0, .int .i64 0, .bool false], .slice none 0 0], []⟩ 8 (by kernel_rfl) (by kernel_rfl) (by kernel_rfl) (by kernel_rfl)) ?_
  intro W base args ds gs before hval0 hW hcnd _
  have hval : ∀ (j : Nat) t v, Try.f5.params[j]? = some t → args[j]? = some v → Value.okWide Try.prog W .any base t v := hval0
  have hW' := hW
  obtain ⟨p, q, hA0, hV, rfl, hfz, hnd⟩ := hW
  have hA : DataW.TrodAll enc Try.prog W 0 (fun _ => true) true Try.f5.params.toList args.toList ds p := hA0
  rw [Try.params5] at hA hval
  obtain ⟨v0, vs0, d0, ds0, p0, q0, hargs, rfl, rfl, h0, r0⟩ := trodAll_cons hA
  obtain ⟨v1, vs1, d1, ds1, p1, q1, rfl, rfl, rfl, h1, r1⟩ := trodAll_cons r0
  obtain ⟨rfl, rfl, rfl⟩ := trodAll_nil r1
  obtain rfl : args = #[v0, v1] := by cases args; simp_all
  obtain ⟨rfl, rfl⟩ := trodVars_none hV
  have k0 := h0
  have lt0 : ∀ x ∈ p0, x.block < W.heap.size := by obtain ⟨m, hm⟩ := k0; exact DataW.trod_lt m _ _ _ hm
  obtain ⟨q0, n0, c0, g0, x0, rfl, w0, u0, y0, b0, m0⟩ := open_cmd (hval 0 26 v0 rfl rfl) h0
  have k1 := h1
  have lt1 : ∀ x ∈ p1, x.block < W.heap.size := by obtain ⟨m, hm⟩ := k1; exact DataW.trod_lt m _ _ _ hm
  obtain ⟨q1, n1, c1, a1, rfl, w1, y1, l1, m1⟩ := open_byteslice (hval 1 22 v1 rfl rfl) h1
  clear hA0 hval0
  refine (walk q0 n0 c0 g0 x0 w0 u0 y0 b0 m0 q1 n1 c1 a1 w1 y1 l1 m1).mono fun e W' ⟨he, bel⟩ => ?_
  subst he
  exact ⟨_, rfl, _, _, _, [], _, [], hW', trodAll_mk1 (shut_bool Try.underlying4 _), (trodAll_cons_mk (Below.trod laidOut (by kernel_rfl) (of_decide_eq_true (by kernel_rfl)) k0 bel lt0) (trodAll_cons_mk (Below.trod laidOut (by kernel_rfl) (of_decide_eq_true (by kernel_rfl)) k1 bel lt1) trodAll_mk0)), rfl, bel.frame _, fun h => by cases h⟩

theorem over : Rows.cdbBackRow.holds Try.pinned (OpenSpec.ofChange Rows.cdbBackSpec) :=
  OpenClaim.holds_of_wide 5 Try.f5 rfl rfl rfl rfl rfl rfl rfl ⟨rfl, rfl, rfl, rfl, rfl⟩ rfl rfl rfl rfl rfl (by kernel_rfl) Try.func5 (by kernel_rfl)
    (of_decide_eq_true (by kernel_rfl)) (by unfold Func.isWrapper; first | (rw [if_pos (by decide +kernel)]; kernel_rfl) | (rw [if_neg (by decide +kernel)]; exact ⟨rfl, rfl⟩))
    (fun os started H enc _ => lifted os started H enc)

theorem proved : Rows.CdbBackSaid := over
end cdbBack
end Go.Proofs.Ytkibeddfkenlkaa
