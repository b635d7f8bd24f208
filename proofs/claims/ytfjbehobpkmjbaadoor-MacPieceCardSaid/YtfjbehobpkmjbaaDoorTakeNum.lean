/- The numbers of one round of taking a schedule, as the code reckons them. Condition: the eight words are below 2^32. -/
import Derived.Test.YtfjbehobpkmjbaaDoorRotW
namespace Go.Proofs.YtfjbehobpkmjbaaDoor
open Go

theorem xorZ {a b : Nat} (ha : a < 4294967296) (hb : b < 4294967296) : bits .xor .u32 (a : Int) (b : Int) = ((a ^^^ b : Nat) : Int) := u32_xor_nat a b ha hb
theorem notZ {e : Nat} (he : e < 4294967296) : bits .xor .u32 (if IntKind.u32.signed = true then -1 else IntKind.u32.max) (e : Int) = ((4294967295 ^^^ e : Nat) : Int) := by
  have h : (if IntKind.u32.signed = true then (-1 : Int) else IntKind.u32.max) = ((4294967295 : Nat) : Int) := rfl
  rw [h]; exact xorZ (by omega) he
theorem take_nums (s : Nat → Nat) (hs : ∀ j, j < 8 → s j < 4294967296) (K W : Nat) :
    ∃ x1 E s1 p ne q c s2 s3 T1 x2 A p1 p2 p3 p4 m T2 : Nat,
      bits .xor .u32 (rrZ (s 4) 6) (rrZ (s 4) 11) = (x1 : Int) ∧ bits .xor .u32 (x1 : Int) (rrZ (s 4) 25) = (E : Int) ∧ IntKind.u32.wrap ((s 7 : Int) + E) = (s1 : Int) ∧
      bits .and .u32 (s 4 : Int) (s 5 : Int) = (p : Int) ∧ bits .xor .u32 (if IntKind.u32.signed = true then -1 else IntKind.u32.max) (s 4 : Int) = (ne : Int) ∧ bits .and .u32 (ne : Int) (s 6 : Int) = (q : Int) ∧ bits .xor .u32 (p : Int) (q : Int) = (c : Int) ∧
      IntKind.u32.wrap ((s1 : Int) + c) = (s2 : Int) ∧ IntKind.u32.wrap ((s2 : Int) + K) = (s3 : Int) ∧ IntKind.u32.wrap ((s3 : Int) + W) = (T1 : Int) ∧
      bits .xor .u32 (rrZ (s 0) 2) (rrZ (s 0) 13) = (x2 : Int) ∧ bits .xor .u32 (x2 : Int) (rrZ (s 0) 22) = (A : Int) ∧ bits .and .u32 (s 0 : Int) (s 1 : Int) = (p1 : Int) ∧ bits .and .u32 (s 0 : Int) (s 2 : Int) = (p2 : Int) ∧
      bits .xor .u32 (p1 : Int) (p2 : Int) = (p3 : Int) ∧ bits .and .u32 (s 1 : Int) (s 2 : Int) = (p4 : Int) ∧ bits .xor .u32 (p3 : Int) (p4 : Int) = (m : Int) ∧ IntKind.u32.wrap ((A : Int) + m) = (T2 : Int) ∧
      IntKind.u32.wrap ((s 3 : Int) + T1) = ((stepH s K W 4 : Nat) : Int) ∧ IntKind.u32.wrap ((T1 : Int) + T2) = ((stepH s K W 0 : Nat) : Int) := by
  have h0 := hs 0 (by omega); have h1 := hs 1 (by omega); have h2 := hs 2 (by omega); have h4 := hs 4 (by omega); have h5 := hs 5 (by omega); have h6 := hs 6 (by omega)
  have r6 := rr_lt (n := 6) h4 (by omega); have r11 := rr_lt (n := 11) h4 (by omega); have r25 := rr_lt (n := 25) h4 (by omega)
  have r2 := rr_lt (n := 2) h0 (by omega); have r13 := rr_lt (n := 13) h0 (by omega); have r22 := rr_lt (n := 22) h0 (by omega)
  refine ⟨rr (s 4) 6 ^^^ rr (s 4) 11, bigE (s 4), add32 (s 7) (bigE (s 4)), s 4 &&& s 5, 4294967295 ^^^ s 4, (4294967295 ^^^ s 4) &&& s 6, chW (s 4) (s 5) (s 6), add32 (add32 (s 7) (bigE (s 4))) (chW (s 4) (s 5) (s 6)),
    add32 (add32 (add32 (s 7) (bigE (s 4))) (chW (s 4) (s 5) (s 6))) K, oneT s K W, rr (s 0) 2 ^^^ rr (s 0) 13, bigA (s 0), s 0 &&& s 1, s 0 &&& s 2, (s 0 &&& s 1) ^^^ (s 0 &&& s 2), s 1 &&& s 2, majW (s 0) (s 1) (s 2), twoT s,
    xorZ r6 r11, xorZ (xor32_lt r6 r11) r25, add32_int _ _, u32_and_nat _ _ h4 h5, notZ h4, u32_and_nat _ _ (xor32_lt (by omega) h4) h6, xorZ (and32_lt h4) (and32_lt (xor32_lt (by omega) h4)), add32_int _ _, add32_int _ _, add32_int _ _,
    xorZ r2 r13, xorZ (xor32_lt r2 r13) r22, u32_and_nat _ _ h0 h1, u32_and_nat _ _ h0 h2, xorZ (and32_lt h0) (and32_lt h0), u32_and_nat _ _ h1 h2, xorZ (xor32_lt (and32_lt h0) (and32_lt h0)) (and32_lt h1), add32_int _ _, ?_, ?_⟩
  · rw [stepH_4]; exact add32_int _ _
  · rw [stepH_0]; exact add32_int _ _
end Go.Proofs.YtfjbehobpkmjbaaDoor
