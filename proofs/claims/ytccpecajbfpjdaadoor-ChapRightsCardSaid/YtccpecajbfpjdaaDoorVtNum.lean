/- VtNum: cut by mkvt.py out of RdNum: mathematics of sectors and of entries. Conditions: as each says. -/
import Derived.Test.YtccpecajbfpjdaaDoorTrNum
import Derived.Test.YtccpecajbfpjdaaDoorWdNum
namespace Go.Proofs.YtccpecajbfpjdaaDoor
open Go Go.RowKit
/-- A sector: 128 bytes. -/
def IsSec (s : List Int) : Prop := s.length = 128 ∧ IsBytes s
theorem IsSec.mk' {s : List Int} (h : IsSec s) : mk 128 (natF s) = s := by have := mk_natF h.2; rw [h.1] at this; exact this
theorem isSec_mk {f : Nat → Nat} (h : ∀ i, i < 128 → f i < 256) : IsSec (mk 128 f) := ⟨mk_len _ _, mk_bytes h⟩
/-- A put: its number, its sector. -/
structure PutOf where
  at' : Int
  s : List Int
def PutOf.ok (c : PutOf) : Prop := IsSec c.s
theorem PutOf.ext {c d : PutOf} (h : c.at' = d.at') (k : c.s = d.s) : c = d := by cases c; cases d; simp_all

/-! ### An entry's sectors -/
/-- A number's bytes. -/
def numL (s : Nat) (z : Int) : List Int := mk s (numF s z)
theorem numL_len (s : Nat) (z : Int) : (numL s z).length = s := mk_len _ _
theorem numL_bytes (s : Nat) (z : Int) : IsBytes (numL s z) := mk_bytes fun i _ => numF_lt s z i
/-- What the first sector says: the count, how many numbers, the numbers. -/
def headL (count : Int) (ats : List Int) : List Int := numL 8 count ++ (((ats.length : Nat) : Int) :: ats).flatMap (numL 2)
theorem flat_bytes : ∀ l : List Int, IsBytes (l.flatMap (numL 2))
  | [] => fun x hx => by simp at hx
  | a :: l => by rw [List.flatMap_cons]; exact (numL_bytes 2 a).append (flat_bytes l)
theorem flat_len : ∀ l : List Int, (l.flatMap (numL 2)).length = 2 * l.length
  | [] => rfl
  | a :: l => by rw [List.flatMap_cons, List.length_append, flat_len l, numL_len, List.length_cons]; omega
theorem headL_bytes (count : Int) (ats : List Int) : IsBytes (headL count ats) := (numL_bytes 8 count).append (flat_bytes _)
theorem headL_len (count : Int) (ats : List Int) : (headL count ats).length = 10 + 2 * ats.length := by unfold headL; rw [List.length_append, numL_len, flat_len, List.length_cons]; omega
/-- A row, then noughts. -/
def padS (b : List Int) : List Int := mk 128 (natF b)
theorem padS_sec {b : List Int} (h : IsBytes b) : IsSec (padS b) := isSec_mk fun i _ => natF_lt h i
theorem padS_len (b : List Int) : (padS b).length = 128 := mk_len _ _
theorem padS_self {b : List Int} (h : IsSec b) : padS b = b := h.mk'
theorem mk_inj {n : Nat} {f g : Nat → Nat} (h : mk n f = mk n g) {j : Nat} (hj : j < n) : f j = g j := by
  have h1 := mk_get (f := f) hj
  rw [h, mk_get hj] at h1
  exact (Int.ofNat.inj h1).symm
theorem padS_inj {b c : List Int} (hb : IsBytes b) (hc : IsBytes c) (hl : b.length = c.length) (hm : b.length ≤ 128) (h : padS b = padS c) : b = c := by
  rw [← mk_natF hb, ← mk_natF hc, hl]
  exact mk_ext fun j hj => mk_inj h (by omega)
/-- What an entry's tag is of. -/
def textL (f : List Int) (l : List PutOf) : List Int := f ++ l.flatMap (·.s)
/-- Is this an entry? -/
def goodE (count : Int) (l : List PutOf) : Prop := 0 ≤ count ∧ l.length ≤ 56 ∧ (∀ p ∈ l, 0 ≤ p.at' ∧ p.at' ≤ 65535) ∧ (l.map (·.at')).Nodup
instance (count : Int) (l : List PutOf) : Decidable (goodE count l) := by unfold goodE; infer_instance
def firstL (count : Int) (l : List PutOf) : List Int := padS (headL count (l.map (·.at')))
theorem firstL_sec (count : Int) (l : List PutOf) : IsSec (firstL count l) := padS_sec (headL_bytes _ _)
/-- An entry's sectors, with any tag. -/
def encL (τ : List Int → List Int) (count : Int) (l : List PutOf) : List (List Int) := firstL count l :: padS (τ (textL (firstL count l) l)) :: l.map (·.s)
theorem encL_len (τ : List Int → List Int) (count : Int) (l : List PutOf) : (encL τ count l).length = 2 + l.length := by simp [encL]; omega

/-! ### What sectors say -/
/-- The number of two bytes at a place. -/
def twoAt (s : List Int) (o : Nat) : Nat := valN 2 fun j => natF s (o + j)
/-- The count that the first eight bytes are: of 64 bits. -/
def countL (s : List Int) : Int := IntKind.i64.wrap (valN 8 (natF s) : Nat)
/-- The numbers that a first sector says. -/
def saysL (s : List Int) : List Int := if twoAt s 8 ≤ 56 then (List.range (twoAt s 8)).map fun i => (twoAt s (10 + 2 * i) : Int) else []
theorem saysL_len (s : List Int) : (saysL s).length ≤ 56 := by
  unfold saysL; split
  · rename_i h; simpa using h
  · simp
/-- The puts that sectors tell, as far as they go on. -/
def toldL (ats : List Int) (r : List (List Int)) : List PutOf := List.zipWith PutOf.mk ats r
theorem toldL_len (ats : List Int) (r : List (List Int)) : (toldL ats r).length = min ats.length r.length := by simp [toldL]
/-- The entry that sectors begin with. -/
def IsEntry (τ : List Int → List Int) (cs : List (List Int)) (count : Int) (l : List PutOf) : Prop := goodE count l ∧ encL τ count l <+: cs

theorem valN_num2 {z : Int} (h0 : 0 ≤ z) (h1 : z ≤ 65535) : ((valN 2 (numF 2 z) : Nat) : Int) = z := by
  rw [val_back, show (256 : Int) ^ 2 = 65536 by decide +kernel]; exact Int.emod_eq_of_lt h0 (by omega)
theorem valN_num8 {z : Int} (h0 : 0 ≤ z) (h1 : z ≤ 9223372036854775807) : ((valN 8 (numF 8 z) : Nat) : Int) = z := by
  rw [val_back, show (256 : Int) ^ 8 = 18446744073709551616 by decide +kernel]; exact Int.emod_eq_of_lt h0 (by omega)
theorem natF_pad (b : List Int) {j : Nat} (h : j < 128) : natF (padS b) j = natF b j := natF_mk h
theorem head_count (count : Int) (ats : List Int) {j : Nat} (h : j < 8) : natF (headL count ats) j = numF 8 count j := by
  unfold headL; rw [natF_left (by rw [numL_len]; exact h)]; exact natF_mk h
theorem flat_at : ∀ (l : List Int) (i j : Nat) (z : Int), l[i]? = some z → j < 2 → natF (l.flatMap (numL 2)) (2 * i + j) = numF 2 z j
  | [], i, j, z, h, _ => by simp at h
  | a :: l, 0, j, z, h, hj => by
    obtain rfl : a = z := by simpa using h
    rw [List.flatMap_cons, natF_left (by rw [numL_len]; omega), Nat.mul_zero, Nat.zero_add]; exact natF_mk hj
  | a :: l, i + 1, j, z, h, hj => by
    rw [List.flatMap_cons, natF_right (by rw [numL_len]; omega), numL_len, show 2 * (i + 1) + j - 2 = 2 * i + j by omega]
    exact flat_at l i j z (by simpa using h) hj
theorem head_two (count : Int) (ats : List Int) {i : Nat} {z : Int} (hz : (((ats.length : Nat) : Int) :: ats)[i]? = some z) (hr : 0 ≤ z ∧ z ≤ 65535) (hl : ats.length ≤ 56) : (twoAt (padS (headL count ats)) (8 + 2 * i) : Int) = z := by
  have hi : i < ats.length + 1 := (List.getElem?_eq_some_iff.1 hz).1
  rw [← valN_num2 hr.1 hr.2]
  unfold twoAt
  rw [valN_ext 2 fun j hj => ?_]
  rw [natF_pad _ (by omega)]
  unfold headL
  rw [natF_right (by rw [numL_len]; omega), numL_len, show 8 + 2 * i + j - 8 = 2 * i + j by omega]
  exact flat_at _ i j z hz hj
/-- What is said again. -/
theorem count_back {count : Int} (ats : List Int) (h0 : 0 ≤ count) (h1 : count ≤ 9223372036854775807) : countL (padS (headL count ats)) = count := by
  unfold countL
  rw [valN_ext 8 (g' := numF 8 count) fun j hj => by rw [natF_pad _ (by omega), head_count _ _ hj], valN_num8 h0 h1, IntWalk.i64_in _ ⟨by omega, by omega⟩]
theorem says_back {count : Int} {ats : List Int} (hl : ats.length ≤ 56) (hr : ∀ z ∈ ats, 0 ≤ z ∧ z ≤ 65535) : saysL (padS (headL count ats)) = ats := by
  have h8 : twoAt (padS (headL count ats)) 8 = ats.length := by
    have := head_two count ats (i := 0) (z := ((ats.length : Nat) : Int)) rfl ⟨by omega, by omega⟩ hl
    rw [Nat.mul_zero, Nat.add_zero] at this
    exact Int.ofNat.inj this
  unfold saysL
  rw [h8, if_pos hl]
  apply List.ext_getElem
  · simp
  · intro i h1 h2
    have hz : (((ats.length : Nat) : Int) :: ats)[i + 1]? = some (ats[i]) := by simp [h2]
    have := head_two count ats hz (hr _ (List.getElem_mem h2)) hl
    rw [show 8 + 2 * (i + 1) = 10 + 2 * i by omega] at this
    simpa using this
theorem told_back : ∀ (l : List PutOf) (more : List (List Int)), toldL (l.map (·.at')) (l.map (·.s) ++ more) = l
  | [], more => rfl
  | a :: l, more => by
    show PutOf.mk a.at' a.s :: toldL (l.map (·.at')) (l.map (·.s) ++ more) = a :: l
    rw [told_back l more]
/-- The entry that sectors begin with, found. -/
def decE (τ : List Int → List Int) : List (List Int) → Option (Int × List PutOf)
  | s0 :: s1 :: r => if goodE (countL s0) (toldL (saysL s0) r) ∧ encL τ (countL s0) (toldL (saysL s0) r) <+: s0 :: s1 :: r then some (countL s0, toldL (saysL s0) r) else none
  | _ => none
theorem decE_two (τ : List Int → List Int) (s0 s1 : List Int) (r : List (List Int)) : decE τ (s0 :: s1 :: r) = if goodE (countL s0) (toldL (saysL s0) r) ∧ encL τ (countL s0) (toldL (saysL s0) r) <+: s0 :: s1 :: r then some (countL s0, toldL (saysL s0) r) else none := rfl
theorem goodE.range {count : Int} {l : List PutOf} (h : goodE count l) : ∀ z ∈ l.map (·.at'), 0 ≤ z ∧ z ≤ 65535 := fun z hz => by
  obtain ⟨p, hp, rfl⟩ := List.mem_map.1 hz
  exact h.2.2.1 p hp
theorem goodE.says {count : Int} {l : List PutOf} (h : goodE count l) : saysL (firstL count l) = l.map (·.at') := says_back (by rw [List.length_map]; exact h.2.1) h.range
theorem goodE.count {count : Int} {l : List PutOf} (h : goodE count l) (hc : count ≤ 9223372036854775807) : countL (firstL count l) = count := count_back _ h.1 hc
/-- An entry comes back, whatever lies behind it. -/
theorem dec_enc (τ : List Int → List Int) {count : Int} {l : List PutOf} (h : goodE count l) (hc : count ≤ 9223372036854775807) (more : List (List Int)) : decE τ (encL τ count l ++ more) = some (count, l) := by
  have e1 := h.says
  have e2 := h.count hc
  have e3 := told_back l more
  show (if goodE (countL (firstL count l)) (toldL (saysL (firstL count l)) (l.map (·.s) ++ more)) ∧ encL τ (countL (firstL count l)) (toldL (saysL (firstL count l)) (l.map (·.s) ++ more)) <+: encL τ count l ++ more then some (countL (firstL count l), toldL (saysL (firstL count l)) (l.map (·.s) ++ more)) else none) = _
  rw [e1, e2, e3, if_pos ⟨h, List.prefix_append _ _⟩]
/-- What is found is an entry's sectors, and the only ones. -/
theorem dec_some {τ : List Int → List Int} {cs : List (List Int)} {count : Int} {l : List PutOf} (h : decE τ cs = some (count, l)) : goodE count l ∧ ∃ more, cs = encL τ count l ++ more := by
  match cs, h with
  | s0 :: s1 :: r, h =>
    rw [decE_two] at h
    split at h
    · rename_i hg
      obtain ⟨rfl, rfl⟩ : countL s0 = count ∧ toldL (saysL s0) r = l := by simpa using h
      exact ⟨hg.1, hg.2.imp fun _ e => e.symm⟩
    · cases h
/-- Where fewer sectors lie than are said, there is none. -/
theorem says_short {τ : List Int → List Int} {s0 s1 : List Int} {r : List (List Int)} (hr : r.length < (saysL s0).length) : decE τ (s0 :: s1 :: r) = none := by
  rw [decE_two, if_neg]
  rintro ⟨hg, more, he⟩
  have h0 : firstL (countL s0) (toldL (saysL s0) r) = s0 := (List.cons.inj he).1
  have e := hg.says
  rw [h0] at e
  have := congrArg List.length e
  rw [List.length_map, toldL_len] at this
  omega
theorem dec_none (τ : List Int → List Int) {cs : List (List Int)} (h : cs.length < 2) : decE τ cs = none := by
  match cs, h with
  | [], _ => rfl
  | [_], _ => rfl
end Go.Proofs.YtccpecajbfpjdaaDoor
