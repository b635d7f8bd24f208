/- Plain mathematics of the document's own doubling: 129 bits, the four lowest turned, and bytes made of them; it is the doubling that the code reckons. Condition: the bytes are bytes. -/
import Derived.Test.YtccjpofngannhaaKeyB
namespace Go.Proofs.Ytccjpofngannhaa
open Go

/-- Bit j of a key times x. -/
def pv (f : Nat → Nat) (j : Nat) : Nat := if j = 0 then 0 else bt (f ((j - 1) / 8)) ((j - 1) % 8)
def pTo (f : Nat → Nat) (i : Nat) : Nat → Nat := fun j => if j ≤ i then pv f j else 0
theorem pv_lt (f : Nat → Nat) (j : Nat) : pv f j < 2 := by unfold pv; split; omega; exact bt_lt _ _
theorem pTo_start (f : Nat → Nat) : mk 129 (pTo f 0) = mk 129 zeroK := mk_ext fun j _ => by
  unfold pTo pv zeroK
  by_cases e : j = 0
  · subst e; simp
  · rw [if_neg (by omega)]
theorem pTo_end (f : Nat → Nat) : mk 129 (pTo f 128) = mk 129 (pv f) := mk_ext fun j _ => by unfold pTo; rw [if_pos (by omega)]
theorem pTo_step (f : Nat → Nat) (i : Nat) : (mk 129 (pTo f i)).set (i + 1) (pv f (i + 1) : Int) = mk 129 (pTo f (i + 1)) := by
  refine mk_set_is rfl fun j _ => ?_
  unfold pTo
  by_cases e : j = i + 1
  · subst e; rw [if_pos rfl, if_pos (by omega)]
  · rw [if_neg e]
    by_cases l : j ≤ i
    · rw [if_pos l, if_pos (by omega)]
    · rw [if_neg l, if_neg (by omega)]
theorem pv_bit (f : Nat → Nat) (i : Nat) : bt (f (i / 8)) (i % 8) = pv f (i + 1) := by unfold pv; rw [if_neg (by omega)]; rfl
theorem pv_top {f : Nat → Nat} (h : IsKey f) : pv f 128 = f 15 / 128 := by
  have := h 15 (by omega)
  unfold pv bt; rw [if_neg (by omega)]
  show f 15 / 2 ^ 7 % 2 = _
  omega
/-- The four lowest powers of the field's own polynomial, the first n of them turned. -/
def four (n : Nat) : Nat := if n = 0 then 0 else if n = 1 then 1 else if n = 2 then 2 else 7
def turned (f : Nat → Nat) (n : Nat) : Nat → Nat := fun j => if (0 < n ∧ j = 0) ∨ (1 < n ∧ j = 1) ∨ (2 < n ∧ j = 2) ∨ (3 < n ∧ j = 7) then 1 - pv f j else pv f j
theorem turned_start (f : Nat → Nat) : mk 129 (turned f 0) = mk 129 (pv f) := mk_ext fun j _ => by unfold turned; rw [if_neg (by omega)]
theorem turned_lt (f : Nat → Nat) (n j : Nat) : turned f n j < 2 := by have := pv_lt f j; unfold turned; split <;> omega
theorem turned_at (f : Nat → Nat) {n : Nat} (h : n < 4) : turned f n (four n) = pv f (four n) := by
  unfold turned; rw [if_neg]
  rcases (show n = 0 ∨ n = 1 ∨ n = 2 ∨ n = 3 by omega) with rfl | rfl | rfl | rfl <;> decide
theorem turned_step (f : Nat → Nat) {n : Nat} (h : n < 4) : (mk 129 (turned f n)).set (four n) (1 - (pv f (four n) : Int)) = mk 129 (turned f (n + 1)) := by
  have hp := pv_lt f (four n)
  refine mk_set_is (v := 1 - pv f (four n)) (by omega) fun j _ => ?_
  unfold turned
  rcases (show n = 0 ∨ n = 1 ∨ n = 2 ∨ n = 3 by omega) with rfl | rfl | rfl | rfl <;> simp only [four] <;> by_cases e0 : j = 0 <;> by_cases e1 : j = 1 <;> by_cases e2 : j = 2 <;> by_cases e7 : j = 7 <;> simp_all

/-- The bits of byte j, the first n from the highest on. -/
def horn (p : Nat → Nat) (j : Nat) : Nat → Nat
  | 0 => 0
  | n + 1 => horn p j n * 2 + p (8 * j + 7 - n)
def outTo (p : Nat → Nat) (m : Nat) : Nat → Nat := fun j => horn p j (min 8 (8 * (j + 1) - m))
theorem horn_lt {p : Nat → Nat} (hp : ∀ j, p j < 2) (j : Nat) : ∀ n, horn p j n < 2 ^ n
  | 0 => by simp [horn]
  | n + 1 => by
    have a := horn_lt hp j n
    have b := hp (8 * j + 7 - n)
    unfold horn; rw [Nat.pow_succ]; omega
theorem outTo_start (p : Nat → Nat) : mk 16 (outTo p 128) = mk 16 zeroK := mk_ext fun j hj => by
  unfold outTo zeroK; rw [show min 8 (8 * (j + 1) - 128) = 0 by omega]; rfl
theorem outTo_end (p : Nat → Nat) : mk 16 (outTo p 0) = mk 16 fun j => horn p j 8 := mk_ext fun j hj => by
  unfold outTo; rw [show min 8 (8 * (j + 1) - 0) = 8 by omega]
theorem outTo_at {p : Nat → Nat} (hp : ∀ j, p j < 2) (k : Nat) : outTo p (k + 1) (k / 8) < 128 := by
  unfold outTo
  have h := horn_lt hp (k / 8) (min 8 (8 * (k / 8 + 1) - (k + 1)))
  have e : min 8 (8 * (k / 8 + 1) - (k + 1)) ≤ 7 := by omega
  have := Nat.pow_le_pow_right (n := 2) (by omega) e
  omega
theorem outTo_step (p : Nat → Nat) (k : Nat) : (mk 16 (outTo p (k + 1))).set (k / 8) ((outTo p (k + 1) (k / 8) : Int) * 2 + (p k : Int)) = mk 16 (outTo p k) := by
  refine mk_set_is (v := outTo p (k + 1) (k / 8) * 2 + p k) (by simp) fun j _ => ?_
  unfold outTo
  by_cases e : j = k / 8
  · subst e
    rw [if_pos rfl, show min 8 (8 * (k / 8 + 1) - k) = min 8 (8 * (k / 8 + 1) - (k + 1)) + 1 by omega]
    show _ = horn p (k / 8) (min 8 (8 * (k / 8 + 1) - (k + 1))) * 2 + p (8 * (k / 8) + 7 - min 8 (8 * (k / 8 + 1) - (k + 1)))
    rw [show 8 * (k / 8) + 7 - min 8 (8 * (k / 8 + 1) - (k + 1)) = k by omega]
  · rw [if_neg e, show min 8 (8 * (j + 1) - (k + 1)) = min 8 (8 * (j + 1) - k) by omega]

/-! ### It is the code's doubling -/
def eight (b0 b1 b2 b3 b4 b5 b6 b7 : Nat) : Nat := (((((((0 * 2 + b7) * 2 + b6) * 2 + b5) * 2 + b4) * 2 + b3) * 2 + b2) * 2 + b1) * 2 + b0
theorem horn_eight (p : Nat → Nat) (j : Nat) : horn p j 8 = eight (p (8 * j)) (p (8 * j + 1)) (p (8 * j + 2)) (p (8 * j + 3)) (p (8 * j + 4)) (p (8 * j + 5)) (p (8 * j + 6)) (p (8 * j + 7)) := rfl
theorem eight_dbl {x c : Nat} (hx : x < 256) (hc : c < 2) : eight c (bt x 0) (bt x 1) (bt x 2) (bt x 3) (bt x 4) (bt x 5) (bt x 6) = (x * 2 % 256) ^^^ c := by
  have t : ∀ a : Fin 256, ∀ b : Fin 2, eight b.val (bt a.val 0) (bt a.val 1) (bt a.val 2) (bt a.val 3) (bt a.val 4) (bt a.val 5) (bt a.val 6) = (a.val * 2 % 256) ^^^ b.val := by decide +kernel
  exact t ⟨x, hx⟩ ⟨c, hc⟩
theorem eight_turned {x : Nat} (hx : x < 256) : eight 1 (1 - bt x 0) (1 - bt x 1) (bt x 2) (bt x 3) (bt x 4) (bt x 5) (1 - bt x 6) = (x * 2 % 256) ^^^ 135 := by
  have t : ∀ a : Fin 256, eight 1 (1 - bt a.val 0) (1 - bt a.val 1) (bt a.val 2) (bt a.val 3) (bt a.val 4) (bt a.val 5) (1 - bt a.val 6) = (a.val * 2 % 256) ^^^ 135 := by decide +kernel
  exact t ⟨x, hx⟩
theorem pv_in (f : Nat → Nat) (j b : Nat) (hb : b < 7) : pv f (8 * j + (b + 1)) = bt (f j) b := by
  unfold pv; rw [if_neg (by omega), show (8 * j + (b + 1) - 1) / 8 = j by omega, show (8 * j + (b + 1) - 1) % 8 = b by omega]
theorem pv_zero {f : Nat → Nat} (h : IsKey f) {j : Nat} (hj : j < 16) : pv f (8 * j) = carry f j := by
  unfold carry
  by_cases e : j = 0
  · subst e; rfl
  · have hk := h (j - 1) (by omega)
    unfold pv bt; rw [if_neg (by omega), if_neg e, show (8 * j - 1) / 8 = j - 1 by omega, show (8 * j - 1) % 8 = 7 by omega]
    show f (j - 1) / 2 ^ 7 % 2 = _
    omega
theorem horn_pv {f : Nat → Nat} (h : IsKey f) {j : Nat} (hj : j < 16) : horn (pv f) j 8 = dbl0 f j := by
  rw [horn_eight, pv_zero h hj, pv_in f j 0 (by omega), pv_in f j 1 (by omega), pv_in f j 2 (by omega), pv_in f j 3 (by omega), pv_in f j 4 (by omega), pv_in f j 5 (by omega), pv_in f j 6 (by omega)]
  exact eight_dbl (h j hj) (carry_lt h (by omega))
theorem horn_low {f : Nat → Nat} (h : IsKey f) (ht : f 15 / 128 = 0) : mk 16 (fun j => horn (pv f) j 8) = mk 16 (dbl f) := mk_ext fun j hj => by
  show horn (pv f) j 8 = dbl f j
  rw [horn_pv h hj]
  unfold dbl
  by_cases e : j = 0
  · subst e; rw [if_pos rfl, ht]; simp
  · rw [if_neg e]
theorem turned_far (f : Nat → Nat) {j : Nat} (h : 8 ≤ j) : turned f 4 j = pv f j := by unfold turned; rw [if_neg (by omega)]
theorem horn_top {f : Nat → Nat} (h : IsKey f) (ht : f 15 / 128 = 1) : mk 16 (fun j => horn (turned f 4) j 8) = mk 16 (dbl f) := mk_ext fun j hj => by
  show horn (turned f 4) j 8 = dbl f j
  unfold dbl
  by_cases e : j = 0
  · subst e
    rw [if_pos rfl, ht, horn_eight]
    have z : pv f 0 = 0 := rfl
    have t0 : turned f 4 (8 * 0) = 1 := by show turned f 4 0 = 1; unfold turned; rw [if_pos (by omega), z]
    have t1 : turned f 4 (8 * 0 + 1) = 1 - bt (f 0) 0 := by show turned f 4 1 = _; unfold turned; rw [if_pos (by omega)]; rfl
    have t2 : turned f 4 (8 * 0 + 2) = 1 - bt (f 0) 1 := by show turned f 4 2 = _; unfold turned; rw [if_pos (by omega)]; rfl
    have t3 : turned f 4 (8 * 0 + 3) = bt (f 0) 2 := by show turned f 4 3 = _; unfold turned; rw [if_neg (by omega)]; rfl
    have t4 : turned f 4 (8 * 0 + 4) = bt (f 0) 3 := by show turned f 4 4 = _; unfold turned; rw [if_neg (by omega)]; rfl
    have t5 : turned f 4 (8 * 0 + 5) = bt (f 0) 4 := by show turned f 4 5 = _; unfold turned; rw [if_neg (by omega)]; rfl
    have t6 : turned f 4 (8 * 0 + 6) = bt (f 0) 5 := by show turned f 4 6 = _; unfold turned; rw [if_neg (by omega)]; rfl
    have t7 : turned f 4 (8 * 0 + 7) = 1 - bt (f 0) 6 := by show turned f 4 7 = _; unfold turned; rw [if_pos (by omega)]; rfl
    rw [t0, t1, t2, t3, t4, t5, t6, t7, eight_turned (h 0 (by omega))]
    unfold dbl0 carry; simp
  · rw [if_neg e, ← horn_pv h hj, horn_eight, horn_eight, turned_far f (by omega), turned_far f (by omega), turned_far f (by omega), turned_far f (by omega), turned_far f (by omega), turned_far f (by omega), turned_far f (by omega), turned_far f (by omega)]
theorem four_at {n : Nat} (h : n < 4) : ([0, 1, 2, 7] : List Int).getD n 0 = (four n : Nat) := by
  rcases (show n = 0 ∨ n = 1 ∨ n = 2 ∨ n = 3 by omega) with rfl | rfl | rfl | rfl <;> rfl
theorem four_le (n : Nat) : four n ≤ 7 := by unfold four; split <;> (try split) <;> (try split) <;> omega
end Go.Proofs.Ytccjpofngannhaa
