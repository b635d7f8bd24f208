/- Plain mathematics of the field of blocks: keys as functions from places to bytes; doubling, halving, sums. Condition: the bytes are bytes. -/
import Derived.Test.YtfjbehobpkmjbaaRefNum
namespace Go.Proofs.Ytfjbehobpkmjbaa
open Go

/-- The first n values of a function. -/
def mk (n : Nat) (f : Nat → Nat) : List Int := (List.range n).map fun i => (f i : Int)
def upd (f : Nat → Nat) (i v : Nat) : Nat → Nat := fun k => if k = i then v else f k
theorem mk_len (n : Nat) (f : Nat → Nat) : (mk n f).length = n := by simp [mk]
theorem mk_get {n : Nat} {f : Nat → Nat} {i : Nat} (h : i < n) : (mk n f).getD i 0 = (f i : Int) := by simp [mk, List.getD_eq_getElem?_getD, h]
theorem mk_ext {n : Nat} {f g : Nat → Nat} (h : ∀ i, i < n → f i = g i) : mk n f = mk n g := by
  unfold mk; apply List.map_congr_left; intro i hi; rw [h i (by simpa using hi)]
theorem mk_set (n : Nat) (f : Nat → Nat) (i : Nat) {v : Nat} : (mk n f).set i (v : Int) = mk n (upd f i v) := by
  apply List.ext_getElem
  · simp [mk]
  · intro m h1 h2
    rw [List.getElem_set]
    simp only [mk, List.getElem_map, List.getElem_range, upd]
    by_cases h : i = m
    · subst h; simp
    · rw [if_neg h, if_neg (fun e => h e.symm)]
theorem mk_set_is {n : Nat} {f g : Nat → Nat} {i v : Nat} {x : Int} (hx : x = (v : Int)) (h : ∀ j, j < n → (if j = i then v else f j) = g j) : (mk n f).set i x = mk n g := by
  subst hx; rw [mk_set]; exact mk_ext h

/-- All of a key's bytes are bytes. -/
def IsKey (f : Nat → Nat) : Prop := ∀ i, i < 16 → f i < 256
def zeroK : Nat → Nat := fun _ => 0
/-- What is carried to byte j. -/
def carry (f : Nat → Nat) (j : Nat) : Nat := if j = 0 then 0 else f (j - 1) / 128
/-- A key doubled, before x^128 is taken away. -/
def dbl0 (f : Nat → Nat) (j : Nat) : Nat := (f j * 2 % 256) ^^^ carry f j
def dbl (f : Nat → Nat) (j : Nat) : Nat := if j = 0 then dbl0 f 0 ^^^ (f 15 / 128 * 135) else dbl0 f j
theorem carry_lt {f : Nat → Nat} (h : IsKey f) {j : Nat} (hj : j ≤ 16) : carry f j < 2 := by
  unfold carry; split
  · omega
  · have := h (j - 1) (by omega); omega
theorem dbl0_lt {f : Nat → Nat} (h : IsKey f) {j : Nat} (hj : j < 16) : dbl0 f j < 256 := xor_lt (by omega) (by have := carry_lt h (j := j) (by omega); omega)
theorem top_lt {f : Nat → Nat} (h : IsKey f) : f 15 / 128 * 135 < 256 := by have := h 15 (by omega); omega
theorem dbl_key {f : Nat → Nat} (h : IsKey f) : IsKey (dbl f) := fun j hj => by
  unfold dbl; split
  · exact xor_lt (dbl0_lt h (by omega)) (top_lt h)
  · exact dbl0_lt h hj
theorem or_is_xor {x c : Nat} (hx : x < 256) (hc : c < 2) : (x * 2 % 256) ||| c = (x * 2 % 256) ^^^ c := by
  have t : ∀ a : Fin 256, ∀ b : Fin 2, (a.val * 2 % 256) ||| b.val = (a.val * 2 % 256) ^^^ b.val := by decide +kernel
  exact t ⟨x, hx⟩ ⟨c, hc⟩
/-- The doubled bytes up to place k. -/
def dblTo (f : Nat → Nat) (k : Nat) : Nat → Nat := fun j => if j < k then dbl0 f j else 0
theorem dblTo_step (f : Nat → Nat) (k : Nat) : (mk 16 (dblTo f k)).set k (dbl0 f k : Int) = mk 16 (dblTo f (k + 1)) := by
  refine mk_set_is rfl fun j _ => ?_
  unfold dblTo
  by_cases e : j = k
  · subst e; rw [if_pos rfl, if_pos (by omega)]
  · rw [if_neg e]
    by_cases l : j < k
    · rw [if_pos l, if_pos (by omega)]
    · rw [if_neg l, if_neg (by omega)]
theorem dblTo_zero (f : Nat → Nat) : mk 16 (dblTo f 0) = mk 16 zeroK := mk_ext fun j _ => by unfold dblTo zeroK; rw [if_neg (by omega)]
theorem dbl0_or {f : Nat → Nat} (h : IsKey f) {k : Nat} (hk : k < 16) : bits .or .u8 ((f k : Int) * 2 % 256) (carry f k : Int) = (dbl0 f k : Int) := by
  have := bits_or_u8 (x := f k * 2 % 256) (y := carry f k) (by omega) (by have := carry_lt h (j := k) (by omega); omega)
  rw [or_is_xor (h k hk) (carry_lt h (by omega))] at this
  exact this
theorem carry_step (f : Nat → Nat) (k : Nat) : (f k : Int) / 128 = (carry f (k + 1) : Int) := by
  unfold carry; rw [if_neg (by omega)]; simp
theorem dbl_top {f : Nat → Nat} (h : f 15 / 128 = 1) : (mk 16 (dblTo f 16)).set 0 ((dbl0 f 0 ^^^ 135 : Nat) : Int) = mk 16 (dbl f) := by
  refine mk_set_is rfl fun j hj => ?_
  unfold dblTo dbl
  by_cases e : j = 0
  · subst e; rw [if_pos rfl, if_pos rfl, h]
  · rw [if_neg e, if_neg e, if_pos hj]
theorem dbl_low {f : Nat → Nat} (h : f 15 / 128 = 0) : mk 16 (dblTo f 16) = mk 16 (dbl f) := by
  refine mk_ext fun j hj => ?_
  unfold dblTo dbl
  rw [if_pos hj]
  by_cases e : j = 0
  · subst e; rw [if_pos rfl, h]; simp
  · rw [if_neg e]
theorem carry_top (f : Nat → Nat) : carry f 16 = f 15 / 128 := rfl
theorem dblTo_first (f : Nat → Nat) : dblTo f 16 0 = dbl0 f 0 := rfl
theorem top_cases {f : Nat → Nat} (h : IsKey f) : f 15 / 128 = 1 ∨ f 15 / 128 = 0 := by have := h 15 (by omega); omega
theorem xor135 {x : Nat} (h : x < 256) : bits .xor .u8 (x : Int) 135 = ((x ^^^ 135 : Nat) : Int) := bits_xor_u8 (y := 135) h (by decide)

/-! ### Halving -/
/-- The key with x^128 given back, if its lowest bit is set. -/
def hin (f : Nat → Nat) (j : Nat) : Nat := if j = 0 then f 0 ^^^ (f 0 % 2 * 135) else f j
/-- What is carried to place m - 1. -/
def hcm (f : Nat → Nat) (m : Nat) : Nat := if m = 16 then f 0 % 2 * 128 else hin f m * 128 % 256
def hlv (f : Nat → Nat) (j : Nat) : Nat := (hin f j / 2) ^^^ hcm f (j + 1)
def hlvTo (f : Nat → Nat) (m : Nat) : Nat → Nat := fun j => if m ≤ j then hlv f j else 0
theorem hin_key {f : Nat → Nat} (h : IsKey f) : IsKey (hin f) := fun j hj => by
  unfold hin; split
  · exact xor_lt (h 0 (by omega)) (by omega)
  · exact h j hj
theorem hcm_is (f : Nat → Nat) (m : Nat) : ∃ b, b < 2 ∧ hcm f m = b * 128 := by
  unfold hcm; split
  · exact ⟨f 0 % 2, by omega, rfl⟩
  · exact ⟨hin f m % 2, by omega, by omega⟩
theorem hcm_lt (f : Nat → Nat) (m : Nat) : hcm f m < 256 := by obtain ⟨b, hb, e⟩ := hcm_is f m; omega
theorem hlv_key {f : Nat → Nat} (h : IsKey f) : IsKey (hlv f) := fun j hj => by
  have := hin_key h j hj
  exact xor_lt (by omega) (hcm_lt f _)
theorem or_is_xor_high {x b : Nat} (hx : x < 256) (hb : b < 2) : (x / 2) ||| (b * 128) = (x / 2) ^^^ (b * 128) := by
  have t : ∀ a : Fin 256, ∀ b : Fin 2, (a.val / 2) ||| (b.val * 128) = (a.val / 2) ^^^ (b.val * 128) := by decide +kernel
  exact t ⟨x, hx⟩ ⟨b, hb⟩
theorem hlv_or {f : Nat → Nat} (h : IsKey f) {j : Nat} (hj : j < 16) : bits .or .u8 ((hin f j : Int) / 2) (hcm f (j + 1) : Int) = (hlv f j : Int) := by
  have hx := hin_key h j hj
  have := bits_or_u8 (x := hin f j / 2) (y := hcm f (j + 1)) (by omega) (hcm_lt f _)
  obtain ⟨b, hb, e⟩ := hcm_is f (j + 1)
  rw [show hin f j / 2 ||| hcm f (j + 1) = hlv f j by unfold hlv; rw [e]; exact or_is_xor_high hx hb] at this
  exact this
theorem hcm_step (f : Nat → Nat) {j : Nat} (hj : j < 16) : (hin f j : Int) * 128 % 256 = (hcm f j : Int) := by
  unfold hcm; rw [if_neg (by omega)]; simp
theorem hlvTo_step (f : Nat → Nat) (m : Nat) : (mk 16 (hlvTo f (m + 1))).set m (hlv f m : Int) = mk 16 (hlvTo f m) := by
  refine mk_set_is rfl fun j _ => ?_
  unfold hlvTo
  by_cases e : j = m
  · subst e; rw [if_pos rfl, if_pos (by omega)]
  · rw [if_neg e]
    by_cases l : m ≤ j
    · rw [if_pos l, if_pos (by omega)]
    · rw [if_neg l, if_neg (by omega)]
theorem hlvTo_start (f : Nat → Nat) : mk 16 (hlvTo f 16) = mk 16 zeroK := mk_ext fun j hj => by unfold hlvTo zeroK; rw [if_neg (by omega)]
theorem hlvTo_end (f : Nat → Nat) : mk 16 (hlvTo f 0) = mk 16 (hlv f) := mk_ext fun j hj => by unfold hlvTo; rw [if_pos (by omega)]
theorem hin_odd {f : Nat → Nat} (h : f 0 % 2 = 1) : (mk 16 f).set 0 ((f 0 ^^^ 135 : Nat) : Int) = mk 16 (hin f) := by
  refine mk_set_is rfl fun j _ => ?_
  unfold hin
  by_cases e : j = 0
  · subst e; rw [if_pos rfl, if_pos rfl, h]
  · rw [if_neg e, if_neg e]
theorem hin_even {f : Nat → Nat} (h : f 0 % 2 = 0) : mk 16 f = mk 16 (hin f) := mk_ext fun j _ => by
  unfold hin
  by_cases e : j = 0
  · subst e; rw [if_pos rfl, h]; simp
  · rw [if_neg e]

/-! ### Sums -/
def xorK (f g : Nat → Nat) (j : Nat) : Nat := f j ^^^ g j
def xorTo (f g : Nat → Nat) (k : Nat) : Nat → Nat := fun j => if j < k then xorK f g j else 0
theorem xorK_key {f g : Nat → Nat} (hf : IsKey f) (hg : IsKey g) : IsKey (xorK f g) := fun j hj => xor_lt (hf j hj) (hg j hj)
theorem xorTo_step (f g : Nat → Nat) (k : Nat) : (mk 16 (xorTo f g k)).set k (xorK f g k : Int) = mk 16 (xorTo f g (k + 1)) := by
  refine mk_set_is rfl fun j _ => ?_
  unfold xorTo
  by_cases e : j = k
  · subst e; rw [if_pos rfl, if_pos (by omega)]
  · rw [if_neg e]
    by_cases l : j < k
    · rw [if_pos l, if_pos (by omega)]
    · rw [if_neg l, if_neg (by omega)]
theorem xorTo_start (f g : Nat → Nat) : mk 16 (xorTo f g 0) = mk 16 zeroK := mk_ext fun j _ => by unfold xorTo zeroK; rw [if_neg (by omega)]
theorem xorTo_end (f g : Nat → Nat) : mk 16 (xorTo f g 16) = mk 16 (xorK f g) := mk_ext fun j hj => by unfold xorTo; rw [if_pos hj]
theorem xorK_bits {f g : Nat → Nat} {j : Nat} (hf : f j < 256) (hg : g j < 256) : bits .xor .u8 (f j : Int) (g j : Int) = (xorK f g j : Int) := bits_xor_u8 hf hg

/-! ### The laws -/
theorem byte_there {x c : Nat} (hx : x < 256) (hc : c < 2) : ((x * 2 % 256) ^^^ c) / 2 = x % 128 ∧ ((x * 2 % 256) ^^^ c) % 2 = c := by
  have t : ∀ a : Fin 256, ∀ b : Fin 2, ((a.val * 2 % 256) ^^^ b.val) / 2 = a.val % 128 ∧ ((a.val * 2 % 256) ^^^ b.val) % 2 = b.val := by decide +kernel
  exact t ⟨x, hx⟩ ⟨c, hc⟩
theorem byte_join {x : Nat} (hx : x < 256) : (x % 128) ^^^ (x / 128 * 128) = x := by
  have t : ∀ a : Fin 256, (a.val % 128) ^^^ (a.val / 128 * 128) = a.val := by decide +kernel
  exact t ⟨x, hx⟩
theorem odd135 (x : Nat) {c : Nat} (hc : c < 2) : (x * 2 % 256 ^^^ c * 135) % 2 = c := by
  rw [show (2 : Nat) = 2 ^ 1 from rfl, Nat.xor_mod_two_pow]
  rcases (show c = 0 ∨ c = 1 by omega) with rfl | rfl <;> simp <;> omega
theorem hin_dbl {f : Nat → Nat} (h : IsKey f) {j : Nat} (hj : j < 16) : hin (dbl f) j = dbl0 f j := by
  unfold hin
  by_cases e : j = 0
  · subst e
    have c0 : dbl f 0 = (f 0 * 2 % 256) ^^^ (f 15 / 128 * 135) := by unfold dbl dbl0 carry; simp
    have t0 : f 15 / 128 < 2 := by have := h 15 (by omega); omega
    rw [if_pos rfl, c0, odd135 _ t0, Nat.xor_assoc, Nat.xor_self]
    unfold dbl0 carry; simp
  · rw [if_neg e]; unfold dbl; rw [if_neg e]
theorem odd_dbl {f : Nat → Nat} (h : IsKey f) : dbl f 0 % 2 = f 15 / 128 := by
  have c0 : dbl f 0 = (f 0 * 2 % 256) ^^^ (f 15 / 128 * 135) := by unfold dbl dbl0 carry; simp
  rw [c0, odd135 _ (by have := h 15 (by omega); omega)]
theorem hlv_dbl {f : Nat → Nat} (h : IsKey f) {j : Nat} (hj : j < 16) : hlv (dbl f) j = f j := by
  unfold hlv hcm
  rw [hin_dbl h hj]
  have hc := carry_lt h (j := j) (by omega)
  have b := byte_there (h j hj) hc
  rw [show dbl0 f j / 2 = f j % 128 from b.1]
  by_cases e : j + 1 = 16
  · obtain rfl : j = 15 := by omega
    rw [if_pos rfl, odd_dbl h]; exact byte_join (h 15 (by omega))
  · rw [if_neg e, hin_dbl h (by omega)]
    have b2 := byte_there (h (j + 1) (by omega)) (carry_lt h (j := j + 1) (by omega))
    have c2 : carry f (j + 1) = f j / 128 := by unfold carry; rw [if_neg (by omega)]; rfl
    rw [c2] at b2
    have e2 : dbl0 f (j + 1) % 2 = f j / 128 := by unfold dbl0; rw [c2]; exact b2.2
    rw [show dbl0 f (j + 1) * 128 % 256 = f j / 128 * 128 by omega]
    exact byte_join (h j hj)
end Go.Proofs.Ytfjbehobpkmjbaa
