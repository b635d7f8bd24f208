/- Plain mathematics of the digest: words rotated, schedules, what a schedule does to eight words, padding, pieces. Conditions: as each lemma says. -/
import Derived.Test.YtfjbehobpkmjbaaDoorKey
import Derived.Laws.BitsAllLaws
namespace Go.Proofs.YtfjbehobpkmjbaaDoor
open Go

/-- A word rotated right. -/
def rr (x n : Nat) : Nat := x / 2 ^ n + x % 2 ^ n * 2 ^ (32 - n)
theorem rr_lt {x n : Nat} (hx : x < 4294967296) (hn : n ≤ 32) : rr x n < 4294967296 := by
  unfold rr
  have e : (4294967296 : Nat) = 2 ^ n * 2 ^ (32 - n) := by rw [← Nat.pow_add, show n + (32 - n) = 32 by omega]
  have p : 0 < 2 ^ (32 - n) := Nat.pow_pos (by omega)
  have pn : 0 < 2 ^ n := Nat.pow_pos (by omega)
  have h1 : x / 2 ^ n < 2 ^ (32 - n) := by rw [Nat.div_lt_iff_lt_mul pn, Nat.mul_comm, ← e]; exact hx
  have h2 : x % 2 ^ n + 1 ≤ 2 ^ n := Nat.mod_lt _ pn
  have h3 : (x % 2 ^ n + 1) * 2 ^ (32 - n) ≤ 2 ^ n * 2 ^ (32 - n) := Nat.mul_le_mul_right _ h2
  rw [← e, Nat.add_mul, Nat.one_mul] at h3
  omega
theorem rr_zero (x : Nat) : rr x 0 = x := by unfold rr; simp [Nat.mod_one]
/-- One place more, as halves. -/
theorem rr_step {x n : Nat} (hn : n < 32) : rr x (n + 1) = rr x n / 2 + rr x n % 2 * 2147483648 := by
  have pn : 0 < 2 ^ n := Nat.pow_pos (by omega)
  obtain ⟨m, hm⟩ : ∃ m, 32 - n = m + 1 := ⟨31 - n, by omega⟩
  have hm' : 32 - (n + 1) = m := by omega
  have e31 : (2147483648 : Nat) = 2 ^ n * 2 ^ m := by rw [← Nat.pow_add, show n + m = 31 by omega]
  have emod : x % 2 ^ (n + 1) = x % 2 ^ n + 2 ^ n * (x / 2 ^ n % 2) := by rw [Nat.pow_succ, Nat.mod_mul]
  have ediv : x / 2 ^ (n + 1) = x / 2 ^ n / 2 := by rw [Nat.pow_succ, Nat.div_div_eq_div_mul]
  have er : rr x n = x / 2 ^ n + 2 * (x % 2 ^ n * 2 ^ m) := by unfold rr; rw [hm, Nat.pow_succ, Nat.mul_comm (2 ^ m) 2, Nat.mul_left_comm]
  rw [er, show (x / 2 ^ n + 2 * (x % 2 ^ n * 2 ^ m)) / 2 = x / 2 ^ n / 2 + x % 2 ^ n * 2 ^ m by omega, show (x / 2 ^ n + 2 * (x % 2 ^ n * 2 ^ m)) % 2 = x / 2 ^ n % 2 by omega]
  unfold rr
  rw [hm', emod, ediv, e31, Nat.add_mul, Nat.add_assoc, Nat.mul_assoc, Nat.mul_left_comm (2 ^ n) (x / 2 ^ n % 2) (2 ^ m)]
/-- By shifts. -/
theorem rr_or {x n : Nat} (hx : x < 4294967296) (h0 : 1 ≤ n) (hn : n ≤ 31) : (x * 2 ^ (32 - n) % 4294967296) ||| (x / 2 ^ n) = rr x n := by
  have e : (4294967296 : Nat) = 2 ^ n * 2 ^ (32 - n) := by rw [← Nat.pow_add, show n + (32 - n) = 32 by omega]
  have pn : 0 < 2 ^ n := Nat.pow_pos (by omega)
  have h1 : x / 2 ^ n < 2 ^ (32 - n) := by rw [Nat.div_lt_iff_lt_mul pn, Nat.mul_comm, ← e]; exact hx
  have hm : x * 2 ^ (32 - n) % 4294967296 = x % 2 ^ n * 2 ^ (32 - n) := by rw [e, Nat.mul_mod_mul_right]
  rw [hm, ← Nat.shiftLeft_eq, ← Nat.shiftLeft_add_eq_or_of_lt h1, Nat.shiftLeft_eq, Nat.add_comm]
  rfl
theorem xor32_lt {a b : Nat} (ha : a < 4294967296) (hb : b < 4294967296) : a ^^^ b < 4294967296 := Nat.xor_lt_two_pow (n := 32) ha hb
theorem and32_lt {a b : Nat} (ha : a < 4294967296) : a &&& b < 4294967296 := Nat.lt_of_le_of_lt Nat.and_le_left ha

/-- s0, s1, S0, S1 of the chapter. -/
def earW (x : Nat) : Nat := rr x 7 ^^^ rr x 18 ^^^ x / 2 ^ 3
def latW (x : Nat) : Nat := rr x 17 ^^^ rr x 19 ^^^ x / 2 ^ 10
def bigA (x : Nat) : Nat := rr x 2 ^^^ rr x 13 ^^^ rr x 22
def bigE (x : Nat) : Nat := rr x 6 ^^^ rr x 11 ^^^ rr x 25
theorem earW_lt {x : Nat} (hx : x < 4294967296) : earW x < 4294967296 := xor32_lt (xor32_lt (rr_lt hx (by omega)) (rr_lt hx (by omega))) (by omega)
theorem latW_lt {x : Nat} (hx : x < 4294967296) : latW x < 4294967296 := xor32_lt (xor32_lt (rr_lt hx (by omega)) (rr_lt hx (by omega))) (by omega)
theorem bigA_lt {x : Nat} (hx : x < 4294967296) : bigA x < 4294967296 := xor32_lt (xor32_lt (rr_lt hx (by omega)) (rr_lt hx (by omega))) (rr_lt hx (by omega))
theorem bigE_lt {x : Nat} (hx : x < 4294967296) : bigE x < 4294967296 := xor32_lt (xor32_lt (rr_lt hx (by omega)) (rr_lt hx (by omega))) (rr_lt hx (by omega))
/-- A sum of words. -/
def add32 (a b : Nat) : Nat := (a + b) % 4294967296
theorem add32_lt (a b : Nat) : add32 a b < 4294967296 := Nat.mod_lt _ (by omega)
theorem add32_int (a b : Nat) : IntKind.u32.wrap ((a : Int) + b) = ((add32 a b : Nat) : Int) := by rw [IntKind.wrap_u32']; unfold add32; omega

/-- A piece's word. -/
def beW (f : Nat → Nat) (k : Nat) : Nat := f (4 * k) * 16777216 + f (4 * k + 1) * 65536 + f (4 * k + 2) * 256 + f (4 * k + 3)
theorem beW_lt {f : Nat → Nat} {k : Nat} (hf : ∀ i, i < 64 → f i < 256) (hk : k < 16) : beW f k < 4294967296 := by
  have a := hf (4 * k) (by omega); have b := hf (4 * k + 1) (by omega); have c := hf (4 * k + 2) (by omega); have d := hf (4 * k + 3) (by omega)
  unfold beW; omega
/-- The schedule's words, of the words so far. -/
def nextW (f T : Nat → Nat) (k : Nat) : Nat := if k < 16 then beW f k else add32 (add32 (add32 (latW (T (k - 2))) (T (k - 7))) (earW (T (k - 15)))) (T (k - 16))
def schT (f : Nat → Nat) : Nat → Nat → Nat
  | 0 => zeroK
  | k + 1 => fun j => if j = k then nextW f (schT f k) k else schT f k j
theorem schT_step (f : Nat → Nat) (k : Nat) {v : Int} (hv : v = (nextW f (schT f k) k : Nat)) : (mk 64 (schT f k)).set k v = mk 64 (schT f (k + 1)) := mk_set_is hv fun _ _ => rfl
theorem nextW_lt {f T : Nat → Nat} {k : Nat} (hf : ∀ i, i < 64 → f i < 256) : nextW f T k < 4294967296 := by
  unfold nextW; split
  · exact beW_lt hf (by omega)
  · exact add32_lt _ _
theorem schT_lt {f : Nat → Nat} (hf : ∀ i, i < 64 → f i < 256) : ∀ k j, schT f k j < 4294967296
  | 0, _ => by show (0 : Nat) < _; omega
  | k + 1, j => by
    show (if j = k then _ else _) < _
    split
    · exact nextW_lt hf
    · exact schT_lt hf k j
/-- What stands stays. -/
theorem schT_keep (f : Nat → Nat) {j : Nat} : ∀ {k : Nat}, j < k → schT f k j = schT f (j + 1) j := fun {k} h => by
  induction k with
  | zero => omega
  | succ k ih =>
    by_cases e : j = k
    · rw [e]
    · show (if j = k then _ else schT f k j) = _
      rw [if_neg e, ih (by omega)]
theorem schT_at (f : Nat → Nat) {j k : Nat} (h : j < k) : schT f k j = nextW f (schT f j) j := by
  rw [schT_keep f h]; show (if j = j then _ else _) = _; rw [if_pos rfl]
theorem schT_congr {f g : Nat → Nat} (h : ∀ i, i < 64 → f i = g i) : ∀ k, k ≤ 64 → schT f k = schT g k
  | 0, _ => rfl
  | k + 1, hk => by
    have ih := schT_congr h k (by omega)
    have e : nextW f (schT f k) k = nextW g (schT g k) k := by
      rw [ih]; unfold nextW; split
      · unfold beW; rw [h _ (by omega), h _ (by omega), h _ (by omega), h _ (by omega)]
      · rfl
    funext j
    show (if j = k then nextW f (schT f k) k else schT f k j) = (if j = k then nextW g (schT g k) k else schT g k j)
    rw [e, ih]

/-- One round of taking a schedule. -/
def chW (e f g : Nat) : Nat := (e &&& f) ^^^ ((4294967295 ^^^ e) &&& g)
def majW (a b c : Nat) : Nat := (a &&& b) ^^^ (a &&& c) ^^^ (b &&& c)
def oneT (s : Nat → Nat) (k w : Nat) : Nat := add32 (add32 (add32 (add32 (s 7) (bigE (s 4))) (chW (s 4) (s 5) (s 6))) k) w
def twoT (s : Nat → Nat) : Nat := add32 (bigA (s 0)) (majW (s 0) (s 1) (s 2))
def stepH (s : Nat → Nat) (k w j : Nat) : Nat := if j = 0 then add32 (oneT s k w) (twoT s) else if j = 4 then add32 (s 3) (oneT s k w) else s (j - 1)
def runH (h w k : Nat → Nat) : Nat → Nat → Nat
  | 0 => h
  | i + 1 => stepH (runH h w k i) (k i) (w i)
def takH (h w k : Nat → Nat) (j : Nat) : Nat := add32 (h j) (runH h w k 64 j)
theorem chW_lt {e f g : Nat} (he : e < 4294967296) : chW e f g < 4294967296 := xor32_lt (and32_lt he) (and32_lt (xor32_lt (by omega) he))
theorem majW_lt {a b c : Nat} (ha : a < 4294967296) (hb : b < 4294967296) : majW a b c < 4294967296 := xor32_lt (xor32_lt (and32_lt ha) (and32_lt ha)) (and32_lt hb)
section
variable (s : Nat → Nat) (k w : Nat)
theorem stepH_0 : stepH s k w 0 = add32 (oneT s k w) (twoT s) := by unfold stepH; rw [if_pos rfl]
theorem stepH_4 : stepH s k w 4 = add32 (s 3) (oneT s k w) := by unfold stepH; rw [if_neg (by omega), if_pos rfl]
theorem stepH_on {j : Nat} (h0 : j + 1 ≠ 4) : stepH s k w (j + 1) = s j := by unfold stepH; rw [if_neg (by omega), if_neg h0, Nat.add_sub_cancel]
end
theorem stepH_lt {s : Nat → Nat} (hs : ∀ j, j < 8 → s j < 4294967296) (k w : Nat) : ∀ j, j < 8 → stepH s k w j < 4294967296 := fun j hj => by
  unfold stepH
  split
  · exact add32_lt _ _
  · split
    · exact add32_lt _ _
    · exact hs _ (by omega)
theorem runH_lt {h : Nat → Nat} (w k : Nat → Nat) (hh : ∀ j, j < 8 → h j < 4294967296) : ∀ i j, j < 8 → runH h w k i j < 4294967296
  | 0 => hh
  | i + 1 => stepH_lt (runH_lt w k hh i) _ _
theorem takH_lt (h w k : Nat → Nat) (j : Nat) : takH h w k j < 4294967296 := add32_lt _ _

/-- The constants, and the beginning. -/
def tabL : List Nat := [1116352408, 1899447441, 3049323471, 3921009573, 961987163, 1508970993, 2453635748, 2870763221, 3624381080, 310598401, 607225278, 1426881987, 1925078388, 2162078206, 2614888103, 3248222580, 3835390401, 4022224774, 264347078, 604807628, 770255983, 1249150122, 1555081692, 1996064986, 2554220882, 2821834349, 2952996808, 3210313671, 3336571891, 3584528711, 113926993, 338241895, 666307205, 773529912, 1294757372, 1396182291, 1695183700, 1986661051, 2177026350, 2456956037, 2730485921, 2820302411, 3259730800, 3345764771, 3516065817, 3600352804, 4094571909, 275423344, 430227734, 506948616, 659060556, 883997877, 958139571, 1322822218, 1537002063, 1747873779, 1955562222, 2024104815, 2227730452, 2361852424, 2428436474, 2756734187, 3204031479, 3329325298]
def begL : List Nat := [1779033703, 3144134277, 1013904242, 2773480762, 1359893119, 2600822924, 528734635, 1541459225]
def tabK (i : Nat) : Nat := tabL.getD i 0
def begK (i : Nat) : Nat := begL.getD i 0
theorem begK_lt (i : Nat) : begK i < 4294967296 := by
  unfold begK begL
  rcases i with _ | _ | _ | _ | _ | _ | _ | _ | i <;> simp
theorem tabK_all : ∀ i, i < 64 → tabK i < 4294967296 := by decide +kernel

/-- What is put behind a text. -/
def padL (n : Nat) : Nat := 9 + (64 - (n + 9) % 64) % 64
def padB (n i : Nat) : Nat := if i = 0 then 128 else if i < padL n - 8 then 0 else n * 8 / 256 ^ (padL n - 1 - i) % 256
theorem padB_lt (n i : Nat) : padB n i < 256 := by unfold padB; split; omega; split; omega; exact Nat.mod_lt _ (by omega)
theorem padL_bd (n : Nat) : 9 ≤ padL n ∧ padL n ≤ 72 := by unfold padL; omega
theorem padL_mod (n : Nat) : (n + padL n) % 64 = 0 := by unfold padL; omega
/-- The padded text. -/
def allB (n : Nat) (g : Nat → Nat) (i : Nat) : Nat := if i < n then g i else padB n (i - n)
def cntP (n : Nat) : Nat := (n + padL n) / 64
theorem cntP_mul (n : Nat) : 64 * cntP n = n + padL n := by unfold cntP; have := padL_mod n; omega
theorem allB_lt {n : Nat} {g : Nat → Nat} (hg : ∀ i, i < n → g i < 256) (i : Nat) : allB n g i < 256 := by
  unfold allB; split
  · exact hg _ (by omega)
  · exact padB_lt _ _
/-- The pieces taken. -/
def pieceB (t : Nat → Nat) (i : Nat) : Nat → Nat := fun j => t (64 * i + j)
def chain (h k t : Nat → Nat) : Nat → Nat → Nat
  | 0 => h
  | i + 1 => takH (chain h k t i) (schT (pieceB t i) 64) k
theorem chain_lt {h : Nat → Nat} (k t : Nat → Nat) (hh : ∀ j, j < 8 → h j < 4294967296) : ∀ i j, j < 8 → chain h k t i j < 4294967296
  | 0 => hh
  | _ + 1 => fun j _ => takH_lt _ _ _ j
/-- The digest's bytes, of eight words. -/
def outB (h : Nat → Nat) (i : Nat) : Nat := h (i / 4) / 2 ^ (24 - 8 * (i % 4)) % 256
theorem outB_lt (h : Nat → Nat) (i : Nat) : outB h i < 256 := Nat.mod_lt _ (by omega)
end Go.Proofs.YtfjbehobpkmjbaaDoor
