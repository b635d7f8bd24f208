/- Package words over this seat: numbers as bytes, Put, Take, Fill, the document's Number. -/
import Derived.Test.YtebbnkkhabehmaaPlFree
import Derived.Test.YtebbnkkhabehmaaRdErr
import Derived.Test.YtebbnkkhabehmaaTrGives
import Derived.OneCell
import Derived.OwnWalkIn
import Derived.OwnWalk
import Derived.TacticsInMore
import Derived.LoopNIn
import Derived.LoopIn
import Derived.Shelf.Abstract
import Derived.Lib.Bytes
import Derived.Sort.Walk0
/- Plain mathematics of numbers as bytes: a number's bytes, highest first, and the number of bytes; where rows begin. Condition: the bytes are bytes. -/
namespace Go.Proofs.Ytebbnkkhabehmaa
open Go Go.RowKit

/-- Byte i of a number, from the lowest on. -/
def dig (n : Int) (i : Nat) : Nat := (n / 256 ^ i % 256).toNat
theorem dig_lt (n : Int) (i : Nat) : dig n i < 256 := by unfold dig; omega
theorem dig_int (n : Int) (i : Nat) : n / 256 ^ i % 256 = (dig n i : Nat) := by unfold dig; omega
theorem dig_shift (n : Int) (i : Nat) : n / 2 ^ (8 * i) % 256 = (dig n i : Nat) := by
  rw [← dig_int, Int.pow_mul]; rfl
/-- A number's bytes, the highest first. -/
def numF (s : Nat) (n : Int) : Nat → Nat := fun j => dig n (s - 1 - j)
theorem numF_lt (s : Nat) (n : Int) (j : Nat) : numF s n j < 256 := dig_lt _ _
/-- The number that bytes are. -/
def valN : Nat → (Nat → Nat) → Nat
  | 0, _ => 0
  | k + 1, g => valN k g * 256 + g k
theorem valN_lt {g : Nat → Nat} : ∀ (k : Nat), (∀ i, i < k → g i < 256) → valN k g < 256 ^ k
  | 0, _ => by simp [valN]
  | k + 1, h => by
    have := valN_lt k (fun i hi => h i (by omega))
    have hk := h k (by omega)
    rw [Nat.pow_succ]; show valN k g * 256 + g k < _; omega
theorem valN_ext {g g' : Nat → Nat} : ∀ (k : Nat), (∀ i, i < k → g i = g' i) → valN k g = valN k g'
  | 0, _ => rfl
  | k + 1, h => by unfold valN; rw [valN_ext k (fun i hi => h i (by omega)), h k (by omega)]
/-- The bytes of the number that bytes are. -/
theorem valN_dig {g : Nat → Nat} : ∀ (k : Nat), (∀ i, i < k → g i < 256) → ∀ j, j < k → valN k g / 256 ^ (k - 1 - j) % 256 = g j
  | 0, _, j, hj => absurd hj (Nat.not_lt_zero _)
  | k + 1, h, j, hj => by
    have hk := h k (by omega)
    by_cases e : j = k
    · subst e
      rw [show j + 1 - 1 - j = 0 by omega, Nat.pow_zero, Nat.div_one]; show (valN j g * 256 + g j) % 256 = _; omega
    · have ih := valN_dig k (fun i hi => h i (by omega)) j (by omega)
      rw [show k + 1 - 1 - j = (k - 1 - j) + 1 by omega, Nat.pow_succ, Nat.mul_comm, ← Nat.div_div_eq_div_mul]
      have : valN (k + 1) g / 256 = valN k g := by show (valN k g * 256 + g k) / 256 = _; omega
      rw [this]; exact ih
theorem numF_val {g : Nat → Nat} {s : Nat} (h : ∀ i, i < s → g i < 256) {j : Nat} (hj : j < s) : numF s (valN s g : Nat) j = g j := by
  have := valN_dig s h j hj
  unfold numF dig
  have e : ((valN s g : Nat) : Int) / 256 ^ (s - 1 - j) % 256 = ((valN s g / 256 ^ (s - 1 - j) % 256 : Nat) : Int) := by
    rw [Int.natCast_emod, Int.natCast_ediv, Int.natCast_pow]; rfl
  rw [e, this]; rfl
/-- A number cut to 64 bits has the same eight bytes. -/
theorem dig_cut (n m : Int) (h : n % 18446744073709551616 = m % 18446744073709551616) {i : Nat} (hi : i < 8) : dig n i = dig m i := by
  unfold dig
  match i, hi with
  | 0, _ => simp; omega
  | 1, _ => simp; omega
  | 2, _ => simp; omega
  | 3, _ => simp; omega
  | 4, _ => simp; omega
  | 5, _ => simp; omega
  | 6, _ => simp; omega
  | 7, _ => simp; omega
theorem wrap_mod (z : Int) : IntKind.i64.wrap z % 18446744073709551616 = z % 18446744073709551616 := by
  rw [IntKind.wrap_i64]; omega
theorem numF_wrap {s : Nat} (hs : s ≤ 8) (z : Int) {j : Nat} (hj : j < s) : numF s (IntKind.i64.wrap z) j = numF s z j := dig_cut _ _ (wrap_mod z) (by omega)
/-- What a number of a size is taken as again. -/
theorem valN_numF (n : Int) : ∀ (s k : Nat), k ≤ s → ((valN k (numF s n) : Nat) : Int) = n / 256 ^ (s - k) % 256 ^ k
  | s, 0, _ => by rw [Int.pow_zero, Int.emod_one]; rfl
  | s, k + 1, hk => by
    have ih := valN_numF n s k (by omega)
    have e1 : s - k = (s - (k + 1)) + 1 := by omega
    show (((valN k (numF s n)) * 256 + numF s n k : Nat) : Int) = _
    rw [Int.natCast_add, Int.natCast_mul, ih]
    have e2 : ((numF s n k : Nat) : Int) = n / 256 ^ (s - (k + 1)) % 256 := by
      unfold numF; rw [show s - 1 - k = s - (k + 1) by omega, dig_int]
    rw [e2, e1, Int.pow_succ, ← Int.ediv_ediv_of_nonneg (Int.pow_nonneg (by omega))]
    generalize n / 256 ^ (s - (k + 1)) = m
    rw [Int.pow_succ (256 : Int) k]
    have hp : (0 : Int) < 256 ^ k := Int.pow_pos (by omega)
    generalize (256 : Int) ^ k = q at *
    have h1 := Int.mul_ediv_add_emod (m / 256) q
    have h2 := Int.emod_nonneg (m / 256) (show q ≠ 0 by omega)
    have h3 := Int.emod_lt_of_pos (m / 256) hp
    have h4 : m = (q * 256) * (m / 256 / q) + (m / 256 % q * 256 + m % 256) := by
      have := Int.mul_ediv_add_emod m 256
      have e : (q * 256) * (m / 256 / q) = 256 * (q * (m / 256 / q)) := by rw [Int.mul_comm q 256, Int.mul_assoc]
      omega
    have h5 : 0 ≤ m / 256 % q * 256 + m % 256 := by omega
    have h6 : m / 256 % q * 256 + m % 256 < q * 256 := by omega
    have h7 : m % (q * 256) = (m / 256 % q * 256 + m % 256) := by
      conv => lhs; rw [h4]
      rw [Int.add_comm, Int.add_mul_emod_self_left]
      exact Int.emod_eq_of_lt h5 h6
    exact h7.symm
theorem val_back (s : Nat) (n : Int) : ((valN s (numF s n) : Nat) : Int) = n % 256 ^ s := by
  rw [valN_numF n s s (Nat.le_refl _), Nat.sub_self]; simp
/-- Shifted by a byte and joined with one: 64 bits. -/
theorem shl_or {v x : Nat} (hx : x < 256) : bits .or .i64 (IntKind.i64.wrap ((v : Int) * 256)) (x : Int) = IntKind.i64.wrap (((v * 256 + x : Nat)) : Int) := by
  have e64 : ((2 ^ 64 : Nat) : Int) = 18446744073709551616 := by decide +kernel
  have e1 : (BitVec.ofInt 64 (IntKind.i64.wrap ((v : Int) * 256))).toNat = v * 256 % 2 ^ 64 := by
    rw [BitVec.toNat_ofInt]
    have := wrap_mod ((v : Int) * 256)
    rw [e64, this]; omega
  have e2 : (BitVec.ofInt 64 (x : Int)).toNat = x := by rw [BitVec.toNat_ofInt, e64]; omega
  have e : (BitVec.ofInt 64 (IntKind.i64.wrap ((v : Int) * 256)) ||| BitVec.ofInt 64 (x : Int)).toNat = v * 256 % 2 ^ 64 + x := by
    rw [BitVec.toNat_or, e1, e2]
    obtain ⟨a, ha⟩ : ∃ a, v * 256 % 2 ^ 64 = a * 256 := ⟨v * 256 % 2 ^ 64 / 256, by omega⟩
    rw [ha]
    have := Nat.shiftLeft_add_eq_or_of_lt (i := 8) (b := x) (by omega) a
    rw [Nat.shiftLeft_eq, show (2 : Nat) ^ 8 = 256 from rfl] at this
    omega
  show IntKind.wrap .i64 ((BitVec.ofInt 64 (IntKind.i64.wrap ((v : Int) * 256)) ||| BitVec.ofInt 64 (x : Int)).toNat : Int) = _
  rw [e, IntKind.wrap_i64, IntKind.wrap_i64]
  omega

/-! ### Rows -/
/-- The number of the two bytes at a place. -/
def lenAt (g : Nat → Nat) (p : Nat) : Nat := g p * 256 + g (p + 1)
/-- The rows that n bytes begin with: M of them, at places P 0, P 1 .., the last one's end is P M. -/
structure RowsOf (n : Nat) (g : Nat → Nat) (M : Nat) (P : Nat → Nat) : Prop where
  zero : P 0 = 0
  next : ∀ i, i < M → P (i + 1) = P i + 2 + lenAt g (P i)
  room : ∀ i, i < M → P i + 2 + lenAt g (P i) ≤ n
  stop : n < P M + 2 ∨ n < P M + 2 + lenAt g (P M)
theorem rows_from (n : Nat) (g : Nat → Nat) : ∀ (fuel p : Nat), n + 1 ≤ fuel + p → ∃ (M : Nat) (P : Nat → Nat), P 0 = p ∧ (∀ i, i < M → P (i + 1) = P i + 2 + lenAt g (P i)) ∧ (∀ i, i < M → P i + 2 + lenAt g (P i) ≤ n) ∧ (n < P M + 2 ∨ n < P M + 2 + lenAt g (P M))
  | 0, p, h => ⟨0, fun _ => p, rfl, fun i hi => absurd hi (Nat.not_lt_zero _), fun i hi => absurd hi (Nat.not_lt_zero _), .inl (by show n < p + 2; omega)⟩
  | f + 1, p, h => by
    by_cases hs : n < p + 2 ∨ n < p + 2 + lenAt g p
    · exact ⟨0, fun _ => p, rfl, fun i hi => absurd hi (Nat.not_lt_zero _), fun i hi => absurd hi (Nat.not_lt_zero _), hs⟩
    · obtain ⟨M, P, h0, h1, h2, h3⟩ := rows_from n g f (p + 2 + lenAt g p) (by omega)
      refine ⟨M + 1, fun i => match i with | 0 => p | i + 1 => P i, rfl, fun i hi => ?_, fun i hi => ?_, h3⟩
      · match i with
        | 0 => exact h0
        | i + 1 => exact h1 i (by omega)
      · match i with
        | 0 => show p + 2 + lenAt g p ≤ n; omega
        | i + 1 => exact h2 i (by omega)
theorem rows_are (n : Nat) (g : Nat → Nat) : ∃ (M : Nat) (P : Nat → Nat), RowsOf n g M P := by
  obtain ⟨M, P, h0, h1, h2, h3⟩ := rows_from n g (n + 1) 0 (by omega)
  exact ⟨M, P, h0, h1, h2, h3⟩
namespace RowsOf
variable {n : Nat} {g : Nat → Nat} {M : Nat} {P : Nat → Nat}
theorem most (h : RowsOf n g M P) : ∀ i, i ≤ M → 2 * i ≤ P i
  | 0, _ => by rw [h.zero]; omega
  | i + 1, hi => by have := h.most i (by omega); rw [h.next i (by omega)]; omega
theorem le (h : RowsOf n g M P) : ∀ i, i ≤ M → P i ≤ n
  | 0, _ => by rw [h.zero]; omega
  | i + 1, hi => by rw [h.next i (by omega)]; exact h.room i (by omega)
theorem count (h : RowsOf n g M P) : 2 * M ≤ n := Nat.le_trans (h.most M (Nat.le_refl _)) (h.le M (Nat.le_refl _))
end RowsOf
end Go.Proofs.Ytebbnkkhabehmaa

/- The contracts of package words' small functions: good, fits, extend, write, read. Conditions: the bytes are bytes; what is asked of lengths stands at each. -/
namespace Go.Proofs.Ytebbnkkhabehmaa
open Go.ChangeShapes Go.WideShapes Go.ChangeAt Go.RowKit
set_option linter.unusedVariables false

section
variable {ops : Array Oper} {rest : List Oper} {o : Oper} {a : Act} {w : World} {Q : Exit → Act → World → Prop}
end

/-! ### Sizes -/
theorem good_yes (s : Int) (h : s = 1 ∨ s = 2 ∨ s = 4 ∨ s = 8) (w : World) : Calls Try.prog 36 #[.int .i64 s] w fun e w' => e = .returned (.bool true) ∧ w = w' := by
  rcases h with rfl | rfl | rfl | rfl <;>
  · go_enter Try.func36, Try.ntmps36
    go_wp2
    go_ret
    exact ⟨rfl, rfl⟩
theorem good_no (s : Int) (h1 : s ≠ 1) (h2 : s ≠ 2) (h4 : s ≠ 4) (h8 : s ≠ 8) (w : World) : Calls Try.prog 36 #[.int .i64 s] w fun e w' => e = .returned (.bool false) ∧ w = w' := by
  have d1 : (s == 1) = false := by simp; exact h1
  have d2 : (s == 2) = false := by simp; exact h2
  have d4 : (s == 4) = false := by simp; exact h4
  have d8 : (s == 8) = false := by simp; exact h8
  clear h1 h2 h4 h8
  go_enter Try.func36, Try.ntmps36
  go_wp2
  go_ret
  exact ⟨rfl, rfl⟩
/-- A number has a size. -/
def fitsN (s : Nat) (z : Int) : Prop := s = 8 ∨ (0 ≤ z ∧ z < 256 ^ s)
instance (s : Nat) (z : Int) : Decidable (fitsN s z) := inferInstanceAs (Decidable (_ ∨ _))
set_option maxHeartbeats 1000000 in
theorem fits_any (s : Nat) (h : s = 1 ∨ s = 2 ∨ s = 4 ∨ s = 8) (z : Int) (w : World) : Calls Try.prog 37 #[.int .i64 s, .int .i64 z] w fun e w' => e = .returned (.bool (decide (fitsN s z))) ∧ w = w' := by
  rcases h with rfl | rfl | rfl | rfl
  · have d1 : (z / 256 == 0) = decide (fitsN 1 z) := by
      unfold fitsN
      rw [Bool.eq_iff_iff]
      simp only [beq_iff_eq, decide_eq_true_eq, show (256 : Int) ^ 1 = 256 from rfl]
      omega
    go_enter Try.func37, Try.ntmps37
    go_wp2
    go_ret
    exact ⟨rfl, rfl⟩
  · have d1 : (z / 65536 == 0) = decide (fitsN 2 z) := by
      unfold fitsN
      rw [Bool.eq_iff_iff]
      simp only [beq_iff_eq, decide_eq_true_eq, show (256 : Int) ^ 2 = 65536 from rfl]
      omega
    go_enter Try.func37, Try.ntmps37
    go_wp2
    go_ret
    exact ⟨rfl, rfl⟩
  · have d1 : (z / 4294967296 == 0) = decide (fitsN 4 z) := by
      unfold fitsN
      rw [Bool.eq_iff_iff]
      simp only [beq_iff_eq, decide_eq_true_eq, show (256 : Int) ^ 4 = 4294967296 from rfl]
      omega
    go_enter Try.func37, Try.ntmps37
    go_wp2
    go_ret
    exact ⟨rfl, rfl⟩
  · have hf : decide (fitsN 8 z) = true := by simp [fitsN]
    rw [hf]; clear hf
    go_enter Try.func37, Try.ntmps37
    go_wp2
    go_ret
    exact ⟨rfl, rfl⟩

/-! ### Bytes made longer, written, read -/
set_option maxRecDepth 100000 in
set_option maxHeartbeats 1000000 in
theorem extend_any (p : Option Addr) (n cap : Nat) (g : Nat → Nat) (more N : Nat) (hN : N = n + more) (hm : N ≤ 140737488355328) (w : World) (hp : BytesAt w p n g) :
    Calls Try.prog 38 #[.slice p n cap, .int .i64 more] w fun e w' => e = .returned (.slice (some ⟨w.heap.size, 0, none⟩) N N) ∧ IntBlk w' w.heap.size .u8 5 (mk N (extF n g)) ∧ Below w.heap.size w w' := by
  have q1 : IntKind.i64.wrap ((n : Int) + (more : Int)) = (N : Int) := by rw [IntWalk.i64_in _ (by omega)]; omega
  have b1 : Below w.heap.size w (w.alloc (.cells (cellsOf .u8 (mk N zeroK)) 5)) := (Below.refl _ w).alloc (Nat.le_refl _) _
  have hnN : n ≤ N := by omega
  have hz := IntBlk.new w .u8 5 (mk N zeroK)
  have HZ := Lib.hid hz
  have B1 := Lib.hid b1
  have e1 : min (n : Int) (N : Int) = (n : Int) := by omega
  have HE := Lib.hid (extF_put n N g)
  have HP := Lib.hid (hp.below b1)
  clear hN hz b1 hp
  go_enter Try.func38, Try.ntmps38
  go_wp2_with (first
    | (refine wpList_noughts rfl _ _ rfl N hm rfl rfl ?_)
    | (refine wpList_copy_bytes rfl _ _ rfl w.heap.size 0 N N N zeroK _ rfl p n cap (fun _ => rfl) g rfl 5 HZ.out hnN ?own HP.out ?_
       case own => omega
       intro v w2 hr2 hb2 hs2))
  go_ret
  exact ⟨rfl, by rw [← HE.out]; exact hr2, B1.out.trans (hb2.below (Nat.le_refl _) (by simp))⟩

/-- A number's lowest k bytes written at the end of s places from L on. -/
def wrTo (F : Nat → Nat) (L s : Nat) (z : Int) (k : Nat) : Nat → Nat := fun j => if L + s ≤ j + k ∧ j < L + s then dig z (L + s - 1 - j) else F j
theorem wrTo_zero (F : Nat → Nat) (L s : Nat) (z : Int) : wrTo F L s z 0 = F := funext fun j => if_neg (by omega)
theorem wrTo_end (F : Nat → Nat) (L s : Nat) (z : Int) : wrTo F L s z s = put F L s (numF s z) := funext fun j => by
  unfold wrTo put numF
  by_cases h : L ≤ j ∧ j < L + s
  · rw [if_pos (by omega), if_pos h, show s - 1 - (j - L) = L + s - 1 - j by omega]
  · rw [if_neg (by omega), if_neg h]
theorem wrTo_step (F : Nat → Nat) (L s N : Nat) (z : Int) {k : Nat} (hk : k < s) {x : Int} (hx : x = (dig z k : Nat)) : (mk N (wrTo F L s z k)).set (L + (s - 1 - k)) x = mk N (wrTo F L s z (k + 1)) :=
  mk_set_is hx fun j _ => by
    unfold wrTo
    by_cases e : j = L + (s - 1 - k)
    · rw [if_pos e, if_pos (by omega), show L + s - 1 - j = k by omega]
    · rw [if_neg e]
      by_cases h : L + s ≤ j + k ∧ j < L + s
      · rw [if_pos h, if_pos (by omega)]
      · rw [if_neg h, if_neg (by omega)]
theorem valN_succ (k : Nat) (g : Nat → Nat) : valN (k + 1) g = valN k g * 256 + g k := rfl
theorem wrap64_is (x : Int) : wrap64 x = IntKind.i64.wrap x := by rw [IntKind.wrap_i64]; try (unfold wrap64; omega)
attribute [local irreducible] wrTo dig valN
set_option maxRecDepth 100000 in
set_option maxHeartbeats 1000000 in
theorem write_any (D L s cap N : Nat) (z : Int) (F : Nat → Nat) (hs : s ≤ 8) (hN : L + s ≤ N) (hNN : N ≤ 140737488355328) (w : World) (hD : IntBlk w D .u8 5 (mk N F)) :
    Calls Try.prog 39 #[.slice (some ⟨D, L, none⟩) s cap, .int .i64 z] w fun e w' => (∃ v, e = .returned v) ∧ IntBlk w' D .u8 5 (mk N (put F L s (numF s z))) ∧ But D w w' := by
  have HD := Lib.hid hD
  clear hD
  go_enter Try.func39, Try.ntmps39
  go_wp2
  go_loopw [7] (fun v wr => ∃ k : Nat, k ≤ s ∧ v = .int .i64 k ∧ IntBlk wr D .u8 5 (mk N (wrTo F L s z k)) ∧ But D w wr) (fun v _ => s - (intOf v).toNat)
  case atStart => exact ⟨0, by omega, rfl, by rw [wrTo_zero]; exact HD.out, .of (Below.refl _ _)⟩
  case round =>
    clear HD
    obtain ⟨k, hk, rfl, ha, hb⟩ := hrel
    have HA := Lib.hid ha; have HB := Lib.hid hb
    by_cases hlt : k < s
    · have e1 : (k : Int) < (s : Int) := by omega
      have e0 : IntKind.i64.wrap ((s : Int) - 1) = ((s - 1 : Nat) : Int) := by rw [IntWalk.i64_in _ (by omega)]; omega
      have e2 : IntKind.i64.wrap (((s - 1 : Nat) : Int) - (k : Int)) = ((s - 1 - k : Nat) : Int) := by rw [IntWalk.i64_in _ (by omega)]; omega
      have e3 : IntKind.i64.wrap (8 * (k : Int)) = ((8 * k : Nat) : Int) := by rw [IntWalk.i64_in _ (by omega)]; omega
      have e4 : ((s - 1 - k : Nat) : Int) < (s : Int) := by omega
      have e6 : s - 1 - k < s := by omega
      have e5 : (0 : Int) ≤ ((8 * k : Nat) : Int) := by omega
      have c1 := ha.cell (i := L + (s - 1 - k)) (by rw [mk_len]; omega)
      have f1 := ha.free (L + (s - 1 - k))
      have HV := Lib.hid (fun (x : Int) (hx : x = z / 2 ^ (8 * k) % 256) => wrTo_step F L s N z hlt (x := x) (by rw [hx, dig_shift]))
      clear ha hb
      generalize hm1 : s - 1 = s1 at *
      generalize hm2 : s1 - k = m at *
      generalize hm8 : 8 * k = m8 at *
      go_wp2
      go_roundw
      case rel => exact ⟨k + 1, by omega, by go_num, by rw [← HV.out _ rfl]; exact HA.out.set (L + m) _, HB.out.trans (.setCell _ _ _ _)⟩
      case measure => simp [intOf]; omega
    · have e1 : ¬ (k : Int) < (s : Int) := by omega
      obtain rfl : k = s := by omega
      clear ha hb
      go_wp2
      refine bodyPost_end (results_none rfl _ _ _) rfl ?_
      rw [wrTo_end] at HA
      exact ⟨⟨_, rfl⟩, HA.out, HB.out⟩
set_option maxRecDepth 100000 in
set_option maxHeartbeats 1000000 in
theorem read_any (p : Option Addr) (n cap : Nat) (g : Nat → Nat) (hg : ∀ i, i < n → g i < 256) (hn : n ≤ 8) (w : World) (hp : BytesAt w p n g) :
    Calls Try.prog 43 #[.slice p n cap] w fun e w' => e = .returned (.int .i64 (IntKind.i64.wrap (valN n g : Nat))) ∧ w = w' := by
  have HP := Lib.hid hp
  clear hp
  have hv : ∀ k, k ≤ n → valN k g < 256 ^ 8 := fun k hk => Nat.lt_of_lt_of_le (valN_lt k (fun i hi => hg i (by omega))) (Nat.pow_le_pow_right (by omega) (by omega))
  go_enter Try.func43, Try.ntmps43
  go_wp2
  go_loopw [8, 3] (fun v v3 wr => ∃ k : Nat, k ≤ n ∧ v = .int .i64 k ∧ v3 = .int .i64 (IntKind.i64.wrap (valN k g : Nat)) ∧ w = wr) (fun v _ _ => n - (intOf v).toNat)
  case atStart => exact ⟨0, by omega, rfl, by unfold valN; rfl, rfl⟩
  case round =>
    obtain ⟨k, hk, rfl, rfl, rfl⟩ := hrel
    by_cases hlt : k < n
    · have e1 : (k : Int) < (n : Int) := by omega
      obtain ⟨B, o, rfl, c1⟩ : ∃ B o, p = some ⟨B, o, none⟩ ∧ w.cell? ⟨B, o + k, none⟩ = some (.int .u8 (g k : Nat)) := by
        rcases HP.out with h | ⟨B, o, h, _, hc⟩
        · omega
        · exact ⟨B, o, h, hc k hlt⟩
      have HS := Lib.hid (show bits .or .i64 (IntKind.i64.wrap (IntKind.i64.wrap (valN k g : Nat) * 256)) (g k : Nat) = IntKind.i64.wrap (valN (k + 1) g : Nat) by
        have h1 : IntKind.i64.wrap (IntKind.i64.wrap (valN k g : Nat) * 256) = IntKind.i64.wrap ((valN k g : Nat) * 256) := by
          rw [IntKind.wrap_i64, IntKind.wrap_i64, IntKind.wrap_i64]; omega
        rw [h1, shl_or (hg k hlt), valN_succ])
      have hgk := hg k hlt
      clear hv hg
      generalize IntKind.i64.wrap (valN k g : Nat) = u at *
      go_wp2
      go_roundw
      case rel => exact ⟨k + 1, by omega, by go_num, by rw [← HS.out]; simp [wrap64_is], trivial⟩
      case measure => simp [intOf]; omega
    · have e1 : ¬ (k : Int) < (n : Int) := by omega
      obtain rfl : k = n := by omega
      go_wp2
      go_ret
      exact ⟨rfl, rfl⟩
end Go.Proofs.Ytebbnkkhabehmaa

/- Slices taken of slices of bytes, in plain regions and in those whose order is drawn; operations that only compute; numbers put and taken, rows: the contracts of package words' rowEnd, Put, Take, Row, TakeRow. Conditions: as each says. -/
namespace Go.Proofs.Ytebbnkkhabehmaa
open Go.ChangeShapes Go.WideShapes Go.ChangeAt Go.RowKit
set_option linter.unusedVariables false

section
variable {ops : Array Oper} {rest : List Oper} {o : Oper} {a : Act} {w : World} {Q : Exit → Act → World → Prop}
end
section
variable {o : Oper} {a : Act} {C : World → Prop} {K : Act → Prop}
end
/-! ### Rows' ends -/
attribute [local irreducible] dig valN
theorem valN_two (g : Nat → Nat) (at' : Nat) : valN 2 (fun j => g (at' + j)) = lenAt g at' := by unfold valN valN valN lenAt; simp
theorem lenAt_lt {g : Nat → Nat} {n p : Nat} (hg : ∀ i, i < n → g i < 256) (h : p + 2 ≤ n) : lenAt g p < 65536 := by
  have := hg p (by omega); have := hg (p + 1) (by omega); unfold lenAt; omega
theorem wrap_len {g : Nat → Nat} {n p : Nat} (hg : ∀ i, i < n → g i < 256) (h : p + 2 ≤ n) : IntKind.i64.wrap (lenAt g p : Nat) = (lenAt g p : Nat) := IntWalk.i64_in _ (by have := lenAt_lt hg h; omega)
end Go.Proofs.Ytebbnkkhabehmaa

/- The contracts of package words' Put, Take, Row and TakeRow. Conditions: rows of no more than 2^47 bytes with what is put behind them; what is asked of sizes and numbers stands at each. -/
namespace Go.Proofs.Ytebbnkkhabehmaa
open Go.ChangeShapes Go.WideShapes Go.ChangeAt Go.RowKit Go.Shelf
set_option linter.unusedVariables false

/-- A size that numbers have. -/
def IsSize (s : Int) : Prop := s = 1 ∨ s = 2 ∨ s = 4 ∨ s = 8
/-- Bytes, and others behind them. -/
def cat (n : Nat) (g h : Nat → Nat) : Nat → Nat := fun j => if j < n then g j else h (j - n)
theorem cat_put (n s : Nat) (g h : Nat → Nat) : mk (n + s) (put (extF n g) n s h) = mk (n + s) (cat n g h) := mk_ext fun j hj => by
  unfold put extF cat
  by_cases e : j < n
  · rw [if_neg (by omega), if_pos e, if_pos e]
  · rw [if_pos (by omega), if_neg e]
attribute [local irreducible] dig valN numF extF cat put
set_option maxRecDepth 100000 in
set_option maxHeartbeats 1000000 in
theorem Put_form (p : Option Addr) (n cap : Nat) (s z : Int) (hs : ¬ IsSize s) (w : World) : Calls Try.prog 23 #[.slice p n cap, .int .i64 s, .int .i64 z] w fun e w' => e = .returned (.tuple #[.slice none 0 0, .iface 35 (.int .i64 2)]) ∧ w = w' := by
  unfold IsSize at hs
  have GC := Lib.hid (fun W => good_no s (by omega) (by omega) (by omega) (by omega) W)
  clear hs
  go_enter Try.func23, Try.ntmps23
  go_wp2_with (first
    | (go_at_call 36; refine (GC.out _).mono ?_; rintro e w1 ⟨rfl, rfl⟩; clear GC))
  go_ret2
  exact ⟨rfl, rfl⟩
set_option maxRecDepth 100000 in
set_option maxHeartbeats 1000000 in
theorem Put_range (p : Option Addr) (n cap : Nat) (s : Nat) (z : Int) (hs : IsSize s) (hz : ¬ fitsN s z) (w : World) : Calls Try.prog 23 #[.slice p n cap, .int .i64 s, .int .i64 z] w fun e w' => e = .returned (.tuple #[.slice none 0 0, .iface 35 (.int .i64 1)]) ∧ w = w' := by
  unfold IsSize at hs
  have GC := Lib.hid (fun W => good_yes s (by omega) W)
  have FC := Lib.hid (fun W => fits_any s (by omega) z W)
  rw [decide_eq_false hz] at FC
  clear hs hz
  go_enter Try.func23, Try.ntmps23
  go_wp2_with (first
    | (go_at_call 36; refine (GC.out _).mono ?_; rintro e w1 ⟨rfl, rfl⟩; clear GC)
    | (go_at_call 37; refine (FC.out _).mono ?_; rintro e w2 ⟨rfl, rfl⟩; clear FC))
  go_ret2
  exact ⟨rfl, rfl⟩
set_option maxRecDepth 100000 in
set_option maxHeartbeats 1000000 in
theorem Put_ok (p : Option Addr) (n cap : Nat) (g : Nat → Nat) (s : Nat) (z : Int) (hs : IsSize s) (hz : fitsN s z) (hn : n ≤ 140737488351232) (w : World) (hp : BytesAt w p n g) :
    Calls Try.prog 23 #[.slice p n cap, .int .i64 s, .int .i64 z] w fun e w' => e = .returned (.tuple #[.slice (some ⟨w.heap.size, 0, none⟩) (n + s) (n + s), .nilIface]) ∧ IntBlk w' w.heap.size .u8 5 (mk (n + s) (cat n g (numF s z))) ∧ Below w.heap.size w w' := by
  unfold IsSize at hs
  have GC := Lib.hid (fun W => good_yes s (by omega) W)
  have FC := Lib.hid (fun W => fits_any s (by omega) z W)
  rw [decide_eq_true hz] at FC
  obtain ⟨N, hN⟩ : ∃ N, n + s = N := ⟨_, rfl⟩
  have EC := Lib.hid (extend_any p n cap g s N hN.symm (by omega) w hp)
  have q1 : n ≤ N := by omega
  have q2 : n < N := by omega
  have q3 : N - n = s := by omega
  have WC := Lib.hid (fun (W : World) h => write_any w.heap.size n s s N z (extF n g) (by omega) (by omega) (by omega) W h)
  have HE := Lib.hid (cat_put n s g (numF s z))
  rw [hN] at HE ⊢
  clear hs hz hn hN hp
  go_enter Try.func23, Try.ntmps23
  go_wp2_with (first
    | (go_at_call 36; refine (GC.out _).mono ?_; rintro e w1 ⟨rfl, rfl⟩; clear GC)
    | (go_at_call 37; refine (FC.out _).mono ?_; rintro e w2 ⟨rfl, rfl⟩; clear FC)
    | (go_at_call 38; refine EC.out.mono ?_; rintro e w3 ⟨rfl, hr3, hb3⟩; have R3 := Lib.hid hr3; have B3 := Lib.hid hb3; clear EC hr3 hb3)
    | (refine wpList_tail rfl _ _ rfl (some ⟨w.heap.size, 0, none⟩) N N n n rfl rfl rfl q1 (Nat.le_refl _) ?_; intro p' _ hp'; rw [hp' _ 0 n rfl (Nat.zero_add n).symm q2, q3]; clear hp')
    | (go_at_call 39; refine (WC.out w3 R3.out).mono ?_; rintro e w4 ⟨⟨v4, rfl⟩, hr4, hb4⟩; have R4 := Lib.hid hr4; have B4 := Lib.hid (B3.out.trans (hb4.below (Nat.le_refl _) B3.out.size)); clear WC hr4 hb4 B3 R3))
  go_ret2
  exact ⟨rfl, by rw [← HE.out]; exact R4.out, B4.out⟩
theorem extF_all (n : Nat) (g : Nat → Nat) : mk n (extF n g) = mk n g := mk_ext fun j hj => by unfold extF; rw [if_pos hj]
/-- Bytes as new memory. -/
theorem clone_any (p : Option Addr) (n cap : Nat) (g : Nat → Nat) (hn : n ≤ 140737488355328) (w : World) (hp : BytesAt w p n g) :
    Calls Try.prog 38 #[.slice p n cap, .int .i64 0] w fun e w' => e = .returned (.slice (some ⟨w.heap.size, 0, none⟩) n n) ∧ IntBlk w' w.heap.size .u8 5 (mk n g) ∧ Below w.heap.size w w' := by
  have := extend_any p n cap g 0 n (by omega) hn w hp
  rwa [extF_all] at this
set_option maxRecDepth 100000 in
set_option maxHeartbeats 1000000 in
theorem Take_size (p : Option Addr) (n cap : Nat) (s : Int) (hs : ¬ IsSize s) (w : World) : Calls Try.prog 40 #[.slice p n cap, .int .i64 s] w fun e w' => e = .returned (.tuple #[.int .i64 0, .slice none 0 0, .iface 35 (.int .i64 2)]) ∧ w = w' := by
  unfold IsSize at hs
  have GC := Lib.hid (fun W => good_no s (by omega) (by omega) (by omega) (by omega) W)
  clear hs
  go_enter Try.func40, Try.ntmps40
  go_wp2_with (first
    | (go_at_call 36; refine (GC.out _).mono ?_; rintro e w1 ⟨rfl, rfl⟩; clear GC))
  go_ret3
  exact ⟨rfl, rfl⟩
set_option maxRecDepth 100000 in
set_option maxHeartbeats 1000000 in
theorem Take_short (p : Option Addr) (n cap : Nat) (s : Nat) (hs : IsSize s) (h : n < s) (w : World) : Calls Try.prog 40 #[.slice p n cap, .int .i64 s] w fun e w' => e = .returned (.tuple #[.int .i64 0, .slice none 0 0, .iface 35 (.int .i64 2)]) ∧ w = w' := by
  unfold IsSize at hs
  have GC := Lib.hid (fun W => good_yes s (by omega) W)
  have d1 : decide ((n : Int) < (s : Int)) = true := by simp; omega
  have d2 : decide (n < s) = true := by simp; omega
  clear hs h
  go_enter Try.func40, Try.ntmps40
  go_wp2_with (first
    | (go_at_call 36; refine (GC.out _).mono ?_; rintro e w1 ⟨rfl, rfl⟩; clear GC))
  go_ret3
  exact ⟨rfl, rfl⟩
set_option maxRecDepth 100000 in
set_option maxHeartbeats 1000000 in
theorem Take_ok (p : Option Addr) (n cap : Nat) (g : Nat → Nat) (hg : ∀ i, i < n → g i < 256) (s : Nat) (hs : IsSize s) (h : s ≤ n) (hcap : n ≤ cap) (hn : n ≤ 140737488355328) (w : World) (hp : BytesAt w p n g) :
    Calls Try.prog 40 #[.slice p n cap, .int .i64 s] w fun e w' => ∃ D, e = .returned (.tuple #[.int .i64 (IntKind.i64.wrap (valN s g : Nat)), .slice (some ⟨D, 0, none⟩) (n - s) (n - s), .nilIface]) ∧ IntBlk w' D .u8 5 (mk (n - s) (fun j => g (s + j))) ∧ w.heap.size ≤ D ∧ Below w.heap.size w w' := by
  unfold IsSize at hs
  have GC := Lib.hid (fun W => good_yes s (by omega) W)
  have d1 : decide ((n : Int) < (s : Int)) = false := by simp; omega
  have d2 : decide (n < s) = false := by simp; omega
  have k1 : s ≤ cap := by omega
  have RC := Lib.hid (fun W hW => read_any p s cap g (fun i hi => hg i (by omega)) (by omega) W hW)
  have EC := Lib.hid (fun q W hW => clone_any q (n - s) (cap - s) (fun j => g (s + j)) (by omega) W hW)
  have HP := Lib.hid (fun (W : World) (hb : Below w.heap.size w W) => (hp.below hb).upto (k := s) h)
  have HQ := Lib.hid (fun q (hq : Behind p n s (n - s) q) (W : World) (hb : Below w.heap.size w W) => hq W g (hp.below hb))
  have c0 : Below w.heap.size w w.drew := (Below.refl _ w).drew
  clear hs hp hn hg
  go_enter Try.func40, Try.ntmps40
  go_wp2_with (first
    | (go_at_call 36; refine (GC.out _).mono ?_; rintro e w1 ⟨rfl, rfl⟩; clear GC))
  refine wp_region_sched [(0, true), (1, true), (2, true), (4, true), (5, true), (6, true), (3, false), (7, false), (8, true), (9, true), (10, true)] (fun W => Below w.heap.size w W) (by kernel_rfl) (by kernel_rfl) c0 ?_
  refine walk_float rfl rfl (fun K' hK' => ?_)
  refine gives_move _ rfl ?_
  go_simp
  refine hK' _ ?_
  clear hK' K'
  refine walk_float rfl rfl (fun K' hK' => ?_)
  refine gives_move _ rfl ?_
  go_simp
  refine hK' _ ?_
  clear hK' K'
  refine walk_float rfl rfl (fun K' hK' => ?_)
  refine gives_upto _ _ rfl p n cap s s rfl rfl rfl k1 ?_
  go_simp
  refine hK' _ ?_
  clear hK' K'
  refine walk_float rfl rfl (fun K' hK' => ?_)
  refine gives_move _ rfl ?_
  go_simp
  refine hK' _ ?_
  clear hK' K'
  refine walk_float rfl rfl (fun K' hK' => ?_)
  refine gives_move _ rfl ?_
  go_simp
  refine hK' _ ?_
  clear hK' K'
  refine walk_float rfl rfl (fun K' hK' => ?_)
  refine gives_tail _ _ rfl p n cap s s rfl rfl rfl h hcap ?_
  intro q hq
  go_simp
  refine hK' _ ?_
  clear hK' K'
  refine walk_done rfl rfl (fun K' hK' => ?_)
  refine done_enter1 _ _ _ rfl 43 rfl (enters_of Try.func43 (by kernel_rfl) rfl) _ rfl _ (RC.out _ (HP.out _ c0)) ?_
  rintro e w1 ⟨rfl, rfl⟩
  refine ⟨_, rfl, c0, ?_⟩
  go_simp
  refine hK' _ _ ?_
  clear hK' K'
  refine walk_done rfl rfl (fun K' hK' => ?_)
  refine done_enter2 _ _ _ _ rfl 38 rfl (enters_of Try.func38 (by kernel_rfl) rfl) _ _ rfl rfl _ (EC.out q _ (HQ.out q hq _ c0)) ?_
  rintro e w2 ⟨rfl, hr2, hb2⟩
  have B2 := c0.trans hb2
  refine ⟨_, rfl, B2, ?_⟩
  go_simp
  refine hK' _ _ ?_
  clear hK' K'
  refine walk_float rfl rfl (fun K' hK' => ?_)
  refine gives_assign _ rfl ?_
  go_simp
  refine hK' _ ?_
  clear hK' K'
  refine walk_float rfl rfl (fun K' hK' => ?_)
  refine gives_assign _ rfl ?_
  go_simp
  refine hK' _ ?_
  clear hK' K'
  refine walk_float rfl rfl (fun K' hK' => ?_)
  refine gives_assign _ rfl ?_
  go_simp
  refine hK' _ ?_
  clear hK' K'
  refine walk_nil ?_
  go_wp2
  go_ret3
  exact ⟨_, rfl, hr2, Nat.le_refl _, B2⟩
theorem row_put (n m N : Nat) (hN : n + (2 + m) = N) (g h G : Nat → Nat) : mk N (put (put (extF n g) n 2 h) (n + 2) m G) = mk N (cat n g (cat 2 h G)) := mk_ext fun j hj => by
  unfold put extF cat
  by_cases e : j < n
  · rw [if_neg (by omega), if_neg (by omega), if_pos e, if_pos e]
  · rw [show (if j < n then g j else if j - n < 2 then h (j - n) else G (j - n - 2)) = (if j - n < 2 then h (j - n) else G (j - n - 2)) from if_neg e]
    by_cases e2 : j < n + 2
    · rw [if_neg (by omega), if_pos (by omega), if_pos (by omega)]
    · rw [if_pos (by omega), if_neg (by omega), show j - (n + 2) = j - n - 2 by omega]
end Go.Proofs.Ytebbnkkhabehmaa

/- The contracts of the document's own Number, Take and Row. Conditions: as each says. -/
namespace Go.Proofs.Ytebbnkkhabehmaa
open Go.ChangeShapes Go.WideShapes Go.ChangeAt Go.RowKit Go.Shelf
set_option linter.unusedVariables false

attribute [local irreducible] dig valN numF extF cat put
/-- A number cut to 64 bits. -/
def cutN (z : Int) : Nat := (z % 18446744073709551616).toNat
theorem cutN_dig (z : Int) {i : Nat} (hi : i < 8) : cutN z / 256 ^ i % 256 = dig z i := by
  have h := dig_cut z ((cutN z : Nat) : Int) (by unfold cutN; omega) hi
  rw [h]
  unfold dig
  have e : ((cutN z : Nat) : Int) / 256 ^ i % 256 = ((cutN z / 256 ^ i % 256 : Nat) : Int) := by
    rw [Int.natCast_emod, Int.natCast_ediv, Int.natCast_pow]; rfl
  rw [e]; rfl
theorem cutN_next (z : Int) (i : Nat) : cutN z / 256 ^ i / 256 = cutN z / 256 ^ (i + 1) := by rw [Nat.div_div_eq_div_mul, Nat.pow_succ]
theorem numF_first (k : Nat) (z : Int) : numF (k + 1) z 0 = dig z k := by unfold numF; rw [show k + 1 - 1 - 0 = k by omega]
theorem numF_after (k : Nat) (z : Int) (j : Nat) : numF k z j = numF (k + 1) z (1 + j) := by unfold numF; rw [show k + 1 - 1 - (1 + j) = k - 1 - j by omega]
section
variable {ops : Array Oper} {rest : List Oper} {o : Oper} {a : Act} {w : World} {Q : Exit → Act → World → Prop}
theorem wpList_u64_quo (hgd : o.guard = none) (x : Operand) (ho : o.op = .binOp .quo 71 x (.const (.int .u64 256)) 71) (n m : Nat) (hx : a.eval x = .int .u64 n) (e4 : IntKind.u64.wrap ((n : Int) / 256) = (m : Int))
    (h : wpList Try.prog ops Q rest (a.put o.dst (.int .u64 m)) w) : wpList Try.prog ops Q (o :: rest) a w :=
  wpList_plain hgd fun _ hK => by
    unfold Oper.wp execOp
    simp only [ho, hx]
    simp [go_sem, e4]
    exact hK _ _ h
end
set_option maxRecDepth 100000 in
set_option maxHeartbeats 1000000 in
theorem refNumber_size (s z : Int) (hs : ¬ IsSize s) (w : World) : Calls Try.prog 25 #[.int .i64 s, .int .i64 z] w fun e w' => e = .returned (.tuple #[.slice none 0 0, .int .i64 2]) ∧ w = w' := by
  unfold IsSize at hs
  have d1 : (s != 1) = true := by simp; omega
  have d2 : (s != 2) = true := by simp; omega
  have d4 : (s != 4) = true := by simp; omega
  have d8 : (s != 8) = true := by simp; omega
  clear hs
  go_enter Try.func25, Try.ntmps25
  go_wp2
  go_ret2
  exact ⟨rfl, rfl⟩
set_option maxRecDepth 100000 in
set_option maxHeartbeats 4000000 in
theorem refNumber_range (s : Nat) (z : Int) (hs : IsSize s) (hz : ¬ fitsN s z) (w : World) : Calls Try.prog 25 #[.int .i64 s, .int .i64 z] w fun e w' => e = .returned (.tuple #[.slice none 0 0, .int .i64 1]) ∧ w = w' := by
  unfold fitsN at hz
  rcases hs with hs | hs | hs | hs
  · have hs' : s = 1 := by omega
    subst hs'
    simp only [show (256 : Int) ^ 1 = 256 from rfl] at hz
    by_cases hn : z < 0
    · have x1 : decide ((255 : Int) < z) = false := by simp; omega
      have x2 : decide (z < 0) = true := by simp; omega
      clear hz hn hs
      go_enter Try.func25, Try.ntmps25
      go_wp2
      go_ret2
      exact ⟨rfl, rfl⟩
    · have x1 : decide ((255 : Int) < z) = true := by simp; omega
      clear hz hn hs
      go_enter Try.func25, Try.ntmps25
      go_wp2
      go_ret2
      exact ⟨rfl, rfl⟩
  · have hs' : s = 2 := by omega
    subst hs'
    simp only [show (256 : Int) ^ 2 = 65536 from rfl] at hz
    by_cases hn : z < 0
    · have x1 : decide ((65535 : Int) < z) = false := by simp; omega
      have x2 : decide (z < 0) = true := by simp; omega
      clear hz hn hs
      go_enter Try.func25, Try.ntmps25
      go_wp2
      go_ret2
      exact ⟨rfl, rfl⟩
    · have x1 : decide ((65535 : Int) < z) = true := by simp; omega
      clear hz hn hs
      go_enter Try.func25, Try.ntmps25
      go_wp2
      go_ret2
      exact ⟨rfl, rfl⟩
  · have hs' : s = 4 := by omega
    subst hs'
    simp only [show (256 : Int) ^ 4 = 4294967296 from rfl] at hz
    by_cases hn : z < 0
    · have x1 : decide ((4294967295 : Int) < z) = false := by simp; omega
      have x2 : decide (z < 0) = true := by simp; omega
      clear hz hn hs
      go_enter Try.func25, Try.ntmps25
      go_wp2
      go_ret2
      exact ⟨rfl, rfl⟩
    · have x1 : decide ((4294967295 : Int) < z) = true := by simp; omega
      clear hz hn hs
      go_enter Try.func25, Try.ntmps25
      go_wp2
      go_ret2
      exact ⟨rfl, rfl⟩
  · exact absurd (.inl (by omega)) hz
set_option maxRecDepth 100000 in
set_option maxHeartbeats 8000000 in
theorem refNumber_ok (s : Nat) (z : Int) (hs : IsSize s) (hz : fitsN s z) (w : World) : Calls Try.prog 25 #[.int .i64 s, .int .i64 z] w fun e w' => ∃ p c, e = .returned (.tuple #[.slice p s c, .int .i64 0]) ∧ BytesAt w' p s (numF s z) ∧ Below w.heap.size w w' := by
  have hu : IntKind.u64.wrap z = (cutN z : Nat) := by rw [IntKind.wrap_u64]; unfold cutN; omega
  have hs8 : s ≤ 8 := by unfold IsSize at hs; omega
  unfold fitsN at hz
  rcases hs with hs | hs | hs | hs
  case' inl =>
    have d1 : ((s : Int) != 1) = false := by simp; omega
    have g1 : ((s : Int) == 1) = true := by simp; omega
    have g2 : ((s : Int) == 2) = false := by simp; omega
    have g4 : ((s : Int) == 4) = false := by simp; omega
    have g8 : decide ((s : Int) < 8) = true := by simp; omega
    have g88 : decide (s < 8) = true := by simp; omega
    have x0 : 0 ≤ z ∧ z ≤ 255 := by
      rcases hz with h | ⟨h1, h2⟩
      · omega
      · rw [show s = 1 by omega, show (256 : Int) ^ 1 = 256 from rfl] at h2; omega
    have x1 : decide ((255 : Int) < z) = false := by simp; omega
    have x2 : decide (z < 0) = false := by simp; omega
    clear x0
  case' inr.inl =>
    have d1 : ((s : Int) != 1) = true := by simp; omega
    have d2 : ((s : Int) != 2) = false := by simp; omega
    have g1 : ((s : Int) == 1) = false := by simp; omega
    have g2 : ((s : Int) == 2) = true := by simp; omega
    have g4 : ((s : Int) == 4) = false := by simp; omega
    have g8 : decide ((s : Int) < 8) = true := by simp; omega
    have g88 : decide (s < 8) = true := by simp; omega
    have x0 : 0 ≤ z ∧ z ≤ 65535 := by
      rcases hz with h | ⟨h1, h2⟩
      · omega
      · rw [show s = 2 by omega, show (256 : Int) ^ 2 = 65536 from rfl] at h2; omega
    have x1 : decide ((65535 : Int) < z) = false := by simp; omega
    have x2 : decide (z < 0) = false := by simp; omega
    clear x0
  case' inr.inr.inl =>
    have d1 : ((s : Int) != 1) = true := by simp; omega
    have d2 : ((s : Int) != 2) = true := by simp; omega
    have d4 : ((s : Int) != 4) = false := by simp; omega
    have g1 : ((s : Int) == 1) = false := by simp; omega
    have g2 : ((s : Int) == 2) = false := by simp; omega
    have g4 : ((s : Int) == 4) = true := by simp; omega
    have g8 : decide ((s : Int) < 8) = true := by simp; omega
    have g88 : decide (s < 8) = true := by simp; omega
    have x0 : 0 ≤ z ∧ z ≤ 4294967295 := by
      rcases hz with h | ⟨h1, h2⟩
      · omega
      · rw [show s = 4 by omega, show (256 : Int) ^ 4 = 4294967296 from rfl] at h2; omega
    have x1 : decide ((4294967295 : Int) < z) = false := by simp; omega
    have x2 : decide (z < 0) = false := by simp; omega
    clear x0
  case' inr.inr.inr =>
    have d1 : ((s : Int) != 1) = true := by simp; omega
    have d2 : ((s : Int) != 2) = true := by simp; omega
    have d4 : ((s : Int) != 4) = true := by simp; omega
    have d8 : ((s : Int) != 8) = false := by simp; omega
    have g1 : ((s : Int) == 1) = false := by simp; omega
    have g2 : ((s : Int) == 2) = false := by simp; omega
    have g4 : ((s : Int) == 4) = false := by simp; omega
    have g8 : decide ((s : Int) < 8) = false := by simp; omega
    have g88 : decide (s < 8) = false := by simp; omega
  all_goals
    clear hs hz
    go_enter Try.func25, Try.ntmps25
    go_wp2
    go_loopw [8, 6, 7] (fun v v6 v7 wr => ∃ k : Nat, k ≤ s ∧ v = .int .i64 k ∧ v6 = .int .u64 (cutN z / 256 ^ k : Nat) ∧ OwnS 5 1 wr w.heap.size wr.heap.size v7 k (numF k z) ∧ Below w.heap.size w wr) (fun v _ _ _ => s - (intOf v).toNat)
    case' round =>
      clear hu d1 g1 g2 g4 g8 g88
      try clear d2
      try clear d4
      try clear d8
      try clear x1 x2
    case atStart => exact ⟨0, by omega, rfl, by rw [Nat.pow_zero, Nat.div_one], .inl ⟨rfl, rfl⟩, Below.refl _ _⟩
    case round =>
      obtain ⟨k, hk, rfl, rfl, ho, hb⟩ := hrel
      by_cases hlt : k < s
      · have e1 : (k : Int) < (s : Int) := by omega
        have q1 : IntKind.i64.wrap ((k : Int) + 1) = (k : Int) + 1 := IntWalk.i64_in _ (by omega)
        have hd := cutN_dig z (i := k) (by omega)
        have hn := cutN_next z k
        obtain ⟨v7, c7, rfl, hc7, _, hb7, _⟩ := ho.bytes (Nat.le_refl _)
        generalize hx : cutN z / 256 ^ k = x at *
        have e2 : ((x : Nat) : Int) % 256 = (dig z k : Nat) := by omega
        have hxb : x < 18446744073709551616 := by
          rw [← hx]; exact Nat.lt_of_le_of_lt (Nat.div_le_self _ _) (by unfold cutN; omega)
        obtain ⟨y, hy⟩ : ∃ y, x / 256 = y := ⟨_, rfl⟩
        have e4 : IntKind.u64.wrap ((x : Int) / 256) = (y : Int) := by
          rw [IntKind.wrap_u64]; omega
        rw [hy] at hn
        clear hxb
        have hdl := dig_lt z k
        generalize hb0 : dig z k = b at *
        have HN := Lib.hid hn
        have HB7 := Lib.hid hb7; have HB := Lib.hid hb
        have HF0 := Lib.hid (show numF (k + 1) z 0 = b by rw [numF_first, hb0])
        have E4 := Lib.hid e4
        clear hn hd ho hb7 hb hx hb0 e4 hy
        go_wp2_with (first
          | (refine wpList_u64_quo rfl (.tmp 66) rfl x y rfl E4.out ?_)
          | (refine wpList_append_own_bytes rfl (.tmp 63) (.tmp 64) rfl w.heap.size (wr.heap.size + 1) 1 (.slice (some ⟨wr.heap.size, 0, none⟩) 1 1) (numF (k + 1) z) (numF k z) v7 k c7 rfl rfl (OwnS.one wr _ w.heap.size b HB.out.size HF0.out) (HB7.out.below ((Below.refl _ wr).alloc (Nat.le_refl _) _)) (fun j _ => numF_after k z j) ?own ?bas ?_
             case own => omega
             case bas => have := HB.out.size; simp; omega
             intro v8 w8 ho8 hb8
             obtain ⟨p8, c8, hv8, _⟩ := ho8.bytes (Nat.le_refl _)
             subst hv8
             have O8 := Lib.hid ho8
             have B8 := Lib.hid ((HB.out.alloc HB.out.size (.cells #[.int .u8 (b : Nat)] 5)).trans hb8)
             clear ho8 hb8 HB HB7))
        have hkk := O8.out
        rw [Nat.add_comm 1 k] at hkk
        have HK := Lib.hid hkk
        clear hkk
        go_wp2
        go_roundw
        case rel => exact ⟨k + 1, by omega, by go_num, by rw [← HN.out], by rw [Nat.add_comm 1 k]; exact HK.out, B8.out⟩
        case measure => simp [intOf]; omega
      · have e1 : ¬ (k : Int) < (s : Int) := by omega
        obtain rfl : k = s := by omega
        obtain ⟨v7, c7, rfl, hc7, _, hb7, _⟩ := ho.bytes (Nat.le_refl _)
        have HB7 := Lib.hid hb7; have HB := Lib.hid hb
        clear hb7 hb ho
        go_wp2
        go_ret2
        exact ⟨_, ⟨_, rfl⟩, HB7.out, HB.out⟩
end Go.Proofs.Ytebbnkkhabehmaa

/- Numbers put behind nothing; appends to a row that is full or grows; strings of numbers' bytes, ordered; a number that is put and taken. Conditions: as each says. -/
namespace Go.Proofs.Ytebbnkkhabehmaa
open Go.ChangeShapes Go.WideShapes Go.ChangeAt Go.RowKit
set_option linter.unusedVariables false

theorem cat_none (g h : Nat → Nat) : cat 0 g h = h := funext fun j => by unfold cat; rw [if_neg (by omega), Nat.sub_zero]
theorem Put_new (cap : Nat) (s : Nat) (z : Int) (hs : IsSize s) (hz : fitsN s z) (w : World) :
    Calls Try.prog 23 #[.slice none 0 cap, .int .i64 s, .int .i64 z] w fun e w' => e = .returned (.tuple #[.slice (some ⟨w.heap.size, 0, none⟩) s s, .nilIface]) ∧ IntBlk w' w.heap.size .u8 5 (mk s (numF s z)) ∧ Below w.heap.size w w' := by
  have := Put_ok none 0 cap zeroK s z hs hz (by omega) w (.inl rfl)
  rwa [Nat.zero_add, cat_none] at this

/-! ### A number put and taken -/
theorem val_fits {s : Nat} {z : Int} (hs : IsSize s) (hz : fitsN s z) (hb : -9223372036854775808 ≤ z ∧ z ≤ 9223372036854775807) : IntKind.i64.wrap (valN s (numF s z) : Nat) = z := by
  rw [val_back, IntKind.wrap_i64]
  unfold fitsN at hz
  unfold IsSize at hs
  rcases (show s = 1 ∨ s = 2 ∨ s = 4 ∨ s = 8 by omega) with rfl | rfl | rfl | rfl
  · rw [show (256 : Int) ^ 1 = 256 from rfl] at *; omega
  · rw [show (256 : Int) ^ 2 = 65536 from rfl] at *; omega
  · rw [show (256 : Int) ^ 4 = 4294967296 from rfl] at *; omega
  · rw [show (256 : Int) ^ 8 = 18446744073709551616 from rfl] at *; omega
theorem fits_val {s : Nat} {g : Nat → Nat} (hs : IsSize s) (hg : ∀ i, i < s → g i < 256) : fitsN s (IntKind.i64.wrap (valN s g : Nat)) := by
  have h := valN_lt s hg
  unfold IsSize at hs
  unfold fitsN
  rw [IntKind.wrap_i64]
  generalize valN s g = v at *
  rcases (show s = 1 ∨ s = 2 ∨ s = 4 ∨ s = 8 by omega) with rfl | rfl | rfl | rfl
  · rw [show (256 : Int) ^ 1 = 256 from rfl]; rw [show (256 : Nat) ^ 1 = 256 from rfl] at h; omega
  · rw [show (256 : Int) ^ 2 = 65536 from rfl]; rw [show (256 : Nat) ^ 2 = 65536 from rfl] at h; omega
  · rw [show (256 : Int) ^ 4 = 4294967296 from rfl]; rw [show (256 : Nat) ^ 4 = 4294967296 from rfl] at h; omega
  · exact .inl rfl
theorem numF_back {s : Nat} {g : Nat → Nat} (hs : IsSize s) (hg : ∀ i, i < s → g i < 256) {j : Nat} (hj : j < s) : numF s (IntKind.i64.wrap (valN s g : Nat)) j = g j := by
  rw [numF_wrap (by unfold IsSize at hs; omega) _ hj, numF_val hg hj]

/-! ### Appends -/
theorem IntBlk.ownS {w : World} {D s base : Nat} {F : Nat → Nat} (h : IntBlk w D .u8 5 (mk s F)) (hb : base ≤ D) (hs : s ≤ 140737488355328) : OwnS 5 1 w base w.heap.size (.slice (some ⟨D, 0, none⟩) s s) s F := by
  refine .inr ⟨D, s, cellsOf .u8 (mk s F), rfl, hb, h.lt, h, Nat.le_refl _, by simp only [maxLen]; omega, by rw [cellsOf_size, mk_len, Nat.mul_one], ?_⟩
  rw [Nat.mul_one]
  have e : (cellsOf .u8 (mk s F)).toList = bytesList s F := by unfold cellsOf mk bytesList; simp
  rw [e, List.take_of_length_le (by rw [bytesList_len]; exact Nat.le_refl _)]
theorem append_own_run {base top k : Nat} {v : Value} {F f : Nat → Nat} (w : World) (ty : TypeId) (hv : OwnS 5 1 w base top v k F) (p : Option Addr) (n cap : Nat) (hp : BytesAt w p n f) (hf : ∀ j, j < n → f j = F (k + j)) (hk : k + n ≤ 140737488355328) (hbase : base ≤ w.heap.size) :
    ∃ v' w', (Builtin.append_ #[22, 22] ty #[v, .slice p n cap]).run Try.prog w = .ok v' w' ∧ OwnS 5 1 w' base w'.heap.size v' (k + n) F ∧ Below base w w' := by
  have hi := byteInfo
  have hz := byteZero1
  have hb := byteBytes1
  cases hq : Try.prog.info? 5 with
  | none => rw [hq] at hi; simp at hi
  | some i =>
    rw [hq] at hi hb hz
    have hsz : i.size = 1 := by simpa using hi
    have hzz : i.zero = some (.int .u8 0) := by simpa using hz
    have hby : i.bytes = 1 := by simpa using hb
    by_cases h0 : n = 0
    · subst h0
      have hsrc : Src Try.prog i.size 22 (.slice p 0 cap) 0 [] w := by
        cases p with
        | none => exact Src.ofNil w bytesUnder cap
        | some ad => exact Src.ofSlice w bytesUnder ad 0 cap [] (by simp) (fun j u hu => by simp at hu) (fun u hu => by cases hu)
      have hrow := hv.owns
      obtain ⟨q, c, rfl, hc⟩ : ∃ q c, v = .slice q k c ∧ k ≤ c := by
        rcases hv with ⟨h1, h2⟩ | ⟨B, c, cur, h1, _, _, _, h5, _⟩
        · subst h2; exact ⟨none, 0, h1, Nat.le_refl _⟩
        · exact ⟨_, c, h1, h5⟩
      exact ⟨_, w, run_append_nothing (P := Try.prog) w 22 22 ty 5 i bytesUnder hq q k c hc (.slice p 0 cap) hsrc, OwnS.of_owns hrow, Below.refl _ _⟩
    · rcases hp with hp | ⟨B, off, rfl, hB, hc⟩
      · exact absurd hp h0
      · obtain ⟨v', w', hrun, r1, r2, _⟩ := run_append_own (P := Try.prog) w base 22 ty 5 i (.int .u8 0) 1 1 bytesUnder hq hzz hsz hby rfl (by omega)
          v k (bytesList (k * 1) F) hv.owns ⟨B, off, none⟩ n cap (bytesList n f) (by rw [bytesList_len, Nat.mul_one]) (fun j u hj => by
            obtain ⟨hj1, rfl⟩ := bytesList_get hj
            rw [addr_add]; exact hc j hj1) bytesList_one (by simp only [maxLen]; omega) (by omega) hbase
        rw [bytesList_more (k * 1) n F f (fun j hj => by rw [Nat.mul_one]; exact hf j hj), show k * 1 + n = (k + n) * 1 by omega] at r1
        exact ⟨v', w', hrun, OwnS.of_owns r1, below_own r2 hv.block hbase⟩
/-- Bytes appended to a block of bytes: what comes of it. -/
theorem append_blk {w : World} {D s base : Nat} {F : Nat → Nat} (ty : TypeId) (h : IntBlk w D .u8 5 (mk s F)) (hb : base ≤ D) (p : Option Addr) (n cap : Nat) (g : Nat → Nat) (hp : BytesAt w p n g) (hk : s + n ≤ 140737488355328) :
    ∃ p' c' w', (Builtin.append_ #[22, 22] ty #[.slice (some ⟨D, 0, none⟩) s s, .slice p n cap]).run Try.prog w = .ok (.slice p' (s + n) c') w' ∧ BytesAt w' p' (s + n) (cat s F g) ∧ s + n ≤ c' ∧ Below base w w' := by
  have hlt := h.lt
  obtain ⟨v', w', hr, ho, hbl⟩ := append_own_run w ty ((h.ownS hb (by omega)).congr (F' := cat s F g) (fun j hj => by unfold cat; rw [if_pos hj])) p n cap hp (fun j hj => by unfold cat; rw [if_neg (by omega), Nat.add_sub_cancel_left]) hk (by omega)
  obtain ⟨p', c', rfl, hc, _, hbb, _⟩ := ho.bytes (Nat.le_refl _)
  exact ⟨p', c', w', hr, hbb, hc, hbl⟩
section
variable {ops : Array Oper} {rest : List Oper} {o : Oper} {a : Act} {w : World} {Q : Exit → Act → World → Prop}
theorem wpList_append (hw : Region.wanted o (yielded ops a.tmps) = true) (s x : Operand) (t tn : TypeId)
    (ho : o.op = .call { callee := .builtin .append, args := #[s, x], argTypes := #[t, tn] }) (vs vx : Value) (hs : a.eval s = vs) (hx : a.eval x = vx)
    (v' : Value) (w' : World) (hr : (Builtin.append_ #[t, tn] o.type #[vs, vx]).run Try.prog w = .ok v' w') (h : wpList Try.prog ops Q rest (a.put o.dst v') w') : wpList Try.prog ops Q (o :: rest) a w :=
  wanted_step hw fun K hK => by
    unfold Oper.wp
    simp [execOp, ho, resolve, invoke, builtin, hs, hx, hr, Result.andThen]
    exact hK _ _ h
/-- A string of bytes; the operation may have a guard that is met. -/
theorem wpList_string_w (hw : Region.wanted o (yielded ops a.tmps) = true) (x : Operand) (ho : o.op = .convert 22 9 x) (p : Option Addr) (n cap : Nat) (hx : a.eval x = .slice p n cap) (g : Nat → Nat) (hp : BytesAt w p n g)
    (h : wpList Try.prog ops Q rest (a.put o.dst (.string (strOfNums (mk n g)))) w) : wpList Try.prog ops Q (o :: rest) a w := by
  have hr : (convert 22 9 (.slice p n cap)).run Try.prog w = .ok (.string (strOfNums (mk n g))) w := by
    by_cases h0 : n = 0
    · subst h0
      rw [run_convert_bytes_string w _ _ 5 p 0 cap bytesUnder byteUnder1 stringUnder1]
      cases p with
      | none => rfl
      | some ad =>
        rw [run_bytesToString w ad 0 cap [] (by simpa using run_loadCells_list (P := Try.prog) w ad [] (fun j v hj => by simp at hj))]
        rfl
    · rcases hp with hp | ⟨B, off, rfl, hB, hc⟩
      · exact absurd hp h0
      · exact run_convert_bytes_arg w _ 5 bytesUnder byteUnder1 B off n cap (mk n g) (mk_len n g) (fun i hi => by rw [mk_get hi]; exact hc i hi) _ stringUnder1
  refine wanted_step hw fun K hK => ?_
  unfold Oper.wp execOp
  simp only [ho]
  simp [hx, hr]
  exact hK _ _ h
end

/-! ### The order of numbers' strings -/
def valU (l : List UInt8) : Nat := l.foldl (fun v x => v * 256 + x.toNat) 0
theorem foldU (l : List UInt8) : ∀ v, l.foldl (fun v x => v * 256 + x.toNat) v = v * 256 ^ l.length + valU l := by
  induction l with
  | nil => intro v; simp [valU]
  | cons a l ih =>
    intro v
    unfold valU
    rw [List.foldl_cons, List.foldl_cons, ih, ih (0 * 256 + a.toNat), List.length_cons, Nat.pow_succ, Nat.zero_mul, Nat.zero_add, Nat.add_mul]
    rw [Nat.mul_assoc, Nat.mul_comm 256, ← Nat.mul_assoc]; omega
theorem valU_cons (a : UInt8) (l : List UInt8) : valU (a :: l) = a.toNat * 256 ^ l.length + valU l := by
  show List.foldl _ _ l = _
  rw [foldU]; simp
theorem valU_lt (l : List UInt8) : valU l < 256 ^ l.length := by
  induction l with
  | nil => simp [valU]
  | cons a l ih =>
    rw [valU_cons, List.length_cons, Nat.pow_succ]
    have h := a.toNat_lt
    have : (a.toNat + 1) * 256 ^ l.length ≤ 256 * 256 ^ l.length := Nat.mul_le_mul_right _ (by omega)
    rw [Nat.add_mul, Nat.one_mul] at this
    rw [Nat.mul_comm (256 ^ l.length)]; omega
theorem less_is : ∀ (x y : List UInt8), x.length = y.length → Op.bytesLess x y = decide (valU x < valU y)
  | [], [], _ => by simp [Op.bytesLess, valU]
  | a :: x, b :: y, h => by
    have hl : x.length = y.length := by simpa using h
    have ih := less_is x y hl
    unfold Op.bytesLess
    rw [ih, valU_cons, valU_cons, hl]
    have hx := valU_lt x
    have hy := valU_lt y
    rw [hl] at hx
    generalize 256 ^ y.length = P at *
    rw [Bool.eq_iff_iff]
    simp only [Bool.or_eq_true, Bool.and_eq_true, beq_iff_eq, decide_eq_true_eq, UInt8.lt_iff_toNat_lt, ← UInt8.toNat_inj]
    constructor
    · rintro (h | ⟨h, h2⟩)
      · have : (a.toNat + 1) * P ≤ b.toNat * P := Nat.mul_le_mul_right _ h
        rw [Nat.add_mul, Nat.one_mul] at this; omega
      · rw [h]; omega
    · intro h2
      rcases Nat.lt_trichotomy a.toNat b.toNat with h | h | h
      · exact .inl h
      · rw [h] at h2; exact .inr ⟨h, by omega⟩
      · have : (b.toNat + 1) * P ≤ a.toNat * P := Nat.mul_le_mul_right _ h
        rw [Nat.add_mul, Nat.one_mul] at this; omega
theorem valU_str (s : Nat) (f : Nat → Nat) (hf : ∀ i, f i < 256) : valU ((mk s f).map fun n => UInt8.ofNat n.toNat) = valN s f := by
  induction s with
  | zero => rfl
  | succ s ih =>
    unfold mk at ih ⊢
    rw [List.range_succ, List.map_append, List.map_append]
    unfold valU at ih ⊢
    rw [List.foldl_append, ih]
    show valN s f * 256 + (UInt8.ofNat ((f s : Int).toNat)).toNat = _
    rw [Int.toNat_natCast, UInt8.toNat_ofNat']
    have := hf s
    show _ = valN s f * 256 + f s
    omega
theorem str_less {s : Nat} {f g : Nat → Nat} (hf : ∀ i, f i < 256) (hg : ∀ i, g i < 256) : Op.bytesLess (strOfNums (mk s f)).toList (strOfNums (mk s g)).toList = decide (valN s f < valN s g) := by
  rw [Lib.toList_data, Lib.toList_data, strOfNums_data, strOfNums_data, less_is _ _ (by simp [mk]), valU_str s f hf, valU_str s g hg]
theorem num_less {s : Nat} {a b : Int} (hs : IsSize s) (ha : fitsN s a) (hb : fitsN s b) (ha0 : 0 ≤ a) (hb0 : 0 ≤ b) (ha1 : a ≤ 9223372036854775807) (hb1 : b ≤ 9223372036854775807) : Op.bytesLess (strOfNums (mk s (numF s a))).toList (strOfNums (mk s (numF s b))).toList = decide (a < b) := by
  rw [str_less (numF_lt s a) (numF_lt s b)]
  have h1 := val_back s a
  have h2 := val_back s b
  have e1 : a % 256 ^ s = a := by
    rcases ha with rfl | ⟨_, h⟩
    · rw [show (256 : Int) ^ 8 = 18446744073709551616 from rfl]; omega
    · exact Int.emod_eq_of_lt ha0 h
  have e2 : b % 256 ^ s = b := by
    rcases hb with rfl | ⟨_, h⟩
    · rw [show (256 : Int) ^ 8 = 18446744073709551616 from rfl]; omega
    · exact Int.emod_eq_of_lt hb0 h
  rw [e1] at h1; rw [e2] at h2
  rw [Bool.eq_iff_iff, decide_eq_true_eq, decide_eq_true_eq]
  omega
end Go.Proofs.Ytebbnkkhabehmaa

/- Sectors by value: made, built, loaded, laid, compared; the contract of package words' Fill. Conditions: as each says. -/
namespace Go.Proofs.Ytebbnkkhabehmaa
open Go.ChangeShapes Go.WideShapes Go.ChangeAt Go.RowKit
set_option linter.unusedVariables false

section
variable {ops : Array Oper} {rest : List Oper} {o : Oper} {a : Act} {w : World} {Q : Exit → Act → World → Prop}
end
attribute [local irreducible] mk extF put
end Go.Proofs.Ytebbnkkhabehmaa
