/- RdWords: cut by mkdoor.py out of XWdProg, XWdPut, XWdFill, XWdRef: package words' Put, Take, Fill and citadelref08's Number, Take. Conditions: as each says. -/
import Derived.Test.YtccpecajbfpjdaaDoorPlBase
import Derived.Test.YtccpecajbfpjdaaDoorWdNum
namespace Go.Proofs.YtccpecajbfpjdaaDoor
open Go.ChangeShapes Go.WideShapes Go.ChangeAt Go.RowKit Go.Shelf
set_option linter.unusedVariables false
/-! ### Sizes -/
/-- A number has a size. -/
def fitsN (s : Nat) (z : Int) : Prop := s = 8 ∨ (0 ≤ z ∧ z < 256 ^ s)
instance (s : Nat) (z : Int) : Decidable (fitsN s z) := inferInstanceAs (Decidable (_ ∨ _))
/-- A number's lowest k bytes written at the end of s places from L on. -/
def wrTo (F : Nat → Nat) (L s : Nat) (z : Int) (k : Nat) : Nat → Nat := fun j => if L + s ≤ j + k ∧ j < L + s then dig z (L + s - 1 - j) else F j
theorem wrTo_zero (F : Nat → Nat) (L s : Nat) (z : Int) : wrTo F L s z 0 = F := funext fun j => if_neg (by omega)
theorem wrTo_end (F : Nat → Nat) (L s : Nat) (z : Int) : wrTo F L s z s = put F L s (numF s z) := funext fun j => by
  unfold wrTo put numF
  by_cases h : L ≤ j ∧ j < L + s
  · rw [if_pos (by omega), if_pos h, show s - 1 - (j - L) = L + s - 1 - j by omega]
  · rw [if_neg (by omega), if_neg h]
theorem wrTo_step (F : Nat → Nat) (L s N : Nat) (z : Int) {k : Nat} (hk : k < s) {x : Int} (hx : x = (dig z k : Nat)) : (mk N (wrTo F L s z k)).set (L + (s - 1 - k)) x = mk N (wrTo F L s z (k + 1)) :=
  mk_set_is hx fun j _ => by
    unfold wrTo
    by_cases e : j = L + (s - 1 - k)
    · rw [if_pos e, if_pos (by omega), show L + s - 1 - j = k by omega]
    · rw [if_neg e]
      by_cases h : L + s ≤ j + k ∧ j < L + s
      · rw [if_pos h, if_pos (by omega)]
      · rw [if_neg h, if_neg (by omega)]
theorem valN_succ (k : Nat) (g : Nat → Nat) : valN (k + 1) g = valN k g * 256 + g k := rfl
theorem wrap64_is (x : Int) : wrap64 x = IntKind.i64.wrap x := by rw [IntKind.wrap_i64]; try (unfold wrap64; omega)
section
attribute [local irreducible] wrTo dig valN
end
section

/-- A size that numbers have. -/
def IsSize (s : Int) : Prop := s = 1 ∨ s = 2 ∨ s = 4 ∨ s = 8
/-- Bytes, and others behind them. -/
def cat (n : Nat) (g h : Nat → Nat) : Nat → Nat := fun j => if j < n then g j else h (j - n)
theorem cat_put (n s : Nat) (g h : Nat → Nat) : mk (n + s) (put (extF n g) n s h) = mk (n + s) (cat n g h) := mk_ext fun j hj => by
  unfold put extF cat
  by_cases e : j < n
  · rw [if_neg (by omega), if_pos e, if_pos e]
  · rw [if_pos (by omega), if_neg e]
attribute [local irreducible] dig valN numF extF cat put
theorem extF_all (n : Nat) (g : Nat → Nat) : mk n (extF n g) = mk n g := mk_ext fun j hj => by unfold extF; rw [if_pos hj]
end
section
attribute [local irreducible] mk extF put
end
section

attribute [local irreducible] dig valN numF extF cat put
/-- A number cut to 64 bits. -/
def cutN (z : Int) : Nat := (z % 18446744073709551616).toNat
theorem cutN_dig (z : Int) {i : Nat} (hi : i < 8) : cutN z / 256 ^ i % 256 = dig z i := by
  have h := dig_cut z ((cutN z : Nat) : Int) (by unfold cutN; omega) hi
  rw [h]
  unfold dig
  have e : ((cutN z : Nat) : Int) / 256 ^ i % 256 = ((cutN z / 256 ^ i % 256 : Nat) : Int) := by
    rw [Int.natCast_emod, Int.natCast_ediv, Int.natCast_pow]; rfl
  rw [e]; rfl
theorem cutN_next (z : Int) (i : Nat) : cutN z / 256 ^ i / 256 = cutN z / 256 ^ (i + 1) := by rw [Nat.div_div_eq_div_mul, Nat.pow_succ]
theorem numF_first (k : Nat) (z : Int) : numF (k + 1) z 0 = dig z k := by unfold numF; rw [show k + 1 - 1 - 0 = k by omega]
theorem numF_after (k : Nat) (z : Int) (j : Nat) : numF k z j = numF (k + 1) z (1 + j) := by unfold numF; rw [show k + 1 - 1 - (1 + j) = k - 1 - j by omega]
section
variable {ops : Array Oper} {rest : List Oper} {o : Oper} {a : Act} {w : World} {Q : Exit → Act → World → Prop}
theorem wpList_u64_quo (hgd : o.guard = none) (x : Operand) (ho : o.op = .binOp .quo 71 x (.const (.int .u64 256)) 71) (n m : Nat) (hx : a.eval x = .int .u64 n) (e4 : IntKind.u64.wrap ((n : Int) / 256) = (m : Int))
    (h : wpList Tryd.prog ops Q rest (a.put o.dst (.int .u64 m)) w) : wpList Tryd.prog ops Q (o :: rest) a w :=
  wpList_plain hgd fun _ hK => by
    unfold Oper.wp execOp
    simp only [ho, hx]
    simp [go_sem, e4]
    exact hK _ _ h
end
set_option maxRecDepth 100000 in
set_option maxHeartbeats 1000000 in
theorem refNumber_size (s z : Int) (hs : ¬ IsSize s) (w : World) : Calls Tryd.prog 26 #[.int .i64 s, .int .i64 z] w fun e w' => e = .returned (.tuple #[.slice none 0 0, .int .i64 2]) ∧ w = w' := by
  unfold IsSize at hs
  have d1 : (s != 1) = true := by simp; omega
  have d2 : (s != 2) = true := by simp; omega
  have d4 : (s != 4) = true := by simp; omega
  have d8 : (s != 8) = true := by simp; omega
  clear hs
  go_enter Tryd.func26, Tryd.ntmps26
  go_wp2
  go_ret2
  exact ⟨rfl, rfl⟩
set_option maxRecDepth 100000 in
set_option maxHeartbeats 4000000 in
theorem refNumber_range (s : Nat) (z : Int) (hs : IsSize s) (hz : ¬ fitsN s z) (w : World) : Calls Tryd.prog 26 #[.int .i64 s, .int .i64 z] w fun e w' => e = .returned (.tuple #[.slice none 0 0, .int .i64 1]) ∧ w = w' := by
  unfold fitsN at hz
  rcases hs with hs | hs | hs | hs
  · have hs' : s = 1 := by omega
    subst hs'
    simp only [show (256 : Int) ^ 1 = 256 from rfl] at hz
    by_cases hn : z < 0
    · have x1 : decide ((255 : Int) < z) = false := by simp; omega
      have x2 : decide (z < 0) = true := by simp; omega
      clear hz hn hs
      go_enter Tryd.func26, Tryd.ntmps26
      go_wp2
      go_ret2
      exact ⟨rfl, rfl⟩
    · have x1 : decide ((255 : Int) < z) = true := by simp; omega
      clear hz hn hs
      go_enter Tryd.func26, Tryd.ntmps26
      go_wp2
      go_ret2
      exact ⟨rfl, rfl⟩
  · have hs' : s = 2 := by omega
    subst hs'
    simp only [show (256 : Int) ^ 2 = 65536 from rfl] at hz
    by_cases hn : z < 0
    · have x1 : decide ((65535 : Int) < z) = false := by simp; omega
      have x2 : decide (z < 0) = true := by simp; omega
      clear hz hn hs
      go_enter Tryd.func26, Tryd.ntmps26
      go_wp2
      go_ret2
      exact ⟨rfl, rfl⟩
    · have x1 : decide ((65535 : Int) < z) = true := by simp; omega
      clear hz hn hs
      go_enter Tryd.func26, Tryd.ntmps26
      go_wp2
      go_ret2
      exact ⟨rfl, rfl⟩
  · have hs' : s = 4 := by omega
    subst hs'
    simp only [show (256 : Int) ^ 4 = 4294967296 from rfl] at hz
    by_cases hn : z < 0
    · have x1 : decide ((4294967295 : Int) < z) = false := by simp; omega
      have x2 : decide (z < 0) = true := by simp; omega
      clear hz hn hs
      go_enter Tryd.func26, Tryd.ntmps26
      go_wp2
      go_ret2
      exact ⟨rfl, rfl⟩
    · have x1 : decide ((4294967295 : Int) < z) = true := by simp; omega
      clear hz hn hs
      go_enter Tryd.func26, Tryd.ntmps26
      go_wp2
      go_ret2
      exact ⟨rfl, rfl⟩
  · exact absurd (.inl (by omega)) hz
set_option maxRecDepth 100000 in
set_option maxHeartbeats 8000000 in
theorem refNumber_ok (s : Nat) (z : Int) (hs : IsSize s) (hz : fitsN s z) (w : World) : Calls Tryd.prog 26 #[.int .i64 s, .int .i64 z] w fun e w' => ∃ p c, e = .returned (.tuple #[.slice p s c, .int .i64 0]) ∧ BytesAt w' p s (numF s z) ∧ Below w.heap.size w w' := by
  have hu : IntKind.u64.wrap z = (cutN z : Nat) := by rw [IntKind.wrap_u64]; unfold cutN; omega
  have hs8 : s ≤ 8 := by unfold IsSize at hs; omega
  unfold fitsN at hz
  rcases hs with hs | hs | hs | hs
  case' inl =>
    have d1 : ((s : Int) != 1) = false := by simp; omega
    have g1 : ((s : Int) == 1) = true := by simp; omega
    have g2 : ((s : Int) == 2) = false := by simp; omega
    have g4 : ((s : Int) == 4) = false := by simp; omega
    have g8 : decide ((s : Int) < 8) = true := by simp; omega
    have g88 : decide (s < 8) = true := by simp; omega
    have x0 : 0 ≤ z ∧ z ≤ 255 := by
      rcases hz with h | ⟨h1, h2⟩
      · omega
      · rw [show s = 1 by omega, show (256 : Int) ^ 1 = 256 from rfl] at h2; omega
    have x1 : decide ((255 : Int) < z) = false := by simp; omega
    have x2 : decide (z < 0) = false := by simp; omega
    clear x0
  case' inr.inl =>
    have d1 : ((s : Int) != 1) = true := by simp; omega
    have d2 : ((s : Int) != 2) = false := by simp; omega
    have g1 : ((s : Int) == 1) = false := by simp; omega
    have g2 : ((s : Int) == 2) = true := by simp; omega
    have g4 : ((s : Int) == 4) = false := by simp; omega
    have g8 : decide ((s : Int) < 8) = true := by simp; omega
    have g88 : decide (s < 8) = true := by simp; omega
    have x0 : 0 ≤ z ∧ z ≤ 65535 := by
      rcases hz with h | ⟨h1, h2⟩
      · omega
      · rw [show s = 2 by omega, show (256 : Int) ^ 2 = 65536 from rfl] at h2; omega
    have x1 : decide ((65535 : Int) < z) = false := by simp; omega
    have x2 : decide (z < 0) = false := by simp; omega
    clear x0
  case' inr.inr.inl =>
    have d1 : ((s : Int) != 1) = true := by simp; omega
    have d2 : ((s : Int) != 2) = true := by simp; omega
    have d4 : ((s : Int) != 4) = false := by simp; omega
    have g1 : ((s : Int) == 1) = false := by simp; omega
    have g2 : ((s : Int) == 2) = false := by simp; omega
    have g4 : ((s : Int) == 4) = true := by simp; omega
    have g8 : decide ((s : Int) < 8) = true := by simp; omega
    have g88 : decide (s < 8) = true := by simp; omega
    have x0 : 0 ≤ z ∧ z ≤ 4294967295 := by
      rcases hz with h | ⟨h1, h2⟩
      · omega
      · rw [show s = 4 by omega, show (256 : Int) ^ 4 = 4294967296 from rfl] at h2; omega
    have x1 : decide ((4294967295 : Int) < z) = false := by simp; omega
    have x2 : decide (z < 0) = false := by simp; omega
    clear x0
  case' inr.inr.inr =>
    have d1 : ((s : Int) != 1) = true := by simp; omega
    have d2 : ((s : Int) != 2) = true := by simp; omega
    have d4 : ((s : Int) != 4) = true := by simp; omega
    have d8 : ((s : Int) != 8) = false := by simp; omega
    have g1 : ((s : Int) == 1) = false := by simp; omega
    have g2 : ((s : Int) == 2) = false := by simp; omega
    have g4 : ((s : Int) == 4) = false := by simp; omega
    have g8 : decide ((s : Int) < 8) = false := by simp; omega
    have g88 : decide (s < 8) = false := by simp; omega
  all_goals
    clear hs hz
    go_enter Tryd.func26, Tryd.ntmps26
    go_wp2
    go_loopw [8, 6, 7] (fun v v6 v7 wr => ∃ k : Nat, k ≤ s ∧ v = .int .i64 k ∧ v6 = .int .u64 (cutN z / 256 ^ k : Nat) ∧ OwnS 5 1 wr w.heap.size wr.heap.size v7 k (numF k z) ∧ Below w.heap.size w wr) (fun v _ _ _ => s - (intOf v).toNat)
    case' round =>
      clear hu d1 g1 g2 g4 g8 g88
      try clear d2
      try clear d4
      try clear d8
      try clear x1 x2
    case atStart => exact ⟨0, by omega, rfl, by rw [Nat.pow_zero, Nat.div_one], .inl ⟨rfl, rfl⟩, Below.refl _ _⟩
    case round =>
      obtain ⟨k, hk, rfl, rfl, ho, hb⟩ := hrel
      by_cases hlt : k < s
      · have e1 : (k : Int) < (s : Int) := by omega
        have q1 : IntKind.i64.wrap ((k : Int) + 1) = (k : Int) + 1 := IntWalk.i64_in _ (by omega)
        have hd := cutN_dig z (i := k) (by omega)
        have hn := cutN_next z k
        obtain ⟨v7, c7, rfl, hc7, _, hb7, _⟩ := ho.bytes (Nat.le_refl _)
        generalize hx : cutN z / 256 ^ k = x at *
        have e2 : ((x : Nat) : Int) % 256 = (dig z k : Nat) := by omega
        have hxb : x < 18446744073709551616 := by
          rw [← hx]; exact Nat.lt_of_le_of_lt (Nat.div_le_self _ _) (by unfold cutN; omega)
        obtain ⟨y, hy⟩ : ∃ y, x / 256 = y := ⟨_, rfl⟩
        have e4 : IntKind.u64.wrap ((x : Int) / 256) = (y : Int) := by
          rw [IntKind.wrap_u64]; omega
        rw [hy] at hn
        clear hxb
        have hdl := dig_lt z k
        generalize hb0 : dig z k = b at *
        have HN := Lib.hid hn
        have HB7 := Lib.hid hb7; have HB := Lib.hid hb
        have HF0 := Lib.hid (show numF (k + 1) z 0 = b by rw [numF_first, hb0])
        have E4 := Lib.hid e4
        clear hn hd ho hb7 hb hx hb0 e4 hy
        go_wp2_with (first
          | (refine wpList_u64_quo rfl (.tmp 66) rfl x y rfl E4.out ?_)
          | (refine wpList_append_own_bytes rfl (.tmp 63) (.tmp 64) rfl w.heap.size (wr.heap.size + 1) 1 (.slice (some ⟨wr.heap.size, 0, none⟩) 1 1) (numF (k + 1) z) (numF k z) v7 k c7 rfl rfl (OwnS.one wr _ w.heap.size b HB.out.size HF0.out) (HB7.out.below ((Below.refl _ wr).alloc (Nat.le_refl _) _)) (fun j _ => numF_after k z j) ?own ?bas ?_
             case own => omega
             case bas => have := HB.out.size; simp; omega
             intro v8 w8 ho8 hb8
             obtain ⟨p8, c8, hv8, _⟩ := ho8.bytes (Nat.le_refl _)
             subst hv8
             have O8 := Lib.hid ho8
             have B8 := Lib.hid ((HB.out.alloc HB.out.size (.cells #[.int .u8 (b : Nat)] 5)).trans hb8)
             clear ho8 hb8 HB HB7))
        have hkk := O8.out
        rw [Nat.add_comm 1 k] at hkk
        have HK := Lib.hid hkk
        clear hkk
        go_wp2
        go_roundw
        case rel => exact ⟨k + 1, by omega, by go_num, by rw [← HN.out], by rw [Nat.add_comm 1 k]; exact HK.out, B8.out⟩
        case measure => simp [intOf]; omega
      · have e1 : ¬ (k : Int) < (s : Int) := by omega
        obtain rfl : k = s := by omega
        obtain ⟨v7, c7, rfl, hc7, _, hb7, _⟩ := ho.bytes (Nat.le_refl _)
        have HB7 := Lib.hid hb7; have HB := Lib.hid hb
        clear hb7 hb ho
        go_wp2
        go_ret2
        exact ⟨_, ⟨_, rfl⟩, HB7.out, HB.out⟩
end
end Go.Proofs.YtccpecajbfpjdaaDoor
