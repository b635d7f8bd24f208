/- Numbers put behind nothing; appends to a row that is full or grows; strings of numbers' bytes, ordered; a number that is put and taken. Conditions: as each says. -/
import Derived.Test.YtfnoiijodcmaeaaWdLaw
import Derived.Sort.Walk0
namespace Go.Proofs.Ytfnoiijodcmaeaa
open Go.ChangeShapes Go.WideShapes Go.ChangeAt Go.RowKit
set_option linter.unusedVariables false

theorem cat_none (g h : Nat → Nat) : cat 0 g h = h := funext fun j => by unfold cat; rw [if_neg (by omega), Nat.sub_zero]
theorem Put_new (cap : Nat) (s : Nat) (z : Int) (hs : IsSize s) (hz : fitsN s z) (w : World) :
    Calls Try.prog 10 #[.slice none 0 cap, .int .i64 s, .int .i64 z] w fun e w' => e = .returned (.tuple #[.slice (some ⟨w.heap.size, 0, none⟩) s s, .nilIface]) ∧ IntBlk w' w.heap.size .u8 5 (mk s (numF s z)) ∧ Below w.heap.size w w' := by
  have := Put_ok none 0 cap zeroK s z hs hz (by omega) w (.inl rfl)
  rwa [Nat.zero_add, cat_none] at this

/-! ### A number put and taken -/
theorem val_fits {s : Nat} {z : Int} (hs : IsSize s) (hz : fitsN s z) (hb : -9223372036854775808 ≤ z ∧ z ≤ 9223372036854775807) : IntKind.i64.wrap (valN s (numF s z) : Nat) = z := by
  rw [val_back, IntKind.wrap_i64]
  unfold fitsN at hz
  unfold IsSize at hs
  rcases (show s = 1 ∨ s = 2 ∨ s = 4 ∨ s = 8 by omega) with rfl | rfl | rfl | rfl
  · rw [show (256 : Int) ^ 1 = 256 from rfl] at *; omega
  · rw [show (256 : Int) ^ 2 = 65536 from rfl] at *; omega
  · rw [show (256 : Int) ^ 4 = 4294967296 from rfl] at *; omega
  · rw [show (256 : Int) ^ 8 = 18446744073709551616 from rfl] at *; omega
theorem fits_val {s : Nat} {g : Nat → Nat} (hs : IsSize s) (hg : ∀ i, i < s → g i < 256) : fitsN s (IntKind.i64.wrap (valN s g : Nat)) := by
  have h := valN_lt s hg
  unfold IsSize at hs
  unfold fitsN
  rw [IntKind.wrap_i64]
  generalize valN s g = v at *
  rcases (show s = 1 ∨ s = 2 ∨ s = 4 ∨ s = 8 by omega) with rfl | rfl | rfl | rfl
  · rw [show (256 : Int) ^ 1 = 256 from rfl]; rw [show (256 : Nat) ^ 1 = 256 from rfl] at h; omega
  · rw [show (256 : Int) ^ 2 = 65536 from rfl]; rw [show (256 : Nat) ^ 2 = 65536 from rfl] at h; omega
  · rw [show (256 : Int) ^ 4 = 4294967296 from rfl]; rw [show (256 : Nat) ^ 4 = 4294967296 from rfl] at h; omega
  · exact .inl rfl
theorem numF_back {s : Nat} {g : Nat → Nat} (hs : IsSize s) (hg : ∀ i, i < s → g i < 256) {j : Nat} (hj : j < s) : numF s (IntKind.i64.wrap (valN s g : Nat)) j = g j := by
  rw [numF_wrap (by unfold IsSize at hs; omega) _ hj, numF_val hg hj]

/-! ### Appends -/
theorem IntBlk.ownS {w : World} {D s base : Nat} {F : Nat → Nat} (h : IntBlk w D .u8 5 (mk s F)) (hb : base ≤ D) (hs : s ≤ 140737488355328) : OwnS 5 1 w base w.heap.size (.slice (some ⟨D, 0, none⟩) s s) s F := by
  refine .inr ⟨D, s, cellsOf .u8 (mk s F), rfl, hb, h.lt, h, Nat.le_refl _, by simp only [maxLen]; omega, by rw [cellsOf_size, mk_len, Nat.mul_one], ?_⟩
  rw [Nat.mul_one]
  have e : (cellsOf .u8 (mk s F)).toList = bytesList s F := by unfold cellsOf mk bytesList; simp
  rw [e, List.take_of_length_le (by rw [bytesList_len]; exact Nat.le_refl _)]
theorem append_own_run {base top k : Nat} {v : Value} {F f : Nat → Nat} (w : World) (ty : TypeId) (hv : OwnS 5 1 w base top v k F) (p : Option Addr) (n cap : Nat) (hp : BytesAt w p n f) (hf : ∀ j, j < n → f j = F (k + j)) (hk : k + n ≤ 140737488355328) (hbase : base ≤ w.heap.size) :
    ∃ v' w', (Builtin.append_ #[22, 22] ty #[v, .slice p n cap]).run Try.prog w = .ok v' w' ∧ OwnS 5 1 w' base w'.heap.size v' (k + n) F ∧ Below base w w' := by
  have hi := byteInfo
  have hz := byteZero1
  have hb := byteBytes1
  cases hq : Try.prog.info? 5 with
  | none => rw [hq] at hi; simp at hi
  | some i =>
    rw [hq] at hi hb hz
    have hsz : i.size = 1 := by simpa using hi
    have hzz : i.zero = some (.int .u8 0) := by simpa using hz
    have hby : i.bytes = 1 := by simpa using hb
    by_cases h0 : n = 0
    · subst h0
      have hsrc : Src Try.prog i.size 22 (.slice p 0 cap) 0 [] w := by
        cases p with
        | none => exact Src.ofNil w bytesUnder cap
        | some ad => exact Src.ofSlice w bytesUnder ad 0 cap [] (by simp) (fun j u hu => by simp at hu) (fun u hu => by cases hu)
      have hrow := hv.owns
      obtain ⟨q, c, rfl, hc⟩ : ∃ q c, v = .slice q k c ∧ k ≤ c := by
        rcases hv with ⟨h1, h2⟩ | ⟨B, c, cur, h1, _, _, _, h5, _⟩
        · subst h2; exact ⟨none, 0, h1, Nat.le_refl _⟩
        · exact ⟨_, c, h1, h5⟩
      exact ⟨_, w, run_append_nothing (P := Try.prog) w 22 22 ty 5 i bytesUnder hq q k c hc (.slice p 0 cap) hsrc, OwnS.of_owns hrow, Below.refl _ _⟩
    · rcases hp with hp | ⟨B, off, rfl, hB, hc⟩
      · exact absurd hp h0
      · obtain ⟨v', w', hrun, r1, r2, _⟩ := run_append_own (P := Try.prog) w base 22 ty 5 i (.int .u8 0) 1 1 bytesUnder hq hzz hsz hby rfl (by omega)
          v k (bytesList (k * 1) F) hv.owns ⟨B, off, none⟩ n cap (bytesList n f) (by rw [bytesList_len, Nat.mul_one]) (fun j u hj => by
            obtain ⟨hj1, rfl⟩ := bytesList_get hj
            rw [addr_add]; exact hc j hj1) bytesList_one (by simp only [maxLen]; omega) (by omega) hbase
        rw [bytesList_more (k * 1) n F f (fun j hj => by rw [Nat.mul_one]; exact hf j hj), show k * 1 + n = (k + n) * 1 by omega] at r1
        exact ⟨v', w', hrun, OwnS.of_owns r1, below_own r2 hv.block hbase⟩
/-- Bytes appended to a block of bytes: what comes of it. -/
theorem append_blk {w : World} {D s base : Nat} {F : Nat → Nat} (ty : TypeId) (h : IntBlk w D .u8 5 (mk s F)) (hb : base ≤ D) (p : Option Addr) (n cap : Nat) (g : Nat → Nat) (hp : BytesAt w p n g) (hk : s + n ≤ 140737488355328) :
    ∃ p' c' w', (Builtin.append_ #[22, 22] ty #[.slice (some ⟨D, 0, none⟩) s s, .slice p n cap]).run Try.prog w = .ok (.slice p' (s + n) c') w' ∧ BytesAt w' p' (s + n) (cat s F g) ∧ s + n ≤ c' ∧ Below base w w' := by
  have hlt := h.lt
  obtain ⟨v', w', hr, ho, hbl⟩ := append_own_run w ty ((h.ownS hb (by omega)).congr (F' := cat s F g) (fun j hj => by unfold cat; rw [if_pos hj])) p n cap hp (fun j hj => by unfold cat; rw [if_neg (by omega), Nat.add_sub_cancel_left]) hk (by omega)
  obtain ⟨p', c', rfl, hc, _, hbb, _⟩ := ho.bytes (Nat.le_refl _)
  exact ⟨p', c', w', hr, hbb, hc, hbl⟩
section
variable {ops : Array Oper} {rest : List Oper} {o : Oper} {a : Act} {w : World} {Q : Exit → Act → World → Prop}
theorem wpList_append (hw : Region.wanted o (yielded ops a.tmps) = true) (s x : Operand) (t tn : TypeId)
    (ho : o.op = .call { callee := .builtin .append, args := #[s, x], argTypes := #[t, tn] }) (vs vx : Value) (hs : a.eval s = vs) (hx : a.eval x = vx)
    (v' : Value) (w' : World) (hr : (Builtin.append_ #[t, tn] o.type #[vs, vx]).run Try.prog w = .ok v' w') (h : wpList Try.prog ops Q rest (a.put o.dst v') w') : wpList Try.prog ops Q (o :: rest) a w :=
  wanted_step hw fun K hK => by
    unfold Oper.wp
    simp [execOp, ho, resolve, invoke, builtin, hs, hx, hr, Result.andThen]
    exact hK _ _ h
/-- A string of bytes; the operation may have a guard that is met. -/
theorem wpList_string_w (hw : Region.wanted o (yielded ops a.tmps) = true) (x : Operand) (ho : o.op = .convert 22 9 x) (p : Option Addr) (n cap : Nat) (hx : a.eval x = .slice p n cap) (g : Nat → Nat) (hp : BytesAt w p n g)
    (h : wpList Try.prog ops Q rest (a.put o.dst (.string (strOfNums (mk n g)))) w) : wpList Try.prog ops Q (o :: rest) a w := by
  have hr : (convert 22 9 (.slice p n cap)).run Try.prog w = .ok (.string (strOfNums (mk n g))) w := by
    by_cases h0 : n = 0
    · subst h0
      rw [run_convert_bytes_string w _ _ 5 p 0 cap bytesUnder byteUnder1 stringUnder1]
      cases p with
      | none => rfl
      | some ad =>
        rw [run_bytesToString w ad 0 cap [] (by simpa using run_loadCells_list (P := Try.prog) w ad [] (fun j v hj => by simp at hj))]
        rfl
    · rcases hp with hp | ⟨B, off, rfl, hB, hc⟩
      · exact absurd hp h0
      · exact run_convert_bytes_arg w _ 5 bytesUnder byteUnder1 B off n cap (mk n g) (mk_len n g) (fun i hi => by rw [mk_get hi]; exact hc i hi) _ stringUnder1
  refine wanted_step hw fun K hK => ?_
  unfold Oper.wp execOp
  simp only [ho]
  simp [hx, hr]
  exact hK _ _ h
end

/-! ### The order of numbers' strings -/
def valU (l : List UInt8) : Nat := l.foldl (fun v x => v * 256 + x.toNat) 0
theorem foldU (l : List UInt8) : ∀ v, l.foldl (fun v x => v * 256 + x.toNat) v = v * 256 ^ l.length + valU l := by
  induction l with
  | nil => intro v; simp [valU]
  | cons a l ih =>
    intro v
    unfold valU
    rw [List.foldl_cons, List.foldl_cons, ih, ih (0 * 256 + a.toNat), List.length_cons, Nat.pow_succ, Nat.zero_mul, Nat.zero_add, Nat.add_mul]
    rw [Nat.mul_assoc, Nat.mul_comm 256, ← Nat.mul_assoc]; omega
theorem valU_cons (a : UInt8) (l : List UInt8) : valU (a :: l) = a.toNat * 256 ^ l.length + valU l := by
  show List.foldl _ _ l = _
  rw [foldU]; simp
theorem valU_lt (l : List UInt8) : valU l < 256 ^ l.length := by
  induction l with
  | nil => simp [valU]
  | cons a l ih =>
    rw [valU_cons, List.length_cons, Nat.pow_succ]
    have h := a.toNat_lt
    have : (a.toNat + 1) * 256 ^ l.length ≤ 256 * 256 ^ l.length := Nat.mul_le_mul_right _ (by omega)
    rw [Nat.add_mul, Nat.one_mul] at this
    rw [Nat.mul_comm (256 ^ l.length)]; omega
theorem less_is : ∀ (x y : List UInt8), x.length = y.length → Op.bytesLess x y = decide (valU x < valU y)
  | [], [], _ => by simp [Op.bytesLess, valU]
  | a :: x, b :: y, h => by
    have hl : x.length = y.length := by simpa using h
    have ih := less_is x y hl
    unfold Op.bytesLess
    rw [ih, valU_cons, valU_cons, hl]
    have hx := valU_lt x
    have hy := valU_lt y
    rw [hl] at hx
    generalize 256 ^ y.length = P at *
    rw [Bool.eq_iff_iff]
    simp only [Bool.or_eq_true, Bool.and_eq_true, beq_iff_eq, decide_eq_true_eq, UInt8.lt_iff_toNat_lt, ← UInt8.toNat_inj]
    constructor
    · rintro (h | ⟨h, h2⟩)
      · have : (a.toNat + 1) * P ≤ b.toNat * P := Nat.mul_le_mul_right _ h
        rw [Nat.add_mul, Nat.one_mul] at this; omega
      · rw [h]; omega
    · intro h2
      rcases Nat.lt_trichotomy a.toNat b.toNat with h | h | h
      · exact .inl h
      · rw [h] at h2; exact .inr ⟨h, by omega⟩
      · have : (b.toNat + 1) * P ≤ a.toNat * P := Nat.mul_le_mul_right _ h
        rw [Nat.add_mul, Nat.one_mul] at this; omega
theorem valU_str (s : Nat) (f : Nat → Nat) (hf : ∀ i, f i < 256) : valU ((mk s f).map fun n => UInt8.ofNat n.toNat) = valN s f := by
  induction s with
  | zero => rfl
  | succ s ih =>
    unfold mk at ih ⊢
    rw [List.range_succ, List.map_append, List.map_append]
    unfold valU at ih ⊢
    rw [List.foldl_append, ih]
    show valN s f * 256 + (UInt8.ofNat ((f s : Int).toNat)).toNat = _
    rw [Int.toNat_natCast, UInt8.toNat_ofNat']
    have := hf s
    show _ = valN s f * 256 + f s
    omega
theorem str_less {s : Nat} {f g : Nat → Nat} (hf : ∀ i, f i < 256) (hg : ∀ i, g i < 256) : Op.bytesLess (strOfNums (mk s f)).toList (strOfNums (mk s g)).toList = decide (valN s f < valN s g) := by
  rw [Lib.toList_data, Lib.toList_data, strOfNums_data, strOfNums_data, less_is _ _ (by simp [mk]), valU_str s f hf, valU_str s g hg]
theorem num_less {s : Nat} {a b : Int} (hs : IsSize s) (ha : fitsN s a) (hb : fitsN s b) (ha0 : 0 ≤ a) (hb0 : 0 ≤ b) (ha1 : a ≤ 9223372036854775807) (hb1 : b ≤ 9223372036854775807) : Op.bytesLess (strOfNums (mk s (numF s a))).toList (strOfNums (mk s (numF s b))).toList = decide (a < b) := by
  rw [str_less (numF_lt s a) (numF_lt s b)]
  have h1 := val_back s a
  have h2 := val_back s b
  have e1 : a % 256 ^ s = a := by
    rcases ha with rfl | ⟨_, h⟩
    · rw [show (256 : Int) ^ 8 = 18446744073709551616 from rfl]; omega
    · exact Int.emod_eq_of_lt ha0 h
  have e2 : b % 256 ^ s = b := by
    rcases hb with rfl | ⟨_, h⟩
    · rw [show (256 : Int) ^ 8 = 18446744073709551616 from rfl]; omega
    · exact Int.emod_eq_of_lt hb0 h
  rw [e1] at h1; rw [e2] at h2
  rw [Bool.eq_iff_iff, decide_eq_true_eq, decide_eq_true_eq]
  omega
end Go.Proofs.Ytfnoiijodcmaeaa
