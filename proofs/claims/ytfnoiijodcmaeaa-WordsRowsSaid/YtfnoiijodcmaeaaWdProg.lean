/- The contracts of package words' small functions: good, fits, extend, write, read. Conditions: the bytes are bytes; what is asked of lengths stands at each. -/
import Derived.Test.YtfnoiijodcmaeaaWdNum
import Derived.OneCell
import Derived.OwnWalkIn
import Derived.OwnWalk
import Derived.TacticsInMore
import Derived.LoopNIn
import Derived.LoopIn
namespace Go.Proofs.Ytfnoiijodcmaeaa
open Go.ChangeShapes Go.WideShapes Go.ChangeAt Go.RowKit
set_option linter.unusedVariables false

/-- All that was there lies as it lay, but for block B. -/
structure But (B : Nat) (w w' : World) : Prop where
  low : Below (min B w.heap.size) w w'
  same : ∀ k, k < w.heap.size → k ≠ B → w'.heap[k]? = w.heap[k]?
theorem But.size {B : Nat} {w w' : World} (h : But B w w') : w.heap.size ≤ w'.heap.size := h.low.size
theorem But.of {B : Nat} {w w' : World} (h : Below w.heap.size w w') : But B w w' := ⟨h.mono (Nat.min_le_right _ _), fun k hk _ => h.block k hk⟩
theorem But.trans {B : Nat} {w w' w'' : World} (h : But B w w') (k : But B w' w'') : But B w w'' :=
  ⟨h.low.trans (k.low.mono (by have := h.size; omega)), fun i hi hb => (k.same i (Nat.lt_of_lt_of_le hi h.size) hb).trans (h.same i hi hb)⟩
theorem But.setRow (B : Nat) (w : World) (cs : Array Value) : But B w (w.setRow B cs) :=
  ⟨below_setRow (Below.refl _ w) (Nat.min_le_left _ _) cs, fun k _ hb => setRow_other w B k cs (fun e => hb e)⟩
theorem But.setCell (B i : Nat) (w : World) (v : Value) : But B w (w.setCell ⟨B, i, none⟩ v) :=
  ⟨(Below.refl _ w).setCell (p := ⟨B, i, none⟩) (Nat.min_le_left _ _) v, fun k _ hb => Below.heap_setCell _ _ _ k (fun e => hb e)⟩
theorem But.below {B M : Nat} {w w' : World} (h : But B w w') (hB : M ≤ B) (hw : M ≤ w.heap.size) : Below M w w' := h.low.mono (by omega)
theorem But.blk {B C : Nat} {w w' : World} {k : IntKind} {t : TypeId} {l : List Int} (h : But B w w') (hC : IntBlk w C k t l) (hne : C ≠ B) : IntBlk w' C k t l := (h.same C hC.lt hne).trans hC
theorem IntBlk.bytesAt {w : World} {B N : Nat} {t : TypeId} {F : Nat → Nat} (h : IntBlk w B .u8 t (mk N F)) : BytesAt w (some ⟨B, 0, none⟩) N F :=
  .inr ⟨B, 0, rfl, h.lt, fun j hj => by have := h.cells (o := 0) (n := N) (by omega) j hj; simp only [Nat.zero_add] at this ⊢; exact this⟩
theorem bytes_congr {w : World} {p : Option Addr} {n : Nat} {g g' : Nat → Nat} (h : ∀ j, j < n → g j = g' j) (hp : BytesAt w p n g) : BytesAt w p n g' :=
  hp.imp id fun ⟨B, o, e, hl, hc⟩ => ⟨B, o, e, hl, fun i hi => by rw [← h i hi]; exact hc i hi⟩
section
variable {ops : Array Oper} {rest : List Oper} {o : Oper} {a : Act} {w : World} {Q : Exit → Act → World → Prop}
theorem run_noughts (M : Nat) (hM : M ≤ 140737488355328) (w : World) : (Instr.makeSlice 22 (.int .i64 M) (.int .i64 M)).run Try.prog w = .ok (.slice (some ⟨w.heap.size, 0, none⟩) M M) (w.alloc (.cells (cellsOf .u8 (mk M zeroK)) 5)) := by
  have hi := byteInfo
  have hz := byteZero1
  have hb := byteBytes1
  cases hq : Try.prog.info? 5 with
  | none => rw [hq] at hi; simp at hi
  | some i =>
    rw [hq] at hi hz hb
    have hsz : i.size = 1 := by simpa using hi
    have hzz : i.zero = some (.int .u8 0) := by simpa using hz
    have hby : i.bytes = 1 := by simpa using hb
    have e := run_make (P := Try.prog) w 22 5 i _ bytesUnder hq hzz .i64 .i64 M M (by omega) (by omega) (by rw [hby]; omega) (by omega)
    have hc : (Value.int .u8 0).cells = cellsOf .u8 (mk 1 zeroK) := rfl
    rw [hsz, Int.toNat_natCast, made_zero hc (by omega), Nat.mul_one] at e
    exact e
theorem wpList_noughts (hgd : o.guard = none) (x y : Operand) (ho : o.op = .makeSlice 22 x y) (M : Nat) (hM : M ≤ 140737488355328) (hx : a.eval x = .int .i64 M) (hy : a.eval y = .int .i64 M)
    (h : wpList Try.prog ops Q rest (a.put o.dst (.slice (some ⟨w.heap.size, 0, none⟩) M M)) (w.alloc (.cells (cellsOf .u8 (mk M zeroK)) 5))) : wpList Try.prog ops Q (o :: rest) a w :=
  wpList_plain hgd fun _ hK => by
    have e := run_noughts M hM w
    unfold Oper.wp execOp
    simp only [ho]
    simp [hx, hy, e]
    exact hK _ _ h
theorem put_none (F : Nat → Nat) (off : Nat) (g : Nat → Nat) : put F off 0 g = F := funext fun j => if_neg (by omega)
/-- Bytes copied into a part of a block that has room for all of them. -/
theorem wpList_copy_bytes (hgd : o.guard = none) (d s : Operand) (ho : o.op = .call { callee := .builtin .copy, args := #[d, s], argTypes := #[22, 22] })
    (B off dLen dCap N : Nat) (F : Nat → Nat) (dp : Option Addr) (hd : a.eval d = .slice dp dLen dCap) (p : Option Addr) (n cap : Nat) (hdp : n ≠ 0 → dp = some ⟨B, off, none⟩) (g : Nat → Nat) (hs : a.eval s = .slice p n cap) (t : TypeId) (hB : IntBlk w B .u8 t (mk N F)) (hn : n ≤ dLen) (hN : off + dLen ≤ N) (hp : BytesAt w p n g)
    (h : ∀ (v : Value) (w' : World), IntBlk w' B .u8 t (mk N (put F off n g)) → But B w w' → w'.heap.size = w.heap.size → wpList Try.prog ops Q rest (a.put o.dst v) w') : wpList Try.prog ops Q (o :: rest) a w := by
  by_cases h0 : n = 0
  · subst h0
    refine wpList_copy_nothing hgd d s _ _ ho 5 bytesUnder byteInfo _ p dLen dCap 0 cap hd hs (by simp) ?_
    exact h _ _ (by rw [put_none]; exact hB) (.of (Below.refl _ _)) rfl
  · have hdp := hdp h0
    subst hdp
    rcases hp with hp | ⟨C, o', rfl, _, hc⟩
    · exact absurd hp h0
    · refine wpList_copy_part hgd d s _ _ ho 5 bytesUnder byteInfo B off dLen dCap C o' n cap n N F g hd hs t hB (by omega) (Nat.min_eq_left hn).symm hc ?_
      exact h _ _ (hB.setRow .u8 _) (.setRow _ _ _) (by simp)
end

/-! ### Sizes -/
theorem good_yes (s : Int) (h : s = 1 ∨ s = 2 ∨ s = 4 ∨ s = 8) (w : World) : Calls Try.prog 28 #[.int .i64 s] w fun e w' => e = .returned (.bool true) ∧ w = w' := by
  rcases h with rfl | rfl | rfl | rfl <;>
  · go_enter Try.func28, Try.ntmps28
    go_wp2
    go_ret
    exact ⟨rfl, rfl⟩
theorem good_no (s : Int) (h1 : s ≠ 1) (h2 : s ≠ 2) (h4 : s ≠ 4) (h8 : s ≠ 8) (w : World) : Calls Try.prog 28 #[.int .i64 s] w fun e w' => e = .returned (.bool false) ∧ w = w' := by
  have d1 : (s == 1) = false := by simp; exact h1
  have d2 : (s == 2) = false := by simp; exact h2
  have d4 : (s == 4) = false := by simp; exact h4
  have d8 : (s == 8) = false := by simp; exact h8
  clear h1 h2 h4 h8
  go_enter Try.func28, Try.ntmps28
  go_wp2
  go_ret
  exact ⟨rfl, rfl⟩
/-- A number has a size. -/
def fitsN (s : Nat) (z : Int) : Prop := s = 8 ∨ (0 ≤ z ∧ z < 256 ^ s)
instance (s : Nat) (z : Int) : Decidable (fitsN s z) := inferInstanceAs (Decidable (_ ∨ _))
set_option maxHeartbeats 1000000 in
theorem fits_any (s : Nat) (h : s = 1 ∨ s = 2 ∨ s = 4 ∨ s = 8) (z : Int) (w : World) : Calls Try.prog 29 #[.int .i64 s, .int .i64 z] w fun e w' => e = .returned (.bool (decide (fitsN s z))) ∧ w = w' := by
  rcases h with rfl | rfl | rfl | rfl
  · have d1 : (z / 256 == 0) = decide (fitsN 1 z) := by
      unfold fitsN
      rw [Bool.eq_iff_iff]
      simp only [beq_iff_eq, decide_eq_true_eq, show (256 : Int) ^ 1 = 256 from rfl]
      omega
    go_enter Try.func29, Try.ntmps29
    go_wp2
    go_ret
    exact ⟨rfl, rfl⟩
  · have d1 : (z / 65536 == 0) = decide (fitsN 2 z) := by
      unfold fitsN
      rw [Bool.eq_iff_iff]
      simp only [beq_iff_eq, decide_eq_true_eq, show (256 : Int) ^ 2 = 65536 from rfl]
      omega
    go_enter Try.func29, Try.ntmps29
    go_wp2
    go_ret
    exact ⟨rfl, rfl⟩
  · have d1 : (z / 4294967296 == 0) = decide (fitsN 4 z) := by
      unfold fitsN
      rw [Bool.eq_iff_iff]
      simp only [beq_iff_eq, decide_eq_true_eq, show (256 : Int) ^ 4 = 4294967296 from rfl]
      omega
    go_enter Try.func29, Try.ntmps29
    go_wp2
    go_ret
    exact ⟨rfl, rfl⟩
  · have hf : decide (fitsN 8 z) = true := by simp [fitsN]
    rw [hf]; clear hf
    go_enter Try.func29, Try.ntmps29
    go_wp2
    go_ret
    exact ⟨rfl, rfl⟩

/-! ### Bytes made longer, written, read -/
/-- Bytes, and noughts behind them. -/
def extF (n : Nat) (g : Nat → Nat) : Nat → Nat := fun j => if j < n then g j else 0
theorem extF_put (n N : Nat) (g : Nat → Nat) : mk N (put zeroK 0 n g) = mk N (extF n g) := mk_ext fun j _ => by unfold put extF zeroK; simp
set_option maxRecDepth 100000 in
set_option maxHeartbeats 1000000 in
theorem extend_any (p : Option Addr) (n cap : Nat) (g : Nat → Nat) (more N : Nat) (hN : N = n + more) (hm : N ≤ 140737488355328) (w : World) (hp : BytesAt w p n g) :
    Calls Try.prog 30 #[.slice p n cap, .int .i64 more] w fun e w' => e = .returned (.slice (some ⟨w.heap.size, 0, none⟩) N N) ∧ IntBlk w' w.heap.size .u8 5 (mk N (extF n g)) ∧ Below w.heap.size w w' := by
  have q1 : IntKind.i64.wrap ((n : Int) + (more : Int)) = (N : Int) := by rw [IntWalk.i64_in _ (by omega)]; omega
  have b1 : Below w.heap.size w (w.alloc (.cells (cellsOf .u8 (mk N zeroK)) 5)) := (Below.refl _ w).alloc (Nat.le_refl _) _
  have hnN : n ≤ N := by omega
  have hz := IntBlk.new w .u8 5 (mk N zeroK)
  have HZ := Lib.hid hz
  have B1 := Lib.hid b1
  have e1 : min (n : Int) (N : Int) = (n : Int) := by omega
  have HE := Lib.hid (extF_put n N g)
  have HP := Lib.hid (hp.below b1)
  clear hN hz b1 hp
  go_enter Try.func30, Try.ntmps30
  go_wp2_with (first
    | (refine wpList_noughts rfl _ _ rfl N hm rfl rfl ?_)
    | (refine wpList_copy_bytes rfl _ _ rfl w.heap.size 0 N N N zeroK _ rfl p n cap (fun _ => rfl) g rfl 5 HZ.out hnN ?own HP.out ?_
       case own => omega
       intro v w2 hr2 hb2 hs2))
  go_ret
  exact ⟨rfl, by rw [← HE.out]; exact hr2, B1.out.trans (hb2.below (Nat.le_refl _) (by simp))⟩

/-- A number's lowest k bytes written at the end of s places from L on. -/
def wrTo (F : Nat → Nat) (L s : Nat) (z : Int) (k : Nat) : Nat → Nat := fun j => if L + s ≤ j + k ∧ j < L + s then dig z (L + s - 1 - j) else F j
theorem wrTo_zero (F : Nat → Nat) (L s : Nat) (z : Int) : wrTo F L s z 0 = F := funext fun j => if_neg (by omega)
theorem wrTo_end (F : Nat → Nat) (L s : Nat) (z : Int) : wrTo F L s z s = put F L s (numF s z) := funext fun j => by
  unfold wrTo put numF
  by_cases h : L ≤ j ∧ j < L + s
  · rw [if_pos (by omega), if_pos h, show s - 1 - (j - L) = L + s - 1 - j by omega]
  · rw [if_neg (by omega), if_neg h]
theorem wrTo_step (F : Nat → Nat) (L s N : Nat) (z : Int) {k : Nat} (hk : k < s) {x : Int} (hx : x = (dig z k : Nat)) : (mk N (wrTo F L s z k)).set (L + (s - 1 - k)) x = mk N (wrTo F L s z (k + 1)) :=
  mk_set_is hx fun j _ => by
    unfold wrTo
    by_cases e : j = L + (s - 1 - k)
    · rw [if_pos e, if_pos (by omega), show L + s - 1 - j = k by omega]
    · rw [if_neg e]
      by_cases h : L + s ≤ j + k ∧ j < L + s
      · rw [if_pos h, if_pos (by omega)]
      · rw [if_neg h, if_neg (by omega)]
theorem valN_succ (k : Nat) (g : Nat → Nat) : valN (k + 1) g = valN k g * 256 + g k := rfl
theorem wrap64_is (x : Int) : wrap64 x = IntKind.i64.wrap x := by rw [IntKind.wrap_i64]; try (unfold wrap64; omega)
attribute [local irreducible] wrTo dig valN
set_option maxRecDepth 100000 in
set_option maxHeartbeats 1000000 in
theorem write_any (D L s cap N : Nat) (z : Int) (F : Nat → Nat) (hs : s ≤ 8) (hN : L + s ≤ N) (hNN : N ≤ 140737488355328) (w : World) (hD : IntBlk w D .u8 5 (mk N F)) :
    Calls Try.prog 31 #[.slice (some ⟨D, L, none⟩) s cap, .int .i64 z] w fun e w' => (∃ v, e = .returned v) ∧ IntBlk w' D .u8 5 (mk N (put F L s (numF s z))) ∧ But D w w' := by
  have HD := Lib.hid hD
  clear hD
  go_enter Try.func31, Try.ntmps31
  go_wp2
  go_loopw [7] (fun v wr => ∃ k : Nat, k ≤ s ∧ v = .int .i64 k ∧ IntBlk wr D .u8 5 (mk N (wrTo F L s z k)) ∧ But D w wr) (fun v _ => s - (intOf v).toNat)
  case atStart => exact ⟨0, by omega, rfl, by rw [wrTo_zero]; exact HD.out, .of (Below.refl _ _)⟩
  case round =>
    clear HD
    obtain ⟨k, hk, rfl, ha, hb⟩ := hrel
    have HA := Lib.hid ha; have HB := Lib.hid hb
    by_cases hlt : k < s
    · have e1 : (k : Int) < (s : Int) := by omega
      have e0 : IntKind.i64.wrap ((s : Int) - 1) = ((s - 1 : Nat) : Int) := by rw [IntWalk.i64_in _ (by omega)]; omega
      have e2 : IntKind.i64.wrap (((s - 1 : Nat) : Int) - (k : Int)) = ((s - 1 - k : Nat) : Int) := by rw [IntWalk.i64_in _ (by omega)]; omega
      have e3 : IntKind.i64.wrap (8 * (k : Int)) = ((8 * k : Nat) : Int) := by rw [IntWalk.i64_in _ (by omega)]; omega
      have e4 : ((s - 1 - k : Nat) : Int) < (s : Int) := by omega
      have e6 : s - 1 - k < s := by omega
      have e5 : (0 : Int) ≤ ((8 * k : Nat) : Int) := by omega
      have c1 := ha.cell (i := L + (s - 1 - k)) (by rw [mk_len]; omega)
      have f1 := ha.free (L + (s - 1 - k))
      have HV := Lib.hid (fun (x : Int) (hx : x = z / 2 ^ (8 * k) % 256) => wrTo_step F L s N z hlt (x := x) (by rw [hx, dig_shift]))
      clear ha hb
      generalize hm1 : s - 1 = s1 at *
      generalize hm2 : s1 - k = m at *
      generalize hm8 : 8 * k = m8 at *
      go_wp2
      go_roundw
      case rel => exact ⟨k + 1, by omega, by go_num, by rw [← HV.out _ rfl]; exact HA.out.set (L + m) _, HB.out.trans (.setCell _ _ _ _)⟩
      case measure => simp [intOf]; omega
    · have e1 : ¬ (k : Int) < (s : Int) := by omega
      obtain rfl : k = s := by omega
      clear ha hb
      go_wp2
      refine bodyPost_end (results_none rfl _ _ _) rfl ?_
      rw [wrTo_end] at HA
      exact ⟨⟨_, rfl⟩, HA.out, HB.out⟩
set_option maxRecDepth 100000 in
set_option maxHeartbeats 1000000 in
theorem read_any (p : Option Addr) (n cap : Nat) (g : Nat → Nat) (hg : ∀ i, i < n → g i < 256) (hn : n ≤ 8) (w : World) (hp : BytesAt w p n g) :
    Calls Try.prog 32 #[.slice p n cap] w fun e w' => e = .returned (.int .i64 (IntKind.i64.wrap (valN n g : Nat))) ∧ w = w' := by
  have HP := Lib.hid hp
  clear hp
  have hv : ∀ k, k ≤ n → valN k g < 256 ^ 8 := fun k hk => Nat.lt_of_lt_of_le (valN_lt k (fun i hi => hg i (by omega))) (Nat.pow_le_pow_right (by omega) (by omega))
  go_enter Try.func32, Try.ntmps32
  go_wp2
  go_loopw [8, 3] (fun v v3 wr => ∃ k : Nat, k ≤ n ∧ v = .int .i64 k ∧ v3 = .int .i64 (IntKind.i64.wrap (valN k g : Nat)) ∧ w = wr) (fun v _ _ => n - (intOf v).toNat)
  case atStart => exact ⟨0, by omega, rfl, by unfold valN; rfl, rfl⟩
  case round =>
    obtain ⟨k, hk, rfl, rfl, rfl⟩ := hrel
    by_cases hlt : k < n
    · have e1 : (k : Int) < (n : Int) := by omega
      obtain ⟨B, o, rfl, c1⟩ : ∃ B o, p = some ⟨B, o, none⟩ ∧ w.cell? ⟨B, o + k, none⟩ = some (.int .u8 (g k : Nat)) := by
        rcases HP.out with h | ⟨B, o, h, _, hc⟩
        · omega
        · exact ⟨B, o, h, hc k hlt⟩
      have HS := Lib.hid (show bits .or .i64 (IntKind.i64.wrap (IntKind.i64.wrap (valN k g : Nat) * 256)) (g k : Nat) = IntKind.i64.wrap (valN (k + 1) g : Nat) by
        have h1 : IntKind.i64.wrap (IntKind.i64.wrap (valN k g : Nat) * 256) = IntKind.i64.wrap ((valN k g : Nat) * 256) := by
          rw [IntKind.wrap_i64, IntKind.wrap_i64, IntKind.wrap_i64]; omega
        rw [h1, shl_or (hg k hlt), valN_succ])
      have hgk := hg k hlt
      clear hv hg
      generalize IntKind.i64.wrap (valN k g : Nat) = u at *
      go_wp2
      go_roundw
      case rel => exact ⟨k + 1, by omega, by go_num, by rw [← HS.out]; simp [wrap64_is], trivial⟩
      case measure => simp [intOf]; omega
    · have e1 : ¬ (k : Int) < (n : Int) := by omega
      obtain rfl : k = n := by omega
      go_wp2
      go_ret
      exact ⟨rfl, rfl⟩
end Go.Proofs.Ytfnoiijodcmaeaa
