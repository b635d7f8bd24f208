/- The contracts of package wrap's small functions: good, start, part, number, prepare. Conditions: the bytes are bytes; what is asked of lengths and numbers stands at each. -/
import Derived.Test.YtghdeedglekphaaWrNum
import Derived.Test.YtghdeedglekphaaWrSched
import Derived.OwnWalkIn
import Derived.OwnWalk
import Derived.TacticsInMore
import Derived.LoopNIn
import Derived.LoopIn
namespace Go.Proofs.Ytghdeedglekphaa
open Go.ChangeShapes Go.WideShapes Go.ChangeAt Go.RowKit

theorem good_yes (n : Nat) (h2 : 2 ≤ n) (h64 : n ≤ 64) (w : World) : Calls Try.prog 32 #[.int .i64 n] w fun e w' => e = .returned (.bool true) ∧ w = w' := by
  have d1 : decide ((2 : Int) ≤ (n : Int)) = true := by simp; omega
  have d2 : decide ((n : Int) ≤ 64) = true := by simp; omega
  have d3 : decide (2 ≤ n) = true := by simp; omega
  have d4 : decide (n ≤ 64) = true := by simp; omega
  clear h2 h64
  go_enter Try.func32, Try.ntmps32
  go_wp2
  go_ret
  exact ⟨rfl, rfl⟩
theorem good_no (z : Int) (h : z < 2 ∨ 64 < z) (w : World) : Calls Try.prog 32 #[.int .i64 z] w fun e w' => e = .returned (.bool false) ∧ w = w' := by
  rcases Int.lt_or_le z 2 with h2 | h2
  · have d1 : decide ((2 : Int) ≤ z) = false := by simp; omega
    clear h h2
    go_enter Try.func32, Try.ntmps32
    go_wp2
    go_ret
    exact ⟨rfl, rfl⟩
  · have d1 : decide ((2 : Int) ≤ z) = true := by simp; omega
    have d2 : decide (z ≤ 64) = false := by simp; omega
    clear h h2
    go_enter Try.func32, Try.ntmps32
    go_wp2
    go_ret
    exact ⟨rfl, rfl⟩

/-- A block whose first half is A ahead of all steps. -/
def staK : Nat → Nat := fun j => if j < 8 then 166 else 0
def staTo (k : Nat) : Nat → Nat := fun j => if j < k then 166 else 0
theorem staTo_start : mk 16 (staTo 0) = mk 16 zeroK := mk_ext fun j _ => by unfold staTo zeroK; rw [if_neg (by omega)]
theorem staTo_end : staTo 8 = staK := rfl
theorem staTo_step (k : Nat) : (mk 16 (staTo k)).set k 166 = mk 16 (staTo (k + 1)) := by
  refine mk_set_is (v := 166) rfl fun j _ => ?_
  unfold staTo
  by_cases e : j = k
  · subst e; rw [if_pos rfl, if_pos (by omega)]
  · rw [if_neg e]
    by_cases l : j < k
    · rw [if_pos l, if_pos (by omega)]
    · rw [if_neg l, if_neg (by omega)]
theorem staK_key : IsKey staK := fun j _ => by unfold staK; split <;> omega
set_option maxRecDepth 100000 in
set_option maxHeartbeats 1000000 in
theorem start_any (w : World) : Calls Try.prog 22 #[] w fun e w' => e = .returned (.agg (cellsOf .u8 (mk 16 staK))) ∧ Below w.heap.size w w' := by
  go_enter Try.func22, Try.ntmps22
  go_wp2
  go_loopw [3] (fun v3 wr => ∃ k : Nat, k ≤ 8 ∧ v3 = .int .i64 k ∧ IntBlk wr w.heap.size .u8 65 (mk 16 zeroK) ∧ IntBlk wr (w.heap.size + 1) .u8 65 (mk 16 (staTo k)) ∧ Below w.heap.size w wr) (fun v3 _ => 8 - (intOf v3).toNat)
  case atStart => exact ⟨0, by omega, rfl, (IntBlk.new w .u8 _ (mk 16 zeroK)).alloc _, by rw [staTo_start]; exact blk_two w .u8 _ (mk 16 zeroK) _, below_two w _ _⟩
  case round =>
    obtain ⟨k, hk, rfl, hz, ha, hw⟩ := hrel
    have HA := Lib.hid ha; have HZ := Lib.hid hz; have HW := Lib.hid hw
    by_cases hlt : k < 8
    · have c1 := ha.cell (i := k) (by rw [mk_len]; omega)
      have f1 := ha.free k
      have e1 : (k : Int) < 8 := by omega
      clear ha hz hw
      go_wp2
      go_roundw
      case rel => exact ⟨k + 1, by omega, by go_num, HZ.out.other (by show w.heap.size + 1 ≠ w.heap.size; omega) _, by rw [← staTo_step]; exact HA.out.set k _, HW.out.setCell (by show w.heap.size ≤ w.heap.size + 1; omega) _⟩
      case measure => simp [intOf]; omega
    · obtain rfl : k = 8 := by omega
      clear ha hz hw
      rw [staTo_end] at HA
      go_wp2_with (first
        | (refine wpList_load_row rfl 65 _ rfl (w.heap.size + 1) rfl 65 (cellsOf .u8 (mk 16 staK)) (0, 0) _ HA.out keyUnder rfl (keySize _) ?_)
        | (refine wpList_store_row rfl 65 _ _ rfl w.heap.size _ rfl rfl 65 (cellsOf .u8 (mk 16 zeroK)) HZ.out (keySize _) (by rw [cellsOf_size, cellsOf_size, mk_len, mk_len]) (cellsOf_one _ _) ?_))
      exact bodyPost_ret (results_cell_row rfl _ _ w.heap.size 65 (cellsOf .u8 (mk 16 staK)) (0, 0) _ rfl (HZ.out.setRow .u8 (mk 16 staK)) keyUnder rfl (keySize _)) rfl ⟨rfl, below_setRow HW.out (Nat.le_refl _) _⟩

theorem part_any (B o n cap i : Nat) (h1 : 1 ≤ i) (hi : 8 * i ≤ n) (hn : n ≤ cap) (hm : n < 4294967296) (w : World) : Calls Try.prog 24 #[.slice (some ⟨B, o, none⟩) n cap, .int .i64 i] w fun e w' => e = .returned (.slice (some ⟨B, o + 8 * (i - 1), none⟩) 8 (cap - 8 * (i - 1))) ∧ w = w' := by
  obtain ⟨k, rfl⟩ : ∃ k, i = k + 1 := ⟨i - 1, by omega⟩
  have e1 : IntKind.i64.wrap (((k + 1 : Nat) : Int) - 1) = (k : Int) := by rw [IntWalk.i64_in _ (by omega)]; omega
  have e2 : IntKind.i64.wrap (8 * (k : Int)) = ((8 * k : Nat) : Int) := by rw [IntWalk.i64_in _ (by omega)]; omega
  have e3 : IntKind.i64.wrap (8 * ((k + 1 : Nat) : Int)) = ((8 * k + 8 : Nat) : Int) := by rw [IntWalk.i64_in _ (by omega)]; omega
  go_enter Try.func24, Try.ntmps24
  go_wp2
  go_ret
  exact ⟨by rw [Nat.add_sub_cancel, show 8 * (k + 1) - 8 * k = 8 by omega]; rfl, rfl⟩

/-- A step's number added to the last i bytes of the first half. -/
def numTo7 (t : Nat) (f : Nat → Nat) (i : Nat) : Nat → Nat := fun j => if 8 - i ≤ j ∧ j < 8 then f j ^^^ stN t j else f j
theorem numTo7_start (t : Nat) (f : Nat → Nat) : numTo7 t f 0 = f := funext fun j => by unfold numTo7; rw [if_neg (by omega)]
theorem numTo7_end (t : Nat) (f : Nat → Nat) : numTo7 t f 8 = numX t f := funext fun j => by
  unfold numTo7 numX
  by_cases h : j < 8
  · rw [if_pos h, if_pos (by omega)]
  · rw [if_neg h, if_neg (by omega)]
theorem numTo7_at (t : Nat) (f : Nat → Nat) {i : Nat} (h : i < 8) : numTo7 t f i (7 - i) = f (7 - i) := by unfold numTo7; rw [if_neg (by omega)]
theorem numTo7_step (t : Nat) (f : Nat → Nat) {i : Nat} (h : i < 8) : (mk 16 (numTo7 t f i)).set (7 - i) ((f (7 - i) ^^^ t / 256 ^ i % 256 : Nat) : Int) = mk 16 (numTo7 t f (i + 1)) := by
  refine mk_set_is (v := f (7 - i) ^^^ t / 256 ^ i % 256) rfl fun j hj => ?_
  unfold numTo7
  by_cases e : j = 7 - i
  · subst e
    rw [if_pos rfl, if_pos (by omega)]
    unfold stN
    rw [show 7 - (7 - i) = i by omega]
  · rw [if_neg e]
    by_cases l : 8 - i ≤ j ∧ j < 8
    · rw [if_pos l, if_pos (by omega)]
    · rw [if_neg l, if_neg (by omega)]
theorem shr_byte (t k : Nat) : (t : Int) / 2 ^ (8 * k) % 256 = ((t / 256 ^ k % 256 : Nat) : Int) := by
  have h : (256 : Nat) ^ k = 2 ^ (8 * k) := by rw [Nat.pow_mul]
  rw [h, Int.natCast_emod, Int.natCast_ediv, Int.natCast_pow]; rfl
set_option maxRecDepth 100000 in
set_option maxHeartbeats 1000000 in
theorem number_any (t : Nat) (f : Nat → Nat) (hf : IsKey f) (w : World) :
    Calls Try.prog 26 #[.agg (cellsOf .u8 (mk 16 f)), .int .i64 t] w fun e w' => e = .returned (.agg (cellsOf .u8 (mk 16 (numX t f)))) ∧ Below w.heap.size w w' := by
  go_enter Try.func26, Try.ntmps26
  go_wp2
  go_loopw [6] (fun v6 wr => ∃ k : Nat, k ≤ 8 ∧ v6 = .int .i64 k ∧ IntBlk wr w.heap.size .u8 65 (mk 16 (numTo7 t f k)) ∧ IntBlk wr (w.heap.size + 1) .u8 65 (mk 16 zeroK) ∧ Below w.heap.size w wr) (fun v6 _ => 8 - (intOf v6).toNat)
  case atStart => exact ⟨0, by omega, rfl, by rw [numTo7_start]; exact (IntBlk.new w .u8 _ (mk 16 f)).alloc _, blk_two w .u8 _ (mk 16 zeroK) _, below_two w _ _⟩
  case round =>
    obtain ⟨k, hk, rfl, ha, hz, hw⟩ := hrel
    have HA := Lib.hid ha; have HZ := Lib.hid hz; have HW := Lib.hid hw
    by_cases hlt : k < 8
    · have c1 := ha.cell (i := 7 - k) (by rw [mk_len]; omega)
      rw [mk_get (by omega), numTo7_at t f hlt] at c1
      have f1 := ha.free (7 - k)
      have hx := hf (7 - k) (by omega)
      have e0 : IntKind.i64.wrap (7 - (k : Int)) = ((7 - k : Nat) : Int) := by rw [IntWalk.i64_in _ (by omega)]; omega
      have e3 : IntKind.i64.wrap (8 * (k : Int)) = ((8 * k : Nat) : Int) := by rw [IntWalk.i64_in _ (by omega)]; omega
      have e1 : (k : Int) < 8 := by omega
      have e2 : (0 : Int) ≤ ((7 - k : Nat) : Int) := by omega
      have e4 : ((7 - k : Nat) : Int) < 16 := by omega
      have e5 : (0 : Int) ≤ ((8 * k : Nat) : Int) := by omega
      have HS := Lib.hid (numTo7_step t f hlt)
      have HV := Lib.hid (show bits .xor .u8 (f (7 - k) : Int) ((t : Int) / 2 ^ (8 * k) % 256) = ((f (7 - k) ^^^ t / 256 ^ k % 256 : Nat) : Int) by
        rw [shr_byte]; exact bits_xor_u8 hx (Nat.mod_lt _ (by omega)))
      generalize hm : 7 - k = m at *
      generalize h8 : 8 * k = m8 at *
      clear ha hz hw
      go_wp2
      refine wp_region_still_tail 11 (by kernel_rfl) (by kernel_rfl) ?_
      simp only [List.take_succ_cons, List.take_zero, List.drop_succ_cons, List.drop_zero]
      change wpStill _ _ wr.drew (fun a' => wpList _ _ _ _ a' wr.drew) _ _
      iterate 11 still_step
      refine wpStill_nil ?_
      go_wp2
      go_roundw
      case rel => exact ⟨k + 1, by omega, by go_num, by rw [HV.out, ← HS.out]; exact (HA.out.set m _).drew, (HZ.out.other (by show w.heap.size ≠ w.heap.size + 1; omega) _).drew, (HW.out.setCell (by show w.heap.size ≤ w.heap.size; omega) _).drew⟩
      case measure => simp [intOf]; omega
    · obtain rfl : k = 8 := by omega
      clear ha hz hw
      rw [numTo7_end] at HA
      go_wp2_with (first
        | (refine wpList_load_row rfl 65 _ rfl w.heap.size rfl 65 (cellsOf .u8 (mk 16 (numX t f))) (0, 0) _ HA.out keyUnder rfl (keySize _) ?_)
        | (refine wpList_store_row rfl 65 _ _ rfl (w.heap.size + 1) _ rfl rfl 65 (cellsOf .u8 (mk 16 zeroK)) HZ.out (keySize _) (by rw [cellsOf_size, cellsOf_size, mk_len, mk_len]) (cellsOf_one _ _) ?_))
      exact bodyPost_ret (results_cell_row rfl _ _ (w.heap.size + 1) 65 (cellsOf .u8 (mk 16 (numX t f))) (0, 0) _ rfl (HZ.out.setRow .u8 (mk 16 (numX t f))) keyUnder rfl (keySize _)) rfl ⟨rfl, below_setRow HW.out (by omega) _⟩

set_option maxRecDepth 100000 in
set_option maxHeartbeats 1000000 in
theorem prepare_key (p : Option Addr) (n cap : Nat) (q : Option Addr) (tn tcap : Nat) (z : Int) (h16 : n ≠ 16) (h32 : n ≠ 32) (w : World) :
    Calls Try.prog 21 #[.slice p n cap, .slice q tn tcap, .int .i64 z] w fun e w' => e = .returned (.tuple #[.slice none 0 0, .int .i64 0, .iface 33 (.int .i64 3)]) ∧ w = w' := by
  go_enter Try.func21, Try.ntmps21
  go_wp2_with (first
    | (go_at_call 31; refine (Rounds_bad p n cap h16 h32 _).mono ?_; rintro e w1 ⟨rfl, rfl⟩))
  go_ret3
  exact ⟨rfl, rfl⟩
set_option maxRecDepth 100000 in
set_option maxHeartbeats 1000000 in
/-- The text has a length that none has. -/
theorem prepare_form (p : Option Addr) (n cap N : Nat) (g : Nat → Nat) (q : Option Addr) (tn tcap : Nat) (z : Nat) (hn : n = 4 * N) (hN : N = 4 ∨ N = 8) (hcap : n ≤ cap) (hg : ∀ i, i < n → g i < 256)
    (htn : tn < 9223372036854775808) (hz : z ≤ 1) (ht : tn % 8 ≠ 0 ∨ tn / 8 < 2 + z ∨ 64 + z < tn / 8) (w : World) (hp : BytesAt w p n g) :
    Calls Try.prog 21 #[.slice p n cap, .slice q tn tcap, .int .i64 z] w fun e w' => e = .returned (.tuple #[.slice none 0 0, .int .i64 0, .iface 33 (.int .i64 2)]) ∧ Below w.heap.size w w' := by
  have RC := Lib.hid (Rounds_ok p n cap N g hn hN hcap hg w hp)
  have e1 : IntKind.i64.wrap ((tn : Int) / 8 - (z : Int)) = (tn : Int) / 8 - (z : Int) := IntWalk.i64_in _ (by omega)
  have e2 : IntKind.i64.wrap ((tn : Int) / 8) = (tn : Int) / 8 := IntWalk.i64_in _ (by omega)
  clear hn hN hcap hg hp
  by_cases h8 : tn % 8 = 0
  · have d1 : (((tn : Int) % 8) != 0) = false := by simp; omega
    have GC := Lib.hid (fun W => good_no ((tn : Int) / 8 - (z : Int)) (by omega) W)
    clear ht h8
    go_enter Try.func21, Try.ntmps21
    go_wp2_with (first
      | (go_at_call 31; refine RC.out.mono ?_; rintro e w1 ⟨D, rfl, _, hb⟩; clear RC)
      | (go_at_call 32; refine (GC.out _).mono ?_; rintro e w2 ⟨rfl, rfl⟩; clear GC))
    go_ret3
    exact ⟨rfl, hb⟩
  · have d1 : (((tn : Int) % 8) != 0) = true := by simp; omega
    clear ht h8
    go_enter Try.func21, Try.ntmps21
    go_wp2_with (first
      | (go_at_call 31; refine RC.out.mono ?_; rintro e w1 ⟨D, rfl, _, hb⟩; clear RC))
    go_ret3
    exact ⟨rfl, hb⟩
set_option maxRecDepth 100000 in
set_option maxHeartbeats 1000000 in
theorem prepare_ok (p : Option Addr) (n cap N : Nat) (g : Nat → Nat) (q : Option Addr) (tn tcap : Nat) (z m : Nat) (hn : n = 4 * N) (hN : N = 4 ∨ N = 8) (hcap : n ≤ cap) (hg : ∀ i, i < n → g i < 256)
    (ht : tn = 8 * (m + z)) (h2 : 2 ≤ m) (h64 : m ≤ 64) (hz : z ≤ 1) (w : World) (hp : BytesAt w p n g) :
    Calls Try.prog 21 #[.slice p n cap, .slice q tn tcap, .int .i64 z] w fun e w' => ∃ D, e = .returned (.tuple #[.slice (some ⟨D, 0, none⟩) (N + 7) (N + 7), .int .i64 m, .nilIface]) ∧ KeysAt w' (some ⟨D, 0, none⟩) (N + 7) (rkS N g) ∧ Below w.heap.size w w' := by
  have RC := Lib.hid (Rounds_ok p n cap N g hn hN hcap hg w hp)
  have e0 : (tn : Int) / 8 - (z : Int) = (m : Int) := by omega
  have e1 : IntKind.i64.wrap ((tn : Int) / 8 - (z : Int)) = (tn : Int) / 8 - (z : Int) := IntWalk.i64_in _ (by omega)
  have e2 : IntKind.i64.wrap ((tn : Int) / 8) = (tn : Int) / 8 := IntWalk.i64_in _ (by omega)
  have d1 : (((tn : Int) % 8) != 0) = false := by simp; omega
  have GC := Lib.hid (fun W => good_yes m h2 h64 W)
  rw [← e0] at GC
  have E0 := Lib.hid e0
  clear hn hN hcap hg hp ht h2 h64 hz e0
  go_enter Try.func21, Try.ntmps21
  go_wp2_with (first
    | (go_at_call 31; refine RC.out.mono ?_; rintro e w1 ⟨D, rfl, hk, hb⟩; clear RC)
    | (go_at_call 32; refine (GC.out _).mono ?_; rintro e w2 ⟨rfl, rfl⟩; clear GC))
  go_ret3
  exact ⟨D, by rw [← E0.out]; rfl, hk, hb⟩
end Go.Proofs.Ytghdeedglekphaa
