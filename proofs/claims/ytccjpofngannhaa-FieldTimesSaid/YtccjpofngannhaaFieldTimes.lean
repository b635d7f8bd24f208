/- Blocks doubled, or halved, many times by package field are the document's: the statement FieldTimes. No condition. -/
import Derived.Test.YtccjpofngannhaaTimesC
import Derived.Test.YtccjpofngannhaaOpen
import Derived.Test.YtccjpofngannhaaRef3
namespace Go.Proofs.Ytccjpofngannhaa.fieldTimes
open Go.ChangeShapes Go.WideShapes Go.ChangeAt Go.RowKit
set_option linter.unusedVariables false

theorem own : ownKnob Try.prog.godebug = none := by kernel_rfl
/-- x^9. -/
def nine : Nat → Nat := fun j => if j = 1 then 2 else 0
theorem is_nine : (mk 16 (timesK (oneK 1) 9) == mk 16 nine) = true := by decide +kernel
theorem nine_cells : cellsOf .u8 (mk 16 nine) = #[.int .u8 0, .int .u8 2, .int .u8 0, .int .u8 0, .int .u8 0, .int .u8 0, .int .u8 0, .int .u8 0, .int .u8 0, .int .u8 0, .int .u8 0, .int .u8 0, .int .u8 0, .int .u8 0, .int .u8 0, .int .u8 0] := by kernel_rfl
theorem nine_eq (W : World) : (Op.equalIn 10000 28 (.agg (cellsOf .u8 (mk 16 (timesK (oneK 1) 9)))) (.agg #[.int .u8 0, .int .u8 2, .int .u8 0, .int .u8 0, .int .u8 0, .int .u8 0, .int .u8 0, .int .u8 0, .int .u8 0, .int .u8 0, .int .u8 0, .int .u8 0, .int .u8 0, .int .u8 0, .int .u8 0, .int .u8 0])).run Try.prog W = .ok true W := by
  rw [← nine_cells, key_eq, is_nine]

set_option maxRecDepth 100000 in
set_option maxHeartbeats 4000000 in
theorem walk_low (f : Nat → Nat) (hf : IsKey f) (n : Int) (h : n < -4096) (w : World) :
    Calls Try.prog 11 #[.agg (cellsOf .u8 (mk 16 f)), .int .i64 n] w fun e w' => e = .returned (.bool true) ∧ Below w.heap.size w w' := by
  have hE : timesK f n = f := times_far (.inl h)
  go_enter Try.func11, Try.ntmps11
  go_wp2_with (refine wpList_load_row rfl 28 _ rfl w.heap.size rfl 28 (cellsOf .u8 (mk 16 f)) (0, 0) _ (IntBlk.new w .u8 28 (mk 16 f)) keyUnder rfl (keySize _) ?_)
  refine (Times_any f hf n _).mono ?_
  rintro e w1 ⟨rfl, hb⟩
  have B1 := (IntBlk.new w .u8 28 (mk 16 f)).below hb (by simp)
  have L1 : Below w.heap.size w w1 := ((Below.refl _ _).alloc (Nat.le_refl _) _).trans (hb.mono (by simp))
  clear hb
  have hr := times_key hf n
  generalize timesK f n = r at *
  have HS := Lib.hid B1
  have HW := Lib.hid L1
  have HE := Lib.hid hE
  clear B1 L1 hE
  go_wp2_with (first
    | (refine store_row_on rfl 28 _ _ rfl rfl w1.heap.size (cellsOf .u8 (mk 16 r)) rfl rfl 28 (cellsOf .u8 (mk 16 zeroK)) (IntBlk.new w1 .u8 _ (mk 16 zeroK)) (keySize _) (by rw [cellsOf_size, cellsOf_size, mk_len, mk_len]) (cellsOf_one _ _) ?_)
    | fail)
  refine (Times_any (oneK 1) (oneK_key (by omega)) 9 _).mono ?_
  rintro e w2 ⟨rfl, hb⟩
  have hst : w.heap.size < w1.heap.size := HS.out.lt
  have B1 : IntBlk w2 w.heap.size .u8 28 (mk 16 f) := ((HS.out.alloc (.cells (cellsOf .u8 (mk 16 zeroK)) 28)).otherRow (by omega) _).below hb (by simp; omega)
  have B2 : IntBlk w2 w1.heap.size .u8 28 (mk 16 r) := ((IntBlk.new w1 .u8 _ (mk 16 zeroK)).setRow .u8 (mk 16 r)).below hb (by simp)
  have L1 : Below w.heap.size w w2 := (below_setRow (HW.out.alloc HW.out.size (.cells (cellsOf .u8 (mk 16 zeroK)) 28)) (by omega) _).trans (hb.mono (by simp; omega))
  clear hb HS HW
  generalize w1.heap.size = T at *
  have HS := Lib.hid B1
  have HT := Lib.hid B2
  have HW := Lib.hid L1
  clear B1 B2 L1
  have ek := fun f g W => key_eq f g W
  have en := nine_eq
  generalize timesK (oneK 1) 9 = r9 at *
  have he : (mk 16 r == mk 16 f) = true := by rw [HE.out]; simp
  go_wp2_with (first
    | fail
    | (refine wpList_load_row rfl 28 _ rfl T rfl 28 (cellsOf .u8 (mk 16 r)) (0, 0) _ HT.out keyUnder rfl (keySize _) ?_)
    | (refine wpList_load_row rfl 28 _ rfl w.heap.size rfl 28 (cellsOf .u8 (mk 16 f)) (0, 0) _ HS.out keyUnder rfl (keySize _) ?_))
  go_ret
  exact ⟨rfl, HW.out⟩

set_option maxRecDepth 100000 in
set_option maxHeartbeats 4000000 in
theorem walk_high (f : Nat → Nat) (hf : IsKey f) (n : Int) (h : 4096 < n) (w : World) :
    Calls Try.prog 11 #[.agg (cellsOf .u8 (mk 16 f)), .int .i64 n] w fun e w' => e = .returned (.bool true) ∧ Below w.heap.size w w' := by
  have hE : timesK f n = f := times_far (.inr h)
  go_enter Try.func11, Try.ntmps11
  go_wp2_with (refine wpList_load_row rfl 28 _ rfl w.heap.size rfl 28 (cellsOf .u8 (mk 16 f)) (0, 0) _ (IntBlk.new w .u8 28 (mk 16 f)) keyUnder rfl (keySize _) ?_)
  refine (Times_any f hf n _).mono ?_
  rintro e w1 ⟨rfl, hb⟩
  have B1 := (IntBlk.new w .u8 28 (mk 16 f)).below hb (by simp)
  have L1 : Below w.heap.size w w1 := ((Below.refl _ _).alloc (Nat.le_refl _) _).trans (hb.mono (by simp))
  clear hb
  have hr := times_key hf n
  generalize timesK f n = r at *
  have HS := Lib.hid B1
  have HW := Lib.hid L1
  have HE := Lib.hid hE
  clear B1 L1 hE
  go_wp2_with (first
    | (refine store_row_on rfl 28 _ _ rfl rfl w1.heap.size (cellsOf .u8 (mk 16 r)) rfl rfl 28 (cellsOf .u8 (mk 16 zeroK)) (IntBlk.new w1 .u8 _ (mk 16 zeroK)) (keySize _) (by rw [cellsOf_size, cellsOf_size, mk_len, mk_len]) (cellsOf_one _ _) ?_)
    | fail)
  refine (Times_any (oneK 1) (oneK_key (by omega)) 9 _).mono ?_
  rintro e w2 ⟨rfl, hb⟩
  have hst : w.heap.size < w1.heap.size := HS.out.lt
  have B1 : IntBlk w2 w.heap.size .u8 28 (mk 16 f) := ((HS.out.alloc (.cells (cellsOf .u8 (mk 16 zeroK)) 28)).otherRow (by omega) _).below hb (by simp; omega)
  have B2 : IntBlk w2 w1.heap.size .u8 28 (mk 16 r) := ((IntBlk.new w1 .u8 _ (mk 16 zeroK)).setRow .u8 (mk 16 r)).below hb (by simp)
  have L1 : Below w.heap.size w w2 := (below_setRow (HW.out.alloc HW.out.size (.cells (cellsOf .u8 (mk 16 zeroK)) 28)) (by omega) _).trans (hb.mono (by simp; omega))
  clear hb HS HW
  generalize w1.heap.size = T at *
  have HS := Lib.hid B1
  have HT := Lib.hid B2
  have HW := Lib.hid L1
  clear B1 B2 L1
  have ek := fun f g W => key_eq f g W
  have en := nine_eq
  generalize timesK (oneK 1) 9 = r9 at *
  have he : (mk 16 r == mk 16 f) = true := by rw [HE.out]; simp
  go_wp2_with (first
    | fail
    | (refine wpList_load_row rfl 28 _ rfl T rfl 28 (cellsOf .u8 (mk 16 r)) (0, 0) _ HT.out keyUnder rfl (keySize _) ?_)
    | (refine wpList_load_row rfl 28 _ rfl w.heap.size rfl 28 (cellsOf .u8 (mk 16 f)) (0, 0) _ HS.out keyUnder rfl (keySize _) ?_))
  go_ret
  exact ⟨rfl, HW.out⟩

set_option maxRecDepth 100000 in
set_option maxHeartbeats 4000000 in
theorem walk_pos (f : Nat → Nat) (hf : IsKey f) (n : Int) (h0 : 0 ≤ n) (h1 : n ≤ 4096) (w : World) :
    Calls Try.prog 11 #[.agg (cellsOf .u8 (mk 16 f)), .int .i64 n] w fun e w' => e = .returned (.bool true) ∧ Below w.heap.size w w' := by
  have hE : mk 16 (timesK f n) = mk 16 (itK dbl n.toNat f) := by rw [times_pos h1 h0]
  go_enter Try.func11, Try.ntmps11
  go_wp2_with (refine wpList_load_row rfl 28 _ rfl w.heap.size rfl 28 (cellsOf .u8 (mk 16 f)) (0, 0) _ (IntBlk.new w .u8 28 (mk 16 f)) keyUnder rfl (keySize _) ?_)
  refine (Times_any f hf n _).mono ?_
  rintro e w1 ⟨rfl, hb⟩
  have B1 := (IntBlk.new w .u8 28 (mk 16 f)).below hb (by simp)
  have L1 : Below w.heap.size w w1 := ((Below.refl _ _).alloc (Nat.le_refl _) _).trans (hb.mono (by simp))
  clear hb
  have hr := times_key hf n
  generalize timesK f n = r at *
  have HS := Lib.hid B1
  have HW := Lib.hid L1
  have HE := Lib.hid hE
  clear B1 L1 hE
  go_wp2_with (first
    | (refine store_row_on rfl 28 _ _ rfl rfl w1.heap.size (cellsOf .u8 (mk 16 r)) rfl rfl 28 (cellsOf .u8 (mk 16 zeroK)) (IntBlk.new w1 .u8 _ (mk 16 zeroK)) (keySize _) (by rw [cellsOf_size, cellsOf_size, mk_len, mk_len]) (cellsOf_one _ _) ?_)
    | fail)
  refine (Times_any (oneK 1) (oneK_key (by omega)) 9 _).mono ?_
  rintro e w2 ⟨rfl, hb⟩
  have hst : w.heap.size < w1.heap.size := HS.out.lt
  have B1 : IntBlk w2 w.heap.size .u8 28 (mk 16 f) := ((HS.out.alloc (.cells (cellsOf .u8 (mk 16 zeroK)) 28)).otherRow (by omega) _).below hb (by simp; omega)
  have B2 : IntBlk w2 w1.heap.size .u8 28 (mk 16 r) := ((IntBlk.new w1 .u8 _ (mk 16 zeroK)).setRow .u8 (mk 16 r)).below hb (by simp)
  have L1 : Below w.heap.size w w2 := (below_setRow (HW.out.alloc HW.out.size (.cells (cellsOf .u8 (mk 16 zeroK)) 28)) (by omega) _).trans (hb.mono (by simp; omega))
  clear hb HS HW
  generalize w1.heap.size = T at *
  have HS := Lib.hid B1
  have HT := Lib.hid B2
  have HW := Lib.hid L1
  clear B1 B2 L1
  have ek := fun f g W => key_eq f g W
  have en := nine_eq
  generalize timesK (oneK 1) 9 = r9 at *
  have he : (mk 16 r == mk 16 (itK dbl n.toNat f)) = true := by rw [HE.out]; simp
  have n1 : n = (n.toNat : Nat) := by omega
  have HN := Lib.hid n1; clear n1
  go_wp2_with fail
  go_loopw [1] (fun v wr => ∃ (k : Nat) (z : Int), k ≤ n.toNat ∧ z = ((n.toNat : Nat) : Int) - k ∧ v = .int .i64 z ∧ IntBlk wr w.heap.size .u8 28 (mk 16 (itK dbl k f)) ∧ IntBlk wr T .u8 28 (mk 16 r) ∧ Below w.heap.size w wr) (fun v _ => (intOf v).toNat)
  case atStart => exact ⟨0, n, by omega, by have := HN.out; omega, rfl, HS.out, HT.out, HW.out⟩
  case round =>
    clear HS HT HW
    obtain ⟨k, z, hk, hz, rfl, hs, ht, hw⟩ := hrel
    have HS := Lib.hid hs
    have HT := Lib.hid ht
    have HW := Lib.hid hw
    have HZ := Lib.hid hz
    clear hs ht hw
    by_cases hlt : k < n.toNat
    · have hf' := itK_key (fun f h => dbl_key h) hf k
      have z1 : 1 ≤ z := by omega
      have z2 : z ≤ 4096 := by omega
      clear hz
      go_wp2_with (first
        | (refine wpList_load_row rfl 28 _ rfl w.heap.size rfl 28 (cellsOf .u8 (mk 16 (itK dbl k f))) (0, 0) _ HS.out keyUnder rfl (keySize _) ?_)
        | (go_at_call 20; refine (refDouble_any _ hf' _).mono ?_; rintro e w3 ⟨rfl, hb⟩)
        | (refine store_row_on rfl 28 _ _ rfl rfl w.heap.size (cellsOf .u8 (mk 16 (dbl (itK dbl k f)))) rfl rfl 28 _ (HS.out.below hb HS.out.lt) (keySize _) (by rw [cellsOf_size, cellsOf_size, mk_len, mk_len]) (cellsOf_one _ _) ?_))
      go_roundw
      case rel => exact ⟨k + 1, z - 1, by omega, by have := HZ.out; omega, rfl, (HS.out.below hb HS.out.lt).setRow .u8 (mk 16 (itK dbl (k + 1) f)), (HT.out.below hb HT.out.lt).otherRow (by omega) _, below_setRow (HW.out.trans (hb.mono HW.out.size)) (Nat.le_refl _) _⟩
      case measure => simp [intOf]; omega
    · have ek' : k = n.toNat := by omega
      rw [ek'] at HS
      have z0 : ¬ 0 < z := by omega
      clear ek' hz
      go_wp2_with (first
        | (refine wpList_load_row rfl 28 _ rfl T rfl 28 (cellsOf .u8 (mk 16 r)) (0, 0) _ HT.out keyUnder rfl (keySize _) ?_)
        | (refine wpList_load_row rfl 28 _ rfl w.heap.size rfl 28 (cellsOf .u8 (mk 16 (itK dbl n.toNat f))) (0, 0) _ HS.out keyUnder rfl (keySize _) ?_))
      go_ret
      exact ⟨rfl, HW.out⟩

set_option maxRecDepth 100000 in
set_option maxHeartbeats 4000000 in
theorem walk_neg (f : Nat → Nat) (hf : IsKey f) (n : Int) (h0 : n < 0) (h1 : -4096 ≤ n) (w : World) :
    Calls Try.prog 11 #[.agg (cellsOf .u8 (mk 16 f)), .int .i64 n] w fun e w' => e = .returned (.bool true) ∧ Below w.heap.size w w' := by
  have hE : mk 16 (itK dbl (-n).toNat (timesK f n)) = mk 16 f := by rw [times_neg h1 h0]; exact mk_ext (back hf _)
  go_enter Try.func11, Try.ntmps11
  go_wp2_with (refine wpList_load_row rfl 28 _ rfl w.heap.size rfl 28 (cellsOf .u8 (mk 16 f)) (0, 0) _ (IntBlk.new w .u8 28 (mk 16 f)) keyUnder rfl (keySize _) ?_)
  refine (Times_any f hf n _).mono ?_
  rintro e w1 ⟨rfl, hb⟩
  have B1 := (IntBlk.new w .u8 28 (mk 16 f)).below hb (by simp)
  have L1 : Below w.heap.size w w1 := ((Below.refl _ _).alloc (Nat.le_refl _) _).trans (hb.mono (by simp))
  clear hb
  have hr := times_key hf n
  generalize timesK f n = r at *
  have HS := Lib.hid B1
  have HW := Lib.hid L1
  have HE := Lib.hid hE
  clear B1 L1 hE
  go_wp2_with (first
    | (refine store_row_on rfl 28 _ _ rfl rfl w1.heap.size (cellsOf .u8 (mk 16 r)) rfl rfl 28 (cellsOf .u8 (mk 16 zeroK)) (IntBlk.new w1 .u8 _ (mk 16 zeroK)) (keySize _) (by rw [cellsOf_size, cellsOf_size, mk_len, mk_len]) (cellsOf_one _ _) ?_)
    | fail)
  refine (Times_any (oneK 1) (oneK_key (by omega)) 9 _).mono ?_
  rintro e w2 ⟨rfl, hb⟩
  have hst : w.heap.size < w1.heap.size := HS.out.lt
  have B1 : IntBlk w2 w.heap.size .u8 28 (mk 16 f) := ((HS.out.alloc (.cells (cellsOf .u8 (mk 16 zeroK)) 28)).otherRow (by omega) _).below hb (by simp; omega)
  have B2 : IntBlk w2 w1.heap.size .u8 28 (mk 16 r) := ((IntBlk.new w1 .u8 _ (mk 16 zeroK)).setRow .u8 (mk 16 r)).below hb (by simp)
  have L1 : Below w.heap.size w w2 := (below_setRow (HW.out.alloc HW.out.size (.cells (cellsOf .u8 (mk 16 zeroK)) 28)) (by omega) _).trans (hb.mono (by simp; omega))
  clear hb HS HW
  generalize w1.heap.size = T at *
  have HS := Lib.hid B1
  have HT := Lib.hid B2
  have HW := Lib.hid L1
  clear B1 B2 L1
  have ek := fun f g W => key_eq f g W
  have en := nine_eq
  generalize timesK (oneK 1) 9 = r9 at *
  have he : (mk 16 f == mk 16 (itK dbl (-n).toNat r)) = true := by rw [HE.out]; simp
  have n1 : -n = ((-n).toNat : Nat) := by omega
  have HN := Lib.hid n1; clear n1
  go_wp2_with (first
    | fail
    | (refine wpList_load_row rfl 28 _ rfl w.heap.size rfl 28 (cellsOf .u8 (mk 16 f)) (0, 0) _ HS.out keyUnder rfl (keySize _) ?_)
    | (refine wpList_load_row rfl 28 _ rfl T rfl 28 (cellsOf .u8 (mk 16 r)) (0, 0) _ HT.out keyUnder rfl (keySize _) ?_)
    | (refine store_row_on rfl 28 _ _ rfl rfl T (cellsOf .u8 (mk 16 f)) rfl rfl 28 _ HT.out (keySize _) (by rw [cellsOf_size, cellsOf_size, mk_len, mk_len]) (cellsOf_one _ _) ?_)
    | (refine store_row_on rfl 28 _ _ rfl rfl w.heap.size (cellsOf .u8 (mk 16 r)) rfl rfl 28 _ (HS.out.otherRow (by omega) _) (keySize _) (by rw [cellsOf_size, cellsOf_size, mk_len, mk_len]) (cellsOf_one _ _) ?_))
  go_loopw [1] (fun v wr => ∃ (k : Nat) (z : Int), k ≤ (-n).toNat ∧ z = (((-n).toNat : Nat) : Int) - k ∧ v = .int .i64 z ∧ IntBlk wr w.heap.size .u8 28 (mk 16 (itK dbl k r)) ∧ IntBlk wr T .u8 28 (mk 16 f) ∧ Below w.heap.size w wr) (fun v _ => (intOf v).toNat)
  case atStart => exact ⟨0, -n, by omega, by have := HN.out; omega, rfl, (HS.out.otherRow (by omega) _).setRow .u8 (mk 16 r), (HT.out.setRow .u8 (mk 16 f)).otherRow (by omega) _, below_setRow (below_setRow HW.out (by omega) _) (Nat.le_refl _) _⟩
  case round =>
    clear HS HT HW
    obtain ⟨k, z, hk, hz, rfl, hs, ht, hw⟩ := hrel
    have HS := Lib.hid hs
    have HT := Lib.hid ht
    have HW := Lib.hid hw
    have HZ := Lib.hid hz
    clear hs ht hw
    by_cases hlt : k < (-n).toNat
    · have hf' := itK_key (fun f h => dbl_key h) hr k
      have z1 : 1 ≤ z := by omega
      have z2 : z ≤ 4096 := by omega
      clear hz
      go_wp2_with (first
        | (refine wpList_load_row rfl 28 _ rfl w.heap.size rfl 28 (cellsOf .u8 (mk 16 (itK dbl k r))) (0, 0) _ HS.out keyUnder rfl (keySize _) ?_)
        | (go_at_call 20; refine (refDouble_any _ hf' _).mono ?_; rintro e w3 ⟨rfl, hb⟩)
        | (refine store_row_on rfl 28 _ _ rfl rfl w.heap.size (cellsOf .u8 (mk 16 (dbl (itK dbl k r)))) rfl rfl 28 _ (HS.out.below hb HS.out.lt) (keySize _) (by rw [cellsOf_size, cellsOf_size, mk_len, mk_len]) (cellsOf_one _ _) ?_))
      go_roundw
      case rel => exact ⟨k + 1, z - 1, by omega, by have := HZ.out; omega, rfl, (HS.out.below hb HS.out.lt).setRow .u8 (mk 16 (itK dbl (k + 1) r)), (HT.out.below hb HT.out.lt).otherRow (by omega) _, below_setRow (HW.out.trans (hb.mono HW.out.size)) (Nat.le_refl _) _⟩
      case measure => simp [intOf]; omega
    · have ek' : k = (-n).toNat := by omega
      rw [ek'] at HS
      have z0 : ¬ 0 < z := by omega
      clear ek' hz
      go_wp2_with (first
        | (refine wpList_load_row rfl 28 _ rfl T rfl 28 (cellsOf .u8 (mk 16 f)) (0, 0) _ HT.out keyUnder rfl (keySize _) ?_)
        | (refine wpList_load_row rfl 28 _ rfl w.heap.size rfl 28 (cellsOf .u8 (mk 16 (itK dbl (-n).toNat r))) (0, 0) _ HS.out keyUnder rfl (keySize _) ?_))
      go_ret
      exact ⟨rfl, HW.out⟩

theorem walk (f : Nat → Nat) (n : Int) (hf : IsKey f) (_h : (Lit.int .i64 n).wf = true) (w : World) :
    Calls Try.prog 11 #[.agg (cellsOf .u8 (mk 16 f)), .int .i64 n] w fun e w' => e = .returned (.bool true) ∧ Below w.heap.size w w' := by
  by_cases a : n < -4096
  · exact walk_low f hf n a w
  · by_cases b : 4096 < n
    · exact walk_high f hf n b w
    · by_cases c : n < 0
      · exact walk_neg f hf n c (by omega) w
      · exact walk_pos f hf n (by omega) (by omega) w

theorem laidOut : laidOutB Try.prog = true := by kernel_rfl
set_option maxRecDepth 100000 in
theorem lifted (os : Os) (started : os.Started) (H : Type) (enc : TypeId × Value → H) :
    ReturnsInHanded {} Try.checked os 11 .any (Rows.fieldTimesSpec.pre6 enc Try.prog Try.f11 Rows.fieldTimesRow.domain false) (Rows.fieldTimesSpec.post enc Try.prog Try.f11 false true false false) := by
  refine returnsInHanded_of_change (C := Try.checked) own started (by kernel_rfl) Try.func11
    (ChangeSpec.witness6 (enc := enc) (C := Try.checked) false ⟨#[], #[.agg #[.int .u8 0, .int .u8 0, .int .u8 0, .int .u8 0, .int .u8 0, .int .u8 0, .int .u8 0, .int .u8 0, .int .u8 0, .int .u8 0, .int .u8 0, .int .u8 0, .int .u8 0, .int .u8 0, .int .u8 0, .int .u8 0], .int .i64 0], []⟩ 8 (by kernel_rfl) (by kernel_rfl) (by kernel_rfl) (by kernel_rfl)) ?_
  intro W base args ds gs before hval0 hW hcnd _
  have hval : ∀ (j : Nat) t v, Try.f11.params[j]? = some t → args[j]? = some v → Value.okWide Try.prog W .any base t v := hval0
  have hW' := hW
  obtain ⟨p, q, hA0, hV, rfl, hfz, hnd⟩ := hW
  have hA : DataW.TrodAll enc Try.prog W 0 (fun _ => true) true Try.f11.params.toList args.toList ds p := hA0
  rw [Try.params11] at hA hval
  obtain ⟨v0, vs0, d0, ds0, p0, q0, hargs, rfl, rfl, h0, r0⟩ := trodAll_cons hA
  obtain ⟨v1, vs1, d1, ds1, p1, q1, rfl, rfl, rfl, h1, r1⟩ := trodAll_cons r0
  obtain ⟨rfl, rfl, rfl⟩ := trodAll_nil r1
  obtain rfl : args = #[v0, v1] := by cases args; simp_all
  obtain ⟨rfl, rfl⟩ := trodVars_none hV
  have k0 := h0
  have lt0 : ∀ x ∈ p0, x.block < W.heap.size := by obtain ⟨m, hm⟩ := k0; exact DataW.trod_lt m _ _ _ hm
  obtain ⟨a0, w0, rfl⟩ := open_bytes Try.underlying28 Try.underlying5 (by kernel_rfl) (by kernel_rfl) (hval 0 28 v0 rfl rfl) h0
  obtain ⟨a1, rfl, rfl, rfl, w1⟩ := open_int Try.underlying3 (hval 1 3 v1 rfl rfl) h1
  clear hA0 hval0
  refine (walk a0 a1 w0 w1 W).mono fun e W' ⟨he, bel⟩ => ?_
  subst he
  exact ⟨_, rfl, _, _, _, [], _, [], hW', trodAll_mk1 (shut_bool Try.underlying4 _), (trodAll_cons_mk (Below.trod laidOut (by kernel_rfl) (of_decide_eq_true (by kernel_rfl)) k0 bel lt0) (trodAll_cons_mk (shut_int Try.underlying3 w1) trodAll_mk0)), rfl, bel.frame _, fun h => by cases h⟩

theorem over : Rows.fieldTimesRow.holds Try.pinned (OpenSpec.ofChange Rows.fieldTimesSpec) :=
  OpenClaim.holds_of_wide 11 Try.f11 rfl rfl rfl rfl rfl rfl rfl ⟨rfl, rfl, rfl, rfl, rfl⟩ rfl rfl rfl rfl rfl (by kernel_rfl) Try.func11 (by kernel_rfl)
    (of_decide_eq_true (by kernel_rfl)) (by unfold Func.isWrapper; first | (rw [if_pos (by decide +kernel)]; kernel_rfl) | (rw [if_neg (by decide +kernel)]; exact ⟨rfl, rfl⟩))
    (fun os started H enc _ => lifted os started H enc)

theorem proved : Rows.FieldTimesSaid := over
end Go.Proofs.Ytccjpofngannhaa.fieldTimes
