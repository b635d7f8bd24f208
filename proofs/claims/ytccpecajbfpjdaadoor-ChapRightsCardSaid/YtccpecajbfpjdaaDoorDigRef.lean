/- DigRef: merged by merge.py out of RefSch RefTake RefPad TableC RefOf. Conditions: as each part says. -/
import Derived.Test.YtccpecajbfpjdaaDoorDigProg
import Derived.Test.YtccpecajbfpjdaaDoorDigBase
import Derived.Great.BuildSlice
/- The contract of package citadelref04's Schedule: a piece's sixty-four words. It writes nothing that was there. Condition: the slice holds 64 bytes. -/
namespace Go.Proofs.YtccpecajbfpjdaaDoor
open Go.ChangeShapes Go.WideShapes Go.ChangeAt Go.RowKit

theorem schT_zero (f : Nat → Nat) : ∀ {k j : Nat}, k ≤ j → schT f k j = 0
  | 0, _, _ => rfl
  | k + 1, j, h => by
    show (if j = k then _ else schT f k j) = 0
    rw [if_neg (by omega), schT_zero f (by omega)]
/-- A word's first k bytes. -/
def valW (f : Nat → Nat) (i : Nat) : Nat → Nat
  | 0 => 0
  | k + 1 => valW f i k * 256 + f (4 * i + k)
theorem valW_step (f : Nat → Nat) (i k : Nat) : valW f i (k + 1) = valW f i k * 256 + f (4 * i + k) := rfl
def partT (f : Nat → Nat) (i k : Nat) : Nat → Nat := upd (schT f i) i (valW f i k)
theorem partT_zero (f : Nat → Nat) (i : Nat) : partT f i 0 = schT f i := by
  funext j
  show (if j = i then (0 : Nat) else schT f i j) = schT f i j
  split
  · rename_i e; rw [e, schT_zero f (Nat.le_refl i)]
  · rfl
theorem valW_four (f : Nat → Nat) (i : Nat) : valW f i 4 = beW f i := by
  show (((0 * 256 + f (4 * i + 0)) * 256 + f (4 * i + 1)) * 256 + f (4 * i + 2)) * 256 + f (4 * i + 3) = _
  unfold beW; rw [Nat.add_zero]; omega
theorem partT_four (f : Nat → Nat) {i : Nat} (hi : i < 16) : partT f i 4 = schT f (i + 1) := by
  funext j
  show (if j = i then valW f i 4 else schT f i j) = (if j = i then nextW f (schT f i) i else schT f i j)
  rw [valW_four]; unfold nextW; rw [if_pos hi]
theorem partT_step (f : Nat → Nat) (i k : Nat) {v : Int} (hv : v = (valW f i (k + 1) : Nat)) : (mk 64 (partT f i k)).set i v = mk 64 (partT f i (k + 1)) :=
  mk_set_is hv fun j _ => by
    show (if j = i then _ else if j = i then _ else schT f i j) = (if j = i then _ else schT f i j)
    split
    · rfl
    · rfl
theorem partT_at (f : Nat → Nat) (i k : Nat) : partT f i k i = valW f i k := if_pos rfl
theorem valW_lt {f : Nat → Nat} (hf : ∀ i, i < 64 → f i < 256) {i : Nat} (hi : i < 16) : ∀ k, k ≤ 3 → valW f i k < 16777216 := by
  have h0 := hf (4 * i + 0) (by omega); have h1 := hf (4 * i + 1) (by omega); have h2 := hf (4 * i + 2) (by omega)
  intro k hk
  rcases (show k = 0 ∨ k = 1 ∨ k = 2 ∨ k = 3 by omega) with rfl | rfl | rfl | rfl
  · show (0 : Nat) < _; omega
  · show 0 * 256 + f (4 * i + 0) < _; omega
  · show (0 * 256 + f (4 * i + 0)) * 256 + f (4 * i + 1) < _; omega
  · show ((0 * 256 + f (4 * i + 0)) * 256 + f (4 * i + 1)) * 256 + f (4 * i + 2) < _; omega
theorem refEar_bits {x : Nat} (hx : x < 4294967296) : bits .xor .u32 (bits .xor .u32 (roZ x 7) (roZ x 18)) (shZ x 3) = (earW x : Nat) := by
  unfold roZ shZ
  show bits .xor .u32 (bits .xor .u32 (rr x 7 : Nat) (rr x 18 : Nat)) (x / 2 ^ 3 : Nat) = _
  rw [u32_xor_nat _ _ (rr_lt hx (by omega)) (rr_lt hx (by omega)), u32_xor_nat _ _ (xor32_lt (rr_lt hx (by omega)) (rr_lt hx (by omega))) (by omega)]
  rfl
theorem refLat_bits {x : Nat} (hx : x < 4294967296) : bits .xor .u32 (bits .xor .u32 (roZ x 17) (roZ x 19)) (shZ x 10) = (latW x : Nat) := by
  unfold roZ shZ
  show bits .xor .u32 (bits .xor .u32 (rr x 17 : Nat) (rr x 19 : Nat)) (x / 2 ^ 10 : Nat) = _
  rw [u32_xor_nat _ _ (rr_lt hx (by omega)) (rr_lt hx (by omega)), u32_xor_nat _ _ (xor32_lt (rr_lt hx (by omega)) (rr_lt hx (by omega))) (by omega)]
  rfl
attribute [local irreducible] schT beW latW earW add32 partT valW roZ shZ rr

set_option maxRecDepth 100000 in
set_option maxHeartbeats 4000000 in
theorem refSchedule_any (B o cap : Nat) (f : Nat → Nat) (hf : ∀ i, i < 64 → f i < 256) (w : World) (hB : B < w.heap.size) (hp : Cells w B o 64 f) :
    Calls Tryd.prog 37 #[.slice (some ⟨B, o, none⟩) 64 cap] w fun e w' => e = .returned (.agg (cellsOf .u32 (mk 64 (schT f 64)))) ∧ Below w.heap.size w w' := by
  have h0 : mk 64 (schT f 0) = mk 64 zeroK := by unfold schT; rfl
  go_enter Tryd.func37, Tryd.ntmps37
  go_wp2
  go_loopw [4] (fun v wr => ∃ k : Nat, k ≤ 16 ∧ v = .int .i64 k ∧ IntBlk wr w.heap.size .u32 63 (mk 64 zeroK) ∧ IntBlk wr (w.heap.size + 1) .u32 63 (mk 64 (schT f k)) ∧ Below w.heap.size w wr) (fun v _ => 16 - (intOf v).toNat)
  case atStart => exact ⟨0, by omega, rfl, (IntBlk.new w .u32 63 (mk 64 zeroK)).alloc _, by rw [h0]; exact (blk_two w .u32 63 (mk 64 zeroK) _), below_two w _ _⟩
  case round =>
    clear h0
    obtain ⟨i, hi, rfl, hz, hd, hw⟩ := hrel
    have HZ := Lib.hid hz
    have HD := Lib.hid hd
    have HW := Lib.hid hw
    clear hz hd hw
    by_cases h16 : i < 16
    · have e1 : (i : Int) < 16 := by omega
      go_wp2
      go_loopw [5] (fun v wk => ∃ k : Nat, k ≤ 4 ∧ v = .int .i64 k ∧ IntBlk wk w.heap.size .u32 63 (mk 64 zeroK) ∧ IntBlk wk (w.heap.size + 1) .u32 63 (mk 64 (partT f i k)) ∧ Below w.heap.size w wk) (fun v _ => 4 - (intOf v).toNat)
      case atStart => exact ⟨0, by omega, rfl, HZ.out, by rw [partT_zero]; exact HD.out, HW.out⟩
      case round =>
        clear HZ HD HW
        obtain ⟨k, hk, rfl, hz, hd, hw⟩ := hrel
        have HZ := Lib.hid hz
        have HD := Lib.hid hd
        have HW := Lib.hid hw
        by_cases h4 : k < 4
        · have e2 : (k : Int) < 4 := by omega
          have HS := Lib.hid (partT_step f i k (v := ((valW f i (k + 1) : Nat) : Int)) rfl)
          have hv := valW_lt hf h16 k (by omega)
          have hb := hf (4 * i + k) (by omega)
          have c1 := hd.cell (i := i) (by rw [mk_len]; omega)
          rw [mk_get (by omega), partT_at] at c1
          have f1 := hd.free i
          have c2 := hp.below hw hB (4 * i + k) (by omega)
          have hn : valW f i (k + 1) = valW f i k * 256 + f (4 * i + k) := valW_step f i k
          obtain ⟨x, hx⟩ : ∃ x, 4 * i = x := ⟨_, rfl⟩
          obtain ⟨y, hy⟩ : ∃ y, x + k = y := ⟨_, rfl⟩
          rw [hx, hy] at c2 hb hn
          generalize valW f i (k + 1) = nv at *
          generalize valW f i k = v at *
          generalize f y = b at *
          have m1 : IntKind.u32.wrap ((v : Int) * 256) = (v : Int) * 256 := by rw [IntKind.wrap_u32']; omega
          have m2 : IntKind.u32.wrap ((v : Int) * 256 + (b : Int)) = (nv : Int) := by rw [IntKind.wrap_u32']; omega
          have m3 : IntKind.u32.wrap (b : Int) = (b : Int) := by rw [IntKind.wrap_u32']; omega
          have q1 : IntKind.i64.wrap (4 * (i : Int)) = (x : Int) := by rw [IntWalk.i64_in _ (by omega)]; omega
          have q2 : IntKind.i64.wrap ((x : Int) + (k : Int)) = (y : Int) := by rw [IntWalk.i64_in _ (by omega)]; omega
          have l0 : (0 : Int) ≤ i := by omega
          have l1 : (0 : Int) ≤ y := by omega
          have u0 : (i : Int) < 64 := by omega
          have u1 : (y : Int) < 64 := by omega
          clear hz hd hw hx hy hn hv hb
          go_wp2
          refine wp_region_still_tail 15 (by kernel_rfl) (by kernel_rfl) ?_
          simp only [List.take_succ_cons, List.take_zero, List.drop_succ_cons, List.drop_zero]
          change wpStill _ _ wr.drew (fun a' => wpList _ _ _ _ a' wr.drew) _ _
          iterate 15 still_step
          refine wpStill_nil ?_
          go_wp2
          go_roundw
          case rel => exact ⟨k + 1, by omega, by go_num, (HZ.out.other (by show w.heap.size + 1 ≠ w.heap.size; omega) _).drew, by rw [← HS.out]; exact (HD.out.set i _).drew, (HW.out.setCell (by show w.heap.size ≤ w.heap.size + 1; omega) _).drew⟩
          case measure => simp [intOf]; omega
        · obtain rfl : k = 4 := by omega
          have hd1 : decide (((4 : Nat) : Int) < 4) = false := rfl
          clear hz hd hw
          rw [partT_four f h16] at HD
          go_wp2
          go_roundw
          case rel => exact ⟨i + 1, by omega, by go_num, HZ.out, HD.out, HW.out⟩
          case measure => simp [intOf]; omega
    · have e16 : i = 16 := by omega
      rw [e16] at HD
      have hd1 : decide ((i : Int) < 16) = false := by simp; omega
      clear e16 h16 hi
      go_wp2
      go_loopw [6] (fun v wk => ∃ k : Nat, 16 ≤ k ∧ k ≤ 64 ∧ v = .int .i64 k ∧ IntBlk wk w.heap.size .u32 63 (mk 64 zeroK) ∧ IntBlk wk (w.heap.size + 1) .u32 63 (mk 64 (schT f k)) ∧ Below w.heap.size w wk) (fun v _ => 64 - (intOf v).toNat)
      case atStart => exact ⟨16, by omega, by omega, rfl, HZ.out, HD.out, HW.out⟩
      case round =>
        clear HZ HD HW
        obtain ⟨k, h16, hk, rfl, hz, hd, hw⟩ := hrel
        have HZ := Lib.hid hz
        have HD := Lib.hid hd
        have HW := Lib.hid hw
        by_cases hlt : k < 64
        · have HS := Lib.hid (schT_step f k (v := ((nextW f (schT f k) k : Nat) : Int)) rfl)
          rw [nextW_on f _ (by omega)] at HS
          obtain ⟨a, ha2⟩ : ∃ a, k - 2 = a := ⟨_, rfl⟩
          obtain ⟨b, hb7⟩ : ∃ b, k - 7 = b := ⟨_, rfl⟩
          obtain ⟨c, hc15⟩ : ∃ c, k - 15 = c := ⟨_, rfl⟩
          obtain ⟨d, hd16⟩ : ∃ d, k - 16 = d := ⟨_, rfl⟩
          rw [ha2, hb7, hc15, hd16] at HS
          have c1 := hd.cell (i := a) (by rw [mk_len]; omega)
          have c2 := hd.cell (i := b) (by rw [mk_len]; omega)
          have c3 := hd.cell (i := c) (by rw [mk_len]; omega)
          have c4 := hd.cell (i := d) (by rw [mk_len]; omega)
          rw [mk_get (by omega)] at c1 c2 c3 c4
          have f1 := hd.free k
          have c5 := hd.cell (i := k) (by rw [mk_len]; omega)
          have ba := schT_lt hf k a
          have bc := schT_lt hf k c
          have R1 := fun (x n : _) hx h0 hn => Lib.hid (fun W => (refRot_any x n hx h0 hn W).mono fun e w' h => And.intro h.1 h.2.symm)
          have S1 := fun (x n : _) hx h0 hn => Lib.hid (fun W => (refShr_any x n hx h0 hn W).mono fun e w' h => And.intro h.1 h.2.symm)
          have X1 := Lib.hid (refEar_bits bc)
          have X2 := Lib.hid (refLat_bits ba)
          have s1 := add32_int (latW (schT f k a)) (schT f k b)
          have s2 := add32_int (add32 (latW (schT f k a)) (schT f k b)) (earW (schT f k c))
          have s3 := add32_int (add32 (add32 (latW (schT f k a)) (schT f k b)) (earW (schT f k c))) (schT f k d)
          have q1 : IntKind.i64.wrap ((k : Int) - 2) = (a : Int) := by rw [IntWalk.i64_in _ (by omega)]; omega
          have q2 : IntKind.i64.wrap ((k : Int) - 7) = (b : Int) := by rw [IntWalk.i64_in _ (by omega)]; omega
          have q3 : IntKind.i64.wrap ((k : Int) - 15) = (c : Int) := by rw [IntWalk.i64_in _ (by omega)]; omega
          have q4 : IntKind.i64.wrap ((k : Int) - 16) = (d : Int) := by rw [IntWalk.i64_in _ (by omega)]; omega
          have l0 : (0 : Int) ≤ k := by omega
          have l1 : (0 : Int) ≤ a := by omega
          have l2 : (0 : Int) ≤ b := by omega
          have l3 : (0 : Int) ≤ c := by omega
          have l4 : (0 : Int) ≤ d := by omega
          have u0 : (k : Int) < 64 := by omega
          have u1 : (a : Int) < 64 := by omega
          have u2 : (b : Int) < 64 := by omega
          have u3 : (c : Int) < 64 := by omega
          have u4 : (d : Int) < 64 := by omega
          have H16 := Lib.hid h16
          clear hz hd hw ha2 hb7 hc15 hd16 h16
          generalize schT f k a = A at *
          generalize schT f k b = Bb at *
          generalize schT f k c = Cc at *
          generalize schT f k d = Dd at *
          go_wp2
          refine wp_region_still_tail 17 (by kernel_rfl) (by kernel_rfl) ?_
          simp only [List.take_succ_cons, List.take_zero, List.drop_succ_cons, List.drop_zero]
          change wpStill _ _ wr.drew (fun a' => wpList _ _ _ _ a' wr.drew) _ _
          iterate 4 still_step
          refine wpStill_step (fun K hK => ?_)
          go_simp
          refine ⟨_, (R1 Cc 7 bc (by decide) (by decide)).out _, hK _ ?_⟩
          clear hK K
          iterate 4 still_step
          refine wpStill_step (fun K hK => ?_)
          go_simp
          refine ⟨_, (R1 Cc 18 bc (by decide) (by decide)).out _, hK _ ?_⟩
          clear hK K
          iterate 5 still_step
          refine wpStill_step (fun K hK => ?_)
          go_simp
          refine ⟨_, (S1 Cc 3 bc (by decide) (by decide)).out _, hK _ ?_⟩
          clear hK K
          iterate 1 still_step
          refine wpStill_nil ?_
          rw [X1.out]
          go_wp2
          refine wp_region_still_tail 17 (by kernel_rfl) (by kernel_rfl) ?_
          simp only [List.take_succ_cons, List.take_zero, List.drop_succ_cons, List.drop_zero]
          change wpStill _ _ wr.drew.drew (fun a' => wpList _ _ _ _ a' wr.drew.drew) _ _
          iterate 4 still_step
          refine wpStill_step (fun K hK => ?_)
          go_simp
          refine ⟨_, (R1 A 17 ba (by decide) (by decide)).out _, hK _ ?_⟩
          clear hK K
          iterate 4 still_step
          refine wpStill_step (fun K hK => ?_)
          go_simp
          refine ⟨_, (R1 A 19 ba (by decide) (by decide)).out _, hK _ ?_⟩
          clear hK K
          iterate 5 still_step
          refine wpStill_step (fun K hK => ?_)
          go_simp
          refine ⟨_, (S1 A 10 ba (by decide) (by decide)).out _, hK _ ?_⟩
          clear hK K
          iterate 1 still_step
          refine wpStill_nil ?_
          rw [X2.out]
          go_wp2
          refine wp_region_still_tail 15 (by kernel_rfl) (by kernel_rfl) ?_
          simp only [List.take_succ_cons, List.take_zero, List.drop_succ_cons, List.drop_zero]
          change wpStill _ _ wr.drew.drew.drew (fun a' => wpList _ _ _ _ a' wr.drew.drew.drew) _ _
          iterate 15 still_step
          refine wpStill_nil ?_
          go_wp2
          go_roundw
          case rel => exact ⟨k + 1, by have := H16.out; omega, by omega, by go_num, (HZ.out.other (by show w.heap.size + 1 ≠ w.heap.size; omega) _).drew.drew.drew, by rw [← HS.out]; exact (HD.out.set k _).drew.drew.drew, (HW.out.setCell (by show w.heap.size ≤ w.heap.size + 1; omega) _).drew.drew.drew⟩
          case measure => simp [intOf]; omega
        · obtain rfl : k = 64 := by omega
          have hd1 : decide (((64 : Nat) : Int) < 64) = false := rfl
          clear hz hd hw
          go_wp2_with (first
            | (refine wpList_load_row rfl 63 _ rfl (w.heap.size + 1) rfl 63 (cellsOf .u32 (mk 64 (schT f 64))) (0, 0) _ HD.out schedUnder rfl (schedSize _) ?_)
            | (refine wpList_store_row rfl 63 _ _ rfl w.heap.size _ rfl rfl 63 (cellsOf .u32 (mk 64 zeroK)) HZ.out (schedSize _) (by rw [cellsOf_size, cellsOf_size, mk_len, mk_len]) (cellsOf_one _ _) ?_))
          refine bodyPost_ret (results_cell_row rfl _ _ w.heap.size 63 (cellsOf .u32 (mk 64 (schT f 64))) (0, 0) _ rfl (HZ.out.setRow .u32 (mk 64 (schT f 64))) schedUnder rfl (schedSize _)) rfl ⟨rfl, below_setRow HW.out (by omega) _⟩
end Go.Proofs.YtccpecajbfpjdaaDoor

/- The contract of package citadelref04's Take: what eight words become with a schedule. It writes nothing that was there. Condition: the eight words are below 2^32. -/
namespace Go.Proofs.YtccpecajbfpjdaaDoor
open Go.ChangeShapes Go.WideShapes Go.ChangeAt Go.RowKit
theorem roZ_eq (x : Nat) (k : Int) : roZ x k = rrZ x k := rfl
attribute [local irreducible] rrZ rr runH stepH takH tabK roZ

set_option maxRecDepth 100000 in
set_option maxHeartbeats 4000000 in
theorem refTake_any (hh ww kk : Nat → Nat) (hb : ∀ j, j < 8 → hh j < 4294967296) (w : World) :
    Calls Tryd.prog 36 #[.agg (cellsOf .u32 (mk 8 hh)), .agg (cellsOf .u32 (mk 64 ww)), .agg (cellsOf .u32 (mk 64 kk))] w fun e w' => e = .returned (.agg (cellsOf .u32 (mk 8 (takH hh ww kk)))) ∧ Below w.heap.size w w' := by
  obtain ⟨hA, hW, hK, hZ, hB⟩ := four_boxes w (mk 8 hh) (mk 64 ww) (mk 64 kk) (mk 8 zeroK) 56 63 63 56
  have r0 : runH hh ww kk 0 = hh := by unfold runH; rfl
  have c0 := hA.cell (i := 0) (by rw [mk_len]; omega)
  have c1 := hA.cell (i := 1) (by rw [mk_len]; omega)
  have c2 := hA.cell (i := 2) (by rw [mk_len]; omega)
  have c3 := hA.cell (i := 3) (by rw [mk_len]; omega)
  have c4 := hA.cell (i := 4) (by rw [mk_len]; omega)
  have c5 := hA.cell (i := 5) (by rw [mk_len]; omega)
  have c6 := hA.cell (i := 6) (by rw [mk_len]; omega)
  have c7 := hA.cell (i := 7) (by rw [mk_len]; omega)
  rw [mk_get (by omega)] at c0 c1 c2 c3 c4 c5 c6 c7
  have HA := Lib.hid hA
  have HW := Lib.hid hW
  have HK := Lib.hid hK
  have HZ := Lib.hid hZ
  have HB := Lib.hid hB
  clear hA hW hZ hB hK
  go_enter Tryd.func36, Tryd.ntmps36
  go_wp2
  change Code.wp _ _ _ _ ((((w.alloc (.cells (cellsOf .u32 (mk 8 hh)) 56)).alloc (.cells (cellsOf .u32 (mk 64 ww)) 63)).alloc (.cells (cellsOf .u32 (mk 64 kk)) 63)).alloc (.cells (cellsOf .u32 (mk 8 zeroK)) 56))
  generalize hV : ((((w.alloc (.cells (cellsOf .u32 (mk 8 hh)) 56)).alloc (.cells (cellsOf .u32 (mk 64 ww)) 63)).alloc (.cells (cellsOf .u32 (mk 64 kk)) 63)).alloc (.cells (cellsOf .u32 (mk 8 zeroK)) 56)) = V at *
  have s3 : w.heap.size + 4 ≤ V.heap.size := by rw [← hV]; simp
  clear hV
  refine wp_region_still (by kernel_rfl) (by kernel_rfl) ?_
  change wpStill _ _ V.drew _ _ _
  iterate 24 still_step
  refine wpStill_nil ?_
  clear c0 c1 c2 c3 c4 c5 c6 c7
  go_wp2
  go_loopw [7, 8, 9, 10, 11, 12, 13, 14, 15] (fun v7 v8 v9 v10 v11 v12 v13 v14 v15 wr => ∃ i : Nat, i ≤ 64 ∧ v7 = .int .u32 (runH hh ww kk i 0 : Nat) ∧ v8 = .int .u32 (runH hh ww kk i 1 : Nat) ∧ v9 = .int .u32 (runH hh ww kk i 2 : Nat) ∧ v10 = .int .u32 (runH hh ww kk i 3 : Nat) ∧ v11 = .int .u32 (runH hh ww kk i 4 : Nat) ∧ v12 = .int .u32 (runH hh ww kk i 5 : Nat) ∧ v13 = .int .u32 (runH hh ww kk i 6 : Nat) ∧ v14 = .int .u32 (runH hh ww kk i 7 : Nat) ∧ v15 = .int .i64 i ∧ IntBlk wr (w.heap.size) .u32 56 (mk 8 hh) ∧ IntBlk wr (w.heap.size + 1) .u32 63 (mk 64 ww) ∧ IntBlk wr (w.heap.size + 1 + 1) .u32 63 (mk 64 kk) ∧ IntBlk wr (w.heap.size + 1 + 1 + 1) .u32 56 (mk 8 zeroK) ∧ Below w.heap.size w wr) (fun _ _ _ _ _ _ _ _ v15 _ => 64 - (intOf v15).toNat)
  case atStart => exact ⟨0, by omega, by rw [r0], by rw [r0], by rw [r0], by rw [r0], by rw [r0], by rw [r0], by rw [r0], by rw [r0], rfl, HA.out.drew, HW.out.drew, HK.out.drew, HZ.out.drew, HB.out.drew⟩
  case round =>
    clear HA HW HZ HB s3 HK
    obtain ⟨i, hi, rfl, rfl, rfl, rfl, rfl, rfl, rfl, rfl, rfl, hA, hW, hK, hZ, hB⟩ := hrel
    have HA := Lib.hid hA
    have HW := Lib.hid hW
    have HZ := Lib.hid hZ
    have HB := Lib.hid hB
    have HK := Lib.hid hK
    have hs := runH_lt ww kk hb i
    by_cases hlt : i < 64
    · have e1 : (i : Int) < 64 := by omega
      have e2 : (0 : Int) ≤ i := by omega
      have n0 := congrFun (runH_step hh ww kk i) 0
      have n4 := congrFun (runH_step hh ww kk i) 4
      have n1 := (congrFun (runH_step hh ww kk i) 1).trans (stepH_on _ _ _ (j := 0) (by decide))
      have n2 := (congrFun (runH_step hh ww kk i) 2).trans (stepH_on _ _ _ (j := 1) (by decide))
      have n3 := (congrFun (runH_step hh ww kk i) 3).trans (stepH_on _ _ _ (j := 2) (by decide))
      have n5 := (congrFun (runH_step hh ww kk i) 5).trans (stepH_on _ _ _ (j := 4) (by decide))
      have n6 := (congrFun (runH_step hh ww kk i) 6).trans (stepH_on _ _ _ (j := 5) (by decide))
      have n7 := (congrFun (runH_step hh ww kk i) 7).trans (stepH_on _ _ _ (j := 6) (by decide))
      obtain ⟨x1, E, s1, p, ne, q, c, s2, s3, T1, x2, A, p1, p2, p3, p4, m, T2, F1, F2, F3, F4, F5, F6, F7, F8, F9, F10, G1, G2, G3, G4, G5, G6, G7, G8, H1, H2⟩ := take_nums _ hs (kk i) (ww i)
      rw [← n0] at H2
      rw [← n4] at H1
      have b0 := hs 0 (by omega)
      have b4 := hs 4 (by omega)
      have ck := hK.cell (i := i) (by rw [mk_len]; exact hlt)
      rw [mk_get hlt] at ck
      have cw := hW.cell (i := i) (by rw [mk_len]; exact hlt)
      rw [mk_get hlt] at cw
      clear hA hW hZ hB hs n0 n4 hK
      have N1 := Lib.hid n1; have N2 := Lib.hid n2; have N3 := Lib.hid n3; have N5 := Lib.hid n5; have N6 := Lib.hid n6; have N7 := Lib.hid n7
      clear n1 n2 n3 n5 n6 n7
      generalize hw0 : runH hh ww kk i 0 = g0 at *
      generalize hw1 : runH hh ww kk i 1 = g1 at *
      generalize hw2 : runH hh ww kk i 2 = g2 at *
      generalize hw3 : runH hh ww kk i 3 = g3 at *
      generalize hw4 : runH hh ww kk i 4 = g4 at *
      generalize hw5 : runH hh ww kk i 5 = g5 at *
      generalize hw6 : runH hh ww kk i 6 = g6 at *
      generalize hw7 : runH hh ww kk i 7 = g7 at *
      generalize hv0 : runH hh ww kk (i + 1) 0 = A1 at *
      generalize hv4 : runH hh ww kk (i + 1) 4 = D1 at *
      have V0 := Lib.hid hv0; have V4 := Lib.hid hv4
      clear hv0 hv4 hw0 hw1 hw2 hw3 hw4 hw5 hw6 hw7
      have C4 : ∀ k : Int, 1 ≤ k → k ≤ 31 → ∀ W, Calls Tryd.prog 49 #[.int .u32 g4, .int .i64 k] W fun e w' => e = .returned (.int .u32 (rrZ g4 k)) ∧ w' = W := fun k h0 hn W => by rw [← roZ_eq]; exact (refRot_any g4 k b4 (by omega) (by omega) W).mono fun e w' h => And.intro h.1 h.2.symm
      have C0 : ∀ k : Int, 1 ≤ k → k ≤ 31 → ∀ W, Calls Tryd.prog 49 #[.int .u32 g0, .int .i64 k] W fun e w' => e = .returned (.int .u32 (rrZ g0 k)) ∧ W = w' := fun k h0 hn W => by rw [← roZ_eq]; exact refRot_any g0 k b0 (by omega) (by omega) W
      have HC4 := Lib.hid C4; have HC0 := Lib.hid C0
      clear C4 C0
      go_wp2
      refine wp_region_still_tail 27 (by kernel_rfl) (by kernel_rfl) ?_
      simp only [List.take_succ_cons, List.take_zero, List.drop_succ_cons, List.drop_zero]
      change wpStill _ _ wr.drew (fun a' => wpList _ _ _ _ a' wr.drew) _ _
      iterate 2 still_step
      refine wpStill_step (fun K hK => ?_)
      go_simp
      refine ⟨_, HC4.out 6 (by decide) (by decide) _, hK _ ?_⟩
      clear hK K
      iterate 1 still_step
      refine wpStill_step (fun K hK => ?_)
      go_simp
      refine ⟨_, HC4.out 11 (by decide) (by decide) _, hK _ ?_⟩
      clear hK K
      iterate 2 still_step
      refine wpStill_step (fun K hK => ?_)
      go_simp
      refine ⟨_, HC4.out 25 (by decide) (by decide) _, hK _ ?_⟩
      clear hK K
      iterate 19 still_step
      refine wpStill_nil ?_
      go_wp2_with (go_at_call 49; refine (HC0.out _ (by decide) (by decide) _).mono ?_; rintro e w' ⟨rfl, rfl⟩)
      go_roundw
      case rel => exact ⟨i + 1, by omega, by rw [V0.out], by rw [N1.out], by rw [N2.out], by rw [N3.out], by rw [V4.out], by rw [N5.out], by rw [N6.out], by rw [N7.out], by go_num, HA.out.drew, HW.out.drew, HK.out.drew, HZ.out.drew, HB.out.drew⟩
      case measure => simp [intOf]; omega
    · have e64 : i = 64 := by omega
      have hd1 : decide ((i : Int) < 64) = false := by simp; omega
      have c0 := hA.cell (i := 0) (by rw [mk_len]; omega)
      have c1 := hA.cell (i := 1) (by rw [mk_len]; omega)
      have c2 := hA.cell (i := 2) (by rw [mk_len]; omega)
      have c3 := hA.cell (i := 3) (by rw [mk_len]; omega)
      have c4 := hA.cell (i := 4) (by rw [mk_len]; omega)
      have c5 := hA.cell (i := 5) (by rw [mk_len]; omega)
      have c6 := hA.cell (i := 6) (by rw [mk_len]; omega)
      have c7 := hA.cell (i := 7) (by rw [mk_len]; omega)
      rw [mk_get (by omega)] at c0 c1 c2 c3 c4 c5 c6 c7
      have t0 : IntKind.u32.wrap ((hh 0 : Int) + (runH hh ww kk i 0 : Nat)) = (takH hh ww kk 0 : Nat) := by rw [e64]; unfold takH; exact add32_int _ _
      have t1 : IntKind.u32.wrap ((hh 1 : Int) + (runH hh ww kk i 1 : Nat)) = (takH hh ww kk 1 : Nat) := by rw [e64]; unfold takH; exact add32_int _ _
      have t2 : IntKind.u32.wrap ((hh 2 : Int) + (runH hh ww kk i 2 : Nat)) = (takH hh ww kk 2 : Nat) := by rw [e64]; unfold takH; exact add32_int _ _
      have t3 : IntKind.u32.wrap ((hh 3 : Int) + (runH hh ww kk i 3 : Nat)) = (takH hh ww kk 3 : Nat) := by rw [e64]; unfold takH; exact add32_int _ _
      have t4 : IntKind.u32.wrap ((hh 4 : Int) + (runH hh ww kk i 4 : Nat)) = (takH hh ww kk 4 : Nat) := by rw [e64]; unfold takH; exact add32_int _ _
      have t5 : IntKind.u32.wrap ((hh 5 : Int) + (runH hh ww kk i 5 : Nat)) = (takH hh ww kk 5 : Nat) := by rw [e64]; unfold takH; exact add32_int _ _
      have t6 : IntKind.u32.wrap ((hh 6 : Int) + (runH hh ww kk i 6 : Nat)) = (takH hh ww kk 6 : Nat) := by rw [e64]; unfold takH; exact add32_int _ _
      have t7 : IntKind.u32.wrap ((hh 7 : Int) + (runH hh ww kk i 7 : Nat)) = (takH hh ww kk 7 : Nat) := by rw [e64]; unfold takH; exact add32_int _ _
      clear hA hW hZ hB hs e64 hlt hK
      generalize runH hh ww kk i 0 = g0 at *
      generalize runH hh ww kk i 1 = g1 at *
      generalize runH hh ww kk i 2 = g2 at *
      generalize runH hh ww kk i 3 = g3 at *
      generalize runH hh ww kk i 4 = g4 at *
      generalize runH hh ww kk i 5 = g5 at *
      generalize runH hh ww kk i 6 = g6 at *
      generalize runH hh ww kk i 7 = g7 at *
      go_wp2_with (first
        | (refine wpList_buildTo rfl 56 _ rfl (some 129) rfl (cellsOf .u32 (mk 8 (takH hh ww kk))) (by simp only [List.map_toArray, List.map_cons, List.map_nil]; kernel_rfl) ?_)
        | (refine wpList_store_row rfl 56 _ _ rfl (w.heap.size + 1 + 1 + 1) _ rfl rfl 56 (cellsOf .u32 (mk 8 zeroK)) HZ.out (eightSize _) (by rw [cellsOf_size, cellsOf_size, mk_len, mk_len]) (cellsOf_one _ _) ?_))
      refine bodyPost_ret (results_cell_row rfl _ _ (w.heap.size + 1 + 1 + 1) 56 (cellsOf .u32 (mk 8 (takH hh ww kk))) (0, 0) _ rfl (HZ.out.setRow .u32 (mk 8 (takH hh ww kk))) eightUnder rfl (eightSize _)) rfl ⟨rfl, below_setRow HB.out (by omega) _⟩
end Go.Proofs.YtccpecajbfpjdaaDoor

/- The contract of package citadelref04's Pad: what is put behind a text, in memory of its own. It writes nothing that was there. No condition. -/
namespace Go.Proofs.YtccpecajbfpjdaaDoor
open Go.ChangeShapes Go.WideShapes Go.ChangeAt Go.RowKit

/-- The length's last bytes, so many of them. -/
def endB (n i j : Nat) : Nat := n * 8 / 256 ^ (i - 1 - j) % 256
theorem endB_first (n i : Nat) : endB n (i + 1) 0 = n * 8 / 256 ^ i % 256 := by unfold endB; rw [Nat.add_sub_cancel, Nat.sub_zero]
theorem endB_next (n i j : Nat) : endB n i j = endB n (i + 1) (1 + j) := by unfold endB; rw [show i + 1 - 1 - (1 + j) = i - 1 - j by omega]
theorem padB_zero (n : Nat) : padB n 0 = 128 := by unfold padB; rw [if_pos rfl]
theorem padB_mid {n j : Nat} (h0 : 1 ≤ j) (h : j < padL n - 8) : padB n j = 0 := by unfold padB; rw [if_neg (by omega), if_pos h]
theorem padB_end {n j : Nat} (hj : j < 8) : endB n 8 j = padB n (padL n - 8 + j) := by
  have := padL_bd n
  unfold padB endB; rw [if_neg (by omega), if_neg (by omega), show padL n - 1 - (padL n - 8 + j) = 8 - 1 - j by omega]
theorem bytesAt_one (w : World) (b : Nat) : BytesAt (w.alloc (.cells (cellsOf .u8 [(b : Int)]) 5)) (some ⟨w.heap.size, 0, none⟩) 1 (fun _ => b) :=
  .inr ⟨_, 0, rfl, by simp, fun j hj => by
    obtain rfl : j = 0 := by omega
    exact (IntBlk.new w .u8 5 [(b : Int)]).cell (i := 0) (by simp)⟩
theorem OwnS.alloc {base top k : Nat} {v : Value} {F : Nat → Nat} {w : World} (h : OwnS 5 1 w base top v k F) (ht : top ≤ w.heap.size) (o : Obj) : OwnS 5 1 (w.alloc o) base top v k F :=
  h.same fun B _ h2 => Below.heap_alloc _ _ _ (by omega)
theorem OwnS.lower {base base' top k : Nat} {v : Value} {F : Nat → Nat} {w : World} (h : OwnS 5 1 w base top v k F) (hb : base' ≤ base) : OwnS 5 1 w base' top v k F := by
  rcases h with h | ⟨B, c, cur, h1, h2, h3⟩
  · exact .inl h
  · exact .inr ⟨B, c, cur, h1, Nat.le_trans hb h2, h3⟩
theorem OwnS.later {base top k : Nat} {v : Value} {F : Nat → Nat} {w w' : World} (h : OwnS 5 1 w base top v k F) (ht : top ≤ w.heap.size) (hb : Below w.heap.size w w') : OwnS 5 1 w' base top v k F :=
  h.same fun B _ h2 => hb.block B (by omega)
attribute [local irreducible] padB padL endB

set_option maxRecDepth 100000 in
set_option maxHeartbeats 2000000 in
theorem refPad_any (n : Int) (w : World) :
    Calls Tryd.prog 34 #[.int .i64 n] w fun e w' => ∃ v, e = .returned v ∧ OwnS 5 1 w' w.heap.size w'.heap.size v (padL (effN n)) (padB (effN n)) ∧ Below w.heap.size w w' := by
  have hm := effN_le n
  have hcase : n < 0 ∧ effN n = 0 ∨ ¬ n < 0 ∧ 1099511627776 < n ∧ effN n = 0 ∨ ¬ n < 0 ∧ ¬ 1099511627776 < n ∧ n = effN n := by
    unfold effN
    by_cases h : n < 0 ∨ 1099511627776 < n
    · rw [if_pos h]; omega
    · rw [if_neg h]; omega
  generalize effN n = m at *
  have hL := padL_bd m
  have hmod := padL_mod m
  have hpad : ∀ k, 1 ≤ k → k ≤ padL m - 8 → ((m + k + 8) % 64 = 0 ↔ k = padL m - 8) := fun k h1 h2 => by
    have hd : padL m = 9 + (64 - (m + 9) % 64) % 64 := by unfold padL; rfl
    constructor
    · intro h; omega
    · intro h; omega
  have P0 := Lib.hid (padB_zero m)
  have PM := Lib.hid (fun (j : Nat) h0 h => padB_mid (n := m) (j := j) h0 h)
  have PE := Lib.hid (fun (j : Nat) hj => padB_end (n := m) (j := j) hj)
  have E1 := Lib.hid (endB_first m)
  have E2 := Lib.hid (endB_next m)
  have HP := Lib.hid hpad
  generalize padL m = L at *
  clear hpad hmod
  have e2 : 1 ≤ L - 8 ∧ L ≤ 72 := by omega
  have HD : Hid (n < 0 ∧ (0 : Int) = m ∨ ¬ n < 0 ∧ 1099511627776 < n ∧ (0 : Int) = m ∨ n = m) := Lib.hid (by omega)
  clear hcase
  rcases HD.out with ⟨e0, hz⟩ | ⟨e0, e1, hz⟩ | hz
  · obtain rfl : m = 0 := by omega
    clear hz HD
    go_enter Tryd.func34, Tryd.ntmps34
    go_wp2_with (first
      | (refine wpList_buildFlat rfl 22 5 1 _ rfl .u8 [((128 : Nat) : Int)] bytesUnder byteInfo (by rw [byteZero1]; rfl) rfl (by omega) (by omega) rfl ?_))
    go_loopw [3] (fun v3 wr => ∃ k : Nat, 1 ≤ k ∧ k ≤ L - 8 ∧ OwnS 5 1 wr w.heap.size wr.heap.size v3 k (padB 0) ∧ Below w.heap.size w wr) (fun v3 _ => L - (match v3 with | .slice _ k _ => k | _ => 0))
    case atStart => exact ⟨1, by omega, by omega, by rw [World.size_alloc]; exact OwnS.one w _ _ 128 (Nat.le_refl _) P0.out, (Below.refl _ w).alloc (Nat.le_refl _) _⟩
    case round =>
      obtain ⟨k, k1, k2, hv, hw⟩ := hrel
      obtain ⟨p, c, rfl, kc, cm, hbytes, hpb⟩ := hv.bytes (Nat.le_refl _)
      have HV := Lib.hid hv
      have HW := Lib.hid hw
      have hws := hw.size
      have hk := HP.out k k1 k2
      have q1 : IntKind.i64.wrap (((0 : Nat) : Int) + k) = ((0 : Nat) : Int) + k := IntWalk.i64_in _ (by omega)
      have q2 : IntKind.i64.wrap (((0 : Nat) : Int) + k + 8) = ((0 : Nat) : Int) + k + 8 := IntWalk.i64_in _ (by omega)
      have l0 : (0 : Int) ≤ ((0 : Nat) : Int) + k + 8 := by omega
      clear hv hw hbytes hpb
      by_cases hlt : k = L - 8
      · have t0 : (((k : Int) + 8) % 64 != 0) = false := by simp; omega
        clear hk
        have HLT := Lib.hid hlt
        clear hlt
        go_wp2
        go_loopw [4, 5, 6] (fun v4 v5 v6 wk => ∃ i x : Nat, i ≤ 8 ∧ v4 = .int .i64 x ∧ x = 0 * 8 / 256 ^ i ∧ v6 = .int .i64 i ∧ OwnS 5 1 wk w.heap.size wk.heap.size v5 i (endB 0 i) ∧ OwnS 5 1 wk w.heap.size wr.heap.size (.slice p k c) k (padB 0) ∧ wr.heap.size ≤ wk.heap.size ∧ Below w.heap.size w wk) (fun _ _ v6 _ => 8 - (intOf v6).toNat)
        case atStart => exact ⟨0, 0 * 8, by omega, rfl, by simp, rfl, OwnS.nil _ _ _ _ _ _, HV.out, Nat.le_refl _, HW.out⟩
        case round =>
          obtain ⟨i, x, hi, rfl, hx, rfl, hv5, hv3, hsz, hw⟩ := hrel
          have hxb : x ≤ 0 * 8 := by rw [hx]; exact Nat.div_le_self _ _
          have HX := Lib.hid hx
          have H3 := Lib.hid hv3
          have H5 := Lib.hid hv5
          have HS := Lib.hid hsz
          have HK := Lib.hid hw
          have hks := hw.size
          obtain ⟨p5, c5, rfl, kc5, cm5, hb5, hpb5⟩ := hv5.bytes (Nat.le_refl _)
          have HB5 := Lib.hid hb5
          clear hx hv3 hv5 hw hpb5 hb5
          by_cases h8 : i < 8
          · have e3 : (i : Int) < 8 := by omega
            obtain ⟨b, hb⟩ : ∃ b, x % 256 = b := ⟨_, rfl⟩
            have q3 : IntKind.u8.wrap ((x : Int) % 256) = (b : Int) := by rw [IntKind.wrap_u8']; omega
            have q4 : ((x : Int) / 256) = ((x / 256 : Nat) : Int) := by omega
            have HF : Hid (endB 0 (i + 1) 0 = b) := Lib.hid (by rw [E1.out, ← HX.out]; exact hb)
            have HQ := Lib.hid q4
            clear hb q4 hsz
            go_wp2_with (first
              | (refine wpList_buildFlat rfl 22 5 1 _ rfl .u8 [(b : Int)] bytesUnder byteInfo (by rw [byteZero1]; rfl) rfl (by omega) (by omega) rfl ?_)
              | (refine wpList_append_own_bytes rfl _ _ rfl wr.heap.size (wr.heap.size + 1) 1 _ (endB 0 (i + 1)) (endB 0 i) p5 i c5 rfl rfl (OwnS.one wr _ _ b (Nat.le_refl _) HF.out) (HB5.out.below ((Below.refl _ wr).alloc (Nat.le_refl _) _)) (fun j _ => E2.out i j) (by omega) (by rw [World.size_alloc]; omega) ?_; intro v' w' hv' hb'))
            go_roundw
            case rel => exact ⟨i + 1, x / 256, by omega, congrArg (Value.int .i64) HQ.out, by rw [HX.out, Nat.div_div_eq_div_mul, ← Nat.pow_succ], by go_num, by have := hv'.lower hks; rw [Nat.add_comm 1 i] at this; exact this, (H3.out.alloc HS.out _).same fun B _ h2 => hb'.block B (by have := HS.out; omega), by have h1 := hb'.size; rw [World.size_alloc] at h1; have h2 := HS.out; omega, (HK.out.alloc hks _).trans (hb'.mono hks)⟩
            case measure => simp [intOf]; omega
          · obtain rfl : i = 8 := by omega
            have hd1 : decide (((8 : Nat) : Int) < 8) = false := rfl
            have HE : Hid (∀ j, j < 8 → endB 0 8 j = padB 0 (k + j)) := Lib.hid (by rw [HLT.out]; exact PE.out)
            clear hsz
            go_wp2_with (refine wpList_append_own_bytes rfl _ _ rfl w.heap.size _ k _ (padB 0) (endB 0 8) p5 8 c5 rfl rfl H3.out HB5.out HE.out (by omega) hks ?_; intro v' w' hv' hb')
            go_ret
            exact ⟨_, rfl, by rw [show L = k + 8 by have := HLT.out; omega]; exact hv', HK.out.trans hb'⟩
      · have t0 : (((k : Int) + 8) % 64 != 0) = true := by simp; omega
        have HF : Hid (∀ j, j < 1 → (0 : Nat) = padB 0 (k + j)) := Lib.hid (fun j hj => (PM.out (k + j) (by omega) (by omega)).symm)
        have HA : Hid (OwnS 5 1 (wr.alloc (.cells (cellsOf .u8 [((0 : Nat) : Int)]) 5)) w.heap.size wr.heap.size (.slice p k c) k (padB 0)) := Lib.hid (HV.out.alloc (Nat.le_refl _) _)
        clear hk
        go_wp2_with (first
          | (refine wpList_buildFlat rfl 22 5 1 _ rfl .u8 [((0 : Nat) : Int)] bytesUnder byteInfo (by rw [byteZero1]; rfl) rfl (by omega) (by omega) rfl ?_)
          | (refine wpList_append_own_bytes rfl _ _ rfl w.heap.size wr.heap.size k _ (padB 0) (fun _ => 0) (some ⟨wr.heap.size, 0, none⟩) 1 1 rfl rfl HA.out (bytesAt_one wr 0) HF.out (by omega) (by rw [World.size_alloc]; omega) ?_; intro v' w' hv' hb'))
        obtain ⟨p', c', rfl, _, _, _, _⟩ := hv'.bytes (Nat.le_refl _)
        go_roundw
        case rel => exact ⟨k + 1, by omega, by omega, hv', (HW.out.alloc hws _).trans (hb'.mono (Nat.le_refl _))⟩
        case measure => simp only []; omega
  · obtain rfl : m = 0 := by omega
    clear hz HD
    go_enter Tryd.func34, Tryd.ntmps34
    go_wp2_with (first
      | (refine wpList_buildFlat rfl 22 5 1 _ rfl .u8 [((128 : Nat) : Int)] bytesUnder byteInfo (by rw [byteZero1]; rfl) rfl (by omega) (by omega) rfl ?_))
    go_loopw [3] (fun v3 wr => ∃ k : Nat, 1 ≤ k ∧ k ≤ L - 8 ∧ OwnS 5 1 wr w.heap.size wr.heap.size v3 k (padB 0) ∧ Below w.heap.size w wr) (fun v3 _ => L - (match v3 with | .slice _ k _ => k | _ => 0))
    case atStart => exact ⟨1, by omega, by omega, by rw [World.size_alloc]; exact OwnS.one w _ _ 128 (Nat.le_refl _) P0.out, (Below.refl _ w).alloc (Nat.le_refl _) _⟩
    case round =>
      obtain ⟨k, k1, k2, hv, hw⟩ := hrel
      obtain ⟨p, c, rfl, kc, cm, hbytes, hpb⟩ := hv.bytes (Nat.le_refl _)
      have HV := Lib.hid hv
      have HW := Lib.hid hw
      have hws := hw.size
      have hk := HP.out k k1 k2
      have q1 : IntKind.i64.wrap (((0 : Nat) : Int) + k) = ((0 : Nat) : Int) + k := IntWalk.i64_in _ (by omega)
      have q2 : IntKind.i64.wrap (((0 : Nat) : Int) + k + 8) = ((0 : Nat) : Int) + k + 8 := IntWalk.i64_in _ (by omega)
      have l0 : (0 : Int) ≤ ((0 : Nat) : Int) + k + 8 := by omega
      clear hv hw hbytes hpb
      by_cases hlt : k = L - 8
      · have t0 : (((k : Int) + 8) % 64 != 0) = false := by simp; omega
        clear hk
        have HLT := Lib.hid hlt
        clear hlt
        go_wp2
        go_loopw [4, 5, 6] (fun v4 v5 v6 wk => ∃ i x : Nat, i ≤ 8 ∧ v4 = .int .i64 x ∧ x = 0 * 8 / 256 ^ i ∧ v6 = .int .i64 i ∧ OwnS 5 1 wk w.heap.size wk.heap.size v5 i (endB 0 i) ∧ OwnS 5 1 wk w.heap.size wr.heap.size (.slice p k c) k (padB 0) ∧ wr.heap.size ≤ wk.heap.size ∧ Below w.heap.size w wk) (fun _ _ v6 _ => 8 - (intOf v6).toNat)
        case atStart => exact ⟨0, 0 * 8, by omega, rfl, by simp, rfl, OwnS.nil _ _ _ _ _ _, HV.out, Nat.le_refl _, HW.out⟩
        case round =>
          obtain ⟨i, x, hi, rfl, hx, rfl, hv5, hv3, hsz, hw⟩ := hrel
          have hxb : x ≤ 0 * 8 := by rw [hx]; exact Nat.div_le_self _ _
          have HX := Lib.hid hx
          have H3 := Lib.hid hv3
          have H5 := Lib.hid hv5
          have HS := Lib.hid hsz
          have HK := Lib.hid hw
          have hks := hw.size
          obtain ⟨p5, c5, rfl, kc5, cm5, hb5, hpb5⟩ := hv5.bytes (Nat.le_refl _)
          have HB5 := Lib.hid hb5
          clear hx hv3 hv5 hw hpb5 hb5
          by_cases h8 : i < 8
          · have e3 : (i : Int) < 8 := by omega
            obtain ⟨b, hb⟩ : ∃ b, x % 256 = b := ⟨_, rfl⟩
            have q3 : IntKind.u8.wrap ((x : Int) % 256) = (b : Int) := by rw [IntKind.wrap_u8']; omega
            have q4 : ((x : Int) / 256) = ((x / 256 : Nat) : Int) := by omega
            have HF : Hid (endB 0 (i + 1) 0 = b) := Lib.hid (by rw [E1.out, ← HX.out]; exact hb)
            have HQ := Lib.hid q4
            clear hb q4 hsz
            go_wp2_with (first
              | (refine wpList_buildFlat rfl 22 5 1 _ rfl .u8 [(b : Int)] bytesUnder byteInfo (by rw [byteZero1]; rfl) rfl (by omega) (by omega) rfl ?_)
              | (refine wpList_append_own_bytes rfl _ _ rfl wr.heap.size (wr.heap.size + 1) 1 _ (endB 0 (i + 1)) (endB 0 i) p5 i c5 rfl rfl (OwnS.one wr _ _ b (Nat.le_refl _) HF.out) (HB5.out.below ((Below.refl _ wr).alloc (Nat.le_refl _) _)) (fun j _ => E2.out i j) (by omega) (by rw [World.size_alloc]; omega) ?_; intro v' w' hv' hb'))
            go_roundw
            case rel => exact ⟨i + 1, x / 256, by omega, congrArg (Value.int .i64) HQ.out, by rw [HX.out, Nat.div_div_eq_div_mul, ← Nat.pow_succ], by go_num, by have := hv'.lower hks; rw [Nat.add_comm 1 i] at this; exact this, (H3.out.alloc HS.out _).same fun B _ h2 => hb'.block B (by have := HS.out; omega), by have h1 := hb'.size; rw [World.size_alloc] at h1; have h2 := HS.out; omega, (HK.out.alloc hks _).trans (hb'.mono hks)⟩
            case measure => simp [intOf]; omega
          · obtain rfl : i = 8 := by omega
            have hd1 : decide (((8 : Nat) : Int) < 8) = false := rfl
            have HE : Hid (∀ j, j < 8 → endB 0 8 j = padB 0 (k + j)) := Lib.hid (by rw [HLT.out]; exact PE.out)
            clear hsz
            go_wp2_with (refine wpList_append_own_bytes rfl _ _ rfl w.heap.size _ k _ (padB 0) (endB 0 8) p5 8 c5 rfl rfl H3.out HB5.out HE.out (by omega) hks ?_; intro v' w' hv' hb')
            go_ret
            exact ⟨_, rfl, by rw [show L = k + 8 by have := HLT.out; omega]; exact hv', HK.out.trans hb'⟩
      · have t0 : (((k : Int) + 8) % 64 != 0) = true := by simp; omega
        have HF : Hid (∀ j, j < 1 → (0 : Nat) = padB 0 (k + j)) := Lib.hid (fun j hj => (PM.out (k + j) (by omega) (by omega)).symm)
        have HA : Hid (OwnS 5 1 (wr.alloc (.cells (cellsOf .u8 [((0 : Nat) : Int)]) 5)) w.heap.size wr.heap.size (.slice p k c) k (padB 0)) := Lib.hid (HV.out.alloc (Nat.le_refl _) _)
        clear hk
        go_wp2_with (first
          | (refine wpList_buildFlat rfl 22 5 1 _ rfl .u8 [((0 : Nat) : Int)] bytesUnder byteInfo (by rw [byteZero1]; rfl) rfl (by omega) (by omega) rfl ?_)
          | (refine wpList_append_own_bytes rfl _ _ rfl w.heap.size wr.heap.size k _ (padB 0) (fun _ => 0) (some ⟨wr.heap.size, 0, none⟩) 1 1 rfl rfl HA.out (bytesAt_one wr 0) HF.out (by omega) (by rw [World.size_alloc]; omega) ?_; intro v' w' hv' hb'))
        obtain ⟨p', c', rfl, _, _, _, _⟩ := hv'.bytes (Nat.le_refl _)
        go_roundw
        case rel => exact ⟨k + 1, by omega, by omega, hv', (HW.out.alloc hws _).trans (hb'.mono (Nat.le_refl _))⟩
        case measure => simp only []; omega
  · subst hz
    clear HD
    have e0 : ¬ (m : Int) < 0 := by omega
    have e1 : ¬ 1099511627776 < (m : Int) := by omega
    go_enter Tryd.func34, Tryd.ntmps34
    go_wp2_with (first
      | (refine wpList_buildFlat rfl 22 5 1 _ rfl .u8 [((128 : Nat) : Int)] bytesUnder byteInfo (by rw [byteZero1]; rfl) rfl (by omega) (by omega) rfl ?_))
    go_loopw [3] (fun v3 wr => ∃ k : Nat, 1 ≤ k ∧ k ≤ L - 8 ∧ OwnS 5 1 wr w.heap.size wr.heap.size v3 k (padB m) ∧ Below w.heap.size w wr) (fun v3 _ => L - (match v3 with | .slice _ k _ => k | _ => 0))
    case atStart => exact ⟨1, by omega, by omega, by rw [World.size_alloc]; exact OwnS.one w _ _ 128 (Nat.le_refl _) P0.out, (Below.refl _ w).alloc (Nat.le_refl _) _⟩
    case round =>
      obtain ⟨k, k1, k2, hv, hw⟩ := hrel
      obtain ⟨p, c, rfl, kc, cm, hbytes, hpb⟩ := hv.bytes (Nat.le_refl _)
      have HV := Lib.hid hv
      have HW := Lib.hid hw
      have hws := hw.size
      have hk := HP.out k k1 k2
      have q1 : IntKind.i64.wrap ((m : Int) + k) = (m : Int) + k := IntWalk.i64_in _ (by omega)
      have q2 : IntKind.i64.wrap ((m : Int) + k + 8) = (m : Int) + k + 8 := IntWalk.i64_in _ (by omega)
      have l0 : (0 : Int) ≤ (m : Int) + k + 8 := by omega
      clear hv hw hbytes hpb
      by_cases hlt : k = L - 8
      · have t0 : (((m : Int) + k + 8) % 64 != 0) = false := by simp; omega
        clear hk
        have HLT := Lib.hid hlt
        clear hlt
        go_wp2
        go_loopw [4, 5, 6] (fun v4 v5 v6 wk => ∃ i x : Nat, i ≤ 8 ∧ v4 = .int .i64 x ∧ x = m * 8 / 256 ^ i ∧ v6 = .int .i64 i ∧ OwnS 5 1 wk w.heap.size wk.heap.size v5 i (endB m i) ∧ OwnS 5 1 wk w.heap.size wr.heap.size (.slice p k c) k (padB m) ∧ wr.heap.size ≤ wk.heap.size ∧ Below w.heap.size w wk) (fun _ _ v6 _ => 8 - (intOf v6).toNat)
        case atStart => exact ⟨0, m * 8, by omega, congrArg (Value.int .i64) (by omega), by simp, rfl, OwnS.nil _ _ _ _ _ _, HV.out, Nat.le_refl _, HW.out⟩
        case round =>
          obtain ⟨i, x, hi, rfl, hx, rfl, hv5, hv3, hsz, hw⟩ := hrel
          have hxb : x ≤ m * 8 := by rw [hx]; exact Nat.div_le_self _ _
          have HX := Lib.hid hx
          have H3 := Lib.hid hv3
          have H5 := Lib.hid hv5
          have HS := Lib.hid hsz
          have HK := Lib.hid hw
          have hks := hw.size
          obtain ⟨p5, c5, rfl, kc5, cm5, hb5, hpb5⟩ := hv5.bytes (Nat.le_refl _)
          have HB5 := Lib.hid hb5
          clear hx hv3 hv5 hw hpb5 hb5
          by_cases h8 : i < 8
          · have e3 : (i : Int) < 8 := by omega
            obtain ⟨b, hb⟩ : ∃ b, x % 256 = b := ⟨_, rfl⟩
            have q3 : IntKind.u8.wrap ((x : Int) % 256) = (b : Int) := by rw [IntKind.wrap_u8']; omega
            have q4 : ((x : Int) / 256) = ((x / 256 : Nat) : Int) := by omega
            have HF : Hid (endB m (i + 1) 0 = b) := Lib.hid (by rw [E1.out, ← HX.out]; exact hb)
            have HQ := Lib.hid q4
            clear hb q4 hsz
            go_wp2_with (first
              | (refine wpList_buildFlat rfl 22 5 1 _ rfl .u8 [(b : Int)] bytesUnder byteInfo (by rw [byteZero1]; rfl) rfl (by omega) (by omega) rfl ?_)
              | (refine wpList_append_own_bytes rfl _ _ rfl wr.heap.size (wr.heap.size + 1) 1 _ (endB m (i + 1)) (endB m i) p5 i c5 rfl rfl (OwnS.one wr _ _ b (Nat.le_refl _) HF.out) (HB5.out.below ((Below.refl _ wr).alloc (Nat.le_refl _) _)) (fun j _ => E2.out i j) (by omega) (by rw [World.size_alloc]; omega) ?_; intro v' w' hv' hb'))
            go_roundw
            case rel => exact ⟨i + 1, x / 256, by omega, congrArg (Value.int .i64) HQ.out, by rw [HX.out, Nat.div_div_eq_div_mul, ← Nat.pow_succ], by go_num, by have := hv'.lower hks; rw [Nat.add_comm 1 i] at this; exact this, (H3.out.alloc HS.out _).same fun B _ h2 => hb'.block B (by have := HS.out; omega), by have h1 := hb'.size; rw [World.size_alloc] at h1; have h2 := HS.out; omega, (HK.out.alloc hks _).trans (hb'.mono hks)⟩
            case measure => simp [intOf]; omega
          · obtain rfl : i = 8 := by omega
            have hd1 : decide (((8 : Nat) : Int) < 8) = false := rfl
            have HE : Hid (∀ j, j < 8 → endB m 8 j = padB m (k + j)) := Lib.hid (by rw [HLT.out]; exact PE.out)
            clear hsz
            go_wp2_with (refine wpList_append_own_bytes rfl _ _ rfl w.heap.size _ k _ (padB m) (endB m 8) p5 8 c5 rfl rfl H3.out HB5.out HE.out (by omega) hks ?_; intro v' w' hv' hb')
            go_ret
            exact ⟨_, rfl, by rw [show L = k + 8 by have := HLT.out; omega]; exact hv', HK.out.trans hb'⟩
      · have t0 : (((m : Int) + k + 8) % 64 != 0) = true := by simp; omega
        have HF : Hid (∀ j, j < 1 → (0 : Nat) = padB m (k + j)) := Lib.hid (fun j hj => (PM.out (k + j) (by omega) (by omega)).symm)
        have HA : Hid (OwnS 5 1 (wr.alloc (.cells (cellsOf .u8 [((0 : Nat) : Int)]) 5)) w.heap.size wr.heap.size (.slice p k c) k (padB m)) := Lib.hid (HV.out.alloc (Nat.le_refl _) _)
        clear hk
        go_wp2_with (first
          | (refine wpList_buildFlat rfl 22 5 1 _ rfl .u8 [((0 : Nat) : Int)] bytesUnder byteInfo (by rw [byteZero1]; rfl) rfl (by omega) (by omega) rfl ?_)
          | (refine wpList_append_own_bytes rfl _ _ rfl w.heap.size wr.heap.size k _ (padB m) (fun _ => 0) (some ⟨wr.heap.size, 0, none⟩) 1 1 rfl rfl HA.out (bytesAt_one wr 0) HF.out (by omega) (by rw [World.size_alloc]; omega) ?_; intro v' w' hv' hb'))
        obtain ⟨p', c', rfl, _, _, _, _⟩ := hv'.bytes (Nat.le_refl _)
        go_roundw
        case rel => exact ⟨k + 1, by omega, by omega, hv', (HW.out.alloc hws _).trans (hb'.mono (Nat.le_refl _))⟩
        case measure => simp only []; omega
end Go.Proofs.YtccpecajbfpjdaaDoor

/- The contract of package citadelref04's Table: the constants and the beginning. It writes nothing that was there. No condition. -/
namespace Go.Proofs.YtccpecajbfpjdaaDoor
open Go.ChangeShapes Go.WideShapes Go.ChangeAt Go.RowKit
attribute [local irreducible] tabK begK

theorem results_two_cells {P : Program} {fn : Func} {p u : Tmp} {ty ty' : TypeId} (h : fn.results = #[.cell p ty, .cell u ty']) (tmps : Array Value) (w : World) (g g' : Nat) (t t' : TypeId) (cs cs' : Array Value) (fr fr' : Nat × Nat) (d d' : TypeDesc)
    (hp : tmps.getD p undef = .pointer (some ⟨g, 0, none⟩)) (hp' : tmps.getD u undef = .pointer (some ⟨g', 0, none⟩)) (hg : w.heap[g]? = some (.cells cs t fr)) (hg' : w.heap[g']? = some (.cells cs' t' fr'))
    (hu : P.underlying ty = some d) (hd : (match d with | .struct _ | .array _ _ => true | _ => false) = true) (hi : (P.info? ty).map (·.size) = some cs.size)
    (hu' : P.underlying ty' = some d') (hd' : (match d' with | .struct _ | .array _ _ => true | _ => false) = true) (hi' : (P.info? ty').map (·.size) = some cs'.size) :
    (results fn tmps).run P w = .ok (.tuple #[.agg cs, .agg cs']) w := by
  have e1 : tmps[p]?.getD undef = .pointer (some ⟨g, 0, none⟩) := by simpa using hp
  have e2 : tmps[u]?.getD undef = .pointer (some ⟨g', 0, none⟩) := by simpa using hp'
  simp [results, h, e1, e2, asAddr, run_loadVar_row w g t ty cs fr d hg hu hd hi, run_loadVar_row w g' t' ty' cs' fr' d' hg' hu' hd' hi']
set_option maxRecDepth 100000 in
theorem Table_any (w : World) : Calls Tryd.prog 35 #[] w fun e w' => e = .returned (.tuple #[.agg (cellsOf .u32 (mk 64 tabK)), .agg (cellsOf .u32 (mk 8 begK))]) ∧ Below w.heap.size w w' := by
  have HA := Lib.hid ((IntBlk.new w .u32 63 (mk 64 zeroK)).alloc (.cells (cellsOf .u32 (mk 8 zeroK)) 56))
  have HB := Lib.hid (blk_two w .u32 56 (mk 8 zeroK) (.cells (cellsOf .u32 (mk 64 zeroK)) 63))
  have HL := Lib.hid (below_two w (.cells (cellsOf .u32 (mk 64 zeroK)) 63) (.cells (cellsOf .u32 (mk 8 zeroK)) 56))
  go_enter Tryd.func35, Tryd.ntmps35
  go_wp2_with (first
    | (refine wpList_buildTo rfl 63 _ rfl (some 2) rfl (cellsOf .u32 (mk 64 tabK)) (by kernel_rfl) ?_)
    | (refine wpList_buildTo rfl 56 _ rfl (some 3) rfl (cellsOf .u32 (mk 8 begK)) (by kernel_rfl) ?_)
    | (refine store_row_on rfl 63 _ _ rfl rfl w.heap.size (cellsOf .u32 (mk 64 tabK)) rfl rfl 63 (cellsOf .u32 (mk 64 zeroK)) HA.out (schedSize _) (by rw [cellsOf_size, cellsOf_size, mk_len, mk_len]) (cellsOf_one _ _) ?_)
    | (refine store_row_on rfl 56 _ _ rfl rfl (w.heap.size + 1) (cellsOf .u32 (mk 8 begK)) rfl rfl 56 (cellsOf .u32 (mk 8 zeroK)) (HB.out.otherRow (by omega) _) (eightSize _) (by rw [cellsOf_size, cellsOf_size, mk_len, mk_len]) (cellsOf_one _ _) ?_))
  exact bodyPost_ret (results_two_cells rfl _ _ w.heap.size (w.heap.size + 1) 63 56 (cellsOf .u32 (mk 64 tabK)) (cellsOf .u32 (mk 8 begK)) (0, 0) (0, 0) _ _ rfl rfl ((HA.out.setRow .u32 (mk 64 tabK)).otherRow (by omega) _) ((HB.out.otherRow (by omega) _).setRow .u32 (mk 8 begK)) schedUnder rfl (schedSize _) eightUnder rfl (eightSize _)) rfl
    ⟨rfl, below_setRow (below_setRow HL.out (Nat.le_refl _) _) (by omega) _⟩
end Go.Proofs.YtccpecajbfpjdaaDoor

/- The contract of package citadelref04's Of: a text's digest. It writes nothing that was there. Condition: the text has no more than 90000 bytes. -/
namespace Go.Proofs.YtccpecajbfpjdaaDoor
open Go.ChangeShapes Go.WideShapes Go.ChangeAt Go.RowKit

theorem quiet_range {o : Oper} {a : Act} {C : World → Prop} {K : Act → Prop} (x y z : Operand) (ho : o.op = .slice 22 x (some y) (some z) none) (B off n c l h : Nat) (hx : a.eval x = .slice (some ⟨B, off, none⟩) n c) (hy : a.eval y = .int .i64 l) (hz : a.eval z = .int .i64 h) (hl : l < h) (hc : h ≤ c)
    (hk : K (a.put o.dst (.slice (some ⟨B, off + l, none⟩) (h - l) (c - l)))) : o.quiet Tryd.prog a C K := by
  refine quiet_value _ (fun w _ => ?_) hk
  have hs := byteElem.run_size (P := Tryd.prog) w
  have e1 : (0 : Int) ≤ l := by omega
  have e2 : (l : Int) ≤ h := by omega
  have e3 : (h : Int) ≤ c := by omega
  have e4 : ¬ c = l := by omega
  have hr : (Instr.sliceAt 22 (.slice (some ⟨B, off, none⟩) n c) (some (.int .i64 l)) (some (.int .i64 h)) none).run Tryd.prog w = .ok (.slice (some ⟨B, off + l, none⟩) (h - l) (c - l)) w := by
    simp [go_sem, e1, e2, e3, e4, hs, addr_add, Program.elem]
  unfold execOp
  simp only [ho, hx]
  simp [hy, hz, hr]
theorem outB_mod (h : Nat → Nat) (i : Nat) {y : Int} (hy : y = ((24 - 8 * (i % 4) : Nat) : Int)) : (shZ (h (i / 4)) y).tmod 256 % 256 = (outB h i : Nat) := by
  subst hy
  unfold shZ outB
  rw [Int.toNat_natCast, IntWalk.rem_in _ _ (Int.natCast_nonneg _)]
  generalize h (i / 4) / 2 ^ (24 - 8 * (i % 4)) = q
  omega
attribute [local irreducible] padL padB cntP chain schT takH begK tabK pieceB allB shZ

set_option maxRecDepth 100000 in
set_option maxHeartbeats 4000000 in
theorem refOf_any (p : Option Addr) (n cap : Nat) (g : Nat → Nat) (hn : n ≤ 90000) (hg : ∀ i, i < n → g i < 256) (w : World) (hp : BytesAt w p n g) :
    Calls Tryd.prog 23 #[.slice p n cap] w fun e w' => e = .returned (.agg (cellsOf .u8 (mk 32 (digF n g)))) ∧ Below w.heap.size w w' := by
  have hL := padL_bd n
  have hM := cntP_mul n
  have heff : effN (n : Int) = n := effN_nat (by omega)
  have F1 := Lib.hid (show ∀ j, j < n → g j = allB n g (0 + j) from fun j hj => by unfold allB; rw [Nat.zero_add, if_pos hj])
  have F2 := Lib.hid (show ∀ j, j < padL n → padB n j = allB n g (n + j) from fun j hj => by unfold allB; rw [if_neg (by omega), Nat.add_sub_cancel_left])
  have HS := Lib.hid (IntBlk.new w .u8 25 (mk 32 zeroK))
  have hb0 : Below w.heap.size w (w.alloc (.cells (cellsOf .u8 (mk 32 zeroK)) 25)) := (Below.refl _ w).alloc (Nat.le_refl _) _
  have hs0 : (w.alloc (.cells (cellsOf .u8 (mk 32 zeroK)) 25)).heap.size = w.heap.size + 1 := World.size_alloc _ _
  have HP := Lib.hid ((hp.below hb0).below ((Below.refl _ (w.alloc (.cells (cellsOf .u8 (mk 32 zeroK)) 25))).alloc (Nat.le_refl _) (.cells (cellsOf .u8 []) 5)))
  have HB0 := Lib.hid hb0
  clear hp hb0
  go_enter Tryd.func23, Tryd.ntmps23
  go_wp2_with (first
    | (refine wpList_buildFlat rfl 22 5 0 _ rfl .u8 [] bytesUnder byteInfo (by rw [byteZero1]; rfl) rfl (by omega) (by omega) rfl ?_)
    | (refine wpList_append_own_bytes rfl (.tmp 9) (.tmp 10) rfl (w.heap.size + 1) (w.heap.size + 1 + 1) 0 _ (allB n g) g p n cap rfl rfl (by have := OwnS.empty (w.alloc (.cells (cellsOf .u8 (mk 32 zeroK)) 25)) (allB n g) (w.heap.size + 1) (by omega); rw [hs0] at this; exact this) HP.out F1.out (by omega) (by first | (simp; done) | (simp; omega)) ?_; intro v1 w2 hv1 hb2; have hs2 : w.heap.size + 1 + 1 ≤ w2.heap.size := by (have := hb2.size; simp only [World.size_alloc] at this; exact this))
    | (go_at_call 34; refine (refPad_any _ _).mono ?_; rintro e w3 ⟨v2, rfl, hv2, hb3⟩; rw [heff] at hv2; obtain ⟨p2, c2, rfl, hc2, _, hp2, _⟩ := hv2.bytes (Nat.le_refl _))
    | (refine wpList_append_own_bytes rfl (.tmp 11) (.tmp 14) rfl (w.heap.size + 1) w2.heap.size n v1 (allB n g) (padB n) p2 (padL n) c2 rfl rfl (by have := hv1.later (Nat.le_refl _) hb3; rw [Nat.zero_add] at this; exact this) hp2 F2.out (by omega) (by have := hb3.size; omega) ?_; intro v3 w4 hv3 hb4))
  obtain ⟨p3, c3, rfl, hc3, _, hp3, hpb3⟩ := hv3.bytes (Nat.le_refl _)
  rcases hp3 with hp3 | ⟨B, off, rfl, hB3, hcl3⟩
  · omega
  have hbB := hpb3 B off rfl
  have hs3 := hb3.size
  have hs4 : w.heap.size + 1 ≤ w4.heap.size := by have := hb4.size; omega
  have hS4 : IntBlk w4 w.heap.size .u8 25 (mk 32 zeroK) := (((HS.out.alloc _).below hb2 (by omega)).below hb3 (by omega)).below hb4 (by omega)
  have hL4 : Below w.heap.size w w4 := ((HB0.out.alloc (by rw [hs0]; omega) _).trans (hb2.mono (by omega))).trans ((hb3.mono (by omega)).trans (hb4.mono (by omega)))
  refine (Table_any _).mono ?_
  rintro e w5 ⟨rfl, hb5⟩
  have G1 := Lib.hid (hS4.below hb5 hS4.lt)
  have G2 := Lib.hid (hL4.trans (hb5.mono hL4.size))
  have G3 := Lib.hid (hcl3.below hb5 hB3)
  have hs5 := hb5.size
  clear hv1 hb2 hb3 hb4 hv2 hp2 hv3 hpb3 hcl3 hS4 hL4 hb5 HS HP HB0
  go_wp2_with (first
    | (refine store_row_on rfl 63 _ _ rfl rfl w5.heap.size (cellsOf .u32 (mk 64 tabK)) rfl rfl 63 (cellsOf .u32 (mk 64 zeroK)) ((IntBlk.new w5 .u32 63 (mk 64 zeroK)).alloc (.cells (cellsOf .u32 (mk 8 zeroK)) 56)) (schedSize _) (by rw [cellsOf_size, cellsOf_size, mk_len, mk_len]) (cellsOf_one _ _) ?_)
    | (refine store_row_on rfl 56 _ _ rfl rfl (w5.heap.size + 1) (cellsOf .u32 (mk 8 begK)) rfl rfl 56 (cellsOf .u32 (mk 8 zeroK)) ((blk_two w5 .u32 56 (mk 8 zeroK) (.cells (cellsOf .u32 (mk 64 zeroK)) 63)).otherRow (by omega) _) (eightSize _) (by rw [cellsOf_size, cellsOf_size, mk_len, mk_len]) (cellsOf_one _ _) ?_))
  have E1 : IntBlk ((((w5.alloc (.cells (cellsOf .u32 (mk 64 zeroK)) 63)).alloc (.cells (cellsOf .u32 (mk 8 zeroK)) 56)).setRow w5.heap.size (cellsOf .u32 (mk 64 tabK))).setRow (w5.heap.size + 1) (cellsOf .u32 (mk 8 begK))) w.heap.size .u8 25 (mk 32 zeroK) := (((G1.out.alloc _).alloc _).otherRow (by omega) _).otherRow (by omega) _
  have E2 : IntBlk ((((w5.alloc (.cells (cellsOf .u32 (mk 64 zeroK)) 63)).alloc (.cells (cellsOf .u32 (mk 8 zeroK)) 56)).setRow w5.heap.size (cellsOf .u32 (mk 64 tabK))).setRow (w5.heap.size + 1) (cellsOf .u32 (mk 8 begK))) w5.heap.size .u32 63 (mk 64 tabK) := (((IntBlk.new w5 .u32 63 (mk 64 zeroK)).alloc _).setRow .u32 _).otherRow (by omega) _
  have E3 : IntBlk ((((w5.alloc (.cells (cellsOf .u32 (mk 64 zeroK)) 63)).alloc (.cells (cellsOf .u32 (mk 8 zeroK)) 56)).setRow w5.heap.size (cellsOf .u32 (mk 64 tabK))).setRow (w5.heap.size + 1) (cellsOf .u32 (mk 8 begK))) (w5.heap.size + 1) .u32 56 (mk 8 begK) := ((blk_two w5 .u32 56 (mk 8 zeroK) (.cells (cellsOf .u32 (mk 64 zeroK)) 63)).otherRow (by omega) _).setRow .u32 _
  have E4 : Below w5.heap.size w5 ((((w5.alloc (.cells (cellsOf .u32 (mk 64 zeroK)) 63)).alloc (.cells (cellsOf .u32 (mk 8 zeroK)) 56)).setRow w5.heap.size (cellsOf .u32 (mk 64 tabK))).setRow (w5.heap.size + 1) (cellsOf .u32 (mk 8 begK))) := below_setRow (below_setRow (((Below.refl _ w5).alloc (Nat.le_refl _) _).alloc (by simp) _) (by omega) _) (by omega) _
  have E5 := G2.out.trans (E4.mono (by omega))
  have E6 : Cells ((((w5.alloc (.cells (cellsOf .u32 (mk 64 zeroK)) 63)).alloc (.cells (cellsOf .u32 (mk 8 zeroK)) 56)).setRow w5.heap.size (cellsOf .u32 (mk 64 tabK))).setRow (w5.heap.size + 1) (cellsOf .u32 (mk 8 begK))) B off (n + padL n) (allB n g) := G3.out.below E4 (by omega)
  have hN : ((((w5.alloc (.cells (cellsOf .u32 (mk 64 zeroK)) 63)).alloc (.cells (cellsOf .u32 (mk 8 zeroK)) 56)).setRow w5.heap.size (cellsOf .u32 (mk 64 tabK))).setRow (w5.heap.size + 1) (cellsOf .u32 (mk 8 begK))).heap.size = w5.heap.size + 2 := by simp
  have e0 : chain begK tabK (allB n g) 0 = begK := by unfold chain; rfl
  have H1 := Lib.hid E1; have H2 := Lib.hid E2; have H3 := Lib.hid E3; have H5 := Lib.hid E5; have H6 := Lib.hid E6
  clear E1 E2 E3 E4 E5 E6 G1 G2 G3
  change Code.wp _ _ _ _ ((((w5.alloc (.cells (cellsOf .u32 (mk 64 zeroK)) 63)).alloc (.cells (cellsOf .u32 (mk 8 zeroK)) 56)).setRow w5.heap.size (cellsOf .u32 (mk 64 tabK))).setRow (w5.heap.size + 1) (cellsOf .u32 (mk 8 begK)))
  generalize ((((w5.alloc (.cells (cellsOf .u32 (mk 64 zeroK)) 63)).alloc (.cells (cellsOf .u32 (mk 8 zeroK)) 56)).setRow w5.heap.size (cellsOf .u32 (mk 64 tabK))).setRow (w5.heap.size + 1) (cellsOf .u32 (mk 8 begK))) = V at *
  generalize w5.heap.size = N at *
  obtain ⟨M, hMM⟩ : ∃ M, cntP n = M := ⟨_, rfl⟩
  rw [hMM] at hM
  obtain ⟨T, hT⟩ : ∃ T, n + padL n = T := ⟨_, rfl⟩
  have hTb : T ≤ 90072 := by omega
  rw [hT] at hM H6 hc3
  have HCG := Lib.hid (show digF n g = outB (chain begK tabK (allB n g) M) from by rw [← hMM]; rfl)
  have hpbb : ∀ k j, j < 64 → pieceB (allB n g) k j < 256 := fun k j _ => by unfold pieceB; exact allB_lt hg _
  have hch : ∀ k j, j < 8 → chain begK tabK (allB n g) k j < 4294967296 := chain_lt _ _ (fun j _ => begK_lt j)
  have HPB := Lib.hid hpbb; have HCH := Lib.hid hch
  have HST := Lib.hid (chain_step begK tabK (allB n g))
  have h6c := H6.out
  clear H6 hpbb hch heff F1 F2 hL hs0
  generalize allB n g = all at *
  rw [hT]
  have HBN := Lib.hid (show B < N by omega)
  have HwN := Lib.hid (show w.heap.size < N by omega)
  have HTM := Lib.hid hM
  have HC3 := Lib.hid hc3
  go_wp2
  go_loopw [6] (fun v wr => ∃ k x : Nat, k ≤ M ∧ x = 64 * k ∧ v = .int .i64 x ∧ IntBlk wr N .u32 63 (mk 64 tabK) ∧ IntBlk wr (N + 1) .u32 56 (mk 8 (chain begK tabK all k)) ∧ Below N V wr) (fun v _ => T - (intOf v).toNat)
  case atStart => exact ⟨0, 0, by omega, rfl, rfl, H2.out, by rw [e0]; exact H3.out, Below.refl _ _⟩
  case round =>
    clear H2 H3
    obtain ⟨k, x, hk, hx, rfl, h2, h3, h4⟩ := hrel
    have I2 := Lib.hid h2; have I3 := Lib.hid h3; have I4 := Lib.hid h4; have HX := Lib.hid hx
    by_cases hlt : k < M
    · have e1 : (x : Int) < T := by omega
      have q1 : IntKind.i64.wrap ((x : Int) + 64) = ((x + 64 : Nat) : Int) := by rw [IntWalk.i64_in _ (by omega)]; omega
      have hsN : N + 1 < wr.heap.size := h3.lt
      have ht : Cells wr B (off + x) 64 (pieceB all k) := fun j hj => by
        have := (h6c : Cells V B off T all).below h4 HBN.out (x + j) (by omega)
        unfold pieceB
        rw [← hx, Nat.add_assoc]; exact this
      have K2 := Lib.hid (fun W (h : Below wr.heap.size wr W) => h2.below h h2.lt)
      have K3 := Lib.hid (fun W (h : Below wr.heap.size wr W) => h3.below h h3.lt)
      have K4 := Lib.hid (fun W (h : Below wr.heap.size wr W) => (refSchedule_any B (off + x) (c3 - x) (pieceB all k) (HPB.out k) W (by have := HBN.out; have := h.size; omega) (ht.below h (by have := HBN.out; omega))).mono fun e w' (hr : _ ∧ Below W.heap.size W w') => And.intro hr.1 (h.trans (hr.2.mono h.size)))
      have K5 := Lib.hid (class_of (W0 := wr) (fun W => refTake_any (chain begK tabK all k) (schT (pieceB all k) 64) tabK (HCH.out k) W))
      have HSTk := Lib.hid (HST.out k)
      have hxc : x + 64 ≤ c3 := by omega
      clear h2 h3 h4 ht hx
      generalize pieceB all k = pc at *
      generalize hch : chain begK tabK all k = ch at *
      clear hch
      go_wp2
      refine wp_region_class_tail 9 (fun w' => Below wr.heap.size wr w') (by kernel_rfl) (by kernel_rfl) ((Below.refl _ _).drew) ?_
      simp only [List.take_succ_cons, List.take_zero, List.drop_succ_cons, List.drop_zero]
      iterate 9 (first
        | go_big_quiet_skip
        | (go_big_quiet_want
           first
             | (go_big_quiet_op; go_big_quiet_on)
             | ((first
                 | (refine quiet_load_row 56 _ rfl (N + 1) .u32 (mk 8 ch) rfl 8 55 eightUnder (eightSize _) K3.out ?_)
                 | (refine quiet_load_row 63 _ rfl N .u32 (mk 64 tabK) rfl 64 55 schedUnder (schedSize _) K2.out ?_)
                 | (refine quiet_int_add _ _ rfl x 64 _ rfl rfl q1 ?_)
                 | (refine quiet_range _ _ _ rfl B off T c3 x (x + 64) rfl rfl rfl (by omega) hxc ?_; rw [Nat.add_sub_cancel_left])
                 | (refine quiet_call1 _ _ _ rfl 37 rfl (.slice (some ⟨B, off + x, none⟩) 64 (c3 - x)) (.agg (cellsOf .u32 (mk 64 (schT pc 64)))) rfl (fun _ w => by simp [go_sem]) K4.out ?_)
                 | (refine quiet_call3 _ _ _ _ _ rfl 36 rfl (.agg (cellsOf .u32 (mk 8 ch))) (.agg (cellsOf .u32 (mk 64 (schT pc 64)))) (.agg (cellsOf .u32 (mk 64 tabK))) (.agg (cellsOf .u32 (mk 8 (takH ch (schT pc 64) tabK)))) rfl rfl rfl (fun _ w => by simp [go_sem]) K5.out ?_)); go_simp; go_big_quiet_on)))
      refine wpQuiet_nil ?_
      intro wx hwx
      have hsx := hwx.size
      refine store_row_on rfl 56 _ _ rfl rfl (N + 1) (cellsOf .u32 (mk 8 (takH ch (schT pc 64) tabK))) rfl rfl 56 (cellsOf .u32 (mk 8 ch)) (K3.out _ hwx) (eightSize _) (by rw [cellsOf_size, cellsOf_size, mk_len, mk_len]) (cellsOf_one _ _) ?_
      go_wp2
      go_roundw
      case rel => exact ⟨k + 1, x + 64, by omega, by have := HX.out; omega, by go_num, (K2.out _ hwx).otherRow (by omega) _, by rw [HSTk.out]; exact (K3.out _ hwx).setRow .u32 _, below_setRow (I4.out.trans (hwx.mono (by omega))) (by omega) _⟩
      case measure => simp [intOf]; omega
    · have ek : k = M := by omega
      have e1 : ¬ (x : Int) < T := by omega
      rw [ek] at I3
      have hsN : N + 1 < wr.heap.size := h3.lt
      have I1 := Lib.hid (H1.out.below h4 HwN.out)
      have IL := Lib.hid (H5.out.trans (h4.mono (by have := HwN.out; omega)))
      clear h2 h3 h4 hlt ek hx
      have hchM := HCH.out M
      generalize chain begK tabK all M = ch at *
      have hcb : ∀ j, j < 8 → ch j < 4294967296 := hchM
      generalize wr = wq at *
      go_wp2
      have hz0 : IntBlk (wq.alloc (.cells (cellsOf .u8 (mk 32 zeroK)) 25)) wq.heap.size .u8 25 (mk 32 (outTo ch 0)) := by rw [outTo_zero]; exact IntBlk.new wq .u8 _ (mk 32 zeroK)
      have HZ := Lib.hid hz0
      have H0 := Lib.hid (show Below wq.heap.size wq (wq.alloc (.cells (cellsOf .u8 (mk 32 zeroK)) 25)) from (Below.refl _ wq).alloc (Nat.le_refl _) _)
      clear hz0
      go_loopw [8] (fun v wk => ∃ i : Nat, i ≤ 32 ∧ v = .int .i64 i ∧ IntBlk wk wq.heap.size .u8 25 (mk 32 (outTo ch i)) ∧ Below wq.heap.size wq wk) (fun v _ => 32 - (intOf v).toNat)
      case atStart => exact ⟨0, by omega, rfl, HZ.out, H0.out⟩
      case round =>
        clear HZ H0
        obtain ⟨i, hi, rfl, hz, hl⟩ := hrel
        have HZ := Lib.hid hz; have HL := Lib.hid hl
        by_cases h32 : i < 32
        · have e2 : (i : Int) < 32 := by omega
          have HS := Lib.hid (outTo_step ch i rfl)
          have hw3 := I3.out.below hl I3.out.lt
          obtain ⟨a, ha⟩ : ∃ a, i / 4 = a := ⟨_, rfl⟩
          obtain ⟨r, hr⟩ : ∃ r, i % 4 = r := ⟨_, rfl⟩
          obtain ⟨y, hy⟩ : ∃ y, 24 - 8 * (i % 4) = y := ⟨_, rfl⟩
          have sv := outB_mod ch i (y := (y : Int)) (by rw [← hy])
          rw [ha] at sv
          have ca := hw3.cell (i := a) (by rw [mk_len]; omega)
          rw [mk_get (by omega)] at ca
          have ci := hz.cell (i := i) (by rw [mk_len]; exact h32)
          have fi := hz.free i
          have hca := hcb a (by omega)
          have q1 : (i : Int) / 4 = (a : Int) := by omega
          have q2 : (i : Int) % 4 = (r : Int) := by omega
          have q3 : IntKind.i64.wrap (8 * (r : Int)) = 8 * (r : Int) := IntWalk.i64_in _ (by omega)
          have q4 : 24 - 8 * (r : Int) = (y : Int) := by omega
          have l1 : (0 : Int) ≤ a := by omega
          have l2 : (a : Int) < 8 := by omega
          have l3 : (0 : Int) ≤ y := by omega
          have l4 : (y : Int) ≤ 32 := by omega
          have SH := Lib.hid (fun W => refShr_any (ch a) (y : Int) hca l3 l4 W)
          have HQ1 := Lib.hid q1; have HQ2 := Lib.hid q2; have HQ4 := Lib.hid q4; have HSV := Lib.hid sv
          clear hz hl hw3 ha hr hy sv
          generalize outB ch i = ov at *
          go_wp2_with (go_at_call 38; refine (SH.out _).mono ?_; rintro e w' ⟨rfl, rfl⟩)
          go_roundw
          case rel => exact ⟨i + 1, by omega, by go_num, by rw [← HS.out, ← HSV.out]; exact HZ.out.set i _, HL.out.setCell (Nat.le_refl _) _⟩
          case measure => simp [intOf]; omega
        · have e32 : i = 32 := by omega
          have hd1 : decide ((i : Int) < 32) = false := by simp; omega
          rw [e32] at HZ
          have hz2 : IntBlk wr wq.heap.size .u8 25 (mk 32 (outB ch)) := by rw [← outTo_end]; exact HZ.out
          have HZ2 := Lib.hid hz2
          have HR2 := Lib.hid (I1.out.below hl I1.out.lt)
          have HW2 := Lib.hid (IL.out.trans (hl.mono IL.out.size))
          clear hz2 e32 h32 HZ hz hl
          go_wp2_with (first
            | (refine wpList_load_row rfl 25 _ rfl wq.heap.size rfl 25 (cellsOf .u8 (mk 32 (outB ch))) (0, 0) _ HZ2.out sumUnder rfl (sumSize _) ?_)
            | (refine wpList_store_row rfl 25 _ _ rfl w.heap.size _ rfl rfl 25 (cellsOf .u8 (mk 32 zeroK)) HR2.out (sumSize _) (by rw [cellsOf_size, cellsOf_size, mk_len, mk_len]) (cellsOf_one _ _) ?_))
          refine bodyPost_ret (results_cell_row rfl _ _ w.heap.size 25 (cellsOf .u8 (mk 32 (outB ch))) (0, 0) _ rfl (HR2.out.setRow .u8 (mk 32 (outB ch))) sumUnder rfl (sumSize _)) rfl ⟨by rw [HCG.out], below_setRow HW2.out (Nat.le_refl _) _⟩
end Go.Proofs.YtccpecajbfpjdaaDoor
