/- The contract of package citadelref04's Schedule: a piece's sixty-four words. It writes nothing that was there. Condition: the slice holds 64 bytes. -/
import Derived.Test.YtfjbehobpkmjbaaDoorSchC
import Derived.Test.YtfjbehobpkmjbaaDoorRefW
import Derived.Test.YtfjbehobpkmjbaaDoorBytesS
namespace Go.Proofs.YtfjbehobpkmjbaaDoor
open Go.ChangeShapes Go.WideShapes Go.ChangeAt Go.RowKit

theorem schT_zero (f : Nat → Nat) : ∀ {k j : Nat}, k ≤ j → schT f k j = 0
  | 0, _, _ => rfl
  | k + 1, j, h => by
    show (if j = k then _ else schT f k j) = 0
    rw [if_neg (by omega), schT_zero f (by omega)]
/-- A word's first k bytes. -/
def valW (f : Nat → Nat) (i : Nat) : Nat → Nat
  | 0 => 0
  | k + 1 => valW f i k * 256 + f (4 * i + k)
theorem valW_step (f : Nat → Nat) (i k : Nat) : valW f i (k + 1) = valW f i k * 256 + f (4 * i + k) := rfl
def partT (f : Nat → Nat) (i k : Nat) : Nat → Nat := upd (schT f i) i (valW f i k)
theorem partT_zero (f : Nat → Nat) (i : Nat) : partT f i 0 = schT f i := by
  funext j
  show (if j = i then (0 : Nat) else schT f i j) = schT f i j
  split
  · rename_i e; rw [e, schT_zero f (Nat.le_refl i)]
  · rfl
theorem valW_four (f : Nat → Nat) (i : Nat) : valW f i 4 = beW f i := by
  show (((0 * 256 + f (4 * i + 0)) * 256 + f (4 * i + 1)) * 256 + f (4 * i + 2)) * 256 + f (4 * i + 3) = _
  unfold beW; rw [Nat.add_zero]; omega
theorem partT_four (f : Nat → Nat) {i : Nat} (hi : i < 16) : partT f i 4 = schT f (i + 1) := by
  funext j
  show (if j = i then valW f i 4 else schT f i j) = (if j = i then nextW f (schT f i) i else schT f i j)
  rw [valW_four]; unfold nextW; rw [if_pos hi]
theorem partT_step (f : Nat → Nat) (i k : Nat) {v : Int} (hv : v = (valW f i (k + 1) : Nat)) : (mk 64 (partT f i k)).set i v = mk 64 (partT f i (k + 1)) :=
  mk_set_is hv fun j _ => by
    show (if j = i then _ else if j = i then _ else schT f i j) = (if j = i then _ else schT f i j)
    split
    · rfl
    · rfl
theorem partT_at (f : Nat → Nat) (i k : Nat) : partT f i k i = valW f i k := if_pos rfl
theorem valW_lt {f : Nat → Nat} (hf : ∀ i, i < 64 → f i < 256) {i : Nat} (hi : i < 16) : ∀ k, k ≤ 3 → valW f i k < 16777216 := by
  have h0 := hf (4 * i + 0) (by omega); have h1 := hf (4 * i + 1) (by omega); have h2 := hf (4 * i + 2) (by omega)
  intro k hk
  rcases (show k = 0 ∨ k = 1 ∨ k = 2 ∨ k = 3 by omega) with rfl | rfl | rfl | rfl
  · show (0 : Nat) < _; omega
  · show 0 * 256 + f (4 * i + 0) < _; omega
  · show (0 * 256 + f (4 * i + 0)) * 256 + f (4 * i + 1) < _; omega
  · show ((0 * 256 + f (4 * i + 0)) * 256 + f (4 * i + 1)) * 256 + f (4 * i + 2) < _; omega
theorem refEar_bits {x : Nat} (hx : x < 4294967296) : bits .xor .u32 (bits .xor .u32 (roZ x 7) (roZ x 18)) (shZ x 3) = (earW x : Nat) := by
  unfold roZ shZ
  show bits .xor .u32 (bits .xor .u32 (rr x 7 : Nat) (rr x 18 : Nat)) (x / 2 ^ 3 : Nat) = _
  rw [u32_xor_nat _ _ (rr_lt hx (by omega)) (rr_lt hx (by omega)), u32_xor_nat _ _ (xor32_lt (rr_lt hx (by omega)) (rr_lt hx (by omega))) (by omega)]
  rfl
theorem refLat_bits {x : Nat} (hx : x < 4294967296) : bits .xor .u32 (bits .xor .u32 (roZ x 17) (roZ x 19)) (shZ x 10) = (latW x : Nat) := by
  unfold roZ shZ
  show bits .xor .u32 (bits .xor .u32 (rr x 17 : Nat) (rr x 19 : Nat)) (x / 2 ^ 10 : Nat) = _
  rw [u32_xor_nat _ _ (rr_lt hx (by omega)) (rr_lt hx (by omega)), u32_xor_nat _ _ (xor32_lt (rr_lt hx (by omega)) (rr_lt hx (by omega))) (by omega)]
  rfl
attribute [local irreducible] schT beW latW earW add32 partT valW roZ shZ rr

set_option maxRecDepth 100000 in
set_option maxHeartbeats 4000000 in
theorem refSchedule_any (B o cap : Nat) (f : Nat → Nat) (hf : ∀ i, i < 64 → f i < 256) (w : World) (hB : B < w.heap.size) (hp : Cells w B o 64 f) :
    Calls Tryd.prog 34 #[.slice (some ⟨B, o, none⟩) 64 cap] w fun e w' => e = .returned (.agg (cellsOf .u32 (mk 64 (schT f 64)))) ∧ Below w.heap.size w w' := by
  have h0 : mk 64 (schT f 0) = mk 64 zeroK := by unfold schT; rfl
  go_enter Tryd.func34, Tryd.ntmps34
  go_wp2
  go_loopw [4] (fun v wr => ∃ k : Nat, k ≤ 16 ∧ v = .int .i64 k ∧ IntBlk wr w.heap.size .u32 57 (mk 64 zeroK) ∧ IntBlk wr (w.heap.size + 1) .u32 57 (mk 64 (schT f k)) ∧ Below w.heap.size w wr) (fun v _ => 16 - (intOf v).toNat)
  case atStart => exact ⟨0, by omega, rfl, (IntBlk.new w .u32 57 (mk 64 zeroK)).alloc _, by rw [h0]; exact (blk_two w .u32 57 (mk 64 zeroK) _), below_two w _ _⟩
  case round =>
    clear h0
    obtain ⟨i, hi, rfl, hz, hd, hw⟩ := hrel
    have HZ := Lib.hid hz
    have HD := Lib.hid hd
    have HW := Lib.hid hw
    clear hz hd hw
    by_cases h16 : i < 16
    · have e1 : (i : Int) < 16 := by omega
      go_wp2
      go_loopw [5] (fun v wk => ∃ k : Nat, k ≤ 4 ∧ v = .int .i64 k ∧ IntBlk wk w.heap.size .u32 57 (mk 64 zeroK) ∧ IntBlk wk (w.heap.size + 1) .u32 57 (mk 64 (partT f i k)) ∧ Below w.heap.size w wk) (fun v _ => 4 - (intOf v).toNat)
      case atStart => exact ⟨0, by omega, rfl, HZ.out, by rw [partT_zero]; exact HD.out, HW.out⟩
      case round =>
        clear HZ HD HW
        obtain ⟨k, hk, rfl, hz, hd, hw⟩ := hrel
        have HZ := Lib.hid hz
        have HD := Lib.hid hd
        have HW := Lib.hid hw
        by_cases h4 : k < 4
        · have e2 : (k : Int) < 4 := by omega
          have HS := Lib.hid (partT_step f i k (v := ((valW f i (k + 1) : Nat) : Int)) rfl)
          have hv := valW_lt hf h16 k (by omega)
          have hb := hf (4 * i + k) (by omega)
          have c1 := hd.cell (i := i) (by rw [mk_len]; omega)
          rw [mk_get (by omega), partT_at] at c1
          have f1 := hd.free i
          have c2 := hp.below hw hB (4 * i + k) (by omega)
          have hn : valW f i (k + 1) = valW f i k * 256 + f (4 * i + k) := valW_step f i k
          obtain ⟨x, hx⟩ : ∃ x, 4 * i = x := ⟨_, rfl⟩
          obtain ⟨y, hy⟩ : ∃ y, x + k = y := ⟨_, rfl⟩
          rw [hx, hy] at c2 hb hn
          generalize valW f i (k + 1) = nv at *
          generalize valW f i k = v at *
          generalize f y = b at *
          have m1 : IntKind.u32.wrap ((v : Int) * 256) = (v : Int) * 256 := by rw [IntKind.wrap_u32']; omega
          have m2 : IntKind.u32.wrap ((v : Int) * 256 + (b : Int)) = (nv : Int) := by rw [IntKind.wrap_u32']; omega
          have m3 : IntKind.u32.wrap (b : Int) = (b : Int) := by rw [IntKind.wrap_u32']; omega
          have q1 : IntKind.i64.wrap (4 * (i : Int)) = (x : Int) := by rw [IntWalk.i64_in _ (by omega)]; omega
          have q2 : IntKind.i64.wrap ((x : Int) + (k : Int)) = (y : Int) := by rw [IntWalk.i64_in _ (by omega)]; omega
          have l0 : (0 : Int) ≤ i := by omega
          have l1 : (0 : Int) ≤ y := by omega
          have u0 : (i : Int) < 64 := by omega
          have u1 : (y : Int) < 64 := by omega
          clear hz hd hw hx hy hn hv hb
          go_wp2
          refine wp_region_still_tail 15 (by kernel_rfl) (by kernel_rfl) ?_
          simp only [List.take_succ_cons, List.take_zero, List.drop_succ_cons, List.drop_zero]
          change wpStill _ _ wr.drew (fun a' => wpList _ _ _ _ a' wr.drew) _ _
          iterate 15 still_step
          refine wpStill_nil ?_
          go_wp2
          go_roundw
          case rel => exact ⟨k + 1, by omega, by go_num, (HZ.out.other (by show w.heap.size + 1 ≠ w.heap.size; omega) _).drew, by rw [← HS.out]; exact (HD.out.set i _).drew, (HW.out.setCell (by show w.heap.size ≤ w.heap.size + 1; omega) _).drew⟩
          case measure => simp [intOf]; omega
        · obtain rfl : k = 4 := by omega
          have hd1 : decide (((4 : Nat) : Int) < 4) = false := rfl
          clear hz hd hw
          rw [partT_four f h16] at HD
          go_wp2
          go_roundw
          case rel => exact ⟨i + 1, by omega, by go_num, HZ.out, HD.out, HW.out⟩
          case measure => simp [intOf]; omega
    · have e16 : i = 16 := by omega
      rw [e16] at HD
      have hd1 : decide ((i : Int) < 16) = false := by simp; omega
      clear e16 h16 hi
      go_wp2
      go_loopw [6] (fun v wk => ∃ k : Nat, 16 ≤ k ∧ k ≤ 64 ∧ v = .int .i64 k ∧ IntBlk wk w.heap.size .u32 57 (mk 64 zeroK) ∧ IntBlk wk (w.heap.size + 1) .u32 57 (mk 64 (schT f k)) ∧ Below w.heap.size w wk) (fun v _ => 64 - (intOf v).toNat)
      case atStart => exact ⟨16, by omega, by omega, rfl, HZ.out, HD.out, HW.out⟩
      case round =>
        clear HZ HD HW
        obtain ⟨k, h16, hk, rfl, hz, hd, hw⟩ := hrel
        have HZ := Lib.hid hz
        have HD := Lib.hid hd
        have HW := Lib.hid hw
        by_cases hlt : k < 64
        · have HS := Lib.hid (schT_step f k (v := ((nextW f (schT f k) k : Nat) : Int)) rfl)
          rw [nextW_on f _ (by omega)] at HS
          obtain ⟨a, ha2⟩ : ∃ a, k - 2 = a := ⟨_, rfl⟩
          obtain ⟨b, hb7⟩ : ∃ b, k - 7 = b := ⟨_, rfl⟩
          obtain ⟨c, hc15⟩ : ∃ c, k - 15 = c := ⟨_, rfl⟩
          obtain ⟨d, hd16⟩ : ∃ d, k - 16 = d := ⟨_, rfl⟩
          rw [ha2, hb7, hc15, hd16] at HS
          have c1 := hd.cell (i := a) (by rw [mk_len]; omega)
          have c2 := hd.cell (i := b) (by rw [mk_len]; omega)
          have c3 := hd.cell (i := c) (by rw [mk_len]; omega)
          have c4 := hd.cell (i := d) (by rw [mk_len]; omega)
          rw [mk_get (by omega)] at c1 c2 c3 c4
          have f1 := hd.free k
          have c5 := hd.cell (i := k) (by rw [mk_len]; omega)
          have ba := schT_lt hf k a
          have bc := schT_lt hf k c
          have R1 := fun (x n : _) hx h0 hn => Lib.hid (fun W => (refRot_any x n hx h0 hn W).mono fun e w' h => And.intro h.1 h.2.symm)
          have S1 := fun (x n : _) hx h0 hn => Lib.hid (fun W => (refShr_any x n hx h0 hn W).mono fun e w' h => And.intro h.1 h.2.symm)
          have X1 := Lib.hid (refEar_bits bc)
          have X2 := Lib.hid (refLat_bits ba)
          have s1 := add32_int (latW (schT f k a)) (schT f k b)
          have s2 := add32_int (add32 (latW (schT f k a)) (schT f k b)) (earW (schT f k c))
          have s3 := add32_int (add32 (add32 (latW (schT f k a)) (schT f k b)) (earW (schT f k c))) (schT f k d)
          have q1 : IntKind.i64.wrap ((k : Int) - 2) = (a : Int) := by rw [IntWalk.i64_in _ (by omega)]; omega
          have q2 : IntKind.i64.wrap ((k : Int) - 7) = (b : Int) := by rw [IntWalk.i64_in _ (by omega)]; omega
          have q3 : IntKind.i64.wrap ((k : Int) - 15) = (c : Int) := by rw [IntWalk.i64_in _ (by omega)]; omega
          have q4 : IntKind.i64.wrap ((k : Int) - 16) = (d : Int) := by rw [IntWalk.i64_in _ (by omega)]; omega
          have l0 : (0 : Int) ≤ k := by omega
          have l1 : (0 : Int) ≤ a := by omega
          have l2 : (0 : Int) ≤ b := by omega
          have l3 : (0 : Int) ≤ c := by omega
          have l4 : (0 : Int) ≤ d := by omega
          have u0 : (k : Int) < 64 := by omega
          have u1 : (a : Int) < 64 := by omega
          have u2 : (b : Int) < 64 := by omega
          have u3 : (c : Int) < 64 := by omega
          have u4 : (d : Int) < 64 := by omega
          have H16 := Lib.hid h16
          clear hz hd hw ha2 hb7 hc15 hd16 h16
          generalize schT f k a = A at *
          generalize schT f k b = Bb at *
          generalize schT f k c = Cc at *
          generalize schT f k d = Dd at *
          go_wp2
          refine wp_region_still_tail 17 (by kernel_rfl) (by kernel_rfl) ?_
          simp only [List.take_succ_cons, List.take_zero, List.drop_succ_cons, List.drop_zero]
          change wpStill _ _ wr.drew (fun a' => wpList _ _ _ _ a' wr.drew) _ _
          iterate 4 still_step
          refine wpStill_step (fun K hK => ?_)
          go_simp
          refine ⟨_, (R1 Cc 7 bc (by decide) (by decide)).out _, hK _ ?_⟩
          clear hK K
          iterate 4 still_step
          refine wpStill_step (fun K hK => ?_)
          go_simp
          refine ⟨_, (R1 Cc 18 bc (by decide) (by decide)).out _, hK _ ?_⟩
          clear hK K
          iterate 5 still_step
          refine wpStill_step (fun K hK => ?_)
          go_simp
          refine ⟨_, (S1 Cc 3 bc (by decide) (by decide)).out _, hK _ ?_⟩
          clear hK K
          iterate 1 still_step
          refine wpStill_nil ?_
          rw [X1.out]
          go_wp2
          refine wp_region_still_tail 17 (by kernel_rfl) (by kernel_rfl) ?_
          simp only [List.take_succ_cons, List.take_zero, List.drop_succ_cons, List.drop_zero]
          change wpStill _ _ wr.drew.drew (fun a' => wpList _ _ _ _ a' wr.drew.drew) _ _
          iterate 4 still_step
          refine wpStill_step (fun K hK => ?_)
          go_simp
          refine ⟨_, (R1 A 17 ba (by decide) (by decide)).out _, hK _ ?_⟩
          clear hK K
          iterate 4 still_step
          refine wpStill_step (fun K hK => ?_)
          go_simp
          refine ⟨_, (R1 A 19 ba (by decide) (by decide)).out _, hK _ ?_⟩
          clear hK K
          iterate 5 still_step
          refine wpStill_step (fun K hK => ?_)
          go_simp
          refine ⟨_, (S1 A 10 ba (by decide) (by decide)).out _, hK _ ?_⟩
          clear hK K
          iterate 1 still_step
          refine wpStill_nil ?_
          rw [X2.out]
          go_wp2
          refine wp_region_still_tail 15 (by kernel_rfl) (by kernel_rfl) ?_
          simp only [List.take_succ_cons, List.take_zero, List.drop_succ_cons, List.drop_zero]
          change wpStill _ _ wr.drew.drew.drew (fun a' => wpList _ _ _ _ a' wr.drew.drew.drew) _ _
          iterate 15 still_step
          refine wpStill_nil ?_
          go_wp2
          go_roundw
          case rel => exact ⟨k + 1, by have := H16.out; omega, by omega, by go_num, (HZ.out.other (by show w.heap.size + 1 ≠ w.heap.size; omega) _).drew.drew.drew, by rw [← HS.out]; exact (HD.out.set k _).drew.drew.drew, (HW.out.setCell (by show w.heap.size ≤ w.heap.size + 1; omega) _).drew.drew.drew⟩
          case measure => simp [intOf]; omega
        · obtain rfl : k = 64 := by omega
          have hd1 : decide (((64 : Nat) : Int) < 64) = false := rfl
          clear hz hd hw
          go_wp2_with (first
            | (refine wpList_load_row rfl 57 _ rfl (w.heap.size + 1) rfl 57 (cellsOf .u32 (mk 64 (schT f 64))) (0, 0) _ HD.out schedUnder rfl (schedSize _) ?_)
            | (refine wpList_store_row rfl 57 _ _ rfl w.heap.size _ rfl rfl 57 (cellsOf .u32 (mk 64 zeroK)) HZ.out (schedSize _) (by rw [cellsOf_size, cellsOf_size, mk_len, mk_len]) (cellsOf_one _ _) ?_))
          refine bodyPost_ret (results_cell_row rfl _ _ w.heap.size 57 (cellsOf .u32 (mk 64 (schT f 64))) (0, 0) _ rfl (HZ.out.setRow .u32 (mk 64 (schT f 64))) schedUnder rfl (schedSize _)) rfl ⟨rfl, below_setRow HW.out (by omega) _⟩
end Go.Proofs.YtfjbehobpkmjbaaDoor
