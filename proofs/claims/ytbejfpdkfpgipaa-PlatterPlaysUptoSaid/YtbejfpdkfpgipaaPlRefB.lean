/- The contracts of the document's Now and Read. Condition: the disk lies in memory. -/
import Derived.Test.YtbejfpdkfpgipaaPlRefA
namespace Go.Proofs.Ytbejfpdkfpgipaa
open Go.ChangeShapes Go.WideShapes Go.ChangeAt Go.RowKit
set_option linter.unusedVariables false
section
variable {w : World} {r : RBlk} {base : Nat} {d : Disk} {L : Nat} {R : Since}
theorem RefAt.slot (h : RefAt w r base d L R) {i : Nat} (hi : i < d.ns) : w.cell? ⟨r.zb, i, none⟩ = some (R.V i) :=
  (cell_of_row _ _ _ _ _ _ h.rows.tab).trans (by simp [hi])
/-- What the slice of a sector is. -/
theorem RefAt.shape (h : RefAt w r base d L R) {i : Nat} (hi : i < d.ns) : (R.n i = 0 ∧ ∃ q c, R.V i = .slice q 0 c) ∨ (R.n i ≠ 0 ∧ ∃ B c, R.V i = .slice (some ⟨B, 0, none⟩) (R.n i) c ∧ Cells w B (128 * (R.n i - 1)) 128 (fun j => R.G i (128 * (R.n i - 1) + j)) ∧ base ≤ B ∧ B < w.heap.size) := by
  have ho := OwnS.of_owns (h.rows.row i hi)
  by_cases h0 : R.n i = 0
  · refine .inl ⟨h0, ?_⟩
    rcases ho with ⟨h1, _⟩ | ⟨B, c, cur, h1, _⟩
    · exact ⟨_, _, h1⟩
    · rw [h0] at h1; exact ⟨_, _, h1⟩
  · obtain ⟨B, c, h1, h2, h3, h4⟩ := ho.cells h0
    refine .inr ⟨h0, B, c, h1, fun j hj => ?_, h2, h3⟩
    have := h4 (128 * (R.n i - 1) + j) (by omega)
    rwa [Nat.zero_add] at this
theorem Cells.below' {w w' : World} {B o n : Nat} {f : Nat → Nat} (h : Cells w B o n f) (hb : Below w.heap.size w w') (hB : B < w.heap.size) : Cells w' B o n f := fun j hj => (hb.cell (p := ⟨B, o + j, none⟩) hB).trans (h j hj)
set_option maxRecDepth 100000 in
theorem rNow_ok (h : RefAt w r base d L R) (i : Nat) (hi : i < d.ns) : Calls Try.prog 53 #[.pointer (some ⟨r.B, 0, none⟩), .int .i64 i] w fun e w' => e = .returned (.agg (cellsOf .u8 (d.now i))) ∧ Below w.heap.size w w' := by
  have HD := Lib.hid (h.alloc (.cells (cellsOf .u8 (mk 128 zeroK)) 40))
  have B0 := Lib.hid ((Below.refl _ w).alloc (Nat.le_refl _) (.cells (cellsOf .u8 (mk 128 zeroK)) 40))
  have Y0 := Lib.hid (IntBlk.new w .u8 40 (mk 128 zeroK))
  have c0 := HD.out.c0
  have c1 := HD.out.c1
  have cz := HD.out.slot hi
  have HI := Lib.hid hi
  have hns := h.ns2
  have hop := h.rows.opn i hi
  have p1 : (i : Int) < (d.ns : Int) := by omega
  have p2 : (0 : Int) ≤ i := by omega
  rcases h.shape hi with ⟨hn, q, c, hv⟩ | ⟨hn, B, c, hv, hc, hb1, hb2⟩
  · obtain ⟨F, hF, hFs⟩ := h.sect
    have hnow : d.now i = mk 128 (fun j => F (128 * i + j)) := by
      unfold Disk.now; rw [hop]; unfold Since.last; rw [if_pos hn]; exact hFs i hi
    rw [hnow]
    obtain ⟨f, hf⟩ : ∃ f : Nat → Nat, f = fun j => F (128 * i + j) := ⟨_, rfl⟩
    rw [← hf]
    rw [hv] at cz
    have HF := Lib.hid (hF.below B0.out hF.lt)
    have HE := Lib.hid hf
    have HK := Lib.hid (show 128 * i + 128 ≤ 128 * d.ns by omega)
    clear h hi hn hv hop hnow hF hFs hf hns
    go_enter Try.func53, Try.ntmps53
    go_wp2_with (first
      | (refine wpList_sec_alloc rfl rfl w.heap.size rfl ?_)
      | (refine wpList_elem_sec rfl _ _ rfl r.sb d.ns d.ns i rfl rfl HI.out ?_)
      | (refine wpList_load_part rfl 40 _ rfl r.sb (128 * i) 128 f rfl _ ?cc secUnder rfl secInfo3 ?_
         case cc => rw [HE.out]; exact HF.out.cells HK.out)
      | (refine store_row_on rfl 40 _ _ rfl rfl w.heap.size (cellsOf .u8 (mk 128 f)) rfl rfl 40 (cellsOf .u8 (mk 128 zeroK)) Y0.out (secSize _) (sec_same _ _) (cellsOf_one _ _) ?_))
    exact bodyPost_ret (results_cell_row rfl _ _ w.heap.size 40 (cellsOf .u8 (mk 128 f)) (0, 0) _ rfl (Y0.out.setRow .u8 (mk 128 f)) secUnder rfl (secSize _)) rfl ⟨rfl, below_setRow B0.out (Nat.le_refl _) _⟩
  · have hnow : d.now i = mk 128 (fun j => R.G i (128 * (R.n i - 1) + j)) := by
      unfold Disk.now; rw [hop]; unfold Since.last; rw [if_neg hn]; rfl
    rw [hnow]
    obtain ⟨f, hf⟩ : ∃ f : Nat → Nat, f = fun j => R.G i (128 * (R.n i - 1) + j) := ⟨_, rfl⟩
    rw [← hf]
    rw [← hf] at hc
    rw [hv] at cz
    have hmx : R.n i ≤ 9223372036854775807 := by
      rcases (h.rows.row i hi).2 with ⟨e, e2⟩ | ⟨g, cap, cur, e, _, _, h5, h6, _⟩
      · omega
      · unfold maxLen at h6; omega
    generalize R.n i = n at *
    have HC := Lib.hid (hc.below' B0.out hb2)
    have HN := Lib.hid (show n - 1 < n by omega)
    have p3 : decide ((0 : Int) < (n : Int)) = true := by simp; omega
    have p3b : (0 : Int) < (n : Int) := by omega
    have p3c : 0 < n := by omega
    have p4 : IntKind.i64.wrap ((n : Int) - 1) = ((n - 1 : Nat) : Int) := by rw [IntWalk.i64_in _ (by omega)]; omega
    clear h hi hn hv hop hnow hf hns hc hb1 hb2 hmx
    go_enter Try.func53, Try.ntmps53
    go_wp2_with (first
      | (refine wpList_sec_alloc rfl rfl w.heap.size rfl ?_)
      | (refine wpList_elem_sec rfl _ _ rfl B n c (n - 1) rfl rfl HN.out ?_)
      | (refine wpList_load_part rfl 40 _ rfl B (128 * (n - 1)) 128 f rfl _ HC.out secUnder rfl secInfo3 ?_)
      | (refine store_row_on rfl 40 _ _ rfl rfl w.heap.size (cellsOf .u8 (mk 128 f)) rfl rfl 40 (cellsOf .u8 (mk 128 zeroK)) Y0.out (secSize _) (sec_same _ _) (cellsOf_one _ _) ?_))
    exact bodyPost_ret (results_cell_row rfl _ _ w.heap.size 40 (cellsOf .u8 (mk 128 f)) (0, 0) _ rfl (Y0.out.setRow .u8 (mk 128 f)) secUnder rfl (secSize _)) rfl ⟨rfl, below_setRow B0.out (Nat.le_refl _) _⟩
theorem ref_now_mk (h : RefAt w r base d L R) {i : Nat} (hi : i < d.ns) : ∃ g : Nat → Nat, d.now i = mk 128 g := by
  unfold Disk.now
  rw [h.rows.opn i hi]
  unfold Since.last
  by_cases hn : R.n i = 0
  · rw [if_pos hn]; obtain ⟨F, _, hF⟩ := h.sect; exact ⟨_, hF i hi⟩
  · rw [if_neg hn]; exact ⟨_, rfl⟩
attribute [local irreducible] mk
set_option maxRecDepth 100000 in
theorem rRead_range (h : RefAt w r base d L R) (x : Int) (hx : hasB d.ns x = false) : Calls Try.prog 33 #[.pointer (some ⟨r.B, 0, none⟩), .int .i64 x] w fun e w' => e = .returned (.tuple #[zeroSec, .int .i64 1]) ∧ Below w.heap.size w w' := by
  have HD := Lib.hid (h.alloc (.cells (cellsOf .u8 (mk 128 zeroK)) 40))
  have B0 := Lib.hid ((Below.refl _ w).alloc (Nat.le_refl _) (.cells (cellsOf .u8 (mk 128 zeroK)) 40))
  have Y0 := Lib.hid (IntBlk.new w .u8 40 (mk 128 zeroK))
  have c0 := HD.out.c0
  unfold zeroSec
  rcases has_no hx with hx1 | ⟨hx1, hx2⟩
  · have p1 : decide (x < 0) = true := by simpa using hx1
    clear h hx
    go_enter Try.func33, Try.ntmps33
    go_wp2_with (first
      | (refine wpList_sec_alloc rfl rfl w.heap.size rfl ?_)
      | (refine wpList_sec_build0 rfl rfl ?_)
      | (refine store_row_on rfl 40 _ _ rfl rfl w.heap.size (cellsOf .u8 (mk 128 zeroK)) rfl rfl 40 (cellsOf .u8 (mk 128 zeroK)) Y0.out (secSize _) (sec_same _ _) (cellsOf_one _ _) ?_))
    exact bodyPost_ret (results_cell_row_tmp rfl _ _ w.heap.size 40 (cellsOf .u8 (mk 128 zeroK)) (0, 0) _ rfl (Y0.out.setRow .u8 (mk 128 zeroK)) secUnder rfl (secSize _)) rfl ⟨rfl, below_setRow B0.out (Nat.le_refl _) _⟩
  · have p1 : decide (x < 0) = false := by simpa using hx1
    have p2 : decide ((d.ns : Int) ≤ x) = true := by simpa using hx2
    clear h hx
    go_enter Try.func33, Try.ntmps33
    go_wp2_with (first
      | (refine wpList_sec_alloc rfl rfl w.heap.size rfl ?_)
      | (refine wpList_sec_build0 rfl rfl ?_)
      | (refine store_row_on rfl 40 _ _ rfl rfl w.heap.size (cellsOf .u8 (mk 128 zeroK)) rfl rfl 40 (cellsOf .u8 (mk 128 zeroK)) Y0.out (secSize _) (sec_same _ _) (cellsOf_one _ _) ?_))
    exact bodyPost_ret (results_cell_row_tmp rfl _ _ w.heap.size 40 (cellsOf .u8 (mk 128 zeroK)) (0, 0) _ rfl (Y0.out.setRow .u8 (mk 128 zeroK)) secUnder rfl (secSize _)) rfl ⟨rfl, below_setRow B0.out (Nat.le_refl _) _⟩
set_option maxRecDepth 100000 in
theorem rRead_down (h : RefAt w r base d L R) (x : Int) (hx : hasB d.ns x = true) (hd : d.down = true) : Calls Try.prog 33 #[.pointer (some ⟨r.B, 0, none⟩), .int .i64 x] w fun e w' => e = .returned (.tuple #[zeroSec, .int .i64 5]) ∧ Below w.heap.size w w' := by
  have HD := Lib.hid (h.alloc (.cells (cellsOf .u8 (mk 128 zeroK)) 40))
  have B0 := Lib.hid ((Below.refl _ w).alloc (Nat.le_refl _) (.cells (cellsOf .u8 (mk 128 zeroK)) 40))
  have Y0 := Lib.hid (IntBlk.new w .u8 40 (mk 128 zeroK))
  have c0 := HD.out.c0
  have c6 := HD.out.c6
  rw [hd] at c6
  unfold zeroSec
  have hx2 : 0 ≤ x ∧ x < d.ns := by unfold hasB at hx; simpa using hx
  have p1 : decide (x < 0) = false := by simp; omega
  have p2 : decide ((d.ns : Int) ≤ x) = false := by simp; omega
  clear h hx hx2
  go_enter Try.func33, Try.ntmps33
  go_wp2_with (first
    | (refine wpList_sec_alloc rfl rfl w.heap.size rfl ?_)
    | (refine wpList_sec_build0 rfl rfl ?_)
    | (refine store_row_on rfl 40 _ _ rfl rfl w.heap.size (cellsOf .u8 (mk 128 zeroK)) rfl rfl 40 (cellsOf .u8 (mk 128 zeroK)) Y0.out (secSize _) (sec_same _ _) (cellsOf_one _ _) ?_))
  exact bodyPost_ret (results_cell_row_tmp rfl _ _ w.heap.size 40 (cellsOf .u8 (mk 128 zeroK)) (0, 0) _ rfl (Y0.out.setRow .u8 (mk 128 zeroK)) secUnder rfl (secSize _)) rfl ⟨rfl, below_setRow B0.out (Nat.le_refl _) _⟩
set_option maxRecDepth 100000 in
theorem rRead_ok (h : RefAt w r base d L R) (i : Nat) (hi : i < d.ns) (hd : d.down = false) : Calls Try.prog 33 #[.pointer (some ⟨r.B, 0, none⟩), .int .i64 i] w fun e w' => e = .returned (.tuple #[.agg (cellsOf .u8 (d.now i)), .int .i64 0]) ∧ Below w.heap.size w w' := by
  have HD := Lib.hid (h.alloc (.cells (cellsOf .u8 (mk 128 zeroK)) 40))
  have B0 := Lib.hid ((Below.refl _ w).alloc (Nat.le_refl _) (.cells (cellsOf .u8 (mk 128 zeroK)) 40))
  have Y0 := Lib.hid (IntBlk.new w .u8 40 (mk 128 zeroK))
  have NW := Lib.hid (rNow_ok HD.out i hi)
  have SZ := Lib.hid (show w.heap.size < (w.alloc (.cells (cellsOf .u8 (mk 128 zeroK)) 40)).heap.size by simp)
  obtain ⟨f, hf⟩ := ref_now_mk h hi
  rw [hf] at NW ⊢
  have c0 := HD.out.c0
  have c6 := HD.out.c6
  rw [hd] at c6
  have p1 : decide ((i : Int) < 0) = false := by simp
  have p2 : decide ((d.ns : Int) ≤ (i : Int)) = false := by simp; omega
  have p2b : decide (d.ns ≤ i) = false := by simp; omega
  clear h hi hd hf
  go_enter Try.func33, Try.ntmps33
  go_wp2_with (first
    | (refine wpList_sec_alloc rfl rfl w.heap.size rfl ?_)
    | (go_at_call 53; refine (NW.out).mono ?_; rintro e w1 ⟨rfl, h1⟩
       have Y1 := Lib.hid (Y0.out.below h1 SZ.out)
       have B1 := Lib.hid (B0.out.trans (h1.mono B0.out.size))
       clear h1)
    | (refine store_row_on rfl 40 _ _ rfl rfl w.heap.size (cellsOf .u8 (mk 128 f)) rfl rfl 40 (cellsOf .u8 (mk 128 zeroK)) Y1.out (secSize _) (sec_same _ _) (cellsOf_one _ _) ?_))
  exact bodyPost_ret (results_cell_row_tmp rfl _ _ w.heap.size 40 (cellsOf .u8 (mk 128 f)) (0, 0) _ rfl (Y1.out.setRow .u8 (mk 128 f)) secUnder rfl (secSize _)) rfl ⟨rfl, below_setRow B1.out (Nat.le_refl _) _⟩
end
end Go.Proofs.Ytbejfpdkfpgipaa
