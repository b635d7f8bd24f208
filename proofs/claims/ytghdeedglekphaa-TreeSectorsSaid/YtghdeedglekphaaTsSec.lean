/- The contracts of package tree's Sectors and Tags. Conditions: tags are bytes. -/
import Derived.Test.YtghdeedglekphaaTsBase
namespace Go.Proofs.Ytghdeedglekphaa
open Go.ChangeShapes Go.WideShapes Go.ChangeAt Go.RowKit
set_option linter.unusedVariables false
attribute [local irreducible] nought sumVal sumC secVal secC bytC noSec fTo flatF
set_option maxRecDepth 100000 in
set_option maxHeartbeats 1000000 in
theorem Sectors_no (q : Option Addr) (n c : Nat) (hn : n ≠ 32) (w : World) :
    Calls Try.prog 12 #[.slice q n c] w fun e w' => e = .returned (.tuple #[.slice none 0 0, .iface 33 (.int .i64 2)]) ∧ w = w' := by
  have d1 : (n == 32) = false := by simp; exact hn
  have d2 : ((n : Int) == 32) = false := by simp; omega
  clear hn
  go_enter Try.func12, Try.ntmps12
  go_wp2
  go_ret2
  exact ⟨rfl, rfl⟩
set_option maxRecDepth 100000 in
set_option maxHeartbeats 1000000 in
theorem Tags_no (q : Option Addr) (n c : Nat) (hn : n ≠ 8) (w : World) :
    Calls Try.prog 13 #[.slice q n c] w fun e w' => e = .returned (.tuple #[.slice none 0 0, .iface 33 (.int .i64 2)]) ∧ w = w' := by
  have d1 : (n == 8) = false := by simp; exact hn
  have d2 : ((n : Int) == 8) = false := by simp; omega
  clear hn
  go_enter Try.func13, Try.ntmps13
  go_wp2
  go_ret2
  exact ⟨rfl, rfl⟩
set_option maxRecDepth 100000 in
set_option maxHeartbeats 4000000 in
theorem Sectors_ok (q : Option Addr) (c : Nat) (L : List (List Int)) (hL : L.length = 32) (w : World) (hp : RowsAt 32 sumC w q L) :
    Calls Try.prog 12 #[.slice q 32 c] w fun e w' => e = .returned (.tuple #[.slice (some ⟨w.heap.size, 0, none⟩) 8 8, .nilIface]) ∧ CellB w' w.heap.size (bytC 1024 (flatF L)) ∧ Below w.heap.size w w' := by
  obtain ⟨B, o, rfl, hB, hr⟩ := rows_some hp hL
  have HB := Lib.hid hB
  have HR := Lib.hid (fun (W : World) (h : Below w.heap.size w W) k hk => rangeAt_below (hr k hk) h hB)
  have FA := Lib.hid (fun k i (hi : i < 32) => flatF_at L (k := k) hi)
  have Z0 := Lib.hid (bytC_zero 1024 (flatF L)); have ZA := Lib.hid (bytC_all 1024 (flatF L))
  clear hp hB hr hL
  generalize hS : w.heap.size = S at *
  have HS := Lib.hid hS
  clear hS
  go_enter Try.func12, Try.ntmps12
  go_wp2_with (first
    | (refine wpList_make_cells rfl _ _ rfl 8 rfl rfl (by decide) ?_; intro w1 hx hb
       rw [HS.out] at hx hb
       rw [HS.out]
       have D1 := Lib.hid (show CellB w1 S (bytC 1024 (fTo (32 * 0) (flatF L))) by rw [Nat.mul_zero, Z0.out]; exact hx)
       have B1 := Lib.hid hb
       clear hx hb))
  go_loopw [14] (fun v14 wr => ∃ k : Nat, k ≤ 32 ∧ v14 = .int .i64 k ∧ CellB wr S (bytC 1024 (fTo (32 * k) (flatF L))) ∧ Below S w wr) (fun v14 _ => 32 - (intOf v14).toNat)
  case atStart => exact ⟨0, by omega, rfl, D1.out, B1.out⟩
  case round =>
    obtain ⟨k, hk, rfl, hd, hb⟩ := hrel
    have DD := Lib.hid hd; have BB := Lib.hid hb
    clear hd hb D1 B1
    by_cases hlt : k < 32
    · have f1 : (k : Int) < 32 := by omega
      have f3 : IntKind.i64.wrap ((k : Int) + 1) = ((k + 1 : Nat) : Int) := by rw [IntWalk.i64_in _ (by omega)]; omega
      have HLT := Lib.hid hlt
      have HRK := Lib.hid (HR.out wr BB.out k hlt)
      have FK := Lib.hid (FA.out k)
      obtain ⟨k4, hk4⟩ : ∃ k4, k / 4 = k4 := ⟨_, rfl⟩
      obtain ⟨r4, hr4⟩ : ∃ r4, k % 4 = r4 := ⟨_, rfl⟩
      obtain ⟨m32, hm32⟩ : ∃ m32, 32 * r4 = m32 := ⟨_, rfl⟩
      obtain ⟨left, hleft⟩ : ∃ left, 128 - m32 = left := ⟨_, rfl⟩
      have K4 := Lib.hid hk4; have R4 := Lib.hid hr4; have M32 := Lib.hid hm32; have LF := Lib.hid hleft
      have G1 := Lib.hid (show k4 < 8 ∧ r4 < 1000 ∧ m32 < 128 ∧ 32 ≤ left ∧ 128 * k4 + m32 = 32 * k by omega)
      clear HR FA hk4 hr4 hm32 hleft hlt
      generalize L.getD k [] = t at *
      go_wp2_with (first
        | (refine wpList_sum_elem rfl _ _ rfl B o 32 c k rfl rfl HLT.out ?_)
        | (refine wpList_sum_load rfl _ rfl B (o + 32 * k) rfl t HRK.out ?_)
        | (refine wpList_sum_alloc rfl rfl wr.heap.size rfl ?_; intro w2 hx hb hs
           have X2 := Lib.hid hx; have D2 := Lib.hid (DD.out.below hb); have B2 := Lib.hid (BB.out.trans (hb.mono (HS.out ▸ BB.out.size))); have F2 := Lib.hid (show S < wr.heap.size ∧ w2.heap.size = wr.heap.size + 1 from ⟨DD.out.lt, hs⟩)
           clear hx hb hs DD BB)
        | (refine wpList_sum_store rfl _ _ rfl rfl wr.heap.size 0 rfl t rfl [nought] X2.out (by decide) ?_; intro w3 hx hb hs
           have X3 := Lib.hid (show SumsB w3 wr.heap.size [t] from hx); have D3 := Lib.hid (D2.out.but hb (by have := F2.out; omega)); have B3 := Lib.hid (B2.out.trans (hb.below (by have := F2.out; omega) (HS.out ▸ B2.out.size))); have F3 := Lib.hid (show S < wr.heap.size ∧ wr.heap.size < w3.heap.size from ⟨F2.out.1, by have := F2.out; omega⟩)
           clear hx hb hs X2 D2 B2 F2))
      have hb4 : Below w3.heap.size w3 w3.drew := (Below.refl _ _).drew
      have X4 := Lib.hid (X3.out.below hb4); have D4 := Lib.hid (D3.out.below hb4); have B4 := Lib.hid (B3.out.trans (hb4.mono (HS.out ▸ B3.out.size)))
      clear hb4 X3 D3 B3
      refine wp_region_sched [(0, true), (1, true), (2, true), (3, true), (4, true), (5, true), (6, true), (7, true), (8, true), (9, false)] (fun W => True) (by kernel_rfl) (by kernel_rfl) trivial ?_
      refine walk_float rfl rfl (fun K' hK => ?_)
      refine gives_move _ rfl ?_
      go_simp
      refine hK _ ?_
      clear hK K'
      refine walk_float rfl rfl (fun K' hK => ?_)
      refine gives_move _ rfl ?_
      go_simp
      refine hK _ ?_
      clear hK K'
      refine walk_float rfl rfl (fun K' hK => ?_)
      refine gives_quo4 _ rfl k rfl (by have := HLT.out; omega) k4 K4.out ?_
      go_simp
      refine hK _ ?_
      clear hK K'
      refine walk_float rfl rfl (fun K' hK => ?_)
      refine gives_cell_elem _ _ rfl S 0 8 8 k4 rfl rfl G1.out.1 ?_
      go_simp
      refine hK _ ?_
      clear hK K'
      refine walk_float rfl rfl (fun K' hK => ?_)
      refine gives_move _ rfl ?_
      go_simp
      refine hK _ ?_
      clear hK K'
      refine walk_float rfl rfl (fun K' hK => ?_)
      refine gives_rem4 _ rfl k rfl (by have := HLT.out; omega) r4 R4.out ?_
      go_simp
      refine hK _ ?_
      clear hK K'
      refine walk_float rfl rfl (fun K' hK => ?_)
      refine gives_mul32 _ rfl r4 rfl G1.out.2.1 m32 M32.out ?_
      go_simp
      refine hK _ ?_
      clear hK K'
      refine walk_float rfl rfl (fun K' hK => ?_)
      refine gives_cell_from _ _ rfl S (128 * k4) m32 left (32 * k) rfl rfl G1.out.2.2.1 LF.out G1.out.2.2.2.2 ?_
      go_simp
      refine hK _ ?_
      clear hK K'
      refine walk_float rfl rfl (fun K' hK => ?_)
      refine gives_sum_row _ rfl wr.heap.size 0 rfl ?_
      go_simp
      refine hK _ ?_
      clear hK K'
      refine walk_done rfl rfl (fun K' hK => ?_)
      refine done_copy_row _ _ rfl S (32 * k) left left rfl wr.heap.size 0 32 32 rfl 32 (Nat.min_eq_left G1.out.2.2.2.1) 1024 (flatF L) D4.out (by have := HLT.out; omega) (fun i hi => by rw [Nat.zero_add, FK.out i hi]; exact sum_cells X4.out hi) ?_
      intro w5 hx hb hs
      rw [show 32 * k + 32 = 32 * (k + 1) by omega] at hx
      have D5 := Lib.hid hx; have B5 := Lib.hid (B4.out.trans (hb.below (Nat.le_refl _) (HS.out ▸ B4.out.size)))
      clear hx hb hs D4 B4 X4
      refine ⟨trivial, ?_⟩
      go_simp
      refine hK _ _ ?_
      clear hK K'
      refine walk_nil ?_
      go_wp2
      go_roundw
      case rel => exact ⟨k + 1, HLT.out, by go_num, D5.out, B5.out⟩
      case measure => have := HLT.out; simp [intOf]; omega
    · obtain rfl : k = 32 := by omega
      have f1 : ¬ ((32 : Nat) : Int) < 32 := by omega
      have dd := DD.out
      rw [show 32 * 32 = 1024 from rfl, ZA.out] at dd
      have D9 := Lib.hid dd
      clear dd DD
      go_wp2
      go_ret2
      exact ⟨rfl, D9.out, BB.out⟩
set_option maxRecDepth 100000 in
set_option maxHeartbeats 4000000 in
theorem Tags_ok (B o c : Nat) (F : Nat → Nat) (w : World) (hB : B < w.heap.size) (hr : w.rangeAt B o (bytC 1024 F)) :
    Calls Try.prog 13 #[.slice (some ⟨B, o, none⟩) 8 c] w fun e w' => e = .returned (.tuple #[.slice (some ⟨w.heap.size, 0, none⟩) 32 32, .nilIface]) ∧ CellB w' w.heap.size (bytC 1024 F) ∧ Below w.heap.size w w' := by
  have HR := Lib.hid (fun (W : World) (h : Below w.heap.size w W) i (hi : i < 1024) => rangeAt_below hr h hB i _ (bytC_get F hi))
  have HB := Lib.hid hB
  have Z0 := Lib.hid (bytC_zero 1024 F); have ZA := Lib.hid (bytC_all 1024 F)
  clear hr hB
  generalize hS : w.heap.size = S at *
  have HS := Lib.hid hS
  clear hS
  go_enter Try.func13, Try.ntmps13
  go_wp2_with (first
    | (refine wpList_make_tags rfl _ _ rfl 32 rfl rfl (by decide) ?_; intro w1 hx hb
       rw [HS.out] at hx hb
       rw [HS.out]
       have D1 := Lib.hid (show CellB w1 S (bytC 1024 (fTo (32 * 0) F)) by rw [Nat.mul_zero, Z0.out]; exact hx)
       have B1 := Lib.hid hb
       clear hx hb))
  go_loopw [13] (fun v13 wr => ∃ k : Nat, k ≤ 32 ∧ v13 = .int .i64 k ∧ CellB wr S (bytC 1024 (fTo (32 * k) F)) ∧ Below S w wr) (fun v13 _ => 32 - (intOf v13).toNat)
  case atStart => exact ⟨0, by omega, rfl, D1.out, B1.out⟩
  case round =>
    obtain ⟨k, hk, rfl, hd, hb⟩ := hrel
    have DD := Lib.hid hd; have BB := Lib.hid hb
    clear hd hb D1 B1
    by_cases hlt : k < 32
    · have f1 : (k : Int) < 32 := by omega
      have f3 : IntKind.i64.wrap ((k : Int) + 1) = ((k + 1 : Nat) : Int) := by rw [IntWalk.i64_in _ (by omega)]; omega
      have HLT := Lib.hid hlt
      obtain ⟨k4, hk4⟩ : ∃ k4, k / 4 = k4 := ⟨_, rfl⟩
      obtain ⟨r4, hr4⟩ : ∃ r4, k % 4 = r4 := ⟨_, rfl⟩
      obtain ⟨m32, hm32⟩ : ∃ m32, 32 * r4 = m32 := ⟨_, rfl⟩
      obtain ⟨left, hleft⟩ : ∃ left, 128 - m32 = left := ⟨_, rfl⟩
      obtain ⟨p0, hp0⟩ : ∃ p0, o + 128 * k4 + m32 = p0 := ⟨_, rfl⟩
      have K4 := Lib.hid hk4; have R4 := Lib.hid hr4; have M32 := Lib.hid hm32; have LF := Lib.hid hleft; have P0 := Lib.hid hp0
      have G1 := Lib.hid (show k4 < 8 ∧ r4 < 1000 ∧ m32 < 128 ∧ 32 ≤ left ∧ p0 = o + 32 * k by omega)
      clear hk4 hr4 hm32 hleft hlt hp0
      go_wp2
      have hb4 : Below wr.heap.size wr wr.drew := (Below.refl _ _).drew
      have D4 := Lib.hid (DD.out.below hb4); have B4 := Lib.hid (BB.out.trans (hb4.mono (HS.out ▸ BB.out.size)))
      have HRK := Lib.hid (fun i (hi : i < 32) => HR.out wr.drew B4.out (32 * k + i) (by have := HLT.out; omega))
      clear hb4 DD BB
      refine wp_region_sched [(0, true), (1, true), (2, true), (3, true), (4, true), (5, true), (6, true), (7, true), (8, true), (9, true), (10, true), (11, true), (12, false)] (fun W => True) (by kernel_rfl) (by kernel_rfl) trivial ?_
      refine walk_float rfl rfl (fun K' hK => ?_)
      refine gives_move _ rfl ?_
      go_simp
      refine hK _ ?_
      clear hK K'
      refine walk_float rfl rfl (fun K' hK => ?_)
      refine gives_move _ rfl ?_
      go_simp
      refine hK _ ?_
      clear hK K'
      refine walk_float rfl rfl (fun K' hK => ?_)
      refine gives_sum_elem _ _ rfl S 0 32 32 k rfl rfl HLT.out ?_
      go_simp
      refine hK _ ?_
      clear hK K'
      refine walk_float rfl rfl (fun K' hK => ?_)
      refine gives_sum_row _ rfl S (32 * k) rfl ?_
      go_simp
      refine hK _ ?_
      clear hK K'
      refine walk_float rfl rfl (fun K' hK => ?_)
      refine gives_move _ rfl ?_
      go_simp
      refine hK _ ?_
      clear hK K'
      refine walk_float rfl rfl (fun K' hK => ?_)
      refine gives_move _ rfl ?_
      go_simp
      refine hK _ ?_
      clear hK K'
      refine walk_float rfl rfl (fun K' hK => ?_)
      refine gives_quo4 _ rfl k rfl (by have := HLT.out; omega) k4 K4.out ?_
      go_simp
      refine hK _ ?_
      clear hK K'
      refine walk_float rfl rfl (fun K' hK => ?_)
      refine gives_cell_elem _ _ rfl B o 8 c k4 rfl rfl G1.out.1 ?_
      go_simp
      refine hK _ ?_
      clear hK K'
      refine walk_float rfl rfl (fun K' hK => ?_)
      refine gives_move _ rfl ?_
      go_simp
      refine hK _ ?_
      clear hK K'
      refine walk_float rfl rfl (fun K' hK => ?_)
      refine gives_rem4 _ rfl k rfl (by have := HLT.out; omega) r4 R4.out ?_
      go_simp
      refine hK _ ?_
      clear hK K'
      refine walk_float rfl rfl (fun K' hK => ?_)
      refine gives_mul32 _ rfl r4 rfl G1.out.2.1 m32 M32.out ?_
      go_simp
      refine hK _ ?_
      clear hK K'
      refine walk_float rfl rfl (fun K' hK => ?_)
      refine gives_cell_from _ _ rfl B (o + 128 * k4) m32 left p0 rfl rfl G1.out.2.2.1 LF.out P0.out ?_
      go_simp
      refine hK _ ?_
      clear hK K'
      refine walk_done rfl rfl (fun K' hK => ?_)
      refine done_copy_row _ _ rfl S (32 * k) 32 32 rfl B p0 left left rfl 32 (Nat.min_eq_right G1.out.2.2.2.1) 1024 F D4.out (by have := HLT.out; omega) (fun i hi => by rw [G1.out.2.2.2.2, Nat.add_assoc]; exact HRK.out i hi) ?_
      intro w5 hx hb hs
      rw [show 32 * k + 32 = 32 * (k + 1) by omega] at hx
      have D5 := Lib.hid hx; have B5 := Lib.hid (B4.out.trans (hb.below (Nat.le_refl _) (HS.out ▸ B4.out.size)))
      clear hx hb hs D4 B4 HRK
      refine ⟨trivial, ?_⟩
      go_simp
      refine hK _ _ ?_
      clear hK K'
      refine walk_nil ?_
      go_wp2
      go_roundw
      case rel => exact ⟨k + 1, HLT.out, by go_num, D5.out, B5.out⟩
      case measure => have := HLT.out; simp [intOf]; omega
    · obtain rfl : k = 32 := by omega
      have f1 : ¬ ((32 : Nat) : Int) < 32 := by omega
      have dd := DD.out
      rw [show 32 * 32 = 1024 from rfl, ZA.out] at dd
      have D9 := Lib.hid dd
      clear dd DD
      go_wp2
      go_ret2
      exact ⟨rfl, D9.out, BB.out⟩
end Go.Proofs.Ytghdeedglekphaa
