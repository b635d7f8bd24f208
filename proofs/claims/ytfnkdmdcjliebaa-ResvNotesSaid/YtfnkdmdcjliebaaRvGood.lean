/- The contract of the document's Good. Condition: the registrations lie in memory, at most 1000. -/
import Derived.Test.YtfnkdmdcjliebaaRvGives
namespace Go.Proofs.Ytfnkdmdcjliebaa
open Go.ChangeShapes Go.WideShapes Go.ChangeAt Go.RowKit
set_option linter.unusedVariables false
/-- Who stood ahead of place i; -1: nobody. -/
def aheadR (ks : List (Int × Int)) (i : Nat) : Int := if i = 0 then -1 else (atR ks (i - 1)).1
theorem rises_drop {ks : List (Int × Int)} {i : Nat} (hi : i < ks.length) (w : Int) : risesR (ks.drop i) w = (decide (w < (atR ks i).1) && decide (1 ≤ (atR ks i).2) && risesR (ks.drop (i + 1)) (atR ks i).1) := by
  rw [drop_consR hi]; rfl
theorem ahead_zero (ks : List (Int × Int)) : -1 ≤ aheadR ks 0 := by unfold aheadR; simp
theorem ahead_next (ks : List (Int × Int)) (i : Nat) : aheadR ks (i + 1) = (atR ks i).1 := by unfold aheadR; rw [if_neg (by omega), Nat.add_sub_cancel]
attribute [local irreducible] regC atR keyR risesR
attribute [local go_sem] Oper.semAt_some
set_option maxRecDepth 100000 in
set_option maxHeartbeats 4000000 in
theorem refGood_any {w : World} {q : Option Addr} {n c : Nat} {r : ResvOf} (hq : RegsAt w q r.regs) (hn : r.regs.length = n) (hl : n ≤ 1000) :
    Calls Try.prog 15 #[.agg (resvA q n c r)] w fun e w' => e = .returned (.bool (goodR r)) ∧ Below w.heap.size w w' := by
  have BX := Lib.hid (RvBox.alloc w q n c r)
  have BB := Lib.hid (box_below w (.cells (resvA q n c r) rvT))
  have HK := Lib.hid (fun W (hW : Below w.heap.size w W) => refKey_at (c := c) hq hn hl hW r.h)
  have HR := Lib.hid (fun i (hi : i < r.regs.length) => regs_at hq (k := i) hi)
  have HS := Lib.hid (fun i (hi : i < r.regs.length) => rises_drop hi (aheadR r.regs i))
  have HA := Lib.hid (fun i => ahead_next r.regs i)
  have H0 := Lib.hid (show risesR (r.regs.drop 0) (aheadR r.regs 0) = risesR r.regs (-1) by rw [List.drop_zero]; rfl)
  have HE := Lib.hid (show ∀ x, risesR (r.regs.drop n) x = true from fun x => by rw [List.drop_of_length_le (by omega)]; unfold risesR; rfl)
  have HB := Lib.hid (show goodR r = (decide (n ≤ 4) && decide (0 ≤ r.g) && risesR r.regs (-1) && formR r) from by unfold goodR; rw [hn])
  have HFM := Lib.hid (show formR r = if r.h == -1 then r.t == 0 else decide (0 < keyR r.regs r.h) && decide (1 ≤ r.t) && decide (r.t ≤ 6) from rfl)
  have HL := Lib.hid hl
  have c0 := BX.out.c0
  have c1 := BX.out.c1
  have c2 := BX.out.c2
  have c3 := BX.out.c3
  have c4 := BX.out.c4
  rw [hn] at HR HS
  clear hq hl
  generalize goodR r = gd at *
  generalize formR r = fm at *
  go_enter Try.func15, Try.ntmps15
  unfold resvA at *
  by_cases h4 : n ≤ 4
  · have g1 : decide ((4 : Int) < (n : Int)) = false := decide_eq_false (by omega)
    by_cases hg : 0 ≤ r.g
    · have g2 : decide (r.g < 0) = false := decide_eq_false (by omega)
      have HB2 := Lib.hid (show gd = (risesR r.regs (-1) && fm) by rw [HB.out, decide_eq_true h4, decide_eq_true hg]; rfl)
      clear HB hg
      go_wp2
      generalize hW : w.alloc (.cells #[.slice q n c, .int .i64 r.h, .int .i64 r.t, .bool r.s, .int .i64 r.g] rvT) = w1 at *
      have BX1 := Lib.hid (show RvBox w1 w.heap.size q n c r from BX.out)
      have BB1 := Lib.hid (show Below w.heap.size w w1 from BB.out)
      clear BX BB hW c0 c1 c2 c3 c4
      go_loopw [3] (fun v3 wr => ∃ i : Nat, i ≤ n ∧ v3 = .int .i64 i ∧ risesR (r.regs.drop i) (aheadR r.regs i) = risesR r.regs (-1) ∧ -1 ≤ aheadR r.regs i ∧ RvBox wr w.heap.size q n c r ∧ Below w1.heap.size w1 wr) (fun v3 _ => n - (intOf v3).toNat)
      case atStart => exact ⟨0, Nat.zero_le _, rfl, H0.out, ahead_zero _, BX1.out, Below.refl _ _⟩
      case round =>
        obtain ⟨i, hi, rfl, hk, ha, hbx, hbb⟩ := hrel
        have HKE := Lib.hid hk
        have BXr := Lib.hid (show RvBox wr.drew w.heap.size q n c r from hbx)
        have BBr := Lib.hid hbb
        have BXw := Lib.hid hbx
        have c0 := hbx.c0
        clear hbx hbb
        by_cases hlt : i < n
        · have f1 : (i : Int) < (n : Int) := by omega
          have HLT := Lib.hid hlt
          have f3 : IntKind.i64.wrap ((i : Int) + 1) = ((i + 1 : Nat) : Int) := by have := HL.out; rw [IntWalk.i64_in _ (by omega)]; omega
          have f4 : IntKind.i64.wrap ((i : Int) - 1) = ((i - 1 : Nat) : Int) ∨ i = 0 := by
            rcases Nat.eq_zero_or_pos i with h | h
            · exact .inr h
            · exact .inl (by have := HL.out; rw [IntWalk.i64_in _ (by omega)]; omega)
          obtain ⟨LB, o, rfl, hB, hrg⟩ := HR.out i hlt
          have hw : Below w.heap.size w wr.drew := (BB1.out.trans (BBr.out.mono BB1.out.size)).drew
          have kd0 : wr.drew.cell? ⟨LB, o + 2 * i, none⟩ = some (.int .i64 (atR r.regs i).1) := reg_c0 (rangeAt_below hrg hw hB)
          have kd1 : wr.drew.cell? ⟨LB, o + 2 * i + 1, none⟩ = some (.int .i64 (atR r.regs i).2) := reg_c1 (rangeAt_below hrg hw hB)
          have HP := Lib.hid (fun (h : 0 < i) => (show wr.drew.cell? ⟨LB, o + 2 * (i - 1), none⟩ = some (.int .i64 (atR r.regs (i - 1)).1) from by
            obtain ⟨LB2, o2, e2, hB2, hrg2⟩ := HR.out (i - 1) (by omega)
            cases e2
            exact reg_c0 (rangeAt_below hrg2 hw hB2)))
          have HWB := Lib.hid hw
          have e := HS.out i hlt
          rw [HKE.out] at e
          have HN := Lib.hid (HA.out i)
          have HAH := Lib.hid (show aheadR r.regs i = if i = 0 then -1 else (atR r.regs (i - 1)).1 from rfl)
          clear hk hi hrg hB hw HKE
          have K0 := Lib.hid kd0
          have K1 := Lib.hid kd1
          clear kd0 kd1
          generalize atR r.regs i = p at *
          generalize atR r.regs (i - 1) = pp at *
          by_cases h1 : p.1 < 0
          · have t1 := decide_eq_true h1
            have HF := Lib.hid (show gd = false by rw [HB2.out, e, decide_eq_false (show ¬ aheadR r.regs i < p.1 by omega)]; rfl)
            clear e HB2 hlt f4 HP
            go_wp2
            refine wp_region_sched [(0, true), (1, true), (2, true), (3, true), (4, true), (5, true), (6, true), (7, true), (8, true), (9, true), (10, true), (11, true), (12, true), (13, true), (14, true), (15, true), (16, true), (17, true), (18, true), (19, true), (20, true), (21, true), (22, true), (23, true), (24, true), (25, true), (26, true), (27, true), (28, true), (29, true), (30, true), (31, true), (32, true), (33, true), (34, true), (35, true)] (fun V => V = wr.drew) (by kernel_rfl) (by kernel_rfl) rfl ?_
            refine walk_float rfl rfl (fun K hK => ?_)
            refine gives_rvfield _ 0 rfl (by decide) w.heap.size rfl ?_
            go_simp
            refine hK _ ?_
            clear hK K
            refine walk_float rfl rfl (fun K hK => ?_)
            refine gives_cell rgS _ rfl ⟨w.heap.size, 0, none⟩ (.slice (some ⟨LB, o, none⟩) n c) rfl box_regs (fun V hV => by rw [hV]; exact BXr.out.c0) ?_
            go_simp
            refine hK _ ?_
            clear hK K
            refine walk_float rfl rfl (fun K hK => ?_)
            refine gives_move _ rfl ?_
            go_simp
            refine hK _ ?_
            clear hK K
            refine walk_float rfl rfl (fun K hK => ?_)
            refine gives_reg_elem _ _ rfl LB o n c i rfl rfl HLT.out ?_
            go_simp
            refine hK _ ?_
            clear hK K
            refine walk_float rfl rfl (fun K hK => ?_)
            refine gives_rg_who _ rfl LB (o + 2 * i) rfl ?_
            go_simp
            refine hK _ ?_
            clear hK K
            refine walk_float rfl rfl (fun K hK => ?_)
            refine gives_cell 3 _ rfl ⟨LB, (o + 2 * i), none⟩ (.int .i64 p.1) rfl box_int (fun V hV => by rw [hV]; exact K0.out) ?_
            go_simp
            refine hK _ ?_
            clear hK K
            refine walk_float rfl rfl (fun K hK => ?_)
            refine gives_int_less _ _ rfl p.1 0 rfl rfl true t1 ?_
            go_simp
            refine hK _ ?_
            clear hK K
            refine walk_float rfl rfl (fun K hK => ?_)
            refine gives_move _ rfl ?_
            go_simp
            refine hK _ ?_
            clear hK K
            refine walk_off rfl rfl ?_
            go_simp
            refine walk_off rfl rfl ?_
            go_simp
            refine walk_off rfl rfl ?_
            go_simp
            refine walk_off rfl rfl ?_
            go_simp
            refine walk_off rfl rfl ?_
            go_simp
            refine walk_off rfl rfl ?_
            go_simp
            refine walk_off rfl rfl ?_
            go_simp
            refine walk_float rfl rfl (fun K hK => ?_)
            refine gives_pickT _ _ _ rfl rfl (.bool true) rfl ?_
            go_simp
            refine hK _ ?_
            clear hK K
            refine walk_float rfl rfl (fun K hK => ?_)
            refine gives_move _ rfl ?_
            go_simp
            refine hK _ ?_
            clear hK K
            refine walk_off rfl rfl ?_
            go_simp
            refine walk_off rfl rfl ?_
            go_simp
            refine walk_off rfl rfl ?_
            go_simp
            refine walk_off rfl rfl ?_
            go_simp
            refine walk_off rfl rfl ?_
            go_simp
            refine walk_off rfl rfl ?_
            go_simp
            refine walk_off rfl rfl ?_
            go_simp
            refine walk_off rfl rfl ?_
            go_simp
            refine walk_off rfl rfl ?_
            go_simp
            refine walk_off rfl rfl ?_
            go_simp
            refine walk_off rfl rfl ?_
            go_simp
            refine walk_off rfl rfl ?_
            go_simp
            refine walk_off rfl rfl ?_
            go_simp
            refine walk_off rfl rfl ?_
            go_simp
            refine walk_off rfl rfl ?_
            go_simp
            refine walk_off rfl rfl ?_
            go_simp
            refine walk_off rfl rfl ?_
            go_simp
            refine walk_off rfl rfl ?_
            go_simp
            refine walk_float rfl rfl (fun K hK => ?_)
            refine gives_pickT _ _ _ rfl rfl (.bool true) rfl ?_
            go_simp
            refine hK _ ?_
            clear hK K
            refine walk_nil ?_
            go_wp2
            go_ret
            exact ⟨by rw [HF.out]; rfl, HWB.out⟩
          · have t1 := decide_eq_false h1
            by_cases h2 : p.2 < 1
            · have t2 := decide_eq_true h2
              have HF := Lib.hid (show gd = false by rw [HB2.out, e, decide_eq_false (show ¬ 1 ≤ p.2 by omega), Bool.and_false]; rfl)
              clear e HB2 hlt f4 HP
              go_wp2
              refine wp_region_sched [(0, true), (1, true), (2, true), (3, true), (4, true), (5, true), (6, true), (7, true), (8, true), (9, true), (10, true), (11, true), (12, true), (13, true), (14, true), (15, true), (16, true), (17, true), (18, true), (19, true), (20, true), (21, true), (22, true), (23, true), (24, true), (25, true), (26, true), (27, true), (28, true), (29, true), (30, true), (31, true), (32, true), (33, true), (34, true), (35, true)] (fun V => V = wr.drew) (by kernel_rfl) (by kernel_rfl) rfl ?_
              refine walk_float rfl rfl (fun K hK => ?_)
              refine gives_rvfield _ 0 rfl (by decide) w.heap.size rfl ?_
              go_simp
              refine hK _ ?_
              clear hK K
              refine walk_float rfl rfl (fun K hK => ?_)
              refine gives_cell rgS _ rfl ⟨w.heap.size, 0, none⟩ (.slice (some ⟨LB, o, none⟩) n c) rfl box_regs (fun V hV => by rw [hV]; exact BXr.out.c0) ?_
              go_simp
              refine hK _ ?_
              clear hK K
              refine walk_float rfl rfl (fun K hK => ?_)
              refine gives_move _ rfl ?_
              go_simp
              refine hK _ ?_
              clear hK K
              refine walk_float rfl rfl (fun K hK => ?_)
              refine gives_reg_elem _ _ rfl LB o n c i rfl rfl HLT.out ?_
              go_simp
              refine hK _ ?_
              clear hK K
              refine walk_float rfl rfl (fun K hK => ?_)
              refine gives_rg_who _ rfl LB (o + 2 * i) rfl ?_
              go_simp
              refine hK _ ?_
              clear hK K
              refine walk_float rfl rfl (fun K hK => ?_)
              refine gives_cell 3 _ rfl ⟨LB, (o + 2 * i), none⟩ (.int .i64 p.1) rfl box_int (fun V hV => by rw [hV]; exact K0.out) ?_
              go_simp
              refine hK _ ?_
              clear hK K
              refine walk_float rfl rfl (fun K hK => ?_)
              refine gives_int_less _ _ rfl p.1 0 rfl rfl false t1 ?_
              go_simp
              refine hK _ ?_
              clear hK K
              refine walk_float rfl rfl (fun K hK => ?_)
              refine gives_move _ rfl ?_
              go_simp
              refine hK _ ?_
              clear hK K
              refine walk_float rfl rfl (fun K hK => ?_)
              refine gives_rvfield _ 0 rfl (by decide) w.heap.size rfl ?_
              go_simp
              refine hK _ ?_
              clear hK K
              refine walk_float rfl rfl (fun K hK => ?_)
              refine gives_cell rgS _ rfl ⟨w.heap.size, 0, none⟩ (.slice (some ⟨LB, o, none⟩) n c) rfl box_regs (fun V hV => by rw [hV]; exact BXr.out.c0) ?_
              go_simp
              refine hK _ ?_
              clear hK K
              refine walk_float rfl rfl (fun K hK => ?_)
              refine gives_move _ rfl ?_
              go_simp
              refine hK _ ?_
              clear hK K
              refine walk_float rfl rfl (fun K hK => ?_)
              refine gives_reg_elem _ _ rfl LB o n c i rfl rfl HLT.out ?_
              go_simp
              refine hK _ ?_
              clear hK K
              refine walk_float rfl rfl (fun K hK => ?_)
              refine gives_rg_key _ rfl LB (o + 2 * i) rfl ?_
              go_simp
              refine hK _ ?_
              clear hK K
              refine walk_float rfl rfl (fun K hK => ?_)
              refine gives_cell 3 _ rfl ⟨LB, ((o + 2 * i) + 1), none⟩ (.int .i64 p.2) rfl box_int (fun V hV => by rw [hV]; exact K1.out) ?_
              go_simp
              refine hK _ ?_
              clear hK K
              refine walk_float rfl rfl (fun K hK => ?_)
              refine gives_int_less _ _ rfl p.2 1 rfl rfl true t2 ?_
              go_simp
              refine hK _ ?_
              clear hK K
              refine walk_float rfl rfl (fun K hK => ?_)
              refine gives_pickF _ _ _ rfl rfl (.bool true) rfl ?_
              go_simp
              refine hK _ ?_
              clear hK K
              refine walk_float rfl rfl (fun K hK => ?_)
              refine gives_move _ rfl ?_
              go_simp
              refine hK _ ?_
              clear hK K
              refine walk_off rfl rfl ?_
              go_simp
              refine walk_off rfl rfl ?_
              go_simp
              refine walk_off rfl rfl ?_
              go_simp
              refine walk_off rfl rfl ?_
              go_simp
              refine walk_off rfl rfl ?_
              go_simp
              refine walk_off rfl rfl ?_
              go_simp
              refine walk_off rfl rfl ?_
              go_simp
              refine walk_off rfl rfl ?_
              go_simp
              refine walk_off rfl rfl ?_
              go_simp
              refine walk_off rfl rfl ?_
              go_simp
              refine walk_off rfl rfl ?_
              go_simp
              refine walk_off rfl rfl ?_
              go_simp
              refine walk_off rfl rfl ?_
              go_simp
              refine walk_off rfl rfl ?_
              go_simp
              refine walk_off rfl rfl ?_
              go_simp
              refine walk_off rfl rfl ?_
              go_simp
              refine walk_off rfl rfl ?_
              go_simp
              refine walk_off rfl rfl ?_
              go_simp
              refine walk_float rfl rfl (fun K hK => ?_)
              refine gives_pickT _ _ _ rfl rfl (.bool true) rfl ?_
              go_simp
              refine hK _ ?_
              clear hK K
              refine walk_nil ?_
              go_wp2
              go_ret
              exact ⟨by rw [HF.out]; rfl, HWB.out⟩
            · have t2 := decide_eq_false h2
              by_cases h0 : i = 0
              · have t3 : decide ((0 : Int) < (i : Int)) = false := decide_eq_false (by omega)
                have e2 : risesR (r.regs.drop (i + 1)) (aheadR r.regs (i + 1)) = risesR r.regs (-1) := by
                  rw [HN.out, e, HAH.out, if_pos h0, decide_eq_true (show (-1 : Int) < p.1 by omega), decide_eq_true (show 1 ≤ p.2 by omega)]; rfl
                have E2 := Lib.hid e2
                have E3 := Lib.hid (show -1 ≤ aheadR r.regs (i + 1) by rw [HN.out]; omega)
                clear e e2 hlt f4 HP h0
                go_wp2
                refine wp_region_sched [(0, true), (1, true), (2, true), (3, true), (4, true), (5, true), (6, true), (7, true), (8, true), (9, true), (10, true), (11, true), (12, true), (13, true), (14, true), (15, true), (16, true), (17, true), (18, true), (19, true), (20, true), (21, true), (22, true), (23, true), (24, true), (25, true), (26, true), (27, true), (28, true), (29, true), (30, true), (31, true), (32, true), (33, true), (34, true), (35, true)] (fun V => V = wr.drew) (by kernel_rfl) (by kernel_rfl) rfl ?_
                refine walk_float rfl rfl (fun K hK => ?_)
                refine gives_rvfield _ 0 rfl (by decide) w.heap.size rfl ?_
                go_simp
                refine hK _ ?_
                clear hK K
                refine walk_float rfl rfl (fun K hK => ?_)
                refine gives_cell rgS _ rfl ⟨w.heap.size, 0, none⟩ (.slice (some ⟨LB, o, none⟩) n c) rfl box_regs (fun V hV => by rw [hV]; exact BXr.out.c0) ?_
                go_simp
                refine hK _ ?_
                clear hK K
                refine walk_float rfl rfl (fun K hK => ?_)
                refine gives_move _ rfl ?_
                go_simp
                refine hK _ ?_
                clear hK K
                refine walk_float rfl rfl (fun K hK => ?_)
                refine gives_reg_elem _ _ rfl LB o n c i rfl rfl HLT.out ?_
                go_simp
                refine hK _ ?_
                clear hK K
                refine walk_float rfl rfl (fun K hK => ?_)
                refine gives_rg_who _ rfl LB (o + 2 * i) rfl ?_
                go_simp
                refine hK _ ?_
                clear hK K
                refine walk_float rfl rfl (fun K hK => ?_)
                refine gives_cell 3 _ rfl ⟨LB, (o + 2 * i), none⟩ (.int .i64 p.1) rfl box_int (fun V hV => by rw [hV]; exact K0.out) ?_
                go_simp
                refine hK _ ?_
                clear hK K
                refine walk_float rfl rfl (fun K hK => ?_)
                refine gives_int_less _ _ rfl p.1 0 rfl rfl false t1 ?_
                go_simp
                refine hK _ ?_
                clear hK K
                refine walk_float rfl rfl (fun K hK => ?_)
                refine gives_move _ rfl ?_
                go_simp
                refine hK _ ?_
                clear hK K
                refine walk_float rfl rfl (fun K hK => ?_)
                refine gives_rvfield _ 0 rfl (by decide) w.heap.size rfl ?_
                go_simp
                refine hK _ ?_
                clear hK K
                refine walk_float rfl rfl (fun K hK => ?_)
                refine gives_cell rgS _ rfl ⟨w.heap.size, 0, none⟩ (.slice (some ⟨LB, o, none⟩) n c) rfl box_regs (fun V hV => by rw [hV]; exact BXr.out.c0) ?_
                go_simp
                refine hK _ ?_
                clear hK K
                refine walk_float rfl rfl (fun K hK => ?_)
                refine gives_move _ rfl ?_
                go_simp
                refine hK _ ?_
                clear hK K
                refine walk_float rfl rfl (fun K hK => ?_)
                refine gives_reg_elem _ _ rfl LB o n c i rfl rfl HLT.out ?_
                go_simp
                refine hK _ ?_
                clear hK K
                refine walk_float rfl rfl (fun K hK => ?_)
                refine gives_rg_key _ rfl LB (o + 2 * i) rfl ?_
                go_simp
                refine hK _ ?_
                clear hK K
                refine walk_float rfl rfl (fun K hK => ?_)
                refine gives_cell 3 _ rfl ⟨LB, ((o + 2 * i) + 1), none⟩ (.int .i64 p.2) rfl box_int (fun V hV => by rw [hV]; exact K1.out) ?_
                go_simp
                refine hK _ ?_
                clear hK K
                refine walk_float rfl rfl (fun K hK => ?_)
                refine gives_int_less _ _ rfl p.2 1 rfl rfl false t2 ?_
                go_simp
                refine hK _ ?_
                clear hK K
                refine walk_float rfl rfl (fun K hK => ?_)
                refine gives_pickF _ _ _ rfl rfl (.bool false) rfl ?_
                go_simp
                refine hK _ ?_
                clear hK K
                refine walk_float rfl rfl (fun K hK => ?_)
                refine gives_move _ rfl ?_
                go_simp
                refine hK _ ?_
                clear hK K
                refine walk_float rfl rfl (fun K hK => ?_)
                refine gives_move _ rfl ?_
                go_simp
                refine hK _ ?_
                clear hK K
                refine walk_float rfl rfl (fun K hK => ?_)
                refine gives_int_over _ _ rfl i 0 rfl rfl false t3 ?_
                go_simp
                refine hK _ ?_
                clear hK K
                refine walk_float rfl rfl (fun K hK => ?_)
                refine gives_move _ rfl ?_
                go_simp
                refine hK _ ?_
                clear hK K
                refine walk_off rfl rfl ?_
                go_simp
                refine walk_off rfl rfl ?_
                go_simp
                refine walk_off rfl rfl ?_
                go_simp
                refine walk_off rfl rfl ?_
                go_simp
                refine walk_off rfl rfl ?_
                go_simp
                refine walk_off rfl rfl ?_
                go_simp
                refine walk_off rfl rfl ?_
                go_simp
                refine walk_off rfl rfl ?_
                go_simp
                refine walk_off rfl rfl ?_
                go_simp
                refine walk_off rfl rfl ?_
                go_simp
                refine walk_off rfl rfl ?_
                go_simp
                refine walk_off rfl rfl ?_
                go_simp
                refine walk_off rfl rfl ?_
                go_simp
                refine walk_off rfl rfl ?_
                go_simp
                refine walk_float rfl rfl (fun K hK => ?_)
                refine gives_pickF _ _ _ rfl rfl (.bool false) rfl ?_
                go_simp
                refine hK _ ?_
                clear hK K
                refine walk_float rfl rfl (fun K hK => ?_)
                refine gives_pickF _ _ _ rfl rfl (.bool false) rfl ?_
                go_simp
                refine hK _ ?_
                clear hK K
                refine walk_nil ?_
                go_wp2
                go_roundw
                case rel => exact ⟨i + 1, HLT.out, by go_num, E2.out, E3.out, BXr.out, BBr.out.drew⟩
                case measure => have := HLT.out; simp [intOf]; omega
              · have t3 : decide ((0 : Int) < (i : Int)) = true := decide_eq_true (by omega)
                have f5 : IntKind.i64.wrap ((i : Int) - 1) = ((i - 1 : Nat) : Int) := f4.resolve_right h0
                have K2 := Lib.hid (HP.out (by omega))
                have HLI := Lib.hid (show i - 1 < n by omega)
                rw [HAH.out, if_neg h0] at e
                by_cases h3 : p.1 ≤ pp.1
                · have t4 := decide_eq_true h3
                  have HF := Lib.hid (show gd = false by rw [HB2.out, e, decide_eq_false (show ¬ pp.1 < p.1 by omega)]; rfl)
                  clear e HB2 hlt f4 HP h0
                  go_wp2
                  refine wp_region_sched [(0, true), (1, true), (2, true), (3, true), (4, true), (5, true), (6, true), (7, true), (8, true), (9, true), (10, true), (11, true), (12, true), (13, true), (14, true), (15, true), (16, true), (17, true), (18, true), (19, true), (20, true), (21, true), (22, true), (23, true), (24, true), (25, true), (26, true), (27, true), (28, true), (29, true), (30, true), (31, true), (32, true), (33, true), (34, true), (35, true)] (fun V => V = wr.drew) (by kernel_rfl) (by kernel_rfl) rfl ?_
                  refine walk_float rfl rfl (fun K hK => ?_)
                  refine gives_rvfield _ 0 rfl (by decide) w.heap.size rfl ?_
                  go_simp
                  refine hK _ ?_
                  clear hK K
                  refine walk_float rfl rfl (fun K hK => ?_)
                  refine gives_cell rgS _ rfl ⟨w.heap.size, 0, none⟩ (.slice (some ⟨LB, o, none⟩) n c) rfl box_regs (fun V hV => by rw [hV]; exact BXr.out.c0) ?_
                  go_simp
                  refine hK _ ?_
                  clear hK K
                  refine walk_float rfl rfl (fun K hK => ?_)
                  refine gives_move _ rfl ?_
                  go_simp
                  refine hK _ ?_
                  clear hK K
                  refine walk_float rfl rfl (fun K hK => ?_)
                  refine gives_reg_elem _ _ rfl LB o n c i rfl rfl HLT.out ?_
                  go_simp
                  refine hK _ ?_
                  clear hK K
                  refine walk_float rfl rfl (fun K hK => ?_)
                  refine gives_rg_who _ rfl LB (o + 2 * i) rfl ?_
                  go_simp
                  refine hK _ ?_
                  clear hK K
                  refine walk_float rfl rfl (fun K hK => ?_)
                  refine gives_cell 3 _ rfl ⟨LB, (o + 2 * i), none⟩ (.int .i64 p.1) rfl box_int (fun V hV => by rw [hV]; exact K0.out) ?_
                  go_simp
                  refine hK _ ?_
                  clear hK K
                  refine walk_float rfl rfl (fun K hK => ?_)
                  refine gives_int_less _ _ rfl p.1 0 rfl rfl false t1 ?_
                  go_simp
                  refine hK _ ?_
                  clear hK K
                  refine walk_float rfl rfl (fun K hK => ?_)
                  refine gives_move _ rfl ?_
                  go_simp
                  refine hK _ ?_
                  clear hK K
                  refine walk_float rfl rfl (fun K hK => ?_)
                  refine gives_rvfield _ 0 rfl (by decide) w.heap.size rfl ?_
                  go_simp
                  refine hK _ ?_
                  clear hK K
                  refine walk_float rfl rfl (fun K hK => ?_)
                  refine gives_cell rgS _ rfl ⟨w.heap.size, 0, none⟩ (.slice (some ⟨LB, o, none⟩) n c) rfl box_regs (fun V hV => by rw [hV]; exact BXr.out.c0) ?_
                  go_simp
                  refine hK _ ?_
                  clear hK K
                  refine walk_float rfl rfl (fun K hK => ?_)
                  refine gives_move _ rfl ?_
                  go_simp
                  refine hK _ ?_
                  clear hK K
                  refine walk_float rfl rfl (fun K hK => ?_)
                  refine gives_reg_elem _ _ rfl LB o n c i rfl rfl HLT.out ?_
                  go_simp
                  refine hK _ ?_
                  clear hK K
                  refine walk_float rfl rfl (fun K hK => ?_)
                  refine gives_rg_key _ rfl LB (o + 2 * i) rfl ?_
                  go_simp
                  refine hK _ ?_
                  clear hK K
                  refine walk_float rfl rfl (fun K hK => ?_)
                  refine gives_cell 3 _ rfl ⟨LB, ((o + 2 * i) + 1), none⟩ (.int .i64 p.2) rfl box_int (fun V hV => by rw [hV]; exact K1.out) ?_
                  go_simp
                  refine hK _ ?_
                  clear hK K
                  refine walk_float rfl rfl (fun K hK => ?_)
                  refine gives_int_less _ _ rfl p.2 1 rfl rfl false t2 ?_
                  go_simp
                  refine hK _ ?_
                  clear hK K
                  refine walk_float rfl rfl (fun K hK => ?_)
                  refine gives_pickF _ _ _ rfl rfl (.bool false) rfl ?_
                  go_simp
                  refine hK _ ?_
                  clear hK K
                  refine walk_float rfl rfl (fun K hK => ?_)
                  refine gives_move _ rfl ?_
                  go_simp
                  refine hK _ ?_
                  clear hK K
                  refine walk_float rfl rfl (fun K hK => ?_)
                  refine gives_move _ rfl ?_
                  go_simp
                  refine hK _ ?_
                  clear hK K
                  refine walk_float rfl rfl (fun K hK => ?_)
                  refine gives_int_over _ _ rfl i 0 rfl rfl true t3 ?_
                  go_simp
                  refine hK _ ?_
                  clear hK K
                  refine walk_float rfl rfl (fun K hK => ?_)
                  refine gives_move _ rfl ?_
                  go_simp
                  refine hK _ ?_
                  clear hK K
                  refine walk_float rfl rfl (fun K hK => ?_)
                  refine gives_rvfield _ 0 rfl (by decide) w.heap.size rfl ?_
                  go_simp
                  refine hK _ ?_
                  clear hK K
                  refine walk_float rfl rfl (fun K hK => ?_)
                  refine gives_cell rgS _ rfl ⟨w.heap.size, 0, none⟩ (.slice (some ⟨LB, o, none⟩) n c) rfl box_regs (fun V hV => by rw [hV]; exact BXr.out.c0) ?_
                  go_simp
                  refine hK _ ?_
                  clear hK K
                  refine walk_float rfl rfl (fun K hK => ?_)
                  refine gives_move _ rfl ?_
                  go_simp
                  refine hK _ ?_
                  clear hK K
                  refine walk_float rfl rfl (fun K hK => ?_)
                  refine gives_reg_elem _ _ rfl LB o n c i rfl rfl HLT.out ?_
                  go_simp
                  refine hK _ ?_
                  clear hK K
                  refine walk_float rfl rfl (fun K hK => ?_)
                  refine gives_rg_who _ rfl LB (o + 2 * i) rfl ?_
                  go_simp
                  refine hK _ ?_
                  clear hK K
                  refine walk_float rfl rfl (fun K hK => ?_)
                  refine gives_cell 3 _ rfl ⟨LB, (o + 2 * i), none⟩ (.int .i64 p.1) rfl box_int (fun V hV => by rw [hV]; exact K0.out) ?_
                  go_simp
                  refine hK _ ?_
                  clear hK K
                  refine walk_float rfl rfl (fun K hK => ?_)
                  refine gives_rvfield _ 0 rfl (by decide) w.heap.size rfl ?_
                  go_simp
                  refine hK _ ?_
                  clear hK K
                  refine walk_float rfl rfl (fun K hK => ?_)
                  refine gives_cell rgS _ rfl ⟨w.heap.size, 0, none⟩ (.slice (some ⟨LB, o, none⟩) n c) rfl box_regs (fun V hV => by rw [hV]; exact BXr.out.c0) ?_
                  go_simp
                  refine hK _ ?_
                  clear hK K
                  refine walk_float rfl rfl (fun K hK => ?_)
                  refine gives_move _ rfl ?_
                  go_simp
                  refine hK _ ?_
                  clear hK K
                  refine walk_float rfl rfl (fun K hK => ?_)
                  refine gives_int_less1 _ _ rfl i 1 (((i - 1 : Nat) : Int)) rfl rfl f5 ?_
                  go_simp
                  refine hK _ ?_
                  clear hK K
                  refine walk_float rfl rfl (fun K hK => ?_)
                  refine gives_reg_elem _ _ rfl LB o n c (i - 1) rfl rfl HLI.out ?_
                  go_simp
                  refine hK _ ?_
                  clear hK K
                  refine walk_float rfl rfl (fun K hK => ?_)
                  refine gives_rg_who _ rfl LB (o + 2 * (i - 1)) rfl ?_
                  go_simp
                  refine hK _ ?_
                  clear hK K
                  refine walk_float rfl rfl (fun K hK => ?_)
                  refine gives_cell 3 _ rfl ⟨LB, (o + 2 * (i - 1)), none⟩ (.int .i64 pp.1) rfl box_int (fun V hV => by rw [hV]; exact K2.out) ?_
                  go_simp
                  refine hK _ ?_
                  clear hK K
                  refine walk_float rfl rfl (fun K hK => ?_)
                  refine gives_int_most _ _ rfl p.1 pp.1 rfl rfl true t4 ?_
                  go_simp
                  refine hK _ ?_
                  clear hK K
                  refine walk_float rfl rfl (fun K hK => ?_)
                  refine gives_pickT _ _ _ rfl rfl (.bool true) rfl ?_
                  go_simp
                  refine hK _ ?_
                  clear hK K
                  refine walk_float rfl rfl (fun K hK => ?_)
                  refine gives_pickF _ _ _ rfl rfl (.bool true) rfl ?_
                  go_simp
                  refine hK _ ?_
                  clear hK K
                  refine walk_nil ?_
                  go_wp2
                  go_ret
                  exact ⟨by rw [HF.out]; rfl, HWB.out⟩
                · have t4 := decide_eq_false h3
                  have E2 := Lib.hid (show risesR (r.regs.drop (i + 1)) (aheadR r.regs (i + 1)) = risesR r.regs (-1) by
                    rw [HN.out, e, decide_eq_true (show pp.1 < p.1 by omega), decide_eq_true (show 1 ≤ p.2 by omega)]; rfl)
                  have E3 := Lib.hid (show -1 ≤ aheadR r.regs (i + 1) by rw [HN.out]; omega)
                  clear e hlt f4 HP h0
                  go_wp2
                  refine wp_region_sched [(0, true), (1, true), (2, true), (3, true), (4, true), (5, true), (6, true), (7, true), (8, true), (9, true), (10, true), (11, true), (12, true), (13, true), (14, true), (15, true), (16, true), (17, true), (18, true), (19, true), (20, true), (21, true), (22, true), (23, true), (24, true), (25, true), (26, true), (27, true), (28, true), (29, true), (30, true), (31, true), (32, true), (33, true), (34, true), (35, true)] (fun V => V = wr.drew) (by kernel_rfl) (by kernel_rfl) rfl ?_
                  refine walk_float rfl rfl (fun K hK => ?_)
                  refine gives_rvfield _ 0 rfl (by decide) w.heap.size rfl ?_
                  go_simp
                  refine hK _ ?_
                  clear hK K
                  refine walk_float rfl rfl (fun K hK => ?_)
                  refine gives_cell rgS _ rfl ⟨w.heap.size, 0, none⟩ (.slice (some ⟨LB, o, none⟩) n c) rfl box_regs (fun V hV => by rw [hV]; exact BXr.out.c0) ?_
                  go_simp
                  refine hK _ ?_
                  clear hK K
                  refine walk_float rfl rfl (fun K hK => ?_)
                  refine gives_move _ rfl ?_
                  go_simp
                  refine hK _ ?_
                  clear hK K
                  refine walk_float rfl rfl (fun K hK => ?_)
                  refine gives_reg_elem _ _ rfl LB o n c i rfl rfl HLT.out ?_
                  go_simp
                  refine hK _ ?_
                  clear hK K
                  refine walk_float rfl rfl (fun K hK => ?_)
                  refine gives_rg_who _ rfl LB (o + 2 * i) rfl ?_
                  go_simp
                  refine hK _ ?_
                  clear hK K
                  refine walk_float rfl rfl (fun K hK => ?_)
                  refine gives_cell 3 _ rfl ⟨LB, (o + 2 * i), none⟩ (.int .i64 p.1) rfl box_int (fun V hV => by rw [hV]; exact K0.out) ?_
                  go_simp
                  refine hK _ ?_
                  clear hK K
                  refine walk_float rfl rfl (fun K hK => ?_)
                  refine gives_int_less _ _ rfl p.1 0 rfl rfl false t1 ?_
                  go_simp
                  refine hK _ ?_
                  clear hK K
                  refine walk_float rfl rfl (fun K hK => ?_)
                  refine gives_move _ rfl ?_
                  go_simp
                  refine hK _ ?_
                  clear hK K
                  refine walk_float rfl rfl (fun K hK => ?_)
                  refine gives_rvfield _ 0 rfl (by decide) w.heap.size rfl ?_
                  go_simp
                  refine hK _ ?_
                  clear hK K
                  refine walk_float rfl rfl (fun K hK => ?_)
                  refine gives_cell rgS _ rfl ⟨w.heap.size, 0, none⟩ (.slice (some ⟨LB, o, none⟩) n c) rfl box_regs (fun V hV => by rw [hV]; exact BXr.out.c0) ?_
                  go_simp
                  refine hK _ ?_
                  clear hK K
                  refine walk_float rfl rfl (fun K hK => ?_)
                  refine gives_move _ rfl ?_
                  go_simp
                  refine hK _ ?_
                  clear hK K
                  refine walk_float rfl rfl (fun K hK => ?_)
                  refine gives_reg_elem _ _ rfl LB o n c i rfl rfl HLT.out ?_
                  go_simp
                  refine hK _ ?_
                  clear hK K
                  refine walk_float rfl rfl (fun K hK => ?_)
                  refine gives_rg_key _ rfl LB (o + 2 * i) rfl ?_
                  go_simp
                  refine hK _ ?_
                  clear hK K
                  refine walk_float rfl rfl (fun K hK => ?_)
                  refine gives_cell 3 _ rfl ⟨LB, ((o + 2 * i) + 1), none⟩ (.int .i64 p.2) rfl box_int (fun V hV => by rw [hV]; exact K1.out) ?_
                  go_simp
                  refine hK _ ?_
                  clear hK K
                  refine walk_float rfl rfl (fun K hK => ?_)
                  refine gives_int_less _ _ rfl p.2 1 rfl rfl false t2 ?_
                  go_simp
                  refine hK _ ?_
                  clear hK K
                  refine walk_float rfl rfl (fun K hK => ?_)
                  refine gives_pickF _ _ _ rfl rfl (.bool false) rfl ?_
                  go_simp
                  refine hK _ ?_
                  clear hK K
                  refine walk_float rfl rfl (fun K hK => ?_)
                  refine gives_move _ rfl ?_
                  go_simp
                  refine hK _ ?_
                  clear hK K
                  refine walk_float rfl rfl (fun K hK => ?_)
                  refine gives_move _ rfl ?_
                  go_simp
                  refine hK _ ?_
                  clear hK K
                  refine walk_float rfl rfl (fun K hK => ?_)
                  refine gives_int_over _ _ rfl i 0 rfl rfl true t3 ?_
                  go_simp
                  refine hK _ ?_
                  clear hK K
                  refine walk_float rfl rfl (fun K hK => ?_)
                  refine gives_move _ rfl ?_
                  go_simp
                  refine hK _ ?_
                  clear hK K
                  refine walk_float rfl rfl (fun K hK => ?_)
                  refine gives_rvfield _ 0 rfl (by decide) w.heap.size rfl ?_
                  go_simp
                  refine hK _ ?_
                  clear hK K
                  refine walk_float rfl rfl (fun K hK => ?_)
                  refine gives_cell rgS _ rfl ⟨w.heap.size, 0, none⟩ (.slice (some ⟨LB, o, none⟩) n c) rfl box_regs (fun V hV => by rw [hV]; exact BXr.out.c0) ?_
                  go_simp
                  refine hK _ ?_
                  clear hK K
                  refine walk_float rfl rfl (fun K hK => ?_)
                  refine gives_move _ rfl ?_
                  go_simp
                  refine hK _ ?_
                  clear hK K
                  refine walk_float rfl rfl (fun K hK => ?_)
                  refine gives_reg_elem _ _ rfl LB o n c i rfl rfl HLT.out ?_
                  go_simp
                  refine hK _ ?_
                  clear hK K
                  refine walk_float rfl rfl (fun K hK => ?_)
                  refine gives_rg_who _ rfl LB (o + 2 * i) rfl ?_
                  go_simp
                  refine hK _ ?_
                  clear hK K
                  refine walk_float rfl rfl (fun K hK => ?_)
                  refine gives_cell 3 _ rfl ⟨LB, (o + 2 * i), none⟩ (.int .i64 p.1) rfl box_int (fun V hV => by rw [hV]; exact K0.out) ?_
                  go_simp
                  refine hK _ ?_
                  clear hK K
                  refine walk_float rfl rfl (fun K hK => ?_)
                  refine gives_rvfield _ 0 rfl (by decide) w.heap.size rfl ?_
                  go_simp
                  refine hK _ ?_
                  clear hK K
                  refine walk_float rfl rfl (fun K hK => ?_)
                  refine gives_cell rgS _ rfl ⟨w.heap.size, 0, none⟩ (.slice (some ⟨LB, o, none⟩) n c) rfl box_regs (fun V hV => by rw [hV]; exact BXr.out.c0) ?_
                  go_simp
                  refine hK _ ?_
                  clear hK K
                  refine walk_float rfl rfl (fun K hK => ?_)
                  refine gives_move _ rfl ?_
                  go_simp
                  refine hK _ ?_
                  clear hK K
                  refine walk_float rfl rfl (fun K hK => ?_)
                  refine gives_int_less1 _ _ rfl i 1 (((i - 1 : Nat) : Int)) rfl rfl f5 ?_
                  go_simp
                  refine hK _ ?_
                  clear hK K
                  refine walk_float rfl rfl (fun K hK => ?_)
                  refine gives_reg_elem _ _ rfl LB o n c (i - 1) rfl rfl HLI.out ?_
                  go_simp
                  refine hK _ ?_
                  clear hK K
                  refine walk_float rfl rfl (fun K hK => ?_)
                  refine gives_rg_who _ rfl LB (o + 2 * (i - 1)) rfl ?_
                  go_simp
                  refine hK _ ?_
                  clear hK K
                  refine walk_float rfl rfl (fun K hK => ?_)
                  refine gives_cell 3 _ rfl ⟨LB, (o + 2 * (i - 1)), none⟩ (.int .i64 pp.1) rfl box_int (fun V hV => by rw [hV]; exact K2.out) ?_
                  go_simp
                  refine hK _ ?_
                  clear hK K
                  refine walk_float rfl rfl (fun K hK => ?_)
                  refine gives_int_most _ _ rfl p.1 pp.1 rfl rfl false t4 ?_
                  go_simp
                  refine hK _ ?_
                  clear hK K
                  refine walk_float rfl rfl (fun K hK => ?_)
                  refine gives_pickT _ _ _ rfl rfl (.bool false) rfl ?_
                  go_simp
                  refine hK _ ?_
                  clear hK K
                  refine walk_float rfl rfl (fun K hK => ?_)
                  refine gives_pickF _ _ _ rfl rfl (.bool false) rfl ?_
                  go_simp
                  refine hK _ ?_
                  clear hK K
                  refine walk_nil ?_
                  go_wp2
                  go_roundw
                  case rel => exact ⟨i + 1, HLT.out, by go_num, E2.out, E3.out, BXr.out, BBr.out.drew⟩
                  case measure => have := HLT.out; simp [intOf]; omega
        · have f1 : ¬ (i : Int) < (n : Int) := by omega
          obtain rfl : i = n := by omega
          rw [HE.out] at HKE
          have HB3 := Lib.hid (show gd = fm by rw [HB2.out, ← HKE.out]; rfl)
          have HWB := Lib.hid (BB1.out.trans (BBr.out.mono BB1.out.size))
          have c1 := BXw.out.c1
          have c2 := BXw.out.c2
          have c3 := BXw.out.c3
          have c4 := BXw.out.c4
          clear hlt hi hk HB2
          have HKW := Lib.hid (HK.out wr HWB.out)
          clear HK
          cases h1 : (r.h == -1) with
          | true =>
            have HF := Lib.hid (show gd = (r.t == 0) by rw [HB3.out, HFM.out, h1]; rfl)
            clear HFM HB3
            go_wp2
            go_ret
            exact ⟨by rw [HF.out]; rfl, HWB.out⟩
          | false =>
            have HF0 := Lib.hid (show gd = (decide (0 < keyR r.regs r.h) && decide (1 ≤ r.t) && decide (r.t ≤ 6)) by rw [HB3.out, HFM.out, h1]; rfl)
            clear HFM HB3
            by_cases h2 : 0 < keyR r.regs r.h
            · have t2 := decide_eq_true h2
              by_cases h3 : 1 ≤ r.t
              · have t3 := decide_eq_true h3
                have HF := Lib.hid (show gd = decide (r.t ≤ 6) by rw [HF0.out, t2, t3]; rfl)
                clear HF0
                go_wp2_with (first
                  | (go_at_call 16
                     refine HKW.out.mono ?_; rintro e w2 ⟨rfl, hb2⟩
                     have B2 := Lib.hid (HWB.out.trans (hb2.mono HWB.out.size))
                     have d2 := (hb2.cell (p := ⟨w.heap.size, 2, none⟩) BXw.out.lt).trans c2
                     clear hb2))
                go_ret
                exact ⟨by rw [HF.out]; rfl, B2.out⟩
              · have t3 := decide_eq_false h3
                have HF := Lib.hid (show gd = false by rw [HF0.out, t2, t3]; rfl)
                clear HF0
                go_wp2_with (first
                  | (go_at_call 16
                     refine HKW.out.mono ?_; rintro e w2 ⟨rfl, hb2⟩
                     have B2 := Lib.hid (HWB.out.trans (hb2.mono HWB.out.size))
                     have d2 := (hb2.cell (p := ⟨w.heap.size, 2, none⟩) BXw.out.lt).trans c2
                     clear hb2))
                go_ret
                exact ⟨by rw [HF.out]; rfl, B2.out⟩
            · have t2 := decide_eq_false h2
              have HF := Lib.hid (show gd = false by rw [HF0.out, t2]; rfl)
              clear HF0
              go_wp2_with (first
                | (go_at_call 16
                   refine HKW.out.mono ?_; rintro e w2 ⟨rfl, hb2⟩
                   have B2 := Lib.hid (HWB.out.trans (hb2.mono HWB.out.size))
                   have d2 := (hb2.cell (p := ⟨w.heap.size, 2, none⟩) BXw.out.lt).trans c2
                   clear hb2))
              go_ret
              exact ⟨by rw [HF.out]; rfl, B2.out⟩
    · have g2 : decide (r.g < 0) = true := decide_eq_true (by omega)
      have HF := Lib.hid (show gd = false by rw [HB.out, decide_eq_false hg, Bool.and_false]; rfl)
      clear HB
      go_wp2
      go_ret
      exact ⟨by rw [HF.out]; rfl, BB.out⟩
  · have g1 : decide ((4 : Int) < (n : Int)) = true := decide_eq_true (by omega)
    have HF := Lib.hid (show gd = false by rw [HB.out, decide_eq_false h4]; rfl)
    clear HB
    go_wp2
    go_ret
    exact ⟨by rw [HF.out]; rfl, BB.out⟩
end Go.Proofs.Ytfnkdmdcjliebaa
