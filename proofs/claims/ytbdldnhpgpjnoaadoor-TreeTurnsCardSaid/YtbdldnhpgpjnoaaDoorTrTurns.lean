/- What citadellaw11's turns says of any tree, block, leaf and root: it is true. Condition: the package's variable holds the constants. -/
import Derived.Test.YtbdldnhpgpjnoaaDoorTrSt
import Derived.Test.YtbdldnhpgpjnoaaDoorTrOpen
namespace Go.Proofs.YtbdldnhpgpjnoaaDoor
open Go.ChangeShapes Go.WideShapes Go.ChangeAt Go.RowKit
set_option linter.unusedVariables false
theorem gives_bool_eql {o : Oper} {a : Act} {C : World → Prop} {K : Act → Prop} (x y : Operand) (ho : o.op = .binOp .eql 4 x y 4) (b c : Bool) (hx : a.eval x = .bool b) (hy : a.eval y = .bool c) (v : Bool) (hv : (b == c) = v) (hk : K (a.put o.dst (.bool v))) : ∃ v, Gives Tryd.prog C o a v ∧ K (a.put o.dst v) :=
  ⟨.bool v, fun w _ => by
    subst hv
    unfold execOp
    simp only [ho, hx, hy]
    simp [go_sem], hk⟩
theorem gives_no_err {o : Oper} {a : Act} {C : World → Prop} {K : Act → Prop} (x : Operand) (ho : o.op = .binOp .eql 36 x (.const .nilIface) 36) (hx : a.eval x = .nilIface) (hk : K (a.put o.dst (.bool true))) : ∃ v, Gives Tryd.prog C o a v ∧ K (a.put o.dst v) :=
  ⟨.bool true, fun w _ => by
    unfold execOp
    simp only [ho, hx]
    simp [go_sem, eqGuard], hk⟩
theorem same_dec {x y : List Int} (hx : IsSum x) (hy : IsSum y) : sameSum x y = decide (y = x) := by
  by_cases h : y = x
  · rw [decide_eq_true h]; exact (sameSum_iff hx hy).2 h.symm
  · rw [decide_eq_false h]; exact same_not hx hy fun e => h e.symm
theorem updT_root {n : Nat} {g : Nat → Nat} {l : List (List Int)} {b : Nat} {leaf : List Int} (hb : b < 16) : tagAt (updT n g l b leaf 5) 1 = climbF (nodeN n g) (tagAt l) b leaf 4 := by
  have h := updF_at (N := nodeN n g) (T := tagAt l) (leaf := leaf) hb (k := 5) (j := 4) (by omega) (by omega)
  rw [pn_one hb] at h
  rw [updT_at (by decide)]; exact h
attribute [local irreducible] nought sumVal sumC sumsL treeL updT tagAt climbF nodeN sameSum
set_option maxRecDepth 100000 in
set_option maxHeartbeats 8000000 in
theorem turns_any (q0 : Option Addr) (n0 c0 : Nat) (a0 : Nat → Nat) (q1 : Option Addr) (n1 c1 : Nat) (a1 : Nat → Nat) (z : Int) (leaf : List Int) (right : Bool) (hz : (Lit.int .i64 z).wf = true) (hleaf : IsSum leaf) (w : World) (hT : TabAt w) (y0 : BytesIn w q0 n0 c0 a0) (y1 : BytesIn w q1 n1 c1 a1) :
    Calls Tryd.prog 22 #[.slice q0 n0 c0, .slice q1 n1 c1, .int .i64 z, sumVal leaf, .bool right] w fun e w' => e = .returned (.bool true) ∧ Below w.heap.size w w' := by
  by_cases hn : n0 ≤ 1000 ∧ n1 ≤ 200
  · obtain ⟨hn0, hn1⟩ := hn
    have d1 : ¬ ((1000 : Int) < (n0 : Int)) := by omega
    have d2 : ¬ ((200 : Int) < (n1 : Int)) := by omega
    have d3 : decide (1000 < n0) = false := decide_eq_false (by omega)
    have d4 : decide (200 < n1) = false := decide_eq_false (by omega)
    have SU := Lib.hid (fun (V : World) (h : Below w.heap.size w V) => sums_any q1 n1 c1 a1 y1.lt (by omega) V (y1.below h).at')
    have HLL := Lib.hid (sumsL_len n1 a1)
    have HLS := Lib.hid (sumsL_sum y1.lt)
    have HN1 := Lib.hid hn1
    have HN0 := Lib.hid (show n0 ≤ 80000 by omega)
    have HLF := Lib.hid hleaf
    have HK := Lib.hid (fun (V : World) (h : Below w.heap.size w V) => (⟨y0.lt, y0.cap, (y0.below h).at', hT.on h⟩ : KeyAt V q0 n0 c0 a0))
    have B0 := Lib.hid (fun (V : World) (h : Below w.heap.size w V) (B : Nat) (hB : SumsB V B (List.replicate 16 nought)) => Build_any q0 n0 c0 a0 HN0.out (some ⟨B, 0, none⟩) 16 (List.replicate 16 nought) (by simp) (noughts_sum 16) V (HK.out V h) hB.at)
    clear hT y0 y1 hn0 hn1 hleaf
    generalize hS : w.heap.size = S at *
    have HS := Lib.hid hS
    clear hS
    generalize hL : sumsL n1 a1 = L at *
    clear hL
    by_cases h32 : n1 = 32
    · subst h32
      by_cases hb : 0 ≤ z ∧ z < 16
      · obtain ⟨b, rfl⟩ : ∃ b : Nat, z = b := ⟨z.toNat, by omega⟩
        have hb16 : b < 16 := by omega
        have k1 : ¬ ((b : Int) < 0) := by omega
        have k2 : ¬ ((15 : Int) < (b : Int)) := by omega
        have k3 : decide (15 < b) = false := decide_eq_false (by omega)
        have UA := Lib.hid (fun (V : World) (h : Below S w V) pp c hr => Update_any q0 n0 c0 a0 HN0.out pp c L HLL.out HLS.out b hb16 leaf HLF.out V (HK.out V h) hr)
        have RA := Lib.hid (fun (V : World) (h : Below S w V) pp c hr => refUpdate_any q0 n0 c0 a0 HN0.out pp c L HLL.out HLS.out b hb16 leaf HLF.out V (HK.out V h) hr)
        have VA := Lib.hid (fun (V : World) (h : Below S w V) pp c hr (root : List Int) (hroot : IsSum root) => Verify_any q0 n0 c0 a0 HN0.out pp c L HLL.out HLS.out root hroot b hb16 leaf HLF.out V (HK.out V h) hr)
        have UL := Lib.hid (updT_len n0 a0 L b leaf 5)
        have US := Lib.hid (updT_sum (n := n0) (g := a0) (b := b) HLL.out HLS.out HLF.out 5)
        have UR := Lib.hid (updT_root (n := n0) (g := a0) (l := L) (leaf := leaf) hb16)
        have L1S := Lib.hid (tagAt_sum HLS.out (i := 1) (by rw [HLL.out]; decide))
        have U1S := Lib.hid (tagAt_sum US.out (i := 1) (by rw [UL.out]; decide))
        clear hb hz hb16
        generalize updT n0 a0 L b leaf 5 = U at *
        cases right with
        | true =>
          go_enter Tryd.func22, Tryd.ntmps22
          go_wp2_with (first
            | (refine wpList_sum_box rfl _ rfl leaf rfl S HS.out ?_; intro w1 hL hb hs
               have X1 := Lib.hid hL; have B1 := Lib.hid hb; have Z1 := Lib.hid hs; clear hL hb hs)
            | (refine wpList_make_sums rfl _ _ rfl 16 rfl rfl (by decide) (by decide) ?_; intro w2 hm hb
               have M2 := Lib.hid hm; have X2 := Lib.hid (X1.out.below hb); have B2 := Lib.hid (B1.out.trans (hb.mono (HS.out ▸ B1.out.size))); clear hm hb X1 B1)
            | (go_at_call 15; refine (B0.out w2 B2.out _ M2.out).mono ?_; rintro e w3 ⟨rfl, -, hb⟩
               have X3 := Lib.hid (X2.out.below hb); have B3 := Lib.hid (B2.out.trans (hb.mono (HS.out ▸ B2.out.size))); clear hb X2 B2 M2 B0)
            | (go_at_call 18; refine (SU.out w3 B3.out).mono ?_; rintro e w4 ⟨Bl, cl, rfl, ho, hb⟩
               have R4 := Lib.hid (sums_rows ho); have X4 := Lib.hid (X3.out.below hb); have B4 := Lib.hid (B3.out.trans (hb.mono (HS.out ▸ B3.out.size))); clear ho hb SU X3 B3)
            | (refine wpList_list0 elemSum rfl rfl ?_
               have O5 := Lib.hid (OwnL.empty 27 32 sumC w4 w4.heap.size (Nat.le_refl _))
               have B5 := Lib.hid (show Below w4.heap.size w4 (w4.alloc (.cells #[] 27)) from (Below.refl _ _).alloc (Nat.le_refl _) _)
               have S5 := Lib.hid (show (w4.alloc (.cells #[] 27)).heap.size = w4.heap.size + 1 from World.size_alloc _ _)
               generalize w4.alloc (.cells #[] 27) = w5 at *)
            | (refine wpList_grow elemSum rfl _ _ rfl w4.heap.size w5.heap.size _ [] L (some ⟨Bl, 0, none⟩) 32 cl rfl rfl HLL.out.symm (S5.out ▸ O5.out) (R4.out.below B5.out) (by rw [HLL.out]; have := HN1.out; simp only [List.length_nil]; omega) (by decide) (by rw [S5.out]; omega) ?_
               intro v6 w6 ho hb
               rw [List.nil_append] at ho
               obtain ⟨pc, cc, rfl, -, -, hr, -⟩ := ho.rows sumC_len
               rw [HLL.out]
               have hb6 : Below w4.heap.size w4 w6 := B5.out.trans hb
               have S6 := Lib.hid (show LS w (some ⟨Bl, 0, none⟩) pc L w6 from ⟨HS.out.symm ▸ B4.out.trans (hb6.mono (HS.out ▸ B4.out.size)), R4.out.below hb6, hr⟩)
               have X6 := Lib.hid (X4.out.below hb6)
               clear ho hb hr hb6 R4 B4 O5 B5 S5 X4)
            | (refine wpList_sum_load rfl _ rfl S 0 rfl leaf X6.out.one ?_)
            | (go_at_call 24; refine (UA.out w6 (HS.out ▸ S6.out.b) _ _ S6.out.c).mono ?_; rintro e w7 ⟨Bt, ct, rfl, -, ht, hb⟩
               have S7 := Lib.hid (S6.out.on hb); have X7 := Lib.hid (X6.out.below hb); have T7 := Lib.hid ht; clear ht hb S6 X6 UA)
            | (go_at_call 19; refine (same_any _ _ _ _ _ L HLL.out (by decide) w7 S7.out.c S7.out.l).mono ?_; rintro e w8 ⟨rfl, hb⟩
               have S8 := Lib.hid (S7.out.on hb); have X8 := Lib.hid (X7.out.below hb); have T8 := Lib.hid (T7.out.below hb); clear hb S7 X7 T7)
            | (refine wpList_sum_load rfl _ rfl S 0 rfl leaf X8.out.one ?_)
            | (go_at_call 34; refine (RA.out w8 (HS.out ▸ S8.out.b) _ _ S8.out.l).mono ?_; rintro e w9 ⟨Bw, cw, rfl, hwt, hb⟩
               have S9 := Lib.hid (S8.out.on hb); have X9 := Lib.hid (X8.out.below hb); have T9 := Lib.hid (T8.out.below hb); have W9 := Lib.hid hwt
               obtain ⟨_, o1, e1, -, hr1⟩ := rows_tag S9.out.l (k := 1) (by rw [HLL.out]; decide)
               cases e1
               have RL9 := Lib.hid hr1
               clear hwt hb hr1 S8 X8 T8 RA)
            | (refine wpList_sum_elem0 rfl _ _ rfl Bl 32 cl 1 rfl rfl (by decide) ?_)
            | (refine wpList_sum_load rfl _ rfl Bl 32 rfl (tagAt L 1) (by have := RL9.out; rwa [Nat.zero_add, Nat.mul_one] at this) ?_)
            | (refine wpList_sum_alloc rfl rfl w9.heap.size rfl ?_; intro w10 hD hb hs
               have S10 := Lib.hid (S9.out.on hb); have X10 := Lib.hid (X9.out.below hb); have T10 := Lib.hid (T9.out.below hb); have W10 := Lib.hid (W9.out.below hb); have D10 := Lib.hid hD
               have N1 := Lib.hid (show Bl ≠ w9.heap.size ∧ Bt ≠ w9.heap.size ∧ Bw ≠ w9.heap.size ∧ S ≠ w9.heap.size from ⟨by obtain ⟨_, _, e, hh, _⟩ := rows_tag S9.out.l (k := 1) (by rw [HLL.out]; decide); cases e; omega, by have := T9.out.lt; omega, by have := W9.out.lt; omega, by have := X9.out.lt; omega⟩)
               have Q10 := Lib.hid (show w10.heap.size = w9.heap.size + 1 from hs)
               have B910 := Lib.hid hb
               clear hD hb hs X9 T9 W9)
            | (refine wpList_sum_store rfl _ _ rfl rfl w9.heap.size 0 rfl (tagAt L 1) rfl [nought] D10.out (by decide) ?_; intro w11 hD hb hs
               have hbl : Below w9.heap.size w10 w11 := hb.below (Nat.le_refl _) (by rw [Q10.out]; omega)
               have hb9 : LS w (some ⟨Bl, 0, none⟩) pc L w11 := S9.out.on ((B910.out).trans hbl)
               have S11 := Lib.hid hb9; have X11 := Lib.hid (X10.out.but hb N1.out.2.2.2); have T11 := Lib.hid (T10.out.but hb N1.out.2.1); have W11 := Lib.hid (W10.out.but hb N1.out.2.2.1); have D11 := Lib.hid hD; have Q11 := Lib.hid (show w11.heap.size = w9.heap.size + 1 from hs.trans Q10.out); have B911 := Lib.hid (B910.out.trans hbl)
               clear hD hb hs hbl hb9 X10 T10 W10 D10 S10)
            | (refine wpList_sum_elem0 rfl _ _ rfl Bw 32 cw 1 rfl rfl (by decide) ?_)
            | (refine wpList_sum_load rfl _ rfl Bw 32 rfl (tagAt U 1) (W11.out.tag (k := 1) (by rw [UL.out]; decide)) ?_)
            | (refine wpList_sum_store rfl _ _ rfl rfl w9.heap.size 0 rfl (tagAt U 1) rfl [tagAt L 1] D11.out (by simp) ?_; intro w12 hD hb hs
               have hbl : Below w9.heap.size w11 w12 := hb.below (Nat.le_refl _) (by rw [Q11.out]; omega)
               have S12 := Lib.hid (S9.out.on (B911.out.trans hbl)); have X12 := Lib.hid (X11.out.but hb N1.out.2.2.2); have T12 := Lib.hid (T11.out.but hb N1.out.2.1); have W12 := Lib.hid (W11.out.but hb N1.out.2.2.1); have D12 := Lib.hid hD
               clear hD hb hs hbl X11 T11 W11 D11 S11))
          generalize w9.heap.size = Rb at *
          obtain ⟨v, hv⟩ : ∃ v : Bool, decide (climbF (nodeN n0 a0) (tagAt L) b leaf 4 = tagAt U 1) = v := ⟨_, rfl⟩
          have HV := Lib.hid hv
          have HV2 := Lib.hid (show sameSum (tagAt U 1) (tagAt U 1) = v by rw [same_dec U1S.out U1S.out, ← hv, ← UR.out])
          clear hv
          have dr : Below w12.heap.size w12 w12.drew := (Below.refl _ _).drew
          have S13 := Lib.hid (S12.out.on dr); have X13 := Lib.hid (X12.out.below dr); have T13 := Lib.hid (T12.out.below dr); have W13 := Lib.hid (W12.out.below dr); have D13 := Lib.hid (D12.out.below dr)
          clear dr S12 X12 T12 W12 D12
          refine wp_region_sched [(0, true), (1, true), (2, true), (3, true), (4, true), (5, false), (6, true), (7, true), (8, true), (9, true), (10, true), (11, true), (12, true), (14, true), (15, true), (16, true), (17, true), (18, true), (13, false), (19, true), (20, true), (21, true)] (fun W => SumsB W S [leaf] ∧ SumsB W Rb [tagAt U 1] ∧ SumsB W Bw U) (by kernel_rfl) (by kernel_rfl) (⟨X13.out, D13.out, W13.out⟩) ?_
          refine walk_float rfl rfl (fun K' hK => ?_)
          refine gives_move _ rfl ?_
          go_simp
          refine hK _ ?_
          clear hK K'
          refine walk_float rfl rfl (fun K' hK => ?_)
          refine gives_no_err _ rfl rfl ?_
          go_simp
          refine hK _ ?_
          clear hK K'
          refine walk_float rfl rfl (fun K' hK => ?_)
          refine gives_move _ rfl ?_
          go_simp
          refine hK _ ?_
          clear hK K'
          refine walk_float rfl rfl (fun K' hK => ?_)
          refine gives_move _ rfl ?_
          go_simp
          refine hK _ ?_
          clear hK K'
          refine walk_float rfl rfl (fun K' hK => ?_)
          refine gives_move _ rfl ?_
          go_simp
          refine hK _ ?_
          clear hK K'
          refine walk_done rfl rfl (fun K' hK => ?_)
          refine done_two _ _ _ _ rfl 19 rfl (.slice (some ⟨Bt, 0, none⟩) 32 ct) (.slice (some ⟨Bw, 0, none⟩) 32 cw) rfl rfl (fun _ w => by simp [go_sem]) ((same_any _ _ _ _ 32 U UL.out (by decide) w12.drew T13.out.at W13.out.at).mono ?_)
          rintro e w14 ⟨rfl, hb⟩
          have S14 := Lib.hid (S13.out.on hb); have X14 := Lib.hid (X13.out.below hb); have W14 := Lib.hid (W13.out.below hb); have D14 := Lib.hid (D13.out.below hb); clear hb S13 X13 T13 W13 D13
          refine ⟨_, rfl, ⟨X14.out, D14.out, W14.out⟩, ?_⟩
          go_simp
          refine hK _ _ ?_
          clear hK K'
          refine walk_float rfl rfl (fun K' hK => ?_)
          refine gives_pickT _ _ _ rfl rfl (.bool true) rfl ?_
          go_simp
          refine hK _ ?_
          clear hK K'
          refine walk_float rfl rfl (fun K' hK => ?_)
          refine gives_move _ rfl ?_
          go_simp
          refine hK _ ?_
          clear hK K'
          refine walk_float rfl rfl (fun K' hK => ?_)
          refine gives_move _ rfl ?_
          go_simp
          refine hK _ ?_
          clear hK K'
          refine walk_float rfl rfl (fun K' hK => ?_)
          refine gives_move _ rfl ?_
          go_simp
          refine hK _ ?_
          clear hK K'
          refine walk_float rfl rfl (fun K' hK => ?_)
          refine gives_sum_mid _ rfl Rb 0 rfl (tagAt U 1) (fun W h => h.2.1.one) ?_
          go_simp
          refine hK _ ?_
          clear hK K'
          refine walk_float rfl rfl (fun K' hK => ?_)
          refine gives_move _ rfl ?_
          go_simp
          refine hK _ ?_
          clear hK K'
          refine walk_float rfl rfl (fun K' hK => ?_)
          refine gives_sum_mid _ rfl S 0 rfl leaf (fun W h => h.1.one) ?_
          go_simp
          refine hK _ ?_
          clear hK K'
          refine walk_float rfl rfl (fun K' hK => ?_)
          refine gives_sum_mid _ rfl Rb 0 rfl (tagAt U 1) (fun W h => h.2.1.one) ?_
          go_simp
          refine hK _ ?_
          clear hK K'
          refine walk_float rfl rfl (fun K' hK => ?_)
          refine gives_move _ rfl ?_
          go_simp
          refine hK _ ?_
          clear hK K'
          refine walk_float rfl rfl (fun K' hK => ?_)
          refine gives_sum_elem _ _ rfl Bw 0 32 cw 1 rfl rfl (by decide) ?_
          go_simp
          refine hK _ ?_
          clear hK K'
          refine walk_float rfl rfl (fun K' hK => ?_)
          refine gives_sum_mid _ rfl Bw 32 rfl (tagAt U 1) (fun W h => h.2.2.tag (k := 1) (by rw [UL.out]; decide)) ?_
          go_simp
          refine hK _ ?_
          clear hK K'
          refine walk_float rfl rfl (fun K' hK => ?_)
          refine gives_sum_eql2 _ _ rfl (tagAt U 1) (tagAt U 1) rfl rfl v HV2.out ?_
          go_simp
          refine hK _ ?_
          clear hK K'
          refine walk_done rfl rfl (fun K' hK => ?_)
          refine done_five _ _ _ _ _ _ _ rfl 23 rfl (.slice q0 n0 c0) (.slice pc 32 cc) (sumVal (tagAt U 1)) (.int .i64 b) (sumVal leaf) rfl rfl rfl rfl rfl (fun _ w => by simp [go_sem]) ((VA.out w14 (HS.out ▸ S14.out.b) _ _ S14.out.c (tagAt U 1) U1S.out).mono ?_)
          rintro e w15 ⟨rfl, hb⟩
          rw [HV.out]
          have S15 := Lib.hid (S14.out.on hb); have X15 := Lib.hid (X14.out.below hb); have W15 := Lib.hid (W14.out.below hb); have D15 := Lib.hid (D14.out.below hb); clear hb S14 X14 W14 D14
          refine ⟨_, rfl, ⟨X15.out, D15.out, W15.out⟩, ?_⟩
          go_simp
          refine hK _ _ ?_
          clear hK K'
          refine walk_float rfl rfl (fun K' hK => ?_)
          refine gives_bool_eql _ _ rfl v v rfl rfl true (by simp) ?_
          go_simp
          refine hK _ ?_
          clear hK K'
          refine walk_float rfl rfl (fun K' hK => ?_)
          refine gives_pickT _ _ _ rfl rfl (.bool true) rfl ?_
          go_simp
          refine hK _ ?_
          clear hK K'
          refine walk_float rfl rfl (fun K' hK => ?_)
          refine gives_assign _ rfl ?_
          go_simp
          refine hK _ ?_
          clear hK K'
          refine walk_nil ?_
          go_wp2
          go_ret
          exact ⟨rfl, HS.out ▸ S15.out.b⟩
        | false =>
          go_enter Tryd.func22, Tryd.ntmps22
          go_wp2_with (first
            | (refine wpList_sum_box rfl _ rfl leaf rfl S HS.out ?_; intro w1 hL hb hs
               have X1 := Lib.hid hL; have B1 := Lib.hid hb; have Z1 := Lib.hid hs; clear hL hb hs)
            | (refine wpList_make_sums rfl _ _ rfl 16 rfl rfl (by decide) (by decide) ?_; intro w2 hm hb
               have M2 := Lib.hid hm; have X2 := Lib.hid (X1.out.below hb); have B2 := Lib.hid (B1.out.trans (hb.mono (HS.out ▸ B1.out.size))); clear hm hb X1 B1)
            | (go_at_call 15; refine (B0.out w2 B2.out _ M2.out).mono ?_; rintro e w3 ⟨rfl, -, hb⟩
               have X3 := Lib.hid (X2.out.below hb); have B3 := Lib.hid (B2.out.trans (hb.mono (HS.out ▸ B2.out.size))); clear hb X2 B2 M2 B0)
            | (go_at_call 18; refine (SU.out w3 B3.out).mono ?_; rintro e w4 ⟨Bl, cl, rfl, ho, hb⟩
               have R4 := Lib.hid (sums_rows ho); have X4 := Lib.hid (X3.out.below hb); have B4 := Lib.hid (B3.out.trans (hb.mono (HS.out ▸ B3.out.size))); clear ho hb SU X3 B3)
            | (refine wpList_list0 elemSum rfl rfl ?_
               have O5 := Lib.hid (OwnL.empty 27 32 sumC w4 w4.heap.size (Nat.le_refl _))
               have B5 := Lib.hid (show Below w4.heap.size w4 (w4.alloc (.cells #[] 27)) from (Below.refl _ _).alloc (Nat.le_refl _) _)
               have S5 := Lib.hid (show (w4.alloc (.cells #[] 27)).heap.size = w4.heap.size + 1 from World.size_alloc _ _)
               generalize w4.alloc (.cells #[] 27) = w5 at *)
            | (refine wpList_grow elemSum rfl _ _ rfl w4.heap.size w5.heap.size _ [] L (some ⟨Bl, 0, none⟩) 32 cl rfl rfl HLL.out.symm (S5.out ▸ O5.out) (R4.out.below B5.out) (by rw [HLL.out]; have := HN1.out; simp only [List.length_nil]; omega) (by decide) (by rw [S5.out]; omega) ?_
               intro v6 w6 ho hb
               rw [List.nil_append] at ho
               obtain ⟨pc, cc, rfl, -, -, hr, -⟩ := ho.rows sumC_len
               rw [HLL.out]
               have hb6 : Below w4.heap.size w4 w6 := B5.out.trans hb
               have S6 := Lib.hid (show LS w (some ⟨Bl, 0, none⟩) pc L w6 from ⟨HS.out.symm ▸ B4.out.trans (hb6.mono (HS.out ▸ B4.out.size)), R4.out.below hb6, hr⟩)
               have X6 := Lib.hid (X4.out.below hb6)
               clear ho hb hr hb6 R4 B4 O5 B5 S5 X4)
            | (refine wpList_sum_load rfl _ rfl S 0 rfl leaf X6.out.one ?_)
            | (go_at_call 24; refine (UA.out w6 (HS.out ▸ S6.out.b) _ _ S6.out.c).mono ?_; rintro e w7 ⟨Bt, ct, rfl, -, ht, hb⟩
               have S7 := Lib.hid (S6.out.on hb); have X7 := Lib.hid (X6.out.below hb); have T7 := Lib.hid ht; clear ht hb S6 X6 UA)
            | (go_at_call 19; refine (same_any _ _ _ _ _ L HLL.out (by decide) w7 S7.out.c S7.out.l).mono ?_; rintro e w8 ⟨rfl, hb⟩
               have S8 := Lib.hid (S7.out.on hb); have X8 := Lib.hid (X7.out.below hb); have T8 := Lib.hid (T7.out.below hb); clear hb S7 X7 T7)
            | (refine wpList_sum_load rfl _ rfl S 0 rfl leaf X8.out.one ?_)
            | (go_at_call 34; refine (RA.out w8 (HS.out ▸ S8.out.b) _ _ S8.out.l).mono ?_; rintro e w9 ⟨Bw, cw, rfl, hwt, hb⟩
               have S9 := Lib.hid (S8.out.on hb); have X9 := Lib.hid (X8.out.below hb); have T9 := Lib.hid (T8.out.below hb); have W9 := Lib.hid hwt
               obtain ⟨_, o1, e1, -, hr1⟩ := rows_tag S9.out.l (k := 1) (by rw [HLL.out]; decide)
               cases e1
               have RL9 := Lib.hid hr1
               clear hwt hb hr1 S8 X8 T8 RA)
            | (refine wpList_sum_elem0 rfl _ _ rfl Bl 32 cl 1 rfl rfl (by decide) ?_)
            | (refine wpList_sum_load rfl _ rfl Bl 32 rfl (tagAt L 1) (by have := RL9.out; rwa [Nat.zero_add, Nat.mul_one] at this) ?_)
            | (refine wpList_sum_alloc rfl rfl w9.heap.size rfl ?_; intro w10 hD hb hs
               have S10 := Lib.hid (S9.out.on hb); have X10 := Lib.hid (X9.out.below hb); have T10 := Lib.hid (T9.out.below hb); have W10 := Lib.hid (W9.out.below hb); have D10 := Lib.hid hD
               have N1 := Lib.hid (show Bl ≠ w9.heap.size ∧ Bt ≠ w9.heap.size ∧ Bw ≠ w9.heap.size ∧ S ≠ w9.heap.size from ⟨by obtain ⟨_, _, e, hh, _⟩ := rows_tag S9.out.l (k := 1) (by rw [HLL.out]; decide); cases e; omega, by have := T9.out.lt; omega, by have := W9.out.lt; omega, by have := X9.out.lt; omega⟩)
               have Q10 := Lib.hid (show w10.heap.size = w9.heap.size + 1 from hs)
               have B910 := Lib.hid hb
               clear hD hb hs X9 T9 W9)
            | (refine wpList_sum_store rfl _ _ rfl rfl w9.heap.size 0 rfl (tagAt L 1) rfl [nought] D10.out (by decide) ?_; intro w11 hD hb hs
               have hbl : Below w9.heap.size w10 w11 := hb.below (Nat.le_refl _) (by rw [Q10.out]; omega)
               have hb9 : LS w (some ⟨Bl, 0, none⟩) pc L w11 := S9.out.on ((B910.out).trans hbl)
               have S11 := Lib.hid hb9; have X11 := Lib.hid (X10.out.but hb N1.out.2.2.2); have T11 := Lib.hid (T10.out.but hb N1.out.2.1); have W11 := Lib.hid (W10.out.but hb N1.out.2.2.1); have D11 := Lib.hid hD; have Q11 := Lib.hid (show w11.heap.size = w9.heap.size + 1 from hs.trans Q10.out); have B911 := Lib.hid (B910.out.trans hbl)
               clear hD hb hs hbl hb9 X10 T10 W10 D10 S10)
            | fail)
          generalize w9.heap.size = Rb at *
          obtain ⟨v, hv⟩ : ∃ v : Bool, decide (climbF (nodeN n0 a0) (tagAt L) b leaf 4 = tagAt L 1) = v := ⟨_, rfl⟩
          have HV := Lib.hid hv
          have HV2 := Lib.hid (show sameSum (tagAt L 1) (tagAt U 1) = v by rw [same_dec L1S.out U1S.out, ← hv, ← UR.out])
          clear hv
          have dr : Below w11.heap.size w11 w11.drew := (Below.refl _ _).drew
          have S13 := Lib.hid (S11.out.on dr); have X13 := Lib.hid (X11.out.below dr); have T13 := Lib.hid (T11.out.below dr); have W13 := Lib.hid (W11.out.below dr); have D13 := Lib.hid (D11.out.below dr)
          clear dr S11 X11 T11 W11 D11
          refine wp_region_sched [(0, true), (1, true), (2, true), (3, true), (4, true), (5, false), (6, true), (7, true), (8, true), (9, true), (10, true), (11, true), (12, true), (14, true), (15, true), (16, true), (17, true), (18, true), (13, false), (19, true), (20, true), (21, true)] (fun W => SumsB W S [leaf] ∧ SumsB W Rb [tagAt L 1] ∧ SumsB W Bw U) (by kernel_rfl) (by kernel_rfl) (⟨X13.out, D13.out, W13.out⟩) ?_
          refine walk_float rfl rfl (fun K' hK => ?_)
          refine gives_move _ rfl ?_
          go_simp
          refine hK _ ?_
          clear hK K'
          refine walk_float rfl rfl (fun K' hK => ?_)
          refine gives_no_err _ rfl rfl ?_
          go_simp
          refine hK _ ?_
          clear hK K'
          refine walk_float rfl rfl (fun K' hK => ?_)
          refine gives_move _ rfl ?_
          go_simp
          refine hK _ ?_
          clear hK K'
          refine walk_float rfl rfl (fun K' hK => ?_)
          refine gives_move _ rfl ?_
          go_simp
          refine hK _ ?_
          clear hK K'
          refine walk_float rfl rfl (fun K' hK => ?_)
          refine gives_move _ rfl ?_
          go_simp
          refine hK _ ?_
          clear hK K'
          refine walk_done rfl rfl (fun K' hK => ?_)
          refine done_two _ _ _ _ rfl 19 rfl (.slice (some ⟨Bt, 0, none⟩) 32 ct) (.slice (some ⟨Bw, 0, none⟩) 32 cw) rfl rfl (fun _ w => by simp [go_sem]) ((same_any _ _ _ _ 32 U UL.out (by decide) w11.drew T13.out.at W13.out.at).mono ?_)
          rintro e w14 ⟨rfl, hb⟩
          have S14 := Lib.hid (S13.out.on hb); have X14 := Lib.hid (X13.out.below hb); have W14 := Lib.hid (W13.out.below hb); have D14 := Lib.hid (D13.out.below hb); clear hb S13 X13 T13 W13 D13
          refine ⟨_, rfl, ⟨X14.out, D14.out, W14.out⟩, ?_⟩
          go_simp
          refine hK _ _ ?_
          clear hK K'
          refine walk_float rfl rfl (fun K' hK => ?_)
          refine gives_pickT _ _ _ rfl rfl (.bool true) rfl ?_
          go_simp
          refine hK _ ?_
          clear hK K'
          refine walk_float rfl rfl (fun K' hK => ?_)
          refine gives_move _ rfl ?_
          go_simp
          refine hK _ ?_
          clear hK K'
          refine walk_float rfl rfl (fun K' hK => ?_)
          refine gives_move _ rfl ?_
          go_simp
          refine hK _ ?_
          clear hK K'
          refine walk_float rfl rfl (fun K' hK => ?_)
          refine gives_move _ rfl ?_
          go_simp
          refine hK _ ?_
          clear hK K'
          refine walk_float rfl rfl (fun K' hK => ?_)
          refine gives_sum_mid _ rfl Rb 0 rfl (tagAt L 1) (fun W h => h.2.1.one) ?_
          go_simp
          refine hK _ ?_
          clear hK K'
          refine walk_float rfl rfl (fun K' hK => ?_)
          refine gives_move _ rfl ?_
          go_simp
          refine hK _ ?_
          clear hK K'
          refine walk_float rfl rfl (fun K' hK => ?_)
          refine gives_sum_mid _ rfl S 0 rfl leaf (fun W h => h.1.one) ?_
          go_simp
          refine hK _ ?_
          clear hK K'
          refine walk_float rfl rfl (fun K' hK => ?_)
          refine gives_sum_mid _ rfl Rb 0 rfl (tagAt L 1) (fun W h => h.2.1.one) ?_
          go_simp
          refine hK _ ?_
          clear hK K'
          refine walk_float rfl rfl (fun K' hK => ?_)
          refine gives_move _ rfl ?_
          go_simp
          refine hK _ ?_
          clear hK K'
          refine walk_float rfl rfl (fun K' hK => ?_)
          refine gives_sum_elem _ _ rfl Bw 0 32 cw 1 rfl rfl (by decide) ?_
          go_simp
          refine hK _ ?_
          clear hK K'
          refine walk_float rfl rfl (fun K' hK => ?_)
          refine gives_sum_mid _ rfl Bw 32 rfl (tagAt U 1) (fun W h => h.2.2.tag (k := 1) (by rw [UL.out]; decide)) ?_
          go_simp
          refine hK _ ?_
          clear hK K'
          refine walk_float rfl rfl (fun K' hK => ?_)
          refine gives_sum_eql2 _ _ rfl (tagAt L 1) (tagAt U 1) rfl rfl v HV2.out ?_
          go_simp
          refine hK _ ?_
          clear hK K'
          refine walk_done rfl rfl (fun K' hK => ?_)
          refine done_five _ _ _ _ _ _ _ rfl 23 rfl (.slice q0 n0 c0) (.slice pc 32 cc) (sumVal (tagAt L 1)) (.int .i64 b) (sumVal leaf) rfl rfl rfl rfl rfl (fun _ w => by simp [go_sem]) ((VA.out w14 (HS.out ▸ S14.out.b) _ _ S14.out.c (tagAt L 1) L1S.out).mono ?_)
          rintro e w15 ⟨rfl, hb⟩
          rw [HV.out]
          have S15 := Lib.hid (S14.out.on hb); have X15 := Lib.hid (X14.out.below hb); have W15 := Lib.hid (W14.out.below hb); have D15 := Lib.hid (D14.out.below hb); clear hb S14 X14 W14 D14
          refine ⟨_, rfl, ⟨X15.out, D15.out, W15.out⟩, ?_⟩
          go_simp
          refine hK _ _ ?_
          clear hK K'
          refine walk_float rfl rfl (fun K' hK => ?_)
          refine gives_bool_eql _ _ rfl v v rfl rfl true (by simp) ?_
          go_simp
          refine hK _ ?_
          clear hK K'
          refine walk_float rfl rfl (fun K' hK => ?_)
          refine gives_pickT _ _ _ rfl rfl (.bool true) rfl ?_
          go_simp
          refine hK _ ?_
          clear hK K'
          refine walk_float rfl rfl (fun K' hK => ?_)
          refine gives_assign _ rfl ?_
          go_simp
          refine hK _ ?_
          clear hK K'
          refine walk_nil ?_
          go_wp2
          go_ret
          exact ⟨rfl, HS.out ▸ S15.out.b⟩
      · have k1 : decide (z < 0) = true ∨ (decide (z < 0) = false ∧ decide (15 < z) = true) := by
          by_cases h : z < 0
          · exact .inl (decide_eq_true h)
          · exact .inr ⟨decide_eq_false h, decide_eq_true (by omega)⟩
        rcases k1 with k1 | ⟨k1, k2⟩
        · skip
          have RB : RefusedBy 32 z 1 := .inr ⟨rfl, hb, rfl⟩
          have UN := Lib.hid (fun (V : World) pp c => Update_no q0 n0 c0 pp 32 c z 1 RB leaf V)
          have VN := Lib.hid (fun (V : World) pp c => Verify_no q0 n0 c0 pp 32 c z 1 RB leaf leaf V)
          have IE := Lib.hid (fun (V : World) => Is_err 1 rfl V)
          clear RB
          go_enter Tryd.func22, Tryd.ntmps22
          go_wp2_with (first
            | (refine wpList_sum_box rfl _ rfl leaf rfl S HS.out ?_; intro w1 hL hb hs
               have X1 := Lib.hid hL; have B1 := Lib.hid hb; have Z1 := Lib.hid hs; clear hL hb hs)
            | (refine wpList_make_sums rfl _ _ rfl 16 rfl rfl (by decide) (by decide) ?_; intro w2 hm hb
               have M2 := Lib.hid hm; have X2 := Lib.hid (X1.out.below hb); have B2 := Lib.hid (B1.out.trans (hb.mono (HS.out ▸ B1.out.size))); clear hm hb X1 B1)
            | (go_at_call 15; refine (B0.out w2 B2.out _ M2.out).mono ?_; rintro e w3 ⟨rfl, -, hb⟩
               have X3 := Lib.hid (X2.out.below hb); have B3 := Lib.hid (B2.out.trans (hb.mono (HS.out ▸ B2.out.size))); clear hb X2 B2 M2 B0)
            | (go_at_call 18; refine (SU.out w3 B3.out).mono ?_; rintro e w4 ⟨Bl, cl, rfl, ho, hb⟩
               have R4 := Lib.hid (sums_rows ho); have X4 := Lib.hid (X3.out.below hb); have B4 := Lib.hid (B3.out.trans (hb.mono (HS.out ▸ B3.out.size))); clear ho hb SU X3 B3)
            | (refine wpList_list0 elemSum rfl rfl ?_
               have O5 := Lib.hid (OwnL.empty 27 32 sumC w4 w4.heap.size (Nat.le_refl _))
               have B5 := Lib.hid (show Below w4.heap.size w4 (w4.alloc (.cells #[] 27)) from (Below.refl _ _).alloc (Nat.le_refl _) _)
               have S5 := Lib.hid (show (w4.alloc (.cells #[] 27)).heap.size = w4.heap.size + 1 from World.size_alloc _ _)
               generalize w4.alloc (.cells #[] 27) = w5 at *)
            | (refine wpList_grow elemSum rfl _ _ rfl w4.heap.size w5.heap.size _ [] L (some ⟨Bl, 0, none⟩) 32 cl rfl rfl HLL.out.symm (S5.out ▸ O5.out) (R4.out.below B5.out) (by rw [HLL.out]; have := HN1.out; simp only [List.length_nil]; omega) (by decide) (by rw [S5.out]; omega) ?_
               intro v6 w6 ho hb
               rw [List.nil_append] at ho
               obtain ⟨pc, cc, rfl, -, -, hr, -⟩ := ho.rows sumC_len
               rw [HLL.out]
               have hb6 : Below w4.heap.size w4 w6 := B5.out.trans hb
               have S6 := Lib.hid (show LS w (some ⟨Bl, 0, none⟩) pc L w6 from ⟨HS.out.symm ▸ B4.out.trans (hb6.mono (HS.out ▸ B4.out.size)), R4.out.below hb6, hr⟩)
               have X6 := Lib.hid (X4.out.below hb6)
               clear ho hb hr hb6 R4 B4 O5 B5 S5 X4)
            | (refine wpList_sum_load rfl _ rfl S 0 rfl leaf X6.out.one ?_)
            | (go_at_call 24; refine (UN.out w6 _ _).mono ?_; rintro e w7 ⟨rfl, hb⟩
               have S7 := Lib.hid (S6.out.on hb); have X7 := Lib.hid (X6.out.below hb); clear hb S6 X6 UN)
            | (go_at_call 19; refine (same_any _ _ _ _ _ L HLL.out (by have := HN1.out; omega) w7 S7.out.c S7.out.l).mono ?_; rintro e w8 ⟨rfl, hb⟩
               have S8 := Lib.hid (S7.out.on hb); have X8 := Lib.hid (X7.out.below hb); clear hb S7 X7)
            | (go_at_call 20; refine (IE.out w8).mono ?_; rintro e w9 ⟨rfl, rfl⟩; clear IE)
            | (refine wpList_sum_load rfl _ rfl S 0 rfl leaf X8.out.one ?_)
            | (go_at_call 23; refine (VN.out w8 _ _).mono ?_; rintro e w10 ⟨rfl, hb⟩
               have S10 := Lib.hid (S8.out.on hb); clear hb S8 X8 VN))
          go_ret
          exact ⟨rfl, HS.out ▸ S10.out.b⟩
        · skip
          have RB : RefusedBy 32 z 1 := .inr ⟨rfl, hb, rfl⟩
          have UN := Lib.hid (fun (V : World) pp c => Update_no q0 n0 c0 pp 32 c z 1 RB leaf V)
          have VN := Lib.hid (fun (V : World) pp c => Verify_no q0 n0 c0 pp 32 c z 1 RB leaf leaf V)
          have IE := Lib.hid (fun (V : World) => Is_err 1 rfl V)
          clear RB
          go_enter Tryd.func22, Tryd.ntmps22
          go_wp2_with (first
            | (refine wpList_sum_box rfl _ rfl leaf rfl S HS.out ?_; intro w1 hL hb hs
               have X1 := Lib.hid hL; have B1 := Lib.hid hb; have Z1 := Lib.hid hs; clear hL hb hs)
            | (refine wpList_make_sums rfl _ _ rfl 16 rfl rfl (by decide) (by decide) ?_; intro w2 hm hb
               have M2 := Lib.hid hm; have X2 := Lib.hid (X1.out.below hb); have B2 := Lib.hid (B1.out.trans (hb.mono (HS.out ▸ B1.out.size))); clear hm hb X1 B1)
            | (go_at_call 15; refine (B0.out w2 B2.out _ M2.out).mono ?_; rintro e w3 ⟨rfl, -, hb⟩
               have X3 := Lib.hid (X2.out.below hb); have B3 := Lib.hid (B2.out.trans (hb.mono (HS.out ▸ B2.out.size))); clear hb X2 B2 M2 B0)
            | (go_at_call 18; refine (SU.out w3 B3.out).mono ?_; rintro e w4 ⟨Bl, cl, rfl, ho, hb⟩
               have R4 := Lib.hid (sums_rows ho); have X4 := Lib.hid (X3.out.below hb); have B4 := Lib.hid (B3.out.trans (hb.mono (HS.out ▸ B3.out.size))); clear ho hb SU X3 B3)
            | (refine wpList_list0 elemSum rfl rfl ?_
               have O5 := Lib.hid (OwnL.empty 27 32 sumC w4 w4.heap.size (Nat.le_refl _))
               have B5 := Lib.hid (show Below w4.heap.size w4 (w4.alloc (.cells #[] 27)) from (Below.refl _ _).alloc (Nat.le_refl _) _)
               have S5 := Lib.hid (show (w4.alloc (.cells #[] 27)).heap.size = w4.heap.size + 1 from World.size_alloc _ _)
               generalize w4.alloc (.cells #[] 27) = w5 at *)
            | (refine wpList_grow elemSum rfl _ _ rfl w4.heap.size w5.heap.size _ [] L (some ⟨Bl, 0, none⟩) 32 cl rfl rfl HLL.out.symm (S5.out ▸ O5.out) (R4.out.below B5.out) (by rw [HLL.out]; have := HN1.out; simp only [List.length_nil]; omega) (by decide) (by rw [S5.out]; omega) ?_
               intro v6 w6 ho hb
               rw [List.nil_append] at ho
               obtain ⟨pc, cc, rfl, -, -, hr, -⟩ := ho.rows sumC_len
               rw [HLL.out]
               have hb6 : Below w4.heap.size w4 w6 := B5.out.trans hb
               have S6 := Lib.hid (show LS w (some ⟨Bl, 0, none⟩) pc L w6 from ⟨HS.out.symm ▸ B4.out.trans (hb6.mono (HS.out ▸ B4.out.size)), R4.out.below hb6, hr⟩)
               have X6 := Lib.hid (X4.out.below hb6)
               clear ho hb hr hb6 R4 B4 O5 B5 S5 X4)
            | (refine wpList_sum_load rfl _ rfl S 0 rfl leaf X6.out.one ?_)
            | (go_at_call 24; refine (UN.out w6 _ _).mono ?_; rintro e w7 ⟨rfl, hb⟩
               have S7 := Lib.hid (S6.out.on hb); have X7 := Lib.hid (X6.out.below hb); clear hb S6 X6 UN)
            | (go_at_call 19; refine (same_any _ _ _ _ _ L HLL.out (by have := HN1.out; omega) w7 S7.out.c S7.out.l).mono ?_; rintro e w8 ⟨rfl, hb⟩
               have S8 := Lib.hid (S7.out.on hb); have X8 := Lib.hid (X7.out.below hb); clear hb S7 X7)
            | (go_at_call 20; refine (IE.out w8).mono ?_; rintro e w9 ⟨rfl, rfl⟩; clear IE)
            | (refine wpList_sum_load rfl _ rfl S 0 rfl leaf X8.out.one ?_)
            | (go_at_call 23; refine (VN.out w8 _ _).mono ?_; rintro e w10 ⟨rfl, hb⟩
               have S10 := Lib.hid (S8.out.on hb); clear hb S8 X8 VN))
          go_ret
          exact ⟨rfl, HS.out ▸ S10.out.b⟩
    · have k1 : ¬ ((n1 : Int) = 32) := by omega
      have RB : RefusedBy n1 z 2 := .inl ⟨h32, rfl⟩
      have UN := Lib.hid (fun (V : World) pp c => Update_no q0 n0 c0 pp n1 c z 2 RB leaf V)
      have VN := Lib.hid (fun (V : World) pp c => Verify_no q0 n0 c0 pp n1 c z 2 RB leaf leaf V)
      have IE := Lib.hid (fun (V : World) => Is_err 2 rfl V)
      clear RB
      go_enter Tryd.func22, Tryd.ntmps22
      go_wp2_with (first
        | (refine wpList_sum_box rfl _ rfl leaf rfl S HS.out ?_; intro w1 hL hb hs
           have X1 := Lib.hid hL; have B1 := Lib.hid hb; have Z1 := Lib.hid hs; clear hL hb hs)
        | (refine wpList_make_sums rfl _ _ rfl 16 rfl rfl (by decide) (by decide) ?_; intro w2 hm hb
           have M2 := Lib.hid hm; have X2 := Lib.hid (X1.out.below hb); have B2 := Lib.hid (B1.out.trans (hb.mono (HS.out ▸ B1.out.size))); clear hm hb X1 B1)
        | (go_at_call 15; refine (B0.out w2 B2.out _ M2.out).mono ?_; rintro e w3 ⟨rfl, -, hb⟩
           have X3 := Lib.hid (X2.out.below hb); have B3 := Lib.hid (B2.out.trans (hb.mono (HS.out ▸ B2.out.size))); clear hb X2 B2 M2 B0)
        | (go_at_call 18; refine (SU.out w3 B3.out).mono ?_; rintro e w4 ⟨Bl, cl, rfl, ho, hb⟩
           have R4 := Lib.hid (sums_rows ho); have X4 := Lib.hid (X3.out.below hb); have B4 := Lib.hid (B3.out.trans (hb.mono (HS.out ▸ B3.out.size))); clear ho hb SU X3 B3)
        | (refine wpList_list0 elemSum rfl rfl ?_
           have O5 := Lib.hid (OwnL.empty 27 32 sumC w4 w4.heap.size (Nat.le_refl _))
           have B5 := Lib.hid (show Below w4.heap.size w4 (w4.alloc (.cells #[] 27)) from (Below.refl _ _).alloc (Nat.le_refl _) _)
           have S5 := Lib.hid (show (w4.alloc (.cells #[] 27)).heap.size = w4.heap.size + 1 from World.size_alloc _ _)
           generalize w4.alloc (.cells #[] 27) = w5 at *)
        | (refine wpList_grow elemSum rfl _ _ rfl w4.heap.size w5.heap.size _ [] L (some ⟨Bl, 0, none⟩) n1 cl rfl rfl HLL.out.symm (S5.out ▸ O5.out) (R4.out.below B5.out) (by rw [HLL.out]; have := HN1.out; simp only [List.length_nil]; omega) (by decide) (by rw [S5.out]; omega) ?_
           intro v6 w6 ho hb
           rw [List.nil_append] at ho
           obtain ⟨pc, cc, rfl, -, -, hr, -⟩ := ho.rows sumC_len
           rw [HLL.out]
           have hb6 : Below w4.heap.size w4 w6 := B5.out.trans hb
           have S6 := Lib.hid (show LS w (some ⟨Bl, 0, none⟩) pc L w6 from ⟨HS.out.symm ▸ B4.out.trans (hb6.mono (HS.out ▸ B4.out.size)), R4.out.below hb6, hr⟩)
           have X6 := Lib.hid (X4.out.below hb6)
           clear ho hb hr hb6 R4 B4 O5 B5 S5 X4)
        | (refine wpList_sum_load rfl _ rfl S 0 rfl leaf X6.out.one ?_)
        | (go_at_call 24; refine (UN.out w6 _ _).mono ?_; rintro e w7 ⟨rfl, hb⟩
           have S7 := Lib.hid (S6.out.on hb); have X7 := Lib.hid (X6.out.below hb); clear hb S6 X6 UN)
        | (go_at_call 19; refine (same_any _ _ _ _ _ L HLL.out (by have := HN1.out; omega) w7 S7.out.c S7.out.l).mono ?_; rintro e w8 ⟨rfl, hb⟩
           have S8 := Lib.hid (S7.out.on hb); have X8 := Lib.hid (X7.out.below hb); clear hb S7 X7)
        | (go_at_call 20; refine (IE.out w8).mono ?_; rintro e w9 ⟨rfl, rfl⟩; clear IE)
        | (refine wpList_sum_load rfl _ rfl S 0 rfl leaf X8.out.one ?_)
        | (go_at_call 23; refine (VN.out w8 _ _).mono ?_; rintro e w10 ⟨rfl, hb⟩
           have S10 := Lib.hid (S8.out.on hb); clear hb S8 X8 VN))
      go_ret
      exact ⟨rfl, HS.out ▸ S10.out.b⟩
  · clear y0 y1 hT hz
    have HLF := Lib.hid hleaf
    by_cases h1 : n0 ≤ 1000
    · have d1 : ¬ ((1000 : Int) < (n0 : Int)) := by omega
      have d2 : (200 : Int) < (n1 : Int) := by omega
      have d3 : decide (1000 < n0) = false := decide_eq_false (by omega)
      have d4 : decide (200 < n1) = true := decide_eq_true (by omega)
      go_enter Tryd.func22, Tryd.ntmps22
      go_wp2_with (first
        | (refine wpList_sum_box rfl _ rfl leaf rfl w.heap.size rfl ?_; intro w1 hL hb hs; have B1 := Lib.hid hb; clear hL hb hs))
      go_ret
      exact ⟨rfl, B1.out⟩
    · have d1 : (1000 : Int) < (n0 : Int) := by omega
      have d3 : decide (1000 < n0) = true := decide_eq_true (by omega)
      go_enter Tryd.func22, Tryd.ntmps22
      go_wp2_with (first
        | (refine wpList_sum_box rfl _ rfl leaf rfl w.heap.size rfl ?_; intro w1 hL hb hs; have B1 := Lib.hid hb; clear hL hb hs))
      go_ret
      exact ⟨rfl, B1.out⟩

end Go.Proofs.YtbdldnhpgpjnoaaDoor
