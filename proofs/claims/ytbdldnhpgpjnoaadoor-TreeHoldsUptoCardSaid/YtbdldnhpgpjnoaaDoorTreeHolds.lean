/- A tree that was built is verified in each block, and updated it is the one built of the other leaves: the statement TreeHolds, tied to the program's text, where what it reads is of bounded bulk. -/
import Derived.Test.YtbdldnhpgpjnoaaDoorTrLaw
import Derived.Deep.DeepHandedRow
namespace Go.Proofs.YtbdldnhpgpjnoaaDoor.treeHolds
open Go.ChangeShapes Go.WideShapes Go.ChangeAt Go.RowKit
set_option linter.unusedVariables false
theorem own : ownKnob Tryd.prog.godebug = none := by kernel_rfl
attribute [local irreducible] nought sumVal sumC sumsL sumOf leavesL treeL updT tagAt climbF nodeN sameSum
set_option maxRecDepth 100000 in
set_option maxHeartbeats 8000000 in
theorem walk (q0 : Option Addr) (n0 c0 : Nat) (a0 : Nat → Nat) (q1 : Option Addr) (n1 c1 : Nat) (a1 : Nat → Nat) (q2 : Option Addr) (n2 c2 : Nat) (z : Int) (b : Nat) (w : World) (hT : TabAt w) (y0 : BytesIn w q0 n0 c0 a0) (y1 : BytesIn w q1 n1 c1 a1) (hb : b < 256) (hn1 : n1 ≤ 1048576) :
    Calls Tryd.prog 8 #[.agg #[.slice q0 n0 c0, .slice q1 n1 c1, .slice q2 n2 c2, .int .i64 z, .int .u8 b]] w fun e w' => e = .returned (.bool true) ∧ Below w.heap.size w w' := by
  have BO := Lib.hid (fun (W : World) (S : Nat) h => BoundAt.of (W := W) (S := S) (q0 := q0) (n0 := n0) (c0 := c0) (q1 := q1) (n1 := n1) (c1 := c1) (q2 := q2) (n2 := n2) (c2 := c2) (z := z) (b := b) h)
  by_cases hn : n0 ≤ 1000
  · have d1 : ¬ ((1000 : Int) < (n0 : Int)) := by omega
    have d3 : decide (1000 < n0) = false := decide_eq_false (by omega)
    obtain ⟨u, k, hu, hk16, hk⟩ := block_num z
    have hk3 : IntKind.i64.wrap (k : Int) = (k : Int) := IntWalk.i64_in _ (by omega)
    have KL := Lib.hid hk
    have HN0 := Lib.hid (show n0 ≤ 80000 by omega)
    have LN := Lib.hid (leavesL_len n1 a1)
    have LM := Lib.hid (leavesL_sum y1.lt)
    have HK := Lib.hid (fun (V : World) (h : Below w.heap.size w V) => (⟨y0.lt, y0.cap, (y0.below h).at', hT.on h⟩ : KeyAt V q0 n0 c0 a0))
    have SU := Lib.hid (fun (V : World) (h : Below w.heap.size w V) => sums_any q1 n1 c1 a1 y1.lt (by omega) V (y1.below h).at')
    have SL := Lib.hid (sumsL_len n1 a1)
    have SN := Lib.hid hn1
    have SO := Lib.hid (fun (V : World) => sums_any (some ⟨V.heap.size, 0, none⟩) 1 1 (fun _ => b) (fun _ _ => hb) (by decide) (V.alloc (.cells #[.int .u8 b] 5)) (one_bytes V b))
    have LV := Lib.hid (fun (V : World) base top v h => leaves_at (w := V) (base := base) (top := top) (v := v) (n := n1) (g := a1) h)
    have OS := Lib.hid (show IsSum (sumOf b) from sumOf_sum hb)
    clear hT y0 y1 hb hn1 hn
    generalize leavesL n1 a1 = L at *
    generalize hO : sumOf b = o at *
    have OE := Lib.hid hO
    clear hO
    have BA := Lib.hid (fun (V : World) (h : Below w.heap.size w V) pp c hr => Build_any q0 n0 c0 a0 HN0.out pp c L LN.out LM.out V (HK.out V h) hr)
    have BB := Lib.hid (fun (V : World) (h : Below w.heap.size w V) pp c hr => Build_any q0 n0 c0 a0 HN0.out pp c (L.set k o) (by rw [List.length_set]; exact LN.out) (leaves_set_sum LM.out OS.out k) V (HK.out V h) hr)
    have TN := Lib.hid (treeL_len n0 a0 L)
    have TM := Lib.hid (treeL_sum (n := n0) (g := a0) LN.out LM.out)
    have UN := Lib.hid (treeL_len n0 a0 (L.set k o))
    have VA := Lib.hid (fun (V : World) (h : Below w.heap.size w V) pp c hr (i : Nat) (hi : i < 16) => show Calls Tryd.prog 23 #[.slice q0 n0 c0, .slice pp 32 c, sumVal (tagAt (treeL n0 a0 L) 1), .int .i64 i, sumVal (tagAt L i)] V fun e w' => e = .returned (.bool true) ∧ Below V.heap.size V w' from by
      have h1 := Verify_any q0 n0 c0 a0 HN0.out pp c (treeL n0 a0 L) TN.out TM.out (tagAt (treeL n0 a0 L) 1) (tagAt_sum TM.out (by rw [TN.out]; decide)) i hi (tagAt L i) (tagAt_sum LM.out (by rw [LN.out]; exact hi)) V (HK.out V h) hr
      rw [decide_eq_true (built_root hi)] at h1
      exact h1)
    have UA := Lib.hid (fun (V : World) (h : Below w.heap.size w V) pp c hr => show Calls Tryd.prog 24 #[.slice q0 n0 c0, .slice pp 32 c, .int .i64 k, sumVal o] V fun e w' => ∃ B c, e = .returned (.tuple #[.slice (some ⟨B, 0, none⟩) 32 c, .nilIface]) ∧ V.heap.size ≤ B ∧ SumsB w' B (treeL n0 a0 (L.set k o)) ∧ Below V.heap.size V w' from by
      have h1 := Update_any q0 n0 c0 a0 HN0.out pp c (treeL n0 a0 L) TN.out TM.out k KL.out o OS.out V (HK.out V h) hr
      rw [updT_tree LN.out KL.out o] at h1
      exact h1)
    have SA := Lib.hid (fun (V : World) pp qq c d h1 h2 => same_any pp qq c d 32 (treeL n0 a0 (L.set k o)) UN.out (by decide) V h1 h2)
    generalize treeL n0 a0 (L.set k o) = U at *
    generalize treeL n0 a0 L = T at *
    clear hk
    generalize hS : w.heap.size = S at *
    have HS := Lib.hid hS
    clear hS
    go_enter Tryd.func8, Tryd.ntmps8
    go_wp2_with (first
      | (refine wpList_agg_box rfl _ _ rfl _ rfl S HS.out ?_; intro w1 hc hb hs
         have U1 := Lib.hid (BO.out w1 _ hc); have B1 := Lib.hid hb; have S1 := Lib.hid hs
         clear hc hb hs BO))
    have dr : Below w1.heap.size w1 w1.drew := (Below.refl _ _).drew
    have U2 := Lib.hid (U1.out.below dr (by rw [S1.out]; omega)); have B2 := Lib.hid B1.out.drew
    clear dr U1
    refine wp_region_sched [(0, true), (1, true), (2, true), (3, true), (4, true), (5, true), (6, true), (7, true), (8, true), (9, true), (10, true), (11, true)] (fun W => BoundAt W S q0 n0 c0 q1 n1 c1 q2 n2 c2 z b) (by kernel_rfl) (by kernel_rfl) (U2.out) ?_
    refine walk_float rfl rfl (fun K' hK => ?_)
    refine gives_boundfield _ 0 rfl (by decide) S rfl ?_
    go_simp
    refine hK _ ?_
    clear hK K'
    refine walk_float rfl rfl (fun K' hK => ?_)
    refine gives_cell _ _ rfl ⟨S, 0, none⟩ _ rfl box_bytes (fun W h => h.k) ?_
    go_simp
    refine hK _ ?_
    clear hK K'
    refine walk_float rfl rfl (fun K' hK => ?_)
    refine gives_boundfield _ 1 rfl (by decide) S rfl ?_
    go_simp
    refine hK _ ?_
    clear hK K'
    refine walk_float rfl rfl (fun K' hK => ?_)
    refine gives_cell _ _ rfl ⟨S, 1, none⟩ _ rfl box_bytes (fun W h => h.l) ?_
    go_simp
    refine hK _ ?_
    clear hK K'
    refine walk_float rfl rfl (fun K' hK => ?_)
    refine gives_boundfield _ 3 rfl (by decide) S rfl ?_
    go_simp
    refine hK _ ?_
    clear hK K'
    refine walk_float rfl rfl (fun K' hK => ?_)
    refine gives_cell _ _ rfl ⟨S, 3, none⟩ _ rfl box_int (fun W h => h.i) ?_
    go_simp
    refine hK _ ?_
    clear hK K'
    refine walk_float rfl rfl (fun K' hK => ?_)
    refine gives_boundfield _ 4 rfl (by decide) S rfl ?_
    go_simp
    refine hK _ ?_
    clear hK K'
    refine walk_float rfl rfl (fun K' hK => ?_)
    refine gives_cell _ _ rfl ⟨S, 4, none⟩ _ rfl box_u8 (fun W h => h.o) ?_
    go_simp
    refine hK _ ?_
    clear hK K'
    refine walk_float rfl rfl (fun K' hK => ?_)
    refine gives_assign _ rfl ?_
    go_simp
    refine hK _ ?_
    clear hK K'
    refine walk_float rfl rfl (fun K' hK => ?_)
    refine gives_assign _ rfl ?_
    go_simp
    refine hK _ ?_
    clear hK K'
    refine walk_float rfl rfl (fun K' hK => ?_)
    refine gives_assign _ rfl ?_
    go_simp
    refine hK _ ?_
    clear hK K'
    refine walk_float rfl rfl (fun K' hK => ?_)
    refine gives_assign _ rfl ?_
    go_simp
    refine hK _ ?_
    clear hK K'
    refine walk_nil ?_
    go_wp2_with (first
      | (go_at_call 18; refine (SU.out _ B2.out).mono ?_; rintro e w2 ⟨Bs, cs, rfl, ho, hb⟩
         have O2 := Lib.hid ho; have B3 := Lib.hid (B2.out.trans (hb.mono (HS.out ▸ B2.out.size))); have SZ2 := Lib.hid hb.size
         clear ho hb SU B2 U2)
      | (refine wpList_append_nils rfl _ _ rfl _ _ n1 cs Bs _ 16 rfl rfl O2.out (by rw [SL.out]; have := SN.out; omega) SZ2.out ?_
         intro v3 w3 ho hb
         obtain ⟨Bl, cl, rfl, hcl, hB1, -, hs⟩ := LV.out w3 _ _ _ ho
         have CL := Lib.hid hcl; have R3 := Lib.hid hs; have B4 := Lib.hid (B3.out.trans (hb.mono (show S ≤ _ by have := B1.out.size; first | (rw [HS.out] at this; simpa using this) | (simp at this ⊢; omega))))
         have HB := Lib.hid (show S ≤ Bl by have := B1.out.size; first | (rw [HS.out] at this; simp at hB1; omega) | (simp at this hB1; omega))
         clear ho hb hcl hB1 hs O2 B3 SZ2)
      | (refine wpList_sums_upto rfl _ _ rfl Bl (n1 + 16) cl 16 rfl rfl CL.out ?_)
      | (go_at_call 15; refine (BA.out w3 B4.out _ _ R3.out.at).mono ?_; rintro e w4 ⟨rfl, ht, hb⟩
         have H4 := Lib.hid (show HSt w Bl w3.heap.size L T w4 from ⟨HS.out.symm ▸ B4.out.trans (hb.mono (HS.out ▸ B4.out.size)), R3.out.below hb, ht, HS.out.symm ▸ HB.out, R3.out.lt⟩)
         clear ht hb BA R3 B4))
    generalize w3.heap.size = Bt at *
    go_loopw [45] (fun v45 wr => ∃ i : Nat, i ≤ 16 ∧ v45 = .int .i64 i ∧ HSt w Bl Bt L T wr) (fun v45 _ => 16 - (intOf v45).toNat)
    case atStart => exact ⟨0, Nat.zero_le _, rfl, H4.out⟩
    case round =>
      obtain ⟨i, hi, rfl, hb⟩ := hrel
      have BBX := Lib.hid hb
      clear hb H4
      by_cases hlt : i < 16
      · have f1 : (i : Int) < (16 : Int) := by omega
        have HLT := Lib.hid hlt
        have f3 : IntKind.i64.wrap ((i : Int) + 1) = ((i + 1 : Nat) : Int) := by rw [IntWalk.i64_in _ (by omega)]; omega
        have VI := Lib.hid (fun (V : World) h pp c hr => VA.out V h pp c hr i HLT.out)
        clear VA UA BB SA SO hlt
        go_wp2
        have H5 := Lib.hid (BBX.out.on (show Below wr.heap.size wr wr.drew from (Below.refl _ _).drew))
        clear BBX
        refine wp_region_sched [(0, true), (1, true), (2, true), (3, true), (4, true), (5, true), (6, true), (7, true), (8, true), (9, true), (10, false), (11, true)] (fun W => SumsB W Bt T ∧ SumsB W Bl L) (by kernel_rfl) (by kernel_rfl) (⟨H5.out.t, H5.out.l⟩) ?_
        refine walk_float rfl rfl (fun K' hK => ?_)
        refine gives_move _ rfl ?_
        go_simp
        refine hK _ ?_
        clear hK K'
        refine walk_float rfl rfl (fun K' hK => ?_)
        refine gives_move _ rfl ?_
        go_simp
        refine hK _ ?_
        clear hK K'
        refine walk_float rfl rfl (fun K' hK => ?_)
        refine gives_move _ rfl ?_
        go_simp
        refine hK _ ?_
        clear hK K'
        refine walk_float rfl rfl (fun K' hK => ?_)
        refine gives_sum_elem _ _ rfl Bt 0 32 32 1 rfl rfl (by decide) ?_
        go_simp
        refine hK _ ?_
        clear hK K'
        refine walk_float rfl rfl (fun K' hK => ?_)
        refine gives_sum_mid _ rfl Bt 32 rfl (tagAt T 1) (fun W h => h.1.tag (k := 1) (by rw [TN.out]; decide)) ?_
        go_simp
        refine hK _ ?_
        clear hK K'
        refine walk_float rfl rfl (fun K' hK => ?_)
        refine gives_move _ rfl ?_
        go_simp
        refine hK _ ?_
        clear hK K'
        refine walk_float rfl rfl (fun K' hK => ?_)
        refine gives_move _ rfl ?_
        go_simp
        refine hK _ ?_
        clear hK K'
        refine walk_float rfl rfl (fun K' hK => ?_)
        refine gives_move _ rfl ?_
        go_simp
        refine hK _ ?_
        clear hK K'
        refine walk_float rfl rfl (fun K' hK => ?_)
        refine gives_sum_elem _ _ rfl Bl 0 16 cl i rfl rfl HLT.out ?_
        go_simp
        refine hK _ ?_
        clear hK K'
        refine walk_float rfl rfl (fun K' hK => ?_)
        refine gives_sum_mid _ rfl Bl (32 * i) rfl (tagAt L i) (fun W h => h.2.tag (k := i) (by rw [LN.out]; exact HLT.out)) ?_
        go_simp
        refine hK _ ?_
        clear hK K'
        refine walk_done rfl rfl (fun K' hK => ?_)
        refine done_five _ _ _ _ _ _ _ rfl 23 rfl (.slice q0 n0 c0) (.slice (some ⟨Bt, 0, none⟩) 32 32) (sumVal (tagAt T 1)) (.int .i64 i) (sumVal (tagAt L i)) rfl rfl rfl rfl rfl (fun _ w => by simp [go_sem]) ((VI.out wr.drew (HS.out ▸ H5.out.b) _ _ H5.out.t.at).mono ?_)
        rintro e w6 ⟨rfl, hb⟩
        have H6 := Lib.hid (H5.out.on hb); clear hb H5
        refine ⟨_, rfl, ⟨H6.out.t, H6.out.l⟩, ?_⟩
        go_simp
        refine hK _ _ ?_
        clear hK K'
        refine walk_float rfl rfl (fun K' hK => ?_)
        refine gives_not2 _ _ rfl true false rfl rfl ?_
        go_simp
        refine hK _ ?_
        clear hK K'
        refine walk_nil ?_
        go_wp2
        go_roundw
        case rel => exact ⟨i + 1, HLT.out, by go_num, H6.out⟩
        case measure => have := HLT.out; simp [intOf]; omega
      · obtain rfl : i = 16 := by omega
        have f1 : ¬ ((16 : Nat) : Int) < (16 : Int) := by omega
        clear VA
        go_wp2_with (first
          | (go_at_call 18; refine (SO.out wr).mono ?_; rintro e w7 ⟨Bo, co, e7, ho, hb⟩
             cases e7
             obtain ⟨B', c', e7, hs⟩ := sums_one ho
             rw [OE.out] at hs
             cases e7
             have hb2 : Below wr.heap.size wr w7 := ((Below.refl _ wr).alloc (Nat.le_refl _) _).trans (hb.mono (by simp))
             have H7 := Lib.hid (BBX.out.on hb2); have O7 := Lib.hid hs
             clear ho hb hs hb2 SO BBX)
          | (refine wpList_sum_elem0 rfl _ _ rfl Bo 1 co 0 rfl rfl (by decide) ?_)
          | (refine wpList_sum_load rfl _ rfl Bo 0 rfl o O7.out.one ?_)
          | (refine wpList_sum_alloc rfl rfl w7.heap.size rfl ?_; intro w8 hD hb hs
             have H8 := Lib.hid (H7.out.on hb); have D8 := Lib.hid hD; have S8 := Lib.hid hs; have E8 := Lib.hid (show Bl ≠ w7.heap.size ∧ Bt ≠ w7.heap.size by have h1 := H7.out.l.lt; have h2 := H7.out.t.lt; omega); have B8 := Lib.hid hb
             clear hD hb hs O7)
          | (refine wpList_sum_store rfl _ _ rfl rfl w7.heap.size 0 rfl o rfl [nought] D8.out (by simp) ?_; intro w9 hD hb hs
             have H9 := Lib.hid (H7.out.on (B8.out.trans (hb.below (Nat.le_refl _) (by rw [S8.out]; omega)))); have D9 := Lib.hid (show SumsB w9 w7.heap.size [o] from hD)
             clear hD hb hs H8 D8 S8 B8 H7
             generalize w7.heap.size = D at *)
          | (refine wpList_sum_load rfl _ rfl D 0 rfl o D9.out.one ?_)
          | (go_at_call 24; refine (UA.out w9 (HS.out ▸ H9.out.b) _ _ H9.out.t.at).mono ?_; rintro e w10 ⟨Bu, cu, rfl, hU, ht, hb⟩
             have H10 := Lib.hid (H9.out.on hb); have D10 := Lib.hid (D9.out.below hb); have U10 := Lib.hid ht; have E10 := Lib.hid (show Bl ≠ Bu by have := H9.out.l.lt; omega)
             clear ht hb hU UA H9 D9)
          | (refine wpList_sum_load rfl _ rfl D 0 rfl o D10.out.one ?_)
          | (refine wpList_sum_elem0 rfl _ _ rfl Bl 16 cl k rfl rfl KL.out ?_)
          | (refine wpList_sum_store rfl _ _ rfl rfl Bl k rfl o rfl L H10.out.l (by rw [LN.out]; exact KL.out) ?_; intro w11 hD hb hs
             have H11 := Lib.hid (H10.out.put hD hb); have U11 := Lib.hid (U10.out.but hb (Ne.symm E10.out))
             clear hD hb hs H10 D10 U10)
          | (go_at_call 15; refine (BB.out w11 (HS.out ▸ H11.out.b) _ _ H11.out.l.at).mono ?_; rintro e w12 ⟨rfl, ht, hb⟩
             have H12 := Lib.hid (H11.out.on hb); have U12 := Lib.hid (U11.out.below hb); have T12 := Lib.hid ht
             clear ht hb H11 U11 BB)
          | (go_at_call 19; refine (SA.out w12 _ _ _ _ U12.out.at T12.out.at).mono ?_; rintro e w13 ⟨rfl, hb⟩
             have H13 := Lib.hid (H12.out.on hb); clear hb H12 U12 T12))
        go_ret
        exact ⟨rfl, HS.out ▸ H13.out.b⟩
  · have d1 : (1000 : Int) < (n0 : Int) := by omega
    have d3 : decide (1000 < n0) = true := decide_eq_true (by omega)
    clear y0 y1 hT hb hn1
    generalize hS : w.heap.size = S at *
    have HS := Lib.hid hS
    clear hS
    go_enter Tryd.func8, Tryd.ntmps8
    go_wp2_with (first
      | (refine wpList_agg_box rfl _ _ rfl _ rfl S HS.out ?_; intro w1 hc hb hs
         have U1 := Lib.hid (BO.out w1 _ hc); have B1 := Lib.hid hb; have S1 := Lib.hid hs
         clear hc hb hs BO))
    have dr : Below w1.heap.size w1 w1.drew := (Below.refl _ _).drew
    have U2 := Lib.hid (U1.out.below dr (by rw [S1.out]; omega)); have B2 := Lib.hid B1.out.drew
    clear dr U1
    refine wp_region_sched [(0, true), (1, true), (2, true), (3, true), (4, true), (5, true), (6, true), (7, true), (8, true), (9, true), (10, true), (11, true)] (fun W => BoundAt W S q0 n0 c0 q1 n1 c1 q2 n2 c2 z b) (by kernel_rfl) (by kernel_rfl) (U2.out) ?_
    refine walk_float rfl rfl (fun K' hK => ?_)
    refine gives_boundfield _ 0 rfl (by decide) S rfl ?_
    go_simp
    refine hK _ ?_
    clear hK K'
    refine walk_float rfl rfl (fun K' hK => ?_)
    refine gives_cell _ _ rfl ⟨S, 0, none⟩ _ rfl box_bytes (fun W h => h.k) ?_
    go_simp
    refine hK _ ?_
    clear hK K'
    refine walk_float rfl rfl (fun K' hK => ?_)
    refine gives_boundfield _ 1 rfl (by decide) S rfl ?_
    go_simp
    refine hK _ ?_
    clear hK K'
    refine walk_float rfl rfl (fun K' hK => ?_)
    refine gives_cell _ _ rfl ⟨S, 1, none⟩ _ rfl box_bytes (fun W h => h.l) ?_
    go_simp
    refine hK _ ?_
    clear hK K'
    refine walk_float rfl rfl (fun K' hK => ?_)
    refine gives_boundfield _ 3 rfl (by decide) S rfl ?_
    go_simp
    refine hK _ ?_
    clear hK K'
    refine walk_float rfl rfl (fun K' hK => ?_)
    refine gives_cell _ _ rfl ⟨S, 3, none⟩ _ rfl box_int (fun W h => h.i) ?_
    go_simp
    refine hK _ ?_
    clear hK K'
    refine walk_float rfl rfl (fun K' hK => ?_)
    refine gives_boundfield _ 4 rfl (by decide) S rfl ?_
    go_simp
    refine hK _ ?_
    clear hK K'
    refine walk_float rfl rfl (fun K' hK => ?_)
    refine gives_cell _ _ rfl ⟨S, 4, none⟩ _ rfl box_u8 (fun W h => h.o) ?_
    go_simp
    refine hK _ ?_
    clear hK K'
    refine walk_float rfl rfl (fun K' hK => ?_)
    refine gives_assign _ rfl ?_
    go_simp
    refine hK _ ?_
    clear hK K'
    refine walk_float rfl rfl (fun K' hK => ?_)
    refine gives_assign _ rfl ?_
    go_simp
    refine hK _ ?_
    clear hK K'
    refine walk_float rfl rfl (fun K' hK => ?_)
    refine gives_assign _ rfl ?_
    go_simp
    refine hK _ ?_
    clear hK K'
    refine walk_float rfl rfl (fun K' hK => ?_)
    refine gives_assign _ rfl ?_
    go_simp
    refine hK _ ?_
    clear hK K'
    refine walk_nil ?_
    go_wp2
    go_ret
    exact ⟨rfl, HS.out ▸ B2.out⟩

theorem laidOut : laidOutB Tryd.prog = true := by kernel_rfl
theorem reads (os : Os) {H : Type} (enc : TypeId × Value → H) : (DataW.whole enc Tryd.prog ((World.laidAll Tryd.prog os Rows.treeHoldsUptoRow.laid).forCall (fun _ _ => 0) ⟨#[], #[.agg #[.slice none 0 0, .slice none 0 0, .slice none 0 0, .int .i64 0, .int .u8 0]], []⟩).memory Tryd.f8.params.toList Rows.treeHoldsSpec.vars false #[Value.agg #[.slice none 0 0, .slice none 0 0, .slice none 0 0, .int .i64 0, .int .u8 0]].toList 8).map (fun x => Rows.uptoSmall H (x.1 ++ x.2.1)) = some true := by kernel_rfl
theorem witness_row_shaped {H : Type} {enc : TypeId × Value → H} {C : Checked} {os : Os} {f : FuncId} {fn : Func} {s : OpenSpec} {conds : List PathCond} {apart : Bool} {laid : List (String × DataW Unit)} (modest : Bool) (w0 : World) (args : Array Value) (hos : w0.os = os)
    (hsh : (w0.forCall (fun _ _ => 0) ⟨#[], args, []⟩).Shaped C.prog)
    (hok : Input.okWideB C.prog (w0.forCall (fun _ _ => 0) ⟨#[], args, []⟩) f ⟨#[], args, []⟩ = true)
    (hrow : s.preRow enc C.prog fn conds apart laid (w0.forCall (fun _ _ => 0) ⟨#[], args, []⟩).memory args) :
    ∃ (w : World) (tape : Tape) (i : Input), w.os = os ∧ (w.forCall tape i).Shaped C.prog ∧ i.vars = [] ∧ Input.okWide C.prog (w.forCall tape i) .any w.heap.size f i ∧
      s.preRow enc C.prog fn conds apart laid (w.forCall tape i).memory i.args ∧ ({ modest := modest } : Assume).holds C.prog (lone (Frame.enter C.prog f i.args .normal) [] (w.forCall tape i)) :=
  ⟨w0, fun _ _ => 0, ⟨#[], args, []⟩, hos, hsh, (Input.okWide_of_okWideB (base := 0) hok).1, (Input.okWide_of_okWideB hok).2, hrow, by
    simp only [Assume.holds]
    exact ⟨by simp, by simp, fun _ => Modest.zero, by simp, by simp⟩⟩
set_option maxRecDepth 100000 in
theorem lifted (os : Os) (started : os.Started) (H : Type) (enc : TypeId × Value → H) (F0 : Stop.Interp) :
    ReturnsInHanded {} Tryd.checked os 8 .any ((Rows.OpenSpec.upto Rows.treeHoldsSpec).preRow enc Tryd.prog Tryd.f8 Rows.treeHoldsUptoRow.domain false Rows.treeHoldsUptoRow.laid) (((Rows.OpenSpec.upto Rows.treeHoldsSpec).at F0).post enc Tryd.prog Tryd.f8 false true false false) := by
  have hr := reads os enc
  obtain ⟨x, hx, hx2⟩ := Option.map_eq_some_iff.1 hr
  have hok : Input.okWideB Tryd.checked.prog ((World.laidAll Tryd.prog os Rows.treeHoldsUptoRow.laid).forCall (fun _ _ => 0) ⟨#[], #[.agg #[.slice none 0 0, .slice none 0 0, .slice none 0 0, .int .i64 0, .int .u8 0]], []⟩) 8 ⟨#[], #[.agg #[.slice none 0 0, .slice none 0 0, .slice none 0 0, .int .i64 0, .int .u8 0]], []⟩ = true := by kernel_rfl
  refine returnsInHanded_of_row (C := Tryd.checked) (s := Rows.OpenSpec.upto Rows.treeHoldsSpec) own started (by kernel_rfl) Tryd.func8
    (witness_row_shaped (enc := enc) (C := Tryd.checked) (os := os) (s := Rows.OpenSpec.upto Rows.treeHoldsSpec) false (World.laidAll Tryd.prog os Rows.treeHoldsUptoRow.laid) #[.agg #[.slice none 0 0, .slice none 0 0, .slice none 0 0, .int .i64 0, .int .u8 0]] (World.laidAll_os _ _ _) (World.shaped_of_ZipB (by kernel_rfl) (by kernel_rfl)) hok
      (OpenSpec.preRow_of_cond 8 hx (by kernel_rfl) (fun k hk => by cases hk; exact hx2) (by kernel_rfl) (by rw [MakeChecks.laidMetH_plain _ _ _ (by kernel_rfl)]; exact laidMet_laidAll _ (by kernel_rfl) (by kernel_rfl)))) ?_
  clear hr hx hx2 hok
  intro W base args ds gs before hval0 hW hcnd hk hsz hL _ _
  have hbulk := hk _ rfl
  have hT := tab_of_laid hL
  have hval : ∀ (j : Nat) t v, Tryd.f8.params[j]? = some t → args[j]? = some v → Value.okWide Tryd.prog W .any base t v := hval0
  have hW' := hW
  obtain ⟨p, q, hA0, hV, rfl, hfz, hnd⟩ := hW
  have hA : DataW.TrodAll enc Tryd.prog W 0 (fun _ => true) true Tryd.f8.params.toList args.toList ds p := hA0
  rw [Tryd.params8] at hA hval
  obtain ⟨v0, vs0, d0, ds0, p0, q0, hargs, rfl, rfl, h0, r0⟩ := trodAll_cons hA
  obtain ⟨rfl, rfl, rfl⟩ := trodAll_nil r0
  obtain rfl : args = #[v0] := by cases args; simp_all
  obtain ⟨rfl, rfl⟩ := trodVars_none hV
  have k0 := h0
  have lt0 : ∀ x ∈ p0, x.block < W.heap.size := by obtain ⟨m, hm⟩ := k0; exact DataW.trod_lt m _ _ _ hm
  obtain ⟨q0, n0, c0, g0, q1, n1, c1, g1, q2, n2, c2, g2, z0, b0, rfl, y0, y1, y2, w0, u0, x0⟩ := open_bound (hval 0 57 v0 rfl rfl) h0
  have z3 : Rows.uptoBulk d0 ≤ 1048576 := by
    simp only [Rows.uptoSmall, decide_eq_true_eq, List.append_nil, Rows.uptoBulkAll] at hbulk
    omega
  clear hA0 hval0
  refine (walk q0 n0 c0 g0 q1 n1 c1 g1 q2 n2 c2 z0 b0 W hT y0 y1 u0 (by omega)).mono fun e W' ⟨he, bel⟩ => ?_
  subst he
  exact ⟨_, rfl, _, _, _, [], _, [], hW', trodAll_mk1 (shut_bool Tryd.underlying4 _), (trodAll_cons_mk (Below.trod laidOut (by kernel_rfl) (of_decide_eq_true (by kernel_rfl)) k0 bel lt0) trodAll_mk0), rfl, bel.frame _, fun h => by cases h⟩

theorem over : Rows.TreeHoldsUptoSaid :=
  OpenClaim.holds_of_cond 8 Tryd.f8 rfl rfl rfl rfl rfl rfl rfl ⟨rfl, rfl, rfl, rfl, rfl⟩ rfl rfl rfl rfl rfl (by kernel_rfl) Tryd.func8 (by kernel_rfl)
    (of_decide_eq_true (by kernel_rfl)) (by unfold Func.isWrapper; first | (rw [if_pos (by decide +kernel)]; kernel_rfl) | (rw [if_neg (by decide +kernel)]; exact ⟨rfl, rfl⟩))
    (fun os started H enc _ F0 => by rw [OpenClaim.pre_eq_preRow]; exact lifted os started H enc F0)

set_option maxRecDepth 100000 in
theorem proved : Rows.TreeHoldsUptoCardSaid :=
  Claim7.holds_tied_plain_at .later [] [.data] true (true, "9cdaf957ca4f470c175790aa6dd30bf08ec4d45d6deccd3b138243499fd01b2a") true
    over (fun _ h => by cases h) (by kernel_rfl) (fun _ h => by cases h) treeHoldsUpto_row_tie rfl ⟨rfl, rfl⟩ (by kernel_rfl) rfl
    (fun f fn hf hfn => by
      obtain rfl : f = 8 := Option.some.inj ((show Tryd.prog.funcNamed "citadel/citadellaw11.TreeHolds" = some 8 by kernel_rfl).symm.trans hf) |>.symm
      obtain rfl : fn = Tryd.f8 := (Option.some.inj (Tryd.func8.symm.trans hfn)).symm
      exact ⟨by kernel_rfl, fun j t ht => by
        rw [Tryd.params8] at ht
        rcases j with _ | j
        · obtain rfl : t = 57 := by simpa using ht.symm
          exact (show Tryd.prog.wantsStandIn 57 = false by kernel_rfl)
        · simp at ht⟩)
    (by kernel_rfl)
end Go.Proofs.YtbdldnhpgpjnoaaDoor.treeHolds
