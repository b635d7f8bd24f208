/- The contract of Get. Conditions: the cache lies in memory, its lines are good. -/
import Derived.Test.YtlaclakndleonaaCmOps
namespace Go.Proofs.Ytlaclakndleonaa
open Go.ChangeShapes Go.WideShapes Go.ChangeAt Go.RowKit
set_option linter.unusedVariables false
attribute [local irreducible] findL outL lineC lineAt cleanL placeC gotL keysL getL lineV
theorem Get_nil (u b : Int) (w : World) : Calls Try.prog 12 #[.pointer none, .int .i64 u, .int .i64 b] w fun e w' => e = .returned (.tuple #[lineV noLine, .bool false]) ∧ Below w.heap.size w w' := by
  go_enter Try.func12, Try.ntmps12
  go_wp2_with (first
    | (refine wpList_box_new rfl rfl w.heap.size rfl ?_
       intro w1 b1 l1 s1
       have B1 := Lib.hid b1
       have L1 := Lib.hid l1
       clear b1 l1 s1)
    | (refine wpList_line_build0 rfl rfl ?_)
    | (refine wpList_box_put rfl _ _ rfl rfl w.heap.size noLine noLine rfl rfl B1.out ?_
       intro w2 b2 k2 s2
       have B2 := Lib.hid b2
       have L2 := Lib.hid (L1.out.trans (k2.below L1.out.size (fun k hk e => by omega)))
       clear b2 k2 s2))
  exact bodyPost_ret (results_cell_row_tmp rfl _ _ w.heap.size 42 (lineC noLine).toArray (0, 0) _ rfl B2.out Try.underlying42 rfl (lineA_size _)) rfl ⟨by unfold lineV; rfl, L2.out⟩
set_option maxRecDepth 100000 in
set_option maxHeartbeats 4000000 in
theorem Get_any {w : World} {B M : Nat} {q : Int} {v : Value} {ls : List LineOf} (h : CS w B M q v ls (keysL ls)) (g : GoodL q ls) (u b : Int) (hu : okI u) (hb : okI b) :
    Calls Try.prog 12 #[.pointer (some ⟨B, 0, none⟩), .int .i64 u, .int .i64 b] w fun e w' => e = .returned (.tuple #[lineV (gotL ls u b), .bool (decide (findL ls u b < ls.length))]) ∧ CT w w' B M q v (getL ls u b) (keysL (getL ls u b)) := by
  have HA := Lib.hid g.ap
  have HC := Lib.hid h
  have HCS := Lib.hid (fun (W : World) (hW : Below w.heap.size w W) => h.below hW)
  have HUS := Lib.hid (fun (W : World) (hW : Below w.heap.size w W) => use_tree (h.below hW) u b (by rw [keysL_len]; have := g.few; have := g.high; omega))
  have HNS := Lib.hid (fun k (hk : w.heap.size ≤ k) => (show ¬ csS B M v k from fun e => by have := h.own_lt e; omega))
  have HGK := Lib.hid (fun hf : findL ls u b < ls.length => keys_get HA.out hf)
  have HMV := Lib.hid (fun (W : World) ks (hf : findL ls u b < ls.length) (k : CT w W B M q v ls ks) => k.moved HA.out hf)
  have HGN := Lib.hid (fun hf : ¬ findL ls u b < ls.length => get_none hf)
  clear h g
  by_cases hf : findL ls u b < ls.length
  · have HF := Lib.hid hf
    have ef := decide_eq_true hf
    rw [ef]
    clear hf
    generalize hx : gotL ls u b = x at *
    have HX := Lib.hid hx
    have HEF := Lib.hid ef
    clear hx ef
    generalize hfl : findL ls u b = fi at *
    generalize hln : ls.length = n at *
    go_enter Try.func12, Try.ntmps12
    go_wp2_with (first
      | (refine wpList_box_new rfl rfl w.heap.size rfl ?_
         intro w1 b1 l1 s1
         have B1 := Lib.hid b1
         have L1 := Lib.hid l1
         have S1 := Lib.hid s1
         clear b1 l1 s1))
    have L2 := Lib.hid (show Below w.heap.size w (w1.alloc (.cells #[.int .i64 u, .int .i64 b] plT)).drew from (L1.out.alloc L1.out.size _).drew)
    have P2 := Lib.hid (show PlBox (w1.alloc (.cells #[.int .i64 u, .int .i64 b] plT)).drew w1.heap.size u b from PlBox.alloc w1 u b)
    have R2 := Lib.hid (show LineBox (w1.alloc (.cells #[.int .i64 u, .int .i64 b] plT)).drew w.heap.size noLine from B1.out.keep (Below.heap_alloc _ _ _ B1.out.lt))
    refine wp_region_sched [(0, true), (1, true), (2, true), (3, true), (4, true), (5, true), (6, true), (7, true), (8, true), (9, false), (10, false), (11, true)] (fun V => Below w.heap.size w V ∧ PlBox V w1.heap.size u b) (by kernel_rfl) (by kernel_rfl) ⟨L2.out, P2.out⟩ ?_
    refine walk_float rfl rfl (fun K hK => ?_)
    refine gives_move _ rfl ?_
    go_simp
    refine hK _ ?_
    clear hK K
    refine walk_float rfl rfl (fun K hK => ?_)
    refine gives_nil_check _ rfl ⟨B, 0, none⟩ rfl ?_
    go_simp
    refine hK _ ?_
    clear hK K
    refine walk_float rfl rfl (fun K hK => ?_)
    refine gives_cafield _ 1 rfl (by decide) B rfl ?_
    go_simp
    refine hK _ ?_
    clear hK K
    refine walk_float rfl rfl (fun K hK => ?_)
    refine gives_cell mapT _ rfl ⟨B, 1, none⟩ _ rfl box_map (fun V hV => (HCS.out V hV.1).c1) ?_
    go_simp
    refine hK _ ?_
    clear hK K
    refine walk_float rfl rfl (fun K hK => ?_)
    refine gives_pl_load _ rfl w1.heap.size 0 rfl u b (fun V hV => hV.2.range) ?_
    go_simp
    refine hK _ ?_
    clear hK K
    refine walk_float rfl rfl (fun K hK => ?_)
    refine gives_look_ok _ _ rfl M ls u b rfl rfl hu hb (fun V hV => (HCS.out V hV.1).map) ?_
    rw [HX.out, hfl, hln, HEF.out]
    go_simp
    refine hK _ ?_
    clear hK K
    refine walk_float rfl rfl (fun K hK => ?_)
    refine gives_move _ rfl ?_
    go_simp
    refine hK _ ?_
    clear hK K
    refine walk_float rfl rfl (fun K hK => ?_)
    refine gives_part _ 0 rfl _ (lineV x) rfl rfl ?_
    go_simp
    refine hK _ ?_
    clear hK K
    refine walk_float rfl rfl (fun K hK => ?_)
    refine gives_part _ 1 rfl _ (.bool true) rfl rfl ?_
    go_simp
    refine hK _ ?_
    clear hK K
    refine walk_done rfl rfl (fun K hK => ?_)
    refine done_box_new rfl (w1.heap.size + 1) (World.size_alloc _ _) ?_
    intro w3 b3 l3 s3
    have B3 := Lib.hid b3
    have L3 := Lib.hid (L2.out.trans (l3.mono L2.out.size))
    have P3 := Lib.hid (P2.out.keep (l3.block _ P2.out.lt))
    have R3 := Lib.hid (R2.out.keep (l3.block _ R2.out.lt))
    clear b3 l3 s3
    refine ⟨⟨L3.out, P3.out⟩, ?_⟩
    go_simp
    refine hK _ _ ?_
    clear hK K
    refine walk_done rfl rfl (fun K hK => ?_)
    refine done_box_put _ _ rfl (w1.heap.size + 1) x noLine rfl rfl B3.out ?_
    intro w4 b4 k4 s4
    have X4 := Lib.hid b4
    have L4 := Lib.hid (L3.out.trans (k4.below L3.out.size (fun k hk e => by have := L1.out.size; omega)))
    have P4 := Lib.hid (P3.out.keep (k4.block _ P3.out.lt (by omega)))
    have R4 := Lib.hid (R3.out.keep (k4.block _ R3.out.lt (by have := L1.out.size; omega)))
    clear b4 k4 s4
    refine ⟨⟨L4.out, P4.out⟩, ?_⟩
    go_simp
    refine hK _ _ ?_
    clear hK K
    refine walk_float rfl rfl (fun K hK => ?_)
    refine gives_assign _ rfl ?_
    go_simp
    refine hK _ ?_
    clear hK K
    refine walk_nil ?_
    go_wp2_with (first
      | (refine wpList_pl_load rfl _ rfl w1.heap.size 0 rfl u b P4.out.range ?_)
      | (go_at_call 26
         refine (HUS.out w4 L4.out).mono ?_; rintro e w5 ⟨rfl, t5⟩
         have T5 := Lib.hid t5
         have X5 := Lib.hid (X4.out.keep (CT.other (HCS.out w4 L4.out) t5 X4.out.lt (HNS.out _ (by have := L1.out.size; omega))))
         have R5 := Lib.hid (R4.out.keep (CT.other (HCS.out w4 L4.out) t5 R4.out.lt (HNS.out _ (Nat.le_refl _))))
         clear t5)
      | (refine wpList_line_load rfl _ rfl (w1.heap.size + 1) 0 rfl x X5.out.range ?_)
      | (refine wpList_box_put rfl _ _ rfl rfl w.heap.size x noLine rfl rfl R5.out ?_
         intro w6 b6 k6 s6
         have B6 := Lib.hid b6
         have T6 := Lib.hid (CT.boxed HC.out L4.out T5.out (Nat.le_refl _) R4.out.lt k6)
         clear b6 k6 s6))
    have T7 := Lib.hid (HMV.out w6 _ HF.out T6.out)
    rw [HGK.out HF.out] at T7
    exact bodyPost_ret (results_cell_row_tmp rfl _ _ w.heap.size 42 (lineC x).toArray (0, 0) _ rfl B6.out Try.underlying42 rfl (lineA_size _)) rfl ⟨by unfold lineV; rfl, T7.out⟩
  · have HF := Lib.hid hf
    have ef := decide_eq_false hf
    rw [ef, HGN.out hf]
    have hx : gotL ls u b = noLine := got_none hf
    rw [hx]
    have HX := Lib.hid hx
    have HEF := Lib.hid ef
    clear hf ef hx
    generalize hfl : findL ls u b = fi at *
    generalize hln : ls.length = n at *
    go_enter Try.func12, Try.ntmps12
    go_wp2_with (first
      | (refine wpList_box_new rfl rfl w.heap.size rfl ?_
         intro w1 b1 l1 s1
         have B1 := Lib.hid b1
         have L1 := Lib.hid l1
         have S1 := Lib.hid s1
         clear b1 l1 s1))
    have L2 := Lib.hid (show Below w.heap.size w (w1.alloc (.cells #[.int .i64 u, .int .i64 b] plT)).drew from (L1.out.alloc L1.out.size _).drew)
    have P2 := Lib.hid (show PlBox (w1.alloc (.cells #[.int .i64 u, .int .i64 b] plT)).drew w1.heap.size u b from PlBox.alloc w1 u b)
    have R2 := Lib.hid (show LineBox (w1.alloc (.cells #[.int .i64 u, .int .i64 b] plT)).drew w.heap.size noLine from B1.out.keep (Below.heap_alloc _ _ _ B1.out.lt))
    refine wp_region_sched [(0, true), (1, true), (2, true), (3, true), (4, true), (5, true), (6, true), (7, true), (8, true), (9, false), (10, false), (11, true)] (fun V => Below w.heap.size w V ∧ PlBox V w1.heap.size u b) (by kernel_rfl) (by kernel_rfl) ⟨L2.out, P2.out⟩ ?_
    refine walk_float rfl rfl (fun K hK => ?_)
    refine gives_move _ rfl ?_
    go_simp
    refine hK _ ?_
    clear hK K
    refine walk_float rfl rfl (fun K hK => ?_)
    refine gives_nil_check _ rfl ⟨B, 0, none⟩ rfl ?_
    go_simp
    refine hK _ ?_
    clear hK K
    refine walk_float rfl rfl (fun K hK => ?_)
    refine gives_cafield _ 1 rfl (by decide) B rfl ?_
    go_simp
    refine hK _ ?_
    clear hK K
    refine walk_float rfl rfl (fun K hK => ?_)
    refine gives_cell mapT _ rfl ⟨B, 1, none⟩ _ rfl box_map (fun V hV => (HCS.out V hV.1).c1) ?_
    go_simp
    refine hK _ ?_
    clear hK K
    refine walk_float rfl rfl (fun K hK => ?_)
    refine gives_pl_load _ rfl w1.heap.size 0 rfl u b (fun V hV => hV.2.range) ?_
    go_simp
    refine hK _ ?_
    clear hK K
    refine walk_float rfl rfl (fun K hK => ?_)
    refine gives_look_ok _ _ rfl M ls u b rfl rfl hu hb (fun V hV => (HCS.out V hV.1).map) ?_
    rw [HX.out, hfl, hln, HEF.out]
    go_simp
    refine hK _ ?_
    clear hK K
    refine walk_float rfl rfl (fun K hK => ?_)
    refine gives_move _ rfl ?_
    go_simp
    refine hK _ ?_
    clear hK K
    refine walk_float rfl rfl (fun K hK => ?_)
    refine gives_part _ 0 rfl _ (lineV noLine) rfl rfl ?_
    go_simp
    refine hK _ ?_
    clear hK K
    refine walk_float rfl rfl (fun K hK => ?_)
    refine gives_part _ 1 rfl _ (.bool false) rfl rfl ?_
    go_simp
    refine hK _ ?_
    clear hK K
    refine walk_done rfl rfl (fun K hK => ?_)
    refine done_box_new rfl (w1.heap.size + 1) (World.size_alloc _ _) ?_
    intro w3 b3 l3 s3
    have B3 := Lib.hid b3
    have L3 := Lib.hid (L2.out.trans (l3.mono L2.out.size))
    have P3 := Lib.hid (P2.out.keep (l3.block _ P2.out.lt))
    have R3 := Lib.hid (R2.out.keep (l3.block _ R2.out.lt))
    clear b3 l3 s3
    refine ⟨⟨L3.out, P3.out⟩, ?_⟩
    go_simp
    refine hK _ _ ?_
    clear hK K
    refine walk_done rfl rfl (fun K hK => ?_)
    refine done_box_put _ _ rfl (w1.heap.size + 1) noLine noLine rfl rfl B3.out ?_
    intro w4 b4 k4 s4
    have X4 := Lib.hid b4
    have L4 := Lib.hid (L3.out.trans (k4.below L3.out.size (fun k hk e => by have := L1.out.size; omega)))
    have P4 := Lib.hid (P3.out.keep (k4.block _ P3.out.lt (by omega)))
    have R4 := Lib.hid (R3.out.keep (k4.block _ R3.out.lt (by have := L1.out.size; omega)))
    clear b4 k4 s4
    refine ⟨⟨L4.out, P4.out⟩, ?_⟩
    go_simp
    refine hK _ _ ?_
    clear hK K
    refine walk_float rfl rfl (fun K hK => ?_)
    refine gives_assign _ rfl ?_
    go_simp
    refine hK _ ?_
    clear hK K
    refine walk_nil ?_
    go_wp2_with (first
      | (refine wpList_line_load rfl _ rfl (w1.heap.size + 1) 0 rfl noLine X4.out.range ?_)
      | (refine wpList_box_put rfl _ _ rfl rfl w.heap.size noLine noLine rfl rfl R4.out ?_
         intro w6 b6 k6 s6
         have B6 := Lib.hid b6
         have T6 := Lib.hid (HC.out.stay (L4.out.trans (k6.below L4.out.size (fun k hk e => by omega))))
         clear b6 k6 s6))
    exact bodyPost_ret (results_cell_row_tmp rfl _ _ w.heap.size 42 (lineC noLine).toArray (0, 0) _ rfl B6.out Try.underlying42 rfl (lineA_size _)) rfl ⟨by unfold lineV; rfl, T6.out⟩
end Go.Proofs.Ytlaclakndleonaa
