/- The contract of Put. Conditions: the cache lies in memory, its lines are good. -/
import Derived.Test.YtlaclakndleonaaCmGet
namespace Go.Proofs.Ytlaclakndleonaa
open Go.ChangeShapes Go.WideShapes Go.ChangeAt Go.RowKit
set_option linter.unusedVariables false
theorem wpList_box_of {ops : Array Oper} {rest : List Oper} {o : Oper} {a : Act} {w : World} {Q : Exit → Act → World → Prop} (hgd : o.guard = none) (x : Operand) (ho : o.op = .box 42 x) (l : LineOf) (hx : a.eval x = lineV l)
    (h : ∀ w', LineBox w' w.heap.size l → Below w.heap.size w w' → w'.heap.size = w.heap.size + 1 → wpList Try.prog ops Q rest (a.put o.dst (.pointer (some ⟨w.heap.size, 0, none⟩))) w') : wpList Try.prog ops Q (o :: rest) a w :=
  wpList_plain hgd fun K hK => by
    unfold Oper.wp execOp
    unfold lineV at hx
    simp only [ho, hx]
    simp [go_sem]
    exact hK _ _ (h _ (LineBox.alloc w l) ((Below.refl _ w).alloc (Nat.le_refl _) _) (World.size_alloc _ _))
/-- A line is laid in the place of the block's elder one, or behind all. -/
def placeIn (ls : List LineOf) (l : LineOf) : List LineOf := if findL ls l.u l.b < ls.length then outL ls (findL ls l.u l.b) ++ [l] else ls ++ [l]
theorem place_keys {ls : List LineOf} (ha : Apart ls) (l : LineOf) : without (keysL ls) l.u l.b ++ [(l.u, l.b)] = keysL (placeIn ls l) := by
  unfold placeIn
  split
  · rename_i hf
    rw [keys_out ha l.u l.b hf, keysL_app]; rfl
  · rename_i hf
    rw [keys_no l.u l.b hf, keysL_app]; rfl
theorem room_sub {q : Int} {ls : List LineOf} {y : LineOf} (h : y ∈ roomL q ls) : y ∈ ls := by
  unfold roomL at h
  split at h
  · exact h
  · split at h
    · exact mem_out h
    · exact h
theorem room_apart {q : Int} {ls : List LineOf} (h : Apart ls) : Apart (roomL q ls) := by
  unfold roomL
  split
  · exact h
  · split
    · exact outL_apart h _
    · exact h
theorem room_len {q : Int} {ls : List LineOf} : (roomL q ls).length ≤ ls.length := by
  unfold roomL
  split
  · exact Nat.le_refl _
  · split
    · rename_i hc; rw [outL_len hc]; omega
    · exact Nat.le_refl _
theorem put_old {q : Int} {ls : List LineOf} {l : LineOf} (hf : findL ls l.u l.b < ls.length) : putN q ls l = 0 ∧ putS q ls l = placeIn ls { l with d := l.d || (gotL ls l.u l.b).d } := by
  refine ⟨if_pos hf, ?_⟩
  unfold putS placeIn
  rw [if_pos hf]
  show _ = if findL ls l.u l.b < ls.length then _ else _
  rw [if_pos hf, got_in hf]
theorem put_new {q : Int} {ls : List LineOf} {l : LineOf} (hf : ¬ findL ls l.u l.b < ls.length) (hr : roomB q ls = true) : putN q ls l = 0 ∧ putS q ls l = placeIn (roomL q ls) l := by
  have hno : ¬ findL (roomL q ls) l.u l.b < (roomL q ls).length := find_of_no fun y hy => find_no hf y (room_sub hy)
  unfold putN putS placeIn
  rw [if_neg hf, if_neg hf, if_neg hno]
  unfold roomB at hr
  unfold roomL
  by_cases h1 : (ls.length : Int) < q
  · have h2 : ¬ q ≤ (ls.length : Int) := by omega
    rw [if_neg h2, if_neg h2, if_pos h1]; exact ⟨rfl, rfl⟩
  · have h2 : q ≤ (ls.length : Int) := by omega
    rw [decide_eq_false h1, Bool.false_or] at hr
    have h3 := of_decide_eq_true hr
    rw [if_pos h2, if_pos h2, if_pos h3, if_pos h3, if_neg h1, if_pos h3]; exact ⟨rfl, rfl⟩
theorem put_full {q : Int} {ls : List LineOf} {l : LineOf} (hf : ¬ findL ls l.u l.b < ls.length) (hr : roomB q ls = false) : putN q ls l = 7 ∧ putS q ls l = ls ∧ roomL q ls = ls := by
  unfold roomB at hr
  rw [Bool.or_eq_false_iff] at hr
  have h1 := of_decide_eq_false hr.1
  have h3 := of_decide_eq_false hr.2
  have h2 : q ≤ (ls.length : Int) := by omega
  unfold putN putS roomL
  rw [if_neg hf, if_neg hf, if_pos h2, if_pos h2, if_neg h3, if_neg h3, if_neg h1, if_neg h3]; exact ⟨rfl, rfl, rfl⟩
theorem errN_full : errN 7 = .iface 30 (.int .i64 7) := if_neg (by decide)
/-- The map is turned by a store, and the order is what it was. -/
theorem CT.stored {w w6 w7 : World} {B M : Nat} {q : Int} {v v6 : Value} {ls1 ls2 : List LineOf} {ks : List (Int × Int)} (h : CT w w6 B M q v ls1 ks) (h6 : CS w6 B M q v6 ls1 ks) (hk : Keeps (fun k => k = M) w6 w7) (hm : MapL w7 M ls2) : CT w w7 B M q v ls2 ks := h.trans fun v1 h1 => by
  obtain rfl : v1 = v6 := Option.some.inj (h1.c2.symm.trans h6.c2)
  exact h6.turn hk hm
theorem CT.then {w w7 w8 : World} {B M : Nat} {q : Int} {v v6 : Value} {ls1 ls2 : List LineOf} {ks ks2 : List (Int × Int)} (h : CT w w7 B M q v ls1 ks) (h7 : CS w7 B M q v6 ls1 ks) (hT : CT w7 w8 B M q v6 ls2 ks2) : CT w w8 B M q v ls2 ks2 := h.trans fun v1 h1 => by
  obtain rfl : v1 = v6 := Option.some.inj (h1.c2.symm.trans h7.c2)
  exact hT
attribute [local irreducible] findL outL lineC lineAt cleanL placeC gotL keysL getL lineV putS putN placeIn roomL roomB errN
theorem Put_nil (l : LineOf) (w : World) : Calls Try.prog 15 #[.pointer none, lineV l] w fun e w' => e = .returned (errN 7) ∧ Below w.heap.size w w' := by
  rw [errN_full]
  go_enter Try.func15, Try.ntmps15
  go_wp2_with (first
    | (refine wpList_box_of rfl _ rfl l rfl ?_
       intro w1 b1 l1 s1
       have L1 := Lib.hid l1
       clear b1 l1 s1))
  go_ret
  exact ⟨rfl, L1.out⟩
set_option maxRecDepth 100000 in
set_option maxHeartbeats 8000000 in
theorem Put_any {w : World} {B M : Nat} {q : Int} {v : Value} {ls : List LineOf} (h : CS w B M q v ls (keysL ls)) (g : GoodL q ls) (l : LineOf) (hl : l.ok) :
    Calls Try.prog 15 #[.pointer (some ⟨B, 0, none⟩), lineV l] w fun e w' => e = .returned (errN (putN q ls l)) ∧ CT w w' B M q v (putS q ls l) (keysL (putS q ls l)) := by
  have HA := Lib.hid g.ap
  have HC := Lib.hid h
  have HLN := Lib.hid (show ls.length ≤ 8 from by have := g.few; have := g.high; omega)
  have HCS := Lib.hid (fun (W : World) (hW : Below w.heap.size w W) => h.below hW)
  have HMR := Lib.hid (fun (W : World) (hW : Below w.heap.size w W) => makeRoom_any (h.below hW) g)
  have HNS := Lib.hid (fun k (hk : w.heap.size ≤ k) => (show ¬ csS B M v k from fun e => by have := h.own_lt e; omega))
  have HML := Lib.hid h.map.lt
  have HPO := Lib.hid (fun hf => put_old (q := q) (ls := ls) (l := l) hf)
  have HPN := Lib.hid (fun hf hr => put_new (q := q) (ls := ls) (l := l) hf hr)
  have HPF := Lib.hid (fun hf hr => put_full (q := q) (ls := ls) (l := l) hf hr)
  have HRA := Lib.hid (room_apart (q := q) HA.out)
  have HRL := Lib.hid (show (roomL q ls).length ≤ 8 from Nat.le_trans room_len HLN.out)
  have hu := hl.2.1
  have hb := hl.2.2
  have HOK := Lib.hid (show ∀ d, ({ l with d := d } : LineOf).ok from fun d => ⟨hl.1, hl.2.1, hl.2.2⟩)
  clear h g hl
  obtain ⟨u, b, s, d⟩ := l
  dsimp only at hu hb
  by_cases hf : findL ls u b < ls.length
  · have HF := Lib.hid hf
    have ef := decide_eq_true hf
    obtain ⟨eN, eS⟩ := HPO.out hf
    generalize hx : gotL ls u b = x at *
    obtain ⟨xu, xb, xs, xd⟩ := x
    have HX := Lib.hid hx
    have HEF := Lib.hid ef
    rw [eN, errN_zero, eS]
    have HPK := Lib.hid (fun d' => place_keys HA.out ⟨u, b, s, d'⟩)
    clear hx ef eN eS hf HPO HPN HPF HMR
    generalize hfl : findL ls u b = fi at *
    generalize hln : ls.length = n at *
    cases d with
    | true =>
      dsimp only [Bool.true_or, Bool.false_or] at *
      go_enter Try.func15, Try.ntmps15
      go_wp2_with (first
        | (refine wpList_box_of rfl _ rfl ⟨u, b, s, true⟩ rfl ?_
           intro w1 b1 l1 s1
           have B1 := Lib.hid b1
           have L1 := Lib.hid l1
           have S1 := Lib.hid s1
           have k0 := (b1.cell 0).trans (lineC_0 _)
           have k1 := (b1.cell 1).trans (lineC_1 _)
           clear b1 l1 s1))
      have L2 := Lib.hid (show Below w.heap.size w (w1.alloc (.cells #[.int .i64 u, .int .i64 b] plT)).drew from (L1.out.alloc L1.out.size _).drew)
      have P2 := Lib.hid (show PlBox (w1.alloc (.cells #[.int .i64 u, .int .i64 b] plT)).drew w1.heap.size u b from PlBox.alloc w1 u b)
      have R2 := Lib.hid (show LineBox (w1.alloc (.cells #[.int .i64 u, .int .i64 b] plT)).drew w.heap.size ⟨u, b, s, true⟩ from B1.out.keep (Below.heap_alloc _ _ _ B1.out.lt))
      clear k0 k1
      refine wp_region_sched [(0, true), (1, true), (2, true), (3, true), (4, true), (5, true), (6, true), (7, true), (8, true), (9, false), (10, false), (11, true)] (fun V => Below w.heap.size w V ∧ PlBox V w1.heap.size u b) (by kernel_rfl) (by kernel_rfl) ⟨L2.out, P2.out⟩ ?_
      refine walk_float rfl rfl (fun K hK => ?_)
      refine gives_move _ rfl ?_
      go_simp
      refine hK _ ?_
      clear hK K
      refine walk_float rfl rfl (fun K hK => ?_)
      refine gives_nil_check _ rfl ⟨B, 0, none⟩ rfl ?_
      go_simp
      refine hK _ ?_
      clear hK K
      refine walk_float rfl rfl (fun K hK => ?_)
      refine gives_cafield _ 1 rfl (by decide) B rfl ?_
      go_simp
      refine hK _ ?_
      clear hK K
      refine walk_float rfl rfl (fun K hK => ?_)
      refine gives_cell mapT _ rfl ⟨B, 1, none⟩ _ rfl box_map (fun V hV => (HCS.out V hV.1).c1) ?_
      go_simp
      refine hK _ ?_
      clear hK K
      refine walk_float rfl rfl (fun K hK => ?_)
      refine gives_pl_load _ rfl w1.heap.size 0 rfl u b (fun V hV => hV.2.range) ?_
      go_simp
      refine hK _ ?_
      clear hK K
      refine walk_float rfl rfl (fun K hK => ?_)
      refine gives_look_ok _ _ rfl M ls u b rfl rfl hu hb (fun V hV => (HCS.out V hV.1).map) ?_
      rw [HX.out, hfl, hln, HEF.out]
      go_simp
      refine hK _ ?_
      clear hK K
      refine walk_float rfl rfl (fun K hK => ?_)
      refine gives_move _ rfl ?_
      go_simp
      refine hK _ ?_
      clear hK K
      refine walk_float rfl rfl (fun K hK => ?_)
      refine gives_part _ 0 rfl _ (lineV ⟨xu, xb, xs, xd⟩) rfl rfl ?_
      go_simp
      refine hK _ ?_
      clear hK K
      refine walk_float rfl rfl (fun K hK => ?_)
      refine gives_part _ 1 rfl _ (.bool true) rfl rfl ?_
      go_simp
      refine hK _ ?_
      clear hK K
      refine walk_done rfl rfl (fun K hK => ?_)
      refine done_box_new rfl (w1.heap.size + 1) (World.size_alloc _ _) ?_
      intro w3 b3 l3 s3
      have B3 := Lib.hid b3
      have L3 := Lib.hid (L2.out.trans (l3.mono L2.out.size))
      have P3 := Lib.hid (P2.out.keep (l3.block _ P2.out.lt))
      have R3 := Lib.hid (R2.out.keep (l3.block _ R2.out.lt))
      clear b3 l3 s3
      refine ⟨⟨L3.out, P3.out⟩, ?_⟩
      go_simp
      refine hK _ _ ?_
      clear hK K
      refine walk_done rfl rfl (fun K hK => ?_)
      refine done_box_put _ _ rfl (w1.heap.size + 1) ⟨xu, xb, xs, xd⟩ noLine rfl rfl B3.out ?_
      intro w4 b4 k4 s4
      have X4 := Lib.hid b4
      have L4 := Lib.hid (L3.out.trans (k4.below L3.out.size (fun k hk e => by have := L1.out.size; omega)))
      have P4 := Lib.hid (P3.out.keep (k4.block _ P3.out.lt (by omega)))
      have R4 := Lib.hid (R3.out.keep (k4.block _ R3.out.lt (by have := L1.out.size; omega)))
      clear b4 k4 s4
      refine ⟨⟨L4.out, P4.out⟩, ?_⟩
      go_simp
      refine hK _ _ ?_
      clear hK K
      refine walk_float rfl rfl (fun K hK => ?_)
      refine gives_assign _ rfl ?_
      go_simp
      refine hK _ ?_
      clear hK K
      refine walk_nil ?_
      have kd0 := box_d R4.out
      have kd1 := box_d X4.out
      have kf0 := R4.out.free 130
      have T5 := Lib.hid (HCS.out w4 L4.out).self
      go_wp2
      have K6 := Lib.hid (show Keeps (fun k => k = w.heap.size) w4 (w4.setCell ⟨w.heap.size, 130, none⟩ (.bool true)) from (Keeps.refl (fun k => k = w.heap.size) w4).setCell (S := fun k => k = w.heap.size) rfl 130 (.bool true))
      have R6 := Lib.hid (R4.out.setD true)
      have P6 := Lib.hid (P4.out.keep (K6.out.block _ P4.out.lt (by have := S1.out; omega)))
      have T6 := Lib.hid (CT.boxed HC.out L4.out T5.out (Nat.le_refl _) R4.out.lt K6.out)
      generalize w4.setCell ⟨w.heap.size, 130, none⟩ (.bool true) = w6 at *
      obtain ⟨v6, h6, -, -⟩ := T6.out
      have H6 := Lib.hid h6
      clear h6
      obtain ⟨w7, r7, m7, k7⟩ := MapL.put (W := w6.drew) (b := M) (ls := ls) (H6.out.map.keep rfl) HA.out (by have := HLN.out; omega) ⟨u, b, s, true⟩ (HOK.out true) (placeIn ls ⟨u, b, s, true⟩) (by unfold placeIn; rfl)
      have K7 := Lib.hid (show Keeps (fun k => k = M) w6 w7 from ((Keeps.refl (fun k => k = M) w6).drew).trans k7)
      have R7 := Lib.hid r7
      have H7 := Lib.hid (H6.out.turned K7.out m7)
      have T7 := Lib.hid (T6.out.stored H6.out K7.out m7)
      have P7 := Lib.hid (P6.out.keep (K7.out.block _ P6.out.lt (by have := HML.out; have := L1.out.size; omega)))
      have Q7 := Lib.hid (R6.out.keep (K7.out.block _ R6.out.lt (by have := HML.out; omega)))
      have C6 := Lib.hid H6.out.c1
      have C7 := Lib.hid H7.out.c1
      have U7 := Lib.hid (use_tree H7.out u b (by rw [keysL_len]; have := HLN.out; omega))
      clear r7 m7 k7
      refine wp_region_sched [(0, true), (1, true), (2, true), (3, true), (4, true), (5, true), (6, false)] (fun V => V.cell? ⟨B, 1, none⟩ = some (.map (some M)) ∧ PlBox V w1.heap.size u b ∧ LineBox V w.heap.size ⟨u, b, s, true⟩) (by kernel_rfl) (by kernel_rfl) ⟨C6.out, P6.out, R6.out⟩ ?_
      refine walk_float rfl rfl (fun K hK => ?_)
      refine gives_move _ rfl ?_
      go_simp
      refine hK _ ?_
      clear hK K
      refine walk_float rfl rfl (fun K hK => ?_)
      refine gives_nil_check _ rfl ⟨B, 0, none⟩ rfl ?_
      go_simp
      refine hK _ ?_
      clear hK K
      refine walk_float rfl rfl (fun K hK => ?_)
      refine gives_cafield _ 1 rfl (by decide) B rfl ?_
      go_simp
      refine hK _ ?_
      clear hK K
      refine walk_float rfl rfl (fun K hK => ?_)
      refine gives_cell mapT _ rfl ⟨B, 1, none⟩ _ rfl box_map (fun V hV => hV.1) ?_
      go_simp
      refine hK _ ?_
      clear hK K
      refine walk_float rfl rfl (fun K hK => ?_)
      refine gives_pl_load _ rfl w1.heap.size 0 rfl u b (fun V hV => hV.2.1.range) ?_
      go_simp
      refine hK _ ?_
      clear hK K
      refine walk_float rfl rfl (fun K hK => ?_)
      refine gives_line_load _ rfl w.heap.size 0 rfl ⟨u, b, s, true⟩ (fun V hV => hV.2.2.range) ?_
      go_simp
      refine hK _ ?_
      clear hK K
      refine walk_done rfl rfl (fun K hK => ?_)
      refine done_update _ _ _ rfl M u b ⟨u, b, s, true⟩ rfl rfl rfl w7 R7.out ?_
      refine ⟨⟨C7.out, P7.out, Q7.out⟩, ?_⟩
      go_simp
      refine hK _ _ ?_
      clear hK K
      refine walk_nil ?_
      go_wp2_with (first
        | (refine wpList_pl_load rfl _ rfl w1.heap.size 0 rfl u b P7.out.range ?_)
        | (go_at_call 26
           refine U7.out.mono ?_; rintro e w8 ⟨rfl, t8⟩
           have T8 := Lib.hid (T7.out.then H7.out t8)
           clear t8))
      go_ret
      have t9 := T8.out
      rw [HPK.out true] at t9
      exact ⟨rfl, t9⟩

    | false =>
      dsimp only [Bool.true_or, Bool.false_or] at *
      go_enter Try.func15, Try.ntmps15
      go_wp2_with (first
        | (refine wpList_box_of rfl _ rfl ⟨u, b, s, false⟩ rfl ?_
           intro w1 b1 l1 s1
           have B1 := Lib.hid b1
           have L1 := Lib.hid l1
           have S1 := Lib.hid s1
           have k0 := (b1.cell 0).trans (lineC_0 _)
           have k1 := (b1.cell 1).trans (lineC_1 _)
           clear b1 l1 s1))
      have L2 := Lib.hid (show Below w.heap.size w (w1.alloc (.cells #[.int .i64 u, .int .i64 b] plT)).drew from (L1.out.alloc L1.out.size _).drew)
      have P2 := Lib.hid (show PlBox (w1.alloc (.cells #[.int .i64 u, .int .i64 b] plT)).drew w1.heap.size u b from PlBox.alloc w1 u b)
      have R2 := Lib.hid (show LineBox (w1.alloc (.cells #[.int .i64 u, .int .i64 b] plT)).drew w.heap.size ⟨u, b, s, false⟩ from B1.out.keep (Below.heap_alloc _ _ _ B1.out.lt))
      clear k0 k1
      refine wp_region_sched [(0, true), (1, true), (2, true), (3, true), (4, true), (5, true), (6, true), (7, true), (8, true), (9, false), (10, false), (11, true)] (fun V => Below w.heap.size w V ∧ PlBox V w1.heap.size u b) (by kernel_rfl) (by kernel_rfl) ⟨L2.out, P2.out⟩ ?_
      refine walk_float rfl rfl (fun K hK => ?_)
      refine gives_move _ rfl ?_
      go_simp
      refine hK _ ?_
      clear hK K
      refine walk_float rfl rfl (fun K hK => ?_)
      refine gives_nil_check _ rfl ⟨B, 0, none⟩ rfl ?_
      go_simp
      refine hK _ ?_
      clear hK K
      refine walk_float rfl rfl (fun K hK => ?_)
      refine gives_cafield _ 1 rfl (by decide) B rfl ?_
      go_simp
      refine hK _ ?_
      clear hK K
      refine walk_float rfl rfl (fun K hK => ?_)
      refine gives_cell mapT _ rfl ⟨B, 1, none⟩ _ rfl box_map (fun V hV => (HCS.out V hV.1).c1) ?_
      go_simp
      refine hK _ ?_
      clear hK K
      refine walk_float rfl rfl (fun K hK => ?_)
      refine gives_pl_load _ rfl w1.heap.size 0 rfl u b (fun V hV => hV.2.range) ?_
      go_simp
      refine hK _ ?_
      clear hK K
      refine walk_float rfl rfl (fun K hK => ?_)
      refine gives_look_ok _ _ rfl M ls u b rfl rfl hu hb (fun V hV => (HCS.out V hV.1).map) ?_
      rw [HX.out, hfl, hln, HEF.out]
      go_simp
      refine hK _ ?_
      clear hK K
      refine walk_float rfl rfl (fun K hK => ?_)
      refine gives_move _ rfl ?_
      go_simp
      refine hK _ ?_
      clear hK K
      refine walk_float rfl rfl (fun K hK => ?_)
      refine gives_part _ 0 rfl _ (lineV ⟨xu, xb, xs, xd⟩) rfl rfl ?_
      go_simp
      refine hK _ ?_
      clear hK K
      refine walk_float rfl rfl (fun K hK => ?_)
      refine gives_part _ 1 rfl _ (.bool true) rfl rfl ?_
      go_simp
      refine hK _ ?_
      clear hK K
      refine walk_done rfl rfl (fun K hK => ?_)
      refine done_box_new rfl (w1.heap.size + 1) (World.size_alloc _ _) ?_
      intro w3 b3 l3 s3
      have B3 := Lib.hid b3
      have L3 := Lib.hid (L2.out.trans (l3.mono L2.out.size))
      have P3 := Lib.hid (P2.out.keep (l3.block _ P2.out.lt))
      have R3 := Lib.hid (R2.out.keep (l3.block _ R2.out.lt))
      clear b3 l3 s3
      refine ⟨⟨L3.out, P3.out⟩, ?_⟩
      go_simp
      refine hK _ _ ?_
      clear hK K
      refine walk_done rfl rfl (fun K hK => ?_)
      refine done_box_put _ _ rfl (w1.heap.size + 1) ⟨xu, xb, xs, xd⟩ noLine rfl rfl B3.out ?_
      intro w4 b4 k4 s4
      have X4 := Lib.hid b4
      have L4 := Lib.hid (L3.out.trans (k4.below L3.out.size (fun k hk e => by have := L1.out.size; omega)))
      have P4 := Lib.hid (P3.out.keep (k4.block _ P3.out.lt (by omega)))
      have R4 := Lib.hid (R3.out.keep (k4.block _ R3.out.lt (by have := L1.out.size; omega)))
      clear b4 k4 s4
      refine ⟨⟨L4.out, P4.out⟩, ?_⟩
      go_simp
      refine hK _ _ ?_
      clear hK K
      refine walk_float rfl rfl (fun K hK => ?_)
      refine gives_assign _ rfl ?_
      go_simp
      refine hK _ ?_
      clear hK K
      refine walk_nil ?_
      have kd0 := box_d R4.out
      have kd1 := box_d X4.out
      have kf0 := R4.out.free 130
      have T5 := Lib.hid (HCS.out w4 L4.out).self
      go_wp2
      have K6 := Lib.hid (show Keeps (fun k => k = w.heap.size) w4 (w4.setCell ⟨w.heap.size, 130, none⟩ (.bool xd)) from (Keeps.refl (fun k => k = w.heap.size) w4).setCell (S := fun k => k = w.heap.size) rfl 130 (.bool xd))
      have R6 := Lib.hid (R4.out.setD xd)
      have P6 := Lib.hid (P4.out.keep (K6.out.block _ P4.out.lt (by have := S1.out; omega)))
      have T6 := Lib.hid (CT.boxed HC.out L4.out T5.out (Nat.le_refl _) R4.out.lt K6.out)
      generalize w4.setCell ⟨w.heap.size, 130, none⟩ (.bool xd) = w6 at *
      obtain ⟨v6, h6, -, -⟩ := T6.out
      have H6 := Lib.hid h6
      clear h6
      obtain ⟨w7, r7, m7, k7⟩ := MapL.put (W := w6.drew) (b := M) (ls := ls) (H6.out.map.keep rfl) HA.out (by have := HLN.out; omega) ⟨u, b, s, xd⟩ (HOK.out xd) (placeIn ls ⟨u, b, s, xd⟩) (by unfold placeIn; rfl)
      have K7 := Lib.hid (show Keeps (fun k => k = M) w6 w7 from ((Keeps.refl (fun k => k = M) w6).drew).trans k7)
      have R7 := Lib.hid r7
      have H7 := Lib.hid (H6.out.turned K7.out m7)
      have T7 := Lib.hid (T6.out.stored H6.out K7.out m7)
      have P7 := Lib.hid (P6.out.keep (K7.out.block _ P6.out.lt (by have := HML.out; have := L1.out.size; omega)))
      have Q7 := Lib.hid (R6.out.keep (K7.out.block _ R6.out.lt (by have := HML.out; omega)))
      have C6 := Lib.hid H6.out.c1
      have C7 := Lib.hid H7.out.c1
      have U7 := Lib.hid (use_tree H7.out u b (by rw [keysL_len]; have := HLN.out; omega))
      clear r7 m7 k7
      refine wp_region_sched [(0, true), (1, true), (2, true), (3, true), (4, true), (5, true), (6, false)] (fun V => V.cell? ⟨B, 1, none⟩ = some (.map (some M)) ∧ PlBox V w1.heap.size u b ∧ LineBox V w.heap.size ⟨u, b, s, xd⟩) (by kernel_rfl) (by kernel_rfl) ⟨C6.out, P6.out, R6.out⟩ ?_
      refine walk_float rfl rfl (fun K hK => ?_)
      refine gives_move _ rfl ?_
      go_simp
      refine hK _ ?_
      clear hK K
      refine walk_float rfl rfl (fun K hK => ?_)
      refine gives_nil_check _ rfl ⟨B, 0, none⟩ rfl ?_
      go_simp
      refine hK _ ?_
      clear hK K
      refine walk_float rfl rfl (fun K hK => ?_)
      refine gives_cafield _ 1 rfl (by decide) B rfl ?_
      go_simp
      refine hK _ ?_
      clear hK K
      refine walk_float rfl rfl (fun K hK => ?_)
      refine gives_cell mapT _ rfl ⟨B, 1, none⟩ _ rfl box_map (fun V hV => hV.1) ?_
      go_simp
      refine hK _ ?_
      clear hK K
      refine walk_float rfl rfl (fun K hK => ?_)
      refine gives_pl_load _ rfl w1.heap.size 0 rfl u b (fun V hV => hV.2.1.range) ?_
      go_simp
      refine hK _ ?_
      clear hK K
      refine walk_float rfl rfl (fun K hK => ?_)
      refine gives_line_load _ rfl w.heap.size 0 rfl ⟨u, b, s, xd⟩ (fun V hV => hV.2.2.range) ?_
      go_simp
      refine hK _ ?_
      clear hK K
      refine walk_done rfl rfl (fun K hK => ?_)
      refine done_update _ _ _ rfl M u b ⟨u, b, s, xd⟩ rfl rfl rfl w7 R7.out ?_
      refine ⟨⟨C7.out, P7.out, Q7.out⟩, ?_⟩
      go_simp
      refine hK _ _ ?_
      clear hK K
      refine walk_nil ?_
      go_wp2_with (first
        | (refine wpList_pl_load rfl _ rfl w1.heap.size 0 rfl u b P7.out.range ?_)
        | (go_at_call 26
           refine U7.out.mono ?_; rintro e w8 ⟨rfl, t8⟩
           have T8 := Lib.hid (T7.out.then H7.out t8)
           clear t8))
      go_ret
      have t9 := T8.out
      rw [HPK.out xd] at t9
      exact ⟨rfl, t9⟩

  · have HF := Lib.hid hf
    have ef := decide_eq_false hf
    have hx : gotL ls u b = noLine := got_none hf
    have HX := Lib.hid hx
    have HEF := Lib.hid ef
    cases hr : roomB q ls with
    | false =>
      obtain ⟨eN, eS, eR⟩ := HPF.out hf hr
      have HR := Lib.hid hr
      have HER := Lib.hid eR
      rw [eN, errN_full, eS]
      clear hx ef eN eS eR hf hr HPO HPN HPF HRA HRL
      generalize hfl : findL ls u b = fi at *
      generalize hln : ls.length = n at *
      go_enter Try.func15, Try.ntmps15
      go_wp2_with (first
        | (refine wpList_box_of rfl _ rfl ⟨u, b, s, d⟩ rfl ?_
           intro w1 b1 l1 s1
           have B1 := Lib.hid b1
           have L1 := Lib.hid l1
           have S1 := Lib.hid s1
           have k0 := (b1.cell 0).trans (lineC_0 _)
           have k1 := (b1.cell 1).trans (lineC_1 _)
           clear b1 l1 s1))
      have L2 := Lib.hid (show Below w.heap.size w (w1.alloc (.cells #[.int .i64 u, .int .i64 b] plT)).drew from (L1.out.alloc L1.out.size _).drew)
      have P2 := Lib.hid (show PlBox (w1.alloc (.cells #[.int .i64 u, .int .i64 b] plT)).drew w1.heap.size u b from PlBox.alloc w1 u b)
      have R2 := Lib.hid (show LineBox (w1.alloc (.cells #[.int .i64 u, .int .i64 b] plT)).drew w.heap.size ⟨u, b, s, d⟩ from B1.out.keep (Below.heap_alloc _ _ _ B1.out.lt))
      clear k0 k1
      refine wp_region_sched [(0, true), (1, true), (2, true), (3, true), (4, true), (5, true), (6, true), (7, true), (8, true), (9, false), (10, false), (11, true)] (fun V => Below w.heap.size w V ∧ PlBox V w1.heap.size u b) (by kernel_rfl) (by kernel_rfl) ⟨L2.out, P2.out⟩ ?_
      refine walk_float rfl rfl (fun K hK => ?_)
      refine gives_move _ rfl ?_
      go_simp
      refine hK _ ?_
      clear hK K
      refine walk_float rfl rfl (fun K hK => ?_)
      refine gives_nil_check _ rfl ⟨B, 0, none⟩ rfl ?_
      go_simp
      refine hK _ ?_
      clear hK K
      refine walk_float rfl rfl (fun K hK => ?_)
      refine gives_cafield _ 1 rfl (by decide) B rfl ?_
      go_simp
      refine hK _ ?_
      clear hK K
      refine walk_float rfl rfl (fun K hK => ?_)
      refine gives_cell mapT _ rfl ⟨B, 1, none⟩ _ rfl box_map (fun V hV => (HCS.out V hV.1).c1) ?_
      go_simp
      refine hK _ ?_
      clear hK K
      refine walk_float rfl rfl (fun K hK => ?_)
      refine gives_pl_load _ rfl w1.heap.size 0 rfl u b (fun V hV => hV.2.range) ?_
      go_simp
      refine hK _ ?_
      clear hK K
      refine walk_float rfl rfl (fun K hK => ?_)
      refine gives_look_ok _ _ rfl M ls u b rfl rfl hu hb (fun V hV => (HCS.out V hV.1).map) ?_
      rw [HX.out, hfl, hln, HEF.out]
      go_simp
      refine hK _ ?_
      clear hK K
      refine walk_float rfl rfl (fun K hK => ?_)
      refine gives_move _ rfl ?_
      go_simp
      refine hK _ ?_
      clear hK K
      refine walk_float rfl rfl (fun K hK => ?_)
      refine gives_part _ 0 rfl _ (lineV noLine) rfl rfl ?_
      go_simp
      refine hK _ ?_
      clear hK K
      refine walk_float rfl rfl (fun K hK => ?_)
      refine gives_part _ 1 rfl _ (.bool false) rfl rfl ?_
      go_simp
      refine hK _ ?_
      clear hK K
      refine walk_done rfl rfl (fun K hK => ?_)
      refine done_box_new rfl (w1.heap.size + 1) (World.size_alloc _ _) ?_
      intro w3 b3 l3 s3
      have B3 := Lib.hid b3
      have L3 := Lib.hid (L2.out.trans (l3.mono L2.out.size))
      have P3 := Lib.hid (P2.out.keep (l3.block _ P2.out.lt))
      have R3 := Lib.hid (R2.out.keep (l3.block _ R2.out.lt))
      clear b3 l3 s3
      refine ⟨⟨L3.out, P3.out⟩, ?_⟩
      go_simp
      refine hK _ _ ?_
      clear hK K
      refine walk_done rfl rfl (fun K hK => ?_)
      refine done_box_put _ _ rfl (w1.heap.size + 1) noLine noLine rfl rfl B3.out ?_
      intro w4 b4 k4 s4
      have X4 := Lib.hid b4
      have L4 := Lib.hid (L3.out.trans (k4.below L3.out.size (fun k hk e => by have := L1.out.size; omega)))
      have P4 := Lib.hid (P3.out.keep (k4.block _ P3.out.lt (by omega)))
      have R4 := Lib.hid (R3.out.keep (k4.block _ R3.out.lt (by have := L1.out.size; omega)))
      clear b4 k4 s4
      refine ⟨⟨L4.out, P4.out⟩, ?_⟩
      go_simp
      refine hK _ _ ?_
      clear hK K
      refine walk_float rfl rfl (fun K hK => ?_)
      refine gives_assign _ rfl ?_
      go_simp
      refine hK _ ?_
      clear hK K
      refine walk_nil ?_
      go_wp2_with (first
        | (go_at_call 29
           refine (HMR.out w4 L4.out).mono ?_; rintro e w5 ⟨rfl, t5⟩
           rw [HR.out]
           have T5 := Lib.hid t5
           have X5 := Lib.hid (X4.out.keep (CT.other (HCS.out w4 L4.out) t5 X4.out.lt (HNS.out _ (by have := L1.out.size; omega))))
           have R5 := Lib.hid (R4.out.keep (CT.other (HCS.out w4 L4.out) t5 R4.out.lt (HNS.out _ (Nat.le_refl _))))
           have P5 := Lib.hid (P4.out.keep (CT.other (HCS.out w4 L4.out) t5 P4.out.lt (HNS.out _ L1.out.size)))
           have kd0 := box_d R5.out
           have kd1 : w5.cell? ⟨w1.heap.size + 1, 130, none⟩ = some (.bool false) := box_d X5.out
           have kf0 := R5.out.free 130
           clear t5))
      go_ret
      have t9 := CT.from HC.out L4.out T5.out
      rw [HER.out] at t9
      exact ⟨rfl, t9⟩

    | true =>
      obtain ⟨eN, eS⟩ := HPN.out hf hr
      have HR := Lib.hid hr
      rw [eN, errN_zero, eS]
      have HPK := Lib.hid (place_keys HRA.out ⟨u, b, s, d⟩)
      clear hx ef eN eS hf hr HPO HPN HPF
      generalize hfl : findL ls u b = fi at *
      generalize hln : ls.length = n at *
      generalize roomL q ls = rs at *
      cases d with
      | true =>
        go_enter Try.func15, Try.ntmps15
        go_wp2_with (first
          | (refine wpList_box_of rfl _ rfl ⟨u, b, s, true⟩ rfl ?_
             intro w1 b1 l1 s1
             have B1 := Lib.hid b1
             have L1 := Lib.hid l1
             have S1 := Lib.hid s1
             have k0 := (b1.cell 0).trans (lineC_0 _)
             have k1 := (b1.cell 1).trans (lineC_1 _)
             clear b1 l1 s1))
        have L2 := Lib.hid (show Below w.heap.size w (w1.alloc (.cells #[.int .i64 u, .int .i64 b] plT)).drew from (L1.out.alloc L1.out.size _).drew)
        have P2 := Lib.hid (show PlBox (w1.alloc (.cells #[.int .i64 u, .int .i64 b] plT)).drew w1.heap.size u b from PlBox.alloc w1 u b)
        have R2 := Lib.hid (show LineBox (w1.alloc (.cells #[.int .i64 u, .int .i64 b] plT)).drew w.heap.size ⟨u, b, s, true⟩ from B1.out.keep (Below.heap_alloc _ _ _ B1.out.lt))
        clear k0 k1
        refine wp_region_sched [(0, true), (1, true), (2, true), (3, true), (4, true), (5, true), (6, true), (7, true), (8, true), (9, false), (10, false), (11, true)] (fun V => Below w.heap.size w V ∧ PlBox V w1.heap.size u b) (by kernel_rfl) (by kernel_rfl) ⟨L2.out, P2.out⟩ ?_
        refine walk_float rfl rfl (fun K hK => ?_)
        refine gives_move _ rfl ?_
        go_simp
        refine hK _ ?_
        clear hK K
        refine walk_float rfl rfl (fun K hK => ?_)
        refine gives_nil_check _ rfl ⟨B, 0, none⟩ rfl ?_
        go_simp
        refine hK _ ?_
        clear hK K
        refine walk_float rfl rfl (fun K hK => ?_)
        refine gives_cafield _ 1 rfl (by decide) B rfl ?_
        go_simp
        refine hK _ ?_
        clear hK K
        refine walk_float rfl rfl (fun K hK => ?_)
        refine gives_cell mapT _ rfl ⟨B, 1, none⟩ _ rfl box_map (fun V hV => (HCS.out V hV.1).c1) ?_
        go_simp
        refine hK _ ?_
        clear hK K
        refine walk_float rfl rfl (fun K hK => ?_)
        refine gives_pl_load _ rfl w1.heap.size 0 rfl u b (fun V hV => hV.2.range) ?_
        go_simp
        refine hK _ ?_
        clear hK K
        refine walk_float rfl rfl (fun K hK => ?_)
        refine gives_look_ok _ _ rfl M ls u b rfl rfl hu hb (fun V hV => (HCS.out V hV.1).map) ?_
        rw [HX.out, hfl, hln, HEF.out]
        go_simp
        refine hK _ ?_
        clear hK K
        refine walk_float rfl rfl (fun K hK => ?_)
        refine gives_move _ rfl ?_
        go_simp
        refine hK _ ?_
        clear hK K
        refine walk_float rfl rfl (fun K hK => ?_)
        refine gives_part _ 0 rfl _ (lineV noLine) rfl rfl ?_
        go_simp
        refine hK _ ?_
        clear hK K
        refine walk_float rfl rfl (fun K hK => ?_)
        refine gives_part _ 1 rfl _ (.bool false) rfl rfl ?_
        go_simp
        refine hK _ ?_
        clear hK K
        refine walk_done rfl rfl (fun K hK => ?_)
        refine done_box_new rfl (w1.heap.size + 1) (World.size_alloc _ _) ?_
        intro w3 b3 l3 s3
        have B3 := Lib.hid b3
        have L3 := Lib.hid (L2.out.trans (l3.mono L2.out.size))
        have P3 := Lib.hid (P2.out.keep (l3.block _ P2.out.lt))
        have R3 := Lib.hid (R2.out.keep (l3.block _ R2.out.lt))
        clear b3 l3 s3
        refine ⟨⟨L3.out, P3.out⟩, ?_⟩
        go_simp
        refine hK _ _ ?_
        clear hK K
        refine walk_done rfl rfl (fun K hK => ?_)
        refine done_box_put _ _ rfl (w1.heap.size + 1) noLine noLine rfl rfl B3.out ?_
        intro w4 b4 k4 s4
        have X4 := Lib.hid b4
        have L4 := Lib.hid (L3.out.trans (k4.below L3.out.size (fun k hk e => by have := L1.out.size; omega)))
        have P4 := Lib.hid (P3.out.keep (k4.block _ P3.out.lt (by omega)))
        have R4 := Lib.hid (R3.out.keep (k4.block _ R3.out.lt (by have := L1.out.size; omega)))
        clear b4 k4 s4
        refine ⟨⟨L4.out, P4.out⟩, ?_⟩
        go_simp
        refine hK _ _ ?_
        clear hK K
        refine walk_float rfl rfl (fun K hK => ?_)
        refine gives_assign _ rfl ?_
        go_simp
        refine hK _ ?_
        clear hK K
        refine walk_nil ?_
        go_wp2_with (first
          | (go_at_call 29
             refine (HMR.out w4 L4.out).mono ?_; rintro e w5 ⟨rfl, t5⟩
             rw [HR.out]
             have T5 := Lib.hid t5
             have X5 := Lib.hid (X4.out.keep (CT.other (HCS.out w4 L4.out) t5 X4.out.lt (HNS.out _ (by have := L1.out.size; omega))))
             have R5 := Lib.hid (R4.out.keep (CT.other (HCS.out w4 L4.out) t5 R4.out.lt (HNS.out _ (Nat.le_refl _))))
             have P5 := Lib.hid (P4.out.keep (CT.other (HCS.out w4 L4.out) t5 P4.out.lt (HNS.out _ L1.out.size)))
             have kd0 := box_d R5.out
             have kd1 : w5.cell? ⟨w1.heap.size + 1, 130, none⟩ = some (.bool false) := box_d X5.out
             have kf0 := R5.out.free 130
             clear t5))
        have K6 := Lib.hid (show Keeps (fun k => k = w.heap.size) w5 (w5.setCell ⟨w.heap.size, 130, none⟩ (.bool true)) from (Keeps.refl (fun k => k = w.heap.size) w5).setCell (S := fun k => k = w.heap.size) rfl 130 (.bool true))
        have R6 := Lib.hid (R5.out.setD true)
        have P6 := Lib.hid (P5.out.keep (K6.out.block _ P5.out.lt (by have := S1.out; omega)))
        have T6 := Lib.hid (CT.boxed HC.out L4.out T5.out (Nat.le_refl _) R4.out.lt K6.out)
        generalize w5.setCell ⟨w.heap.size, 130, none⟩ (.bool true) = w6 at *
        obtain ⟨v6, h6, -, -⟩ := T6.out
        have H6 := Lib.hid h6
        clear h6
        obtain ⟨w7, r7, m7, k7⟩ := MapL.put (W := w6.drew) (b := M) (ls := rs) (H6.out.map.keep rfl) HRA.out (by have := HRL.out; omega) ⟨u, b, s, true⟩ (HOK.out true) (placeIn rs ⟨u, b, s, true⟩) (by unfold placeIn; rfl)
        have K7 := Lib.hid (show Keeps (fun k => k = M) w6 w7 from ((Keeps.refl (fun k => k = M) w6).drew).trans k7)
        have R7 := Lib.hid r7
        have H7 := Lib.hid (H6.out.turned K7.out m7)
        have T7 := Lib.hid (T6.out.stored H6.out K7.out m7)
        have P7 := Lib.hid (P6.out.keep (K7.out.block _ P6.out.lt (by have := HML.out; have := L1.out.size; omega)))
        have Q7 := Lib.hid (R6.out.keep (K7.out.block _ R6.out.lt (by have := HML.out; omega)))
        have C6 := Lib.hid H6.out.c1
        have C7 := Lib.hid H7.out.c1
        have U7 := Lib.hid (use_tree H7.out u b (by rw [keysL_len]; have := HRL.out; omega))
        clear r7 m7 k7
        refine wp_region_sched [(0, true), (1, true), (2, true), (3, true), (4, true), (5, true), (6, false)] (fun V => V.cell? ⟨B, 1, none⟩ = some (.map (some M)) ∧ PlBox V w1.heap.size u b ∧ LineBox V w.heap.size ⟨u, b, s, true⟩) (by kernel_rfl) (by kernel_rfl) ⟨C6.out, P6.out, R6.out⟩ ?_
        refine walk_float rfl rfl (fun K hK => ?_)
        refine gives_move _ rfl ?_
        go_simp
        refine hK _ ?_
        clear hK K
        refine walk_float rfl rfl (fun K hK => ?_)
        refine gives_nil_check _ rfl ⟨B, 0, none⟩ rfl ?_
        go_simp
        refine hK _ ?_
        clear hK K
        refine walk_float rfl rfl (fun K hK => ?_)
        refine gives_cafield _ 1 rfl (by decide) B rfl ?_
        go_simp
        refine hK _ ?_
        clear hK K
        refine walk_float rfl rfl (fun K hK => ?_)
        refine gives_cell mapT _ rfl ⟨B, 1, none⟩ _ rfl box_map (fun V hV => hV.1) ?_
        go_simp
        refine hK _ ?_
        clear hK K
        refine walk_float rfl rfl (fun K hK => ?_)
        refine gives_pl_load _ rfl w1.heap.size 0 rfl u b (fun V hV => hV.2.1.range) ?_
        go_simp
        refine hK _ ?_
        clear hK K
        refine walk_float rfl rfl (fun K hK => ?_)
        refine gives_line_load _ rfl w.heap.size 0 rfl ⟨u, b, s, true⟩ (fun V hV => hV.2.2.range) ?_
        go_simp
        refine hK _ ?_
        clear hK K
        refine walk_done rfl rfl (fun K hK => ?_)
        refine done_update _ _ _ rfl M u b ⟨u, b, s, true⟩ rfl rfl rfl w7 R7.out ?_
        refine ⟨⟨C7.out, P7.out, Q7.out⟩, ?_⟩
        go_simp
        refine hK _ _ ?_
        clear hK K
        refine walk_nil ?_
        go_wp2_with (first
          | (refine wpList_pl_load rfl _ rfl w1.heap.size 0 rfl u b P7.out.range ?_)
          | (go_at_call 26
             refine U7.out.mono ?_; rintro e w8 ⟨rfl, t8⟩
             have T8 := Lib.hid (T7.out.then H7.out t8)
             clear t8))
        go_ret
        have t9 := T8.out
        rw [HPK.out] at t9
        exact ⟨rfl, t9⟩

      | false =>
        go_enter Try.func15, Try.ntmps15
        go_wp2_with (first
          | (refine wpList_box_of rfl _ rfl ⟨u, b, s, false⟩ rfl ?_
             intro w1 b1 l1 s1
             have B1 := Lib.hid b1
             have L1 := Lib.hid l1
             have S1 := Lib.hid s1
             have k0 := (b1.cell 0).trans (lineC_0 _)
             have k1 := (b1.cell 1).trans (lineC_1 _)
             clear b1 l1 s1))
        have L2 := Lib.hid (show Below w.heap.size w (w1.alloc (.cells #[.int .i64 u, .int .i64 b] plT)).drew from (L1.out.alloc L1.out.size _).drew)
        have P2 := Lib.hid (show PlBox (w1.alloc (.cells #[.int .i64 u, .int .i64 b] plT)).drew w1.heap.size u b from PlBox.alloc w1 u b)
        have R2 := Lib.hid (show LineBox (w1.alloc (.cells #[.int .i64 u, .int .i64 b] plT)).drew w.heap.size ⟨u, b, s, false⟩ from B1.out.keep (Below.heap_alloc _ _ _ B1.out.lt))
        clear k0 k1
        refine wp_region_sched [(0, true), (1, true), (2, true), (3, true), (4, true), (5, true), (6, true), (7, true), (8, true), (9, false), (10, false), (11, true)] (fun V => Below w.heap.size w V ∧ PlBox V w1.heap.size u b) (by kernel_rfl) (by kernel_rfl) ⟨L2.out, P2.out⟩ ?_
        refine walk_float rfl rfl (fun K hK => ?_)
        refine gives_move _ rfl ?_
        go_simp
        refine hK _ ?_
        clear hK K
        refine walk_float rfl rfl (fun K hK => ?_)
        refine gives_nil_check _ rfl ⟨B, 0, none⟩ rfl ?_
        go_simp
        refine hK _ ?_
        clear hK K
        refine walk_float rfl rfl (fun K hK => ?_)
        refine gives_cafield _ 1 rfl (by decide) B rfl ?_
        go_simp
        refine hK _ ?_
        clear hK K
        refine walk_float rfl rfl (fun K hK => ?_)
        refine gives_cell mapT _ rfl ⟨B, 1, none⟩ _ rfl box_map (fun V hV => (HCS.out V hV.1).c1) ?_
        go_simp
        refine hK _ ?_
        clear hK K
        refine walk_float rfl rfl (fun K hK => ?_)
        refine gives_pl_load _ rfl w1.heap.size 0 rfl u b (fun V hV => hV.2.range) ?_
        go_simp
        refine hK _ ?_
        clear hK K
        refine walk_float rfl rfl (fun K hK => ?_)
        refine gives_look_ok _ _ rfl M ls u b rfl rfl hu hb (fun V hV => (HCS.out V hV.1).map) ?_
        rw [HX.out, hfl, hln, HEF.out]
        go_simp
        refine hK _ ?_
        clear hK K
        refine walk_float rfl rfl (fun K hK => ?_)
        refine gives_move _ rfl ?_
        go_simp
        refine hK _ ?_
        clear hK K
        refine walk_float rfl rfl (fun K hK => ?_)
        refine gives_part _ 0 rfl _ (lineV noLine) rfl rfl ?_
        go_simp
        refine hK _ ?_
        clear hK K
        refine walk_float rfl rfl (fun K hK => ?_)
        refine gives_part _ 1 rfl _ (.bool false) rfl rfl ?_
        go_simp
        refine hK _ ?_
        clear hK K
        refine walk_done rfl rfl (fun K hK => ?_)
        refine done_box_new rfl (w1.heap.size + 1) (World.size_alloc _ _) ?_
        intro w3 b3 l3 s3
        have B3 := Lib.hid b3
        have L3 := Lib.hid (L2.out.trans (l3.mono L2.out.size))
        have P3 := Lib.hid (P2.out.keep (l3.block _ P2.out.lt))
        have R3 := Lib.hid (R2.out.keep (l3.block _ R2.out.lt))
        clear b3 l3 s3
        refine ⟨⟨L3.out, P3.out⟩, ?_⟩
        go_simp
        refine hK _ _ ?_
        clear hK K
        refine walk_done rfl rfl (fun K hK => ?_)
        refine done_box_put _ _ rfl (w1.heap.size + 1) noLine noLine rfl rfl B3.out ?_
        intro w4 b4 k4 s4
        have X4 := Lib.hid b4
        have L4 := Lib.hid (L3.out.trans (k4.below L3.out.size (fun k hk e => by have := L1.out.size; omega)))
        have P4 := Lib.hid (P3.out.keep (k4.block _ P3.out.lt (by omega)))
        have R4 := Lib.hid (R3.out.keep (k4.block _ R3.out.lt (by have := L1.out.size; omega)))
        clear b4 k4 s4
        refine ⟨⟨L4.out, P4.out⟩, ?_⟩
        go_simp
        refine hK _ _ ?_
        clear hK K
        refine walk_float rfl rfl (fun K hK => ?_)
        refine gives_assign _ rfl ?_
        go_simp
        refine hK _ ?_
        clear hK K
        refine walk_nil ?_
        go_wp2_with (first
          | (go_at_call 29
             refine (HMR.out w4 L4.out).mono ?_; rintro e w5 ⟨rfl, t5⟩
             rw [HR.out]
             have T5 := Lib.hid t5
             have X5 := Lib.hid (X4.out.keep (CT.other (HCS.out w4 L4.out) t5 X4.out.lt (HNS.out _ (by have := L1.out.size; omega))))
             have R5 := Lib.hid (R4.out.keep (CT.other (HCS.out w4 L4.out) t5 R4.out.lt (HNS.out _ (Nat.le_refl _))))
             have P5 := Lib.hid (P4.out.keep (CT.other (HCS.out w4 L4.out) t5 P4.out.lt (HNS.out _ L1.out.size)))
             have kd0 := box_d R5.out
             have kd1 : w5.cell? ⟨w1.heap.size + 1, 130, none⟩ = some (.bool false) := box_d X5.out
             have kf0 := R5.out.free 130
             clear t5))
        have K6 := Lib.hid (show Keeps (fun k => k = w.heap.size) w5 (w5.setCell ⟨w.heap.size, 130, none⟩ (.bool false)) from (Keeps.refl (fun k => k = w.heap.size) w5).setCell (S := fun k => k = w.heap.size) rfl 130 (.bool false))
        have R6 := Lib.hid (R5.out.setD false)
        have P6 := Lib.hid (P5.out.keep (K6.out.block _ P5.out.lt (by have := S1.out; omega)))
        have T6 := Lib.hid (CT.boxed HC.out L4.out T5.out (Nat.le_refl _) R4.out.lt K6.out)
        generalize w5.setCell ⟨w.heap.size, 130, none⟩ (.bool false) = w6 at *
        obtain ⟨v6, h6, -, -⟩ := T6.out
        have H6 := Lib.hid h6
        clear h6
        obtain ⟨w7, r7, m7, k7⟩ := MapL.put (W := w6.drew) (b := M) (ls := rs) (H6.out.map.keep rfl) HRA.out (by have := HRL.out; omega) ⟨u, b, s, false⟩ (HOK.out false) (placeIn rs ⟨u, b, s, false⟩) (by unfold placeIn; rfl)
        have K7 := Lib.hid (show Keeps (fun k => k = M) w6 w7 from ((Keeps.refl (fun k => k = M) w6).drew).trans k7)
        have R7 := Lib.hid r7
        have H7 := Lib.hid (H6.out.turned K7.out m7)
        have T7 := Lib.hid (T6.out.stored H6.out K7.out m7)
        have P7 := Lib.hid (P6.out.keep (K7.out.block _ P6.out.lt (by have := HML.out; have := L1.out.size; omega)))
        have Q7 := Lib.hid (R6.out.keep (K7.out.block _ R6.out.lt (by have := HML.out; omega)))
        have C6 := Lib.hid H6.out.c1
        have C7 := Lib.hid H7.out.c1
        have U7 := Lib.hid (use_tree H7.out u b (by rw [keysL_len]; have := HRL.out; omega))
        clear r7 m7 k7
        refine wp_region_sched [(0, true), (1, true), (2, true), (3, true), (4, true), (5, true), (6, false)] (fun V => V.cell? ⟨B, 1, none⟩ = some (.map (some M)) ∧ PlBox V w1.heap.size u b ∧ LineBox V w.heap.size ⟨u, b, s, false⟩) (by kernel_rfl) (by kernel_rfl) ⟨C6.out, P6.out, R6.out⟩ ?_
        refine walk_float rfl rfl (fun K hK => ?_)
        refine gives_move _ rfl ?_
        go_simp
        refine hK _ ?_
        clear hK K
        refine walk_float rfl rfl (fun K hK => ?_)
        refine gives_nil_check _ rfl ⟨B, 0, none⟩ rfl ?_
        go_simp
        refine hK _ ?_
        clear hK K
        refine walk_float rfl rfl (fun K hK => ?_)
        refine gives_cafield _ 1 rfl (by decide) B rfl ?_
        go_simp
        refine hK _ ?_
        clear hK K
        refine walk_float rfl rfl (fun K hK => ?_)
        refine gives_cell mapT _ rfl ⟨B, 1, none⟩ _ rfl box_map (fun V hV => hV.1) ?_
        go_simp
        refine hK _ ?_
        clear hK K
        refine walk_float rfl rfl (fun K hK => ?_)
        refine gives_pl_load _ rfl w1.heap.size 0 rfl u b (fun V hV => hV.2.1.range) ?_
        go_simp
        refine hK _ ?_
        clear hK K
        refine walk_float rfl rfl (fun K hK => ?_)
        refine gives_line_load _ rfl w.heap.size 0 rfl ⟨u, b, s, false⟩ (fun V hV => hV.2.2.range) ?_
        go_simp
        refine hK _ ?_
        clear hK K
        refine walk_done rfl rfl (fun K hK => ?_)
        refine done_update _ _ _ rfl M u b ⟨u, b, s, false⟩ rfl rfl rfl w7 R7.out ?_
        refine ⟨⟨C7.out, P7.out, Q7.out⟩, ?_⟩
        go_simp
        refine hK _ _ ?_
        clear hK K
        refine walk_nil ?_
        go_wp2_with (first
          | (refine wpList_pl_load rfl _ rfl w1.heap.size 0 rfl u b P7.out.range ?_)
          | (go_at_call 26
             refine U7.out.mono ?_; rintro e w8 ⟨rfl, t8⟩
             have T8 := Lib.hid (T7.out.then H7.out t8)
             clear t8))
        go_ret
        have t9 := T8.out
        rw [HPK.out] at t9
        exact ⟨rfl, t9⟩

end Go.Proofs.Ytlaclakndleonaa
