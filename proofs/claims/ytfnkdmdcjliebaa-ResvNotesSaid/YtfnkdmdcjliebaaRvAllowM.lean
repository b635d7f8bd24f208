/- The contract of the document's Allowed, all of it. Conditions: as it says. -/
import Derived.Test.YtfnkdmdcjliebaaRvAllow
namespace Go.Proofs.Ytfnkdmdcjliebaa
open Go.ChangeShapes Go.WideShapes Go.ChangeAt Go.RowKit
set_option linter.unusedVariables false
attribute [local go_sem] Oper.semAt_some
theorem allowed_is {r : ResvOf} {who acc : Int} (e1 : (r.h == -1) = false) (e2 : holdsR r who = false) (ha : acc = 1 ∨ acc = 2) : allowedR r who acc = if acc == 2 then decide (0 < keyR r.regs who) && (r.t == 3 || r.t == 4) else r.t == 1 || r.t == 3 || r.t == 5 || (r.t == 4 && decide (0 < keyR r.regs who)) := by
  unfold allowedR
  rw [e1, e2]
  rcases ha with rfl | rfl <;> rfl
set_option maxRecDepth 100000 in
set_option maxHeartbeats 8000000 in
theorem refAllowed_any {w : World} {q : Option Addr} {n c : Nat} {r : ResvOf} (hq : RegsAt w q r.regs) (hn : r.regs.length = n) (hl : n ≤ 1000) (who acc : Int) :
    Calls Try.prog 21 #[.agg (resvA q n c r), .int .i64 who, .int .i64 acc] w fun e w' => e = .returned (.bool (allowedR r who acc)) ∧ Below w.heap.size w w' := by
  by_cases ha : acc = 1 ∨ acc = 2
  · have HAC := Lib.hid ha
    by_cases h1 : r.h = -1
    · have ea : allowedR r who acc = true := by rcases ha with rfl | rfl <;> simp [allowedR, h1]
      rw [ea]
      have BX := Lib.hid (RvBox.alloc w q n c r)
      have BB := Lib.hid (box_below w (.cells (resvA q n c r) rvT))
      have c1 : (w.alloc (.cells (resvA q n c r) rvT)).cell? ⟨w.heap.size, 1, none⟩ = some (.int .i64 (-1)) := by rw [← h1]; exact BX.out.c1
      clear hq hn hl h1 ea
      rcases ha with rfl | rfl
      · go_enter Try.func21, Try.ntmps21
        go_wp2
        go_ret
        exact ⟨rfl, BB.out⟩
      · go_enter Try.func21, Try.ntmps21
        go_wp2
        go_ret
        exact ⟨rfl, BB.out⟩
    have e1 : (r.h == -1) = false := by simp [h1]
    cases e2 : holdsR r who with
    | true =>
      have ea : allowedR r who acc = true := by rcases ha with rfl | rfl <;> simp [allowedR, e2]
      rw [ea]
      have BX := Lib.hid (RvBox.alloc w q n c r)
      have BB := Lib.hid (box_below w (.cells (resvA q n c r) rvT))
      have HHO := Lib.hid (refHolds_any (c := c) (RowsAt.below hq BB.out) hn hl who)
      rw [e2] at HHO
      have c1 := BX.out.c1
      clear hq hn hl h1 ea e2
      rcases ha with rfl | rfl
      · go_enter Try.func21, Try.ntmps21
        go_wp2_with (first
          | (with_reducible show wpList _ _ _ (⟨_, Op.load rvT _, _, _, _, _⟩ :: _) _ _
             refine wpList_boxA_loadw rowRv _ rfl rfl w.heap.size (resvA q n c r) rfl rfl (show BoxA _ _ _ _ from BX.out) ?_)
          | (go_at_call 19
             refine HHO.out.mono ?_; rintro e w2 ⟨rfl, hb2⟩
             have B2 := Lib.hid (BB.out.trans (hb2.mono BB.out.size))
             clear hb2 BB BX c1 HHO))
        go_ret
        exact ⟨rfl, B2.out⟩
      · go_enter Try.func21, Try.ntmps21
        go_wp2_with (first
          | (with_reducible show wpList _ _ _ (⟨_, Op.load rvT _, _, _, _, _⟩ :: _) _ _
             refine wpList_boxA_loadw rowRv _ rfl rfl w.heap.size (resvA q n c r) rfl rfl (show BoxA _ _ _ _ from BX.out) ?_)
          | (go_at_call 19
             refine HHO.out.mono ?_; rintro e w2 ⟨rfl, hb2⟩
             have B2 := Lib.hid (BB.out.trans (hb2.mono BB.out.size))
             clear hb2 BB BX c1 HHO))
        go_ret
        exact ⟨rfl, B2.out⟩
    | false =>
      have hal := allowed_is e1 e2 ha
      by_cases ht : 1 ≤ r.t ∧ r.t ≤ 6
      · have h6 : r.t = 1 ∨ r.t = 2 ∨ r.t = 3 ∨ r.t = 4 ∨ r.t = 5 ∨ r.t = 6 := by omega
        by_cases hk : 0 < keyR r.regs who
        · rcases h6 with h | h | h | h | h | h <;> rcases ha with rfl | rfl <;> rw [hal] <;> simp only [h, hk, decide_true]
          · exact allow_1_1_r hq hn hl who e1 e2 h hk
          · exact allow_1_2_r hq hn hl who e1 e2 h hk
          · exact allow_2_1_r hq hn hl who e1 e2 h hk
          · exact allow_2_2_r hq hn hl who e1 e2 h hk
          · exact allow_3_1_r hq hn hl who e1 e2 h hk
          · exact allow_3_2_r hq hn hl who e1 e2 h hk
          · exact allow_4_1_r hq hn hl who e1 e2 h hk
          · exact allow_4_2_r hq hn hl who e1 e2 h hk
          · exact allow_5_1_r hq hn hl who e1 e2 h hk
          · exact allow_5_2_r hq hn hl who e1 e2 h hk
          · exact allow_6_1_r hq hn hl who e1 e2 h hk
          · exact allow_6_2_r hq hn hl who e1 e2 h hk
        · rcases h6 with h | h | h | h | h | h <;> rcases ha with rfl | rfl <;> rw [hal] <;> simp only [h, hk, decide_false]
          · exact allow_1_1_o hq hn hl who e1 e2 h hk
          · exact allow_1_2_o hq hn hl who e1 e2 h hk
          · exact allow_2_1_o hq hn hl who e1 e2 h hk
          · exact allow_2_2_o hq hn hl who e1 e2 h hk
          · exact allow_3_1_o hq hn hl who e1 e2 h hk
          · exact allow_3_2_o hq hn hl who e1 e2 h hk
          · exact allow_4_1_o hq hn hl who e1 e2 h hk
          · exact allow_4_2_o hq hn hl who e1 e2 h hk
          · exact allow_5_1_o hq hn hl who e1 e2 h hk
          · exact allow_5_2_o hq hn hl who e1 e2 h hk
          · exact allow_6_1_o hq hn hl who e1 e2 h hk
          · exact allow_6_2_o hq hn hl who e1 e2 h hk
      · have ea : allowedR r who acc = false := by
          have g1 : (r.t == 1) = false := by simp; omega
          have g3 : (r.t == 3) = false := by simp; omega
          have g4 : (r.t == 4) = false := by simp; omega
          have g5 : (r.t == 5) = false := by simp; omega
          rw [hal, g1, g3, g4, g5]; simp
        rw [ea]
        have BX := Lib.hid (RvBox.alloc w q n c r)
        have BB := Lib.hid (box_below w (.cells (resvA q n c r) rvT))
        have HHO := Lib.hid (refHolds_any (c := c) (RowsAt.below hq BB.out) hn hl who)
        rw [e2] at HHO
        have c1 := BX.out.c1
        clear hq hn hl hal ea HAC
        by_cases hl1 : r.t < 1
        · have g1 : decide (r.t < 1) = true := by simp [hl1]
          clear ht
          rcases ha with rfl | rfl
          · go_enter Try.func21, Try.ntmps21
            go_wp2_with (first
              | (with_reducible show wpList _ _ _ (⟨_, Op.load rvT _, _, _, _, _⟩ :: _) _ _
                 refine wpList_boxA_loadw rowRv _ rfl rfl w.heap.size (resvA q n c r) rfl rfl (show BoxA _ _ _ _ from BX.out) ?_)
              | (go_at_call 19
                 refine HHO.out.mono ?_; rintro e w2 ⟨rfl, hb2⟩
                 have B2 := Lib.hid (BB.out.trans (hb2.mono BB.out.size))
                 have X2 := Lib.hid (show BoxA w2 w.heap.size rvT (resvA q n c r) from (hb2.block _ BX.out.lt).trans BX.out)
                 clear hb2 BB BX c1 HHO)
              | (with_reducible show wpList _ _ _ (⟨_, Op.alloc stT, _, _, _, _⟩ :: _) _ _
                 refine wpList_boxA_new rowStr rfl rfl w2.heap.size rfl ?_
                 intro w3 y3 l3 s3
                 have Y3 := Lib.hid y3
                 have L3 := Lib.hid l3
                 have S3 := Lib.hid s3
                 clear y3 l3 s3)
              | (with_reducible show wpList _ _ _ (⟨_, Op.store stT _ _, _, _, _, none⟩ :: _) _ _
                 refine wpList_boxA_put rowStr rfl _ _ rfl rfl w2.heap.size readsA _ rfl str_one.1 rfl rfl rfl Y3.out ?_
                 intro w4 y4 k4 s4
                 have Y4 := Lib.hid y4
                 have L4 := Lib.hid (L3.out.trans (show Below w2.heap.size w3 w4 from k4.below L3.out.size (fun k hk e => by have := S3.out; omega)))
                 have X4 := Lib.hid (X2.out.keep (L4.out.block _ X2.out.lt))
                 have B4 := Lib.hid (B2.out.trans (L4.out.mono B2.out.size))
                 clear y4 k4 s4 Y3 L3 S3 X2 B2 L4
                 generalize w2.heap.size = A1 at *)
              | (with_reducible show wpList _ _ _ (⟨_, Op.alloc stT, _, _, _, _⟩ :: _) _ _
                 refine wpList_boxA_new rowStr rfl rfl w4.heap.size rfl ?_
                 intro w5 y5 l5 s5
                 have Z5 := Lib.hid y5
                 have L5 := Lib.hid l5
                 have S5 := Lib.hid s5
                 clear y5 l5 s5)
              | (with_reducible show wpList _ _ _ (⟨_, Op.store stT _ _, _, _, _, none⟩ :: _) _ _
                 refine wpList_boxA_put rowStr rfl _ _ rfl rfl w4.heap.size writesA _ rfl str_one.2 rfl rfl rfl Z5.out ?_
                 intro w6 y6 k6 s6
                 have Z6 := Lib.hid y6
                 have L6 := Lib.hid (L5.out.trans (show Below w4.heap.size w5 w6 from k6.below L5.out.size (fun k hk e => by have := S5.out; omega)))
                 have X6 := Lib.hid (X4.out.keep (L6.out.block _ X4.out.lt))
                 have Y6 := Lib.hid (Y4.out.keep (L6.out.block _ Y4.out.lt))
                 have B6 := Lib.hid (B4.out.trans (L6.out.mono B4.out.size))
                 clear y6 k6 s6 Z5 L5 S5 X4 B4 Y4 L6
                 generalize w4.heap.size = A2 at *
                 have c2 : w6.cell? ⟨w.heap.size, 2, none⟩ = some (.int .i64 r.t) := X6.out.cell 2))
            go_ret
            exact ⟨rfl, B6.out⟩
          · go_enter Try.func21, Try.ntmps21
            go_wp2_with (first
              | (with_reducible show wpList _ _ _ (⟨_, Op.load rvT _, _, _, _, _⟩ :: _) _ _
                 refine wpList_boxA_loadw rowRv _ rfl rfl w.heap.size (resvA q n c r) rfl rfl (show BoxA _ _ _ _ from BX.out) ?_)
              | (go_at_call 19
                 refine HHO.out.mono ?_; rintro e w2 ⟨rfl, hb2⟩
                 have B2 := Lib.hid (BB.out.trans (hb2.mono BB.out.size))
                 have X2 := Lib.hid (show BoxA w2 w.heap.size rvT (resvA q n c r) from (hb2.block _ BX.out.lt).trans BX.out)
                 clear hb2 BB BX c1 HHO)
              | (with_reducible show wpList _ _ _ (⟨_, Op.alloc stT, _, _, _, _⟩ :: _) _ _
                 refine wpList_boxA_new rowStr rfl rfl w2.heap.size rfl ?_
                 intro w3 y3 l3 s3
                 have Y3 := Lib.hid y3
                 have L3 := Lib.hid l3
                 have S3 := Lib.hid s3
                 clear y3 l3 s3)
              | (with_reducible show wpList _ _ _ (⟨_, Op.store stT _ _, _, _, _, none⟩ :: _) _ _
                 refine wpList_boxA_put rowStr rfl _ _ rfl rfl w2.heap.size readsA _ rfl str_one.1 rfl rfl rfl Y3.out ?_
                 intro w4 y4 k4 s4
                 have Y4 := Lib.hid y4
                 have L4 := Lib.hid (L3.out.trans (show Below w2.heap.size w3 w4 from k4.below L3.out.size (fun k hk e => by have := S3.out; omega)))
                 have X4 := Lib.hid (X2.out.keep (L4.out.block _ X2.out.lt))
                 have B4 := Lib.hid (B2.out.trans (L4.out.mono B2.out.size))
                 clear y4 k4 s4 Y3 L3 S3 X2 B2 L4
                 generalize w2.heap.size = A1 at *)
              | (with_reducible show wpList _ _ _ (⟨_, Op.alloc stT, _, _, _, _⟩ :: _) _ _
                 refine wpList_boxA_new rowStr rfl rfl w4.heap.size rfl ?_
                 intro w5 y5 l5 s5
                 have Z5 := Lib.hid y5
                 have L5 := Lib.hid l5
                 have S5 := Lib.hid s5
                 clear y5 l5 s5)
              | (with_reducible show wpList _ _ _ (⟨_, Op.store stT _ _, _, _, _, none⟩ :: _) _ _
                 refine wpList_boxA_put rowStr rfl _ _ rfl rfl w4.heap.size writesA _ rfl str_one.2 rfl rfl rfl Z5.out ?_
                 intro w6 y6 k6 s6
                 have Z6 := Lib.hid y6
                 have L6 := Lib.hid (L5.out.trans (show Below w4.heap.size w5 w6 from k6.below L5.out.size (fun k hk e => by have := S5.out; omega)))
                 have X6 := Lib.hid (X4.out.keep (L6.out.block _ X4.out.lt))
                 have Y6 := Lib.hid (Y4.out.keep (L6.out.block _ Y4.out.lt))
                 have B6 := Lib.hid (B4.out.trans (L6.out.mono B4.out.size))
                 clear y6 k6 s6 Z5 L5 S5 X4 B4 Y4 L6
                 generalize w4.heap.size = A2 at *
                 have c2 : w6.cell? ⟨w.heap.size, 2, none⟩ = some (.int .i64 r.t) := X6.out.cell 2))
            go_ret
            exact ⟨rfl, B6.out⟩
        · have g1 : decide (r.t < 1) = false := by simp; omega
          have g2 : decide (6 < r.t) = true := by simp; omega
          have g3 : ¬ r.t < 1 := hl1
          have g4 : 6 < r.t := by omega
          clear ht hl1
          rcases ha with rfl | rfl
          · go_enter Try.func21, Try.ntmps21
            go_wp2_with (first
              | (with_reducible show wpList _ _ _ (⟨_, Op.load rvT _, _, _, _, _⟩ :: _) _ _
                 refine wpList_boxA_loadw rowRv _ rfl rfl w.heap.size (resvA q n c r) rfl rfl (show BoxA _ _ _ _ from BX.out) ?_)
              | (go_at_call 19
                 refine HHO.out.mono ?_; rintro e w2 ⟨rfl, hb2⟩
                 have B2 := Lib.hid (BB.out.trans (hb2.mono BB.out.size))
                 have X2 := Lib.hid (show BoxA w2 w.heap.size rvT (resvA q n c r) from (hb2.block _ BX.out.lt).trans BX.out)
                 clear hb2 BB BX c1 HHO)
              | (with_reducible show wpList _ _ _ (⟨_, Op.alloc stT, _, _, _, _⟩ :: _) _ _
                 refine wpList_boxA_new rowStr rfl rfl w2.heap.size rfl ?_
                 intro w3 y3 l3 s3
                 have Y3 := Lib.hid y3
                 have L3 := Lib.hid l3
                 have S3 := Lib.hid s3
                 clear y3 l3 s3)
              | (with_reducible show wpList _ _ _ (⟨_, Op.store stT _ _, _, _, _, none⟩ :: _) _ _
                 refine wpList_boxA_put rowStr rfl _ _ rfl rfl w2.heap.size readsA _ rfl str_one.1 rfl rfl rfl Y3.out ?_
                 intro w4 y4 k4 s4
                 have Y4 := Lib.hid y4
                 have L4 := Lib.hid (L3.out.trans (show Below w2.heap.size w3 w4 from k4.below L3.out.size (fun k hk e => by have := S3.out; omega)))
                 have X4 := Lib.hid (X2.out.keep (L4.out.block _ X2.out.lt))
                 have B4 := Lib.hid (B2.out.trans (L4.out.mono B2.out.size))
                 clear y4 k4 s4 Y3 L3 S3 X2 B2 L4
                 generalize w2.heap.size = A1 at *)
              | (with_reducible show wpList _ _ _ (⟨_, Op.alloc stT, _, _, _, _⟩ :: _) _ _
                 refine wpList_boxA_new rowStr rfl rfl w4.heap.size rfl ?_
                 intro w5 y5 l5 s5
                 have Z5 := Lib.hid y5
                 have L5 := Lib.hid l5
                 have S5 := Lib.hid s5
                 clear y5 l5 s5)
              | (with_reducible show wpList _ _ _ (⟨_, Op.store stT _ _, _, _, _, none⟩ :: _) _ _
                 refine wpList_boxA_put rowStr rfl _ _ rfl rfl w4.heap.size writesA _ rfl str_one.2 rfl rfl rfl Z5.out ?_
                 intro w6 y6 k6 s6
                 have Z6 := Lib.hid y6
                 have L6 := Lib.hid (L5.out.trans (show Below w4.heap.size w5 w6 from k6.below L5.out.size (fun k hk e => by have := S5.out; omega)))
                 have X6 := Lib.hid (X4.out.keep (L6.out.block _ X4.out.lt))
                 have Y6 := Lib.hid (Y4.out.keep (L6.out.block _ Y4.out.lt))
                 have B6 := Lib.hid (B4.out.trans (L6.out.mono B4.out.size))
                 clear y6 k6 s6 Z5 L5 S5 X4 B4 Y4 L6
                 generalize w4.heap.size = A2 at *
                 have c2 : w6.cell? ⟨w.heap.size, 2, none⟩ = some (.int .i64 r.t) := X6.out.cell 2))
            go_ret
            exact ⟨rfl, B6.out⟩
          · go_enter Try.func21, Try.ntmps21
            go_wp2_with (first
              | (with_reducible show wpList _ _ _ (⟨_, Op.load rvT _, _, _, _, _⟩ :: _) _ _
                 refine wpList_boxA_loadw rowRv _ rfl rfl w.heap.size (resvA q n c r) rfl rfl (show BoxA _ _ _ _ from BX.out) ?_)
              | (go_at_call 19
                 refine HHO.out.mono ?_; rintro e w2 ⟨rfl, hb2⟩
                 have B2 := Lib.hid (BB.out.trans (hb2.mono BB.out.size))
                 have X2 := Lib.hid (show BoxA w2 w.heap.size rvT (resvA q n c r) from (hb2.block _ BX.out.lt).trans BX.out)
                 clear hb2 BB BX c1 HHO)
              | (with_reducible show wpList _ _ _ (⟨_, Op.alloc stT, _, _, _, _⟩ :: _) _ _
                 refine wpList_boxA_new rowStr rfl rfl w2.heap.size rfl ?_
                 intro w3 y3 l3 s3
                 have Y3 := Lib.hid y3
                 have L3 := Lib.hid l3
                 have S3 := Lib.hid s3
                 clear y3 l3 s3)
              | (with_reducible show wpList _ _ _ (⟨_, Op.store stT _ _, _, _, _, none⟩ :: _) _ _
                 refine wpList_boxA_put rowStr rfl _ _ rfl rfl w2.heap.size readsA _ rfl str_one.1 rfl rfl rfl Y3.out ?_
                 intro w4 y4 k4 s4
                 have Y4 := Lib.hid y4
                 have L4 := Lib.hid (L3.out.trans (show Below w2.heap.size w3 w4 from k4.below L3.out.size (fun k hk e => by have := S3.out; omega)))
                 have X4 := Lib.hid (X2.out.keep (L4.out.block _ X2.out.lt))
                 have B4 := Lib.hid (B2.out.trans (L4.out.mono B2.out.size))
                 clear y4 k4 s4 Y3 L3 S3 X2 B2 L4
                 generalize w2.heap.size = A1 at *)
              | (with_reducible show wpList _ _ _ (⟨_, Op.alloc stT, _, _, _, _⟩ :: _) _ _
                 refine wpList_boxA_new rowStr rfl rfl w4.heap.size rfl ?_
                 intro w5 y5 l5 s5
                 have Z5 := Lib.hid y5
                 have L5 := Lib.hid l5
                 have S5 := Lib.hid s5
                 clear y5 l5 s5)
              | (with_reducible show wpList _ _ _ (⟨_, Op.store stT _ _, _, _, _, none⟩ :: _) _ _
                 refine wpList_boxA_put rowStr rfl _ _ rfl rfl w4.heap.size writesA _ rfl str_one.2 rfl rfl rfl Z5.out ?_
                 intro w6 y6 k6 s6
                 have Z6 := Lib.hid y6
                 have L6 := Lib.hid (L5.out.trans (show Below w4.heap.size w5 w6 from k6.below L5.out.size (fun k hk e => by have := S5.out; omega)))
                 have X6 := Lib.hid (X4.out.keep (L6.out.block _ X4.out.lt))
                 have Y6 := Lib.hid (Y4.out.keep (L6.out.block _ Y4.out.lt))
                 have B6 := Lib.hid (B4.out.trans (L6.out.mono B4.out.size))
                 clear y6 k6 s6 Z5 L5 S5 X4 B4 Y4 L6
                 generalize w4.heap.size = A2 at *
                 have c2 : w6.cell? ⟨w.heap.size, 2, none⟩ = some (.int .i64 r.t) := X6.out.cell 2))
            go_ret
            exact ⟨rfl, B6.out⟩
  · have ea : allowedR r who acc = false := by
      have h1 : (acc == 1) = false := by simp; omega
      have h2 : (acc == 2) = false := by simp; omega
      unfold allowedR; rw [h1, h2]; rfl
    rw [ea]
    have h1 : (acc == 1) = false := by simp; omega
    have h2 : (acc == 2) = false := by simp; omega
    have h3 : (acc != 1) = true := by simp; omega
    have h4 : (acc != 2) = true := by simp; omega
    have BB := Lib.hid (box_below w (.cells (resvA q n c r) rvT))
    clear hq hn hl ea
    go_enter Try.func21, Try.ntmps21
    go_wp2
    go_ret
    exact ⟨rfl, BB.out⟩
end Go.Proofs.Ytfnkdmdcjliebaa
