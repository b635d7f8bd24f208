/- The contract of the document's Do, where one registers. Conditions: the registrations lie in memory, at most 1000. -/
import Derived.Test.YtfnkdmdcjliebaaRvRdB
namespace Go.Proofs.Ytfnkdmdcjliebaa
open Go.ChangeShapes Go.WideShapes Go.ChangeAt Go.RowKit
set_option linter.unusedVariables false
set_option linter.unusedSimpArgs false
attribute [local irreducible] regC atR keyR inR risesR formR goodR allR holdersR holdsR allowedR goneF hasR selfF withL PB endP errN runP regP releaseP reserveP preemptP wellR entR doR withoutR goneR overR refusedR
attribute [local go_sem] Oper.semAt_some
set_option maxRecDepth 100000 in
set_option maxHeartbeats 16000000 in
theorem rd_ends1 {w : World} {q : Option Addr} {n c : Nat} {r : ResvOf} (hq : RvAt w q n c r) {o : ROp} (hop : o.op = 1) (hg : goodR r = true) (hb1 : ¬ o.who < 0) (hb2 : ¬ o.key < 0) (hb3 : ¬ o.new < 0) (hk : keyR r.regs o.who = o.key) (hn : ¬ 0 < o.new) :
    Calls Try.prog 11 #[.agg (resvA q n c r), .agg (ropA o)] w (RefPost w { withoutR r [o.who] with s := o.s, g := incR r.g } 0) := by
  have HGD := Lib.hid (fun (W : World) (hb : Below w.heap.size w W) => (by have h := refGood_any (c := c) (RowsAt.below hq.at_ hb) hq.len hq.few; rw [hg] at h; exact h : Calls Try.prog 15 #[.agg (resvA q n c r)] W fun e w' => e = .returned (.bool true) ∧ Below W.heap.size W w'))
  have HKY := Lib.hid (fun (W : World) (hb : Below w.heap.size w W) => refKey_any (c := c) (RowsAt.below hq.at_ hb) hq.len hq.few o.who)
  have HP := Lib.hid hop
  have HQ := Lib.hid hq.at_
  have HN := Lib.hid hq.len
  rw [hk] at HKY
  have k1 : (o.key == o.key) = true := by simp
  have k2 : (o.key != o.key) = false := by simp
  clear hk
  have HF := Lib.hid hq.few
  have HI0 := Lib.hid (inc64 r.g)
  have HI := Lib.hid (show wrap64 ((withoutR r [o.who]).g + 1) = incR r.g from by rw [without_g]; exact inc64 r.g)
  clear hop hq
  go_enter Try.func11, Try.ntmps11
  go_wp2_with (first
    | (with_reducible show wpList _ _ _ (⟨_, Op.box rvT _, _, _, _, none⟩ :: _) _ _
       refine wpList_boxA_of rfl _ rfl (resvA q n c r) rfl ?_
       intro w1 x1 l1 s1
       have X1 := Lib.hid x1
       have L1 := Lib.hid l1
       have S1 := Lib.hid s1
       clear x1 l1 s1)
    | (with_reducible show wpList _ _ _ (⟨_, Op.box roT _, _, _, _, none⟩ :: _) _ _
       refine wpList_boxA_of rfl _ rfl (ropA o) rfl ?_
       intro w2 x2 l2 s2
       rw [S1.out] at x2 s2
       rw [S1.out]
       have X2 := Lib.hid x2
       have L2 := Lib.hid l2
       have S2 := Lib.hid s2
       clear x2 l2 s2)
    | (with_reducible show wpList _ _ _ (⟨_, Op.alloc rvT, _, _, _, _⟩ :: _) _ _
       refine wpList_boxA_new rowRv rfl rfl (w.heap.size + 1 + 1) S2.out ?_
       intro w3 x3 l3 s3
       have T3 := Lib.hid (new3 X1.out L1.out S1.out X2.out L2.out S2.out x3 l3)
       obtain ⟨c0, c1, c2, c3, c4⟩ := T3.out.c
       obtain ⟨d0, d1, d2, d3, d4, d5⟩ := T3.out.d
       rw [HP.out] at d0
       clear x3 l3 s3 X1 L1 S1 X2 L2 S2)
    | (with_reducible show wpList _ _ _ (⟨_, Op.load rvT (.tmp 2), _, _, _, none⟩ :: _) _ _
       refine wpList_boxA_load rowRv rfl _ rfl w.heap.size (resvA q n c r) rfl rfl T3.out.s ?_)
    | (go_at_call 15
       refine (HGD.out _ T3.out.low).mono ?_; rintro e w4 ⟨rfl, hb⟩
       have T4 := Lib.hid (T3.out.mono hb)
       skip
       clear hb T3 c0 c1 c2 c3 c4 d0 d1 d2 d3 d4 d5
       obtain ⟨c0, c1, c2, c3, c4⟩ := T4.out.c
       obtain ⟨d0, d1, d2, d3, d4, d5⟩ := T4.out.d
       rw [HP.out] at d0)
    | (with_reducible show wpList _ _ _ (⟨_, Op.load rvT (.tmp 2), _, _, _, none⟩ :: _) _ _
       refine wpList_boxA_load rowRv rfl _ rfl w.heap.size (resvA q n c r) rfl rfl T4.out.s ?_)
    | (go_at_call 16
       refine (HKY.out _ T4.out.low).mono ?_; rintro e w5 ⟨rfl, hb⟩
       have T5 := Lib.hid (T4.out.mono hb)
       skip
       clear hb T4 c0 c1 c2 c3 c4 d0 d1 d2 d3 d4 d5
       obtain ⟨c0, c1, c2, c3, c4⟩ := T5.out.c
       obtain ⟨d0, d1, d2, d3, d4, d5⟩ := T5.out.d
       rw [HP.out] at d0)
    | (with_reducible show wpList _ _ _ (⟨_, Op.buildSlice _ _ _, _, _, _, none⟩ :: _) _ _
       refine wpList_int1V rfl _ rfl o.who rfl ?_
       intro u1 x l s
       have U1 := Lib.hid x
       have TU := Lib.hid (T5.out.mono l)
       clear x l s T5 c0 c1 c2 c3 c4 d0 d1 d2 d3 d4 d5)
    | (go_at_call 34
       refine (refWithout_any (c := c) (RowsAt.below HQ.out TU.out.low) HN.out HF.out (gc := 1) (gn := 1) (row_own (n := 1) (base := 0) (top := 0) U1.out rfl (by decide)) rfl (by decide)).mono ?_
       rintro e w6 ⟨q1, e1, rfl, ho, hb⟩
       have T6 := Lib.hid (TU.out.mono hb)
       have O6 := Lib.hid (OwnL.lower ho TU.out.r.lt)
       have M1 := Lib.hid (without_regs r [o.who])
       clear ho hb TU U1)
    | (with_reducible show wpList _ _ _ (⟨_, Op.alloc rvT, _, _, _, _⟩ :: _) _ _
       refine wpList_boxA_new rowRv rfl rfl w6.heap.size rfl ?_
       intro w7 x l s
       have J7 := Lib.hid x
       have T7 := Lib.hid (T6.out.mono l)
       have O7 := Lib.hid ((OwnL.below O6.out (Nat.le_refl _) l).raise l.size)
       have HJ := Lib.hid (show w.heap.size + 1 + 1 < w6.heap.size from T6.out.r.lt)
       clear x l s T6 O6
       generalize w6.heap.size = J at *)
    | (with_reducible show wpList _ _ _ (⟨_, Op.store rvT (.tmp 10) (.tmp 118), _, _, _, none⟩ :: _) _ _
       refine wpList_boxA_put rowRv rfl _ _ rfl rfl J (resvA q1 (withoutR r [o.who]).regs.length e1 (withoutR r [o.who])) _ rfl (rvA_one _ _ _ _) rfl rfl rfl J7.out ?_
       intro w8 x k s
       have J8 := Lib.hid x
       have T8 := Lib.hid (T7.out.keepB k HJ.out)
       have O8 := Lib.hid (keepR O7.out k s (own_ne_box O7.out J7.out))
       clear x k s J7 T7 O7
       obtain ⟨c0, c1, c2, c3, c4⟩ := T8.out.c
       obtain ⟨d0, d1, d2, d3, d4, d5⟩ := T8.out.d
       obtain ⟨j0, j1, j2, j3, j4⟩ := boxRv J8.out
       rw [HP.out] at d0)
    | (with_reducible show wpList _ _ _ (⟨_, Op.store 4 _ _, _, _, _, none⟩ :: _) _ _
       refine wpList_boxA_bool rfl _ _ rfl rfl J 3 o.s rfl rfl J8.out (by simp [resvA]) ?_
       intro v1 x k s
       rw [set3] at x
       have JA := Lib.hid x
       have TA := Lib.hid (T8.out.keepB k HJ.out)
       have OA := Lib.hid (keepR O8.out k s (own_ne_box O8.out J8.out))
       clear x k s J8 T8 O8 c0 c1 c2 c3 c4 d0 d1 d2 d3 d4 d5
       obtain ⟨j0, j1, j2, j3, j4⟩ := boxRv JA.out)
    | (with_reducible show wpList _ _ _ (⟨_, Op.store 3 _ _, _, _, _, none⟩ :: _) _ _
       refine wpList_boxA_int rfl _ _ rfl rfl J 4 _ rfl rfl JA.out (by simp [resvA]) ?_
       intro v2 x k s
       rw [set4, HI.out] at x
       have JB := Lib.hid x
       have TB := Lib.hid (TA.out.keepB k HJ.out)
       have OB := Lib.hid (keepR OA.out k s (own_ne_box OA.out JA.out))
       clear x k s JA TA OA j0 j1 j2 j3 j4)
    | (with_reducible show wpList _ _ _ (⟨_, Op.load rvT (.tmp 10), _, _, _, none⟩ :: _) _ _
       refine wpList_boxA_load rowRv rfl _ rfl J (resvA q1 (withoutR r [o.who]).regs.length e1 { withoutR r [o.who] with s := o.s, g := incR r.g }) rfl rfl JB.out ?_)
    | (with_reducible show wpList _ _ _ (⟨_, Op.store rvT (.tmp 4) _, _, _, _, none⟩ :: _) _ _
       refine wpList_boxA_put rowRv rfl _ _ rfl rfl (w.heap.size + 1 + 1) (resvA q1 (withoutR r [o.who]).regs.length e1 { withoutR r [o.who] with s := o.s, g := incR r.g }) _ rfl (rvA_one _ _ _ _) rfl rfl rfl TB.out.r ?_
       intro w9 x9 k9 s9
       have T9 := Lib.hid (TB.out.setR x9 k9)
       have O9 := Lib.hid (keepR OB.out k9 s9 (fun B hB => by have := own_at OB.out B hB; omega))
       clear x9 k9 s9))
  exact bodyPost_ret (results_cell_row_tmp rfl _ _ (w.heap.size + 1 + 1) rvT (resvA q1 (withoutR r [o.who]).regs.length e1 { withoutR r [o.who] with s := o.s, g := incR r.g }) (0, 0) _ rfl T9.out.r Try.underlying24 rfl (rvA_size _ _ _ _)) rfl ⟨q1, _, e1, rfl, (own_rows O9.out).1, (own_rows O9.out).2, T9.out.low⟩
set_option maxRecDepth 100000 in
set_option maxHeartbeats 16000000 in
theorem rd_full1 {w : World} {q : Option Addr} {n c : Nat} {r : ResvOf} (hq : RvAt w q n c r) {o : ROp} (hop : o.op = 1) (hg : goodR r = true) (hb1 : ¬ o.who < 0) (hb2 : ¬ o.key < 0) (hb3 : ¬ o.new < 0) (hk : keyR r.regs o.who = o.key) (hn : 0 < o.new) (h4 : ¬ (withL r.regs o.who o.new false).length ≤ 4) :
    Calls Try.prog 11 #[.agg (resvA q n c r), .agg (ropA o)] w (RefPost w nobodyR 7) := by
  have HGD := Lib.hid (fun (W : World) (hb : Below w.heap.size w W) => (by have h := refGood_any (c := c) (RowsAt.below hq.at_ hb) hq.len hq.few; rw [hg] at h; exact h : Calls Try.prog 15 #[.agg (resvA q n c r)] W fun e w' => e = .returned (.bool true) ∧ Below W.heap.size W w'))
  have HKY := Lib.hid (fun (W : World) (hb : Below w.heap.size w W) => refKey_any (c := c) (RowsAt.below hq.at_ hb) hq.len hq.few o.who)
  have HP := Lib.hid hop
  have HQ := Lib.hid hq.at_
  have HN := Lib.hid hq.len
  rw [hk] at HKY
  have k1 : (o.key == o.key) = true := by simp
  have k2 : (o.key != o.key) = false := by simp
  clear hk
  have HF := Lib.hid hq.few
  have HI0 := Lib.hid (inc64 r.g)
  have HW4 := Lib.hid (show decide (((withL r.regs o.who o.new false).length : Int) ≤ 4) = false from decide_eq_false (by omega))
  clear h4
  clear hop hq
  go_enter Try.func11, Try.ntmps11
  go_wp2_with (first
    | (with_reducible show wpList _ _ _ (⟨_, Op.box rvT _, _, _, _, none⟩ :: _) _ _
       refine wpList_boxA_of rfl _ rfl (resvA q n c r) rfl ?_
       intro w1 x1 l1 s1
       have X1 := Lib.hid x1
       have L1 := Lib.hid l1
       have S1 := Lib.hid s1
       clear x1 l1 s1)
    | (with_reducible show wpList _ _ _ (⟨_, Op.box roT _, _, _, _, none⟩ :: _) _ _
       refine wpList_boxA_of rfl _ rfl (ropA o) rfl ?_
       intro w2 x2 l2 s2
       rw [S1.out] at x2 s2
       rw [S1.out]
       have X2 := Lib.hid x2
       have L2 := Lib.hid l2
       have S2 := Lib.hid s2
       clear x2 l2 s2)
    | (with_reducible show wpList _ _ _ (⟨_, Op.alloc rvT, _, _, _, _⟩ :: _) _ _
       refine wpList_boxA_new rowRv rfl rfl (w.heap.size + 1 + 1) S2.out ?_
       intro w3 x3 l3 s3
       have T3 := Lib.hid (new3 X1.out L1.out S1.out X2.out L2.out S2.out x3 l3)
       obtain ⟨c0, c1, c2, c3, c4⟩ := T3.out.c
       obtain ⟨d0, d1, d2, d3, d4, d5⟩ := T3.out.d
       rw [HP.out] at d0
       clear x3 l3 s3 X1 L1 S1 X2 L2 S2)
    | (with_reducible show wpList _ _ _ (⟨_, Op.load rvT (.tmp 2), _, _, _, none⟩ :: _) _ _
       refine wpList_boxA_load rowRv rfl _ rfl w.heap.size (resvA q n c r) rfl rfl T3.out.s ?_)
    | (go_at_call 15
       refine (HGD.out _ T3.out.low).mono ?_; rintro e w4 ⟨rfl, hb⟩
       have T4 := Lib.hid (T3.out.mono hb)
       skip
       clear hb T3 c0 c1 c2 c3 c4 d0 d1 d2 d3 d4 d5
       obtain ⟨c0, c1, c2, c3, c4⟩ := T4.out.c
       obtain ⟨d0, d1, d2, d3, d4, d5⟩ := T4.out.d
       rw [HP.out] at d0)
    | (with_reducible show wpList _ _ _ (⟨_, Op.load rvT (.tmp 2), _, _, _, none⟩ :: _) _ _
       refine wpList_boxA_load rowRv rfl _ rfl w.heap.size (resvA q n c r) rfl rfl T4.out.s ?_)
    | (go_at_call 16
       refine (HKY.out _ T4.out.low).mono ?_; rintro e w5 ⟨rfl, hb⟩
       have T5 := Lib.hid (T4.out.mono hb)
       skip
       clear hb T4 c0 c1 c2 c3 c4 d0 d1 d2 d3 d4 d5
       obtain ⟨c0, c1, c2, c3, c4⟩ := T5.out.c
       obtain ⟨d0, d1, d2, d3, d4, d5⟩ := T5.out.d
       rw [HP.out] at d0)
    | (with_reducible show wpList _ _ _ (⟨_, Op.buildSlice _ _ _, _, _, _, none⟩ :: _) _ _
       refine wpList_int1V rfl _ rfl o.who rfl ?_
       intro u1 x l s
       have U1 := Lib.hid x
       have TU := Lib.hid (T5.out.mono l)
       clear x l s T5 c0 c1 c2 c3 c4 d0 d1 d2 d3 d4 d5)
    | (go_at_call 34
       refine (refWithout_any (c := c) (RowsAt.below HQ.out TU.out.low) HN.out HF.out (gc := 1) (gn := 1) (row_own (n := 1) (base := 0) (top := 0) U1.out rfl (by decide)) rfl (by decide)).mono ?_
       rintro e w6 ⟨q1, e1, rfl, ho, hb⟩
       have T6 := Lib.hid (TU.out.mono hb)
       have O6 := Lib.hid (OwnL.lower ho TU.out.r.lt)
       have M1 := Lib.hid (without_regs r [o.who])
       clear ho hb TU U1)
    | (with_reducible show wpList _ _ _ (⟨_, Op.alloc rvT, _, _, _, _⟩ :: _) _ _
       refine wpList_boxA_new rowRv rfl rfl w6.heap.size rfl ?_
       intro w7 x l s
       have J7 := Lib.hid x
       have T7 := Lib.hid (T6.out.mono l)
       have O7 := Lib.hid ((OwnL.below O6.out (Nat.le_refl _) l).raise l.size)
       have HJ := Lib.hid (show w.heap.size + 1 + 1 < w6.heap.size from T6.out.r.lt)
       clear x l s T6 O6
       generalize w6.heap.size = J at *)
    | (with_reducible show wpList _ _ _ (⟨_, Op.store rvT (.tmp 10) (.tmp 118), _, _, _, none⟩ :: _) _ _
       refine wpList_boxA_put rowRv rfl _ _ rfl rfl J (resvA q1 (withoutR r [o.who]).regs.length e1 (withoutR r [o.who])) _ rfl (rvA_one _ _ _ _) rfl rfl rfl J7.out ?_
       intro w8 x k s
       have J8 := Lib.hid x
       have T8 := Lib.hid (T7.out.keepB k HJ.out)
       have O8 := Lib.hid (keepR O7.out k s (own_ne_box O7.out J7.out))
       clear x k s J7 T7 O7
       obtain ⟨c0, c1, c2, c3, c4⟩ := T8.out.c
       obtain ⟨d0, d1, d2, d3, d4, d5⟩ := T8.out.d
       rw [HP.out] at d0)
    | (with_reducible show wpList _ _ _ (⟨_, Op.load rvT (.tmp 2), _, _, _, none⟩ :: _) _ _
       refine wpList_boxA_load rowRv rfl _ rfl w.heap.size (resvA q n c r) rfl rfl T8.out.s ?_)
    | (go_at_call 35
       refine (refWith_any (c := c) (RowsAt.below HQ.out T8.out.low) HN.out HF.out o.who o.new).mono ?_
       rw [HW4.out]
       rintro e wb ⟨q2, e2, rfl, ho, hb⟩
       have TC := Lib.hid (T8.out.mono hb)
       have OC := Lib.hid (OwnL.lower ho T8.out.r.lt)
       have JC := Lib.hid (J8.out.keep (hb.block _ J8.out.lt))
       clear ho hb T8 O8 J8 c0 c1 c2 c3 c4 d0 d1 d2 d3 d4 d5)
    | (with_reducible show wpList _ _ _ (⟨_, Op.store rvT (.tmp 10) (.tmp 129), _, _, _, none⟩ :: _) _ _
       refine wpList_boxA_put rowRv rfl _ _ rfl rfl J (resvA q2 (withL r.regs o.who o.new false).length e2 { r with regs := withL r.regs o.who o.new false }) _ rfl (rvA_one _ _ _ _) rfl rfl rfl JC.out ?_
       intro wc x k s
       have JD := Lib.hid x
       have TD := Lib.hid (TC.out.keepB k HJ.out)
       have OD := Lib.hid (keepR OC.out k s (own_ne_box OC.out JC.out))
       clear x k s JC TC OC
       obtain ⟨c0, c1, c2, c3, c4⟩ := TD.out.c
       obtain ⟨d0, d1, d2, d3, d4, d5⟩ := TD.out.d
       rw [HP.out] at d0
       obtain ⟨j0, j1, j2, j3, j4⟩ := boxRv JD.out)
    | (go_at_call 26
       refine (refNobody_any _).mono ?_; rintro e w7 ⟨rfl, hb7⟩
       have T7 := Lib.hid (TD.out.mono hb7)
       clear hb7 TD)
    | (with_reducible show wpList _ _ _ (⟨_, Op.store rvT (.tmp 4) _, _, _, _, none⟩ :: _) _ _
       refine wpList_boxA_put rowRv rfl _ _ rfl rfl (w.heap.size + 1 + 1) (resvA none 0 0 nobodyR) _ rfl (rvA_one _ _ _ _) rfl rfl rfl T7.out.r ?_
       intro w9 x9 k9 s9
       have T9 := Lib.hid (T7.out.setR x9 k9)
       clear x9 k9 s9))
  exact bodyPost_ret (results_cell_row_tmp rfl _ _ (w.heap.size + 1 + 1) rvT (resvA none 0 0 nobodyR) (0, 0) _ rfl T9.out.r Try.underlying24 rfl (rvA_size _ _ _ _)) rfl (refPost_nobody T9.out.low)
set_option maxRecDepth 100000 in
set_option maxHeartbeats 16000000 in
theorem rd_new1 {w : World} {q : Option Addr} {n c : Nat} {r : ResvOf} (hq : RvAt w q n c r) {o : ROp} (hop : o.op = 1) (hg : goodR r = true) (hb1 : ¬ o.who < 0) (hb2 : ¬ o.key < 0) (hb3 : ¬ o.new < 0) (hk : keyR r.regs o.who = o.key) (hn : 0 < o.new) (h4 : (withL r.regs o.who o.new false).length ≤ 4) :
    Calls Try.prog 11 #[.agg (resvA q n c r), .agg (ropA o)] w (RefPost w { r with regs := withL r.regs o.who o.new false, s := o.s, g := incR r.g } 0) := by
  have HGD := Lib.hid (fun (W : World) (hb : Below w.heap.size w W) => (by have h := refGood_any (c := c) (RowsAt.below hq.at_ hb) hq.len hq.few; rw [hg] at h; exact h : Calls Try.prog 15 #[.agg (resvA q n c r)] W fun e w' => e = .returned (.bool true) ∧ Below W.heap.size W w'))
  have HKY := Lib.hid (fun (W : World) (hb : Below w.heap.size w W) => refKey_any (c := c) (RowsAt.below hq.at_ hb) hq.len hq.few o.who)
  have HP := Lib.hid hop
  have HQ := Lib.hid hq.at_
  have HN := Lib.hid hq.len
  rw [hk] at HKY
  have k1 : (o.key == o.key) = true := by simp
  have k2 : (o.key != o.key) = false := by simp
  clear hk
  have HF := Lib.hid hq.few
  have HI0 := Lib.hid (inc64 r.g)
  have HW4 := Lib.hid (show decide (((withL r.regs o.who o.new false).length : Int) ≤ 4) = true from decide_eq_true (by omega))
  have HI := Lib.hid (inc64 r.g)
  clear h4
  clear hop hq
  go_enter Try.func11, Try.ntmps11
  go_wp2_with (first
    | (with_reducible show wpList _ _ _ (⟨_, Op.box rvT _, _, _, _, none⟩ :: _) _ _
       refine wpList_boxA_of rfl _ rfl (resvA q n c r) rfl ?_
       intro w1 x1 l1 s1
       have X1 := Lib.hid x1
       have L1 := Lib.hid l1
       have S1 := Lib.hid s1
       clear x1 l1 s1)
    | (with_reducible show wpList _ _ _ (⟨_, Op.box roT _, _, _, _, none⟩ :: _) _ _
       refine wpList_boxA_of rfl _ rfl (ropA o) rfl ?_
       intro w2 x2 l2 s2
       rw [S1.out] at x2 s2
       rw [S1.out]
       have X2 := Lib.hid x2
       have L2 := Lib.hid l2
       have S2 := Lib.hid s2
       clear x2 l2 s2)
    | (with_reducible show wpList _ _ _ (⟨_, Op.alloc rvT, _, _, _, _⟩ :: _) _ _
       refine wpList_boxA_new rowRv rfl rfl (w.heap.size + 1 + 1) S2.out ?_
       intro w3 x3 l3 s3
       have T3 := Lib.hid (new3 X1.out L1.out S1.out X2.out L2.out S2.out x3 l3)
       obtain ⟨c0, c1, c2, c3, c4⟩ := T3.out.c
       obtain ⟨d0, d1, d2, d3, d4, d5⟩ := T3.out.d
       rw [HP.out] at d0
       clear x3 l3 s3 X1 L1 S1 X2 L2 S2)
    | (with_reducible show wpList _ _ _ (⟨_, Op.load rvT (.tmp 2), _, _, _, none⟩ :: _) _ _
       refine wpList_boxA_load rowRv rfl _ rfl w.heap.size (resvA q n c r) rfl rfl T3.out.s ?_)
    | (go_at_call 15
       refine (HGD.out _ T3.out.low).mono ?_; rintro e w4 ⟨rfl, hb⟩
       have T4 := Lib.hid (T3.out.mono hb)
       skip
       clear hb T3 c0 c1 c2 c3 c4 d0 d1 d2 d3 d4 d5
       obtain ⟨c0, c1, c2, c3, c4⟩ := T4.out.c
       obtain ⟨d0, d1, d2, d3, d4, d5⟩ := T4.out.d
       rw [HP.out] at d0)
    | (with_reducible show wpList _ _ _ (⟨_, Op.load rvT (.tmp 2), _, _, _, none⟩ :: _) _ _
       refine wpList_boxA_load rowRv rfl _ rfl w.heap.size (resvA q n c r) rfl rfl T4.out.s ?_)
    | (go_at_call 16
       refine (HKY.out _ T4.out.low).mono ?_; rintro e w5 ⟨rfl, hb⟩
       have T5 := Lib.hid (T4.out.mono hb)
       skip
       clear hb T4 c0 c1 c2 c3 c4 d0 d1 d2 d3 d4 d5
       obtain ⟨c0, c1, c2, c3, c4⟩ := T5.out.c
       obtain ⟨d0, d1, d2, d3, d4, d5⟩ := T5.out.d
       rw [HP.out] at d0)
    | (with_reducible show wpList _ _ _ (⟨_, Op.buildSlice _ _ _, _, _, _, none⟩ :: _) _ _
       refine wpList_int1V rfl _ rfl o.who rfl ?_
       intro u1 x l s
       have U1 := Lib.hid x
       have TU := Lib.hid (T5.out.mono l)
       clear x l s T5 c0 c1 c2 c3 c4 d0 d1 d2 d3 d4 d5)
    | (go_at_call 34
       refine (refWithout_any (c := c) (RowsAt.below HQ.out TU.out.low) HN.out HF.out (gc := 1) (gn := 1) (row_own (n := 1) (base := 0) (top := 0) U1.out rfl (by decide)) rfl (by decide)).mono ?_
       rintro e w6 ⟨q1, e1, rfl, ho, hb⟩
       have T6 := Lib.hid (TU.out.mono hb)
       have O6 := Lib.hid (OwnL.lower ho TU.out.r.lt)
       have M1 := Lib.hid (without_regs r [o.who])
       clear ho hb TU U1)
    | (with_reducible show wpList _ _ _ (⟨_, Op.alloc rvT, _, _, _, _⟩ :: _) _ _
       refine wpList_boxA_new rowRv rfl rfl w6.heap.size rfl ?_
       intro w7 x l s
       have J7 := Lib.hid x
       have T7 := Lib.hid (T6.out.mono l)
       have O7 := Lib.hid ((OwnL.below O6.out (Nat.le_refl _) l).raise l.size)
       have HJ := Lib.hid (show w.heap.size + 1 + 1 < w6.heap.size from T6.out.r.lt)
       clear x l s T6 O6
       generalize w6.heap.size = J at *)
    | (with_reducible show wpList _ _ _ (⟨_, Op.store rvT (.tmp 10) (.tmp 118), _, _, _, none⟩ :: _) _ _
       refine wpList_boxA_put rowRv rfl _ _ rfl rfl J (resvA q1 (withoutR r [o.who]).regs.length e1 (withoutR r [o.who])) _ rfl (rvA_one _ _ _ _) rfl rfl rfl J7.out ?_
       intro w8 x k s
       have J8 := Lib.hid x
       have T8 := Lib.hid (T7.out.keepB k HJ.out)
       have O8 := Lib.hid (keepR O7.out k s (own_ne_box O7.out J7.out))
       clear x k s J7 T7 O7
       obtain ⟨c0, c1, c2, c3, c4⟩ := T8.out.c
       obtain ⟨d0, d1, d2, d3, d4, d5⟩ := T8.out.d
       rw [HP.out] at d0)
    | (with_reducible show wpList _ _ _ (⟨_, Op.load rvT (.tmp 2), _, _, _, none⟩ :: _) _ _
       refine wpList_boxA_load rowRv rfl _ rfl w.heap.size (resvA q n c r) rfl rfl T8.out.s ?_)
    | (go_at_call 35
       refine (refWith_any (c := c) (RowsAt.below HQ.out T8.out.low) HN.out HF.out o.who o.new).mono ?_
       rw [HW4.out]
       rintro e wb ⟨q2, e2, rfl, ho, hb⟩
       have TC := Lib.hid (T8.out.mono hb)
       have OC := Lib.hid (OwnL.lower ho T8.out.r.lt)
       have JC := Lib.hid (J8.out.keep (hb.block _ J8.out.lt))
       clear ho hb T8 O8 J8 c0 c1 c2 c3 c4 d0 d1 d2 d3 d4 d5)
    | (with_reducible show wpList _ _ _ (⟨_, Op.store rvT (.tmp 10) (.tmp 129), _, _, _, none⟩ :: _) _ _
       refine wpList_boxA_put rowRv rfl _ _ rfl rfl J (resvA q2 (withL r.regs o.who o.new false).length e2 { r with regs := withL r.regs o.who o.new false }) _ rfl (rvA_one _ _ _ _) rfl rfl rfl JC.out ?_
       intro wc x k s
       have JD := Lib.hid x
       have TD := Lib.hid (TC.out.keepB k HJ.out)
       have OD := Lib.hid (keepR OC.out k s (own_ne_box OC.out JC.out))
       clear x k s JC TC OC
       obtain ⟨c0, c1, c2, c3, c4⟩ := TD.out.c
       obtain ⟨d0, d1, d2, d3, d4, d5⟩ := TD.out.d
       rw [HP.out] at d0
       obtain ⟨j0, j1, j2, j3, j4⟩ := boxRv JD.out)
    | (with_reducible show wpList _ _ _ (⟨_, Op.store 4 _ _, _, _, _, none⟩ :: _) _ _
       refine wpList_boxA_bool rfl _ _ rfl rfl J 3 o.s rfl rfl JD.out (by simp [resvA]) ?_
       intro v1 x k s
       rw [set3] at x
       have JA := Lib.hid x
       have TA := Lib.hid (TD.out.keepB k HJ.out)
       have OA := Lib.hid (keepR OD.out k s (own_ne_box OD.out JD.out))
       clear x k s JD TD OD c0 c1 c2 c3 c4 d0 d1 d2 d3 d4 d5
       obtain ⟨j0, j1, j2, j3, j4⟩ := boxRv JA.out)
    | (with_reducible show wpList _ _ _ (⟨_, Op.store 3 _ _, _, _, _, none⟩ :: _) _ _
       refine wpList_boxA_int rfl _ _ rfl rfl J 4 _ rfl rfl JA.out (by simp [resvA]) ?_
       intro v2 x k s
       rw [set4, HI.out] at x
       have JB := Lib.hid x
       have TB := Lib.hid (TA.out.keepB k HJ.out)
       have OB := Lib.hid (keepR OA.out k s (own_ne_box OA.out JA.out))
       clear x k s JA TA OA j0 j1 j2 j3 j4)
    | (with_reducible show wpList _ _ _ (⟨_, Op.load rvT (.tmp 10), _, _, _, none⟩ :: _) _ _
       refine wpList_boxA_load rowRv rfl _ rfl J (resvA q2 (withL r.regs o.who o.new false).length e2 { r with regs := withL r.regs o.who o.new false, s := o.s, g := incR r.g }) rfl rfl JB.out ?_)
    | (with_reducible show wpList _ _ _ (⟨_, Op.store rvT (.tmp 4) _, _, _, _, none⟩ :: _) _ _
       refine wpList_boxA_put rowRv rfl _ _ rfl rfl (w.heap.size + 1 + 1) (resvA q2 (withL r.regs o.who o.new false).length e2 { r with regs := withL r.regs o.who o.new false, s := o.s, g := incR r.g }) _ rfl (rvA_one _ _ _ _) rfl rfl rfl TB.out.r ?_
       intro w9 x9 k9 s9
       have T9 := Lib.hid (TB.out.setR x9 k9)
       have O9 := Lib.hid (keepR OB.out k9 s9 (fun B hB => by have := own_at OB.out B hB; omega))
       clear x9 k9 s9))
  exact bodyPost_ret (results_cell_row_tmp rfl _ _ (w.heap.size + 1 + 1) rvT (resvA q2 (withL r.regs o.who o.new false).length e2 { r with regs := withL r.regs o.who o.new false, s := o.s, g := incR r.g }) (0, 0) _ rfl T9.out.r Try.underlying24 rfl (rvA_size _ _ _ _)) rfl ⟨q2, _, e2, rfl, (own_rows O9.out).1, (own_rows O9.out).2, T9.out.low⟩
set_option maxRecDepth 100000 in
set_option maxHeartbeats 16000000 in
theorem rd_ends6 {w : World} {q : Option Addr} {n c : Nat} {r : ResvOf} (hq : RvAt w q n c r) {o : ROp} (hop : o.op = 6) (hg : goodR r = true) (hb1 : ¬ o.who < 0) (hb2 : ¬ o.key < 0) (hb3 : ¬ o.new < 0) (hn : ¬ 0 < o.new) :
    Calls Try.prog 11 #[.agg (resvA q n c r), .agg (ropA o)] w (RefPost w { withoutR r [o.who] with s := o.s, g := incR r.g } 0) := by
  have HGD := Lib.hid (fun (W : World) (hb : Below w.heap.size w W) => (by have h := refGood_any (c := c) (RowsAt.below hq.at_ hb) hq.len hq.few; rw [hg] at h; exact h : Calls Try.prog 15 #[.agg (resvA q n c r)] W fun e w' => e = .returned (.bool true) ∧ Below W.heap.size W w'))
  have HKY := Lib.hid (fun (W : World) (hb : Below w.heap.size w W) => refKey_any (c := c) (RowsAt.below hq.at_ hb) hq.len hq.few o.who)
  have HP := Lib.hid hop
  have HQ := Lib.hid hq.at_
  have HN := Lib.hid hq.len
  have HF := Lib.hid hq.few
  have HI0 := Lib.hid (inc64 r.g)
  have HI := Lib.hid (show wrap64 ((withoutR r [o.who]).g + 1) = incR r.g from by rw [without_g]; exact inc64 r.g)
  clear hop hq
  go_enter Try.func11, Try.ntmps11
  go_wp2_with (first
    | (with_reducible show wpList _ _ _ (⟨_, Op.box rvT _, _, _, _, none⟩ :: _) _ _
       refine wpList_boxA_of rfl _ rfl (resvA q n c r) rfl ?_
       intro w1 x1 l1 s1
       have X1 := Lib.hid x1
       have L1 := Lib.hid l1
       have S1 := Lib.hid s1
       clear x1 l1 s1)
    | (with_reducible show wpList _ _ _ (⟨_, Op.box roT _, _, _, _, none⟩ :: _) _ _
       refine wpList_boxA_of rfl _ rfl (ropA o) rfl ?_
       intro w2 x2 l2 s2
       rw [S1.out] at x2 s2
       rw [S1.out]
       have X2 := Lib.hid x2
       have L2 := Lib.hid l2
       have S2 := Lib.hid s2
       clear x2 l2 s2)
    | (with_reducible show wpList _ _ _ (⟨_, Op.alloc rvT, _, _, _, _⟩ :: _) _ _
       refine wpList_boxA_new rowRv rfl rfl (w.heap.size + 1 + 1) S2.out ?_
       intro w3 x3 l3 s3
       have T3 := Lib.hid (new3 X1.out L1.out S1.out X2.out L2.out S2.out x3 l3)
       obtain ⟨c0, c1, c2, c3, c4⟩ := T3.out.c
       obtain ⟨d0, d1, d2, d3, d4, d5⟩ := T3.out.d
       rw [HP.out] at d0
       clear x3 l3 s3 X1 L1 S1 X2 L2 S2)
    | (with_reducible show wpList _ _ _ (⟨_, Op.load rvT (.tmp 2), _, _, _, none⟩ :: _) _ _
       refine wpList_boxA_load rowRv rfl _ rfl w.heap.size (resvA q n c r) rfl rfl T3.out.s ?_)
    | (go_at_call 15
       refine (HGD.out _ T3.out.low).mono ?_; rintro e w4 ⟨rfl, hb⟩
       have T4 := Lib.hid (T3.out.mono hb)
       skip
       clear hb T3 c0 c1 c2 c3 c4 d0 d1 d2 d3 d4 d5
       obtain ⟨c0, c1, c2, c3, c4⟩ := T4.out.c
       obtain ⟨d0, d1, d2, d3, d4, d5⟩ := T4.out.d
       rw [HP.out] at d0)
    | (with_reducible show wpList _ _ _ (⟨_, Op.load rvT (.tmp 2), _, _, _, none⟩ :: _) _ _
       refine wpList_boxA_load rowRv rfl _ rfl w.heap.size (resvA q n c r) rfl rfl T4.out.s ?_)
    | (go_at_call 16
       refine (HKY.out _ T4.out.low).mono ?_; rintro e w5 ⟨rfl, hb⟩
       have T5 := Lib.hid (T4.out.mono hb)
       skip
       clear hb T4 c0 c1 c2 c3 c4 d0 d1 d2 d3 d4 d5
       obtain ⟨c0, c1, c2, c3, c4⟩ := T5.out.c
       obtain ⟨d0, d1, d2, d3, d4, d5⟩ := T5.out.d
       rw [HP.out] at d0)
    | (with_reducible show wpList _ _ _ (⟨_, Op.buildSlice _ _ _, _, _, _, none⟩ :: _) _ _
       refine wpList_int1V rfl _ rfl o.who rfl ?_
       intro u1 x l s
       have U1 := Lib.hid x
       have TU := Lib.hid (T5.out.mono l)
       clear x l s T5 c0 c1 c2 c3 c4 d0 d1 d2 d3 d4 d5)
    | (go_at_call 34
       refine (refWithout_any (c := c) (RowsAt.below HQ.out TU.out.low) HN.out HF.out (gc := 1) (gn := 1) (row_own (n := 1) (base := 0) (top := 0) U1.out rfl (by decide)) rfl (by decide)).mono ?_
       rintro e w6 ⟨q1, e1, rfl, ho, hb⟩
       have T6 := Lib.hid (TU.out.mono hb)
       have O6 := Lib.hid (OwnL.lower ho TU.out.r.lt)
       have M1 := Lib.hid (without_regs r [o.who])
       clear ho hb TU U1)
    | (with_reducible show wpList _ _ _ (⟨_, Op.alloc rvT, _, _, _, _⟩ :: _) _ _
       refine wpList_boxA_new rowRv rfl rfl w6.heap.size rfl ?_
       intro w7 x l s
       have J7 := Lib.hid x
       have T7 := Lib.hid (T6.out.mono l)
       have O7 := Lib.hid ((OwnL.below O6.out (Nat.le_refl _) l).raise l.size)
       have HJ := Lib.hid (show w.heap.size + 1 + 1 < w6.heap.size from T6.out.r.lt)
       clear x l s T6 O6
       generalize w6.heap.size = J at *)
    | (with_reducible show wpList _ _ _ (⟨_, Op.store rvT (.tmp 10) (.tmp 118), _, _, _, none⟩ :: _) _ _
       refine wpList_boxA_put rowRv rfl _ _ rfl rfl J (resvA q1 (withoutR r [o.who]).regs.length e1 (withoutR r [o.who])) _ rfl (rvA_one _ _ _ _) rfl rfl rfl J7.out ?_
       intro w8 x k s
       have J8 := Lib.hid x
       have T8 := Lib.hid (T7.out.keepB k HJ.out)
       have O8 := Lib.hid (keepR O7.out k s (own_ne_box O7.out J7.out))
       clear x k s J7 T7 O7
       obtain ⟨c0, c1, c2, c3, c4⟩ := T8.out.c
       obtain ⟨d0, d1, d2, d3, d4, d5⟩ := T8.out.d
       obtain ⟨j0, j1, j2, j3, j4⟩ := boxRv J8.out
       rw [HP.out] at d0)
    | (with_reducible show wpList _ _ _ (⟨_, Op.store 4 _ _, _, _, _, none⟩ :: _) _ _
       refine wpList_boxA_bool rfl _ _ rfl rfl J 3 o.s rfl rfl J8.out (by simp [resvA]) ?_
       intro v1 x k s
       rw [set3] at x
       have JA := Lib.hid x
       have TA := Lib.hid (T8.out.keepB k HJ.out)
       have OA := Lib.hid (keepR O8.out k s (own_ne_box O8.out J8.out))
       clear x k s J8 T8 O8 c0 c1 c2 c3 c4 d0 d1 d2 d3 d4 d5
       obtain ⟨j0, j1, j2, j3, j4⟩ := boxRv JA.out)
    | (with_reducible show wpList _ _ _ (⟨_, Op.store 3 _ _, _, _, _, none⟩ :: _) _ _
       refine wpList_boxA_int rfl _ _ rfl rfl J 4 _ rfl rfl JA.out (by simp [resvA]) ?_
       intro v2 x k s
       rw [set4, HI.out] at x
       have JB := Lib.hid x
       have TB := Lib.hid (TA.out.keepB k HJ.out)
       have OB := Lib.hid (keepR OA.out k s (own_ne_box OA.out JA.out))
       clear x k s JA TA OA j0 j1 j2 j3 j4)
    | (with_reducible show wpList _ _ _ (⟨_, Op.load rvT (.tmp 10), _, _, _, none⟩ :: _) _ _
       refine wpList_boxA_load rowRv rfl _ rfl J (resvA q1 (withoutR r [o.who]).regs.length e1 { withoutR r [o.who] with s := o.s, g := incR r.g }) rfl rfl JB.out ?_)
    | (with_reducible show wpList _ _ _ (⟨_, Op.store rvT (.tmp 4) _, _, _, _, none⟩ :: _) _ _
       refine wpList_boxA_put rowRv rfl _ _ rfl rfl (w.heap.size + 1 + 1) (resvA q1 (withoutR r [o.who]).regs.length e1 { withoutR r [o.who] with s := o.s, g := incR r.g }) _ rfl (rvA_one _ _ _ _) rfl rfl rfl TB.out.r ?_
       intro w9 x9 k9 s9
       have T9 := Lib.hid (TB.out.setR x9 k9)
       have O9 := Lib.hid (keepR OB.out k9 s9 (fun B hB => by have := own_at OB.out B hB; omega))
       clear x9 k9 s9))
  exact bodyPost_ret (results_cell_row_tmp rfl _ _ (w.heap.size + 1 + 1) rvT (resvA q1 (withoutR r [o.who]).regs.length e1 { withoutR r [o.who] with s := o.s, g := incR r.g }) (0, 0) _ rfl T9.out.r Try.underlying24 rfl (rvA_size _ _ _ _)) rfl ⟨q1, _, e1, rfl, (own_rows O9.out).1, (own_rows O9.out).2, T9.out.low⟩
set_option maxRecDepth 100000 in
set_option maxHeartbeats 16000000 in
theorem rd_full6 {w : World} {q : Option Addr} {n c : Nat} {r : ResvOf} (hq : RvAt w q n c r) {o : ROp} (hop : o.op = 6) (hg : goodR r = true) (hb1 : ¬ o.who < 0) (hb2 : ¬ o.key < 0) (hb3 : ¬ o.new < 0) (hn : 0 < o.new) (h4 : ¬ (withL r.regs o.who o.new false).length ≤ 4) :
    Calls Try.prog 11 #[.agg (resvA q n c r), .agg (ropA o)] w (RefPost w nobodyR 7) := by
  have HGD := Lib.hid (fun (W : World) (hb : Below w.heap.size w W) => (by have h := refGood_any (c := c) (RowsAt.below hq.at_ hb) hq.len hq.few; rw [hg] at h; exact h : Calls Try.prog 15 #[.agg (resvA q n c r)] W fun e w' => e = .returned (.bool true) ∧ Below W.heap.size W w'))
  have HKY := Lib.hid (fun (W : World) (hb : Below w.heap.size w W) => refKey_any (c := c) (RowsAt.below hq.at_ hb) hq.len hq.few o.who)
  have HP := Lib.hid hop
  have HQ := Lib.hid hq.at_
  have HN := Lib.hid hq.len
  have HF := Lib.hid hq.few
  have HI0 := Lib.hid (inc64 r.g)
  have HW4 := Lib.hid (show decide (((withL r.regs o.who o.new false).length : Int) ≤ 4) = false from decide_eq_false (by omega))
  clear h4
  clear hop hq
  go_enter Try.func11, Try.ntmps11
  go_wp2_with (first
    | (with_reducible show wpList _ _ _ (⟨_, Op.box rvT _, _, _, _, none⟩ :: _) _ _
       refine wpList_boxA_of rfl _ rfl (resvA q n c r) rfl ?_
       intro w1 x1 l1 s1
       have X1 := Lib.hid x1
       have L1 := Lib.hid l1
       have S1 := Lib.hid s1
       clear x1 l1 s1)
    | (with_reducible show wpList _ _ _ (⟨_, Op.box roT _, _, _, _, none⟩ :: _) _ _
       refine wpList_boxA_of rfl _ rfl (ropA o) rfl ?_
       intro w2 x2 l2 s2
       rw [S1.out] at x2 s2
       rw [S1.out]
       have X2 := Lib.hid x2
       have L2 := Lib.hid l2
       have S2 := Lib.hid s2
       clear x2 l2 s2)
    | (with_reducible show wpList _ _ _ (⟨_, Op.alloc rvT, _, _, _, _⟩ :: _) _ _
       refine wpList_boxA_new rowRv rfl rfl (w.heap.size + 1 + 1) S2.out ?_
       intro w3 x3 l3 s3
       have T3 := Lib.hid (new3 X1.out L1.out S1.out X2.out L2.out S2.out x3 l3)
       obtain ⟨c0, c1, c2, c3, c4⟩ := T3.out.c
       obtain ⟨d0, d1, d2, d3, d4, d5⟩ := T3.out.d
       rw [HP.out] at d0
       clear x3 l3 s3 X1 L1 S1 X2 L2 S2)
    | (with_reducible show wpList _ _ _ (⟨_, Op.load rvT (.tmp 2), _, _, _, none⟩ :: _) _ _
       refine wpList_boxA_load rowRv rfl _ rfl w.heap.size (resvA q n c r) rfl rfl T3.out.s ?_)
    | (go_at_call 15
       refine (HGD.out _ T3.out.low).mono ?_; rintro e w4 ⟨rfl, hb⟩
       have T4 := Lib.hid (T3.out.mono hb)
       skip
       clear hb T3 c0 c1 c2 c3 c4 d0 d1 d2 d3 d4 d5
       obtain ⟨c0, c1, c2, c3, c4⟩ := T4.out.c
       obtain ⟨d0, d1, d2, d3, d4, d5⟩ := T4.out.d
       rw [HP.out] at d0)
    | (with_reducible show wpList _ _ _ (⟨_, Op.load rvT (.tmp 2), _, _, _, none⟩ :: _) _ _
       refine wpList_boxA_load rowRv rfl _ rfl w.heap.size (resvA q n c r) rfl rfl T4.out.s ?_)
    | (go_at_call 16
       refine (HKY.out _ T4.out.low).mono ?_; rintro e w5 ⟨rfl, hb⟩
       have T5 := Lib.hid (T4.out.mono hb)
       skip
       clear hb T4 c0 c1 c2 c3 c4 d0 d1 d2 d3 d4 d5
       obtain ⟨c0, c1, c2, c3, c4⟩ := T5.out.c
       obtain ⟨d0, d1, d2, d3, d4, d5⟩ := T5.out.d
       rw [HP.out] at d0)
    | (with_reducible show wpList _ _ _ (⟨_, Op.buildSlice _ _ _, _, _, _, none⟩ :: _) _ _
       refine wpList_int1V rfl _ rfl o.who rfl ?_
       intro u1 x l s
       have U1 := Lib.hid x
       have TU := Lib.hid (T5.out.mono l)
       clear x l s T5 c0 c1 c2 c3 c4 d0 d1 d2 d3 d4 d5)
    | (go_at_call 34
       refine (refWithout_any (c := c) (RowsAt.below HQ.out TU.out.low) HN.out HF.out (gc := 1) (gn := 1) (row_own (n := 1) (base := 0) (top := 0) U1.out rfl (by decide)) rfl (by decide)).mono ?_
       rintro e w6 ⟨q1, e1, rfl, ho, hb⟩
       have T6 := Lib.hid (TU.out.mono hb)
       have O6 := Lib.hid (OwnL.lower ho TU.out.r.lt)
       have M1 := Lib.hid (without_regs r [o.who])
       clear ho hb TU U1)
    | (with_reducible show wpList _ _ _ (⟨_, Op.alloc rvT, _, _, _, _⟩ :: _) _ _
       refine wpList_boxA_new rowRv rfl rfl w6.heap.size rfl ?_
       intro w7 x l s
       have J7 := Lib.hid x
       have T7 := Lib.hid (T6.out.mono l)
       have O7 := Lib.hid ((OwnL.below O6.out (Nat.le_refl _) l).raise l.size)
       have HJ := Lib.hid (show w.heap.size + 1 + 1 < w6.heap.size from T6.out.r.lt)
       clear x l s T6 O6
       generalize w6.heap.size = J at *)
    | (with_reducible show wpList _ _ _ (⟨_, Op.store rvT (.tmp 10) (.tmp 118), _, _, _, none⟩ :: _) _ _
       refine wpList_boxA_put rowRv rfl _ _ rfl rfl J (resvA q1 (withoutR r [o.who]).regs.length e1 (withoutR r [o.who])) _ rfl (rvA_one _ _ _ _) rfl rfl rfl J7.out ?_
       intro w8 x k s
       have J8 := Lib.hid x
       have T8 := Lib.hid (T7.out.keepB k HJ.out)
       have O8 := Lib.hid (keepR O7.out k s (own_ne_box O7.out J7.out))
       clear x k s J7 T7 O7
       obtain ⟨c0, c1, c2, c3, c4⟩ := T8.out.c
       obtain ⟨d0, d1, d2, d3, d4, d5⟩ := T8.out.d
       rw [HP.out] at d0)
    | (with_reducible show wpList _ _ _ (⟨_, Op.load rvT (.tmp 2), _, _, _, none⟩ :: _) _ _
       refine wpList_boxA_load rowRv rfl _ rfl w.heap.size (resvA q n c r) rfl rfl T8.out.s ?_)
    | (go_at_call 35
       refine (refWith_any (c := c) (RowsAt.below HQ.out T8.out.low) HN.out HF.out o.who o.new).mono ?_
       rw [HW4.out]
       rintro e wb ⟨q2, e2, rfl, ho, hb⟩
       have TC := Lib.hid (T8.out.mono hb)
       have OC := Lib.hid (OwnL.lower ho T8.out.r.lt)
       have JC := Lib.hid (J8.out.keep (hb.block _ J8.out.lt))
       clear ho hb T8 O8 J8 c0 c1 c2 c3 c4 d0 d1 d2 d3 d4 d5)
    | (with_reducible show wpList _ _ _ (⟨_, Op.store rvT (.tmp 10) (.tmp 129), _, _, _, none⟩ :: _) _ _
       refine wpList_boxA_put rowRv rfl _ _ rfl rfl J (resvA q2 (withL r.regs o.who o.new false).length e2 { r with regs := withL r.regs o.who o.new false }) _ rfl (rvA_one _ _ _ _) rfl rfl rfl JC.out ?_
       intro wc x k s
       have JD := Lib.hid x
       have TD := Lib.hid (TC.out.keepB k HJ.out)
       have OD := Lib.hid (keepR OC.out k s (own_ne_box OC.out JC.out))
       clear x k s JC TC OC
       obtain ⟨c0, c1, c2, c3, c4⟩ := TD.out.c
       obtain ⟨d0, d1, d2, d3, d4, d5⟩ := TD.out.d
       rw [HP.out] at d0
       obtain ⟨j0, j1, j2, j3, j4⟩ := boxRv JD.out)
    | (go_at_call 26
       refine (refNobody_any _).mono ?_; rintro e w7 ⟨rfl, hb7⟩
       have T7 := Lib.hid (TD.out.mono hb7)
       clear hb7 TD)
    | (with_reducible show wpList _ _ _ (⟨_, Op.store rvT (.tmp 4) _, _, _, _, none⟩ :: _) _ _
       refine wpList_boxA_put rowRv rfl _ _ rfl rfl (w.heap.size + 1 + 1) (resvA none 0 0 nobodyR) _ rfl (rvA_one _ _ _ _) rfl rfl rfl T7.out.r ?_
       intro w9 x9 k9 s9
       have T9 := Lib.hid (T7.out.setR x9 k9)
       clear x9 k9 s9))
  exact bodyPost_ret (results_cell_row_tmp rfl _ _ (w.heap.size + 1 + 1) rvT (resvA none 0 0 nobodyR) (0, 0) _ rfl T9.out.r Try.underlying24 rfl (rvA_size _ _ _ _)) rfl (refPost_nobody T9.out.low)
set_option maxRecDepth 100000 in
set_option maxHeartbeats 16000000 in
theorem rd_new6 {w : World} {q : Option Addr} {n c : Nat} {r : ResvOf} (hq : RvAt w q n c r) {o : ROp} (hop : o.op = 6) (hg : goodR r = true) (hb1 : ¬ o.who < 0) (hb2 : ¬ o.key < 0) (hb3 : ¬ o.new < 0) (hn : 0 < o.new) (h4 : (withL r.regs o.who o.new false).length ≤ 4) :
    Calls Try.prog 11 #[.agg (resvA q n c r), .agg (ropA o)] w (RefPost w { r with regs := withL r.regs o.who o.new false, s := o.s, g := incR r.g } 0) := by
  have HGD := Lib.hid (fun (W : World) (hb : Below w.heap.size w W) => (by have h := refGood_any (c := c) (RowsAt.below hq.at_ hb) hq.len hq.few; rw [hg] at h; exact h : Calls Try.prog 15 #[.agg (resvA q n c r)] W fun e w' => e = .returned (.bool true) ∧ Below W.heap.size W w'))
  have HKY := Lib.hid (fun (W : World) (hb : Below w.heap.size w W) => refKey_any (c := c) (RowsAt.below hq.at_ hb) hq.len hq.few o.who)
  have HP := Lib.hid hop
  have HQ := Lib.hid hq.at_
  have HN := Lib.hid hq.len
  have HF := Lib.hid hq.few
  have HI0 := Lib.hid (inc64 r.g)
  have HW4 := Lib.hid (show decide (((withL r.regs o.who o.new false).length : Int) ≤ 4) = true from decide_eq_true (by omega))
  have HI := Lib.hid (inc64 r.g)
  clear h4
  clear hop hq
  go_enter Try.func11, Try.ntmps11
  go_wp2_with (first
    | (with_reducible show wpList _ _ _ (⟨_, Op.box rvT _, _, _, _, none⟩ :: _) _ _
       refine wpList_boxA_of rfl _ rfl (resvA q n c r) rfl ?_
       intro w1 x1 l1 s1
       have X1 := Lib.hid x1
       have L1 := Lib.hid l1
       have S1 := Lib.hid s1
       clear x1 l1 s1)
    | (with_reducible show wpList _ _ _ (⟨_, Op.box roT _, _, _, _, none⟩ :: _) _ _
       refine wpList_boxA_of rfl _ rfl (ropA o) rfl ?_
       intro w2 x2 l2 s2
       rw [S1.out] at x2 s2
       rw [S1.out]
       have X2 := Lib.hid x2
       have L2 := Lib.hid l2
       have S2 := Lib.hid s2
       clear x2 l2 s2)
    | (with_reducible show wpList _ _ _ (⟨_, Op.alloc rvT, _, _, _, _⟩ :: _) _ _
       refine wpList_boxA_new rowRv rfl rfl (w.heap.size + 1 + 1) S2.out ?_
       intro w3 x3 l3 s3
       have T3 := Lib.hid (new3 X1.out L1.out S1.out X2.out L2.out S2.out x3 l3)
       obtain ⟨c0, c1, c2, c3, c4⟩ := T3.out.c
       obtain ⟨d0, d1, d2, d3, d4, d5⟩ := T3.out.d
       rw [HP.out] at d0
       clear x3 l3 s3 X1 L1 S1 X2 L2 S2)
    | (with_reducible show wpList _ _ _ (⟨_, Op.load rvT (.tmp 2), _, _, _, none⟩ :: _) _ _
       refine wpList_boxA_load rowRv rfl _ rfl w.heap.size (resvA q n c r) rfl rfl T3.out.s ?_)
    | (go_at_call 15
       refine (HGD.out _ T3.out.low).mono ?_; rintro e w4 ⟨rfl, hb⟩
       have T4 := Lib.hid (T3.out.mono hb)
       skip
       clear hb T3 c0 c1 c2 c3 c4 d0 d1 d2 d3 d4 d5
       obtain ⟨c0, c1, c2, c3, c4⟩ := T4.out.c
       obtain ⟨d0, d1, d2, d3, d4, d5⟩ := T4.out.d
       rw [HP.out] at d0)
    | (with_reducible show wpList _ _ _ (⟨_, Op.load rvT (.tmp 2), _, _, _, none⟩ :: _) _ _
       refine wpList_boxA_load rowRv rfl _ rfl w.heap.size (resvA q n c r) rfl rfl T4.out.s ?_)
    | (go_at_call 16
       refine (HKY.out _ T4.out.low).mono ?_; rintro e w5 ⟨rfl, hb⟩
       have T5 := Lib.hid (T4.out.mono hb)
       skip
       clear hb T4 c0 c1 c2 c3 c4 d0 d1 d2 d3 d4 d5
       obtain ⟨c0, c1, c2, c3, c4⟩ := T5.out.c
       obtain ⟨d0, d1, d2, d3, d4, d5⟩ := T5.out.d
       rw [HP.out] at d0)
    | (with_reducible show wpList _ _ _ (⟨_, Op.buildSlice _ _ _, _, _, _, none⟩ :: _) _ _
       refine wpList_int1V rfl _ rfl o.who rfl ?_
       intro u1 x l s
       have U1 := Lib.hid x
       have TU := Lib.hid (T5.out.mono l)
       clear x l s T5 c0 c1 c2 c3 c4 d0 d1 d2 d3 d4 d5)
    | (go_at_call 34
       refine (refWithout_any (c := c) (RowsAt.below HQ.out TU.out.low) HN.out HF.out (gc := 1) (gn := 1) (row_own (n := 1) (base := 0) (top := 0) U1.out rfl (by decide)) rfl (by decide)).mono ?_
       rintro e w6 ⟨q1, e1, rfl, ho, hb⟩
       have T6 := Lib.hid (TU.out.mono hb)
       have O6 := Lib.hid (OwnL.lower ho TU.out.r.lt)
       have M1 := Lib.hid (without_regs r [o.who])
       clear ho hb TU U1)
    | (with_reducible show wpList _ _ _ (⟨_, Op.alloc rvT, _, _, _, _⟩ :: _) _ _
       refine wpList_boxA_new rowRv rfl rfl w6.heap.size rfl ?_
       intro w7 x l s
       have J7 := Lib.hid x
       have T7 := Lib.hid (T6.out.mono l)
       have O7 := Lib.hid ((OwnL.below O6.out (Nat.le_refl _) l).raise l.size)
       have HJ := Lib.hid (show w.heap.size + 1 + 1 < w6.heap.size from T6.out.r.lt)
       clear x l s T6 O6
       generalize w6.heap.size = J at *)
    | (with_reducible show wpList _ _ _ (⟨_, Op.store rvT (.tmp 10) (.tmp 118), _, _, _, none⟩ :: _) _ _
       refine wpList_boxA_put rowRv rfl _ _ rfl rfl J (resvA q1 (withoutR r [o.who]).regs.length e1 (withoutR r [o.who])) _ rfl (rvA_one _ _ _ _) rfl rfl rfl J7.out ?_
       intro w8 x k s
       have J8 := Lib.hid x
       have T8 := Lib.hid (T7.out.keepB k HJ.out)
       have O8 := Lib.hid (keepR O7.out k s (own_ne_box O7.out J7.out))
       clear x k s J7 T7 O7
       obtain ⟨c0, c1, c2, c3, c4⟩ := T8.out.c
       obtain ⟨d0, d1, d2, d3, d4, d5⟩ := T8.out.d
       rw [HP.out] at d0)
    | (with_reducible show wpList _ _ _ (⟨_, Op.load rvT (.tmp 2), _, _, _, none⟩ :: _) _ _
       refine wpList_boxA_load rowRv rfl _ rfl w.heap.size (resvA q n c r) rfl rfl T8.out.s ?_)
    | (go_at_call 35
       refine (refWith_any (c := c) (RowsAt.below HQ.out T8.out.low) HN.out HF.out o.who o.new).mono ?_
       rw [HW4.out]
       rintro e wb ⟨q2, e2, rfl, ho, hb⟩
       have TC := Lib.hid (T8.out.mono hb)
       have OC := Lib.hid (OwnL.lower ho T8.out.r.lt)
       have JC := Lib.hid (J8.out.keep (hb.block _ J8.out.lt))
       clear ho hb T8 O8 J8 c0 c1 c2 c3 c4 d0 d1 d2 d3 d4 d5)
    | (with_reducible show wpList _ _ _ (⟨_, Op.store rvT (.tmp 10) (.tmp 129), _, _, _, none⟩ :: _) _ _
       refine wpList_boxA_put rowRv rfl _ _ rfl rfl J (resvA q2 (withL r.regs o.who o.new false).length e2 { r with regs := withL r.regs o.who o.new false }) _ rfl (rvA_one _ _ _ _) rfl rfl rfl JC.out ?_
       intro wc x k s
       have JD := Lib.hid x
       have TD := Lib.hid (TC.out.keepB k HJ.out)
       have OD := Lib.hid (keepR OC.out k s (own_ne_box OC.out JC.out))
       clear x k s JC TC OC
       obtain ⟨c0, c1, c2, c3, c4⟩ := TD.out.c
       obtain ⟨d0, d1, d2, d3, d4, d5⟩ := TD.out.d
       rw [HP.out] at d0
       obtain ⟨j0, j1, j2, j3, j4⟩ := boxRv JD.out)
    | (with_reducible show wpList _ _ _ (⟨_, Op.store 4 _ _, _, _, _, none⟩ :: _) _ _
       refine wpList_boxA_bool rfl _ _ rfl rfl J 3 o.s rfl rfl JD.out (by simp [resvA]) ?_
       intro v1 x k s
       rw [set3] at x
       have JA := Lib.hid x
       have TA := Lib.hid (TD.out.keepB k HJ.out)
       have OA := Lib.hid (keepR OD.out k s (own_ne_box OD.out JD.out))
       clear x k s JD TD OD c0 c1 c2 c3 c4 d0 d1 d2 d3 d4 d5
       obtain ⟨j0, j1, j2, j3, j4⟩ := boxRv JA.out)
    | (with_reducible show wpList _ _ _ (⟨_, Op.store 3 _ _, _, _, _, none⟩ :: _) _ _
       refine wpList_boxA_int rfl _ _ rfl rfl J 4 _ rfl rfl JA.out (by simp [resvA]) ?_
       intro v2 x k s
       rw [set4, HI.out] at x
       have JB := Lib.hid x
       have TB := Lib.hid (TA.out.keepB k HJ.out)
       have OB := Lib.hid (keepR OA.out k s (own_ne_box OA.out JA.out))
       clear x k s JA TA OA j0 j1 j2 j3 j4)
    | (with_reducible show wpList _ _ _ (⟨_, Op.load rvT (.tmp 10), _, _, _, none⟩ :: _) _ _
       refine wpList_boxA_load rowRv rfl _ rfl J (resvA q2 (withL r.regs o.who o.new false).length e2 { r with regs := withL r.regs o.who o.new false, s := o.s, g := incR r.g }) rfl rfl JB.out ?_)
    | (with_reducible show wpList _ _ _ (⟨_, Op.store rvT (.tmp 4) _, _, _, _, none⟩ :: _) _ _
       refine wpList_boxA_put rowRv rfl _ _ rfl rfl (w.heap.size + 1 + 1) (resvA q2 (withL r.regs o.who o.new false).length e2 { r with regs := withL r.regs o.who o.new false, s := o.s, g := incR r.g }) _ rfl (rvA_one _ _ _ _) rfl rfl rfl TB.out.r ?_
       intro w9 x9 k9 s9
       have T9 := Lib.hid (TB.out.setR x9 k9)
       have O9 := Lib.hid (keepR OB.out k9 s9 (fun B hB => by have := own_at OB.out B hB; omega))
       clear x9 k9 s9))
  exact bodyPost_ret (results_cell_row_tmp rfl _ _ (w.heap.size + 1 + 1) rvT (resvA q2 (withL r.regs o.who o.new false).length e2 { r with regs := withL r.regs o.who o.new false, s := o.s, g := incR r.g }) (0, 0) _ rfl T9.out.r Try.underlying24 rfl (rvA_size _ _ _ _)) rfl ⟨q2, _, e2, rfl, (own_rows O9.out).1, (own_rows O9.out).2, T9.out.low⟩
end Go.Proofs.Ytfnkdmdcjliebaa
