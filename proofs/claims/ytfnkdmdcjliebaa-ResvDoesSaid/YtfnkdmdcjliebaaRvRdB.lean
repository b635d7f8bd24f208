/- The contract of the document's Do, where the operation is in form. Conditions: the registrations lie in memory, at most 1000. -/
import Derived.Test.YtfnkdmdcjliebaaRvRdA
namespace Go.Proofs.Ytfnkdmdcjliebaa
open Go.ChangeShapes Go.WideShapes Go.ChangeAt Go.RowKit
set_option linter.unusedVariables false
set_option linter.unusedSimpArgs false
theorem row_own {W : World} {B n base top : Nat} {l : List Int} (h : RowI W B l) (hn : l.length = n) (hm : n ≤ 1000) : RowsAt 1 intC W (some ⟨B, 0, none⟩) l := by
  have := RowI.own h (Nat.le_refl B) (BoxA.lt h) hn hm
  obtain ⟨p, c, hv, -, -, h3, -⟩ := OwnL.rows elemInt.len this
  cases hv; exact h3
attribute [local irreducible] regC atR keyR inR risesR formR goodR allR holdersR holdsR allowedR goneF hasR selfF withL PB endP errN runP regP releaseP reserveP preemptP wellR entR doR withoutR goneR overR refusedR
attribute [local go_sem] Oper.semAt_some
set_option maxRecDepth 100000 in
set_option maxHeartbeats 16000000 in
theorem rd_conf1 {w : World} {q : Option Addr} {n c : Nat} {r : ResvOf} (hq : RvAt w q n c r) {o : ROp} (hop : o.op = 1) (hg : goodR r = true) (hb1 : ¬ o.who < 0) (hb2 : ¬ o.key < 0) (hb3 : ¬ o.new < 0) (hk : keyR r.regs o.who ≠ o.key) :
    Calls Try.prog 11 #[.agg (resvA q n c r), .agg (ropA o)] w (RefPost w nobodyR 9) := by
  have HGD := Lib.hid (fun (W : World) (hb : Below w.heap.size w W) => (by have h := refGood_any (c := c) (RowsAt.below hq.at_ hb) hq.len hq.few; rw [hg] at h; exact h : Calls Try.prog 15 #[.agg (resvA q n c r)] W fun e w' => e = .returned (.bool true) ∧ Below W.heap.size W w'))
  have HKY := Lib.hid (fun (W : World) (hb : Below w.heap.size w W) => refKey_any (c := c) (RowsAt.below hq.at_ hb) hq.len hq.few o.who)
  have HP := Lib.hid hop
  have HQ := Lib.hid hq.at_
  have HN := Lib.hid hq.len
  obtain ⟨x, hx⟩ : ∃ x, keyR r.regs o.who = x := ⟨_, rfl⟩
  rw [hx] at HKY hk
  have k1 : (x == o.key) = false := beq_eq_false_iff_ne.2 hk
  have k2 : (x != o.key) = true := bne_iff_ne.2 hk
  clear hx
  clear hop hq
  go_enter Try.func11, Try.ntmps11
  go_wp2_with (first
    | (with_reducible show wpList _ _ _ (⟨_, Op.box rvT _, _, _, _, none⟩ :: _) _ _
       refine wpList_boxA_of rfl _ rfl (resvA q n c r) rfl ?_
       intro w1 x1 l1 s1
       have X1 := Lib.hid x1
       have L1 := Lib.hid l1
       have S1 := Lib.hid s1
       clear x1 l1 s1)
    | (with_reducible show wpList _ _ _ (⟨_, Op.box roT _, _, _, _, none⟩ :: _) _ _
       refine wpList_boxA_of rfl _ rfl (ropA o) rfl ?_
       intro w2 x2 l2 s2
       rw [S1.out] at x2 s2
       rw [S1.out]
       have X2 := Lib.hid x2
       have L2 := Lib.hid l2
       have S2 := Lib.hid s2
       clear x2 l2 s2)
    | (with_reducible show wpList _ _ _ (⟨_, Op.alloc rvT, _, _, _, _⟩ :: _) _ _
       refine wpList_boxA_new rowRv rfl rfl (w.heap.size + 1 + 1) S2.out ?_
       intro w3 x3 l3 s3
       have T3 := Lib.hid (new3 X1.out L1.out S1.out X2.out L2.out S2.out x3 l3)
       obtain ⟨c0, c1, c2, c3, c4⟩ := T3.out.c
       obtain ⟨d0, d1, d2, d3, d4, d5⟩ := T3.out.d
       rw [HP.out] at d0
       clear x3 l3 s3 X1 L1 S1 X2 L2 S2)
    | (with_reducible show wpList _ _ _ (⟨_, Op.load rvT (.tmp 2), _, _, _, none⟩ :: _) _ _
       refine wpList_boxA_load rowRv rfl _ rfl w.heap.size (resvA q n c r) rfl rfl T3.out.s ?_)
    | (go_at_call 15
       refine (HGD.out _ T3.out.low).mono ?_; rintro e w4 ⟨rfl, hb⟩
       have T4 := Lib.hid (T3.out.mono hb)
       skip
       clear hb T3 c0 c1 c2 c3 c4 d0 d1 d2 d3 d4 d5
       obtain ⟨c0, c1, c2, c3, c4⟩ := T4.out.c
       obtain ⟨d0, d1, d2, d3, d4, d5⟩ := T4.out.d
       rw [HP.out] at d0)
    | (with_reducible show wpList _ _ _ (⟨_, Op.load rvT (.tmp 2), _, _, _, none⟩ :: _) _ _
       refine wpList_boxA_load rowRv rfl _ rfl w.heap.size (resvA q n c r) rfl rfl T4.out.s ?_)
    | (go_at_call 16
       refine (HKY.out _ T4.out.low).mono ?_; rintro e w5 ⟨rfl, hb⟩
       have T5 := Lib.hid (T4.out.mono hb)
       skip
       clear hb T4 c0 c1 c2 c3 c4 d0 d1 d2 d3 d4 d5
       obtain ⟨c0, c1, c2, c3, c4⟩ := T5.out.c
       obtain ⟨d0, d1, d2, d3, d4, d5⟩ := T5.out.d
       rw [HP.out] at d0)
    | (go_at_call 26
       refine (refNobody_any _).mono ?_; rintro e w7 ⟨rfl, hb7⟩
       have T7 := Lib.hid (T5.out.mono hb7)
       clear hb7 T5)
    | (with_reducible show wpList _ _ _ (⟨_, Op.store rvT (.tmp 4) _, _, _, _, none⟩ :: _) _ _
       refine wpList_boxA_put rowRv rfl _ _ rfl rfl (w.heap.size + 1 + 1) (resvA none 0 0 nobodyR) _ rfl (rvA_one _ _ _ _) rfl rfl rfl T7.out.r ?_
       intro w9 x9 k9 s9
       have T9 := Lib.hid (T7.out.setR x9 k9)
       clear x9 k9 s9))
  exact bodyPost_ret (results_cell_row_tmp rfl _ _ (w.heap.size + 1 + 1) rvT (resvA none 0 0 nobodyR) (0, 0) _ rfl T9.out.r Try.underlying24 rfl (rvA_size _ _ _ _)) rfl (refPost_nobody T9.out.low)
set_option maxRecDepth 100000 in
set_option maxHeartbeats 16000000 in
theorem rd_none2 {w : World} {q : Option Addr} {n c : Nat} {r : ResvOf} (hq : RvAt w q n c r) {o : ROp} (hop : o.op = 2) (hg : goodR r = true) (hb1 : ¬ o.who < 0) (hb2 : ¬ o.key < 0) (hb3 : ¬ o.new < 0) (hb4 : ¬ o.ty < 1) (hb5 : ¬ 6 < o.ty) (hk : keyR r.regs o.who = 0) :
    Calls Try.prog 11 #[.agg (resvA q n c r), .agg (ropA o)] w (RefPost w nobodyR 9) := by
  have HGD := Lib.hid (fun (W : World) (hb : Below w.heap.size w W) => (by have h := refGood_any (c := c) (RowsAt.below hq.at_ hb) hq.len hq.few; rw [hg] at h; exact h : Calls Try.prog 15 #[.agg (resvA q n c r)] W fun e w' => e = .returned (.bool true) ∧ Below W.heap.size W w'))
  have HKY := Lib.hid (fun (W : World) (hb : Below w.heap.size w W) => refKey_any (c := c) (RowsAt.below hq.at_ hb) hq.len hq.few o.who)
  have HP := Lib.hid hop
  have HQ := Lib.hid hq.at_
  have HN := Lib.hid hq.len
  rw [hk] at HKY
  clear hk
  clear hop hq
  go_enter Try.func11, Try.ntmps11
  go_wp2_with (first
    | (with_reducible show wpList _ _ _ (⟨_, Op.box rvT _, _, _, _, none⟩ :: _) _ _
       refine wpList_boxA_of rfl _ rfl (resvA q n c r) rfl ?_
       intro w1 x1 l1 s1
       have X1 := Lib.hid x1
       have L1 := Lib.hid l1
       have S1 := Lib.hid s1
       clear x1 l1 s1)
    | (with_reducible show wpList _ _ _ (⟨_, Op.box roT _, _, _, _, none⟩ :: _) _ _
       refine wpList_boxA_of rfl _ rfl (ropA o) rfl ?_
       intro w2 x2 l2 s2
       rw [S1.out] at x2 s2
       rw [S1.out]
       have X2 := Lib.hid x2
       have L2 := Lib.hid l2
       have S2 := Lib.hid s2
       clear x2 l2 s2)
    | (with_reducible show wpList _ _ _ (⟨_, Op.alloc rvT, _, _, _, _⟩ :: _) _ _
       refine wpList_boxA_new rowRv rfl rfl (w.heap.size + 1 + 1) S2.out ?_
       intro w3 x3 l3 s3
       have T3 := Lib.hid (new3 X1.out L1.out S1.out X2.out L2.out S2.out x3 l3)
       obtain ⟨c0, c1, c2, c3, c4⟩ := T3.out.c
       obtain ⟨d0, d1, d2, d3, d4, d5⟩ := T3.out.d
       rw [HP.out] at d0
       clear x3 l3 s3 X1 L1 S1 X2 L2 S2)
    | (with_reducible show wpList _ _ _ (⟨_, Op.load rvT (.tmp 2), _, _, _, none⟩ :: _) _ _
       refine wpList_boxA_load rowRv rfl _ rfl w.heap.size (resvA q n c r) rfl rfl T3.out.s ?_)
    | (go_at_call 15
       refine (HGD.out _ T3.out.low).mono ?_; rintro e w4 ⟨rfl, hb⟩
       have T4 := Lib.hid (T3.out.mono hb)
       skip
       clear hb T3 c0 c1 c2 c3 c4 d0 d1 d2 d3 d4 d5
       obtain ⟨c0, c1, c2, c3, c4⟩ := T4.out.c
       obtain ⟨d0, d1, d2, d3, d4, d5⟩ := T4.out.d
       rw [HP.out] at d0)
    | (with_reducible show wpList _ _ _ (⟨_, Op.load rvT (.tmp 2), _, _, _, none⟩ :: _) _ _
       refine wpList_boxA_load rowRv rfl _ rfl w.heap.size (resvA q n c r) rfl rfl T4.out.s ?_)
    | (go_at_call 16
       refine (HKY.out _ T4.out.low).mono ?_; rintro e w5 ⟨rfl, hb⟩
       have T5 := Lib.hid (T4.out.mono hb)
       skip
       clear hb T4 c0 c1 c2 c3 c4 d0 d1 d2 d3 d4 d5
       obtain ⟨c0, c1, c2, c3, c4⟩ := T5.out.c
       obtain ⟨d0, d1, d2, d3, d4, d5⟩ := T5.out.d
       rw [HP.out] at d0)
    | (go_at_call 26
       refine (refNobody_any _).mono ?_; rintro e w7 ⟨rfl, hb7⟩
       have T7 := Lib.hid (T5.out.mono hb7)
       clear hb7 T5)
    | (with_reducible show wpList _ _ _ (⟨_, Op.store rvT (.tmp 4) _, _, _, _, none⟩ :: _) _ _
       refine wpList_boxA_put rowRv rfl _ _ rfl rfl (w.heap.size + 1 + 1) (resvA none 0 0 nobodyR) _ rfl (rvA_one _ _ _ _) rfl rfl rfl T7.out.r ?_
       intro w9 x9 k9 s9
       have T9 := Lib.hid (T7.out.setR x9 k9)
       clear x9 k9 s9))
  exact bodyPost_ret (results_cell_row_tmp rfl _ _ (w.heap.size + 1 + 1) rvT (resvA none 0 0 nobodyR) (0, 0) _ rfl T9.out.r Try.underlying24 rfl (rvA_size _ _ _ _)) rfl (refPost_nobody T9.out.low)
set_option maxRecDepth 100000 in
set_option maxHeartbeats 16000000 in
theorem rd_conf2 {w : World} {q : Option Addr} {n c : Nat} {r : ResvOf} (hq : RvAt w q n c r) {o : ROp} (hop : o.op = 2) (hg : goodR r = true) (hb1 : ¬ o.who < 0) (hb2 : ¬ o.key < 0) (hb3 : ¬ o.new < 0) (hb4 : ¬ o.ty < 1) (hb5 : ¬ 6 < o.ty) (hk0 : keyR r.regs o.who ≠ 0) (hk : keyR r.regs o.who ≠ o.key) :
    Calls Try.prog 11 #[.agg (resvA q n c r), .agg (ropA o)] w (RefPost w nobodyR 9) := by
  have HGD := Lib.hid (fun (W : World) (hb : Below w.heap.size w W) => (by have h := refGood_any (c := c) (RowsAt.below hq.at_ hb) hq.len hq.few; rw [hg] at h; exact h : Calls Try.prog 15 #[.agg (resvA q n c r)] W fun e w' => e = .returned (.bool true) ∧ Below W.heap.size W w'))
  have HKY := Lib.hid (fun (W : World) (hb : Below w.heap.size w W) => refKey_any (c := c) (RowsAt.below hq.at_ hb) hq.len hq.few o.who)
  have HP := Lib.hid hop
  have HQ := Lib.hid hq.at_
  have HN := Lib.hid hq.len
  obtain ⟨x, hx⟩ : ∃ x, keyR r.regs o.who = x := ⟨_, rfl⟩
  rw [hx] at HKY hk hk0
  have k0 : (x == 0) = false := beq_eq_false_iff_ne.2 hk0
  have k1 : (x == o.key) = false := beq_eq_false_iff_ne.2 hk
  have k2 : (x != o.key) = true := bne_iff_ne.2 hk
  clear hx
  clear hop hq
  go_enter Try.func11, Try.ntmps11
  go_wp2_with (first
    | (with_reducible show wpList _ _ _ (⟨_, Op.box rvT _, _, _, _, none⟩ :: _) _ _
       refine wpList_boxA_of rfl _ rfl (resvA q n c r) rfl ?_
       intro w1 x1 l1 s1
       have X1 := Lib.hid x1
       have L1 := Lib.hid l1
       have S1 := Lib.hid s1
       clear x1 l1 s1)
    | (with_reducible show wpList _ _ _ (⟨_, Op.box roT _, _, _, _, none⟩ :: _) _ _
       refine wpList_boxA_of rfl _ rfl (ropA o) rfl ?_
       intro w2 x2 l2 s2
       rw [S1.out] at x2 s2
       rw [S1.out]
       have X2 := Lib.hid x2
       have L2 := Lib.hid l2
       have S2 := Lib.hid s2
       clear x2 l2 s2)
    | (with_reducible show wpList _ _ _ (⟨_, Op.alloc rvT, _, _, _, _⟩ :: _) _ _
       refine wpList_boxA_new rowRv rfl rfl (w.heap.size + 1 + 1) S2.out ?_
       intro w3 x3 l3 s3
       have T3 := Lib.hid (new3 X1.out L1.out S1.out X2.out L2.out S2.out x3 l3)
       obtain ⟨c0, c1, c2, c3, c4⟩ := T3.out.c
       obtain ⟨d0, d1, d2, d3, d4, d5⟩ := T3.out.d
       rw [HP.out] at d0
       clear x3 l3 s3 X1 L1 S1 X2 L2 S2)
    | (with_reducible show wpList _ _ _ (⟨_, Op.load rvT (.tmp 2), _, _, _, none⟩ :: _) _ _
       refine wpList_boxA_load rowRv rfl _ rfl w.heap.size (resvA q n c r) rfl rfl T3.out.s ?_)
    | (go_at_call 15
       refine (HGD.out _ T3.out.low).mono ?_; rintro e w4 ⟨rfl, hb⟩
       have T4 := Lib.hid (T3.out.mono hb)
       skip
       clear hb T3 c0 c1 c2 c3 c4 d0 d1 d2 d3 d4 d5
       obtain ⟨c0, c1, c2, c3, c4⟩ := T4.out.c
       obtain ⟨d0, d1, d2, d3, d4, d5⟩ := T4.out.d
       rw [HP.out] at d0)
    | (with_reducible show wpList _ _ _ (⟨_, Op.load rvT (.tmp 2), _, _, _, none⟩ :: _) _ _
       refine wpList_boxA_load rowRv rfl _ rfl w.heap.size (resvA q n c r) rfl rfl T4.out.s ?_)
    | (go_at_call 16
       refine (HKY.out _ T4.out.low).mono ?_; rintro e w5 ⟨rfl, hb⟩
       have T5 := Lib.hid (T4.out.mono hb)
       skip
       clear hb T4 c0 c1 c2 c3 c4 d0 d1 d2 d3 d4 d5
       obtain ⟨c0, c1, c2, c3, c4⟩ := T5.out.c
       obtain ⟨d0, d1, d2, d3, d4, d5⟩ := T5.out.d
       rw [HP.out] at d0)
    | (go_at_call 26
       refine (refNobody_any _).mono ?_; rintro e w7 ⟨rfl, hb7⟩
       have T7 := Lib.hid (T5.out.mono hb7)
       clear hb7 T5)
    | (with_reducible show wpList _ _ _ (⟨_, Op.store rvT (.tmp 4) _, _, _, _, none⟩ :: _) _ _
       refine wpList_boxA_put rowRv rfl _ _ rfl rfl (w.heap.size + 1 + 1) (resvA none 0 0 nobodyR) _ rfl (rvA_one _ _ _ _) rfl rfl rfl T7.out.r ?_
       intro w9 x9 k9 s9
       have T9 := Lib.hid (T7.out.setR x9 k9)
       clear x9 k9 s9))
  exact bodyPost_ret (results_cell_row_tmp rfl _ _ (w.heap.size + 1 + 1) rvT (resvA none 0 0 nobodyR) (0, 0) _ rfl T9.out.r Try.underlying24 rfl (rvA_size _ _ _ _)) rfl (refPost_nobody T9.out.low)
set_option maxRecDepth 100000 in
set_option maxHeartbeats 16000000 in
theorem rd_none3 {w : World} {q : Option Addr} {n c : Nat} {r : ResvOf} (hq : RvAt w q n c r) {o : ROp} (hop : o.op = 3) (hg : goodR r = true) (hb1 : ¬ o.who < 0) (hb2 : ¬ o.key < 0) (hb3 : ¬ o.new < 0) (hb4 : ¬ o.ty < 1) (hb5 : ¬ 6 < o.ty) (hk : keyR r.regs o.who = 0) :
    Calls Try.prog 11 #[.agg (resvA q n c r), .agg (ropA o)] w (RefPost w nobodyR 9) := by
  have HGD := Lib.hid (fun (W : World) (hb : Below w.heap.size w W) => (by have h := refGood_any (c := c) (RowsAt.below hq.at_ hb) hq.len hq.few; rw [hg] at h; exact h : Calls Try.prog 15 #[.agg (resvA q n c r)] W fun e w' => e = .returned (.bool true) ∧ Below W.heap.size W w'))
  have HKY := Lib.hid (fun (W : World) (hb : Below w.heap.size w W) => refKey_any (c := c) (RowsAt.below hq.at_ hb) hq.len hq.few o.who)
  have HP := Lib.hid hop
  have HQ := Lib.hid hq.at_
  have HN := Lib.hid hq.len
  rw [hk] at HKY
  clear hk
  clear hop hq
  go_enter Try.func11, Try.ntmps11
  go_wp2_with (first
    | (with_reducible show wpList _ _ _ (⟨_, Op.box rvT _, _, _, _, none⟩ :: _) _ _
       refine wpList_boxA_of rfl _ rfl (resvA q n c r) rfl ?_
       intro w1 x1 l1 s1
       have X1 := Lib.hid x1
       have L1 := Lib.hid l1
       have S1 := Lib.hid s1
       clear x1 l1 s1)
    | (with_reducible show wpList _ _ _ (⟨_, Op.box roT _, _, _, _, none⟩ :: _) _ _
       refine wpList_boxA_of rfl _ rfl (ropA o) rfl ?_
       intro w2 x2 l2 s2
       rw [S1.out] at x2 s2
       rw [S1.out]
       have X2 := Lib.hid x2
       have L2 := Lib.hid l2
       have S2 := Lib.hid s2
       clear x2 l2 s2)
    | (with_reducible show wpList _ _ _ (⟨_, Op.alloc rvT, _, _, _, _⟩ :: _) _ _
       refine wpList_boxA_new rowRv rfl rfl (w.heap.size + 1 + 1) S2.out ?_
       intro w3 x3 l3 s3
       have T3 := Lib.hid (new3 X1.out L1.out S1.out X2.out L2.out S2.out x3 l3)
       obtain ⟨c0, c1, c2, c3, c4⟩ := T3.out.c
       obtain ⟨d0, d1, d2, d3, d4, d5⟩ := T3.out.d
       rw [HP.out] at d0
       clear x3 l3 s3 X1 L1 S1 X2 L2 S2)
    | (with_reducible show wpList _ _ _ (⟨_, Op.load rvT (.tmp 2), _, _, _, none⟩ :: _) _ _
       refine wpList_boxA_load rowRv rfl _ rfl w.heap.size (resvA q n c r) rfl rfl T3.out.s ?_)
    | (go_at_call 15
       refine (HGD.out _ T3.out.low).mono ?_; rintro e w4 ⟨rfl, hb⟩
       have T4 := Lib.hid (T3.out.mono hb)
       skip
       clear hb T3 c0 c1 c2 c3 c4 d0 d1 d2 d3 d4 d5
       obtain ⟨c0, c1, c2, c3, c4⟩ := T4.out.c
       obtain ⟨d0, d1, d2, d3, d4, d5⟩ := T4.out.d
       rw [HP.out] at d0)
    | (with_reducible show wpList _ _ _ (⟨_, Op.load rvT (.tmp 2), _, _, _, none⟩ :: _) _ _
       refine wpList_boxA_load rowRv rfl _ rfl w.heap.size (resvA q n c r) rfl rfl T4.out.s ?_)
    | (go_at_call 16
       refine (HKY.out _ T4.out.low).mono ?_; rintro e w5 ⟨rfl, hb⟩
       have T5 := Lib.hid (T4.out.mono hb)
       skip
       clear hb T4 c0 c1 c2 c3 c4 d0 d1 d2 d3 d4 d5
       obtain ⟨c0, c1, c2, c3, c4⟩ := T5.out.c
       obtain ⟨d0, d1, d2, d3, d4, d5⟩ := T5.out.d
       rw [HP.out] at d0)
    | (go_at_call 26
       refine (refNobody_any _).mono ?_; rintro e w7 ⟨rfl, hb7⟩
       have T7 := Lib.hid (T5.out.mono hb7)
       clear hb7 T5)
    | (with_reducible show wpList _ _ _ (⟨_, Op.store rvT (.tmp 4) _, _, _, _, none⟩ :: _) _ _
       refine wpList_boxA_put rowRv rfl _ _ rfl rfl (w.heap.size + 1 + 1) (resvA none 0 0 nobodyR) _ rfl (rvA_one _ _ _ _) rfl rfl rfl T7.out.r ?_
       intro w9 x9 k9 s9
       have T9 := Lib.hid (T7.out.setR x9 k9)
       clear x9 k9 s9))
  exact bodyPost_ret (results_cell_row_tmp rfl _ _ (w.heap.size + 1 + 1) rvT (resvA none 0 0 nobodyR) (0, 0) _ rfl T9.out.r Try.underlying24 rfl (rvA_size _ _ _ _)) rfl (refPost_nobody T9.out.low)
set_option maxRecDepth 100000 in
set_option maxHeartbeats 16000000 in
theorem rd_conf3 {w : World} {q : Option Addr} {n c : Nat} {r : ResvOf} (hq : RvAt w q n c r) {o : ROp} (hop : o.op = 3) (hg : goodR r = true) (hb1 : ¬ o.who < 0) (hb2 : ¬ o.key < 0) (hb3 : ¬ o.new < 0) (hb4 : ¬ o.ty < 1) (hb5 : ¬ 6 < o.ty) (hk0 : keyR r.regs o.who ≠ 0) (hk : keyR r.regs o.who ≠ o.key) :
    Calls Try.prog 11 #[.agg (resvA q n c r), .agg (ropA o)] w (RefPost w nobodyR 9) := by
  have HGD := Lib.hid (fun (W : World) (hb : Below w.heap.size w W) => (by have h := refGood_any (c := c) (RowsAt.below hq.at_ hb) hq.len hq.few; rw [hg] at h; exact h : Calls Try.prog 15 #[.agg (resvA q n c r)] W fun e w' => e = .returned (.bool true) ∧ Below W.heap.size W w'))
  have HKY := Lib.hid (fun (W : World) (hb : Below w.heap.size w W) => refKey_any (c := c) (RowsAt.below hq.at_ hb) hq.len hq.few o.who)
  have HP := Lib.hid hop
  have HQ := Lib.hid hq.at_
  have HN := Lib.hid hq.len
  obtain ⟨x, hx⟩ : ∃ x, keyR r.regs o.who = x := ⟨_, rfl⟩
  rw [hx] at HKY hk hk0
  have k0 : (x == 0) = false := beq_eq_false_iff_ne.2 hk0
  have k1 : (x == o.key) = false := beq_eq_false_iff_ne.2 hk
  have k2 : (x != o.key) = true := bne_iff_ne.2 hk
  clear hx
  clear hop hq
  go_enter Try.func11, Try.ntmps11
  go_wp2_with (first
    | (with_reducible show wpList _ _ _ (⟨_, Op.box rvT _, _, _, _, none⟩ :: _) _ _
       refine wpList_boxA_of rfl _ rfl (resvA q n c r) rfl ?_
       intro w1 x1 l1 s1
       have X1 := Lib.hid x1
       have L1 := Lib.hid l1
       have S1 := Lib.hid s1
       clear x1 l1 s1)
    | (with_reducible show wpList _ _ _ (⟨_, Op.box roT _, _, _, _, none⟩ :: _) _ _
       refine wpList_boxA_of rfl _ rfl (ropA o) rfl ?_
       intro w2 x2 l2 s2
       rw [S1.out] at x2 s2
       rw [S1.out]
       have X2 := Lib.hid x2
       have L2 := Lib.hid l2
       have S2 := Lib.hid s2
       clear x2 l2 s2)
    | (with_reducible show wpList _ _ _ (⟨_, Op.alloc rvT, _, _, _, _⟩ :: _) _ _
       refine wpList_boxA_new rowRv rfl rfl (w.heap.size + 1 + 1) S2.out ?_
       intro w3 x3 l3 s3
       have T3 := Lib.hid (new3 X1.out L1.out S1.out X2.out L2.out S2.out x3 l3)
       obtain ⟨c0, c1, c2, c3, c4⟩ := T3.out.c
       obtain ⟨d0, d1, d2, d3, d4, d5⟩ := T3.out.d
       rw [HP.out] at d0
       clear x3 l3 s3 X1 L1 S1 X2 L2 S2)
    | (with_reducible show wpList _ _ _ (⟨_, Op.load rvT (.tmp 2), _, _, _, none⟩ :: _) _ _
       refine wpList_boxA_load rowRv rfl _ rfl w.heap.size (resvA q n c r) rfl rfl T3.out.s ?_)
    | (go_at_call 15
       refine (HGD.out _ T3.out.low).mono ?_; rintro e w4 ⟨rfl, hb⟩
       have T4 := Lib.hid (T3.out.mono hb)
       skip
       clear hb T3 c0 c1 c2 c3 c4 d0 d1 d2 d3 d4 d5
       obtain ⟨c0, c1, c2, c3, c4⟩ := T4.out.c
       obtain ⟨d0, d1, d2, d3, d4, d5⟩ := T4.out.d
       rw [HP.out] at d0)
    | (with_reducible show wpList _ _ _ (⟨_, Op.load rvT (.tmp 2), _, _, _, none⟩ :: _) _ _
       refine wpList_boxA_load rowRv rfl _ rfl w.heap.size (resvA q n c r) rfl rfl T4.out.s ?_)
    | (go_at_call 16
       refine (HKY.out _ T4.out.low).mono ?_; rintro e w5 ⟨rfl, hb⟩
       have T5 := Lib.hid (T4.out.mono hb)
       skip
       clear hb T4 c0 c1 c2 c3 c4 d0 d1 d2 d3 d4 d5
       obtain ⟨c0, c1, c2, c3, c4⟩ := T5.out.c
       obtain ⟨d0, d1, d2, d3, d4, d5⟩ := T5.out.d
       rw [HP.out] at d0)
    | (go_at_call 26
       refine (refNobody_any _).mono ?_; rintro e w7 ⟨rfl, hb7⟩
       have T7 := Lib.hid (T5.out.mono hb7)
       clear hb7 T5)
    | (with_reducible show wpList _ _ _ (⟨_, Op.store rvT (.tmp 4) _, _, _, _, none⟩ :: _) _ _
       refine wpList_boxA_put rowRv rfl _ _ rfl rfl (w.heap.size + 1 + 1) (resvA none 0 0 nobodyR) _ rfl (rvA_one _ _ _ _) rfl rfl rfl T7.out.r ?_
       intro w9 x9 k9 s9
       have T9 := Lib.hid (T7.out.setR x9 k9)
       clear x9 k9 s9))
  exact bodyPost_ret (results_cell_row_tmp rfl _ _ (w.heap.size + 1 + 1) rvT (resvA none 0 0 nobodyR) (0, 0) _ rfl T9.out.r Try.underlying24 rfl (rvA_size _ _ _ _)) rfl (refPost_nobody T9.out.low)
set_option maxRecDepth 100000 in
set_option maxHeartbeats 16000000 in
theorem rd_none4 {w : World} {q : Option Addr} {n c : Nat} {r : ResvOf} (hq : RvAt w q n c r) {o : ROp} (hop : o.op = 4) (hg : goodR r = true) (hb1 : ¬ o.who < 0) (hb2 : ¬ o.key < 0) (hb3 : ¬ o.new < 0) (hk : keyR r.regs o.who = 0) :
    Calls Try.prog 11 #[.agg (resvA q n c r), .agg (ropA o)] w (RefPost w nobodyR 9) := by
  have HGD := Lib.hid (fun (W : World) (hb : Below w.heap.size w W) => (by have h := refGood_any (c := c) (RowsAt.below hq.at_ hb) hq.len hq.few; rw [hg] at h; exact h : Calls Try.prog 15 #[.agg (resvA q n c r)] W fun e w' => e = .returned (.bool true) ∧ Below W.heap.size W w'))
  have HKY := Lib.hid (fun (W : World) (hb : Below w.heap.size w W) => refKey_any (c := c) (RowsAt.below hq.at_ hb) hq.len hq.few o.who)
  have HP := Lib.hid hop
  have HQ := Lib.hid hq.at_
  have HN := Lib.hid hq.len
  rw [hk] at HKY
  clear hk
  clear hop hq
  go_enter Try.func11, Try.ntmps11
  go_wp2_with (first
    | (with_reducible show wpList _ _ _ (⟨_, Op.box rvT _, _, _, _, none⟩ :: _) _ _
       refine wpList_boxA_of rfl _ rfl (resvA q n c r) rfl ?_
       intro w1 x1 l1 s1
       have X1 := Lib.hid x1
       have L1 := Lib.hid l1
       have S1 := Lib.hid s1
       clear x1 l1 s1)
    | (with_reducible show wpList _ _ _ (⟨_, Op.box roT _, _, _, _, none⟩ :: _) _ _
       refine wpList_boxA_of rfl _ rfl (ropA o) rfl ?_
       intro w2 x2 l2 s2
       rw [S1.out] at x2 s2
       rw [S1.out]
       have X2 := Lib.hid x2
       have L2 := Lib.hid l2
       have S2 := Lib.hid s2
       clear x2 l2 s2)
    | (with_reducible show wpList _ _ _ (⟨_, Op.alloc rvT, _, _, _, _⟩ :: _) _ _
       refine wpList_boxA_new rowRv rfl rfl (w.heap.size + 1 + 1) S2.out ?_
       intro w3 x3 l3 s3
       have T3 := Lib.hid (new3 X1.out L1.out S1.out X2.out L2.out S2.out x3 l3)
       obtain ⟨c0, c1, c2, c3, c4⟩ := T3.out.c
       obtain ⟨d0, d1, d2, d3, d4, d5⟩ := T3.out.d
       rw [HP.out] at d0
       clear x3 l3 s3 X1 L1 S1 X2 L2 S2)
    | (with_reducible show wpList _ _ _ (⟨_, Op.load rvT (.tmp 2), _, _, _, none⟩ :: _) _ _
       refine wpList_boxA_load rowRv rfl _ rfl w.heap.size (resvA q n c r) rfl rfl T3.out.s ?_)
    | (go_at_call 15
       refine (HGD.out _ T3.out.low).mono ?_; rintro e w4 ⟨rfl, hb⟩
       have T4 := Lib.hid (T3.out.mono hb)
       skip
       clear hb T3 c0 c1 c2 c3 c4 d0 d1 d2 d3 d4 d5
       obtain ⟨c0, c1, c2, c3, c4⟩ := T4.out.c
       obtain ⟨d0, d1, d2, d3, d4, d5⟩ := T4.out.d
       rw [HP.out] at d0)
    | (with_reducible show wpList _ _ _ (⟨_, Op.load rvT (.tmp 2), _, _, _, none⟩ :: _) _ _
       refine wpList_boxA_load rowRv rfl _ rfl w.heap.size (resvA q n c r) rfl rfl T4.out.s ?_)
    | (go_at_call 16
       refine (HKY.out _ T4.out.low).mono ?_; rintro e w5 ⟨rfl, hb⟩
       have T5 := Lib.hid (T4.out.mono hb)
       skip
       clear hb T4 c0 c1 c2 c3 c4 d0 d1 d2 d3 d4 d5
       obtain ⟨c0, c1, c2, c3, c4⟩ := T5.out.c
       obtain ⟨d0, d1, d2, d3, d4, d5⟩ := T5.out.d
       rw [HP.out] at d0)
    | (go_at_call 26
       refine (refNobody_any _).mono ?_; rintro e w7 ⟨rfl, hb7⟩
       have T7 := Lib.hid (T5.out.mono hb7)
       clear hb7 T5)
    | (with_reducible show wpList _ _ _ (⟨_, Op.store rvT (.tmp 4) _, _, _, _, none⟩ :: _) _ _
       refine wpList_boxA_put rowRv rfl _ _ rfl rfl (w.heap.size + 1 + 1) (resvA none 0 0 nobodyR) _ rfl (rvA_one _ _ _ _) rfl rfl rfl T7.out.r ?_
       intro w9 x9 k9 s9
       have T9 := Lib.hid (T7.out.setR x9 k9)
       clear x9 k9 s9))
  exact bodyPost_ret (results_cell_row_tmp rfl _ _ (w.heap.size + 1 + 1) rvT (resvA none 0 0 nobodyR) (0, 0) _ rfl T9.out.r Try.underlying24 rfl (rvA_size _ _ _ _)) rfl (refPost_nobody T9.out.low)
set_option maxRecDepth 100000 in
set_option maxHeartbeats 16000000 in
theorem rd_conf4 {w : World} {q : Option Addr} {n c : Nat} {r : ResvOf} (hq : RvAt w q n c r) {o : ROp} (hop : o.op = 4) (hg : goodR r = true) (hb1 : ¬ o.who < 0) (hb2 : ¬ o.key < 0) (hb3 : ¬ o.new < 0) (hk0 : keyR r.regs o.who ≠ 0) (hk : keyR r.regs o.who ≠ o.key) :
    Calls Try.prog 11 #[.agg (resvA q n c r), .agg (ropA o)] w (RefPost w nobodyR 9) := by
  have HGD := Lib.hid (fun (W : World) (hb : Below w.heap.size w W) => (by have h := refGood_any (c := c) (RowsAt.below hq.at_ hb) hq.len hq.few; rw [hg] at h; exact h : Calls Try.prog 15 #[.agg (resvA q n c r)] W fun e w' => e = .returned (.bool true) ∧ Below W.heap.size W w'))
  have HKY := Lib.hid (fun (W : World) (hb : Below w.heap.size w W) => refKey_any (c := c) (RowsAt.below hq.at_ hb) hq.len hq.few o.who)
  have HP := Lib.hid hop
  have HQ := Lib.hid hq.at_
  have HN := Lib.hid hq.len
  obtain ⟨x, hx⟩ : ∃ x, keyR r.regs o.who = x := ⟨_, rfl⟩
  rw [hx] at HKY hk hk0
  have k0 : (x == 0) = false := beq_eq_false_iff_ne.2 hk0
  have k1 : (x == o.key) = false := beq_eq_false_iff_ne.2 hk
  have k2 : (x != o.key) = true := bne_iff_ne.2 hk
  clear hx
  clear hop hq
  go_enter Try.func11, Try.ntmps11
  go_wp2_with (first
    | (with_reducible show wpList _ _ _ (⟨_, Op.box rvT _, _, _, _, none⟩ :: _) _ _
       refine wpList_boxA_of rfl _ rfl (resvA q n c r) rfl ?_
       intro w1 x1 l1 s1
       have X1 := Lib.hid x1
       have L1 := Lib.hid l1
       have S1 := Lib.hid s1
       clear x1 l1 s1)
    | (with_reducible show wpList _ _ _ (⟨_, Op.box roT _, _, _, _, none⟩ :: _) _ _
       refine wpList_boxA_of rfl _ rfl (ropA o) rfl ?_
       intro w2 x2 l2 s2
       rw [S1.out] at x2 s2
       rw [S1.out]
       have X2 := Lib.hid x2
       have L2 := Lib.hid l2
       have S2 := Lib.hid s2
       clear x2 l2 s2)
    | (with_reducible show wpList _ _ _ (⟨_, Op.alloc rvT, _, _, _, _⟩ :: _) _ _
       refine wpList_boxA_new rowRv rfl rfl (w.heap.size + 1 + 1) S2.out ?_
       intro w3 x3 l3 s3
       have T3 := Lib.hid (new3 X1.out L1.out S1.out X2.out L2.out S2.out x3 l3)
       obtain ⟨c0, c1, c2, c3, c4⟩ := T3.out.c
       obtain ⟨d0, d1, d2, d3, d4, d5⟩ := T3.out.d
       rw [HP.out] at d0
       clear x3 l3 s3 X1 L1 S1 X2 L2 S2)
    | (with_reducible show wpList _ _ _ (⟨_, Op.load rvT (.tmp 2), _, _, _, none⟩ :: _) _ _
       refine wpList_boxA_load rowRv rfl _ rfl w.heap.size (resvA q n c r) rfl rfl T3.out.s ?_)
    | (go_at_call 15
       refine (HGD.out _ T3.out.low).mono ?_; rintro e w4 ⟨rfl, hb⟩
       have T4 := Lib.hid (T3.out.mono hb)
       skip
       clear hb T3 c0 c1 c2 c3 c4 d0 d1 d2 d3 d4 d5
       obtain ⟨c0, c1, c2, c3, c4⟩ := T4.out.c
       obtain ⟨d0, d1, d2, d3, d4, d5⟩ := T4.out.d
       rw [HP.out] at d0)
    | (with_reducible show wpList _ _ _ (⟨_, Op.load rvT (.tmp 2), _, _, _, none⟩ :: _) _ _
       refine wpList_boxA_load rowRv rfl _ rfl w.heap.size (resvA q n c r) rfl rfl T4.out.s ?_)
    | (go_at_call 16
       refine (HKY.out _ T4.out.low).mono ?_; rintro e w5 ⟨rfl, hb⟩
       have T5 := Lib.hid (T4.out.mono hb)
       skip
       clear hb T4 c0 c1 c2 c3 c4 d0 d1 d2 d3 d4 d5
       obtain ⟨c0, c1, c2, c3, c4⟩ := T5.out.c
       obtain ⟨d0, d1, d2, d3, d4, d5⟩ := T5.out.d
       rw [HP.out] at d0)
    | (go_at_call 26
       refine (refNobody_any _).mono ?_; rintro e w7 ⟨rfl, hb7⟩
       have T7 := Lib.hid (T5.out.mono hb7)
       clear hb7 T5)
    | (with_reducible show wpList _ _ _ (⟨_, Op.store rvT (.tmp 4) _, _, _, _, none⟩ :: _) _ _
       refine wpList_boxA_put rowRv rfl _ _ rfl rfl (w.heap.size + 1 + 1) (resvA none 0 0 nobodyR) _ rfl (rvA_one _ _ _ _) rfl rfl rfl T7.out.r ?_
       intro w9 x9 k9 s9
       have T9 := Lib.hid (T7.out.setR x9 k9)
       clear x9 k9 s9))
  exact bodyPost_ret (results_cell_row_tmp rfl _ _ (w.heap.size + 1 + 1) rvT (resvA none 0 0 nobodyR) (0, 0) _ rfl T9.out.r Try.underlying24 rfl (rvA_size _ _ _ _)) rfl (refPost_nobody T9.out.low)
set_option maxRecDepth 100000 in
set_option maxHeartbeats 16000000 in
theorem rd_none5 {w : World} {q : Option Addr} {n c : Nat} {r : ResvOf} (hq : RvAt w q n c r) {o : ROp} (hop : o.op = 5) (hg : goodR r = true) (hb1 : ¬ o.who < 0) (hb2 : ¬ o.key < 0) (hb3 : ¬ o.new < 0) (hb4 : ¬ o.ty < 1) (hb5 : ¬ 6 < o.ty) (hk : keyR r.regs o.who = 0) :
    Calls Try.prog 11 #[.agg (resvA q n c r), .agg (ropA o)] w (RefPost w nobodyR 9) := by
  have HGD := Lib.hid (fun (W : World) (hb : Below w.heap.size w W) => (by have h := refGood_any (c := c) (RowsAt.below hq.at_ hb) hq.len hq.few; rw [hg] at h; exact h : Calls Try.prog 15 #[.agg (resvA q n c r)] W fun e w' => e = .returned (.bool true) ∧ Below W.heap.size W w'))
  have HKY := Lib.hid (fun (W : World) (hb : Below w.heap.size w W) => refKey_any (c := c) (RowsAt.below hq.at_ hb) hq.len hq.few o.who)
  have HP := Lib.hid hop
  have HQ := Lib.hid hq.at_
  have HN := Lib.hid hq.len
  rw [hk] at HKY
  clear hk
  clear hop hq
  go_enter Try.func11, Try.ntmps11
  go_wp2_with (first
    | (with_reducible show wpList _ _ _ (⟨_, Op.box rvT _, _, _, _, none⟩ :: _) _ _
       refine wpList_boxA_of rfl _ rfl (resvA q n c r) rfl ?_
       intro w1 x1 l1 s1
       have X1 := Lib.hid x1
       have L1 := Lib.hid l1
       have S1 := Lib.hid s1
       clear x1 l1 s1)
    | (with_reducible show wpList _ _ _ (⟨_, Op.box roT _, _, _, _, none⟩ :: _) _ _
       refine wpList_boxA_of rfl _ rfl (ropA o) rfl ?_
       intro w2 x2 l2 s2
       rw [S1.out] at x2 s2
       rw [S1.out]
       have X2 := Lib.hid x2
       have L2 := Lib.hid l2
       have S2 := Lib.hid s2
       clear x2 l2 s2)
    | (with_reducible show wpList _ _ _ (⟨_, Op.alloc rvT, _, _, _, _⟩ :: _) _ _
       refine wpList_boxA_new rowRv rfl rfl (w.heap.size + 1 + 1) S2.out ?_
       intro w3 x3 l3 s3
       have T3 := Lib.hid (new3 X1.out L1.out S1.out X2.out L2.out S2.out x3 l3)
       obtain ⟨c0, c1, c2, c3, c4⟩ := T3.out.c
       obtain ⟨d0, d1, d2, d3, d4, d5⟩ := T3.out.d
       rw [HP.out] at d0
       clear x3 l3 s3 X1 L1 S1 X2 L2 S2)
    | (with_reducible show wpList _ _ _ (⟨_, Op.load rvT (.tmp 2), _, _, _, none⟩ :: _) _ _
       refine wpList_boxA_load rowRv rfl _ rfl w.heap.size (resvA q n c r) rfl rfl T3.out.s ?_)
    | (go_at_call 15
       refine (HGD.out _ T3.out.low).mono ?_; rintro e w4 ⟨rfl, hb⟩
       have T4 := Lib.hid (T3.out.mono hb)
       skip
       clear hb T3 c0 c1 c2 c3 c4 d0 d1 d2 d3 d4 d5
       obtain ⟨c0, c1, c2, c3, c4⟩ := T4.out.c
       obtain ⟨d0, d1, d2, d3, d4, d5⟩ := T4.out.d
       rw [HP.out] at d0)
    | (with_reducible show wpList _ _ _ (⟨_, Op.load rvT (.tmp 2), _, _, _, none⟩ :: _) _ _
       refine wpList_boxA_load rowRv rfl _ rfl w.heap.size (resvA q n c r) rfl rfl T4.out.s ?_)
    | (go_at_call 16
       refine (HKY.out _ T4.out.low).mono ?_; rintro e w5 ⟨rfl, hb⟩
       have T5 := Lib.hid (T4.out.mono hb)
       skip
       clear hb T4 c0 c1 c2 c3 c4 d0 d1 d2 d3 d4 d5
       obtain ⟨c0, c1, c2, c3, c4⟩ := T5.out.c
       obtain ⟨d0, d1, d2, d3, d4, d5⟩ := T5.out.d
       rw [HP.out] at d0)
    | (go_at_call 26
       refine (refNobody_any _).mono ?_; rintro e w7 ⟨rfl, hb7⟩
       have T7 := Lib.hid (T5.out.mono hb7)
       clear hb7 T5)
    | (with_reducible show wpList _ _ _ (⟨_, Op.store rvT (.tmp 4) _, _, _, _, none⟩ :: _) _ _
       refine wpList_boxA_put rowRv rfl _ _ rfl rfl (w.heap.size + 1 + 1) (resvA none 0 0 nobodyR) _ rfl (rvA_one _ _ _ _) rfl rfl rfl T7.out.r ?_
       intro w9 x9 k9 s9
       have T9 := Lib.hid (T7.out.setR x9 k9)
       clear x9 k9 s9))
  exact bodyPost_ret (results_cell_row_tmp rfl _ _ (w.heap.size + 1 + 1) rvT (resvA none 0 0 nobodyR) (0, 0) _ rfl T9.out.r Try.underlying24 rfl (rvA_size _ _ _ _)) rfl (refPost_nobody T9.out.low)
set_option maxRecDepth 100000 in
set_option maxHeartbeats 16000000 in
theorem rd_conf5 {w : World} {q : Option Addr} {n c : Nat} {r : ResvOf} (hq : RvAt w q n c r) {o : ROp} (hop : o.op = 5) (hg : goodR r = true) (hb1 : ¬ o.who < 0) (hb2 : ¬ o.key < 0) (hb3 : ¬ o.new < 0) (hb4 : ¬ o.ty < 1) (hb5 : ¬ 6 < o.ty) (hk0 : keyR r.regs o.who ≠ 0) (hk : keyR r.regs o.who ≠ o.key) :
    Calls Try.prog 11 #[.agg (resvA q n c r), .agg (ropA o)] w (RefPost w nobodyR 9) := by
  have HGD := Lib.hid (fun (W : World) (hb : Below w.heap.size w W) => (by have h := refGood_any (c := c) (RowsAt.below hq.at_ hb) hq.len hq.few; rw [hg] at h; exact h : Calls Try.prog 15 #[.agg (resvA q n c r)] W fun e w' => e = .returned (.bool true) ∧ Below W.heap.size W w'))
  have HKY := Lib.hid (fun (W : World) (hb : Below w.heap.size w W) => refKey_any (c := c) (RowsAt.below hq.at_ hb) hq.len hq.few o.who)
  have HP := Lib.hid hop
  have HQ := Lib.hid hq.at_
  have HN := Lib.hid hq.len
  obtain ⟨x, hx⟩ : ∃ x, keyR r.regs o.who = x := ⟨_, rfl⟩
  rw [hx] at HKY hk hk0
  have k0 : (x == 0) = false := beq_eq_false_iff_ne.2 hk0
  have k1 : (x == o.key) = false := beq_eq_false_iff_ne.2 hk
  have k2 : (x != o.key) = true := bne_iff_ne.2 hk
  clear hx
  clear hop hq
  go_enter Try.func11, Try.ntmps11
  go_wp2_with (first
    | (with_reducible show wpList _ _ _ (⟨_, Op.box rvT _, _, _, _, none⟩ :: _) _ _
       refine wpList_boxA_of rfl _ rfl (resvA q n c r) rfl ?_
       intro w1 x1 l1 s1
       have X1 := Lib.hid x1
       have L1 := Lib.hid l1
       have S1 := Lib.hid s1
       clear x1 l1 s1)
    | (with_reducible show wpList _ _ _ (⟨_, Op.box roT _, _, _, _, none⟩ :: _) _ _
       refine wpList_boxA_of rfl _ rfl (ropA o) rfl ?_
       intro w2 x2 l2 s2
       rw [S1.out] at x2 s2
       rw [S1.out]
       have X2 := Lib.hid x2
       have L2 := Lib.hid l2
       have S2 := Lib.hid s2
       clear x2 l2 s2)
    | (with_reducible show wpList _ _ _ (⟨_, Op.alloc rvT, _, _, _, _⟩ :: _) _ _
       refine wpList_boxA_new rowRv rfl rfl (w.heap.size + 1 + 1) S2.out ?_
       intro w3 x3 l3 s3
       have T3 := Lib.hid (new3 X1.out L1.out S1.out X2.out L2.out S2.out x3 l3)
       obtain ⟨c0, c1, c2, c3, c4⟩ := T3.out.c
       obtain ⟨d0, d1, d2, d3, d4, d5⟩ := T3.out.d
       rw [HP.out] at d0
       clear x3 l3 s3 X1 L1 S1 X2 L2 S2)
    | (with_reducible show wpList _ _ _ (⟨_, Op.load rvT (.tmp 2), _, _, _, none⟩ :: _) _ _
       refine wpList_boxA_load rowRv rfl _ rfl w.heap.size (resvA q n c r) rfl rfl T3.out.s ?_)
    | (go_at_call 15
       refine (HGD.out _ T3.out.low).mono ?_; rintro e w4 ⟨rfl, hb⟩
       have T4 := Lib.hid (T3.out.mono hb)
       skip
       clear hb T3 c0 c1 c2 c3 c4 d0 d1 d2 d3 d4 d5
       obtain ⟨c0, c1, c2, c3, c4⟩ := T4.out.c
       obtain ⟨d0, d1, d2, d3, d4, d5⟩ := T4.out.d
       rw [HP.out] at d0)
    | (with_reducible show wpList _ _ _ (⟨_, Op.load rvT (.tmp 2), _, _, _, none⟩ :: _) _ _
       refine wpList_boxA_load rowRv rfl _ rfl w.heap.size (resvA q n c r) rfl rfl T4.out.s ?_)
    | (go_at_call 16
       refine (HKY.out _ T4.out.low).mono ?_; rintro e w5 ⟨rfl, hb⟩
       have T5 := Lib.hid (T4.out.mono hb)
       skip
       clear hb T4 c0 c1 c2 c3 c4 d0 d1 d2 d3 d4 d5
       obtain ⟨c0, c1, c2, c3, c4⟩ := T5.out.c
       obtain ⟨d0, d1, d2, d3, d4, d5⟩ := T5.out.d
       rw [HP.out] at d0)
    | (go_at_call 26
       refine (refNobody_any _).mono ?_; rintro e w7 ⟨rfl, hb7⟩
       have T7 := Lib.hid (T5.out.mono hb7)
       clear hb7 T5)
    | (with_reducible show wpList _ _ _ (⟨_, Op.store rvT (.tmp 4) _, _, _, _, none⟩ :: _) _ _
       refine wpList_boxA_put rowRv rfl _ _ rfl rfl (w.heap.size + 1 + 1) (resvA none 0 0 nobodyR) _ rfl (rvA_one _ _ _ _) rfl rfl rfl T7.out.r ?_
       intro w9 x9 k9 s9
       have T9 := Lib.hid (T7.out.setR x9 k9)
       clear x9 k9 s9))
  exact bodyPost_ret (results_cell_row_tmp rfl _ _ (w.heap.size + 1 + 1) rvT (resvA none 0 0 nobodyR) (0, 0) _ rfl T9.out.r Try.underlying24 rfl (rvA_size _ _ _ _)) rfl (refPost_nobody T9.out.low)
set_option maxRecDepth 100000 in
set_option maxHeartbeats 16000000 in
theorem rd_take2 {w : World} {q : Option Addr} {n c : Nat} {r : ResvOf} (hq : RvAt w q n c r) {o : ROp} (hop : o.op = 2) (hg : goodR r = true) (hb1 : ¬ o.who < 0) (hb2 : ¬ o.key < 0) (hb3 : ¬ o.new < 0) (hb4 : ¬ o.ty < 1) (hb5 : ¬ 6 < o.ty) (hk0 : keyR r.regs o.who ≠ 0) (hk : keyR r.regs o.who = o.key) (hh : r.h = -1) :
    Calls Try.prog 11 #[.agg (resvA q n c r), .agg (ropA o)] w (RefPost w { r with h := o.who, t := o.ty } 0) := by
  have HGD := Lib.hid (fun (W : World) (hb : Below w.heap.size w W) => (by have h := refGood_any (c := c) (RowsAt.below hq.at_ hb) hq.len hq.few; rw [hg] at h; exact h : Calls Try.prog 15 #[.agg (resvA q n c r)] W fun e w' => e = .returned (.bool true) ∧ Below W.heap.size W w'))
  have HKY := Lib.hid (fun (W : World) (hb : Below w.heap.size w W) => refKey_any (c := c) (RowsAt.below hq.at_ hb) hq.len hq.few o.who)
  have HP := Lib.hid hop
  have HQ := Lib.hid hq.at_
  have HN := Lib.hid hq.len
  rw [hk] at HKY
  have k0 : (o.key == 0) = false := beq_eq_false_iff_ne.2 (by rw [← hk]; exact hk0)
  have k1 : (o.key == o.key) = true := by simp
  have k2 : (o.key != o.key) = false := by simp
  have k3 : o.key ≠ 0 := by rw [← hk]; exact hk0
  clear hk hk0
  have h1 : (r.h == -1) = true := by simpa using hh
  clear hh
  clear hop hq
  go_enter Try.func11, Try.ntmps11
  go_wp2_with (first
    | (with_reducible show wpList _ _ _ (⟨_, Op.box rvT _, _, _, _, none⟩ :: _) _ _
       refine wpList_boxA_of rfl _ rfl (resvA q n c r) rfl ?_
       intro w1 x1 l1 s1
       have X1 := Lib.hid x1
       have L1 := Lib.hid l1
       have S1 := Lib.hid s1
       clear x1 l1 s1)
    | (with_reducible show wpList _ _ _ (⟨_, Op.box roT _, _, _, _, none⟩ :: _) _ _
       refine wpList_boxA_of rfl _ rfl (ropA o) rfl ?_
       intro w2 x2 l2 s2
       rw [S1.out] at x2 s2
       rw [S1.out]
       have X2 := Lib.hid x2
       have L2 := Lib.hid l2
       have S2 := Lib.hid s2
       clear x2 l2 s2)
    | (with_reducible show wpList _ _ _ (⟨_, Op.alloc rvT, _, _, _, _⟩ :: _) _ _
       refine wpList_boxA_new rowRv rfl rfl (w.heap.size + 1 + 1) S2.out ?_
       intro w3 x3 l3 s3
       have T3 := Lib.hid (new3 X1.out L1.out S1.out X2.out L2.out S2.out x3 l3)
       obtain ⟨c0, c1, c2, c3, c4⟩ := T3.out.c
       obtain ⟨d0, d1, d2, d3, d4, d5⟩ := T3.out.d
       rw [HP.out] at d0
       clear x3 l3 s3 X1 L1 S1 X2 L2 S2)
    | (with_reducible show wpList _ _ _ (⟨_, Op.load rvT (.tmp 2), _, _, _, none⟩ :: _) _ _
       refine wpList_boxA_load rowRv rfl _ rfl w.heap.size (resvA q n c r) rfl rfl T3.out.s ?_)
    | (go_at_call 15
       refine (HGD.out _ T3.out.low).mono ?_; rintro e w4 ⟨rfl, hb⟩
       have T4 := Lib.hid (T3.out.mono hb)
       skip
       clear hb T3 c0 c1 c2 c3 c4 d0 d1 d2 d3 d4 d5
       obtain ⟨c0, c1, c2, c3, c4⟩ := T4.out.c
       obtain ⟨d0, d1, d2, d3, d4, d5⟩ := T4.out.d
       rw [HP.out] at d0)
    | (with_reducible show wpList _ _ _ (⟨_, Op.load rvT (.tmp 2), _, _, _, none⟩ :: _) _ _
       refine wpList_boxA_load rowRv rfl _ rfl w.heap.size (resvA q n c r) rfl rfl T4.out.s ?_)
    | (go_at_call 16
       refine (HKY.out _ T4.out.low).mono ?_; rintro e w5 ⟨rfl, hb⟩
       have T5 := Lib.hid (T4.out.mono hb)
       skip
       clear hb T4 c0 c1 c2 c3 c4 d0 d1 d2 d3 d4 d5
       obtain ⟨c0, c1, c2, c3, c4⟩ := T5.out.c
       obtain ⟨d0, d1, d2, d3, d4, d5⟩ := T5.out.d
       rw [HP.out] at d0)
    | (with_reducible show wpList _ _ _ (⟨_, Op.store 3 (.tmp 150) _, _, _, _, none⟩ :: _) _ _
       refine wpList_boxA_int rfl _ _ rfl rfl w.heap.size 1 o.who rfl rfl T5.out.s (by simp [resvA]) ?_
       intro w6 x k s
       rw [set1] at x
       have T6 := Lib.hid (T5.out.setS x k)
       clear x k s T5 c0 c1 c2 c3 c4 d0 d1 d2 d3 d4 d5
       obtain ⟨c0, c1, c2, c3, c4⟩ := T6.out.c
       obtain ⟨d0, d1, d2, d3, d4, d5⟩ := T6.out.d
       rw [HP.out] at d0)
    | (with_reducible show wpList _ _ _ (⟨_, Op.store 3 (.tmp 153) _, _, _, _, none⟩ :: _) _ _
       refine wpList_boxA_int rfl _ _ rfl rfl w.heap.size 2 o.ty rfl rfl T6.out.s (by simp [resvA]) ?_
       intro w7 x k s
       rw [set2] at x
       have T7 := Lib.hid (T6.out.setS x k)
       clear x k s T6 c0 c1 c2 c3 c4 d0 d1 d2 d3 d4 d5
       obtain ⟨c0, c1, c2, c3, c4⟩ := T7.out.c
       obtain ⟨d0, d1, d2, d3, d4, d5⟩ := T7.out.d
       rw [HP.out] at d0)
    | (with_reducible show wpList _ _ _ (⟨_, Op.load rvT (.tmp 2), _, _, _, none⟩ :: _) _ _
       refine wpList_boxA_load rowRv rfl _ rfl w.heap.size (resvA q n c { r with h := o.who, t := o.ty }) rfl rfl T7.out.s ?_)
    | (with_reducible show wpList _ _ _ (⟨_, Op.store rvT (.tmp 4) _, _, _, _, none⟩ :: _) _ _
       refine wpList_boxA_put rowRv rfl _ _ rfl rfl (w.heap.size + 1 + 1) (resvA q n c { r with h := o.who, t := o.ty }) _ rfl (rvA_one _ _ _ _) rfl rfl rfl T7.out.r ?_
       intro w9 x9 k9 s9
       have T9 := Lib.hid (T7.out.setR x9 k9)
       clear x9 k9 s9))
  exact bodyPost_ret (results_cell_row_tmp rfl _ _ (w.heap.size + 1 + 1) rvT (resvA q n c { r with h := o.who, t := o.ty }) (0, 0) _ rfl T9.out.r Try.underlying24 rfl (rvA_size _ _ _ _)) rfl ⟨q, n, c, rfl, RowsAt.below HQ.out T9.out.low, HN.out, T9.out.low⟩
set_option maxRecDepth 100000 in
set_option maxHeartbeats 16000000 in
theorem rd_held2 {w : World} {q : Option Addr} {n c : Nat} {r : ResvOf} (hq : RvAt w q n c r) {o : ROp} (hop : o.op = 2) (hg : goodR r = true) (hb1 : ¬ o.who < 0) (hb2 : ¬ o.key < 0) (hb3 : ¬ o.new < 0) (hb4 : ¬ o.ty < 1) (hb5 : ¬ 6 < o.ty) (hk0 : keyR r.regs o.who ≠ 0) (hk : keyR r.regs o.who = o.key) (hh : r.h ≠ -1) (hho : holdsR r o.who = true) (ht : r.t = o.ty) :
    Calls Try.prog 11 #[.agg (resvA q n c r), .agg (ropA o)] w (RefPost w r 0) := by
  have HGD := Lib.hid (fun (W : World) (hb : Below w.heap.size w W) => (by have h := refGood_any (c := c) (RowsAt.below hq.at_ hb) hq.len hq.few; rw [hg] at h; exact h : Calls Try.prog 15 #[.agg (resvA q n c r)] W fun e w' => e = .returned (.bool true) ∧ Below W.heap.size W w'))
  have HKY := Lib.hid (fun (W : World) (hb : Below w.heap.size w W) => refKey_any (c := c) (RowsAt.below hq.at_ hb) hq.len hq.few o.who)
  have HP := Lib.hid hop
  have HQ := Lib.hid hq.at_
  have HN := Lib.hid hq.len
  have HHO := Lib.hid (fun (W : World) (hb : Below w.heap.size w W) => refHolds_any (c := c) (RowsAt.below hq.at_ hb) hq.len hq.few o.who)
  rw [hk] at HKY
  have k0 : (o.key == 0) = false := beq_eq_false_iff_ne.2 (by rw [← hk]; exact hk0)
  have k1 : (o.key == o.key) = true := by simp
  have k2 : (o.key != o.key) = false := by simp
  have k3 : o.key ≠ 0 := by rw [← hk]; exact hk0
  clear hk hk0
  have h1 : (r.h == -1) = false := beq_eq_false_iff_ne.2 hh
  have h1n : (r.h != -1) = true := bne_iff_ne.2 hh
  clear hh
  rw [hho] at HHO
  have t1 : (r.t == o.ty) = true := by simpa using ht
  clear hho ht
  clear hop hq
  go_enter Try.func11, Try.ntmps11
  go_wp2_with (first
    | (with_reducible show wpList _ _ _ (⟨_, Op.box rvT _, _, _, _, none⟩ :: _) _ _
       refine wpList_boxA_of rfl _ rfl (resvA q n c r) rfl ?_
       intro w1 x1 l1 s1
       have X1 := Lib.hid x1
       have L1 := Lib.hid l1
       have S1 := Lib.hid s1
       clear x1 l1 s1)
    | (with_reducible show wpList _ _ _ (⟨_, Op.box roT _, _, _, _, none⟩ :: _) _ _
       refine wpList_boxA_of rfl _ rfl (ropA o) rfl ?_
       intro w2 x2 l2 s2
       rw [S1.out] at x2 s2
       rw [S1.out]
       have X2 := Lib.hid x2
       have L2 := Lib.hid l2
       have S2 := Lib.hid s2
       clear x2 l2 s2)
    | (with_reducible show wpList _ _ _ (⟨_, Op.alloc rvT, _, _, _, _⟩ :: _) _ _
       refine wpList_boxA_new rowRv rfl rfl (w.heap.size + 1 + 1) S2.out ?_
       intro w3 x3 l3 s3
       have T3 := Lib.hid (new3 X1.out L1.out S1.out X2.out L2.out S2.out x3 l3)
       obtain ⟨c0, c1, c2, c3, c4⟩ := T3.out.c
       obtain ⟨d0, d1, d2, d3, d4, d5⟩ := T3.out.d
       rw [HP.out] at d0
       clear x3 l3 s3 X1 L1 S1 X2 L2 S2)
    | (with_reducible show wpList _ _ _ (⟨_, Op.load rvT (.tmp 2), _, _, _, none⟩ :: _) _ _
       refine wpList_boxA_load rowRv rfl _ rfl w.heap.size (resvA q n c r) rfl rfl T3.out.s ?_)
    | (go_at_call 15
       refine (HGD.out _ T3.out.low).mono ?_; rintro e w4 ⟨rfl, hb⟩
       have T4 := Lib.hid (T3.out.mono hb)
       skip
       clear hb T3 c0 c1 c2 c3 c4 d0 d1 d2 d3 d4 d5
       obtain ⟨c0, c1, c2, c3, c4⟩ := T4.out.c
       obtain ⟨d0, d1, d2, d3, d4, d5⟩ := T4.out.d
       rw [HP.out] at d0)
    | (with_reducible show wpList _ _ _ (⟨_, Op.load rvT (.tmp 2), _, _, _, none⟩ :: _) _ _
       refine wpList_boxA_load rowRv rfl _ rfl w.heap.size (resvA q n c r) rfl rfl T4.out.s ?_)
    | (go_at_call 16
       refine (HKY.out _ T4.out.low).mono ?_; rintro e w5 ⟨rfl, hb⟩
       have T5 := Lib.hid (T4.out.mono hb)
       skip
       clear hb T4 c0 c1 c2 c3 c4 d0 d1 d2 d3 d4 d5
       obtain ⟨c0, c1, c2, c3, c4⟩ := T5.out.c
       obtain ⟨d0, d1, d2, d3, d4, d5⟩ := T5.out.d
       rw [HP.out] at d0)
    | (with_reducible show wpList _ _ _ (⟨_, Op.load rvT (.tmp 2), _, _, _, none⟩ :: _) _ _
       refine wpList_boxA_load rowRv rfl _ rfl w.heap.size (resvA q n c r) rfl rfl T5.out.s ?_)
    | (go_at_call 19
       refine (HHO.out _ T5.out.low).mono ?_; rintro e w6 ⟨rfl, hb⟩
       have T6 := Lib.hid (T5.out.mono hb)
       skip
       clear hb T5 c0 c1 c2 c3 c4 d0 d1 d2 d3 d4 d5
       obtain ⟨c0, c1, c2, c3, c4⟩ := T6.out.c
       obtain ⟨d0, d1, d2, d3, d4, d5⟩ := T6.out.d
       rw [HP.out] at d0)
    | (with_reducible show wpList _ _ _ (⟨_, Op.load rvT (.tmp 2), _, _, _, none⟩ :: _) _ _
       refine wpList_boxA_load rowRv rfl _ rfl w.heap.size (resvA q n c r) rfl rfl T6.out.s ?_)
    | (with_reducible show wpList _ _ _ (⟨_, Op.store rvT (.tmp 4) _, _, _, _, none⟩ :: _) _ _
       refine wpList_boxA_put rowRv rfl _ _ rfl rfl (w.heap.size + 1 + 1) (resvA q n c r) _ rfl (rvA_one _ _ _ _) rfl rfl rfl T6.out.r ?_
       intro w9 x9 k9 s9
       have T9 := Lib.hid (T6.out.setR x9 k9)
       clear x9 k9 s9))
  exact bodyPost_ret (results_cell_row_tmp rfl _ _ (w.heap.size + 1 + 1) rvT (resvA q n c r) (0, 0) _ rfl T9.out.r Try.underlying24 rfl (rvA_size _ _ _ _)) rfl ⟨q, n, c, rfl, RowsAt.below HQ.out T9.out.low, HN.out, T9.out.low⟩
set_option maxRecDepth 100000 in
set_option maxHeartbeats 16000000 in
theorem rd_not2 {w : World} {q : Option Addr} {n c : Nat} {r : ResvOf} (hq : RvAt w q n c r) {o : ROp} (hop : o.op = 2) (hg : goodR r = true) (hb1 : ¬ o.who < 0) (hb2 : ¬ o.key < 0) (hb3 : ¬ o.new < 0) (hb4 : ¬ o.ty < 1) (hb5 : ¬ 6 < o.ty) (hk0 : keyR r.regs o.who ≠ 0) (hk : keyR r.regs o.who = o.key) (hh : r.h ≠ -1) (hho : holdsR r o.who = false) :
    Calls Try.prog 11 #[.agg (resvA q n c r), .agg (ropA o)] w (RefPost w nobodyR 9) := by
  have HGD := Lib.hid (fun (W : World) (hb : Below w.heap.size w W) => (by have h := refGood_any (c := c) (RowsAt.below hq.at_ hb) hq.len hq.few; rw [hg] at h; exact h : Calls Try.prog 15 #[.agg (resvA q n c r)] W fun e w' => e = .returned (.bool true) ∧ Below W.heap.size W w'))
  have HKY := Lib.hid (fun (W : World) (hb : Below w.heap.size w W) => refKey_any (c := c) (RowsAt.below hq.at_ hb) hq.len hq.few o.who)
  have HP := Lib.hid hop
  have HQ := Lib.hid hq.at_
  have HN := Lib.hid hq.len
  have HHO := Lib.hid (fun (W : World) (hb : Below w.heap.size w W) => refHolds_any (c := c) (RowsAt.below hq.at_ hb) hq.len hq.few o.who)
  rw [hk] at HKY
  have k0 : (o.key == 0) = false := beq_eq_false_iff_ne.2 (by rw [← hk]; exact hk0)
  have k1 : (o.key == o.key) = true := by simp
  have k2 : (o.key != o.key) = false := by simp
  have k3 : o.key ≠ 0 := by rw [← hk]; exact hk0
  clear hk hk0
  have h1 : (r.h == -1) = false := beq_eq_false_iff_ne.2 hh
  have h1n : (r.h != -1) = true := bne_iff_ne.2 hh
  clear hh
  rw [hho] at HHO
  clear hho
  clear hop hq
  go_enter Try.func11, Try.ntmps11
  go_wp2_with (first
    | (with_reducible show wpList _ _ _ (⟨_, Op.box rvT _, _, _, _, none⟩ :: _) _ _
       refine wpList_boxA_of rfl _ rfl (resvA q n c r) rfl ?_
       intro w1 x1 l1 s1
       have X1 := Lib.hid x1
       have L1 := Lib.hid l1
       have S1 := Lib.hid s1
       clear x1 l1 s1)
    | (with_reducible show wpList _ _ _ (⟨_, Op.box roT _, _, _, _, none⟩ :: _) _ _
       refine wpList_boxA_of rfl _ rfl (ropA o) rfl ?_
       intro w2 x2 l2 s2
       rw [S1.out] at x2 s2
       rw [S1.out]
       have X2 := Lib.hid x2
       have L2 := Lib.hid l2
       have S2 := Lib.hid s2
       clear x2 l2 s2)
    | (with_reducible show wpList _ _ _ (⟨_, Op.alloc rvT, _, _, _, _⟩ :: _) _ _
       refine wpList_boxA_new rowRv rfl rfl (w.heap.size + 1 + 1) S2.out ?_
       intro w3 x3 l3 s3
       have T3 := Lib.hid (new3 X1.out L1.out S1.out X2.out L2.out S2.out x3 l3)
       obtain ⟨c0, c1, c2, c3, c4⟩ := T3.out.c
       obtain ⟨d0, d1, d2, d3, d4, d5⟩ := T3.out.d
       rw [HP.out] at d0
       clear x3 l3 s3 X1 L1 S1 X2 L2 S2)
    | (with_reducible show wpList _ _ _ (⟨_, Op.load rvT (.tmp 2), _, _, _, none⟩ :: _) _ _
       refine wpList_boxA_load rowRv rfl _ rfl w.heap.size (resvA q n c r) rfl rfl T3.out.s ?_)
    | (go_at_call 15
       refine (HGD.out _ T3.out.low).mono ?_; rintro e w4 ⟨rfl, hb⟩
       have T4 := Lib.hid (T3.out.mono hb)
       skip
       clear hb T3 c0 c1 c2 c3 c4 d0 d1 d2 d3 d4 d5
       obtain ⟨c0, c1, c2, c3, c4⟩ := T4.out.c
       obtain ⟨d0, d1, d2, d3, d4, d5⟩ := T4.out.d
       rw [HP.out] at d0)
    | (with_reducible show wpList _ _ _ (⟨_, Op.load rvT (.tmp 2), _, _, _, none⟩ :: _) _ _
       refine wpList_boxA_load rowRv rfl _ rfl w.heap.size (resvA q n c r) rfl rfl T4.out.s ?_)
    | (go_at_call 16
       refine (HKY.out _ T4.out.low).mono ?_; rintro e w5 ⟨rfl, hb⟩
       have T5 := Lib.hid (T4.out.mono hb)
       skip
       clear hb T4 c0 c1 c2 c3 c4 d0 d1 d2 d3 d4 d5
       obtain ⟨c0, c1, c2, c3, c4⟩ := T5.out.c
       obtain ⟨d0, d1, d2, d3, d4, d5⟩ := T5.out.d
       rw [HP.out] at d0)
    | (with_reducible show wpList _ _ _ (⟨_, Op.load rvT (.tmp 2), _, _, _, none⟩ :: _) _ _
       refine wpList_boxA_load rowRv rfl _ rfl w.heap.size (resvA q n c r) rfl rfl T5.out.s ?_)
    | (go_at_call 19
       refine (HHO.out _ T5.out.low).mono ?_; rintro e w6 ⟨rfl, hb⟩
       have T6 := Lib.hid (T5.out.mono hb)
       skip
       clear hb T5 c0 c1 c2 c3 c4 d0 d1 d2 d3 d4 d5
       obtain ⟨c0, c1, c2, c3, c4⟩ := T6.out.c
       obtain ⟨d0, d1, d2, d3, d4, d5⟩ := T6.out.d
       rw [HP.out] at d0)
    | (go_at_call 26
       refine (refNobody_any _).mono ?_; rintro e w7 ⟨rfl, hb7⟩
       have T7 := Lib.hid (T6.out.mono hb7)
       clear hb7 T6)
    | (with_reducible show wpList _ _ _ (⟨_, Op.store rvT (.tmp 4) _, _, _, _, none⟩ :: _) _ _
       refine wpList_boxA_put rowRv rfl _ _ rfl rfl (w.heap.size + 1 + 1) (resvA none 0 0 nobodyR) _ rfl (rvA_one _ _ _ _) rfl rfl rfl T7.out.r ?_
       intro w9 x9 k9 s9
       have T9 := Lib.hid (T7.out.setR x9 k9)
       clear x9 k9 s9))
  exact bodyPost_ret (results_cell_row_tmp rfl _ _ (w.heap.size + 1 + 1) rvT (resvA none 0 0 nobodyR) (0, 0) _ rfl T9.out.r Try.underlying24 rfl (rvA_size _ _ _ _)) rfl (refPost_nobody T9.out.low)
set_option maxRecDepth 100000 in
set_option maxHeartbeats 16000000 in
theorem rd_type2 {w : World} {q : Option Addr} {n c : Nat} {r : ResvOf} (hq : RvAt w q n c r) {o : ROp} (hop : o.op = 2) (hg : goodR r = true) (hb1 : ¬ o.who < 0) (hb2 : ¬ o.key < 0) (hb3 : ¬ o.new < 0) (hb4 : ¬ o.ty < 1) (hb5 : ¬ 6 < o.ty) (hk0 : keyR r.regs o.who ≠ 0) (hk : keyR r.regs o.who = o.key) (hh : r.h ≠ -1) (hho : holdsR r o.who = true) (ht : r.t ≠ o.ty) :
    Calls Try.prog 11 #[.agg (resvA q n c r), .agg (ropA o)] w (RefPost w nobodyR 9) := by
  have HGD := Lib.hid (fun (W : World) (hb : Below w.heap.size w W) => (by have h := refGood_any (c := c) (RowsAt.below hq.at_ hb) hq.len hq.few; rw [hg] at h; exact h : Calls Try.prog 15 #[.agg (resvA q n c r)] W fun e w' => e = .returned (.bool true) ∧ Below W.heap.size W w'))
  have HKY := Lib.hid (fun (W : World) (hb : Below w.heap.size w W) => refKey_any (c := c) (RowsAt.below hq.at_ hb) hq.len hq.few o.who)
  have HP := Lib.hid hop
  have HQ := Lib.hid hq.at_
  have HN := Lib.hid hq.len
  have HHO := Lib.hid (fun (W : World) (hb : Below w.heap.size w W) => refHolds_any (c := c) (RowsAt.below hq.at_ hb) hq.len hq.few o.who)
  rw [hk] at HKY
  have k0 : (o.key == 0) = false := beq_eq_false_iff_ne.2 (by rw [← hk]; exact hk0)
  have k1 : (o.key == o.key) = true := by simp
  have k2 : (o.key != o.key) = false := by simp
  have k3 : o.key ≠ 0 := by rw [← hk]; exact hk0
  clear hk hk0
  have h1 : (r.h == -1) = false := beq_eq_false_iff_ne.2 hh
  have h1n : (r.h != -1) = true := bne_iff_ne.2 hh
  clear hh
  rw [hho] at HHO
  have t1 : (r.t == o.ty) = false := beq_eq_false_iff_ne.2 ht
  clear hho
  clear hop hq
  go_enter Try.func11, Try.ntmps11
  go_wp2_with (first
    | (with_reducible show wpList _ _ _ (⟨_, Op.box rvT _, _, _, _, none⟩ :: _) _ _
       refine wpList_boxA_of rfl _ rfl (resvA q n c r) rfl ?_
       intro w1 x1 l1 s1
       have X1 := Lib.hid x1
       have L1 := Lib.hid l1
       have S1 := Lib.hid s1
       clear x1 l1 s1)
    | (with_reducible show wpList _ _ _ (⟨_, Op.box roT _, _, _, _, none⟩ :: _) _ _
       refine wpList_boxA_of rfl _ rfl (ropA o) rfl ?_
       intro w2 x2 l2 s2
       rw [S1.out] at x2 s2
       rw [S1.out]
       have X2 := Lib.hid x2
       have L2 := Lib.hid l2
       have S2 := Lib.hid s2
       clear x2 l2 s2)
    | (with_reducible show wpList _ _ _ (⟨_, Op.alloc rvT, _, _, _, _⟩ :: _) _ _
       refine wpList_boxA_new rowRv rfl rfl (w.heap.size + 1 + 1) S2.out ?_
       intro w3 x3 l3 s3
       have T3 := Lib.hid (new3 X1.out L1.out S1.out X2.out L2.out S2.out x3 l3)
       obtain ⟨c0, c1, c2, c3, c4⟩ := T3.out.c
       obtain ⟨d0, d1, d2, d3, d4, d5⟩ := T3.out.d
       rw [HP.out] at d0
       clear x3 l3 s3 X1 L1 S1 X2 L2 S2)
    | (with_reducible show wpList _ _ _ (⟨_, Op.load rvT (.tmp 2), _, _, _, none⟩ :: _) _ _
       refine wpList_boxA_load rowRv rfl _ rfl w.heap.size (resvA q n c r) rfl rfl T3.out.s ?_)
    | (go_at_call 15
       refine (HGD.out _ T3.out.low).mono ?_; rintro e w4 ⟨rfl, hb⟩
       have T4 := Lib.hid (T3.out.mono hb)
       skip
       clear hb T3 c0 c1 c2 c3 c4 d0 d1 d2 d3 d4 d5
       obtain ⟨c0, c1, c2, c3, c4⟩ := T4.out.c
       obtain ⟨d0, d1, d2, d3, d4, d5⟩ := T4.out.d
       rw [HP.out] at d0)
    | (with_reducible show wpList _ _ _ (⟨_, Op.load rvT (.tmp 2), _, _, _, none⟩ :: _) _ _
       refine wpList_boxA_load rowRv rfl _ rfl w.heap.size (resvA q n c r) rfl rfl T4.out.s ?_)
    | (go_at_call 16
       refine (HKY.out _ T4.out.low).mono ?_; rintro e w5 ⟨rfl, hb⟩
       have T5 := Lib.hid (T4.out.mono hb)
       skip
       clear hb T4 c0 c1 c2 c3 c4 d0 d1 d2 d3 d4 d5
       obtain ⟨c0, c1, c2, c3, c4⟩ := T5.out.c
       obtain ⟨d0, d1, d2, d3, d4, d5⟩ := T5.out.d
       rw [HP.out] at d0)
    | (with_reducible show wpList _ _ _ (⟨_, Op.load rvT (.tmp 2), _, _, _, none⟩ :: _) _ _
       refine wpList_boxA_load rowRv rfl _ rfl w.heap.size (resvA q n c r) rfl rfl T5.out.s ?_)
    | (go_at_call 19
       refine (HHO.out _ T5.out.low).mono ?_; rintro e w6 ⟨rfl, hb⟩
       have T6 := Lib.hid (T5.out.mono hb)
       skip
       clear hb T5 c0 c1 c2 c3 c4 d0 d1 d2 d3 d4 d5
       obtain ⟨c0, c1, c2, c3, c4⟩ := T6.out.c
       obtain ⟨d0, d1, d2, d3, d4, d5⟩ := T6.out.d
       rw [HP.out] at d0)
    | (go_at_call 26
       refine (refNobody_any _).mono ?_; rintro e w7 ⟨rfl, hb7⟩
       have T7 := Lib.hid (T6.out.mono hb7)
       clear hb7 T6)
    | (with_reducible show wpList _ _ _ (⟨_, Op.store rvT (.tmp 4) _, _, _, _, none⟩ :: _) _ _
       refine wpList_boxA_put rowRv rfl _ _ rfl rfl (w.heap.size + 1 + 1) (resvA none 0 0 nobodyR) _ rfl (rvA_one _ _ _ _) rfl rfl rfl T7.out.r ?_
       intro w9 x9 k9 s9
       have T9 := Lib.hid (T7.out.setR x9 k9)
       clear x9 k9 s9))
  exact bodyPost_ret (results_cell_row_tmp rfl _ _ (w.heap.size + 1 + 1) rvT (resvA none 0 0 nobodyR) (0, 0) _ rfl T9.out.r Try.underlying24 rfl (rvA_size _ _ _ _)) rfl (refPost_nobody T9.out.low)
set_option maxRecDepth 100000 in
set_option maxHeartbeats 16000000 in
theorem rd_not3 {w : World} {q : Option Addr} {n c : Nat} {r : ResvOf} (hq : RvAt w q n c r) {o : ROp} (hop : o.op = 3) (hg : goodR r = true) (hb1 : ¬ o.who < 0) (hb2 : ¬ o.key < 0) (hb3 : ¬ o.new < 0) (hb4 : ¬ o.ty < 1) (hb5 : ¬ 6 < o.ty) (hk0 : keyR r.regs o.who ≠ 0) (hk : keyR r.regs o.who = o.key) (hho : holdsR r o.who = false) :
    Calls Try.prog 11 #[.agg (resvA q n c r), .agg (ropA o)] w (RefPost w r 0) := by
  have HGD := Lib.hid (fun (W : World) (hb : Below w.heap.size w W) => (by have h := refGood_any (c := c) (RowsAt.below hq.at_ hb) hq.len hq.few; rw [hg] at h; exact h : Calls Try.prog 15 #[.agg (resvA q n c r)] W fun e w' => e = .returned (.bool true) ∧ Below W.heap.size W w'))
  have HKY := Lib.hid (fun (W : World) (hb : Below w.heap.size w W) => refKey_any (c := c) (RowsAt.below hq.at_ hb) hq.len hq.few o.who)
  have HP := Lib.hid hop
  have HQ := Lib.hid hq.at_
  have HN := Lib.hid hq.len
  have HHO := Lib.hid (fun (W : World) (hb : Below w.heap.size w W) => refHolds_any (c := c) (RowsAt.below hq.at_ hb) hq.len hq.few o.who)
  rw [hk] at HKY
  have k0 : (o.key == 0) = false := beq_eq_false_iff_ne.2 (by rw [← hk]; exact hk0)
  have k1 : (o.key == o.key) = true := by simp
  have k2 : (o.key != o.key) = false := by simp
  have k3 : o.key ≠ 0 := by rw [← hk]; exact hk0
  clear hk hk0
  rw [hho] at HHO
  clear hho
  clear hop hq
  go_enter Try.func11, Try.ntmps11
  go_wp2_with (first
    | (with_reducible show wpList _ _ _ (⟨_, Op.box rvT _, _, _, _, none⟩ :: _) _ _
       refine wpList_boxA_of rfl _ rfl (resvA q n c r) rfl ?_
       intro w1 x1 l1 s1
       have X1 := Lib.hid x1
       have L1 := Lib.hid l1
       have S1 := Lib.hid s1
       clear x1 l1 s1)
    | (with_reducible show wpList _ _ _ (⟨_, Op.box roT _, _, _, _, none⟩ :: _) _ _
       refine wpList_boxA_of rfl _ rfl (ropA o) rfl ?_
       intro w2 x2 l2 s2
       rw [S1.out] at x2 s2
       rw [S1.out]
       have X2 := Lib.hid x2
       have L2 := Lib.hid l2
       have S2 := Lib.hid s2
       clear x2 l2 s2)
    | (with_reducible show wpList _ _ _ (⟨_, Op.alloc rvT, _, _, _, _⟩ :: _) _ _
       refine wpList_boxA_new rowRv rfl rfl (w.heap.size + 1 + 1) S2.out ?_
       intro w3 x3 l3 s3
       have T3 := Lib.hid (new3 X1.out L1.out S1.out X2.out L2.out S2.out x3 l3)
       obtain ⟨c0, c1, c2, c3, c4⟩ := T3.out.c
       obtain ⟨d0, d1, d2, d3, d4, d5⟩ := T3.out.d
       rw [HP.out] at d0
       clear x3 l3 s3 X1 L1 S1 X2 L2 S2)
    | (with_reducible show wpList _ _ _ (⟨_, Op.load rvT (.tmp 2), _, _, _, none⟩ :: _) _ _
       refine wpList_boxA_load rowRv rfl _ rfl w.heap.size (resvA q n c r) rfl rfl T3.out.s ?_)
    | (go_at_call 15
       refine (HGD.out _ T3.out.low).mono ?_; rintro e w4 ⟨rfl, hb⟩
       have T4 := Lib.hid (T3.out.mono hb)
       skip
       clear hb T3 c0 c1 c2 c3 c4 d0 d1 d2 d3 d4 d5
       obtain ⟨c0, c1, c2, c3, c4⟩ := T4.out.c
       obtain ⟨d0, d1, d2, d3, d4, d5⟩ := T4.out.d
       rw [HP.out] at d0)
    | (with_reducible show wpList _ _ _ (⟨_, Op.load rvT (.tmp 2), _, _, _, none⟩ :: _) _ _
       refine wpList_boxA_load rowRv rfl _ rfl w.heap.size (resvA q n c r) rfl rfl T4.out.s ?_)
    | (go_at_call 16
       refine (HKY.out _ T4.out.low).mono ?_; rintro e w5 ⟨rfl, hb⟩
       have T5 := Lib.hid (T4.out.mono hb)
       skip
       clear hb T4 c0 c1 c2 c3 c4 d0 d1 d2 d3 d4 d5
       obtain ⟨c0, c1, c2, c3, c4⟩ := T5.out.c
       obtain ⟨d0, d1, d2, d3, d4, d5⟩ := T5.out.d
       rw [HP.out] at d0)
    | (with_reducible show wpList _ _ _ (⟨_, Op.load rvT (.tmp 2), _, _, _, none⟩ :: _) _ _
       refine wpList_boxA_load rowRv rfl _ rfl w.heap.size (resvA q n c r) rfl rfl T5.out.s ?_)
    | (go_at_call 19
       refine (HHO.out _ T5.out.low).mono ?_; rintro e w6 ⟨rfl, hb⟩
       have T6 := Lib.hid (T5.out.mono hb)
       skip
       clear hb T5 c0 c1 c2 c3 c4 d0 d1 d2 d3 d4 d5
       obtain ⟨c0, c1, c2, c3, c4⟩ := T6.out.c
       obtain ⟨d0, d1, d2, d3, d4, d5⟩ := T6.out.d
       rw [HP.out] at d0)
    | (with_reducible show wpList _ _ _ (⟨_, Op.load rvT (.tmp 2), _, _, _, none⟩ :: _) _ _
       refine wpList_boxA_load rowRv rfl _ rfl w.heap.size (resvA q n c r) rfl rfl T6.out.s ?_)
    | (with_reducible show wpList _ _ _ (⟨_, Op.store rvT (.tmp 4) _, _, _, _, none⟩ :: _) _ _
       refine wpList_boxA_put rowRv rfl _ _ rfl rfl (w.heap.size + 1 + 1) (resvA q n c r) _ rfl (rvA_one _ _ _ _) rfl rfl rfl T6.out.r ?_
       intro w9 x9 k9 s9
       have T9 := Lib.hid (T6.out.setR x9 k9)
       clear x9 k9 s9))
  exact bodyPost_ret (results_cell_row_tmp rfl _ _ (w.heap.size + 1 + 1) rvT (resvA q n c r) (0, 0) _ rfl T9.out.r Try.underlying24 rfl (rvA_size _ _ _ _)) rfl ⟨q, n, c, rfl, RowsAt.below HQ.out T9.out.low, HN.out, T9.out.low⟩
set_option maxRecDepth 100000 in
set_option maxHeartbeats 16000000 in
theorem rd_type3 {w : World} {q : Option Addr} {n c : Nat} {r : ResvOf} (hq : RvAt w q n c r) {o : ROp} (hop : o.op = 3) (hg : goodR r = true) (hb1 : ¬ o.who < 0) (hb2 : ¬ o.key < 0) (hb3 : ¬ o.new < 0) (hb4 : ¬ o.ty < 1) (hb5 : ¬ 6 < o.ty) (hk0 : keyR r.regs o.who ≠ 0) (hk : keyR r.regs o.who = o.key) (hho : holdsR r o.who = true) (ht : r.t ≠ o.ty) :
    Calls Try.prog 11 #[.agg (resvA q n c r), .agg (ropA o)] w (RefPost w nobodyR 2) := by
  have HGD := Lib.hid (fun (W : World) (hb : Below w.heap.size w W) => (by have h := refGood_any (c := c) (RowsAt.below hq.at_ hb) hq.len hq.few; rw [hg] at h; exact h : Calls Try.prog 15 #[.agg (resvA q n c r)] W fun e w' => e = .returned (.bool true) ∧ Below W.heap.size W w'))
  have HKY := Lib.hid (fun (W : World) (hb : Below w.heap.size w W) => refKey_any (c := c) (RowsAt.below hq.at_ hb) hq.len hq.few o.who)
  have HP := Lib.hid hop
  have HQ := Lib.hid hq.at_
  have HN := Lib.hid hq.len
  have HHO := Lib.hid (fun (W : World) (hb : Below w.heap.size w W) => refHolds_any (c := c) (RowsAt.below hq.at_ hb) hq.len hq.few o.who)
  rw [hk] at HKY
  have k0 : (o.key == 0) = false := beq_eq_false_iff_ne.2 (by rw [← hk]; exact hk0)
  have k1 : (o.key == o.key) = true := by simp
  have k2 : (o.key != o.key) = false := by simp
  have k3 : o.key ≠ 0 := by rw [← hk]; exact hk0
  clear hk hk0
  rw [hho] at HHO
  have t1 : (r.t == o.ty) = false := beq_eq_false_iff_ne.2 ht
  have t2 : (r.t != o.ty) = true := bne_iff_ne.2 ht
  clear hho
  clear hop hq
  go_enter Try.func11, Try.ntmps11
  go_wp2_with (first
    | (with_reducible show wpList _ _ _ (⟨_, Op.box rvT _, _, _, _, none⟩ :: _) _ _
       refine wpList_boxA_of rfl _ rfl (resvA q n c r) rfl ?_
       intro w1 x1 l1 s1
       have X1 := Lib.hid x1
       have L1 := Lib.hid l1
       have S1 := Lib.hid s1
       clear x1 l1 s1)
    | (with_reducible show wpList _ _ _ (⟨_, Op.box roT _, _, _, _, none⟩ :: _) _ _
       refine wpList_boxA_of rfl _ rfl (ropA o) rfl ?_
       intro w2 x2 l2 s2
       rw [S1.out] at x2 s2
       rw [S1.out]
       have X2 := Lib.hid x2
       have L2 := Lib.hid l2
       have S2 := Lib.hid s2
       clear x2 l2 s2)
    | (with_reducible show wpList _ _ _ (⟨_, Op.alloc rvT, _, _, _, _⟩ :: _) _ _
       refine wpList_boxA_new rowRv rfl rfl (w.heap.size + 1 + 1) S2.out ?_
       intro w3 x3 l3 s3
       have T3 := Lib.hid (new3 X1.out L1.out S1.out X2.out L2.out S2.out x3 l3)
       obtain ⟨c0, c1, c2, c3, c4⟩ := T3.out.c
       obtain ⟨d0, d1, d2, d3, d4, d5⟩ := T3.out.d
       rw [HP.out] at d0
       clear x3 l3 s3 X1 L1 S1 X2 L2 S2)
    | (with_reducible show wpList _ _ _ (⟨_, Op.load rvT (.tmp 2), _, _, _, none⟩ :: _) _ _
       refine wpList_boxA_load rowRv rfl _ rfl w.heap.size (resvA q n c r) rfl rfl T3.out.s ?_)
    | (go_at_call 15
       refine (HGD.out _ T3.out.low).mono ?_; rintro e w4 ⟨rfl, hb⟩
       have T4 := Lib.hid (T3.out.mono hb)
       skip
       clear hb T3 c0 c1 c2 c3 c4 d0 d1 d2 d3 d4 d5
       obtain ⟨c0, c1, c2, c3, c4⟩ := T4.out.c
       obtain ⟨d0, d1, d2, d3, d4, d5⟩ := T4.out.d
       rw [HP.out] at d0)
    | (with_reducible show wpList _ _ _ (⟨_, Op.load rvT (.tmp 2), _, _, _, none⟩ :: _) _ _
       refine wpList_boxA_load rowRv rfl _ rfl w.heap.size (resvA q n c r) rfl rfl T4.out.s ?_)
    | (go_at_call 16
       refine (HKY.out _ T4.out.low).mono ?_; rintro e w5 ⟨rfl, hb⟩
       have T5 := Lib.hid (T4.out.mono hb)
       skip
       clear hb T4 c0 c1 c2 c3 c4 d0 d1 d2 d3 d4 d5
       obtain ⟨c0, c1, c2, c3, c4⟩ := T5.out.c
       obtain ⟨d0, d1, d2, d3, d4, d5⟩ := T5.out.d
       rw [HP.out] at d0)
    | (with_reducible show wpList _ _ _ (⟨_, Op.load rvT (.tmp 2), _, _, _, none⟩ :: _) _ _
       refine wpList_boxA_load rowRv rfl _ rfl w.heap.size (resvA q n c r) rfl rfl T5.out.s ?_)
    | (go_at_call 19
       refine (HHO.out _ T5.out.low).mono ?_; rintro e w6 ⟨rfl, hb⟩
       have T6 := Lib.hid (T5.out.mono hb)
       skip
       clear hb T5 c0 c1 c2 c3 c4 d0 d1 d2 d3 d4 d5
       obtain ⟨c0, c1, c2, c3, c4⟩ := T6.out.c
       obtain ⟨d0, d1, d2, d3, d4, d5⟩ := T6.out.d
       rw [HP.out] at d0)
    | (go_at_call 26
       refine (refNobody_any _).mono ?_; rintro e w7 ⟨rfl, hb7⟩
       have T7 := Lib.hid (T6.out.mono hb7)
       clear hb7 T6)
    | (with_reducible show wpList _ _ _ (⟨_, Op.store rvT (.tmp 4) _, _, _, _, none⟩ :: _) _ _
       refine wpList_boxA_put rowRv rfl _ _ rfl rfl (w.heap.size + 1 + 1) (resvA none 0 0 nobodyR) _ rfl (rvA_one _ _ _ _) rfl rfl rfl T7.out.r ?_
       intro w9 x9 k9 s9
       have T9 := Lib.hid (T7.out.setR x9 k9)
       clear x9 k9 s9))
  exact bodyPost_ret (results_cell_row_tmp rfl _ _ (w.heap.size + 1 + 1) rvT (resvA none 0 0 nobodyR) (0, 0) _ rfl T9.out.r Try.underlying24 rfl (rvA_size _ _ _ _)) rfl (refPost_nobody T9.out.low)
set_option maxRecDepth 100000 in
set_option maxHeartbeats 16000000 in
theorem rd_free3 {w : World} {q : Option Addr} {n c : Nat} {r : ResvOf} (hq : RvAt w q n c r) {o : ROp} (hop : o.op = 3) (hg : goodR r = true) (hb1 : ¬ o.who < 0) (hb2 : ¬ o.key < 0) (hb3 : ¬ o.new < 0) (hb4 : ¬ o.ty < 1) (hb5 : ¬ 6 < o.ty) (hk0 : keyR r.regs o.who ≠ 0) (hk : keyR r.regs o.who = o.key) (hho : holdsR r o.who = true) (ht : r.t = o.ty) :
    Calls Try.prog 11 #[.agg (resvA q n c r), .agg (ropA o)] w (RefPost w { r with h := -1, t := 0 } 0) := by
  have HGD := Lib.hid (fun (W : World) (hb : Below w.heap.size w W) => (by have h := refGood_any (c := c) (RowsAt.below hq.at_ hb) hq.len hq.few; rw [hg] at h; exact h : Calls Try.prog 15 #[.agg (resvA q n c r)] W fun e w' => e = .returned (.bool true) ∧ Below W.heap.size W w'))
  have HKY := Lib.hid (fun (W : World) (hb : Below w.heap.size w W) => refKey_any (c := c) (RowsAt.below hq.at_ hb) hq.len hq.few o.who)
  have HP := Lib.hid hop
  have HQ := Lib.hid hq.at_
  have HN := Lib.hid hq.len
  have HHO := Lib.hid (fun (W : World) (hb : Below w.heap.size w W) => refHolds_any (c := c) (RowsAt.below hq.at_ hb) hq.len hq.few o.who)
  rw [hk] at HKY
  have k0 : (o.key == 0) = false := beq_eq_false_iff_ne.2 (by rw [← hk]; exact hk0)
  have k1 : (o.key == o.key) = true := by simp
  have k2 : (o.key != o.key) = false := by simp
  have k3 : o.key ≠ 0 := by rw [← hk]; exact hk0
  clear hk hk0
  rw [hho] at HHO
  have t1 : (r.t == o.ty) = true := by simpa using ht
  have t2 : (r.t != o.ty) = false := by simpa using ht
  clear hho ht
  clear hop hq
  go_enter Try.func11, Try.ntmps11
  go_wp2_with (first
    | (with_reducible show wpList _ _ _ (⟨_, Op.box rvT _, _, _, _, none⟩ :: _) _ _
       refine wpList_boxA_of rfl _ rfl (resvA q n c r) rfl ?_
       intro w1 x1 l1 s1
       have X1 := Lib.hid x1
       have L1 := Lib.hid l1
       have S1 := Lib.hid s1
       clear x1 l1 s1)
    | (with_reducible show wpList _ _ _ (⟨_, Op.box roT _, _, _, _, none⟩ :: _) _ _
       refine wpList_boxA_of rfl _ rfl (ropA o) rfl ?_
       intro w2 x2 l2 s2
       rw [S1.out] at x2 s2
       rw [S1.out]
       have X2 := Lib.hid x2
       have L2 := Lib.hid l2
       have S2 := Lib.hid s2
       clear x2 l2 s2)
    | (with_reducible show wpList _ _ _ (⟨_, Op.alloc rvT, _, _, _, _⟩ :: _) _ _
       refine wpList_boxA_new rowRv rfl rfl (w.heap.size + 1 + 1) S2.out ?_
       intro w3 x3 l3 s3
       have T3 := Lib.hid (new3 X1.out L1.out S1.out X2.out L2.out S2.out x3 l3)
       obtain ⟨c0, c1, c2, c3, c4⟩ := T3.out.c
       obtain ⟨d0, d1, d2, d3, d4, d5⟩ := T3.out.d
       rw [HP.out] at d0
       clear x3 l3 s3 X1 L1 S1 X2 L2 S2)
    | (with_reducible show wpList _ _ _ (⟨_, Op.load rvT (.tmp 2), _, _, _, none⟩ :: _) _ _
       refine wpList_boxA_load rowRv rfl _ rfl w.heap.size (resvA q n c r) rfl rfl T3.out.s ?_)
    | (go_at_call 15
       refine (HGD.out _ T3.out.low).mono ?_; rintro e w4 ⟨rfl, hb⟩
       have T4 := Lib.hid (T3.out.mono hb)
       skip
       clear hb T3 c0 c1 c2 c3 c4 d0 d1 d2 d3 d4 d5
       obtain ⟨c0, c1, c2, c3, c4⟩ := T4.out.c
       obtain ⟨d0, d1, d2, d3, d4, d5⟩ := T4.out.d
       rw [HP.out] at d0)
    | (with_reducible show wpList _ _ _ (⟨_, Op.load rvT (.tmp 2), _, _, _, none⟩ :: _) _ _
       refine wpList_boxA_load rowRv rfl _ rfl w.heap.size (resvA q n c r) rfl rfl T4.out.s ?_)
    | (go_at_call 16
       refine (HKY.out _ T4.out.low).mono ?_; rintro e w5 ⟨rfl, hb⟩
       have T5 := Lib.hid (T4.out.mono hb)
       skip
       clear hb T4 c0 c1 c2 c3 c4 d0 d1 d2 d3 d4 d5
       obtain ⟨c0, c1, c2, c3, c4⟩ := T5.out.c
       obtain ⟨d0, d1, d2, d3, d4, d5⟩ := T5.out.d
       rw [HP.out] at d0)
    | (with_reducible show wpList _ _ _ (⟨_, Op.load rvT (.tmp 2), _, _, _, none⟩ :: _) _ _
       refine wpList_boxA_load rowRv rfl _ rfl w.heap.size (resvA q n c r) rfl rfl T5.out.s ?_)
    | (go_at_call 19
       refine (HHO.out _ T5.out.low).mono ?_; rintro e w6 ⟨rfl, hb⟩
       have T6 := Lib.hid (T5.out.mono hb)
       skip
       clear hb T5 c0 c1 c2 c3 c4 d0 d1 d2 d3 d4 d5
       obtain ⟨c0, c1, c2, c3, c4⟩ := T6.out.c
       obtain ⟨d0, d1, d2, d3, d4, d5⟩ := T6.out.d
       rw [HP.out] at d0)
    | (with_reducible show wpList _ _ _ (⟨_, Op.store 3 (.tmp 185) _, _, _, _, none⟩ :: _) _ _
       refine wpList_boxA_int rfl _ _ rfl rfl w.heap.size 1 (-1) rfl rfl T6.out.s (by simp [resvA]) ?_
       intro w7 x k s
       rw [set1] at x
       have T7 := Lib.hid (T6.out.setS x k)
       clear x k s T6 c0 c1 c2 c3 c4 d0 d1 d2 d3 d4 d5
       obtain ⟨c0, c1, c2, c3, c4⟩ := T7.out.c
       obtain ⟨d0, d1, d2, d3, d4, d5⟩ := T7.out.d
       rw [HP.out] at d0)
    | (with_reducible show wpList _ _ _ (⟨_, Op.store 3 (.tmp 186) _, _, _, _, none⟩ :: _) _ _
       refine wpList_boxA_int rfl _ _ rfl rfl w.heap.size 2 0 rfl rfl T7.out.s (by simp [resvA]) ?_
       intro w8 x k s
       rw [set2] at x
       have T8 := Lib.hid (T7.out.setS x k)
       clear x k s T7 c0 c1 c2 c3 c4 d0 d1 d2 d3 d4 d5
       obtain ⟨c0, c1, c2, c3, c4⟩ := T8.out.c
       obtain ⟨d0, d1, d2, d3, d4, d5⟩ := T8.out.d
       rw [HP.out] at d0)
    | (with_reducible show wpList _ _ _ (⟨_, Op.load rvT (.tmp 2), _, _, _, none⟩ :: _) _ _
       refine wpList_boxA_load rowRv rfl _ rfl w.heap.size (resvA q n c { r with h := -1, t := 0 }) rfl rfl T8.out.s ?_)
    | (with_reducible show wpList _ _ _ (⟨_, Op.store rvT (.tmp 4) _, _, _, _, none⟩ :: _) _ _
       refine wpList_boxA_put rowRv rfl _ _ rfl rfl (w.heap.size + 1 + 1) (resvA q n c { r with h := -1, t := 0 }) _ rfl (rvA_one _ _ _ _) rfl rfl rfl T8.out.r ?_
       intro w9 x9 k9 s9
       have T9 := Lib.hid (T8.out.setR x9 k9)
       clear x9 k9 s9))
  exact bodyPost_ret (results_cell_row_tmp rfl _ _ (w.heap.size + 1 + 1) rvT (resvA q n c { r with h := -1, t := 0 }) (0, 0) _ rfl T9.out.r Try.underlying24 rfl (rvA_size _ _ _ _)) rfl ⟨q, n, c, rfl, RowsAt.below HQ.out T9.out.low, HN.out, T9.out.low⟩
set_option maxRecDepth 100000 in
set_option maxHeartbeats 16000000 in
theorem rd_clear4 {w : World} {q : Option Addr} {n c : Nat} {r : ResvOf} (hq : RvAt w q n c r) {o : ROp} (hop : o.op = 4) (hg : goodR r = true) (hb1 : ¬ o.who < 0) (hb2 : ¬ o.key < 0) (hb3 : ¬ o.new < 0) (hk0 : keyR r.regs o.who ≠ 0) (hk : keyR r.regs o.who = o.key) :
    Calls Try.prog 11 #[.agg (resvA q n c r), .agg (ropA o)] w (RefPost w { r with regs := [], h := -1, t := 0, g := incR r.g } 0) := by
  have HGD := Lib.hid (fun (W : World) (hb : Below w.heap.size w W) => (by have h := refGood_any (c := c) (RowsAt.below hq.at_ hb) hq.len hq.few; rw [hg] at h; exact h : Calls Try.prog 15 #[.agg (resvA q n c r)] W fun e w' => e = .returned (.bool true) ∧ Below W.heap.size W w'))
  have HKY := Lib.hid (fun (W : World) (hb : Below w.heap.size w W) => refKey_any (c := c) (RowsAt.below hq.at_ hb) hq.len hq.few o.who)
  have HP := Lib.hid hop
  have HQ := Lib.hid hq.at_
  have HN := Lib.hid hq.len
  rw [hk] at HKY
  have k0 : (o.key == 0) = false := beq_eq_false_iff_ne.2 (by rw [← hk]; exact hk0)
  have k1 : (o.key == o.key) = true := by simp
  have k2 : (o.key != o.key) = false := by simp
  have k3 : o.key ≠ 0 := by rw [← hk]; exact hk0
  clear hk hk0
  have HI := Lib.hid (inc64 r.g)
  clear hop hq
  go_enter Try.func11, Try.ntmps11
  go_wp2_with (first
    | (with_reducible show wpList _ _ _ (⟨_, Op.box rvT _, _, _, _, none⟩ :: _) _ _
       refine wpList_boxA_of rfl _ rfl (resvA q n c r) rfl ?_
       intro w1 x1 l1 s1
       have X1 := Lib.hid x1
       have L1 := Lib.hid l1
       have S1 := Lib.hid s1
       clear x1 l1 s1)
    | (with_reducible show wpList _ _ _ (⟨_, Op.box roT _, _, _, _, none⟩ :: _) _ _
       refine wpList_boxA_of rfl _ rfl (ropA o) rfl ?_
       intro w2 x2 l2 s2
       rw [S1.out] at x2 s2
       rw [S1.out]
       have X2 := Lib.hid x2
       have L2 := Lib.hid l2
       have S2 := Lib.hid s2
       clear x2 l2 s2)
    | (with_reducible show wpList _ _ _ (⟨_, Op.alloc rvT, _, _, _, _⟩ :: _) _ _
       refine wpList_boxA_new rowRv rfl rfl (w.heap.size + 1 + 1) S2.out ?_
       intro w3 x3 l3 s3
       have T3 := Lib.hid (new3 X1.out L1.out S1.out X2.out L2.out S2.out x3 l3)
       obtain ⟨c0, c1, c2, c3, c4⟩ := T3.out.c
       obtain ⟨d0, d1, d2, d3, d4, d5⟩ := T3.out.d
       rw [HP.out] at d0
       clear x3 l3 s3 X1 L1 S1 X2 L2 S2)
    | (with_reducible show wpList _ _ _ (⟨_, Op.load rvT (.tmp 2), _, _, _, none⟩ :: _) _ _
       refine wpList_boxA_load rowRv rfl _ rfl w.heap.size (resvA q n c r) rfl rfl T3.out.s ?_)
    | (go_at_call 15
       refine (HGD.out _ T3.out.low).mono ?_; rintro e w4 ⟨rfl, hb⟩
       have T4 := Lib.hid (T3.out.mono hb)
       skip
       clear hb T3 c0 c1 c2 c3 c4 d0 d1 d2 d3 d4 d5
       obtain ⟨c0, c1, c2, c3, c4⟩ := T4.out.c
       obtain ⟨d0, d1, d2, d3, d4, d5⟩ := T4.out.d
       rw [HP.out] at d0)
    | (with_reducible show wpList _ _ _ (⟨_, Op.load rvT (.tmp 2), _, _, _, none⟩ :: _) _ _
       refine wpList_boxA_load rowRv rfl _ rfl w.heap.size (resvA q n c r) rfl rfl T4.out.s ?_)
    | (go_at_call 16
       refine (HKY.out _ T4.out.low).mono ?_; rintro e w5 ⟨rfl, hb⟩
       have T5 := Lib.hid (T4.out.mono hb)
       skip
       clear hb T4 c0 c1 c2 c3 c4 d0 d1 d2 d3 d4 d5
       obtain ⟨c0, c1, c2, c3, c4⟩ := T5.out.c
       obtain ⟨d0, d1, d2, d3, d4, d5⟩ := T5.out.d
       rw [HP.out] at d0)
    | (with_reducible show wpList _ _ _ (⟨_, Op.store rgS _ _, _, _, _, none⟩ :: _) _ _
       refine wpList_boxA_slice rfl _ _ rfl rfl w.heap.size 0 none 0 0 rfl rfl T5.out.s (by simp [resvA]) ?_
       intro w6 x k s
       rw [set0] at x
       have T6 := Lib.hid (T5.out.setS x k)
       clear x k s T5 c0 c1 c2 c3 c4 d0 d1 d2 d3 d4 d5
       obtain ⟨c0, c1, c2, c3, c4⟩ := T6.out.c
       obtain ⟨d0, d1, d2, d3, d4, d5⟩ := T6.out.d
       rw [HP.out] at d0)
    | (with_reducible show wpList _ _ _ (⟨_, Op.store 3 (.tmp 192) _, _, _, _, none⟩ :: _) _ _
       refine wpList_boxA_int rfl _ _ rfl rfl w.heap.size 1 (-1) rfl rfl T6.out.s (by simp [resvA]) ?_
       intro w7 x k s
       rw [set1] at x
       have T7 := Lib.hid (T6.out.setS x k)
       clear x k s T6 c0 c1 c2 c3 c4 d0 d1 d2 d3 d4 d5
       obtain ⟨c0, c1, c2, c3, c4⟩ := T7.out.c
       obtain ⟨d0, d1, d2, d3, d4, d5⟩ := T7.out.d
       rw [HP.out] at d0)
    | (with_reducible show wpList _ _ _ (⟨_, Op.store 3 (.tmp 193) _, _, _, _, none⟩ :: _) _ _
       refine wpList_boxA_int rfl _ _ rfl rfl w.heap.size 2 0 rfl rfl T7.out.s (by simp [resvA]) ?_
       intro w8 x k s
       rw [set2] at x
       have T8 := Lib.hid (T7.out.setS x k)
       clear x k s T7 c0 c1 c2 c3 c4 d0 d1 d2 d3 d4 d5
       obtain ⟨c0, c1, c2, c3, c4⟩ := T8.out.c
       obtain ⟨d0, d1, d2, d3, d4, d5⟩ := T8.out.d
       rw [HP.out] at d0)
    | (with_reducible show wpList _ _ _ (⟨_, Op.store 3 (.tmp 197) _, _, _, _, none⟩ :: _) _ _
       refine wpList_boxA_int rfl _ _ rfl rfl w.heap.size 4 _ rfl rfl T8.out.s (by simp [resvA]) ?_
       intro wa x k s
       rw [set4, HI.out] at x
       have TA := Lib.hid (T8.out.setS x k)
       clear x k s T8 c0 c1 c2 c3 c4 d0 d1 d2 d3 d4 d5
       obtain ⟨c0, c1, c2, c3, c4⟩ := TA.out.c
       obtain ⟨d0, d1, d2, d3, d4, d5⟩ := TA.out.d
       rw [HP.out] at d0)
    | (with_reducible show wpList _ _ _ (⟨_, Op.load rvT (.tmp 2), _, _, _, none⟩ :: _) _ _
       refine wpList_boxA_load rowRv rfl _ rfl w.heap.size (resvA none 0 0 { r with h := -1, t := 0, g := incR r.g }) rfl rfl TA.out.s ?_)
    | (with_reducible show wpList _ _ _ (⟨_, Op.store rvT (.tmp 4) _, _, _, _, none⟩ :: _) _ _
       refine wpList_boxA_put rowRv rfl _ _ rfl rfl (w.heap.size + 1 + 1) (resvA none 0 0 { r with h := -1, t := 0, g := incR r.g }) _ rfl (rvA_one _ _ _ _) rfl rfl rfl TA.out.r ?_
       intro w9 x9 k9 s9
       have T9 := Lib.hid (TA.out.setR x9 k9)
       clear x9 k9 s9))
  exact bodyPost_ret (results_cell_row_tmp rfl _ _ (w.heap.size + 1 + 1) rvT (resvA none 0 0 { r with h := -1, t := 0, g := incR r.g }) (0, 0) _ rfl T9.out.r Try.underlying24 rfl (rvA_size _ _ _ _)) rfl ⟨none, 0, 0, rfl, .inl rfl, rfl, T9.out.low⟩
end Go.Proofs.Ytfnkdmdcjliebaa
