/- The contract of the document's Do. Conditions: the registrations lie in memory, at most 1000. -/
import Derived.Test.YtfnkdmdcjliebaaRvDo
namespace Go.Proofs.Ytfnkdmdcjliebaa
open Go.ChangeShapes Go.WideShapes Go.ChangeAt Go.RowKit
set_option linter.unusedVariables false
set_option linter.unusedSimpArgs false
/-! ### What each operation does, by its number -/
theorem dr_pre {r : ResvOf} {o : ROp} (g : goodR r = true) (hw : wellR o = true) : (!(goodR r) || !(wellR o)) = false := by rw [g, hw]; rfl
theorem dr_1c {r : ResvOf} {o : ROp} (g : goodR r = true) (hw : wellR o = true) (h : o.op = 1) (hk : keyR r.regs o.who ≠ o.key) : doR r o = (nobodyR, 9) := by
  unfold doR
  rw [dr_pre g hw, if_neg (by decide), if_pos]
  unfold refusedR
  rw [h]; simp [hk]
theorem dr_reg {r : ResvOf} {o : ROp} (g : goodR r = true) (hw : wellR o = true) (h : (o.op = 1 ∧ keyR r.regs o.who = o.key) ∨ o.op = 6) : doR r o = (if 0 < o.new then (if (withL r.regs o.who o.new false).length ≤ 4 then ({ r with regs := withL r.regs o.who o.new false, s := o.s, g := incR r.g }, 0) else (nobodyR, 7)) else ({ withoutR r [o.who] with s := o.s, g := incR r.g }, 0)) := by
  have e1 : refusedR r o = false := by
    unfold refusedR
    rcases h with ⟨h, hk⟩ | h
    · rw [h]; simp [hk]
    · rw [h]; simp
  have e2 : (o.op == 1 || o.op == 6) = true := by rcases h with ⟨h, hk⟩ | h <;> rw [h] <;> rfl
  unfold doR
  rw [dr_pre g hw, if_neg (by decide), e1, if_neg (by decide), e2, if_pos rfl]
theorem dr_own {r : ResvOf} {o : ROp} (g : goodR r = true) (hw : wellR o = true) (h2 : 2 ≤ o.op) (h5 : o.op ≤ 5) (hk : keyR r.regs o.who = 0 ∨ keyR r.regs o.who ≠ o.key) : doR r o = (nobodyR, 9) := by
  have e1 : refusedR r o = true := by
    unfold refusedR
    rw [decide_eq_true h2, decide_eq_true h5]
    rcases hk with hk | hk <;> simp [hk]
  unfold doR
  rw [dr_pre g hw, if_neg (by decide), e1, if_pos rfl]
theorem dr_go {r : ResvOf} {o : ROp} (g : goodR r = true) (hw : wellR o = true) (h2 : 2 ≤ o.op) (h5 : o.op ≤ 5) (hk0 : keyR r.regs o.who ≠ 0) (hk : keyR r.regs o.who = o.key) : doR r o = if o.op == 2 then (if r.h == -1 then ({ r with h := o.who, t := o.ty }, 0) else if holdsR r o.who && r.t == o.ty then (r, 0) else (nobodyR, 9))
  else if o.op == 3 then (if !(holdsR r o.who) then (r, 0) else if !(r.t == o.ty) then (nobodyR, 2) else ({ r with h := -1, t := 0 }, 0))
  else if o.op == 4 then ({ r with regs := [], h := -1, t := 0, g := incR r.g }, 0)
  else if (goneR r o).length == 0 && !(overR r o) then (nobodyR, 9)
  else ({ withoutR (if overR r o then { r with h := o.who, t := o.ty } else r) (goneR r o) with g := incR r.g }, 0) := by
  have e1 : refusedR r o = false := by
    unfold refusedR
    have e3 : (o.op == 1) = false := beq_eq_false_iff_ne.2 (by omega)
    have e4 : (keyR r.regs o.who == 0) = false := beq_eq_false_iff_ne.2 hk0
    have e5 : (keyR r.regs o.who == o.key) = true := by simpa using hk
    rw [e3, e4, e5]; simp
  have e2 : (o.op == 1 || o.op == 6) = false := by
    rw [show (o.op == 1) = false from beq_eq_false_iff_ne.2 (by omega), show (o.op == 6) = false from beq_eq_false_iff_ne.2 (by omega)]; rfl
  unfold doR
  rw [dr_pre g hw, if_neg (by decide), e1, if_neg (by decide), e2, if_neg (by decide)]
theorem own_rows {w : World} {base top : Nat} {q : Option Addr} {m c : Nat} {ks : List (Int × Int)} (h : OwnL rgT 2 regC w base top (.slice q m c) ks) : RegsAt w q ks ∧ ks.length = m := by
  obtain ⟨p, c', hv, -, -, h3, -⟩ := h.rows elemReg.len
  cases hv; exact ⟨h3, rfl⟩
theorem own_len {base top : Nat} {w : World} {q : Option Addr} {m c : Nat} {ks : List (Int × Int)} (h : OwnL rgT 2 regC w base top (.slice q m c) ks) : m = ks.length := (own_rows h).2.symm
theorem without_regs (r : ResvOf) (gs : List Int) : (withoutR r gs).regs = r.regs.filter fun p => !(gs.any (· == p.1)) := by
  unfold withoutR settleR
  split
  · split <;> rfl
  · rfl
theorem without_g (r : ResvOf) (gs : List Int) : (withoutR r gs).g = r.g := by
  unfold withoutR settleR
  split
  · split <;> rfl
  · rfl
/-- What the document's Do answers. -/
def RefPost (w : World) (rr : ResvOf) (z : Int) (e : Ending) (w' : World) : Prop := ∃ q' n' c', e = .returned (.tuple #[.agg (resvA q' n' c' rr), .int .i64 z]) ∧ RegsAt w' q' rr.regs ∧ rr.regs.length = n' ∧ Below w.heap.size w w'
theorem refPost_nobody {w w' : World} {z : Int} (h : Below w.heap.size w w') : RefPost w nobodyR z (.returned (.tuple #[.agg (resvA none 0 0 nobodyR), .int .i64 z])) w' := ⟨none, 0, 0, rfl, .inl rfl, rfl, h⟩
attribute [local irreducible] regC atR keyR inR risesR formR goodR allR holdersR holdsR allowedR goneF hasR selfF withL PB endP errN runP regP releaseP reserveP preemptP wellR entR doR withoutR goneR overR refusedR
attribute [local go_sem] Oper.semAt_some
set_option maxRecDepth 100000 in
set_option maxHeartbeats 16000000 in
theorem refbad_good2 {w : World} {q : Option Addr} {n c : Nat} {r : ResvOf} (hq : RvAt w q n c r) {o : ROp} (hop : o.op = 2) (hg : goodR r = false) :
    Calls Try.prog 11 #[.agg (resvA q n c r), .agg (ropA o)] w (RefPost w nobodyR 2) := by
  have HGD := Lib.hid (fun (W : World) (hb : Below w.heap.size w W) => (by have h := refGood_any (c := c) (RowsAt.below hq.at_ hb) hq.len hq.few; rw [hg] at h; exact h : Calls Try.prog 15 #[.agg (resvA q n c r)] W fun e w' => e = .returned (.bool false) ∧ Below W.heap.size W w'))
  have HP := Lib.hid hop
  clear hop
  clear hq
  go_enter Try.func11, Try.ntmps11
  go_wp2_with (first
    | (with_reducible show wpList _ _ _ (⟨_, Op.box rvT _, _, _, _, none⟩ :: _) _ _
       refine wpList_boxA_of rfl _ rfl (resvA q n c r) rfl ?_
       intro w1 x1 l1 s1
       have X1 := Lib.hid x1
       have L1 := Lib.hid l1
       have S1 := Lib.hid s1
       clear x1 l1 s1)
    | (with_reducible show wpList _ _ _ (⟨_, Op.box roT _, _, _, _, none⟩ :: _) _ _
       refine wpList_boxA_of rfl _ rfl (ropA o) rfl ?_
       intro w2 x2 l2 s2
       rw [S1.out] at x2 s2
       rw [S1.out]
       have X2 := Lib.hid x2
       have L2 := Lib.hid l2
       have S2 := Lib.hid s2
       clear x2 l2 s2)
    | (with_reducible show wpList _ _ _ (⟨_, Op.alloc rvT, _, _, _, _⟩ :: _) _ _
       refine wpList_boxA_new rowRv rfl rfl (w.heap.size + 1 + 1) S2.out ?_
       intro w3 x3 l3 s3
       have T3 := Lib.hid (new3 X1.out L1.out S1.out X2.out L2.out S2.out x3 l3)
       obtain ⟨c0, c1, c2, c3, c4⟩ := T3.out.c
       obtain ⟨d0, d1, d2, d3, d4, d5⟩ := T3.out.d
       rw [HP.out] at d0
       clear x3 l3 s3 X1 L1 S1 X2 L2 S2)
    | (with_reducible show wpList _ _ _ (⟨_, Op.load rvT (.tmp 2), _, _, _, none⟩ :: _) _ _
       refine wpList_boxA_load rowRv rfl _ rfl w.heap.size (resvA q n c r) rfl rfl T3.out.s ?_)
    | (go_at_call 15
       refine (HGD.out _ T3.out.low).mono ?_; rintro e w4 ⟨rfl, hb⟩
       have T4 := Lib.hid (T3.out.mono hb)
       skip
       clear hb T3 c0 c1 c2 c3 c4 d0 d1 d2 d3 d4 d5
       obtain ⟨c0, c1, c2, c3, c4⟩ := T4.out.c
       obtain ⟨d0, d1, d2, d3, d4, d5⟩ := T4.out.d
       rw [HP.out] at d0)
    | (go_at_call 26
       refine (refNobody_any _).mono ?_; rintro e w7 ⟨rfl, hb7⟩
       have T7 := Lib.hid (T4.out.mono hb7)
       clear hb7 T4)
    | (with_reducible show wpList _ _ _ (⟨_, Op.store rvT (.tmp 4) _, _, _, _, none⟩ :: _) _ _
       refine wpList_boxA_put rowRv rfl _ _ rfl rfl (w.heap.size + 1 + 1) (resvA none 0 0 nobodyR) _ rfl (rvA_one _ _ _ _) rfl rfl rfl T7.out.r ?_
       intro w9 x9 k9 s9
       have T9 := Lib.hid (T7.out.setR x9 k9)
       clear x9 k9 s9))
  exact bodyPost_ret (results_cell_row_tmp rfl _ _ (w.heap.size + 1 + 1) rvT (resvA none 0 0 nobodyR) (0, 0) _ rfl T9.out.r Try.underlying24 rfl (rvA_size _ _ _ _)) rfl (refPost_nobody T9.out.low)
set_option maxRecDepth 100000 in
set_option maxHeartbeats 16000000 in
theorem refbad_who2 {w : World} {q : Option Addr} {n c : Nat} {r : ResvOf} (hq : RvAt w q n c r) {o : ROp} (hop : o.op = 2) (hg : goodR r = true) (hb1 : o.who < 0) :
    Calls Try.prog 11 #[.agg (resvA q n c r), .agg (ropA o)] w (RefPost w nobodyR 2) := by
  have HGD := Lib.hid (fun (W : World) (hb : Below w.heap.size w W) => (by have h := refGood_any (c := c) (RowsAt.below hq.at_ hb) hq.len hq.few; rw [hg] at h; exact h : Calls Try.prog 15 #[.agg (resvA q n c r)] W fun e w' => e = .returned (.bool true) ∧ Below W.heap.size W w'))
  have HP := Lib.hid hop
  clear hop
  clear hq
  go_enter Try.func11, Try.ntmps11
  go_wp2_with (first
    | (with_reducible show wpList _ _ _ (⟨_, Op.box rvT _, _, _, _, none⟩ :: _) _ _
       refine wpList_boxA_of rfl _ rfl (resvA q n c r) rfl ?_
       intro w1 x1 l1 s1
       have X1 := Lib.hid x1
       have L1 := Lib.hid l1
       have S1 := Lib.hid s1
       clear x1 l1 s1)
    | (with_reducible show wpList _ _ _ (⟨_, Op.box roT _, _, _, _, none⟩ :: _) _ _
       refine wpList_boxA_of rfl _ rfl (ropA o) rfl ?_
       intro w2 x2 l2 s2
       rw [S1.out] at x2 s2
       rw [S1.out]
       have X2 := Lib.hid x2
       have L2 := Lib.hid l2
       have S2 := Lib.hid s2
       clear x2 l2 s2)
    | (with_reducible show wpList _ _ _ (⟨_, Op.alloc rvT, _, _, _, _⟩ :: _) _ _
       refine wpList_boxA_new rowRv rfl rfl (w.heap.size + 1 + 1) S2.out ?_
       intro w3 x3 l3 s3
       have T3 := Lib.hid (new3 X1.out L1.out S1.out X2.out L2.out S2.out x3 l3)
       obtain ⟨c0, c1, c2, c3, c4⟩ := T3.out.c
       obtain ⟨d0, d1, d2, d3, d4, d5⟩ := T3.out.d
       rw [HP.out] at d0
       clear x3 l3 s3 X1 L1 S1 X2 L2 S2)
    | (with_reducible show wpList _ _ _ (⟨_, Op.load rvT (.tmp 2), _, _, _, none⟩ :: _) _ _
       refine wpList_boxA_load rowRv rfl _ rfl w.heap.size (resvA q n c r) rfl rfl T3.out.s ?_)
    | (go_at_call 15
       refine (HGD.out _ T3.out.low).mono ?_; rintro e w4 ⟨rfl, hb⟩
       have T4 := Lib.hid (T3.out.mono hb)
       skip
       clear hb T3 c0 c1 c2 c3 c4 d0 d1 d2 d3 d4 d5
       obtain ⟨c0, c1, c2, c3, c4⟩ := T4.out.c
       obtain ⟨d0, d1, d2, d3, d4, d5⟩ := T4.out.d
       rw [HP.out] at d0)
    | (go_at_call 26
       refine (refNobody_any _).mono ?_; rintro e w7 ⟨rfl, hb7⟩
       have T7 := Lib.hid (T4.out.mono hb7)
       clear hb7 T4)
    | (with_reducible show wpList _ _ _ (⟨_, Op.store rvT (.tmp 4) _, _, _, _, none⟩ :: _) _ _
       refine wpList_boxA_put rowRv rfl _ _ rfl rfl (w.heap.size + 1 + 1) (resvA none 0 0 nobodyR) _ rfl (rvA_one _ _ _ _) rfl rfl rfl T7.out.r ?_
       intro w9 x9 k9 s9
       have T9 := Lib.hid (T7.out.setR x9 k9)
       clear x9 k9 s9))
  exact bodyPost_ret (results_cell_row_tmp rfl _ _ (w.heap.size + 1 + 1) rvT (resvA none 0 0 nobodyR) (0, 0) _ rfl T9.out.r Try.underlying24 rfl (rvA_size _ _ _ _)) rfl (refPost_nobody T9.out.low)
set_option maxRecDepth 100000 in
set_option maxHeartbeats 16000000 in
theorem refbad_key2 {w : World} {q : Option Addr} {n c : Nat} {r : ResvOf} (hq : RvAt w q n c r) {o : ROp} (hop : o.op = 2) (hg : goodR r = true) (hb0 : ¬ o.who < 0) (hb1 : o.key < 0) :
    Calls Try.prog 11 #[.agg (resvA q n c r), .agg (ropA o)] w (RefPost w nobodyR 2) := by
  have HGD := Lib.hid (fun (W : World) (hb : Below w.heap.size w W) => (by have h := refGood_any (c := c) (RowsAt.below hq.at_ hb) hq.len hq.few; rw [hg] at h; exact h : Calls Try.prog 15 #[.agg (resvA q n c r)] W fun e w' => e = .returned (.bool true) ∧ Below W.heap.size W w'))
  have HP := Lib.hid hop
  clear hop
  clear hq
  go_enter Try.func11, Try.ntmps11
  go_wp2_with (first
    | (with_reducible show wpList _ _ _ (⟨_, Op.box rvT _, _, _, _, none⟩ :: _) _ _
       refine wpList_boxA_of rfl _ rfl (resvA q n c r) rfl ?_
       intro w1 x1 l1 s1
       have X1 := Lib.hid x1
       have L1 := Lib.hid l1
       have S1 := Lib.hid s1
       clear x1 l1 s1)
    | (with_reducible show wpList _ _ _ (⟨_, Op.box roT _, _, _, _, none⟩ :: _) _ _
       refine wpList_boxA_of rfl _ rfl (ropA o) rfl ?_
       intro w2 x2 l2 s2
       rw [S1.out] at x2 s2
       rw [S1.out]
       have X2 := Lib.hid x2
       have L2 := Lib.hid l2
       have S2 := Lib.hid s2
       clear x2 l2 s2)
    | (with_reducible show wpList _ _ _ (⟨_, Op.alloc rvT, _, _, _, _⟩ :: _) _ _
       refine wpList_boxA_new rowRv rfl rfl (w.heap.size + 1 + 1) S2.out ?_
       intro w3 x3 l3 s3
       have T3 := Lib.hid (new3 X1.out L1.out S1.out X2.out L2.out S2.out x3 l3)
       obtain ⟨c0, c1, c2, c3, c4⟩ := T3.out.c
       obtain ⟨d0, d1, d2, d3, d4, d5⟩ := T3.out.d
       rw [HP.out] at d0
       clear x3 l3 s3 X1 L1 S1 X2 L2 S2)
    | (with_reducible show wpList _ _ _ (⟨_, Op.load rvT (.tmp 2), _, _, _, none⟩ :: _) _ _
       refine wpList_boxA_load rowRv rfl _ rfl w.heap.size (resvA q n c r) rfl rfl T3.out.s ?_)
    | (go_at_call 15
       refine (HGD.out _ T3.out.low).mono ?_; rintro e w4 ⟨rfl, hb⟩
       have T4 := Lib.hid (T3.out.mono hb)
       skip
       clear hb T3 c0 c1 c2 c3 c4 d0 d1 d2 d3 d4 d5
       obtain ⟨c0, c1, c2, c3, c4⟩ := T4.out.c
       obtain ⟨d0, d1, d2, d3, d4, d5⟩ := T4.out.d
       rw [HP.out] at d0)
    | (go_at_call 26
       refine (refNobody_any _).mono ?_; rintro e w7 ⟨rfl, hb7⟩
       have T7 := Lib.hid (T4.out.mono hb7)
       clear hb7 T4)
    | (with_reducible show wpList _ _ _ (⟨_, Op.store rvT (.tmp 4) _, _, _, _, none⟩ :: _) _ _
       refine wpList_boxA_put rowRv rfl _ _ rfl rfl (w.heap.size + 1 + 1) (resvA none 0 0 nobodyR) _ rfl (rvA_one _ _ _ _) rfl rfl rfl T7.out.r ?_
       intro w9 x9 k9 s9
       have T9 := Lib.hid (T7.out.setR x9 k9)
       clear x9 k9 s9))
  exact bodyPost_ret (results_cell_row_tmp rfl _ _ (w.heap.size + 1 + 1) rvT (resvA none 0 0 nobodyR) (0, 0) _ rfl T9.out.r Try.underlying24 rfl (rvA_size _ _ _ _)) rfl (refPost_nobody T9.out.low)
set_option maxRecDepth 100000 in
set_option maxHeartbeats 16000000 in
theorem refbad_new2 {w : World} {q : Option Addr} {n c : Nat} {r : ResvOf} (hq : RvAt w q n c r) {o : ROp} (hop : o.op = 2) (hg : goodR r = true) (hb0 : ¬ o.who < 0) (hb2 : ¬ o.key < 0) (hb1 : o.new < 0) :
    Calls Try.prog 11 #[.agg (resvA q n c r), .agg (ropA o)] w (RefPost w nobodyR 2) := by
  have HGD := Lib.hid (fun (W : World) (hb : Below w.heap.size w W) => (by have h := refGood_any (c := c) (RowsAt.below hq.at_ hb) hq.len hq.few; rw [hg] at h; exact h : Calls Try.prog 15 #[.agg (resvA q n c r)] W fun e w' => e = .returned (.bool true) ∧ Below W.heap.size W w'))
  have HP := Lib.hid hop
  clear hop
  clear hq
  go_enter Try.func11, Try.ntmps11
  go_wp2_with (first
    | (with_reducible show wpList _ _ _ (⟨_, Op.box rvT _, _, _, _, none⟩ :: _) _ _
       refine wpList_boxA_of rfl _ rfl (resvA q n c r) rfl ?_
       intro w1 x1 l1 s1
       have X1 := Lib.hid x1
       have L1 := Lib.hid l1
       have S1 := Lib.hid s1
       clear x1 l1 s1)
    | (with_reducible show wpList _ _ _ (⟨_, Op.box roT _, _, _, _, none⟩ :: _) _ _
       refine wpList_boxA_of rfl _ rfl (ropA o) rfl ?_
       intro w2 x2 l2 s2
       rw [S1.out] at x2 s2
       rw [S1.out]
       have X2 := Lib.hid x2
       have L2 := Lib.hid l2
       have S2 := Lib.hid s2
       clear x2 l2 s2)
    | (with_reducible show wpList _ _ _ (⟨_, Op.alloc rvT, _, _, _, _⟩ :: _) _ _
       refine wpList_boxA_new rowRv rfl rfl (w.heap.size + 1 + 1) S2.out ?_
       intro w3 x3 l3 s3
       have T3 := Lib.hid (new3 X1.out L1.out S1.out X2.out L2.out S2.out x3 l3)
       obtain ⟨c0, c1, c2, c3, c4⟩ := T3.out.c
       obtain ⟨d0, d1, d2, d3, d4, d5⟩ := T3.out.d
       rw [HP.out] at d0
       clear x3 l3 s3 X1 L1 S1 X2 L2 S2)
    | (with_reducible show wpList _ _ _ (⟨_, Op.load rvT (.tmp 2), _, _, _, none⟩ :: _) _ _
       refine wpList_boxA_load rowRv rfl _ rfl w.heap.size (resvA q n c r) rfl rfl T3.out.s ?_)
    | (go_at_call 15
       refine (HGD.out _ T3.out.low).mono ?_; rintro e w4 ⟨rfl, hb⟩
       have T4 := Lib.hid (T3.out.mono hb)
       skip
       clear hb T3 c0 c1 c2 c3 c4 d0 d1 d2 d3 d4 d5
       obtain ⟨c0, c1, c2, c3, c4⟩ := T4.out.c
       obtain ⟨d0, d1, d2, d3, d4, d5⟩ := T4.out.d
       rw [HP.out] at d0)
    | (go_at_call 26
       refine (refNobody_any _).mono ?_; rintro e w7 ⟨rfl, hb7⟩
       have T7 := Lib.hid (T4.out.mono hb7)
       clear hb7 T4)
    | (with_reducible show wpList _ _ _ (⟨_, Op.store rvT (.tmp 4) _, _, _, _, none⟩ :: _) _ _
       refine wpList_boxA_put rowRv rfl _ _ rfl rfl (w.heap.size + 1 + 1) (resvA none 0 0 nobodyR) _ rfl (rvA_one _ _ _ _) rfl rfl rfl T7.out.r ?_
       intro w9 x9 k9 s9
       have T9 := Lib.hid (T7.out.setR x9 k9)
       clear x9 k9 s9))
  exact bodyPost_ret (results_cell_row_tmp rfl _ _ (w.heap.size + 1 + 1) rvT (resvA none 0 0 nobodyR) (0, 0) _ rfl T9.out.r Try.underlying24 rfl (rvA_size _ _ _ _)) rfl (refPost_nobody T9.out.low)
set_option maxRecDepth 100000 in
set_option maxHeartbeats 16000000 in
theorem refbad_good3 {w : World} {q : Option Addr} {n c : Nat} {r : ResvOf} (hq : RvAt w q n c r) {o : ROp} (hop : o.op = 3) (hg : goodR r = false) :
    Calls Try.prog 11 #[.agg (resvA q n c r), .agg (ropA o)] w (RefPost w nobodyR 2) := by
  have HGD := Lib.hid (fun (W : World) (hb : Below w.heap.size w W) => (by have h := refGood_any (c := c) (RowsAt.below hq.at_ hb) hq.len hq.few; rw [hg] at h; exact h : Calls Try.prog 15 #[.agg (resvA q n c r)] W fun e w' => e = .returned (.bool false) ∧ Below W.heap.size W w'))
  have HP := Lib.hid hop
  clear hop
  clear hq
  go_enter Try.func11, Try.ntmps11
  go_wp2_with (first
    | (with_reducible show wpList _ _ _ (⟨_, Op.box rvT _, _, _, _, none⟩ :: _) _ _
       refine wpList_boxA_of rfl _ rfl (resvA q n c r) rfl ?_
       intro w1 x1 l1 s1
       have X1 := Lib.hid x1
       have L1 := Lib.hid l1
       have S1 := Lib.hid s1
       clear x1 l1 s1)
    | (with_reducible show wpList _ _ _ (⟨_, Op.box roT _, _, _, _, none⟩ :: _) _ _
       refine wpList_boxA_of rfl _ rfl (ropA o) rfl ?_
       intro w2 x2 l2 s2
       rw [S1.out] at x2 s2
       rw [S1.out]
       have X2 := Lib.hid x2
       have L2 := Lib.hid l2
       have S2 := Lib.hid s2
       clear x2 l2 s2)
    | (with_reducible show wpList _ _ _ (⟨_, Op.alloc rvT, _, _, _, _⟩ :: _) _ _
       refine wpList_boxA_new rowRv rfl rfl (w.heap.size + 1 + 1) S2.out ?_
       intro w3 x3 l3 s3
       have T3 := Lib.hid (new3 X1.out L1.out S1.out X2.out L2.out S2.out x3 l3)
       obtain ⟨c0, c1, c2, c3, c4⟩ := T3.out.c
       obtain ⟨d0, d1, d2, d3, d4, d5⟩ := T3.out.d
       rw [HP.out] at d0
       clear x3 l3 s3 X1 L1 S1 X2 L2 S2)
    | (with_reducible show wpList _ _ _ (⟨_, Op.load rvT (.tmp 2), _, _, _, none⟩ :: _) _ _
       refine wpList_boxA_load rowRv rfl _ rfl w.heap.size (resvA q n c r) rfl rfl T3.out.s ?_)
    | (go_at_call 15
       refine (HGD.out _ T3.out.low).mono ?_; rintro e w4 ⟨rfl, hb⟩
       have T4 := Lib.hid (T3.out.mono hb)
       skip
       clear hb T3 c0 c1 c2 c3 c4 d0 d1 d2 d3 d4 d5
       obtain ⟨c0, c1, c2, c3, c4⟩ := T4.out.c
       obtain ⟨d0, d1, d2, d3, d4, d5⟩ := T4.out.d
       rw [HP.out] at d0)
    | (go_at_call 26
       refine (refNobody_any _).mono ?_; rintro e w7 ⟨rfl, hb7⟩
       have T7 := Lib.hid (T4.out.mono hb7)
       clear hb7 T4)
    | (with_reducible show wpList _ _ _ (⟨_, Op.store rvT (.tmp 4) _, _, _, _, none⟩ :: _) _ _
       refine wpList_boxA_put rowRv rfl _ _ rfl rfl (w.heap.size + 1 + 1) (resvA none 0 0 nobodyR) _ rfl (rvA_one _ _ _ _) rfl rfl rfl T7.out.r ?_
       intro w9 x9 k9 s9
       have T9 := Lib.hid (T7.out.setR x9 k9)
       clear x9 k9 s9))
  exact bodyPost_ret (results_cell_row_tmp rfl _ _ (w.heap.size + 1 + 1) rvT (resvA none 0 0 nobodyR) (0, 0) _ rfl T9.out.r Try.underlying24 rfl (rvA_size _ _ _ _)) rfl (refPost_nobody T9.out.low)
set_option maxRecDepth 100000 in
set_option maxHeartbeats 16000000 in
theorem refbad_who3 {w : World} {q : Option Addr} {n c : Nat} {r : ResvOf} (hq : RvAt w q n c r) {o : ROp} (hop : o.op = 3) (hg : goodR r = true) (hb1 : o.who < 0) :
    Calls Try.prog 11 #[.agg (resvA q n c r), .agg (ropA o)] w (RefPost w nobodyR 2) := by
  have HGD := Lib.hid (fun (W : World) (hb : Below w.heap.size w W) => (by have h := refGood_any (c := c) (RowsAt.below hq.at_ hb) hq.len hq.few; rw [hg] at h; exact h : Calls Try.prog 15 #[.agg (resvA q n c r)] W fun e w' => e = .returned (.bool true) ∧ Below W.heap.size W w'))
  have HP := Lib.hid hop
  clear hop
  clear hq
  go_enter Try.func11, Try.ntmps11
  go_wp2_with (first
    | (with_reducible show wpList _ _ _ (⟨_, Op.box rvT _, _, _, _, none⟩ :: _) _ _
       refine wpList_boxA_of rfl _ rfl (resvA q n c r) rfl ?_
       intro w1 x1 l1 s1
       have X1 := Lib.hid x1
       have L1 := Lib.hid l1
       have S1 := Lib.hid s1
       clear x1 l1 s1)
    | (with_reducible show wpList _ _ _ (⟨_, Op.box roT _, _, _, _, none⟩ :: _) _ _
       refine wpList_boxA_of rfl _ rfl (ropA o) rfl ?_
       intro w2 x2 l2 s2
       rw [S1.out] at x2 s2
       rw [S1.out]
       have X2 := Lib.hid x2
       have L2 := Lib.hid l2
       have S2 := Lib.hid s2
       clear x2 l2 s2)
    | (with_reducible show wpList _ _ _ (⟨_, Op.alloc rvT, _, _, _, _⟩ :: _) _ _
       refine wpList_boxA_new rowRv rfl rfl (w.heap.size + 1 + 1) S2.out ?_
       intro w3 x3 l3 s3
       have T3 := Lib.hid (new3 X1.out L1.out S1.out X2.out L2.out S2.out x3 l3)
       obtain ⟨c0, c1, c2, c3, c4⟩ := T3.out.c
       obtain ⟨d0, d1, d2, d3, d4, d5⟩ := T3.out.d
       rw [HP.out] at d0
       clear x3 l3 s3 X1 L1 S1 X2 L2 S2)
    | (with_reducible show wpList _ _ _ (⟨_, Op.load rvT (.tmp 2), _, _, _, none⟩ :: _) _ _
       refine wpList_boxA_load rowRv rfl _ rfl w.heap.size (resvA q n c r) rfl rfl T3.out.s ?_)
    | (go_at_call 15
       refine (HGD.out _ T3.out.low).mono ?_; rintro e w4 ⟨rfl, hb⟩
       have T4 := Lib.hid (T3.out.mono hb)
       skip
       clear hb T3 c0 c1 c2 c3 c4 d0 d1 d2 d3 d4 d5
       obtain ⟨c0, c1, c2, c3, c4⟩ := T4.out.c
       obtain ⟨d0, d1, d2, d3, d4, d5⟩ := T4.out.d
       rw [HP.out] at d0)
    | (go_at_call 26
       refine (refNobody_any _).mono ?_; rintro e w7 ⟨rfl, hb7⟩
       have T7 := Lib.hid (T4.out.mono hb7)
       clear hb7 T4)
    | (with_reducible show wpList _ _ _ (⟨_, Op.store rvT (.tmp 4) _, _, _, _, none⟩ :: _) _ _
       refine wpList_boxA_put rowRv rfl _ _ rfl rfl (w.heap.size + 1 + 1) (resvA none 0 0 nobodyR) _ rfl (rvA_one _ _ _ _) rfl rfl rfl T7.out.r ?_
       intro w9 x9 k9 s9
       have T9 := Lib.hid (T7.out.setR x9 k9)
       clear x9 k9 s9))
  exact bodyPost_ret (results_cell_row_tmp rfl _ _ (w.heap.size + 1 + 1) rvT (resvA none 0 0 nobodyR) (0, 0) _ rfl T9.out.r Try.underlying24 rfl (rvA_size _ _ _ _)) rfl (refPost_nobody T9.out.low)
set_option maxRecDepth 100000 in
set_option maxHeartbeats 16000000 in
theorem refbad_key3 {w : World} {q : Option Addr} {n c : Nat} {r : ResvOf} (hq : RvAt w q n c r) {o : ROp} (hop : o.op = 3) (hg : goodR r = true) (hb0 : ¬ o.who < 0) (hb1 : o.key < 0) :
    Calls Try.prog 11 #[.agg (resvA q n c r), .agg (ropA o)] w (RefPost w nobodyR 2) := by
  have HGD := Lib.hid (fun (W : World) (hb : Below w.heap.size w W) => (by have h := refGood_any (c := c) (RowsAt.below hq.at_ hb) hq.len hq.few; rw [hg] at h; exact h : Calls Try.prog 15 #[.agg (resvA q n c r)] W fun e w' => e = .returned (.bool true) ∧ Below W.heap.size W w'))
  have HP := Lib.hid hop
  clear hop
  clear hq
  go_enter Try.func11, Try.ntmps11
  go_wp2_with (first
    | (with_reducible show wpList _ _ _ (⟨_, Op.box rvT _, _, _, _, none⟩ :: _) _ _
       refine wpList_boxA_of rfl _ rfl (resvA q n c r) rfl ?_
       intro w1 x1 l1 s1
       have X1 := Lib.hid x1
       have L1 := Lib.hid l1
       have S1 := Lib.hid s1
       clear x1 l1 s1)
    | (with_reducible show wpList _ _ _ (⟨_, Op.box roT _, _, _, _, none⟩ :: _) _ _
       refine wpList_boxA_of rfl _ rfl (ropA o) rfl ?_
       intro w2 x2 l2 s2
       rw [S1.out] at x2 s2
       rw [S1.out]
       have X2 := Lib.hid x2
       have L2 := Lib.hid l2
       have S2 := Lib.hid s2
       clear x2 l2 s2)
    | (with_reducible show wpList _ _ _ (⟨_, Op.alloc rvT, _, _, _, _⟩ :: _) _ _
       refine wpList_boxA_new rowRv rfl rfl (w.heap.size + 1 + 1) S2.out ?_
       intro w3 x3 l3 s3
       have T3 := Lib.hid (new3 X1.out L1.out S1.out X2.out L2.out S2.out x3 l3)
       obtain ⟨c0, c1, c2, c3, c4⟩ := T3.out.c
       obtain ⟨d0, d1, d2, d3, d4, d5⟩ := T3.out.d
       rw [HP.out] at d0
       clear x3 l3 s3 X1 L1 S1 X2 L2 S2)
    | (with_reducible show wpList _ _ _ (⟨_, Op.load rvT (.tmp 2), _, _, _, none⟩ :: _) _ _
       refine wpList_boxA_load rowRv rfl _ rfl w.heap.size (resvA q n c r) rfl rfl T3.out.s ?_)
    | (go_at_call 15
       refine (HGD.out _ T3.out.low).mono ?_; rintro e w4 ⟨rfl, hb⟩
       have T4 := Lib.hid (T3.out.mono hb)
       skip
       clear hb T3 c0 c1 c2 c3 c4 d0 d1 d2 d3 d4 d5
       obtain ⟨c0, c1, c2, c3, c4⟩ := T4.out.c
       obtain ⟨d0, d1, d2, d3, d4, d5⟩ := T4.out.d
       rw [HP.out] at d0)
    | (go_at_call 26
       refine (refNobody_any _).mono ?_; rintro e w7 ⟨rfl, hb7⟩
       have T7 := Lib.hid (T4.out.mono hb7)
       clear hb7 T4)
    | (with_reducible show wpList _ _ _ (⟨_, Op.store rvT (.tmp 4) _, _, _, _, none⟩ :: _) _ _
       refine wpList_boxA_put rowRv rfl _ _ rfl rfl (w.heap.size + 1 + 1) (resvA none 0 0 nobodyR) _ rfl (rvA_one _ _ _ _) rfl rfl rfl T7.out.r ?_
       intro w9 x9 k9 s9
       have T9 := Lib.hid (T7.out.setR x9 k9)
       clear x9 k9 s9))
  exact bodyPost_ret (results_cell_row_tmp rfl _ _ (w.heap.size + 1 + 1) rvT (resvA none 0 0 nobodyR) (0, 0) _ rfl T9.out.r Try.underlying24 rfl (rvA_size _ _ _ _)) rfl (refPost_nobody T9.out.low)
set_option maxRecDepth 100000 in
set_option maxHeartbeats 16000000 in
theorem refbad_new3 {w : World} {q : Option Addr} {n c : Nat} {r : ResvOf} (hq : RvAt w q n c r) {o : ROp} (hop : o.op = 3) (hg : goodR r = true) (hb0 : ¬ o.who < 0) (hb2 : ¬ o.key < 0) (hb1 : o.new < 0) :
    Calls Try.prog 11 #[.agg (resvA q n c r), .agg (ropA o)] w (RefPost w nobodyR 2) := by
  have HGD := Lib.hid (fun (W : World) (hb : Below w.heap.size w W) => (by have h := refGood_any (c := c) (RowsAt.below hq.at_ hb) hq.len hq.few; rw [hg] at h; exact h : Calls Try.prog 15 #[.agg (resvA q n c r)] W fun e w' => e = .returned (.bool true) ∧ Below W.heap.size W w'))
  have HP := Lib.hid hop
  clear hop
  clear hq
  go_enter Try.func11, Try.ntmps11
  go_wp2_with (first
    | (with_reducible show wpList _ _ _ (⟨_, Op.box rvT _, _, _, _, none⟩ :: _) _ _
       refine wpList_boxA_of rfl _ rfl (resvA q n c r) rfl ?_
       intro w1 x1 l1 s1
       have X1 := Lib.hid x1
       have L1 := Lib.hid l1
       have S1 := Lib.hid s1
       clear x1 l1 s1)
    | (with_reducible show wpList _ _ _ (⟨_, Op.box roT _, _, _, _, none⟩ :: _) _ _
       refine wpList_boxA_of rfl _ rfl (ropA o) rfl ?_
       intro w2 x2 l2 s2
       rw [S1.out] at x2 s2
       rw [S1.out]
       have X2 := Lib.hid x2
       have L2 := Lib.hid l2
       have S2 := Lib.hid s2
       clear x2 l2 s2)
    | (with_reducible show wpList _ _ _ (⟨_, Op.alloc rvT, _, _, _, _⟩ :: _) _ _
       refine wpList_boxA_new rowRv rfl rfl (w.heap.size + 1 + 1) S2.out ?_
       intro w3 x3 l3 s3
       have T3 := Lib.hid (new3 X1.out L1.out S1.out X2.out L2.out S2.out x3 l3)
       obtain ⟨c0, c1, c2, c3, c4⟩ := T3.out.c
       obtain ⟨d0, d1, d2, d3, d4, d5⟩ := T3.out.d
       rw [HP.out] at d0
       clear x3 l3 s3 X1 L1 S1 X2 L2 S2)
    | (with_reducible show wpList _ _ _ (⟨_, Op.load rvT (.tmp 2), _, _, _, none⟩ :: _) _ _
       refine wpList_boxA_load rowRv rfl _ rfl w.heap.size (resvA q n c r) rfl rfl T3.out.s ?_)
    | (go_at_call 15
       refine (HGD.out _ T3.out.low).mono ?_; rintro e w4 ⟨rfl, hb⟩
       have T4 := Lib.hid (T3.out.mono hb)
       skip
       clear hb T3 c0 c1 c2 c3 c4 d0 d1 d2 d3 d4 d5
       obtain ⟨c0, c1, c2, c3, c4⟩ := T4.out.c
       obtain ⟨d0, d1, d2, d3, d4, d5⟩ := T4.out.d
       rw [HP.out] at d0)
    | (go_at_call 26
       refine (refNobody_any _).mono ?_; rintro e w7 ⟨rfl, hb7⟩
       have T7 := Lib.hid (T4.out.mono hb7)
       clear hb7 T4)
    | (with_reducible show wpList _ _ _ (⟨_, Op.store rvT (.tmp 4) _, _, _, _, none⟩ :: _) _ _
       refine wpList_boxA_put rowRv rfl _ _ rfl rfl (w.heap.size + 1 + 1) (resvA none 0 0 nobodyR) _ rfl (rvA_one _ _ _ _) rfl rfl rfl T7.out.r ?_
       intro w9 x9 k9 s9
       have T9 := Lib.hid (T7.out.setR x9 k9)
       clear x9 k9 s9))
  exact bodyPost_ret (results_cell_row_tmp rfl _ _ (w.heap.size + 1 + 1) rvT (resvA none 0 0 nobodyR) (0, 0) _ rfl T9.out.r Try.underlying24 rfl (rvA_size _ _ _ _)) rfl (refPost_nobody T9.out.low)
set_option maxRecDepth 100000 in
set_option maxHeartbeats 16000000 in
theorem refbad_good5 {w : World} {q : Option Addr} {n c : Nat} {r : ResvOf} (hq : RvAt w q n c r) {o : ROp} (hop : o.op = 5) (hg : goodR r = false) :
    Calls Try.prog 11 #[.agg (resvA q n c r), .agg (ropA o)] w (RefPost w nobodyR 2) := by
  have HGD := Lib.hid (fun (W : World) (hb : Below w.heap.size w W) => (by have h := refGood_any (c := c) (RowsAt.below hq.at_ hb) hq.len hq.few; rw [hg] at h; exact h : Calls Try.prog 15 #[.agg (resvA q n c r)] W fun e w' => e = .returned (.bool false) ∧ Below W.heap.size W w'))
  have HP := Lib.hid hop
  clear hop
  clear hq
  go_enter Try.func11, Try.ntmps11
  go_wp2_with (first
    | (with_reducible show wpList _ _ _ (⟨_, Op.box rvT _, _, _, _, none⟩ :: _) _ _
       refine wpList_boxA_of rfl _ rfl (resvA q n c r) rfl ?_
       intro w1 x1 l1 s1
       have X1 := Lib.hid x1
       have L1 := Lib.hid l1
       have S1 := Lib.hid s1
       clear x1 l1 s1)
    | (with_reducible show wpList _ _ _ (⟨_, Op.box roT _, _, _, _, none⟩ :: _) _ _
       refine wpList_boxA_of rfl _ rfl (ropA o) rfl ?_
       intro w2 x2 l2 s2
       rw [S1.out] at x2 s2
       rw [S1.out]
       have X2 := Lib.hid x2
       have L2 := Lib.hid l2
       have S2 := Lib.hid s2
       clear x2 l2 s2)
    | (with_reducible show wpList _ _ _ (⟨_, Op.alloc rvT, _, _, _, _⟩ :: _) _ _
       refine wpList_boxA_new rowRv rfl rfl (w.heap.size + 1 + 1) S2.out ?_
       intro w3 x3 l3 s3
       have T3 := Lib.hid (new3 X1.out L1.out S1.out X2.out L2.out S2.out x3 l3)
       obtain ⟨c0, c1, c2, c3, c4⟩ := T3.out.c
       obtain ⟨d0, d1, d2, d3, d4, d5⟩ := T3.out.d
       rw [HP.out] at d0
       clear x3 l3 s3 X1 L1 S1 X2 L2 S2)
    | (with_reducible show wpList _ _ _ (⟨_, Op.load rvT (.tmp 2), _, _, _, none⟩ :: _) _ _
       refine wpList_boxA_load rowRv rfl _ rfl w.heap.size (resvA q n c r) rfl rfl T3.out.s ?_)
    | (go_at_call 15
       refine (HGD.out _ T3.out.low).mono ?_; rintro e w4 ⟨rfl, hb⟩
       have T4 := Lib.hid (T3.out.mono hb)
       skip
       clear hb T3 c0 c1 c2 c3 c4 d0 d1 d2 d3 d4 d5
       obtain ⟨c0, c1, c2, c3, c4⟩ := T4.out.c
       obtain ⟨d0, d1, d2, d3, d4, d5⟩ := T4.out.d
       rw [HP.out] at d0)
    | (go_at_call 26
       refine (refNobody_any _).mono ?_; rintro e w7 ⟨rfl, hb7⟩
       have T7 := Lib.hid (T4.out.mono hb7)
       clear hb7 T4)
    | (with_reducible show wpList _ _ _ (⟨_, Op.store rvT (.tmp 4) _, _, _, _, none⟩ :: _) _ _
       refine wpList_boxA_put rowRv rfl _ _ rfl rfl (w.heap.size + 1 + 1) (resvA none 0 0 nobodyR) _ rfl (rvA_one _ _ _ _) rfl rfl rfl T7.out.r ?_
       intro w9 x9 k9 s9
       have T9 := Lib.hid (T7.out.setR x9 k9)
       clear x9 k9 s9))
  exact bodyPost_ret (results_cell_row_tmp rfl _ _ (w.heap.size + 1 + 1) rvT (resvA none 0 0 nobodyR) (0, 0) _ rfl T9.out.r Try.underlying24 rfl (rvA_size _ _ _ _)) rfl (refPost_nobody T9.out.low)
set_option maxRecDepth 100000 in
set_option maxHeartbeats 16000000 in
theorem refbad_who5 {w : World} {q : Option Addr} {n c : Nat} {r : ResvOf} (hq : RvAt w q n c r) {o : ROp} (hop : o.op = 5) (hg : goodR r = true) (hb1 : o.who < 0) :
    Calls Try.prog 11 #[.agg (resvA q n c r), .agg (ropA o)] w (RefPost w nobodyR 2) := by
  have HGD := Lib.hid (fun (W : World) (hb : Below w.heap.size w W) => (by have h := refGood_any (c := c) (RowsAt.below hq.at_ hb) hq.len hq.few; rw [hg] at h; exact h : Calls Try.prog 15 #[.agg (resvA q n c r)] W fun e w' => e = .returned (.bool true) ∧ Below W.heap.size W w'))
  have HP := Lib.hid hop
  clear hop
  clear hq
  go_enter Try.func11, Try.ntmps11
  go_wp2_with (first
    | (with_reducible show wpList _ _ _ (⟨_, Op.box rvT _, _, _, _, none⟩ :: _) _ _
       refine wpList_boxA_of rfl _ rfl (resvA q n c r) rfl ?_
       intro w1 x1 l1 s1
       have X1 := Lib.hid x1
       have L1 := Lib.hid l1
       have S1 := Lib.hid s1
       clear x1 l1 s1)
    | (with_reducible show wpList _ _ _ (⟨_, Op.box roT _, _, _, _, none⟩ :: _) _ _
       refine wpList_boxA_of rfl _ rfl (ropA o) rfl ?_
       intro w2 x2 l2 s2
       rw [S1.out] at x2 s2
       rw [S1.out]
       have X2 := Lib.hid x2
       have L2 := Lib.hid l2
       have S2 := Lib.hid s2
       clear x2 l2 s2)
    | (with_reducible show wpList _ _ _ (⟨_, Op.alloc rvT, _, _, _, _⟩ :: _) _ _
       refine wpList_boxA_new rowRv rfl rfl (w.heap.size + 1 + 1) S2.out ?_
       intro w3 x3 l3 s3
       have T3 := Lib.hid (new3 X1.out L1.out S1.out X2.out L2.out S2.out x3 l3)
       obtain ⟨c0, c1, c2, c3, c4⟩ := T3.out.c
       obtain ⟨d0, d1, d2, d3, d4, d5⟩ := T3.out.d
       rw [HP.out] at d0
       clear x3 l3 s3 X1 L1 S1 X2 L2 S2)
    | (with_reducible show wpList _ _ _ (⟨_, Op.load rvT (.tmp 2), _, _, _, none⟩ :: _) _ _
       refine wpList_boxA_load rowRv rfl _ rfl w.heap.size (resvA q n c r) rfl rfl T3.out.s ?_)
    | (go_at_call 15
       refine (HGD.out _ T3.out.low).mono ?_; rintro e w4 ⟨rfl, hb⟩
       have T4 := Lib.hid (T3.out.mono hb)
       skip
       clear hb T3 c0 c1 c2 c3 c4 d0 d1 d2 d3 d4 d5
       obtain ⟨c0, c1, c2, c3, c4⟩ := T4.out.c
       obtain ⟨d0, d1, d2, d3, d4, d5⟩ := T4.out.d
       rw [HP.out] at d0)
    | (go_at_call 26
       refine (refNobody_any _).mono ?_; rintro e w7 ⟨rfl, hb7⟩
       have T7 := Lib.hid (T4.out.mono hb7)
       clear hb7 T4)
    | (with_reducible show wpList _ _ _ (⟨_, Op.store rvT (.tmp 4) _, _, _, _, none⟩ :: _) _ _
       refine wpList_boxA_put rowRv rfl _ _ rfl rfl (w.heap.size + 1 + 1) (resvA none 0 0 nobodyR) _ rfl (rvA_one _ _ _ _) rfl rfl rfl T7.out.r ?_
       intro w9 x9 k9 s9
       have T9 := Lib.hid (T7.out.setR x9 k9)
       clear x9 k9 s9))
  exact bodyPost_ret (results_cell_row_tmp rfl _ _ (w.heap.size + 1 + 1) rvT (resvA none 0 0 nobodyR) (0, 0) _ rfl T9.out.r Try.underlying24 rfl (rvA_size _ _ _ _)) rfl (refPost_nobody T9.out.low)
set_option maxRecDepth 100000 in
set_option maxHeartbeats 16000000 in
theorem refbad_key5 {w : World} {q : Option Addr} {n c : Nat} {r : ResvOf} (hq : RvAt w q n c r) {o : ROp} (hop : o.op = 5) (hg : goodR r = true) (hb0 : ¬ o.who < 0) (hb1 : o.key < 0) :
    Calls Try.prog 11 #[.agg (resvA q n c r), .agg (ropA o)] w (RefPost w nobodyR 2) := by
  have HGD := Lib.hid (fun (W : World) (hb : Below w.heap.size w W) => (by have h := refGood_any (c := c) (RowsAt.below hq.at_ hb) hq.len hq.few; rw [hg] at h; exact h : Calls Try.prog 15 #[.agg (resvA q n c r)] W fun e w' => e = .returned (.bool true) ∧ Below W.heap.size W w'))
  have HP := Lib.hid hop
  clear hop
  clear hq
  go_enter Try.func11, Try.ntmps11
  go_wp2_with (first
    | (with_reducible show wpList _ _ _ (⟨_, Op.box rvT _, _, _, _, none⟩ :: _) _ _
       refine wpList_boxA_of rfl _ rfl (resvA q n c r) rfl ?_
       intro w1 x1 l1 s1
       have X1 := Lib.hid x1
       have L1 := Lib.hid l1
       have S1 := Lib.hid s1
       clear x1 l1 s1)
    | (with_reducible show wpList _ _ _ (⟨_, Op.box roT _, _, _, _, none⟩ :: _) _ _
       refine wpList_boxA_of rfl _ rfl (ropA o) rfl ?_
       intro w2 x2 l2 s2
       rw [S1.out] at x2 s2
       rw [S1.out]
       have X2 := Lib.hid x2
       have L2 := Lib.hid l2
       have S2 := Lib.hid s2
       clear x2 l2 s2)
    | (with_reducible show wpList _ _ _ (⟨_, Op.alloc rvT, _, _, _, _⟩ :: _) _ _
       refine wpList_boxA_new rowRv rfl rfl (w.heap.size + 1 + 1) S2.out ?_
       intro w3 x3 l3 s3
       have T3 := Lib.hid (new3 X1.out L1.out S1.out X2.out L2.out S2.out x3 l3)
       obtain ⟨c0, c1, c2, c3, c4⟩ := T3.out.c
       obtain ⟨d0, d1, d2, d3, d4, d5⟩ := T3.out.d
       rw [HP.out] at d0
       clear x3 l3 s3 X1 L1 S1 X2 L2 S2)
    | (with_reducible show wpList _ _ _ (⟨_, Op.load rvT (.tmp 2), _, _, _, none⟩ :: _) _ _
       refine wpList_boxA_load rowRv rfl _ rfl w.heap.size (resvA q n c r) rfl rfl T3.out.s ?_)
    | (go_at_call 15
       refine (HGD.out _ T3.out.low).mono ?_; rintro e w4 ⟨rfl, hb⟩
       have T4 := Lib.hid (T3.out.mono hb)
       skip
       clear hb T3 c0 c1 c2 c3 c4 d0 d1 d2 d3 d4 d5
       obtain ⟨c0, c1, c2, c3, c4⟩ := T4.out.c
       obtain ⟨d0, d1, d2, d3, d4, d5⟩ := T4.out.d
       rw [HP.out] at d0)
    | (go_at_call 26
       refine (refNobody_any _).mono ?_; rintro e w7 ⟨rfl, hb7⟩
       have T7 := Lib.hid (T4.out.mono hb7)
       clear hb7 T4)
    | (with_reducible show wpList _ _ _ (⟨_, Op.store rvT (.tmp 4) _, _, _, _, none⟩ :: _) _ _
       refine wpList_boxA_put rowRv rfl _ _ rfl rfl (w.heap.size + 1 + 1) (resvA none 0 0 nobodyR) _ rfl (rvA_one _ _ _ _) rfl rfl rfl T7.out.r ?_
       intro w9 x9 k9 s9
       have T9 := Lib.hid (T7.out.setR x9 k9)
       clear x9 k9 s9))
  exact bodyPost_ret (results_cell_row_tmp rfl _ _ (w.heap.size + 1 + 1) rvT (resvA none 0 0 nobodyR) (0, 0) _ rfl T9.out.r Try.underlying24 rfl (rvA_size _ _ _ _)) rfl (refPost_nobody T9.out.low)
set_option maxRecDepth 100000 in
set_option maxHeartbeats 16000000 in
theorem refbad_new5 {w : World} {q : Option Addr} {n c : Nat} {r : ResvOf} (hq : RvAt w q n c r) {o : ROp} (hop : o.op = 5) (hg : goodR r = true) (hb0 : ¬ o.who < 0) (hb2 : ¬ o.key < 0) (hb1 : o.new < 0) :
    Calls Try.prog 11 #[.agg (resvA q n c r), .agg (ropA o)] w (RefPost w nobodyR 2) := by
  have HGD := Lib.hid (fun (W : World) (hb : Below w.heap.size w W) => (by have h := refGood_any (c := c) (RowsAt.below hq.at_ hb) hq.len hq.few; rw [hg] at h; exact h : Calls Try.prog 15 #[.agg (resvA q n c r)] W fun e w' => e = .returned (.bool true) ∧ Below W.heap.size W w'))
  have HP := Lib.hid hop
  clear hop
  clear hq
  go_enter Try.func11, Try.ntmps11
  go_wp2_with (first
    | (with_reducible show wpList _ _ _ (⟨_, Op.box rvT _, _, _, _, none⟩ :: _) _ _
       refine wpList_boxA_of rfl _ rfl (resvA q n c r) rfl ?_
       intro w1 x1 l1 s1
       have X1 := Lib.hid x1
       have L1 := Lib.hid l1
       have S1 := Lib.hid s1
       clear x1 l1 s1)
    | (with_reducible show wpList _ _ _ (⟨_, Op.box roT _, _, _, _, none⟩ :: _) _ _
       refine wpList_boxA_of rfl _ rfl (ropA o) rfl ?_
       intro w2 x2 l2 s2
       rw [S1.out] at x2 s2
       rw [S1.out]
       have X2 := Lib.hid x2
       have L2 := Lib.hid l2
       have S2 := Lib.hid s2
       clear x2 l2 s2)
    | (with_reducible show wpList _ _ _ (⟨_, Op.alloc rvT, _, _, _, _⟩ :: _) _ _
       refine wpList_boxA_new rowRv rfl rfl (w.heap.size + 1 + 1) S2.out ?_
       intro w3 x3 l3 s3
       have T3 := Lib.hid (new3 X1.out L1.out S1.out X2.out L2.out S2.out x3 l3)
       obtain ⟨c0, c1, c2, c3, c4⟩ := T3.out.c
       obtain ⟨d0, d1, d2, d3, d4, d5⟩ := T3.out.d
       rw [HP.out] at d0
       clear x3 l3 s3 X1 L1 S1 X2 L2 S2)
    | (with_reducible show wpList _ _ _ (⟨_, Op.load rvT (.tmp 2), _, _, _, none⟩ :: _) _ _
       refine wpList_boxA_load rowRv rfl _ rfl w.heap.size (resvA q n c r) rfl rfl T3.out.s ?_)
    | (go_at_call 15
       refine (HGD.out _ T3.out.low).mono ?_; rintro e w4 ⟨rfl, hb⟩
       have T4 := Lib.hid (T3.out.mono hb)
       skip
       clear hb T3 c0 c1 c2 c3 c4 d0 d1 d2 d3 d4 d5
       obtain ⟨c0, c1, c2, c3, c4⟩ := T4.out.c
       obtain ⟨d0, d1, d2, d3, d4, d5⟩ := T4.out.d
       rw [HP.out] at d0)
    | (go_at_call 26
       refine (refNobody_any _).mono ?_; rintro e w7 ⟨rfl, hb7⟩
       have T7 := Lib.hid (T4.out.mono hb7)
       clear hb7 T4)
    | (with_reducible show wpList _ _ _ (⟨_, Op.store rvT (.tmp 4) _, _, _, _, none⟩ :: _) _ _
       refine wpList_boxA_put rowRv rfl _ _ rfl rfl (w.heap.size + 1 + 1) (resvA none 0 0 nobodyR) _ rfl (rvA_one _ _ _ _) rfl rfl rfl T7.out.r ?_
       intro w9 x9 k9 s9
       have T9 := Lib.hid (T7.out.setR x9 k9)
       clear x9 k9 s9))
  exact bodyPost_ret (results_cell_row_tmp rfl _ _ (w.heap.size + 1 + 1) rvT (resvA none 0 0 nobodyR) (0, 0) _ rfl T9.out.r Try.underlying24 rfl (rvA_size _ _ _ _)) rfl (refPost_nobody T9.out.low)
set_option maxRecDepth 100000 in
set_option maxHeartbeats 16000000 in
theorem refbad_good0 {w : World} {q : Option Addr} {n c : Nat} {r : ResvOf} (hq : RvAt w q n c r) {o : ROp} (h2 : o.op ≠ 2) (h3 : o.op ≠ 3) (h5 : o.op ≠ 5) (hg : goodR r = false) :
    Calls Try.prog 11 #[.agg (resvA q n c r), .agg (ropA o)] w (RefPost w nobodyR 2) := by
  have HGD := Lib.hid (fun (W : World) (hb : Below w.heap.size w W) => (by have h := refGood_any (c := c) (RowsAt.below hq.at_ hb) hq.len hq.few; rw [hg] at h; exact h : Calls Try.prog 15 #[.agg (resvA q n c r)] W fun e w' => e = .returned (.bool false) ∧ Below W.heap.size W w'))
  clear hq
  have n2 : (o.op == 2) = false := beq_eq_false_iff_ne.2 (by omega)
  have n3 : (o.op == 3) = false := beq_eq_false_iff_ne.2 (by omega)
  have n5 : (o.op == 5) = false := beq_eq_false_iff_ne.2 (by omega)
  go_enter Try.func11, Try.ntmps11
  go_wp2_with (first
    | (with_reducible show wpList _ _ _ (⟨_, Op.box rvT _, _, _, _, none⟩ :: _) _ _
       refine wpList_boxA_of rfl _ rfl (resvA q n c r) rfl ?_
       intro w1 x1 l1 s1
       have X1 := Lib.hid x1
       have L1 := Lib.hid l1
       have S1 := Lib.hid s1
       clear x1 l1 s1)
    | (with_reducible show wpList _ _ _ (⟨_, Op.box roT _, _, _, _, none⟩ :: _) _ _
       refine wpList_boxA_of rfl _ rfl (ropA o) rfl ?_
       intro w2 x2 l2 s2
       rw [S1.out] at x2 s2
       rw [S1.out]
       have X2 := Lib.hid x2
       have L2 := Lib.hid l2
       have S2 := Lib.hid s2
       clear x2 l2 s2)
    | (with_reducible show wpList _ _ _ (⟨_, Op.alloc rvT, _, _, _, _⟩ :: _) _ _
       refine wpList_boxA_new rowRv rfl rfl (w.heap.size + 1 + 1) S2.out ?_
       intro w3 x3 l3 s3
       have T3 := Lib.hid (new3 X1.out L1.out S1.out X2.out L2.out S2.out x3 l3)
       obtain ⟨c0, c1, c2, c3, c4⟩ := T3.out.c
       obtain ⟨d0, d1, d2, d3, d4, d5⟩ := T3.out.d
       skip
       clear x3 l3 s3 X1 L1 S1 X2 L2 S2)
    | (with_reducible show wpList _ _ _ (⟨_, Op.load rvT (.tmp 2), _, _, _, none⟩ :: _) _ _
       refine wpList_boxA_load rowRv rfl _ rfl w.heap.size (resvA q n c r) rfl rfl T3.out.s ?_)
    | (go_at_call 15
       refine (HGD.out _ T3.out.low).mono ?_; rintro e w4 ⟨rfl, hb⟩
       have T4 := Lib.hid (T3.out.mono hb)
       skip
       clear hb T3 c0 c1 c2 c3 c4 d0 d1 d2 d3 d4 d5
       obtain ⟨c0, c1, c2, c3, c4⟩ := T4.out.c
       obtain ⟨d0, d1, d2, d3, d4, d5⟩ := T4.out.d
       skip)
    | (go_at_call 26
       refine (refNobody_any _).mono ?_; rintro e w7 ⟨rfl, hb7⟩
       have T7 := Lib.hid (T4.out.mono hb7)
       clear hb7 T4)
    | (with_reducible show wpList _ _ _ (⟨_, Op.store rvT (.tmp 4) _, _, _, _, none⟩ :: _) _ _
       refine wpList_boxA_put rowRv rfl _ _ rfl rfl (w.heap.size + 1 + 1) (resvA none 0 0 nobodyR) _ rfl (rvA_one _ _ _ _) rfl rfl rfl T7.out.r ?_
       intro w9 x9 k9 s9
       have T9 := Lib.hid (T7.out.setR x9 k9)
       clear x9 k9 s9))
  exact bodyPost_ret (results_cell_row_tmp rfl _ _ (w.heap.size + 1 + 1) rvT (resvA none 0 0 nobodyR) (0, 0) _ rfl T9.out.r Try.underlying24 rfl (rvA_size _ _ _ _)) rfl (refPost_nobody T9.out.low)
set_option maxRecDepth 100000 in
set_option maxHeartbeats 16000000 in
theorem refbad_who0 {w : World} {q : Option Addr} {n c : Nat} {r : ResvOf} (hq : RvAt w q n c r) {o : ROp} (h2 : o.op ≠ 2) (h3 : o.op ≠ 3) (h5 : o.op ≠ 5) (hg : goodR r = true) (hr1 : ¬ o.op < 1) (hr2 : ¬ 6 < o.op) (hb1 : o.who < 0) :
    Calls Try.prog 11 #[.agg (resvA q n c r), .agg (ropA o)] w (RefPost w nobodyR 2) := by
  have HGD := Lib.hid (fun (W : World) (hb : Below w.heap.size w W) => (by have h := refGood_any (c := c) (RowsAt.below hq.at_ hb) hq.len hq.few; rw [hg] at h; exact h : Calls Try.prog 15 #[.agg (resvA q n c r)] W fun e w' => e = .returned (.bool true) ∧ Below W.heap.size W w'))
  clear hq
  have n2 : (o.op == 2) = false := beq_eq_false_iff_ne.2 (by omega)
  have n3 : (o.op == 3) = false := beq_eq_false_iff_ne.2 (by omega)
  have n5 : (o.op == 5) = false := beq_eq_false_iff_ne.2 (by omega)
  go_enter Try.func11, Try.ntmps11
  go_wp2_with (first
    | (with_reducible show wpList _ _ _ (⟨_, Op.box rvT _, _, _, _, none⟩ :: _) _ _
       refine wpList_boxA_of rfl _ rfl (resvA q n c r) rfl ?_
       intro w1 x1 l1 s1
       have X1 := Lib.hid x1
       have L1 := Lib.hid l1
       have S1 := Lib.hid s1
       clear x1 l1 s1)
    | (with_reducible show wpList _ _ _ (⟨_, Op.box roT _, _, _, _, none⟩ :: _) _ _
       refine wpList_boxA_of rfl _ rfl (ropA o) rfl ?_
       intro w2 x2 l2 s2
       rw [S1.out] at x2 s2
       rw [S1.out]
       have X2 := Lib.hid x2
       have L2 := Lib.hid l2
       have S2 := Lib.hid s2
       clear x2 l2 s2)
    | (with_reducible show wpList _ _ _ (⟨_, Op.alloc rvT, _, _, _, _⟩ :: _) _ _
       refine wpList_boxA_new rowRv rfl rfl (w.heap.size + 1 + 1) S2.out ?_
       intro w3 x3 l3 s3
       have T3 := Lib.hid (new3 X1.out L1.out S1.out X2.out L2.out S2.out x3 l3)
       obtain ⟨c0, c1, c2, c3, c4⟩ := T3.out.c
       obtain ⟨d0, d1, d2, d3, d4, d5⟩ := T3.out.d
       skip
       clear x3 l3 s3 X1 L1 S1 X2 L2 S2)
    | (with_reducible show wpList _ _ _ (⟨_, Op.load rvT (.tmp 2), _, _, _, none⟩ :: _) _ _
       refine wpList_boxA_load rowRv rfl _ rfl w.heap.size (resvA q n c r) rfl rfl T3.out.s ?_)
    | (go_at_call 15
       refine (HGD.out _ T3.out.low).mono ?_; rintro e w4 ⟨rfl, hb⟩
       have T4 := Lib.hid (T3.out.mono hb)
       skip
       clear hb T3 c0 c1 c2 c3 c4 d0 d1 d2 d3 d4 d5
       obtain ⟨c0, c1, c2, c3, c4⟩ := T4.out.c
       obtain ⟨d0, d1, d2, d3, d4, d5⟩ := T4.out.d
       skip)
    | (go_at_call 26
       refine (refNobody_any _).mono ?_; rintro e w7 ⟨rfl, hb7⟩
       have T7 := Lib.hid (T4.out.mono hb7)
       clear hb7 T4)
    | (with_reducible show wpList _ _ _ (⟨_, Op.store rvT (.tmp 4) _, _, _, _, none⟩ :: _) _ _
       refine wpList_boxA_put rowRv rfl _ _ rfl rfl (w.heap.size + 1 + 1) (resvA none 0 0 nobodyR) _ rfl (rvA_one _ _ _ _) rfl rfl rfl T7.out.r ?_
       intro w9 x9 k9 s9
       have T9 := Lib.hid (T7.out.setR x9 k9)
       clear x9 k9 s9))
  exact bodyPost_ret (results_cell_row_tmp rfl _ _ (w.heap.size + 1 + 1) rvT (resvA none 0 0 nobodyR) (0, 0) _ rfl T9.out.r Try.underlying24 rfl (rvA_size _ _ _ _)) rfl (refPost_nobody T9.out.low)
set_option maxRecDepth 100000 in
set_option maxHeartbeats 16000000 in
theorem refbad_key0 {w : World} {q : Option Addr} {n c : Nat} {r : ResvOf} (hq : RvAt w q n c r) {o : ROp} (h2 : o.op ≠ 2) (h3 : o.op ≠ 3) (h5 : o.op ≠ 5) (hg : goodR r = true) (hr1 : ¬ o.op < 1) (hr2 : ¬ 6 < o.op) (hb0 : ¬ o.who < 0) (hb1 : o.key < 0) :
    Calls Try.prog 11 #[.agg (resvA q n c r), .agg (ropA o)] w (RefPost w nobodyR 2) := by
  have HGD := Lib.hid (fun (W : World) (hb : Below w.heap.size w W) => (by have h := refGood_any (c := c) (RowsAt.below hq.at_ hb) hq.len hq.few; rw [hg] at h; exact h : Calls Try.prog 15 #[.agg (resvA q n c r)] W fun e w' => e = .returned (.bool true) ∧ Below W.heap.size W w'))
  clear hq
  have n2 : (o.op == 2) = false := beq_eq_false_iff_ne.2 (by omega)
  have n3 : (o.op == 3) = false := beq_eq_false_iff_ne.2 (by omega)
  have n5 : (o.op == 5) = false := beq_eq_false_iff_ne.2 (by omega)
  go_enter Try.func11, Try.ntmps11
  go_wp2_with (first
    | (with_reducible show wpList _ _ _ (⟨_, Op.box rvT _, _, _, _, none⟩ :: _) _ _
       refine wpList_boxA_of rfl _ rfl (resvA q n c r) rfl ?_
       intro w1 x1 l1 s1
       have X1 := Lib.hid x1
       have L1 := Lib.hid l1
       have S1 := Lib.hid s1
       clear x1 l1 s1)
    | (with_reducible show wpList _ _ _ (⟨_, Op.box roT _, _, _, _, none⟩ :: _) _ _
       refine wpList_boxA_of rfl _ rfl (ropA o) rfl ?_
       intro w2 x2 l2 s2
       rw [S1.out] at x2 s2
       rw [S1.out]
       have X2 := Lib.hid x2
       have L2 := Lib.hid l2
       have S2 := Lib.hid s2
       clear x2 l2 s2)
    | (with_reducible show wpList _ _ _ (⟨_, Op.alloc rvT, _, _, _, _⟩ :: _) _ _
       refine wpList_boxA_new rowRv rfl rfl (w.heap.size + 1 + 1) S2.out ?_
       intro w3 x3 l3 s3
       have T3 := Lib.hid (new3 X1.out L1.out S1.out X2.out L2.out S2.out x3 l3)
       obtain ⟨c0, c1, c2, c3, c4⟩ := T3.out.c
       obtain ⟨d0, d1, d2, d3, d4, d5⟩ := T3.out.d
       skip
       clear x3 l3 s3 X1 L1 S1 X2 L2 S2)
    | (with_reducible show wpList _ _ _ (⟨_, Op.load rvT (.tmp 2), _, _, _, none⟩ :: _) _ _
       refine wpList_boxA_load rowRv rfl _ rfl w.heap.size (resvA q n c r) rfl rfl T3.out.s ?_)
    | (go_at_call 15
       refine (HGD.out _ T3.out.low).mono ?_; rintro e w4 ⟨rfl, hb⟩
       have T4 := Lib.hid (T3.out.mono hb)
       skip
       clear hb T3 c0 c1 c2 c3 c4 d0 d1 d2 d3 d4 d5
       obtain ⟨c0, c1, c2, c3, c4⟩ := T4.out.c
       obtain ⟨d0, d1, d2, d3, d4, d5⟩ := T4.out.d
       skip)
    | (go_at_call 26
       refine (refNobody_any _).mono ?_; rintro e w7 ⟨rfl, hb7⟩
       have T7 := Lib.hid (T4.out.mono hb7)
       clear hb7 T4)
    | (with_reducible show wpList _ _ _ (⟨_, Op.store rvT (.tmp 4) _, _, _, _, none⟩ :: _) _ _
       refine wpList_boxA_put rowRv rfl _ _ rfl rfl (w.heap.size + 1 + 1) (resvA none 0 0 nobodyR) _ rfl (rvA_one _ _ _ _) rfl rfl rfl T7.out.r ?_
       intro w9 x9 k9 s9
       have T9 := Lib.hid (T7.out.setR x9 k9)
       clear x9 k9 s9))
  exact bodyPost_ret (results_cell_row_tmp rfl _ _ (w.heap.size + 1 + 1) rvT (resvA none 0 0 nobodyR) (0, 0) _ rfl T9.out.r Try.underlying24 rfl (rvA_size _ _ _ _)) rfl (refPost_nobody T9.out.low)
set_option maxRecDepth 100000 in
set_option maxHeartbeats 16000000 in
theorem refbad_new0 {w : World} {q : Option Addr} {n c : Nat} {r : ResvOf} (hq : RvAt w q n c r) {o : ROp} (h2 : o.op ≠ 2) (h3 : o.op ≠ 3) (h5 : o.op ≠ 5) (hg : goodR r = true) (hr1 : ¬ o.op < 1) (hr2 : ¬ 6 < o.op) (hb0 : ¬ o.who < 0) (hb2 : ¬ o.key < 0) (hb1 : o.new < 0) :
    Calls Try.prog 11 #[.agg (resvA q n c r), .agg (ropA o)] w (RefPost w nobodyR 2) := by
  have HGD := Lib.hid (fun (W : World) (hb : Below w.heap.size w W) => (by have h := refGood_any (c := c) (RowsAt.below hq.at_ hb) hq.len hq.few; rw [hg] at h; exact h : Calls Try.prog 15 #[.agg (resvA q n c r)] W fun e w' => e = .returned (.bool true) ∧ Below W.heap.size W w'))
  clear hq
  have n2 : (o.op == 2) = false := beq_eq_false_iff_ne.2 (by omega)
  have n3 : (o.op == 3) = false := beq_eq_false_iff_ne.2 (by omega)
  have n5 : (o.op == 5) = false := beq_eq_false_iff_ne.2 (by omega)
  go_enter Try.func11, Try.ntmps11
  go_wp2_with (first
    | (with_reducible show wpList _ _ _ (⟨_, Op.box rvT _, _, _, _, none⟩ :: _) _ _
       refine wpList_boxA_of rfl _ rfl (resvA q n c r) rfl ?_
       intro w1 x1 l1 s1
       have X1 := Lib.hid x1
       have L1 := Lib.hid l1
       have S1 := Lib.hid s1
       clear x1 l1 s1)
    | (with_reducible show wpList _ _ _ (⟨_, Op.box roT _, _, _, _, none⟩ :: _) _ _
       refine wpList_boxA_of rfl _ rfl (ropA o) rfl ?_
       intro w2 x2 l2 s2
       rw [S1.out] at x2 s2
       rw [S1.out]
       have X2 := Lib.hid x2
       have L2 := Lib.hid l2
       have S2 := Lib.hid s2
       clear x2 l2 s2)
    | (with_reducible show wpList _ _ _ (⟨_, Op.alloc rvT, _, _, _, _⟩ :: _) _ _
       refine wpList_boxA_new rowRv rfl rfl (w.heap.size + 1 + 1) S2.out ?_
       intro w3 x3 l3 s3
       have T3 := Lib.hid (new3 X1.out L1.out S1.out X2.out L2.out S2.out x3 l3)
       obtain ⟨c0, c1, c2, c3, c4⟩ := T3.out.c
       obtain ⟨d0, d1, d2, d3, d4, d5⟩ := T3.out.d
       skip
       clear x3 l3 s3 X1 L1 S1 X2 L2 S2)
    | (with_reducible show wpList _ _ _ (⟨_, Op.load rvT (.tmp 2), _, _, _, none⟩ :: _) _ _
       refine wpList_boxA_load rowRv rfl _ rfl w.heap.size (resvA q n c r) rfl rfl T3.out.s ?_)
    | (go_at_call 15
       refine (HGD.out _ T3.out.low).mono ?_; rintro e w4 ⟨rfl, hb⟩
       have T4 := Lib.hid (T3.out.mono hb)
       skip
       clear hb T3 c0 c1 c2 c3 c4 d0 d1 d2 d3 d4 d5
       obtain ⟨c0, c1, c2, c3, c4⟩ := T4.out.c
       obtain ⟨d0, d1, d2, d3, d4, d5⟩ := T4.out.d
       skip)
    | (go_at_call 26
       refine (refNobody_any _).mono ?_; rintro e w7 ⟨rfl, hb7⟩
       have T7 := Lib.hid (T4.out.mono hb7)
       clear hb7 T4)
    | (with_reducible show wpList _ _ _ (⟨_, Op.store rvT (.tmp 4) _, _, _, _, none⟩ :: _) _ _
       refine wpList_boxA_put rowRv rfl _ _ rfl rfl (w.heap.size + 1 + 1) (resvA none 0 0 nobodyR) _ rfl (rvA_one _ _ _ _) rfl rfl rfl T7.out.r ?_
       intro w9 x9 k9 s9
       have T9 := Lib.hid (T7.out.setR x9 k9)
       clear x9 k9 s9))
  exact bodyPost_ret (results_cell_row_tmp rfl _ _ (w.heap.size + 1 + 1) rvT (resvA none 0 0 nobodyR) (0, 0) _ rfl T9.out.r Try.underlying24 rfl (rvA_size _ _ _ _)) rfl (refPost_nobody T9.out.low)
set_option maxRecDepth 100000 in
set_option maxHeartbeats 16000000 in
theorem refbad_less {w : World} {q : Option Addr} {n c : Nat} {r : ResvOf} (hq : RvAt w q n c r) {o : ROp} (hr1 : o.op < 1) (hg : goodR r = true) :
    Calls Try.prog 11 #[.agg (resvA q n c r), .agg (ropA o)] w (RefPost w nobodyR 2) := by
  have HGD := Lib.hid (fun (W : World) (hb : Below w.heap.size w W) => (by have h := refGood_any (c := c) (RowsAt.below hq.at_ hb) hq.len hq.few; rw [hg] at h; exact h : Calls Try.prog 15 #[.agg (resvA q n c r)] W fun e w' => e = .returned (.bool true) ∧ Below W.heap.size W w'))
  clear hq
  have n2 : (o.op == 2) = false := beq_eq_false_iff_ne.2 (by omega)
  have n3 : (o.op == 3) = false := beq_eq_false_iff_ne.2 (by omega)
  have n5 : (o.op == 5) = false := beq_eq_false_iff_ne.2 (by omega)
  go_enter Try.func11, Try.ntmps11
  go_wp2_with (first
    | (with_reducible show wpList _ _ _ (⟨_, Op.box rvT _, _, _, _, none⟩ :: _) _ _
       refine wpList_boxA_of rfl _ rfl (resvA q n c r) rfl ?_
       intro w1 x1 l1 s1
       have X1 := Lib.hid x1
       have L1 := Lib.hid l1
       have S1 := Lib.hid s1
       clear x1 l1 s1)
    | (with_reducible show wpList _ _ _ (⟨_, Op.box roT _, _, _, _, none⟩ :: _) _ _
       refine wpList_boxA_of rfl _ rfl (ropA o) rfl ?_
       intro w2 x2 l2 s2
       rw [S1.out] at x2 s2
       rw [S1.out]
       have X2 := Lib.hid x2
       have L2 := Lib.hid l2
       have S2 := Lib.hid s2
       clear x2 l2 s2)
    | (with_reducible show wpList _ _ _ (⟨_, Op.alloc rvT, _, _, _, _⟩ :: _) _ _
       refine wpList_boxA_new rowRv rfl rfl (w.heap.size + 1 + 1) S2.out ?_
       intro w3 x3 l3 s3
       have T3 := Lib.hid (new3 X1.out L1.out S1.out X2.out L2.out S2.out x3 l3)
       obtain ⟨c0, c1, c2, c3, c4⟩ := T3.out.c
       obtain ⟨d0, d1, d2, d3, d4, d5⟩ := T3.out.d
       skip
       clear x3 l3 s3 X1 L1 S1 X2 L2 S2)
    | (with_reducible show wpList _ _ _ (⟨_, Op.load rvT (.tmp 2), _, _, _, none⟩ :: _) _ _
       refine wpList_boxA_load rowRv rfl _ rfl w.heap.size (resvA q n c r) rfl rfl T3.out.s ?_)
    | (go_at_call 15
       refine (HGD.out _ T3.out.low).mono ?_; rintro e w4 ⟨rfl, hb⟩
       have T4 := Lib.hid (T3.out.mono hb)
       skip
       clear hb T3 c0 c1 c2 c3 c4 d0 d1 d2 d3 d4 d5
       obtain ⟨c0, c1, c2, c3, c4⟩ := T4.out.c
       obtain ⟨d0, d1, d2, d3, d4, d5⟩ := T4.out.d
       skip)
    | (go_at_call 26
       refine (refNobody_any _).mono ?_; rintro e w7 ⟨rfl, hb7⟩
       have T7 := Lib.hid (T4.out.mono hb7)
       clear hb7 T4)
    | (with_reducible show wpList _ _ _ (⟨_, Op.store rvT (.tmp 4) _, _, _, _, none⟩ :: _) _ _
       refine wpList_boxA_put rowRv rfl _ _ rfl rfl (w.heap.size + 1 + 1) (resvA none 0 0 nobodyR) _ rfl (rvA_one _ _ _ _) rfl rfl rfl T7.out.r ?_
       intro w9 x9 k9 s9
       have T9 := Lib.hid (T7.out.setR x9 k9)
       clear x9 k9 s9))
  exact bodyPost_ret (results_cell_row_tmp rfl _ _ (w.heap.size + 1 + 1) rvT (resvA none 0 0 nobodyR) (0, 0) _ rfl T9.out.r Try.underlying24 rfl (rvA_size _ _ _ _)) rfl (refPost_nobody T9.out.low)
set_option maxRecDepth 100000 in
set_option maxHeartbeats 16000000 in
theorem refbad_more {w : World} {q : Option Addr} {n c : Nat} {r : ResvOf} (hq : RvAt w q n c r) {o : ROp} (hr0 : ¬ o.op < 1) (hr1 : 6 < o.op) (hg : goodR r = true) :
    Calls Try.prog 11 #[.agg (resvA q n c r), .agg (ropA o)] w (RefPost w nobodyR 2) := by
  have HGD := Lib.hid (fun (W : World) (hb : Below w.heap.size w W) => (by have h := refGood_any (c := c) (RowsAt.below hq.at_ hb) hq.len hq.few; rw [hg] at h; exact h : Calls Try.prog 15 #[.agg (resvA q n c r)] W fun e w' => e = .returned (.bool true) ∧ Below W.heap.size W w'))
  clear hq
  have n2 : (o.op == 2) = false := beq_eq_false_iff_ne.2 (by omega)
  have n3 : (o.op == 3) = false := beq_eq_false_iff_ne.2 (by omega)
  have n5 : (o.op == 5) = false := beq_eq_false_iff_ne.2 (by omega)
  go_enter Try.func11, Try.ntmps11
  go_wp2_with (first
    | (with_reducible show wpList _ _ _ (⟨_, Op.box rvT _, _, _, _, none⟩ :: _) _ _
       refine wpList_boxA_of rfl _ rfl (resvA q n c r) rfl ?_
       intro w1 x1 l1 s1
       have X1 := Lib.hid x1
       have L1 := Lib.hid l1
       have S1 := Lib.hid s1
       clear x1 l1 s1)
    | (with_reducible show wpList _ _ _ (⟨_, Op.box roT _, _, _, _, none⟩ :: _) _ _
       refine wpList_boxA_of rfl _ rfl (ropA o) rfl ?_
       intro w2 x2 l2 s2
       rw [S1.out] at x2 s2
       rw [S1.out]
       have X2 := Lib.hid x2
       have L2 := Lib.hid l2
       have S2 := Lib.hid s2
       clear x2 l2 s2)
    | (with_reducible show wpList _ _ _ (⟨_, Op.alloc rvT, _, _, _, _⟩ :: _) _ _
       refine wpList_boxA_new rowRv rfl rfl (w.heap.size + 1 + 1) S2.out ?_
       intro w3 x3 l3 s3
       have T3 := Lib.hid (new3 X1.out L1.out S1.out X2.out L2.out S2.out x3 l3)
       obtain ⟨c0, c1, c2, c3, c4⟩ := T3.out.c
       obtain ⟨d0, d1, d2, d3, d4, d5⟩ := T3.out.d
       skip
       clear x3 l3 s3 X1 L1 S1 X2 L2 S2)
    | (with_reducible show wpList _ _ _ (⟨_, Op.load rvT (.tmp 2), _, _, _, none⟩ :: _) _ _
       refine wpList_boxA_load rowRv rfl _ rfl w.heap.size (resvA q n c r) rfl rfl T3.out.s ?_)
    | (go_at_call 15
       refine (HGD.out _ T3.out.low).mono ?_; rintro e w4 ⟨rfl, hb⟩
       have T4 := Lib.hid (T3.out.mono hb)
       skip
       clear hb T3 c0 c1 c2 c3 c4 d0 d1 d2 d3 d4 d5
       obtain ⟨c0, c1, c2, c3, c4⟩ := T4.out.c
       obtain ⟨d0, d1, d2, d3, d4, d5⟩ := T4.out.d
       skip)
    | (go_at_call 26
       refine (refNobody_any _).mono ?_; rintro e w7 ⟨rfl, hb7⟩
       have T7 := Lib.hid (T4.out.mono hb7)
       clear hb7 T4)
    | (with_reducible show wpList _ _ _ (⟨_, Op.store rvT (.tmp 4) _, _, _, _, none⟩ :: _) _ _
       refine wpList_boxA_put rowRv rfl _ _ rfl rfl (w.heap.size + 1 + 1) (resvA none 0 0 nobodyR) _ rfl (rvA_one _ _ _ _) rfl rfl rfl T7.out.r ?_
       intro w9 x9 k9 s9
       have T9 := Lib.hid (T7.out.setR x9 k9)
       clear x9 k9 s9))
  exact bodyPost_ret (results_cell_row_tmp rfl _ _ (w.heap.size + 1 + 1) rvT (resvA none 0 0 nobodyR) (0, 0) _ rfl T9.out.r Try.underlying24 rfl (rvA_size _ _ _ _)) rfl (refPost_nobody T9.out.low)
set_option maxRecDepth 100000 in
set_option maxHeartbeats 16000000 in
theorem refbad_tylow2 {w : World} {q : Option Addr} {n c : Nat} {r : ResvOf} (hq : RvAt w q n c r) {o : ROp} (hop : o.op = 2) (hg : goodR r = true) (hb0 : ¬ o.who < 0) (hb2 : ¬ o.key < 0) (hb4 : ¬ o.new < 0) (hb1 : o.ty < 1) :
    Calls Try.prog 11 #[.agg (resvA q n c r), .agg (ropA o)] w (RefPost w nobodyR 2) := by
  have HGD := Lib.hid (fun (W : World) (hb : Below w.heap.size w W) => (by have h := refGood_any (c := c) (RowsAt.below hq.at_ hb) hq.len hq.few; rw [hg] at h; exact h : Calls Try.prog 15 #[.agg (resvA q n c r)] W fun e w' => e = .returned (.bool true) ∧ Below W.heap.size W w'))
  have HP := Lib.hid hop
  clear hop
  clear hq
  go_enter Try.func11, Try.ntmps11
  go_wp2_with (first
    | (with_reducible show wpList _ _ _ (⟨_, Op.box rvT _, _, _, _, none⟩ :: _) _ _
       refine wpList_boxA_of rfl _ rfl (resvA q n c r) rfl ?_
       intro w1 x1 l1 s1
       have X1 := Lib.hid x1
       have L1 := Lib.hid l1
       have S1 := Lib.hid s1
       clear x1 l1 s1)
    | (with_reducible show wpList _ _ _ (⟨_, Op.box roT _, _, _, _, none⟩ :: _) _ _
       refine wpList_boxA_of rfl _ rfl (ropA o) rfl ?_
       intro w2 x2 l2 s2
       rw [S1.out] at x2 s2
       rw [S1.out]
       have X2 := Lib.hid x2
       have L2 := Lib.hid l2
       have S2 := Lib.hid s2
       clear x2 l2 s2)
    | (with_reducible show wpList _ _ _ (⟨_, Op.alloc rvT, _, _, _, _⟩ :: _) _ _
       refine wpList_boxA_new rowRv rfl rfl (w.heap.size + 1 + 1) S2.out ?_
       intro w3 x3 l3 s3
       have T3 := Lib.hid (new3 X1.out L1.out S1.out X2.out L2.out S2.out x3 l3)
       obtain ⟨c0, c1, c2, c3, c4⟩ := T3.out.c
       obtain ⟨d0, d1, d2, d3, d4, d5⟩ := T3.out.d
       rw [HP.out] at d0
       clear x3 l3 s3 X1 L1 S1 X2 L2 S2)
    | (with_reducible show wpList _ _ _ (⟨_, Op.load rvT (.tmp 2), _, _, _, none⟩ :: _) _ _
       refine wpList_boxA_load rowRv rfl _ rfl w.heap.size (resvA q n c r) rfl rfl T3.out.s ?_)
    | (go_at_call 15
       refine (HGD.out _ T3.out.low).mono ?_; rintro e w4 ⟨rfl, hb⟩
       have T4 := Lib.hid (T3.out.mono hb)
       skip
       clear hb T3 c0 c1 c2 c3 c4 d0 d1 d2 d3 d4 d5
       obtain ⟨c0, c1, c2, c3, c4⟩ := T4.out.c
       obtain ⟨d0, d1, d2, d3, d4, d5⟩ := T4.out.d
       rw [HP.out] at d0)
    | (go_at_call 26
       refine (refNobody_any _).mono ?_; rintro e w7 ⟨rfl, hb7⟩
       have T7 := Lib.hid (T4.out.mono hb7)
       clear hb7 T4)
    | (with_reducible show wpList _ _ _ (⟨_, Op.store rvT (.tmp 4) _, _, _, _, none⟩ :: _) _ _
       refine wpList_boxA_put rowRv rfl _ _ rfl rfl (w.heap.size + 1 + 1) (resvA none 0 0 nobodyR) _ rfl (rvA_one _ _ _ _) rfl rfl rfl T7.out.r ?_
       intro w9 x9 k9 s9
       have T9 := Lib.hid (T7.out.setR x9 k9)
       clear x9 k9 s9))
  exact bodyPost_ret (results_cell_row_tmp rfl _ _ (w.heap.size + 1 + 1) rvT (resvA none 0 0 nobodyR) (0, 0) _ rfl T9.out.r Try.underlying24 rfl (rvA_size _ _ _ _)) rfl (refPost_nobody T9.out.low)
set_option maxRecDepth 100000 in
set_option maxHeartbeats 16000000 in
theorem refbad_tyhigh2 {w : World} {q : Option Addr} {n c : Nat} {r : ResvOf} (hq : RvAt w q n c r) {o : ROp} (hop : o.op = 2) (hg : goodR r = true) (hb0 : ¬ o.who < 0) (hb2 : ¬ o.key < 0) (hb4 : ¬ o.new < 0) (hb3 : ¬ o.ty < 1) (hb1 : 6 < o.ty) :
    Calls Try.prog 11 #[.agg (resvA q n c r), .agg (ropA o)] w (RefPost w nobodyR 2) := by
  have HGD := Lib.hid (fun (W : World) (hb : Below w.heap.size w W) => (by have h := refGood_any (c := c) (RowsAt.below hq.at_ hb) hq.len hq.few; rw [hg] at h; exact h : Calls Try.prog 15 #[.agg (resvA q n c r)] W fun e w' => e = .returned (.bool true) ∧ Below W.heap.size W w'))
  have HP := Lib.hid hop
  clear hop
  clear hq
  go_enter Try.func11, Try.ntmps11
  go_wp2_with (first
    | (with_reducible show wpList _ _ _ (⟨_, Op.box rvT _, _, _, _, none⟩ :: _) _ _
       refine wpList_boxA_of rfl _ rfl (resvA q n c r) rfl ?_
       intro w1 x1 l1 s1
       have X1 := Lib.hid x1
       have L1 := Lib.hid l1
       have S1 := Lib.hid s1
       clear x1 l1 s1)
    | (with_reducible show wpList _ _ _ (⟨_, Op.box roT _, _, _, _, none⟩ :: _) _ _
       refine wpList_boxA_of rfl _ rfl (ropA o) rfl ?_
       intro w2 x2 l2 s2
       rw [S1.out] at x2 s2
       rw [S1.out]
       have X2 := Lib.hid x2
       have L2 := Lib.hid l2
       have S2 := Lib.hid s2
       clear x2 l2 s2)
    | (with_reducible show wpList _ _ _ (⟨_, Op.alloc rvT, _, _, _, _⟩ :: _) _ _
       refine wpList_boxA_new rowRv rfl rfl (w.heap.size + 1 + 1) S2.out ?_
       intro w3 x3 l3 s3
       have T3 := Lib.hid (new3 X1.out L1.out S1.out X2.out L2.out S2.out x3 l3)
       obtain ⟨c0, c1, c2, c3, c4⟩ := T3.out.c
       obtain ⟨d0, d1, d2, d3, d4, d5⟩ := T3.out.d
       rw [HP.out] at d0
       clear x3 l3 s3 X1 L1 S1 X2 L2 S2)
    | (with_reducible show wpList _ _ _ (⟨_, Op.load rvT (.tmp 2), _, _, _, none⟩ :: _) _ _
       refine wpList_boxA_load rowRv rfl _ rfl w.heap.size (resvA q n c r) rfl rfl T3.out.s ?_)
    | (go_at_call 15
       refine (HGD.out _ T3.out.low).mono ?_; rintro e w4 ⟨rfl, hb⟩
       have T4 := Lib.hid (T3.out.mono hb)
       skip
       clear hb T3 c0 c1 c2 c3 c4 d0 d1 d2 d3 d4 d5
       obtain ⟨c0, c1, c2, c3, c4⟩ := T4.out.c
       obtain ⟨d0, d1, d2, d3, d4, d5⟩ := T4.out.d
       rw [HP.out] at d0)
    | (go_at_call 26
       refine (refNobody_any _).mono ?_; rintro e w7 ⟨rfl, hb7⟩
       have T7 := Lib.hid (T4.out.mono hb7)
       clear hb7 T4)
    | (with_reducible show wpList _ _ _ (⟨_, Op.store rvT (.tmp 4) _, _, _, _, none⟩ :: _) _ _
       refine wpList_boxA_put rowRv rfl _ _ rfl rfl (w.heap.size + 1 + 1) (resvA none 0 0 nobodyR) _ rfl (rvA_one _ _ _ _) rfl rfl rfl T7.out.r ?_
       intro w9 x9 k9 s9
       have T9 := Lib.hid (T7.out.setR x9 k9)
       clear x9 k9 s9))
  exact bodyPost_ret (results_cell_row_tmp rfl _ _ (w.heap.size + 1 + 1) rvT (resvA none 0 0 nobodyR) (0, 0) _ rfl T9.out.r Try.underlying24 rfl (rvA_size _ _ _ _)) rfl (refPost_nobody T9.out.low)
set_option maxRecDepth 100000 in
set_option maxHeartbeats 16000000 in
theorem refbad_tylow3 {w : World} {q : Option Addr} {n c : Nat} {r : ResvOf} (hq : RvAt w q n c r) {o : ROp} (hop : o.op = 3) (hg : goodR r = true) (hb0 : ¬ o.who < 0) (hb2 : ¬ o.key < 0) (hb4 : ¬ o.new < 0) (hb1 : o.ty < 1) :
    Calls Try.prog 11 #[.agg (resvA q n c r), .agg (ropA o)] w (RefPost w nobodyR 2) := by
  have HGD := Lib.hid (fun (W : World) (hb : Below w.heap.size w W) => (by have h := refGood_any (c := c) (RowsAt.below hq.at_ hb) hq.len hq.few; rw [hg] at h; exact h : Calls Try.prog 15 #[.agg (resvA q n c r)] W fun e w' => e = .returned (.bool true) ∧ Below W.heap.size W w'))
  have HP := Lib.hid hop
  clear hop
  clear hq
  go_enter Try.func11, Try.ntmps11
  go_wp2_with (first
    | (with_reducible show wpList _ _ _ (⟨_, Op.box rvT _, _, _, _, none⟩ :: _) _ _
       refine wpList_boxA_of rfl _ rfl (resvA q n c r) rfl ?_
       intro w1 x1 l1 s1
       have X1 := Lib.hid x1
       have L1 := Lib.hid l1
       have S1 := Lib.hid s1
       clear x1 l1 s1)
    | (with_reducible show wpList _ _ _ (⟨_, Op.box roT _, _, _, _, none⟩ :: _) _ _
       refine wpList_boxA_of rfl _ rfl (ropA o) rfl ?_
       intro w2 x2 l2 s2
       rw [S1.out] at x2 s2
       rw [S1.out]
       have X2 := Lib.hid x2
       have L2 := Lib.hid l2
       have S2 := Lib.hid s2
       clear x2 l2 s2)
    | (with_reducible show wpList _ _ _ (⟨_, Op.alloc rvT, _, _, _, _⟩ :: _) _ _
       refine wpList_boxA_new rowRv rfl rfl (w.heap.size + 1 + 1) S2.out ?_
       intro w3 x3 l3 s3
       have T3 := Lib.hid (new3 X1.out L1.out S1.out X2.out L2.out S2.out x3 l3)
       obtain ⟨c0, c1, c2, c3, c4⟩ := T3.out.c
       obtain ⟨d0, d1, d2, d3, d4, d5⟩ := T3.out.d
       rw [HP.out] at d0
       clear x3 l3 s3 X1 L1 S1 X2 L2 S2)
    | (with_reducible show wpList _ _ _ (⟨_, Op.load rvT (.tmp 2), _, _, _, none⟩ :: _) _ _
       refine wpList_boxA_load rowRv rfl _ rfl w.heap.size (resvA q n c r) rfl rfl T3.out.s ?_)
    | (go_at_call 15
       refine (HGD.out _ T3.out.low).mono ?_; rintro e w4 ⟨rfl, hb⟩
       have T4 := Lib.hid (T3.out.mono hb)
       skip
       clear hb T3 c0 c1 c2 c3 c4 d0 d1 d2 d3 d4 d5
       obtain ⟨c0, c1, c2, c3, c4⟩ := T4.out.c
       obtain ⟨d0, d1, d2, d3, d4, d5⟩ := T4.out.d
       rw [HP.out] at d0)
    | (go_at_call 26
       refine (refNobody_any _).mono ?_; rintro e w7 ⟨rfl, hb7⟩
       have T7 := Lib.hid (T4.out.mono hb7)
       clear hb7 T4)
    | (with_reducible show wpList _ _ _ (⟨_, Op.store rvT (.tmp 4) _, _, _, _, none⟩ :: _) _ _
       refine wpList_boxA_put rowRv rfl _ _ rfl rfl (w.heap.size + 1 + 1) (resvA none 0 0 nobodyR) _ rfl (rvA_one _ _ _ _) rfl rfl rfl T7.out.r ?_
       intro w9 x9 k9 s9
       have T9 := Lib.hid (T7.out.setR x9 k9)
       clear x9 k9 s9))
  exact bodyPost_ret (results_cell_row_tmp rfl _ _ (w.heap.size + 1 + 1) rvT (resvA none 0 0 nobodyR) (0, 0) _ rfl T9.out.r Try.underlying24 rfl (rvA_size _ _ _ _)) rfl (refPost_nobody T9.out.low)
set_option maxRecDepth 100000 in
set_option maxHeartbeats 16000000 in
theorem refbad_tyhigh3 {w : World} {q : Option Addr} {n c : Nat} {r : ResvOf} (hq : RvAt w q n c r) {o : ROp} (hop : o.op = 3) (hg : goodR r = true) (hb0 : ¬ o.who < 0) (hb2 : ¬ o.key < 0) (hb4 : ¬ o.new < 0) (hb3 : ¬ o.ty < 1) (hb1 : 6 < o.ty) :
    Calls Try.prog 11 #[.agg (resvA q n c r), .agg (ropA o)] w (RefPost w nobodyR 2) := by
  have HGD := Lib.hid (fun (W : World) (hb : Below w.heap.size w W) => (by have h := refGood_any (c := c) (RowsAt.below hq.at_ hb) hq.len hq.few; rw [hg] at h; exact h : Calls Try.prog 15 #[.agg (resvA q n c r)] W fun e w' => e = .returned (.bool true) ∧ Below W.heap.size W w'))
  have HP := Lib.hid hop
  clear hop
  clear hq
  go_enter Try.func11, Try.ntmps11
  go_wp2_with (first
    | (with_reducible show wpList _ _ _ (⟨_, Op.box rvT _, _, _, _, none⟩ :: _) _ _
       refine wpList_boxA_of rfl _ rfl (resvA q n c r) rfl ?_
       intro w1 x1 l1 s1
       have X1 := Lib.hid x1
       have L1 := Lib.hid l1
       have S1 := Lib.hid s1
       clear x1 l1 s1)
    | (with_reducible show wpList _ _ _ (⟨_, Op.box roT _, _, _, _, none⟩ :: _) _ _
       refine wpList_boxA_of rfl _ rfl (ropA o) rfl ?_
       intro w2 x2 l2 s2
       rw [S1.out] at x2 s2
       rw [S1.out]
       have X2 := Lib.hid x2
       have L2 := Lib.hid l2
       have S2 := Lib.hid s2
       clear x2 l2 s2)
    | (with_reducible show wpList _ _ _ (⟨_, Op.alloc rvT, _, _, _, _⟩ :: _) _ _
       refine wpList_boxA_new rowRv rfl rfl (w.heap.size + 1 + 1) S2.out ?_
       intro w3 x3 l3 s3
       have T3 := Lib.hid (new3 X1.out L1.out S1.out X2.out L2.out S2.out x3 l3)
       obtain ⟨c0, c1, c2, c3, c4⟩ := T3.out.c
       obtain ⟨d0, d1, d2, d3, d4, d5⟩ := T3.out.d
       rw [HP.out] at d0
       clear x3 l3 s3 X1 L1 S1 X2 L2 S2)
    | (with_reducible show wpList _ _ _ (⟨_, Op.load rvT (.tmp 2), _, _, _, none⟩ :: _) _ _
       refine wpList_boxA_load rowRv rfl _ rfl w.heap.size (resvA q n c r) rfl rfl T3.out.s ?_)
    | (go_at_call 15
       refine (HGD.out _ T3.out.low).mono ?_; rintro e w4 ⟨rfl, hb⟩
       have T4 := Lib.hid (T3.out.mono hb)
       skip
       clear hb T3 c0 c1 c2 c3 c4 d0 d1 d2 d3 d4 d5
       obtain ⟨c0, c1, c2, c3, c4⟩ := T4.out.c
       obtain ⟨d0, d1, d2, d3, d4, d5⟩ := T4.out.d
       rw [HP.out] at d0)
    | (go_at_call 26
       refine (refNobody_any _).mono ?_; rintro e w7 ⟨rfl, hb7⟩
       have T7 := Lib.hid (T4.out.mono hb7)
       clear hb7 T4)
    | (with_reducible show wpList _ _ _ (⟨_, Op.store rvT (.tmp 4) _, _, _, _, none⟩ :: _) _ _
       refine wpList_boxA_put rowRv rfl _ _ rfl rfl (w.heap.size + 1 + 1) (resvA none 0 0 nobodyR) _ rfl (rvA_one _ _ _ _) rfl rfl rfl T7.out.r ?_
       intro w9 x9 k9 s9
       have T9 := Lib.hid (T7.out.setR x9 k9)
       clear x9 k9 s9))
  exact bodyPost_ret (results_cell_row_tmp rfl _ _ (w.heap.size + 1 + 1) rvT (resvA none 0 0 nobodyR) (0, 0) _ rfl T9.out.r Try.underlying24 rfl (rvA_size _ _ _ _)) rfl (refPost_nobody T9.out.low)
set_option maxRecDepth 100000 in
set_option maxHeartbeats 16000000 in
theorem refbad_tylow5 {w : World} {q : Option Addr} {n c : Nat} {r : ResvOf} (hq : RvAt w q n c r) {o : ROp} (hop : o.op = 5) (hg : goodR r = true) (hb0 : ¬ o.who < 0) (hb2 : ¬ o.key < 0) (hb4 : ¬ o.new < 0) (hb1 : o.ty < 1) :
    Calls Try.prog 11 #[.agg (resvA q n c r), .agg (ropA o)] w (RefPost w nobodyR 2) := by
  have HGD := Lib.hid (fun (W : World) (hb : Below w.heap.size w W) => (by have h := refGood_any (c := c) (RowsAt.below hq.at_ hb) hq.len hq.few; rw [hg] at h; exact h : Calls Try.prog 15 #[.agg (resvA q n c r)] W fun e w' => e = .returned (.bool true) ∧ Below W.heap.size W w'))
  have HP := Lib.hid hop
  clear hop
  clear hq
  go_enter Try.func11, Try.ntmps11
  go_wp2_with (first
    | (with_reducible show wpList _ _ _ (⟨_, Op.box rvT _, _, _, _, none⟩ :: _) _ _
       refine wpList_boxA_of rfl _ rfl (resvA q n c r) rfl ?_
       intro w1 x1 l1 s1
       have X1 := Lib.hid x1
       have L1 := Lib.hid l1
       have S1 := Lib.hid s1
       clear x1 l1 s1)
    | (with_reducible show wpList _ _ _ (⟨_, Op.box roT _, _, _, _, none⟩ :: _) _ _
       refine wpList_boxA_of rfl _ rfl (ropA o) rfl ?_
       intro w2 x2 l2 s2
       rw [S1.out] at x2 s2
       rw [S1.out]
       have X2 := Lib.hid x2
       have L2 := Lib.hid l2
       have S2 := Lib.hid s2
       clear x2 l2 s2)
    | (with_reducible show wpList _ _ _ (⟨_, Op.alloc rvT, _, _, _, _⟩ :: _) _ _
       refine wpList_boxA_new rowRv rfl rfl (w.heap.size + 1 + 1) S2.out ?_
       intro w3 x3 l3 s3
       have T3 := Lib.hid (new3 X1.out L1.out S1.out X2.out L2.out S2.out x3 l3)
       obtain ⟨c0, c1, c2, c3, c4⟩ := T3.out.c
       obtain ⟨d0, d1, d2, d3, d4, d5⟩ := T3.out.d
       rw [HP.out] at d0
       clear x3 l3 s3 X1 L1 S1 X2 L2 S2)
    | (with_reducible show wpList _ _ _ (⟨_, Op.load rvT (.tmp 2), _, _, _, none⟩ :: _) _ _
       refine wpList_boxA_load rowRv rfl _ rfl w.heap.size (resvA q n c r) rfl rfl T3.out.s ?_)
    | (go_at_call 15
       refine (HGD.out _ T3.out.low).mono ?_; rintro e w4 ⟨rfl, hb⟩
       have T4 := Lib.hid (T3.out.mono hb)
       skip
       clear hb T3 c0 c1 c2 c3 c4 d0 d1 d2 d3 d4 d5
       obtain ⟨c0, c1, c2, c3, c4⟩ := T4.out.c
       obtain ⟨d0, d1, d2, d3, d4, d5⟩ := T4.out.d
       rw [HP.out] at d0)
    | (go_at_call 26
       refine (refNobody_any _).mono ?_; rintro e w7 ⟨rfl, hb7⟩
       have T7 := Lib.hid (T4.out.mono hb7)
       clear hb7 T4)
    | (with_reducible show wpList _ _ _ (⟨_, Op.store rvT (.tmp 4) _, _, _, _, none⟩ :: _) _ _
       refine wpList_boxA_put rowRv rfl _ _ rfl rfl (w.heap.size + 1 + 1) (resvA none 0 0 nobodyR) _ rfl (rvA_one _ _ _ _) rfl rfl rfl T7.out.r ?_
       intro w9 x9 k9 s9
       have T9 := Lib.hid (T7.out.setR x9 k9)
       clear x9 k9 s9))
  exact bodyPost_ret (results_cell_row_tmp rfl _ _ (w.heap.size + 1 + 1) rvT (resvA none 0 0 nobodyR) (0, 0) _ rfl T9.out.r Try.underlying24 rfl (rvA_size _ _ _ _)) rfl (refPost_nobody T9.out.low)
set_option maxRecDepth 100000 in
set_option maxHeartbeats 16000000 in
theorem refbad_tyhigh5 {w : World} {q : Option Addr} {n c : Nat} {r : ResvOf} (hq : RvAt w q n c r) {o : ROp} (hop : o.op = 5) (hg : goodR r = true) (hb0 : ¬ o.who < 0) (hb2 : ¬ o.key < 0) (hb4 : ¬ o.new < 0) (hb3 : ¬ o.ty < 1) (hb1 : 6 < o.ty) :
    Calls Try.prog 11 #[.agg (resvA q n c r), .agg (ropA o)] w (RefPost w nobodyR 2) := by
  have HGD := Lib.hid (fun (W : World) (hb : Below w.heap.size w W) => (by have h := refGood_any (c := c) (RowsAt.below hq.at_ hb) hq.len hq.few; rw [hg] at h; exact h : Calls Try.prog 15 #[.agg (resvA q n c r)] W fun e w' => e = .returned (.bool true) ∧ Below W.heap.size W w'))
  have HP := Lib.hid hop
  clear hop
  clear hq
  go_enter Try.func11, Try.ntmps11
  go_wp2_with (first
    | (with_reducible show wpList _ _ _ (⟨_, Op.box rvT _, _, _, _, none⟩ :: _) _ _
       refine wpList_boxA_of rfl _ rfl (resvA q n c r) rfl ?_
       intro w1 x1 l1 s1
       have X1 := Lib.hid x1
       have L1 := Lib.hid l1
       have S1 := Lib.hid s1
       clear x1 l1 s1)
    | (with_reducible show wpList _ _ _ (⟨_, Op.box roT _, _, _, _, none⟩ :: _) _ _
       refine wpList_boxA_of rfl _ rfl (ropA o) rfl ?_
       intro w2 x2 l2 s2
       rw [S1.out] at x2 s2
       rw [S1.out]
       have X2 := Lib.hid x2
       have L2 := Lib.hid l2
       have S2 := Lib.hid s2
       clear x2 l2 s2)
    | (with_reducible show wpList _ _ _ (⟨_, Op.alloc rvT, _, _, _, _⟩ :: _) _ _
       refine wpList_boxA_new rowRv rfl rfl (w.heap.size + 1 + 1) S2.out ?_
       intro w3 x3 l3 s3
       have T3 := Lib.hid (new3 X1.out L1.out S1.out X2.out L2.out S2.out x3 l3)
       obtain ⟨c0, c1, c2, c3, c4⟩ := T3.out.c
       obtain ⟨d0, d1, d2, d3, d4, d5⟩ := T3.out.d
       rw [HP.out] at d0
       clear x3 l3 s3 X1 L1 S1 X2 L2 S2)
    | (with_reducible show wpList _ _ _ (⟨_, Op.load rvT (.tmp 2), _, _, _, none⟩ :: _) _ _
       refine wpList_boxA_load rowRv rfl _ rfl w.heap.size (resvA q n c r) rfl rfl T3.out.s ?_)
    | (go_at_call 15
       refine (HGD.out _ T3.out.low).mono ?_; rintro e w4 ⟨rfl, hb⟩
       have T4 := Lib.hid (T3.out.mono hb)
       skip
       clear hb T3 c0 c1 c2 c3 c4 d0 d1 d2 d3 d4 d5
       obtain ⟨c0, c1, c2, c3, c4⟩ := T4.out.c
       obtain ⟨d0, d1, d2, d3, d4, d5⟩ := T4.out.d
       rw [HP.out] at d0)
    | (go_at_call 26
       refine (refNobody_any _).mono ?_; rintro e w7 ⟨rfl, hb7⟩
       have T7 := Lib.hid (T4.out.mono hb7)
       clear hb7 T4)
    | (with_reducible show wpList _ _ _ (⟨_, Op.store rvT (.tmp 4) _, _, _, _, none⟩ :: _) _ _
       refine wpList_boxA_put rowRv rfl _ _ rfl rfl (w.heap.size + 1 + 1) (resvA none 0 0 nobodyR) _ rfl (rvA_one _ _ _ _) rfl rfl rfl T7.out.r ?_
       intro w9 x9 k9 s9
       have T9 := Lib.hid (T7.out.setR x9 k9)
       clear x9 k9 s9))
  exact bodyPost_ret (results_cell_row_tmp rfl _ _ (w.heap.size + 1 + 1) rvT (resvA none 0 0 nobodyR) (0, 0) _ rfl T9.out.r Try.underlying24 rfl (rvA_size _ _ _ _)) rfl (refPost_nobody T9.out.low)
theorem well_not {o : ROp} (h : wellR o = false) : o.op < 1 ∨ 6 < o.op ∨ o.who < 0 ∨ o.key < 0 ∨ o.new < 0 ∨ ((o.op = 2 ∨ o.op = 3 ∨ o.op = 5) ∧ (o.ty < 1 ∨ 6 < o.ty)) := by
  by_cases hl : o.who < 0 ∨ o.key < 0 ∨ o.new < 0
  · omega
  · by_cases ho : o.op < 1 ∨ 6 < o.op
    · omega
    · obtain hp | hp : (o.op = 1 ∨ o.op = 6 ∨ o.op = 4) ∨ (o.op = 2 ∨ o.op = 3 ∨ o.op = 5) := by omega
      · rw [well_plain (by omega) (by omega) (by omega) hp] at h; cases h
      · rw [well_typed (by omega) (by omega) (by omega) hp] at h
        have : ¬ (1 ≤ o.ty ∧ o.ty ≤ 6) := fun ⟨a, b⟩ => by rw [decide_eq_true a, decide_eq_true b] at h; cases h
        omega
theorem refDo_bad {w : World} {q : Option Addr} {n c : Nat} {r : ResvOf} (hq : RvAt w q n c r) {o : ROp} (h : goodR r = false ∨ wellR o = false) :
    Calls Try.prog 11 #[.agg (resvA q n c r), .agg (ropA o)] w (RefPost w nobodyR 2) := by
  have four : o.op = 2 ∨ o.op = 3 ∨ o.op = 5 ∨ (o.op ≠ 2 ∧ o.op ≠ 3 ∧ o.op ≠ 5) := by omega
  cases hg : goodR r with
  | false =>
    rcases four with h2 | h2 | h2 | ⟨h2, h3, h5⟩
    · exact refbad_good2 hq h2 hg
    · exact refbad_good3 hq h2 hg
    · exact refbad_good5 hq h2 hg
    · exact refbad_good0 hq h2 h3 h5 hg
  | true =>
    have hw : wellR o = false := by rcases h with h | h; rw [hg] at h; cases h; exact h
    have hn := well_not hw
    by_cases hl : o.op < 1
    · exact refbad_less hq hl hg
    by_cases hm : 6 < o.op
    · exact refbad_more hq hl hm hg
    by_cases h1 : o.who < 0
    · rcases four with h2 | h2 | h2 | ⟨h2, h3, h5⟩
      · exact refbad_who2 hq h2 hg h1
      · exact refbad_who3 hq h2 hg h1
      · exact refbad_who5 hq h2 hg h1
      · exact refbad_who0 hq h2 h3 h5 hg hl hm h1
    by_cases h6 : o.key < 0
    · rcases four with h2 | h2 | h2 | ⟨h2, h3, h5⟩
      · exact refbad_key2 hq h2 hg h1 h6
      · exact refbad_key3 hq h2 hg h1 h6
      · exact refbad_key5 hq h2 hg h1 h6
      · exact refbad_key0 hq h2 h3 h5 hg hl hm h1 h6
    by_cases h7 : o.new < 0
    · rcases four with h2 | h2 | h2 | ⟨h2, h3, h5⟩
      · exact refbad_new2 hq h2 hg h1 h6 h7
      · exact refbad_new3 hq h2 hg h1 h6 h7
      · exact refbad_new5 hq h2 hg h1 h6 h7
      · exact refbad_new0 hq h2 h3 h5 hg hl hm h1 h6 h7
    obtain ⟨h8, h9⟩ : (o.op = 2 ∨ o.op = 3 ∨ o.op = 5) ∧ (o.ty < 1 ∨ 6 < o.ty) := by omega
    by_cases h10 : o.ty < 1
    · rcases h8 with h2 | h2 | h2
      · exact refbad_tylow2 hq h2 hg h1 h6 h7 h10
      · exact refbad_tylow3 hq h2 hg h1 h6 h7 h10
      · exact refbad_tylow5 hq h2 hg h1 h6 h7 h10
    · have h11 : 6 < o.ty := by omega
      rcases h8 with h2 | h2 | h2
      · exact refbad_tyhigh2 hq h2 hg h1 h6 h7 h10 h11
      · exact refbad_tyhigh3 hq h2 hg h1 h6 h7 h10 h11
      · exact refbad_tyhigh5 hq h2 hg h1 h6 h7 h10 h11
end Go.Proofs.Ytfnkdmdcjliebaa
