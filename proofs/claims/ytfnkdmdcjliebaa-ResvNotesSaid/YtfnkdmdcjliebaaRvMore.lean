/- The contracts of the library's Clone over registrations, and of the program's copied, release, preempt. Conditions: the reservations lie in memory; release: in form. -/
import Derived.Test.YtfnkdmdcjliebaaRvEnd
namespace Go.Proofs.Ytfnkdmdcjliebaa
open Go.ChangeShapes Go.WideShapes Go.ChangeAt Go.RowKit
set_option linter.unusedVariables false
set_option linter.unusedSimpArgs false
theorem rv_built0 : Try.prog.built rvT [] = some (resvA none 0 0 zeroR) := by kernel_rfl
theorem nil_regs {w : World} {ks : List (Int × Int)} (h : RegsAt w none ks) : ks = [] := by
  rcases h with h | ⟨B, o, h, -⟩
  · exact h
  · cases h
theorem preempt_is (r : ResvOf) (o : ROp) : preemptP r o = { (if hasR r o.new then { r with h := o.who, t := o.ty } else r) with regs := r.regs.filter fun p => !(goneF o p), g := incR r.g } := rfl
attribute [local irreducible] regC atR keyR inR risesR formR allR holdersR holdsR allowedR goneF hasR
attribute [local go_sem] Oper.semAt_some
set_option maxRecDepth 100000 in
set_option maxHeartbeats 4000000 in
theorem Clone_any {w : World} {q : Option Addr} {n c : Nat} {ks : List (Int × Int)} (hq : RegsAt w q ks) (hn : ks.length = n) (hl : n ≤ 1000) :
    Calls Try.prog 57 #[.slice q n c] w fun e w' => ∃ q' m c', e = .returned (.slice q' m c') ∧ OwnR w w' q' m c' ks ∧ Below w.heap.size w w' := by
  go_enter Try.func57, Try.ntmps57
  cases q with
  | none =>
    obtain rfl := nil_regs hq
    clear hq hn hl
    have e0 : ∀ W, (binOp .eql rgS (.slice none n c) (.slice none 0 0)).run Try.prog W = .ok (.bool true) W := fun _ => rfl
    go_wp2
    go_ret
    exact ⟨_, _, _, rfl, OwnL.nil _ _ _ _ _ _, Below.refl _ _⟩
  | some a =>
    have e0 : ∀ W, (binOp .eql rgS (.slice (some a) n c) (.slice none 0 0)).run Try.prog W = .ok (.bool false) W := fun _ => rfl
    have O1 := Lib.hid (OwnL.empty rgT 2 regC w w.heap.size (Nat.le_refl _))
    have L1 := Lib.hid (box_below w (.cells #[] rgT))
    have Q1 := Lib.hid (RowsAt.below hq L1.out)
    have HN := Lib.hid hn
    have HL := Lib.hid hl
    clear hq hn hl
    go_wp2_with (first
      | (with_reducible show wpList _ _ _ (⟨_, Op.buildSlice _ _ _, _, _, _, none⟩ :: _) _ _
         refine wpList_list0 elemReg rfl rfl ?_
         generalize w.alloc (.cells #[] rgT) = w1 at *)
      | (at_builtin
         refine wpList_regs_grow rfl _ _ rfl w.heap.size (w.heap.size + 1) _ [] ks (some a) n c rfl rfl HN.out.symm O1.out Q1.out (by have := HN.out; have := HL.out; simp; omega) L1.out.size ?_
         intro v2 a2 o2 b2
         have O2 := Lib.hid (show OwnL rgT 2 regC a2 w.heap.size a2.heap.size v2 ks from o2)
         have L2 := Lib.hid (L1.out.trans b2)
         clear o2 b2 O1 Q1))
    obtain ⟨q', c', hv, -, -, -, -⟩ := O2.out.rows elemReg.len
    generalize List.length _ = m at hv
    subst hv
    go_ret
    exact ⟨q', m, c', rfl, O2.out, L2.out⟩
set_option maxRecDepth 100000 in
set_option maxHeartbeats 4000000 in
theorem copied_any {w : World} {q : Option Addr} {n c : Nat} {r : ResvOf} (hq : RegsAt w q r.regs) (hn : r.regs.length = n) (hl : n ≤ 1000) :
    Calls Try.prog 33 #[.agg (resvA q n c r)] w fun e w' => ∃ q' m c', e = .returned (.agg (resvA q' m c' r)) ∧ OwnR w w' q' m c' r.regs ∧ Below w.heap.size w w' := by
  have HC := Lib.hid (fun (W : World) (hb : Below w.heap.size w W) => Clone_any (c := c) (RowsAt.below hq hb) hn hl)
  clear hq hn hl
  go_enter Try.func33, Try.ntmps33
  go_wp2_with (first
    | (with_reducible show wpList _ _ _ (⟨_, Op.box rvT _, _, _, _, none⟩ :: _) _ _
       refine wpList_boxA_of rfl _ rfl (resvA q n c r) rfl ?_
       intro w1 x1 l1 s1
       have X1 := Lib.hid x1
       have L1 := Lib.hid l1
       have S1 := Lib.hid s1
       clear x1 l1 s1)
    | (with_reducible show wpList _ _ _ (⟨_, Op.alloc rvT, _, _, _, _⟩ :: _) _ _
       refine wpList_boxA_new rowRv rfl rfl (w.heap.size + 1) S1.out ?_
       intro w2 x2 l2 s2
       have T2 := Lib.hid (new2 X1.out L1.out S1.out x2 l2)
       obtain ⟨c0, c1, c2, c3, c4⟩ := T2.out.c0
       clear x2 l2 s2 X1 L1 S1)
    | (go_at_call 57
       refine (HC.out _ T2.out.low).mono ?_; rintro e w3 ⟨q', m, c', rfl, ho, hb3⟩
       have T3 := Lib.hid (T2.out.mono hb3)
       have O3 := Lib.hid (OwnL.lower ho T2.out.r.lt)
       clear ho hb3 T2 c0 c1 c2 c3 c4 HC)
    | (with_reducible show wpList _ _ _ (⟨_, Op.store rgS _ _, _, _, _, none⟩ :: _) _ _
       refine wpList_boxA_slice rfl _ _ rfl rfl w.heap.size 0 q' m c' rfl rfl T3.out.s (by simp [resvA]) ?_
       intro w4 x k s
       rw [set0] at x
       have T4 := Lib.hid (T3.out.setS x k)
       have O4 := Lib.hid ((OwnL.same O3.out (w' := w4) (fun B hB hB2 => k.block B hB2 (by omega))).raise (show _ ≤ w4.heap.size by omega))
       clear x k s T3 O3)
    | (with_reducible show wpList _ _ _ (⟨_, Op.load rvT _, _, _, _, none⟩ :: _) _ _
       refine wpList_boxA_load rowRv rfl _ rfl w.heap.size (resvA q' m c' r) rfl rfl T4.out.s ?_)
    | (with_reducible show wpList _ _ _ (⟨_, Op.store rvT _ _, _, _, _, none⟩ :: _) _ _
       refine wpList_boxA_put rowRv rfl _ _ rfl rfl (w.heap.size + 1) (resvA q' m c' r) _ rfl (rvA_one _ _ _ _) rfl rfl rfl T4.out.r ?_
       intro w9 x9 k9 s9
       have T9 := Lib.hid (T4.out.setR x9 k9)
       have O9 := Lib.hid ((OwnL.same O4.out (w' := w9) (fun B hB hB2 => k9.block B hB2 (by omega))).raise (show _ ≤ w9.heap.size by omega))
       clear x9 k9 s9))
  exact bodyPost_ret (results_cell_row rfl _ _ (w.heap.size + 1) rvT (resvA q' m c' r) (0, 0) _ rfl T9.out.r Try.underlying24 rfl (rvA_size _ _ _ _)) rfl ⟨q', m, c', rfl, OwnL.lower O9.out (by omega), T9.out.low⟩
set_option maxRecDepth 100000 in
set_option maxHeartbeats 8000000 in
theorem release_any {w : World} {q : Option Addr} {n c : Nat} {r : ResvOf} (hq : RvAt w q n c r) (hg : GoodR r) (o : ROp) :
    Calls Try.prog 54 #[.agg (resvA q n c r), .agg (ropA o)] w fun e w' => e = .returned (.tuple #[.agg (if (releaseP r o).2 = 0 then resvA q n c (releaseP r o).1 else resvA none 0 0 zeroR), errN (releaseP r o).2]) ∧ Below w.heap.size w w' := by
  have HH := Lib.hid (fun (W : World) (hb : Below w.heap.size w W) => held_any (RvAt.below hq hb) hg o.who)
  have HV := Lib.hid (show releaseP r o = if !(holdsR r o.who) then (r, 0) else if !(o.ty == r.t) then (zeroR, 2) else (freeR r, 0) from rfl)
  clear hq hg
  have hv : ∃ v z, releaseP r o = (v, z) := ⟨_, _, rfl⟩
  obtain ⟨v, z, hv⟩ := hv
  rw [hv] at HV
  rw [hv]
  show Calls _ _ _ _ fun e w' => e = .returned (.tuple #[.agg (if z = 0 then resvA q n c v else resvA none 0 0 zeroR), errN z]) ∧ Below w.heap.size w w'
  have hy : ∃ y, (if z = 0 then resvA q n c v else resvA none 0 0 zeroR) = y := ⟨_, rfl⟩
  obtain ⟨y, hy⟩ := hy
  rw [hy]
  have HY := Lib.hid hy
  clear hy hv
  have n1 : ((1 : Int) == -1) = false := rfl
  generalize holdsR r o.who = b at *
  generalize hsome : (!(r.h == -1)) = a1 at *
  go_enter Try.func54, Try.ntmps54
  cases b with
  | false =>
    have HE := Lib.hid (show v = r ∧ z = 0 by have h := HV.out; simpa using h)
    have HZ := Lib.hid (show y = resvA q n c r by rw [← HY.out, if_pos HE.out.2, HE.out.1])
    clear HV HY
    go_wp2_with (first
    | (with_reducible show wpList _ _ _ (⟨_, Op.box rvT _, _, _, _, none⟩ :: _) _ _
       refine wpList_boxA_of rfl _ rfl (resvA q n c r) rfl ?_
       intro w1 x1 l1 s1
       have X1 := Lib.hid x1
       have L1 := Lib.hid l1
       have S1 := Lib.hid s1
       clear x1 l1 s1)
    | (with_reducible show wpList _ _ _ (⟨_, Op.box roT _, _, _, _, none⟩ :: _) _ _
       refine wpList_boxA_of rfl _ rfl (ropA o) rfl ?_
       intro w2 x2 l2 s2
       rw [S1.out] at x2 s2
       rw [S1.out]
       have X2 := Lib.hid x2
       have L2 := Lib.hid l2
       have S2 := Lib.hid s2
       clear x2 l2 s2)
    | (with_reducible show wpList _ _ _ (⟨_, Op.alloc rvT, _, _, _, _⟩ :: _) _ _
       refine wpList_boxA_new rowRv rfl rfl (w.heap.size + 1 + 1) S2.out ?_
       intro w3 x3 l3 s3
       have T3 := Lib.hid (new3 X1.out L1.out S1.out X2.out L2.out S2.out x3 l3)
       obtain ⟨c0, c1, c2, c3, c4⟩ := T3.out.c
       obtain ⟨d0, d1, d2, d3, d4, d5⟩ := T3.out.d
       clear x3 l3 s3 X1 L1 S1 X2 L2 S2)
    | (with_reducible show wpList _ _ _ (⟨_, Op.load rvT _, _, _, _, none⟩ :: _) _ _
       refine wpList_boxA_load rowRv rfl _ rfl w.heap.size (resvA q n c r) rfl rfl T3.out.s ?_)
    | (go_at_call 40
       refine (HH.out _ T3.out.low).mono ?_; rintro e w4 ⟨rfl, hb4⟩
       have T4 := Lib.hid (T3.out.mono hb4)
       clear hb4 T3 c0 c1 c2 c3 c4 d0 d1 d2 d3 d4 d5 HH
       obtain ⟨c0, c1, c2, c3, c4⟩ := T4.out.c
       obtain ⟨d0, d1, d2, d3, d4, d5⟩ := T4.out.d)
    | (with_reducible show wpList _ _ _ (⟨_, Op.load rvT _, _, _, _, none⟩ :: _) _ _
       refine wpList_boxA_load rowRv rfl _ rfl w.heap.size (resvA q n c r) rfl rfl T4.out.s ?_)
    | (with_reducible show wpList _ _ _ (⟨_, Op.store rvT _ _, _, _, _, none⟩ :: _) _ _
       refine wpList_boxA_put rowRv rfl _ _ rfl rfl (w.heap.size + 1 + 1) (resvA q n c r) _ rfl (rvA_one _ _ _ _) rfl rfl rfl T4.out.r ?_
       intro w9 x9 k9 s9
       have T9 := Lib.hid (T4.out.setR x9 k9)
       clear x9 k9 s9))
    exact bodyPost_ret (results_cell_row_tmp rfl _ _ (w.heap.size + 1 + 1) rvT (resvA q n c r) (0, 0) _ rfl T9.out.r Try.underlying24 rfl (rvA_size _ _ _ _)) rfl ⟨by rw [HZ.out, HE.out.2]; rfl, T9.out.low⟩
  | true =>
    by_cases h2 : o.ty = r.t
    · have e1 : (o.ty == r.t) = true := by simpa using h2
      have e2 : (o.ty != r.t) = false := by simpa using h2
      have HE := Lib.hid (show v = freeR r ∧ z = 0 by have h := HV.out; rw [e1] at h; simpa using h)
      have HZ := Lib.hid (show y = resvA q n c (freeR r) by rw [← HY.out, if_pos HE.out.2, HE.out.1])
      clear HV HY
      go_wp2_with (first
    | (with_reducible show wpList _ _ _ (⟨_, Op.box rvT _, _, _, _, none⟩ :: _) _ _
       refine wpList_boxA_of rfl _ rfl (resvA q n c r) rfl ?_
       intro w1 x1 l1 s1
       have X1 := Lib.hid x1
       have L1 := Lib.hid l1
       have S1 := Lib.hid s1
       clear x1 l1 s1)
    | (with_reducible show wpList _ _ _ (⟨_, Op.box roT _, _, _, _, none⟩ :: _) _ _
       refine wpList_boxA_of rfl _ rfl (ropA o) rfl ?_
       intro w2 x2 l2 s2
       rw [S1.out] at x2 s2
       rw [S1.out]
       have X2 := Lib.hid x2
       have L2 := Lib.hid l2
       have S2 := Lib.hid s2
       clear x2 l2 s2)
    | (with_reducible show wpList _ _ _ (⟨_, Op.alloc rvT, _, _, _, _⟩ :: _) _ _
       refine wpList_boxA_new rowRv rfl rfl (w.heap.size + 1 + 1) S2.out ?_
       intro w3 x3 l3 s3
       have T3 := Lib.hid (new3 X1.out L1.out S1.out X2.out L2.out S2.out x3 l3)
       obtain ⟨c0, c1, c2, c3, c4⟩ := T3.out.c
       obtain ⟨d0, d1, d2, d3, d4, d5⟩ := T3.out.d
       clear x3 l3 s3 X1 L1 S1 X2 L2 S2)
    | (with_reducible show wpList _ _ _ (⟨_, Op.load rvT _, _, _, _, none⟩ :: _) _ _
       refine wpList_boxA_load rowRv rfl _ rfl w.heap.size (resvA q n c r) rfl rfl T3.out.s ?_)
    | (go_at_call 40
       refine (HH.out _ T3.out.low).mono ?_; rintro e w4 ⟨rfl, hb4⟩
       have T4 := Lib.hid (T3.out.mono hb4)
       clear hb4 T3 c0 c1 c2 c3 c4 d0 d1 d2 d3 d4 d5 HH
       obtain ⟨c0, c1, c2, c3, c4⟩ := T4.out.c
       obtain ⟨d0, d1, d2, d3, d4, d5⟩ := T4.out.d)
    | (with_reducible show wpList _ _ _ (⟨_, Op.load rvT _, _, _, _, none⟩ :: _) _ _
       refine wpList_boxA_load rowRv rfl _ rfl w.heap.size (resvA q n c r) rfl rfl T4.out.s ?_)
    | (go_at_call 74
       refine (free_any _ q n c r).mono ?_; rintro e w5 ⟨rfl, hb5⟩
       have T5 := Lib.hid (T4.out.mono hb5)
       clear hb5 T4 c0 c1 c2 c3 c4 d0 d1 d2 d3 d4 d5)
    | (with_reducible show wpList _ _ _ (⟨_, Op.store rvT _ _, _, _, _, none⟩ :: _) _ _
       refine wpList_boxA_put rowRv rfl _ _ rfl rfl (w.heap.size + 1 + 1) (resvA q n c (freeR r)) _ rfl (rvA_one _ _ _ _) rfl rfl rfl T5.out.r ?_
       intro w9 x9 k9 s9
       have T9 := Lib.hid (T5.out.setR x9 k9)
       clear x9 k9 s9))
      exact bodyPost_ret (results_cell_row_tmp rfl _ _ (w.heap.size + 1 + 1) rvT (resvA q n c (freeR r)) (0, 0) _ rfl T9.out.r Try.underlying24 rfl (rvA_size _ _ _ _)) rfl ⟨by rw [HZ.out, HE.out.2]; rfl, T9.out.low⟩
    · have e1 : (o.ty == r.t) = false := by simpa using h2
      have e2 : (o.ty != r.t) = true := by simpa using h2
      have HE := Lib.hid (show v = zeroR ∧ z = 2 by have h := HV.out; rw [e1] at h; simpa using h)
      have HZ := Lib.hid (show y = resvA none 0 0 zeroR by rw [← HY.out, HE.out.2]; rfl)
      clear HV HY
      go_wp2_with (first
    | (with_reducible show wpList _ _ _ (⟨_, Op.box rvT _, _, _, _, none⟩ :: _) _ _
       refine wpList_boxA_of rfl _ rfl (resvA q n c r) rfl ?_
       intro w1 x1 l1 s1
       have X1 := Lib.hid x1
       have L1 := Lib.hid l1
       have S1 := Lib.hid s1
       clear x1 l1 s1)
    | (with_reducible show wpList _ _ _ (⟨_, Op.box roT _, _, _, _, none⟩ :: _) _ _
       refine wpList_boxA_of rfl _ rfl (ropA o) rfl ?_
       intro w2 x2 l2 s2
       rw [S1.out] at x2 s2
       rw [S1.out]
       have X2 := Lib.hid x2
       have L2 := Lib.hid l2
       have S2 := Lib.hid s2
       clear x2 l2 s2)
    | (with_reducible show wpList _ _ _ (⟨_, Op.alloc rvT, _, _, _, _⟩ :: _) _ _
       refine wpList_boxA_new rowRv rfl rfl (w.heap.size + 1 + 1) S2.out ?_
       intro w3 x3 l3 s3
       have T3 := Lib.hid (new3 X1.out L1.out S1.out X2.out L2.out S2.out x3 l3)
       obtain ⟨c0, c1, c2, c3, c4⟩ := T3.out.c
       obtain ⟨d0, d1, d2, d3, d4, d5⟩ := T3.out.d
       clear x3 l3 s3 X1 L1 S1 X2 L2 S2)
    | (with_reducible show wpList _ _ _ (⟨_, Op.load rvT _, _, _, _, none⟩ :: _) _ _
       refine wpList_boxA_load rowRv rfl _ rfl w.heap.size (resvA q n c r) rfl rfl T3.out.s ?_)
    | (go_at_call 40
       refine (HH.out _ T3.out.low).mono ?_; rintro e w4 ⟨rfl, hb4⟩
       have T4 := Lib.hid (T3.out.mono hb4)
       clear hb4 T3 c0 c1 c2 c3 c4 d0 d1 d2 d3 d4 d5 HH
       obtain ⟨c0, c1, c2, c3, c4⟩ := T4.out.c
       obtain ⟨d0, d1, d2, d3, d4, d5⟩ := T4.out.d)
    | (with_reducible show wpList _ _ _ (⟨_, Op.build _ _, _, _, _, none⟩ :: _) _ _
       refine wpList_build_any rfl rvT #[] #[] _ rfl rfl (fun w => run_build w rvT #[] _ rv_built0) ?_)
    | (with_reducible show wpList _ _ _ (⟨_, Op.store rvT _ _, _, _, _, none⟩ :: _) _ _
       refine wpList_boxA_put rowRv rfl _ _ rfl rfl (w.heap.size + 1 + 1) (resvA none 0 0 zeroR) _ rfl (rvA_one _ _ _ _) rfl rfl rfl T4.out.r ?_
       intro w9 x9 k9 s9
       have T9 := Lib.hid (T4.out.setR x9 k9)
       clear x9 k9 s9))
      exact bodyPost_ret (results_cell_row_tmp rfl _ _ (w.heap.size + 1 + 1) rvT (resvA none 0 0 zeroR) (0, 0) _ rfl T9.out.r Try.underlying24 rfl (rvA_size _ _ _ _)) rfl ⟨by rw [HZ.out, HE.out.2]; rfl, T9.out.low⟩
set_option maxRecDepth 100000 in
set_option maxHeartbeats 8000000 in
theorem preempt_any {w : World} {q : Option Addr} {n c : Nat} {r : ResvOf} (hq : RvAt w q n c r) (o : ROp) :
    Calls Try.prog 55 #[.agg (resvA q n c r), .agg (ropA o)] w fun e w' => ∃ q' m c', e = .returned (.agg (resvA q' m c' (preemptP r o))) ∧ OwnR w w' q' m c' (preemptP r o).regs ∧ Below w.heap.size w w' := by
  have HH := Lib.hid (fun (W : World) (hb : Below w.heap.size w W) => holderHas_any (RvAt.below hq hb) o.new)
  have HL := Lib.hid (fun (W : World) (hb : Below w.heap.size w W) => left_any (c := c) (RowsAt.below hq.at_ hb) hq.len hq.few o)
  have HV := Lib.hid (preempt_is r o)
  have HI := Lib.hid (inc64 r.g)
  clear hq
  generalize preemptP r o = v at *
  generalize hasR r o.new = b at *
  go_enter Try.func55, Try.ntmps55
  cases b with
  | true =>
    have HE := Lib.hid (show v = { r with h := o.who, t := o.ty, regs := r.regs.filter fun p => !(goneF o p), g := incR r.g } by rw [HV.out]; rfl)
    clear HV
    go_wp2_with (first
    | (with_reducible show wpList _ _ _ (⟨_, Op.box rvT _, _, _, _, none⟩ :: _) _ _
       refine wpList_boxA_of rfl _ rfl (resvA q n c r) rfl ?_
       intro w1 x1 l1 s1
       have X1 := Lib.hid x1
       have L1 := Lib.hid l1
       have S1 := Lib.hid s1
       clear x1 l1 s1)
    | (with_reducible show wpList _ _ _ (⟨_, Op.box roT _, _, _, _, none⟩ :: _) _ _
       refine wpList_boxA_of rfl _ rfl (ropA o) rfl ?_
       intro w2 x2 l2 s2
       rw [S1.out] at x2 s2
       rw [S1.out]
       have X2 := Lib.hid x2
       have L2 := Lib.hid l2
       have S2 := Lib.hid s2
       clear x2 l2 s2)
    | (with_reducible show wpList _ _ _ (⟨_, Op.alloc rvT, _, _, _, _⟩ :: _) _ _
       refine wpList_boxA_new rowRv rfl rfl (w.heap.size + 1 + 1) S2.out ?_
       intro w3 x3 l3 s3
       have T3 := Lib.hid (new3 X1.out L1.out S1.out X2.out L2.out S2.out x3 l3)
       obtain ⟨c0, c1, c2, c3, c4⟩ := T3.out.c
       obtain ⟨d0, d1, d2, d3, d4, d5⟩ := T3.out.d
       clear x3 l3 s3 X1 L1 S1 X2 L2 S2)
    | (with_reducible show wpList _ _ _ (⟨_, Op.load rvT _, _, _, _, none⟩ :: _) _ _
       refine wpList_boxA_load rowRv rfl _ rfl w.heap.size (resvA q n c r) rfl rfl T3.out.s ?_)
    | (go_at_call 51
       refine (HH.out _ T3.out.low).mono ?_; rintro e w4 ⟨rfl, hb4⟩
       have T4 := Lib.hid (T3.out.mono hb4)
       clear hb4 T3 c0 c1 c2 c3 c4 d0 d1 d2 d3 d4 d5 HH))
    refine wp_region_sched [(0, true), (1, true), (2, true), (3, true), (4, true), (5, false), (6, true), (7, false)] (fun V => BoxA V (w.heap.size + 1) roT (ropA o)) (by kernel_rfl) (by kernel_rfl) (show BoxA _ _ roT (ropA o) from T4.out.p) ?_
    refine walk_float rfl rfl (fun K hK => ?_)
    refine gives_rofield _ 1 rfl (by decide) (w.heap.size + 1) rfl ?_
    go_simp
    refine hK _ ?_
    clear hK K
    refine walk_float rfl rfl (fun K hK => ?_)
    refine gives_cell 3 _ rfl ⟨w.heap.size + 1, 1, none⟩ (.int .i64 o.who) rfl box_int (fun V hV => (boxRo hV).2.1) ?_
    go_simp
    refine hK _ ?_
    clear hK K
    refine walk_float rfl rfl (fun K hK => ?_)
    refine gives_rofield _ 4 rfl (by decide) (w.heap.size + 1) rfl ?_
    go_simp
    refine hK _ ?_
    clear hK K
    refine walk_float rfl rfl (fun K hK => ?_)
    refine gives_cell 3 _ rfl ⟨w.heap.size + 1, 4, none⟩ (.int .i64 o.ty) rfl box_int (fun V hV => (boxRo hV).2.2.2.2.1) ?_
    go_simp
    refine hK _ ?_
    clear hK K
    refine walk_float rfl rfl (fun K hK => ?_)
    refine gives_rvfield _ 1 rfl (by decide) w.heap.size rfl ?_
    go_simp
    refine hK _ ?_
    clear hK K
    have TD := Lib.hid T4.out.drew
    refine walk_done rfl rfl (fun K hK => ?_)
    refine done_boxA_int _ _ rfl w.heap.size 1 o.who rfl rfl TD.out.s (by simp [resvA]) ?_
    intro y1 xx kk ss
    rw [set1] at xx
    have TE := Lib.hid (TD.out.setS xx kk)
    clear xx kk ss
    refine ⟨TE.out.p, ?_⟩
    go_simp
    refine hK _ _ ?_
    clear hK K
    refine walk_float rfl rfl (fun K hK => ?_)
    refine gives_rvfield _ 2 rfl (by decide) w.heap.size rfl ?_
    go_simp
    refine hK _ ?_
    clear hK K
    refine walk_done rfl rfl (fun K hK => ?_)
    refine done_boxA_int _ _ rfl w.heap.size 2 o.ty rfl rfl TE.out.s (by simp [resvA]) ?_
    intro y2 xx kk ss
    rw [set2] at xx
    have T5 := Lib.hid (TE.out.setS xx kk)
    clear xx kk ss
    refine ⟨T5.out.p, ?_⟩
    go_simp
    refine hK _ _ ?_
    clear hK K TD TE
    refine walk_nil ?_
    obtain ⟨c0, c1, c2, c3, c4⟩ := T5.out.c
    go_wp2_with (first
    | (with_reducible show wpList _ _ _ (⟨_, Op.load roT _, _, _, _, none⟩ :: _) _ _
       refine wpList_boxA_load rowOp rfl _ rfl (w.heap.size + 1) (ropA o) rfl rfl T5.out.p ?_)
    | (go_at_call 50
       refine (HL.out _ T5.out.low).mono ?_; rintro e w6 ⟨q', m, c', rfl, ho, hb6⟩
       have T6 := Lib.hid (T5.out.mono hb6)
       have O6 := Lib.hid (OwnL.lower ho T5.out.r.lt)
       clear ho hb6 T5 c0 c1 c2 c3 c4 HL)
    | (with_reducible show wpList _ _ _ (⟨_, Op.store rgS _ _, _, _, _, none⟩ :: _) _ _
       refine wpList_boxA_slice rfl _ _ rfl rfl w.heap.size 0 q' m c' rfl rfl T6.out.s (by simp [resvA]) ?_
       intro w7 x k s
       rw [set0] at x
       have T7 := Lib.hid (T6.out.setS x k)
       have O7 := Lib.hid ((OwnL.same O6.out (w' := w7) (fun B hB hB2 => k.block B hB2 (by omega))).raise (show _ ≤ w7.heap.size by omega))
       clear x k s T6 O6
       obtain ⟨c0, c1, c2, c3, c4⟩ := T7.out.c)
    | (with_reducible show wpList _ _ _ (⟨_, Op.store 3 _ _, _, _, _, none⟩ :: _) _ _
       refine wpList_boxA_int rfl _ _ rfl rfl w.heap.size 4 _ rfl rfl T7.out.s (by simp [resvA]) ?_
       intro w8 x k s
       rw [set4, HI.out] at x
       have T8 := Lib.hid (T7.out.setS x k)
       have O8 := Lib.hid ((OwnL.same O7.out (w' := w8) (fun B hB hB2 => k.block B hB2 (by omega))).raise (show _ ≤ w8.heap.size by omega))
       clear x k s T7 O7 c0 c1 c2 c3 c4)
    | (with_reducible show wpList _ _ _ (⟨_, Op.load rvT _, _, _, _, none⟩ :: _) _ _
       refine wpList_boxA_load rowRv rfl _ rfl w.heap.size (resvA q' m c' { r with h := o.who, t := o.ty, g := incR r.g }) rfl rfl T8.out.s ?_)
    | (with_reducible show wpList _ _ _ (⟨_, Op.store rvT _ _, _, _, _, none⟩ :: _) _ _
       refine wpList_boxA_put rowRv rfl _ _ rfl rfl (w.heap.size + 1 + 1) (resvA q' m c' { r with h := o.who, t := o.ty, g := incR r.g }) _ rfl (rvA_one _ _ _ _) rfl rfl rfl T8.out.r ?_
       intro w9 x9 k9 s9
       have T9 := Lib.hid (T8.out.setR x9 k9)
       have O9 := Lib.hid ((OwnL.same O8.out (w' := w9) (fun B hB hB2 => k9.block B hB2 (by omega))).raise (show _ ≤ w9.heap.size by omega))
       clear x9 k9 s9))
    exact bodyPost_ret (results_cell_row rfl _ _ (w.heap.size + 1 + 1) rvT (resvA q' m c' { r with h := o.who, t := o.ty, g := incR r.g }) (0, 0) _ rfl T9.out.r Try.underlying24 rfl (rvA_size _ _ _ _)) rfl ⟨q', m, c', by rw [HE.out]; try rfl, by rw [HE.out]; exact OwnL.lower O9.out (by omega), T9.out.low⟩
  | false =>
    have HE := Lib.hid (show v = { r with regs := r.regs.filter fun p => !(goneF o p), g := incR r.g } by rw [HV.out]; rfl)
    clear HV
    go_wp2_with (first
    | (with_reducible show wpList _ _ _ (⟨_, Op.box rvT _, _, _, _, none⟩ :: _) _ _
       refine wpList_boxA_of rfl _ rfl (resvA q n c r) rfl ?_
       intro w1 x1 l1 s1
       have X1 := Lib.hid x1
       have L1 := Lib.hid l1
       have S1 := Lib.hid s1
       clear x1 l1 s1)
    | (with_reducible show wpList _ _ _ (⟨_, Op.box roT _, _, _, _, none⟩ :: _) _ _
       refine wpList_boxA_of rfl _ rfl (ropA o) rfl ?_
       intro w2 x2 l2 s2
       rw [S1.out] at x2 s2
       rw [S1.out]
       have X2 := Lib.hid x2
       have L2 := Lib.hid l2
       have S2 := Lib.hid s2
       clear x2 l2 s2)
    | (with_reducible show wpList _ _ _ (⟨_, Op.alloc rvT, _, _, _, _⟩ :: _) _ _
       refine wpList_boxA_new rowRv rfl rfl (w.heap.size + 1 + 1) S2.out ?_
       intro w3 x3 l3 s3
       have T3 := Lib.hid (new3 X1.out L1.out S1.out X2.out L2.out S2.out x3 l3)
       obtain ⟨c0, c1, c2, c3, c4⟩ := T3.out.c
       obtain ⟨d0, d1, d2, d3, d4, d5⟩ := T3.out.d
       clear x3 l3 s3 X1 L1 S1 X2 L2 S2)
    | (with_reducible show wpList _ _ _ (⟨_, Op.load rvT _, _, _, _, none⟩ :: _) _ _
       refine wpList_boxA_load rowRv rfl _ rfl w.heap.size (resvA q n c r) rfl rfl T3.out.s ?_)
    | (go_at_call 51
       refine (HH.out _ T3.out.low).mono ?_; rintro e w4 ⟨rfl, hb4⟩
       have T5 := Lib.hid (T3.out.mono hb4)
       clear hb4 T3 c0 c1 c2 c3 c4 d0 d1 d2 d3 d4 d5 HH
       obtain ⟨c0, c1, c2, c3, c4⟩ := T5.out.c)
    | (with_reducible show wpList _ _ _ (⟨_, Op.load roT _, _, _, _, none⟩ :: _) _ _
       refine wpList_boxA_load rowOp rfl _ rfl (w.heap.size + 1) (ropA o) rfl rfl T5.out.p ?_)
    | (go_at_call 50
       refine (HL.out _ T5.out.low).mono ?_; rintro e w6 ⟨q', m, c', rfl, ho, hb6⟩
       have T6 := Lib.hid (T5.out.mono hb6)
       have O6 := Lib.hid (OwnL.lower ho T5.out.r.lt)
       clear ho hb6 T5 c0 c1 c2 c3 c4 HL)
    | (with_reducible show wpList _ _ _ (⟨_, Op.store rgS _ _, _, _, _, none⟩ :: _) _ _
       refine wpList_boxA_slice rfl _ _ rfl rfl w.heap.size 0 q' m c' rfl rfl T6.out.s (by simp [resvA]) ?_
       intro w7 x k s
       rw [set0] at x
       have T7 := Lib.hid (T6.out.setS x k)
       have O7 := Lib.hid ((OwnL.same O6.out (w' := w7) (fun B hB hB2 => k.block B hB2 (by omega))).raise (show _ ≤ w7.heap.size by omega))
       clear x k s T6 O6
       obtain ⟨c0, c1, c2, c3, c4⟩ := T7.out.c)
    | (with_reducible show wpList _ _ _ (⟨_, Op.store 3 _ _, _, _, _, none⟩ :: _) _ _
       refine wpList_boxA_int rfl _ _ rfl rfl w.heap.size 4 _ rfl rfl T7.out.s (by simp [resvA]) ?_
       intro w8 x k s
       rw [set4, HI.out] at x
       have T8 := Lib.hid (T7.out.setS x k)
       have O8 := Lib.hid ((OwnL.same O7.out (w' := w8) (fun B hB hB2 => k.block B hB2 (by omega))).raise (show _ ≤ w8.heap.size by omega))
       clear x k s T7 O7 c0 c1 c2 c3 c4)
    | (with_reducible show wpList _ _ _ (⟨_, Op.load rvT _, _, _, _, none⟩ :: _) _ _
       refine wpList_boxA_load rowRv rfl _ rfl w.heap.size (resvA q' m c' { r with g := incR r.g }) rfl rfl T8.out.s ?_)
    | (with_reducible show wpList _ _ _ (⟨_, Op.store rvT _ _, _, _, _, none⟩ :: _) _ _
       refine wpList_boxA_put rowRv rfl _ _ rfl rfl (w.heap.size + 1 + 1) (resvA q' m c' { r with g := incR r.g }) _ rfl (rvA_one _ _ _ _) rfl rfl rfl T8.out.r ?_
       intro w9 x9 k9 s9
       have T9 := Lib.hid (T8.out.setR x9 k9)
       have O9 := Lib.hid ((OwnL.same O8.out (w' := w9) (fun B hB hB2 => k9.block B hB2 (by omega))).raise (show _ ≤ w9.heap.size by omega))
       clear x9 k9 s9))
    exact bodyPost_ret (results_cell_row rfl _ _ (w.heap.size + 1 + 1) rvT (resvA q' m c' { r with g := incR r.g }) (0, 0) _ rfl T9.out.r Try.underlying24 rfl (rvA_size _ _ _ _)) rfl ⟨q', m, c', by rw [HE.out]; try rfl, by rw [HE.out]; exact OwnL.lower O9.out (by omega), T9.out.low⟩
end Go.Proofs.Ytfnkdmdcjliebaa
