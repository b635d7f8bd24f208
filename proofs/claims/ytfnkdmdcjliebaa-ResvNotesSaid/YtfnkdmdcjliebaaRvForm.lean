/- The contracts of the program's heldInForm and Check. Conditions: the reservations lie in memory, at most 1000 registrations. -/
import Derived.Test.YtfnkdmdcjliebaaRvKey
namespace Go.Proofs.Ytfnkdmdcjliebaa
open Go.ChangeShapes Go.WideShapes Go.ChangeAt Go.RowKit
set_option linter.unusedVariables false
set_option linter.unusedSimpArgs false
theorem boxRv {W : World} {O : Nat} {q : Option Addr} {n c : Nat} {r : ResvOf} (h : BoxA W O rvT (resvA q n c r)) : W.cell? ⟨O, 0, none⟩ = some (.slice q n c) ∧ W.cell? ⟨O, 1, none⟩ = some (.int .i64 r.h) ∧ W.cell? ⟨O, 2, none⟩ = some (.int .i64 r.t) ∧ W.cell? ⟨O, 3, none⟩ = some (.bool r.s) ∧ W.cell? ⟨O, 4, none⟩ = some (.int .i64 r.g) := ⟨h.cell 0, h.cell 1, h.cell 2, h.cell 3, h.cell 4⟩
attribute [local irreducible] regC atR keyR inR risesR formR
attribute [local go_sem] Oper.semAt_some
set_option maxRecDepth 100000 in
set_option maxHeartbeats 4000000 in
theorem heldInForm_any {w : World} {q : Option Addr} {n c : Nat} {r : ResvOf} (hq : RvAt w q n c r) (hr : risesR r.regs (-1) = true) :
    Calls Try.prog 37 #[.agg (resvA q n c r)] w fun e w' => e = .returned (.bool (formR r)) ∧ Below w.heap.size w w' := by
  have HF := Lib.hid (form_in hr)
  have HG := Lib.hid (fun (W : World) (hb : Below w.heap.size w W) => registered_any (c := c) (RowsAt.below hq.at_ hb) hq.len hq.few r.h)
  clear hq hr
  generalize formR r = b at *
  go_enter Try.func37, Try.ntmps37
  cases h1 : (r.h == -1) with
  | true =>
    have e := HF.out
    rw [h1, if_pos rfl] at e
    clear HF HG
    go_wp2_with (first
      | (with_reducible show wpList _ _ _ (⟨_, Op.box rvT _, _, _, _, none⟩ :: _) _ _
         refine wpList_boxA_of rfl _ rfl (resvA q n c r) rfl ?_
         intro w1 x1 l1 s1
         obtain ⟨c0, c1, c2, c3, c4⟩ := boxRv x1
         have L1 := Lib.hid l1
         clear x1 l1 s1))
    go_ret
    exact ⟨by rw [e]; rfl, L1.out⟩
  | false =>
    have e := HF.out
    rw [h1, if_neg (by decide)] at e
    clear HF
    generalize hrt : (decide (1 ≤ r.t) && decide (r.t ≤ 6)) = ok at *
    have HT := Lib.hid (fun (W : World) => (by have := isType_any r.t W; rw [hrt] at this; exact this : Calls Try.prog 48 #[.int .i64 r.t] W fun e w' => e = .returned (.bool ok) ∧ W = w'))
    clear hrt
    cases ok with
    | false =>
      have HE := Lib.hid (show b = false from e)
      clear e HG
      go_wp2_with (first
        | (with_reducible show wpList _ _ _ (⟨_, Op.box rvT _, _, _, _, none⟩ :: _) _ _
           refine wpList_boxA_of rfl _ rfl (resvA q n c r) rfl ?_
           intro w1 x1 l1 s1
           obtain ⟨c0, c1, c2, c3, c4⟩ := boxRv x1
           have L1 := Lib.hid l1
           clear x1 l1 s1)
        | (go_at_call 48
           refine (HT.out _).mono ?_; rintro e w2 ⟨rfl, rfl⟩))
      go_ret
      exact ⟨by rw [HE.out]; rfl, L1.out⟩
    | true =>
      have HE := Lib.hid (show b = inR r.regs r.h from e)
      clear e
      generalize inR r.regs r.h = d at *
      go_wp2_with (first
        | (with_reducible show wpList _ _ _ (⟨_, Op.box rvT _, _, _, _, none⟩ :: _) _ _
           refine wpList_boxA_of rfl _ rfl (resvA q n c r) rfl ?_
           intro w1 x1 l1 s1
           obtain ⟨c0, c1, c2, c3, c4⟩ := boxRv x1
           have L1 := Lib.hid l1
           have HG1 := Lib.hid (HG.out w1 l1)
           clear x1 l1 s1 HG)
        | (go_at_call 48
           refine (HT.out _).mono ?_; rintro e w2 ⟨rfl, rfl⟩)
        | (go_at_call 41
           refine HG1.out.mono ?_; rintro e w2 ⟨rfl, rfl⟩))
      go_ret
      exact ⟨by rw [HE.out]; rfl, L1.out⟩
set_option maxRecDepth 100000 in
set_option maxHeartbeats 4000000 in
theorem Check_any {w : World} {q : Option Addr} {n c : Nat} {r : ResvOf} (hq : RvAt w q n c r) :
    Calls Try.prog 14 #[.agg (resvA q n c r)] w fun e w' => e = .returned (errN (if goodR r then 0 else 2)) ∧ Below w.heap.size w w' := by
  have HD := Lib.hid (show goodR r = (decide (n ≤ 4) && decide (0 ≤ r.g) && risesR r.regs (-1) && formR r) by rw [← hq.len]; rfl)
  have HG := Lib.hid (fun (W : World) (hb : Below w.heap.size w W) => rising_any (c := c) (RowsAt.below hq.at_ hb) hq.len hq.few)
  have HH := Lib.hid (fun (hr : risesR r.regs (-1) = true) (W : World) (hb : Below w.heap.size w W) => heldInForm_any (RvAt.below hq hb) hr)

  clear hq
  have HZ := Lib.hid (show ∀ b, goodR r = b → (if goodR r then (0 : Int) else 2) = if b then 0 else 2 from fun b e => by rw [e])
  generalize (if goodR r then (0 : Int) else 2) = z at *
  generalize goodR r = b at *
  generalize formR r = d at *
  go_enter Try.func14, Try.ntmps14
  by_cases h1 : n ≤ 4
  · have f1 : ¬ (4 : Int) < (n : Int) := by omega
    rw [decide_eq_true h1] at HD
    clear h1
    cases hrr : risesR r.regs (-1) with
    | false =>
      rw [hrr] at HG HD
      have HE := Lib.hid (show z = 2 from HZ.out false (by rw [HD.out]; simp))
      clear HD HH
      go_wp2_with (first
        | (with_reducible show wpList _ _ _ (⟨_, Op.box rvT _, _, _, _, none⟩ :: _) _ _
           refine wpList_boxA_of rfl _ rfl (resvA q n c r) rfl ?_
           intro w1 x1 l1 s1
           obtain ⟨c0, c1, c2, c3, c4⟩ := boxRv x1
           have L1 := Lib.hid l1
           have HG1 := Lib.hid (HG.out w1 l1)
           clear x1 l1 s1 HG)
        | (go_at_call 36
           refine HG1.out.mono ?_; rintro e w2 ⟨rfl, rfl⟩))
      go_ret
      exact ⟨by rw [HE.out]; rfl, L1.out⟩
    | true =>
      rw [hrr] at HG HD
      have HH1 := Lib.hid (HH.out hrr)
      clear HH hrr
      cases d with
      | false =>
        have HE := Lib.hid (show z = 2 from HZ.out false (by rw [HD.out]; simp))
        clear HD
        go_wp2_with (first
          | (with_reducible show wpList _ _ _ (⟨_, Op.box rvT _, _, _, _, none⟩ :: _) _ _
             refine wpList_boxA_of rfl _ rfl (resvA q n c r) rfl ?_
             intro w1 x1 l1 s1
             obtain ⟨c0, c1, c2, c3, c4⟩ := boxRv x1
             have X1 := Lib.hid x1
             have L1 := Lib.hid l1
             have HG1 := Lib.hid (HG.out w1 l1)
             have HH2 := Lib.hid (HH1.out w1 l1)
             clear x1 l1 s1 HG HH1)
          | (go_at_call 36
             refine HG1.out.mono ?_; rintro e w2 ⟨rfl, rfl⟩)
          | (with_reducible show wpList _ _ _ (⟨_, Op.load rvT _, _, _, _, some _⟩ :: _) _ _
             refine wpList_boxA_loadw rowRv _ rfl rfl w.heap.size (resvA q n c r) rfl rfl X1.out ?_)
          | (go_at_call 37
             refine HH2.out.mono ?_; rintro e w2 ⟨rfl, hb2⟩
             have L2 := Lib.hid (L1.out.trans (hb2.mono L1.out.size))
             clear hb2))
        go_ret
        exact ⟨by rw [HE.out]; rfl, L2.out⟩
      | true =>
        by_cases hg : r.g < 0
        · have HE := Lib.hid (show z = 2 from HZ.out false (by rw [HD.out, decide_eq_false (by omega)]; rfl))
          clear HD
          go_wp2_with (first
            | (with_reducible show wpList _ _ _ (⟨_, Op.box rvT _, _, _, _, none⟩ :: _) _ _
               refine wpList_boxA_of rfl _ rfl (resvA q n c r) rfl ?_
               intro w1 x1 l1 s1
               obtain ⟨c0, c1, c2, c3, c4⟩ := boxRv x1
               have X1 := Lib.hid x1
               have L1 := Lib.hid l1
               have HG1 := Lib.hid (HG.out w1 l1)
               have HH2 := Lib.hid (HH1.out w1 l1)
               clear x1 l1 s1 HG HH1)
            | (go_at_call 36
               refine HG1.out.mono ?_; rintro e w2 ⟨rfl, rfl⟩)
            | (with_reducible show wpList _ _ _ (⟨_, Op.load rvT _, _, _, _, some _⟩ :: _) _ _
               refine wpList_boxA_loadw rowRv _ rfl rfl w.heap.size (resvA q n c r) rfl rfl X1.out ?_)
            | (go_at_call 37
               refine HH2.out.mono ?_; rintro e w2 ⟨rfl, hb2⟩
               have L2 := Lib.hid (L1.out.trans (hb2.mono L1.out.size))
               obtain ⟨d0, d1, d2, d3, d4⟩ := boxRv (X1.out.keep (hb2.block _ X1.out.lt))
               clear hb2))
          go_ret
          exact ⟨by rw [HE.out]; rfl, L2.out⟩
        · have HE := Lib.hid (show z = 0 from HZ.out true (by rw [HD.out, decide_eq_true (show 0 ≤ r.g by omega)]; rfl))
          clear HD
          go_wp2_with (first
            | (with_reducible show wpList _ _ _ (⟨_, Op.box rvT _, _, _, _, none⟩ :: _) _ _
               refine wpList_boxA_of rfl _ rfl (resvA q n c r) rfl ?_
               intro w1 x1 l1 s1
               obtain ⟨c0, c1, c2, c3, c4⟩ := boxRv x1
               have X1 := Lib.hid x1
               have L1 := Lib.hid l1
               have HG1 := Lib.hid (HG.out w1 l1)
               have HH2 := Lib.hid (HH1.out w1 l1)
               clear x1 l1 s1 HG HH1)
            | (go_at_call 36
               refine HG1.out.mono ?_; rintro e w2 ⟨rfl, rfl⟩)
            | (with_reducible show wpList _ _ _ (⟨_, Op.load rvT _, _, _, _, some _⟩ :: _) _ _
               refine wpList_boxA_loadw rowRv _ rfl rfl w.heap.size (resvA q n c r) rfl rfl X1.out ?_)
            | (go_at_call 37
               refine HH2.out.mono ?_; rintro e w2 ⟨rfl, hb2⟩
               have L2 := Lib.hid (L1.out.trans (hb2.mono L1.out.size))
               obtain ⟨d0, d1, d2, d3, d4⟩ := boxRv (X1.out.keep (hb2.block _ X1.out.lt))
               clear hb2))
          go_ret
          exact ⟨by rw [HE.out]; rfl, L2.out⟩
  · have f1 : (4 : Int) < (n : Int) := by omega
    have HE := Lib.hid (show z = 2 from HZ.out false (by rw [HD.out, decide_eq_false h1]; rfl))
    clear HD HG HH h1
    go_wp2_with (first
      | (with_reducible show wpList _ _ _ (⟨_, Op.box rvT _, _, _, _, none⟩ :: _) _ _
         refine wpList_boxA_of rfl _ rfl (resvA q n c r) rfl ?_
         intro w1 x1 l1 s1
         obtain ⟨c0, c1, c2, c3, c4⟩ := boxRv x1
         have L1 := Lib.hid l1
         clear x1 l1 s1))
    go_ret
    exact ⟨by rw [HE.out]; rfl, L1.out⟩
end Go.Proofs.Ytfnkdmdcjliebaa
