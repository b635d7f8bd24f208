/- The contract of the program's Allowed. Conditions: the reservations are in form. -/
import Derived.Test.YtfnkdmdcjliebaaRvHeld
import Derived.Test.YtfnkdmdcjliebaaRvAllowM
namespace Go.Proofs.Ytfnkdmdcjliebaa
open Go.ChangeShapes Go.WideShapes Go.ChangeAt Go.RowKit
set_option linter.unusedVariables false
set_option linter.unusedSimpArgs false
theorem in_pos {ks : List (Int × Int)} {w : Int} (h : risesR ks w = true) (who : Int) : inR ks who = decide (0 < keyR ks who) := by
  rw [in_key h]
  have := (key_pos who h).1
  rw [Bool.eq_iff_iff]; simp; omega
theorem allowed_one (r : ResvOf) (who : Int) : allowedR r who 1 = (if r.h == -1 || holdsR r who then true else r.t == 1 || r.t == 3 || r.t == 5 || (r.t == 4 && decide (0 < keyR r.regs who))) := rfl
theorem allowed_two (r : ResvOf) (who : Int) : allowedR r who 2 = (if r.h == -1 || holdsR r who then true else decide (0 < keyR r.regs who) && (r.t == 3 || r.t == 4)) := rfl
attribute [local irreducible] regC atR keyR inR risesR formR allR holdersR holdsR allowedR
attribute [local go_sem] Oper.semAt_some
theorem Allowed_not {w : World} {q : Option Addr} {n c : Nat} {r : ResvOf} (who acc : Int) (h1 : acc ≠ 1) (h2 : acc ≠ 2) :
    Calls Try.prog 20 #[.agg (resvA q n c r), .int .i64 who, .int .i64 acc] w fun e w' => e = .returned (.bool false) ∧ Below w.heap.size w w' := by
  have e1 : (acc == 1) = false := beq_eq_false_iff_ne.2 h1
  have e2 : (acc == 2) = false := beq_eq_false_iff_ne.2 h2
  have e3 : (acc != 1) = true := bne_iff_ne.2 h1
  have e4 : (acc != 2) = true := bne_iff_ne.2 h2
  go_enter Try.func20, Try.ntmps20
  go_wp2_with (first
    | (with_reducible show wpList _ _ _ (⟨_, Op.box rvT _, _, _, _, none⟩ :: _) _ _
       refine wpList_boxA_of rfl _ rfl (resvA q n c r) rfl ?_
       intro w1 x1 l1 s1
       have L1 := Lib.hid l1
       clear x1 l1 s1))
  go_ret
  exact ⟨rfl, L1.out⟩
set_option maxRecDepth 100000 in
set_option maxHeartbeats 8000000 in
theorem Allowed_1 {w : World} {q : Option Addr} {n c : Nat} {r : ResvOf} (hq : RvAt w q n c r) (hg : GoodR r) (who : Int) :
    Calls Try.prog 20 #[.agg (resvA q n c r), .int .i64 who, .int .i64 1] w fun e w' => e = .returned (.bool (allowedR r who 1)) ∧ Below w.heap.size w w' := by
  have HC := Lib.hid (fun (W : World) (hb : Below w.heap.size w W) => held_any (RvAt.below hq hb) hg who)
  have HG := Lib.hid (fun (W : World) (hb : Below w.heap.size w W) => registered_any (c := c) (RowsAt.below hq.at_ hb) hq.len hq.few who)
  have HV := Lib.hid (show allowedR r who 1 = (if r.h == -1 || holdsR r who then true else r.t == 1 || r.t == 3 || r.t == 5 || (r.t == 4 && inR r.regs who)) from by rw [in_pos hg.rises]; exact allowed_one r who)
  have hform := hg.form
  clear hq hg
  generalize allowedR r who 1 = v at *
  generalize inR r.regs who = d at *
  generalize holdsR r who = b at *
  go_enter Try.func20, Try.ntmps20
  cases h1 : (r.h == -1) with
  | true =>
    have HE := Lib.hid (show v = true by rw [HV.out, h1]; rfl)
    rw [h1] at HC
    clear HV hform
    go_wp2_with (first
        | (with_reducible show wpList _ _ _ (⟨_, Op.box rvT _, _, _, _, none⟩ :: _) _ _
           refine wpList_boxA_of rfl _ rfl (resvA q n c r) rfl ?_
           intro w1 x1 l1 s1
           have X1 := Lib.hid x1
           have L1 := Lib.hid l1
           have HC1 := Lib.hid (HC.out w1 l1)
           clear x1 l1 s1 HC)
        | (with_reducible show wpList _ _ _ (⟨_, Op.load rvT _, _, _, _, none⟩ :: _) _ _
           refine wpList_boxA_load rowRv rfl _ rfl w.heap.size (resvA q n c r) rfl rfl X1.out ?_)
        | (go_at_call 40
           refine HC1.out.mono ?_; rintro e w2 ⟨rfl, hb2⟩
           have L2 := Lib.hid (L1.out.trans (hb2.mono L1.out.size))
           obtain ⟨d0, d1, d2, d3, d4⟩ := boxRv (X1.out.keep (hb2.block _ X1.out.lt))
           skip
           clear hb2)
        | (go_at_call 41
           refine (HG.out _ L2.out).mono ?_; rintro e w3 ⟨rfl, rfl⟩))
    go_ret
    exact ⟨by rw [HE.out]; rfl, L2.out⟩
  | false =>
    rw [h1] at HC
    have ht : 1 ≤ r.t ∧ r.t ≤ 6 := by
      rcases hform with ⟨h2, -⟩ | ⟨-, -, h3⟩
      · rw [h2] at h1; exact absurd h1 (by decide)
      · exact h3
    cases b with
    | true =>
      have HE := Lib.hid (show v = true by rw [HV.out, h1]; rfl)
      clear HV hform ht
      go_wp2_with (first
          | (with_reducible show wpList _ _ _ (⟨_, Op.box rvT _, _, _, _, none⟩ :: _) _ _
             refine wpList_boxA_of rfl _ rfl (resvA q n c r) rfl ?_
             intro w1 x1 l1 s1
             have X1 := Lib.hid x1
             have L1 := Lib.hid l1
             have HC1 := Lib.hid (HC.out w1 l1)
             clear x1 l1 s1 HC)
          | (with_reducible show wpList _ _ _ (⟨_, Op.load rvT _, _, _, _, none⟩ :: _) _ _
             refine wpList_boxA_load rowRv rfl _ rfl w.heap.size (resvA q n c r) rfl rfl X1.out ?_)
          | (go_at_call 40
             refine HC1.out.mono ?_; rintro e w2 ⟨rfl, hb2⟩
             have L2 := Lib.hid (L1.out.trans (hb2.mono L1.out.size))
             obtain ⟨d0, d1, d2, d3, d4⟩ := boxRv (X1.out.keep (hb2.block _ X1.out.lt))
             skip
             clear hb2)
          | (go_at_call 41
             refine (HG.out _ L2.out).mono ?_; rintro e w3 ⟨rfl, rfl⟩))
      go_ret
      exact ⟨by rw [HE.out]; rfl, L2.out⟩
    | false =>
      obtain ht | ht | ht | ht | ht | ht : r.t = 1 ∨ r.t = 2 ∨ r.t = 3 ∨ r.t = 4 ∨ r.t = 5 ∨ r.t = 6 := by omega
      · have HE := Lib.hid (show v = true by rw [HV.out, h1, ht]; cases d <;> rfl)
        have HT := Lib.hid ht
        clear HV hform ht
        go_wp2_with (first
            | (with_reducible show wpList _ _ _ (⟨_, Op.box rvT _, _, _, _, none⟩ :: _) _ _
               refine wpList_boxA_of rfl _ rfl (resvA q n c r) rfl ?_
               intro w1 x1 l1 s1
               have X1 := Lib.hid x1
               have L1 := Lib.hid l1
               have HC1 := Lib.hid (HC.out w1 l1)
               clear x1 l1 s1 HC)
            | (with_reducible show wpList _ _ _ (⟨_, Op.load rvT _, _, _, _, none⟩ :: _) _ _
               refine wpList_boxA_load rowRv rfl _ rfl w.heap.size (resvA q n c r) rfl rfl X1.out ?_)
            | (go_at_call 40
               refine HC1.out.mono ?_; rintro e w2 ⟨rfl, hb2⟩
               have L2 := Lib.hid (L1.out.trans (hb2.mono L1.out.size))
               obtain ⟨d0, d1, d2, d3, d4⟩ := boxRv (X1.out.keep (hb2.block _ X1.out.lt))
               rw [HT.out] at d2
               clear hb2)
            | (go_at_call 41
               refine (HG.out _ L2.out).mono ?_; rintro e w3 ⟨rfl, rfl⟩))
        go_ret
        exact ⟨by rw [HE.out]; rfl, L2.out⟩
      · have HE := Lib.hid (show v = false by rw [HV.out, h1, ht]; cases d <;> rfl)
        have HT := Lib.hid ht
        clear HV hform ht
        go_wp2_with (first
            | (with_reducible show wpList _ _ _ (⟨_, Op.box rvT _, _, _, _, none⟩ :: _) _ _
               refine wpList_boxA_of rfl _ rfl (resvA q n c r) rfl ?_
               intro w1 x1 l1 s1
               have X1 := Lib.hid x1
               have L1 := Lib.hid l1
               have HC1 := Lib.hid (HC.out w1 l1)
               clear x1 l1 s1 HC)
            | (with_reducible show wpList _ _ _ (⟨_, Op.load rvT _, _, _, _, none⟩ :: _) _ _
               refine wpList_boxA_load rowRv rfl _ rfl w.heap.size (resvA q n c r) rfl rfl X1.out ?_)
            | (go_at_call 40
               refine HC1.out.mono ?_; rintro e w2 ⟨rfl, hb2⟩
               have L2 := Lib.hid (L1.out.trans (hb2.mono L1.out.size))
               obtain ⟨d0, d1, d2, d3, d4⟩ := boxRv (X1.out.keep (hb2.block _ X1.out.lt))
               rw [HT.out] at d2
               clear hb2)
            | (go_at_call 41
               refine (HG.out _ L2.out).mono ?_; rintro e w3 ⟨rfl, rfl⟩))
        go_ret
        exact ⟨by rw [HE.out]; rfl, L2.out⟩
      · have HE := Lib.hid (show v = true by rw [HV.out, h1, ht]; cases d <;> rfl)
        have HT := Lib.hid ht
        clear HV hform ht
        go_wp2_with (first
            | (with_reducible show wpList _ _ _ (⟨_, Op.box rvT _, _, _, _, none⟩ :: _) _ _
               refine wpList_boxA_of rfl _ rfl (resvA q n c r) rfl ?_
               intro w1 x1 l1 s1
               have X1 := Lib.hid x1
               have L1 := Lib.hid l1
               have HC1 := Lib.hid (HC.out w1 l1)
               clear x1 l1 s1 HC)
            | (with_reducible show wpList _ _ _ (⟨_, Op.load rvT _, _, _, _, none⟩ :: _) _ _
               refine wpList_boxA_load rowRv rfl _ rfl w.heap.size (resvA q n c r) rfl rfl X1.out ?_)
            | (go_at_call 40
               refine HC1.out.mono ?_; rintro e w2 ⟨rfl, hb2⟩
               have L2 := Lib.hid (L1.out.trans (hb2.mono L1.out.size))
               obtain ⟨d0, d1, d2, d3, d4⟩ := boxRv (X1.out.keep (hb2.block _ X1.out.lt))
               rw [HT.out] at d2
               clear hb2)
            | (go_at_call 41
               refine (HG.out _ L2.out).mono ?_; rintro e w3 ⟨rfl, rfl⟩))
        go_ret
        exact ⟨by rw [HE.out]; rfl, L2.out⟩
      · have HE := Lib.hid (show v = d by rw [HV.out, h1, ht]; cases d <;> rfl)
        have HT := Lib.hid ht
        clear HV hform ht
        go_wp2_with (first
            | (with_reducible show wpList _ _ _ (⟨_, Op.box rvT _, _, _, _, none⟩ :: _) _ _
               refine wpList_boxA_of rfl _ rfl (resvA q n c r) rfl ?_
               intro w1 x1 l1 s1
               have X1 := Lib.hid x1
               have L1 := Lib.hid l1
               have HC1 := Lib.hid (HC.out w1 l1)
               clear x1 l1 s1 HC)
            | (with_reducible show wpList _ _ _ (⟨_, Op.load rvT _, _, _, _, none⟩ :: _) _ _
               refine wpList_boxA_load rowRv rfl _ rfl w.heap.size (resvA q n c r) rfl rfl X1.out ?_)
            | (go_at_call 40
               refine HC1.out.mono ?_; rintro e w2 ⟨rfl, hb2⟩
               have L2 := Lib.hid (L1.out.trans (hb2.mono L1.out.size))
               obtain ⟨d0, d1, d2, d3, d4⟩ := boxRv (X1.out.keep (hb2.block _ X1.out.lt))
               rw [HT.out] at d2
               clear hb2)
            | (go_at_call 41
               refine (HG.out _ L2.out).mono ?_; rintro e w3 ⟨rfl, rfl⟩))
        go_ret
        exact ⟨by rw [HE.out]; rfl, L2.out⟩
      · have HE := Lib.hid (show v = true by rw [HV.out, h1, ht]; cases d <;> rfl)
        have HT := Lib.hid ht
        clear HV hform ht
        go_wp2_with (first
            | (with_reducible show wpList _ _ _ (⟨_, Op.box rvT _, _, _, _, none⟩ :: _) _ _
               refine wpList_boxA_of rfl _ rfl (resvA q n c r) rfl ?_
               intro w1 x1 l1 s1
               have X1 := Lib.hid x1
               have L1 := Lib.hid l1
               have HC1 := Lib.hid (HC.out w1 l1)
               clear x1 l1 s1 HC)
            | (with_reducible show wpList _ _ _ (⟨_, Op.load rvT _, _, _, _, none⟩ :: _) _ _
               refine wpList_boxA_load rowRv rfl _ rfl w.heap.size (resvA q n c r) rfl rfl X1.out ?_)
            | (go_at_call 40
               refine HC1.out.mono ?_; rintro e w2 ⟨rfl, hb2⟩
               have L2 := Lib.hid (L1.out.trans (hb2.mono L1.out.size))
               obtain ⟨d0, d1, d2, d3, d4⟩ := boxRv (X1.out.keep (hb2.block _ X1.out.lt))
               rw [HT.out] at d2
               clear hb2)
            | (go_at_call 41
               refine (HG.out _ L2.out).mono ?_; rintro e w3 ⟨rfl, rfl⟩))
        go_ret
        exact ⟨by rw [HE.out]; rfl, L2.out⟩
      · have HE := Lib.hid (show v = false by rw [HV.out, h1, ht]; cases d <;> rfl)
        have HT := Lib.hid ht
        clear HV hform ht
        go_wp2_with (first
            | (with_reducible show wpList _ _ _ (⟨_, Op.box rvT _, _, _, _, none⟩ :: _) _ _
               refine wpList_boxA_of rfl _ rfl (resvA q n c r) rfl ?_
               intro w1 x1 l1 s1
               have X1 := Lib.hid x1
               have L1 := Lib.hid l1
               have HC1 := Lib.hid (HC.out w1 l1)
               clear x1 l1 s1 HC)
            | (with_reducible show wpList _ _ _ (⟨_, Op.load rvT _, _, _, _, none⟩ :: _) _ _
               refine wpList_boxA_load rowRv rfl _ rfl w.heap.size (resvA q n c r) rfl rfl X1.out ?_)
            | (go_at_call 40
               refine HC1.out.mono ?_; rintro e w2 ⟨rfl, hb2⟩
               have L2 := Lib.hid (L1.out.trans (hb2.mono L1.out.size))
               obtain ⟨d0, d1, d2, d3, d4⟩ := boxRv (X1.out.keep (hb2.block _ X1.out.lt))
               rw [HT.out] at d2
               clear hb2)
            | (go_at_call 41
               refine (HG.out _ L2.out).mono ?_; rintro e w3 ⟨rfl, rfl⟩))
        go_ret
        exact ⟨by rw [HE.out]; rfl, L2.out⟩
set_option maxRecDepth 100000 in
set_option maxHeartbeats 8000000 in
theorem Allowed_2 {w : World} {q : Option Addr} {n c : Nat} {r : ResvOf} (hq : RvAt w q n c r) (hg : GoodR r) (who : Int) :
    Calls Try.prog 20 #[.agg (resvA q n c r), .int .i64 who, .int .i64 2] w fun e w' => e = .returned (.bool (allowedR r who 2)) ∧ Below w.heap.size w w' := by
  have HC := Lib.hid (fun (W : World) (hb : Below w.heap.size w W) => held_any (RvAt.below hq hb) hg who)
  have HG := Lib.hid (fun (W : World) (hb : Below w.heap.size w W) => registered_any (c := c) (RowsAt.below hq.at_ hb) hq.len hq.few who)
  have HV := Lib.hid (show allowedR r who 2 = (if r.h == -1 || holdsR r who then true else inR r.regs who && (r.t == 3 || r.t == 4)) from by rw [in_pos hg.rises]; exact allowed_two r who)
  have hform := hg.form
  clear hq hg
  generalize allowedR r who 2 = v at *
  generalize inR r.regs who = d at *
  generalize holdsR r who = b at *
  go_enter Try.func20, Try.ntmps20
  cases h1 : (r.h == -1) with
  | true =>
    have HE := Lib.hid (show v = true by rw [HV.out, h1]; rfl)
    rw [h1] at HC
    clear HV hform
    go_wp2_with (first
        | (with_reducible show wpList _ _ _ (⟨_, Op.box rvT _, _, _, _, none⟩ :: _) _ _
           refine wpList_boxA_of rfl _ rfl (resvA q n c r) rfl ?_
           intro w1 x1 l1 s1
           have X1 := Lib.hid x1
           have L1 := Lib.hid l1
           have HC1 := Lib.hid (HC.out w1 l1)
           clear x1 l1 s1 HC)
        | (with_reducible show wpList _ _ _ (⟨_, Op.load rvT _, _, _, _, none⟩ :: _) _ _
           refine wpList_boxA_load rowRv rfl _ rfl w.heap.size (resvA q n c r) rfl rfl X1.out ?_)
        | (go_at_call 40
           refine HC1.out.mono ?_; rintro e w2 ⟨rfl, hb2⟩
           have L2 := Lib.hid (L1.out.trans (hb2.mono L1.out.size))
           obtain ⟨d0, d1, d2, d3, d4⟩ := boxRv (X1.out.keep (hb2.block _ X1.out.lt))
           skip
           clear hb2)
        | (go_at_call 41
           refine (HG.out _ L2.out).mono ?_; rintro e w3 ⟨rfl, rfl⟩))
    go_ret
    exact ⟨by rw [HE.out]; rfl, L2.out⟩
  | false =>
    rw [h1] at HC
    have ht : 1 ≤ r.t ∧ r.t ≤ 6 := by
      rcases hform with ⟨h2, -⟩ | ⟨-, -, h3⟩
      · rw [h2] at h1; exact absurd h1 (by decide)
      · exact h3
    cases b with
    | true =>
      have HE := Lib.hid (show v = true by rw [HV.out, h1]; rfl)
      clear HV hform ht
      go_wp2_with (first
          | (with_reducible show wpList _ _ _ (⟨_, Op.box rvT _, _, _, _, none⟩ :: _) _ _
             refine wpList_boxA_of rfl _ rfl (resvA q n c r) rfl ?_
             intro w1 x1 l1 s1
             have X1 := Lib.hid x1
             have L1 := Lib.hid l1
             have HC1 := Lib.hid (HC.out w1 l1)
             clear x1 l1 s1 HC)
          | (with_reducible show wpList _ _ _ (⟨_, Op.load rvT _, _, _, _, none⟩ :: _) _ _
             refine wpList_boxA_load rowRv rfl _ rfl w.heap.size (resvA q n c r) rfl rfl X1.out ?_)
          | (go_at_call 40
             refine HC1.out.mono ?_; rintro e w2 ⟨rfl, hb2⟩
             have L2 := Lib.hid (L1.out.trans (hb2.mono L1.out.size))
             obtain ⟨d0, d1, d2, d3, d4⟩ := boxRv (X1.out.keep (hb2.block _ X1.out.lt))
             skip
             clear hb2)
          | (go_at_call 41
             refine (HG.out _ L2.out).mono ?_; rintro e w3 ⟨rfl, rfl⟩))
      go_ret
      exact ⟨by rw [HE.out]; rfl, L2.out⟩
    | false =>
      obtain ht | ht | ht | ht | ht | ht : r.t = 1 ∨ r.t = 2 ∨ r.t = 3 ∨ r.t = 4 ∨ r.t = 5 ∨ r.t = 6 := by omega
      · have HE := Lib.hid (show v = false by rw [HV.out, h1, ht]; cases d <;> rfl)
        have HT := Lib.hid ht
        clear HV hform ht
        go_wp2_with (first
            | (with_reducible show wpList _ _ _ (⟨_, Op.box rvT _, _, _, _, none⟩ :: _) _ _
               refine wpList_boxA_of rfl _ rfl (resvA q n c r) rfl ?_
               intro w1 x1 l1 s1
               have X1 := Lib.hid x1
               have L1 := Lib.hid l1
               have HC1 := Lib.hid (HC.out w1 l1)
               clear x1 l1 s1 HC)
            | (with_reducible show wpList _ _ _ (⟨_, Op.load rvT _, _, _, _, none⟩ :: _) _ _
               refine wpList_boxA_load rowRv rfl _ rfl w.heap.size (resvA q n c r) rfl rfl X1.out ?_)
            | (go_at_call 40
               refine HC1.out.mono ?_; rintro e w2 ⟨rfl, hb2⟩
               have L2 := Lib.hid (L1.out.trans (hb2.mono L1.out.size))
               obtain ⟨d0, d1, d2, d3, d4⟩ := boxRv (X1.out.keep (hb2.block _ X1.out.lt))
               rw [HT.out] at d2
               clear hb2)
            | (go_at_call 41
               refine (HG.out _ L2.out).mono ?_; rintro e w3 ⟨rfl, rfl⟩))
        go_ret
        exact ⟨by rw [HE.out]; rfl, L2.out⟩
      · have HE := Lib.hid (show v = false by rw [HV.out, h1, ht]; cases d <;> rfl)
        have HT := Lib.hid ht
        clear HV hform ht
        go_wp2_with (first
            | (with_reducible show wpList _ _ _ (⟨_, Op.box rvT _, _, _, _, none⟩ :: _) _ _
               refine wpList_boxA_of rfl _ rfl (resvA q n c r) rfl ?_
               intro w1 x1 l1 s1
               have X1 := Lib.hid x1
               have L1 := Lib.hid l1
               have HC1 := Lib.hid (HC.out w1 l1)
               clear x1 l1 s1 HC)
            | (with_reducible show wpList _ _ _ (⟨_, Op.load rvT _, _, _, _, none⟩ :: _) _ _
               refine wpList_boxA_load rowRv rfl _ rfl w.heap.size (resvA q n c r) rfl rfl X1.out ?_)
            | (go_at_call 40
               refine HC1.out.mono ?_; rintro e w2 ⟨rfl, hb2⟩
               have L2 := Lib.hid (L1.out.trans (hb2.mono L1.out.size))
               obtain ⟨d0, d1, d2, d3, d4⟩ := boxRv (X1.out.keep (hb2.block _ X1.out.lt))
               rw [HT.out] at d2
               clear hb2)
            | (go_at_call 41
               refine (HG.out _ L2.out).mono ?_; rintro e w3 ⟨rfl, rfl⟩))
        go_ret
        exact ⟨by rw [HE.out]; rfl, L2.out⟩
      · have HE := Lib.hid (show v = d by rw [HV.out, h1, ht]; cases d <;> rfl)
        have HT := Lib.hid ht
        clear HV hform ht
        go_wp2_with (first
            | (with_reducible show wpList _ _ _ (⟨_, Op.box rvT _, _, _, _, none⟩ :: _) _ _
               refine wpList_boxA_of rfl _ rfl (resvA q n c r) rfl ?_
               intro w1 x1 l1 s1
               have X1 := Lib.hid x1
               have L1 := Lib.hid l1
               have HC1 := Lib.hid (HC.out w1 l1)
               clear x1 l1 s1 HC)
            | (with_reducible show wpList _ _ _ (⟨_, Op.load rvT _, _, _, _, none⟩ :: _) _ _
               refine wpList_boxA_load rowRv rfl _ rfl w.heap.size (resvA q n c r) rfl rfl X1.out ?_)
            | (go_at_call 40
               refine HC1.out.mono ?_; rintro e w2 ⟨rfl, hb2⟩
               have L2 := Lib.hid (L1.out.trans (hb2.mono L1.out.size))
               obtain ⟨d0, d1, d2, d3, d4⟩ := boxRv (X1.out.keep (hb2.block _ X1.out.lt))
               rw [HT.out] at d2
               clear hb2)
            | (go_at_call 41
               refine (HG.out _ L2.out).mono ?_; rintro e w3 ⟨rfl, rfl⟩))
        go_ret
        exact ⟨by rw [HE.out]; rfl, L2.out⟩
      · have HE := Lib.hid (show v = d by rw [HV.out, h1, ht]; cases d <;> rfl)
        have HT := Lib.hid ht
        clear HV hform ht
        go_wp2_with (first
            | (with_reducible show wpList _ _ _ (⟨_, Op.box rvT _, _, _, _, none⟩ :: _) _ _
               refine wpList_boxA_of rfl _ rfl (resvA q n c r) rfl ?_
               intro w1 x1 l1 s1
               have X1 := Lib.hid x1
               have L1 := Lib.hid l1
               have HC1 := Lib.hid (HC.out w1 l1)
               clear x1 l1 s1 HC)
            | (with_reducible show wpList _ _ _ (⟨_, Op.load rvT _, _, _, _, none⟩ :: _) _ _
               refine wpList_boxA_load rowRv rfl _ rfl w.heap.size (resvA q n c r) rfl rfl X1.out ?_)
            | (go_at_call 40
               refine HC1.out.mono ?_; rintro e w2 ⟨rfl, hb2⟩
               have L2 := Lib.hid (L1.out.trans (hb2.mono L1.out.size))
               obtain ⟨d0, d1, d2, d3, d4⟩ := boxRv (X1.out.keep (hb2.block _ X1.out.lt))
               rw [HT.out] at d2
               clear hb2)
            | (go_at_call 41
               refine (HG.out _ L2.out).mono ?_; rintro e w3 ⟨rfl, rfl⟩))
        go_ret
        exact ⟨by rw [HE.out]; rfl, L2.out⟩
      · have HE := Lib.hid (show v = false by rw [HV.out, h1, ht]; cases d <;> rfl)
        have HT := Lib.hid ht
        clear HV hform ht
        go_wp2_with (first
            | (with_reducible show wpList _ _ _ (⟨_, Op.box rvT _, _, _, _, none⟩ :: _) _ _
               refine wpList_boxA_of rfl _ rfl (resvA q n c r) rfl ?_
               intro w1 x1 l1 s1
               have X1 := Lib.hid x1
               have L1 := Lib.hid l1
               have HC1 := Lib.hid (HC.out w1 l1)
               clear x1 l1 s1 HC)
            | (with_reducible show wpList _ _ _ (⟨_, Op.load rvT _, _, _, _, none⟩ :: _) _ _
               refine wpList_boxA_load rowRv rfl _ rfl w.heap.size (resvA q n c r) rfl rfl X1.out ?_)
            | (go_at_call 40
               refine HC1.out.mono ?_; rintro e w2 ⟨rfl, hb2⟩
               have L2 := Lib.hid (L1.out.trans (hb2.mono L1.out.size))
               obtain ⟨d0, d1, d2, d3, d4⟩ := boxRv (X1.out.keep (hb2.block _ X1.out.lt))
               rw [HT.out] at d2
               clear hb2)
            | (go_at_call 41
               refine (HG.out _ L2.out).mono ?_; rintro e w3 ⟨rfl, rfl⟩))
        go_ret
        exact ⟨by rw [HE.out]; rfl, L2.out⟩
      · have HE := Lib.hid (show v = false by rw [HV.out, h1, ht]; cases d <;> rfl)
        have HT := Lib.hid ht
        clear HV hform ht
        go_wp2_with (first
            | (with_reducible show wpList _ _ _ (⟨_, Op.box rvT _, _, _, _, none⟩ :: _) _ _
               refine wpList_boxA_of rfl _ rfl (resvA q n c r) rfl ?_
               intro w1 x1 l1 s1
               have X1 := Lib.hid x1
               have L1 := Lib.hid l1
               have HC1 := Lib.hid (HC.out w1 l1)
               clear x1 l1 s1 HC)
            | (with_reducible show wpList _ _ _ (⟨_, Op.load rvT _, _, _, _, none⟩ :: _) _ _
               refine wpList_boxA_load rowRv rfl _ rfl w.heap.size (resvA q n c r) rfl rfl X1.out ?_)
            | (go_at_call 40
               refine HC1.out.mono ?_; rintro e w2 ⟨rfl, hb2⟩
               have L2 := Lib.hid (L1.out.trans (hb2.mono L1.out.size))
               obtain ⟨d0, d1, d2, d3, d4⟩ := boxRv (X1.out.keep (hb2.block _ X1.out.lt))
               rw [HT.out] at d2
               clear hb2)
            | (go_at_call 41
               refine (HG.out _ L2.out).mono ?_; rintro e w3 ⟨rfl, rfl⟩))
        go_ret
        exact ⟨by rw [HE.out]; rfl, L2.out⟩
theorem Allowed_any {w : World} {q : Option Addr} {n c : Nat} {r : ResvOf} (hq : RvAt w q n c r) (hg : GoodR r) (who acc : Int) :
    Calls Try.prog 20 #[.agg (resvA q n c r), .int .i64 who, .int .i64 acc] w fun e w' => e = .returned (.bool (allowedR r who acc)) ∧ Below w.heap.size w w' := by
  by_cases h1 : acc = 1
  · subst h1; exact Allowed_1 hq hg who
  · by_cases h2 : acc = 2
    · subst h2; exact Allowed_2 hq hg who
    · have e : allowedR r who acc = false := by
        unfold allowedR
        rw [if_pos (by simp [h1, h2])]
      rw [e]
      exact Allowed_not who acc h1 h2
end Go.Proofs.Ytfnkdmdcjliebaa
