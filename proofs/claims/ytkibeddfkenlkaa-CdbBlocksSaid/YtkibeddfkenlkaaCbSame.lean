/- The contracts of the program's Same and of the document's own Same. Conditions: the Data lies in memory. -/
import Derived.Test.YtkibeddfkenlkaaCbEq
namespace Go.Proofs.Ytkibeddfkenlkaa
open Go.ChangeShapes Go.WideShapes Go.ChangeAt Go.RowKit
set_option linter.unusedVariables false
set_option linter.unusedSimpArgs false
def sameB (x y : CmdOf) (d : Bool) : Bool := x.k == y.k && x.u == y.u && x.b == y.b && x.m == y.m && d && eqOp x.o y.o
theorem CmdOf.ext' {x y : CmdOf} (h1 : x.k = y.k) (h2 : x.u = y.u) (h3 : x.b = y.b) (h4 : x.m = y.m) (h5 : x.o = y.o) : x = y := by cases x; cases y; simp_all
theorem sameB_iff {x y : CmdOf} {d : Bool} : sameB x y d = true ↔ x = y ∧ d = true := by
  unfold sameB
  simp only [Bool.and_eq_true, beq_iff_eq, eqOp_iff]
  constructor
  · rintro ⟨⟨⟨⟨⟨h1, h2⟩, h3⟩, h4⟩, h5⟩, h6⟩; exact ⟨CmdOf.ext' h1 h2 h3 h4 h6, h5⟩
  · rintro ⟨rfl, h5⟩; exact ⟨⟨⟨⟨⟨rfl, rfl⟩, rfl⟩, rfl⟩, h5⟩, rfl⟩
attribute [local irreducible] eqOp mk ropA cmA
attribute [local go_sem] Oper.semAt_some
set_option maxRecDepth 100000 in
set_option maxHeartbeats 8000000 in
theorem Same_cm {w : World} {q p : Option Addr} {n c m d : Nat} {x y : CmdOf} {g h : Nat → Nat} (hg : ∀ j, j < n → g j < 256) (hh : ∀ j, j < m → h j < 256) (hq : BytesAt w q n g) (hp : BytesAt w p m h) : Calls Try.prog 20 #[.agg (cmA q n c x), .agg (cmA p m d y)] w fun e w' => e = .returned (.bool (sameB x y (decide (mk n g = mk m h)))) ∧ Below w.heap.size w w' := by
  have HQ := Lib.hid (fun (W : World) (hb : Below w.heap.size w W) => hq.below hb)
  have HP := Lib.hid (fun (W : World) (hb : Below w.heap.size w W) => hp.below hb)
  have HEQ := Lib.hid (fun (W : World) (h1 : BytesAt W q n g) (h2 : BytesAt W p m h) => Equal_any q n c p m d g h hg hh W h1 h2)
  clear hg hh hq hp
  generalize hD : decide (mk n g = mk m h) = D at *
  clear hD
  obtain ⟨v, hv⟩ : ∃ v, sameB x y D = v := ⟨_, rfl⟩
  rw [hv]
  have HV := Lib.hid hv
  clear hv
  cases hK : (x.k == y.k : Bool)
  · skip
    have HE := Lib.hid (rfl : eqOp x.o y.o = eqOp x.o y.o)
    go_enter Try.func20, Try.ntmps20
    go_wp2_with (first
      | (with_reducible show wpList _ _ _ (⟨some 2, Op.box cmT _, _, _, _, none⟩ :: _) _ _
         refine wpList_boxA_of rfl _ rfl (cmA q n c x) rfl ?_
         intro w1 x1 l1 s1
         have X1 := Lib.hid x1
         have L1 := Lib.hid l1
         clear x1 l1 s1)
      | (with_reducible show wpList _ _ _ (⟨some 3, Op.box cmT _, _, _, _, none⟩ :: _) _ _
         refine wpList_boxA_of rfl _ rfl (cmA p m d y) rfl ?_
         intro w2 x2 l2 s2
         have X2 := Lib.hid (X1.out.keep (l2.block _ X1.out.lt))
         have Y2 := Lib.hid x2
         have L2 := Lib.hid (L1.out.trans (l2.mono L1.out.size))
         obtain ⟨c0, c1, c2, c3, c4, c10⟩ := boxCm X2.out
         obtain ⟨d0, d1, d2, d3, d4, d10⟩ := boxCm Y2.out
         have RX := Lib.hid (opRange X2.out)
         have RY := Lib.hid (opRange Y2.out)
         clear x2 l2 s2 X1 L1)
      | (with_reducible show wpList _ _ _ (⟨some 40, Op.load roT _, _, _, _, _⟩ :: _) _ _
         refine wpList_cmop_load rfl _ rfl w.heap.size rfl x.o RX.out ?_)
      | (with_reducible show wpList _ _ _ (⟨some 42, Op.load roT _, _, _, _, _⟩ :: _) _ _
         refine wpList_cmop_load rfl _ rfl w1.heap.size rfl y.o RY.out ?_)
      | (with_reducible show wpList _ _ _ (⟨_, Op.binOp .eql roT _ _ _, _, _, _, _⟩ :: _) _ _
         refine wpList_rop_eql rfl _ _ rfl x.o y.o rfl rfl ?_
         have hE := HE.out)
      | (go_at_call 32
         refine (HEQ.out _ (HQ.out _ L2.out) (HP.out _ L2.out)).mono ?_; rintro e w3 ⟨rfl, rfl⟩))
    go_ret
    exact ⟨by rw [← HV.out]; unfold sameB; rw [hK]; first | rfl | (simp; done), L2.out⟩
  · skip
    cases hU : (x.u == y.u : Bool)
    · skip
      have HE := Lib.hid (rfl : eqOp x.o y.o = eqOp x.o y.o)
      go_enter Try.func20, Try.ntmps20
      go_wp2_with (first
        | (with_reducible show wpList _ _ _ (⟨some 2, Op.box cmT _, _, _, _, none⟩ :: _) _ _
           refine wpList_boxA_of rfl _ rfl (cmA q n c x) rfl ?_
           intro w1 x1 l1 s1
           have X1 := Lib.hid x1
           have L1 := Lib.hid l1
           clear x1 l1 s1)
        | (with_reducible show wpList _ _ _ (⟨some 3, Op.box cmT _, _, _, _, none⟩ :: _) _ _
           refine wpList_boxA_of rfl _ rfl (cmA p m d y) rfl ?_
           intro w2 x2 l2 s2
           have X2 := Lib.hid (X1.out.keep (l2.block _ X1.out.lt))
           have Y2 := Lib.hid x2
           have L2 := Lib.hid (L1.out.trans (l2.mono L1.out.size))
           obtain ⟨c0, c1, c2, c3, c4, c10⟩ := boxCm X2.out
           obtain ⟨d0, d1, d2, d3, d4, d10⟩ := boxCm Y2.out
           have RX := Lib.hid (opRange X2.out)
           have RY := Lib.hid (opRange Y2.out)
           clear x2 l2 s2 X1 L1)
        | (with_reducible show wpList _ _ _ (⟨some 40, Op.load roT _, _, _, _, _⟩ :: _) _ _
           refine wpList_cmop_load rfl _ rfl w.heap.size rfl x.o RX.out ?_)
        | (with_reducible show wpList _ _ _ (⟨some 42, Op.load roT _, _, _, _, _⟩ :: _) _ _
           refine wpList_cmop_load rfl _ rfl w1.heap.size rfl y.o RY.out ?_)
        | (with_reducible show wpList _ _ _ (⟨_, Op.binOp .eql roT _ _ _, _, _, _, _⟩ :: _) _ _
           refine wpList_rop_eql rfl _ _ rfl x.o y.o rfl rfl ?_
           have hE := HE.out)
        | (go_at_call 32
           refine (HEQ.out _ (HQ.out _ L2.out) (HP.out _ L2.out)).mono ?_; rintro e w3 ⟨rfl, rfl⟩))
      go_ret
      exact ⟨by rw [← HV.out]; unfold sameB; rw [hK, hU]; first | rfl | (simp; done), L2.out⟩
    · skip
      cases hB : (x.b == y.b : Bool)
      · skip
        have HE := Lib.hid (rfl : eqOp x.o y.o = eqOp x.o y.o)
        go_enter Try.func20, Try.ntmps20
        go_wp2_with (first
          | (with_reducible show wpList _ _ _ (⟨some 2, Op.box cmT _, _, _, _, none⟩ :: _) _ _
             refine wpList_boxA_of rfl _ rfl (cmA q n c x) rfl ?_
             intro w1 x1 l1 s1
             have X1 := Lib.hid x1
             have L1 := Lib.hid l1
             clear x1 l1 s1)
          | (with_reducible show wpList _ _ _ (⟨some 3, Op.box cmT _, _, _, _, none⟩ :: _) _ _
             refine wpList_boxA_of rfl _ rfl (cmA p m d y) rfl ?_
             intro w2 x2 l2 s2
             have X2 := Lib.hid (X1.out.keep (l2.block _ X1.out.lt))
             have Y2 := Lib.hid x2
             have L2 := Lib.hid (L1.out.trans (l2.mono L1.out.size))
             obtain ⟨c0, c1, c2, c3, c4, c10⟩ := boxCm X2.out
             obtain ⟨d0, d1, d2, d3, d4, d10⟩ := boxCm Y2.out
             have RX := Lib.hid (opRange X2.out)
             have RY := Lib.hid (opRange Y2.out)
             clear x2 l2 s2 X1 L1)
          | (with_reducible show wpList _ _ _ (⟨some 40, Op.load roT _, _, _, _, _⟩ :: _) _ _
             refine wpList_cmop_load rfl _ rfl w.heap.size rfl x.o RX.out ?_)
          | (with_reducible show wpList _ _ _ (⟨some 42, Op.load roT _, _, _, _, _⟩ :: _) _ _
             refine wpList_cmop_load rfl _ rfl w1.heap.size rfl y.o RY.out ?_)
          | (with_reducible show wpList _ _ _ (⟨_, Op.binOp .eql roT _ _ _, _, _, _, _⟩ :: _) _ _
             refine wpList_rop_eql rfl _ _ rfl x.o y.o rfl rfl ?_
             have hE := HE.out)
          | (go_at_call 32
             refine (HEQ.out _ (HQ.out _ L2.out) (HP.out _ L2.out)).mono ?_; rintro e w3 ⟨rfl, rfl⟩))
        go_ret
        exact ⟨by rw [← HV.out]; unfold sameB; rw [hK, hU, hB]; first | rfl | (simp; done), L2.out⟩
      · skip
        cases hM : (x.m == y.m : Bool)
        · skip
          have HE := Lib.hid (rfl : eqOp x.o y.o = eqOp x.o y.o)
          go_enter Try.func20, Try.ntmps20
          go_wp2_with (first
            | (with_reducible show wpList _ _ _ (⟨some 2, Op.box cmT _, _, _, _, none⟩ :: _) _ _
               refine wpList_boxA_of rfl _ rfl (cmA q n c x) rfl ?_
               intro w1 x1 l1 s1
               have X1 := Lib.hid x1
               have L1 := Lib.hid l1
               clear x1 l1 s1)
            | (with_reducible show wpList _ _ _ (⟨some 3, Op.box cmT _, _, _, _, none⟩ :: _) _ _
               refine wpList_boxA_of rfl _ rfl (cmA p m d y) rfl ?_
               intro w2 x2 l2 s2
               have X2 := Lib.hid (X1.out.keep (l2.block _ X1.out.lt))
               have Y2 := Lib.hid x2
               have L2 := Lib.hid (L1.out.trans (l2.mono L1.out.size))
               obtain ⟨c0, c1, c2, c3, c4, c10⟩ := boxCm X2.out
               obtain ⟨d0, d1, d2, d3, d4, d10⟩ := boxCm Y2.out
               have RX := Lib.hid (opRange X2.out)
               have RY := Lib.hid (opRange Y2.out)
               clear x2 l2 s2 X1 L1)
            | (with_reducible show wpList _ _ _ (⟨some 40, Op.load roT _, _, _, _, _⟩ :: _) _ _
               refine wpList_cmop_load rfl _ rfl w.heap.size rfl x.o RX.out ?_)
            | (with_reducible show wpList _ _ _ (⟨some 42, Op.load roT _, _, _, _, _⟩ :: _) _ _
               refine wpList_cmop_load rfl _ rfl w1.heap.size rfl y.o RY.out ?_)
            | (with_reducible show wpList _ _ _ (⟨_, Op.binOp .eql roT _ _ _, _, _, _, _⟩ :: _) _ _
               refine wpList_rop_eql rfl _ _ rfl x.o y.o rfl rfl ?_
               have hE := HE.out)
            | (go_at_call 32
               refine (HEQ.out _ (HQ.out _ L2.out) (HP.out _ L2.out)).mono ?_; rintro e w3 ⟨rfl, rfl⟩))
          go_ret
          exact ⟨by rw [← HV.out]; unfold sameB; rw [hK, hU, hB, hM]; first | rfl | (simp; done), L2.out⟩
        · skip
          cases hD : (D : Bool)
          · skip
            have HE := Lib.hid (rfl : eqOp x.o y.o = eqOp x.o y.o)
            go_enter Try.func20, Try.ntmps20
            go_wp2_with (first
              | (with_reducible show wpList _ _ _ (⟨some 2, Op.box cmT _, _, _, _, none⟩ :: _) _ _
                 refine wpList_boxA_of rfl _ rfl (cmA q n c x) rfl ?_
                 intro w1 x1 l1 s1
                 have X1 := Lib.hid x1
                 have L1 := Lib.hid l1
                 clear x1 l1 s1)
              | (with_reducible show wpList _ _ _ (⟨some 3, Op.box cmT _, _, _, _, none⟩ :: _) _ _
                 refine wpList_boxA_of rfl _ rfl (cmA p m d y) rfl ?_
                 intro w2 x2 l2 s2
                 have X2 := Lib.hid (X1.out.keep (l2.block _ X1.out.lt))
                 have Y2 := Lib.hid x2
                 have L2 := Lib.hid (L1.out.trans (l2.mono L1.out.size))
                 obtain ⟨c0, c1, c2, c3, c4, c10⟩ := boxCm X2.out
                 obtain ⟨d0, d1, d2, d3, d4, d10⟩ := boxCm Y2.out
                 have RX := Lib.hid (opRange X2.out)
                 have RY := Lib.hid (opRange Y2.out)
                 clear x2 l2 s2 X1 L1)
              | (with_reducible show wpList _ _ _ (⟨some 40, Op.load roT _, _, _, _, _⟩ :: _) _ _
                 refine wpList_cmop_load rfl _ rfl w.heap.size rfl x.o RX.out ?_)
              | (with_reducible show wpList _ _ _ (⟨some 42, Op.load roT _, _, _, _, _⟩ :: _) _ _
                 refine wpList_cmop_load rfl _ rfl w1.heap.size rfl y.o RY.out ?_)
              | (with_reducible show wpList _ _ _ (⟨_, Op.binOp .eql roT _ _ _, _, _, _, _⟩ :: _) _ _
                 refine wpList_rop_eql rfl _ _ rfl x.o y.o rfl rfl ?_
                 have hE := HE.out)
              | (go_at_call 32
                 refine (HEQ.out _ (HQ.out _ L2.out) (HP.out _ L2.out)).mono ?_; rintro e w3 ⟨rfl, rfl⟩))
            go_ret
            exact ⟨by rw [← HV.out]; unfold sameB; rw [hK, hU, hB, hM, hD]; first | rfl | (simp; done), L2.out⟩
          · skip
            cases hE0 : (eqOp x.o y.o : Bool)
            · skip
              have HE := Lib.hid (hE0 : eqOp x.o y.o = false)
              clear hE0
              go_enter Try.func20, Try.ntmps20
              go_wp2_with (first
                | (with_reducible show wpList _ _ _ (⟨some 2, Op.box cmT _, _, _, _, none⟩ :: _) _ _
                   refine wpList_boxA_of rfl _ rfl (cmA q n c x) rfl ?_
                   intro w1 x1 l1 s1
                   have X1 := Lib.hid x1
                   have L1 := Lib.hid l1
                   clear x1 l1 s1)
                | (with_reducible show wpList _ _ _ (⟨some 3, Op.box cmT _, _, _, _, none⟩ :: _) _ _
                   refine wpList_boxA_of rfl _ rfl (cmA p m d y) rfl ?_
                   intro w2 x2 l2 s2
                   have X2 := Lib.hid (X1.out.keep (l2.block _ X1.out.lt))
                   have Y2 := Lib.hid x2
                   have L2 := Lib.hid (L1.out.trans (l2.mono L1.out.size))
                   obtain ⟨c0, c1, c2, c3, c4, c10⟩ := boxCm X2.out
                   obtain ⟨d0, d1, d2, d3, d4, d10⟩ := boxCm Y2.out
                   have RX := Lib.hid (opRange X2.out)
                   have RY := Lib.hid (opRange Y2.out)
                   clear x2 l2 s2 X1 L1)
                | (with_reducible show wpList _ _ _ (⟨some 40, Op.load roT _, _, _, _, _⟩ :: _) _ _
                   refine wpList_cmop_load rfl _ rfl w.heap.size rfl x.o RX.out ?_)
                | (with_reducible show wpList _ _ _ (⟨some 42, Op.load roT _, _, _, _, _⟩ :: _) _ _
                   refine wpList_cmop_load rfl _ rfl w1.heap.size rfl y.o RY.out ?_)
                | (with_reducible show wpList _ _ _ (⟨_, Op.binOp .eql roT _ _ _, _, _, _, _⟩ :: _) _ _
                   refine wpList_rop_eql rfl _ _ rfl x.o y.o rfl rfl ?_
                   have hE := HE.out)
                | (go_at_call 32
                   refine (HEQ.out _ (HQ.out _ L2.out) (HP.out _ L2.out)).mono ?_; rintro e w3 ⟨rfl, rfl⟩))
              go_ret
              exact ⟨by rw [← HV.out]; unfold sameB; rw [hK, hU, hB, hM, hD, HE.out]; rfl, L2.out⟩
            · skip
              have HE := Lib.hid (hE0 : eqOp x.o y.o = true)
              clear hE0
              go_enter Try.func20, Try.ntmps20
              go_wp2_with (first
                | (with_reducible show wpList _ _ _ (⟨some 2, Op.box cmT _, _, _, _, none⟩ :: _) _ _
                   refine wpList_boxA_of rfl _ rfl (cmA q n c x) rfl ?_
                   intro w1 x1 l1 s1
                   have X1 := Lib.hid x1
                   have L1 := Lib.hid l1
                   clear x1 l1 s1)
                | (with_reducible show wpList _ _ _ (⟨some 3, Op.box cmT _, _, _, _, none⟩ :: _) _ _
                   refine wpList_boxA_of rfl _ rfl (cmA p m d y) rfl ?_
                   intro w2 x2 l2 s2
                   have X2 := Lib.hid (X1.out.keep (l2.block _ X1.out.lt))
                   have Y2 := Lib.hid x2
                   have L2 := Lib.hid (L1.out.trans (l2.mono L1.out.size))
                   obtain ⟨c0, c1, c2, c3, c4, c10⟩ := boxCm X2.out
                   obtain ⟨d0, d1, d2, d3, d4, d10⟩ := boxCm Y2.out
                   have RX := Lib.hid (opRange X2.out)
                   have RY := Lib.hid (opRange Y2.out)
                   clear x2 l2 s2 X1 L1)
                | (with_reducible show wpList _ _ _ (⟨some 40, Op.load roT _, _, _, _, _⟩ :: _) _ _
                   refine wpList_cmop_load rfl _ rfl w.heap.size rfl x.o RX.out ?_)
                | (with_reducible show wpList _ _ _ (⟨some 42, Op.load roT _, _, _, _, _⟩ :: _) _ _
                   refine wpList_cmop_load rfl _ rfl w1.heap.size rfl y.o RY.out ?_)
                | (with_reducible show wpList _ _ _ (⟨_, Op.binOp .eql roT _ _ _, _, _, _, _⟩ :: _) _ _
                   refine wpList_rop_eql rfl _ _ rfl x.o y.o rfl rfl ?_
                   have hE := HE.out)
                | (go_at_call 32
                   refine (HEQ.out _ (HQ.out _ L2.out) (HP.out _ L2.out)).mono ?_; rintro e w3 ⟨rfl, rfl⟩))
              go_ret
              exact ⟨by rw [← HV.out]; unfold sameB; rw [hK, hU, hB, hM, hD, HE.out]; rfl, L2.out⟩
set_option maxRecDepth 100000 in
set_option maxHeartbeats 8000000 in
theorem refSame_cm {w : World} {q p : Option Addr} {n c m d : Nat} {x y : CmdOf} {g h : Nat → Nat} (hg : ∀ j, j < n → g j < 256) (hh : ∀ j, j < m → h j < 256) (hq : BytesAt w q n g) (hp : BytesAt w p m h) : Calls Try.prog 18 #[.agg (cmA q n c x), .agg (cmA p m d y)] w fun e w' => e = .returned (.bool (sameB x y (decide (mk n g = mk m h)))) ∧ Below w.heap.size w w' := by
  have HQ := Lib.hid (fun (W : World) (hb : Below w.heap.size w W) => hq.below hb)
  have HP := Lib.hid (fun (W : World) (hb : Below w.heap.size w W) => hp.below hb)
  have HSS := Lib.hid (str_eq hg hh)
  clear hg hh hq hp
  generalize hD : decide (mk n g = mk m h) = D at *
  clear hD
  obtain ⟨v, hv⟩ : ∃ v, sameB x y D = v := ⟨_, rfl⟩
  rw [hv]
  have HV := Lib.hid hv
  clear hv
  cases hK : (x.k == y.k : Bool)
  · skip
    have HE := Lib.hid (rfl : eqOp x.o y.o = eqOp x.o y.o)
    go_enter Try.func18, Try.ntmps18
    go_wp2_with (first
      | (with_reducible show wpList _ _ _ (⟨some 2, Op.box cmT _, _, _, _, none⟩ :: _) _ _
         refine wpList_boxA_of rfl _ rfl (cmA q n c x) rfl ?_
         intro w1 x1 l1 s1
         have X1 := Lib.hid x1
         have L1 := Lib.hid l1
         clear x1 l1 s1)
      | (with_reducible show wpList _ _ _ (⟨some 3, Op.box cmT _, _, _, _, none⟩ :: _) _ _
         refine wpList_boxA_of rfl _ rfl (cmA p m d y) rfl ?_
         intro w2 x2 l2 s2
         have X2 := Lib.hid (X1.out.keep (l2.block _ X1.out.lt))
         have Y2 := Lib.hid x2
         have L2 := Lib.hid (L1.out.trans (l2.mono L1.out.size))
         obtain ⟨c0, c1, c2, c3, c4, c10⟩ := boxCm X2.out
         obtain ⟨d0, d1, d2, d3, d4, d10⟩ := boxCm Y2.out
         have RX := Lib.hid (opRange X2.out)
         have RY := Lib.hid (opRange Y2.out)
         clear x2 l2 s2 X1 L1)
      | (with_reducible show wpList _ _ _ (⟨some 33, Op.load roT _, _, _, _, _⟩ :: _) _ _
         refine wpList_cmop_load rfl _ rfl w.heap.size rfl x.o RX.out ?_)
      | (with_reducible show wpList _ _ _ (⟨some 35, Op.load roT _, _, _, _, _⟩ :: _) _ _
         refine wpList_cmop_load rfl _ rfl w1.heap.size rfl y.o RY.out ?_)
      | (with_reducible show wpList _ _ _ (⟨_, Op.binOp .eql roT _ _ _, _, _, _, _⟩ :: _) _ _
         refine wpList_rop_eql rfl _ _ rfl x.o y.o rfl rfl ?_
         have hE := HE.out)
      | (with_reducible show wpList _ _ _ (⟨some 41, Op.convert _ _ _, _, _, _, _⟩ :: _) _ _
         refine wpList_string_w rfl _ rfl q n c rfl g (HQ.out _ L2.out) ?_)
      | (with_reducible show wpList _ _ _ (⟨some 44, Op.convert _ _ _, _, _, _, _⟩ :: _) _ _
         refine wpList_string_w rfl _ rfl p m d rfl h (HP.out _ L2.out) ?_
         have hSS := HSS.out))
    go_ret
    exact ⟨by rw [← HV.out]; unfold sameB; rw [hK]; first | rfl | (simp; done), L2.out⟩
  · skip
    cases hU : (x.u == y.u : Bool)
    · skip
      have HE := Lib.hid (rfl : eqOp x.o y.o = eqOp x.o y.o)
      go_enter Try.func18, Try.ntmps18
      go_wp2_with (first
        | (with_reducible show wpList _ _ _ (⟨some 2, Op.box cmT _, _, _, _, none⟩ :: _) _ _
           refine wpList_boxA_of rfl _ rfl (cmA q n c x) rfl ?_
           intro w1 x1 l1 s1
           have X1 := Lib.hid x1
           have L1 := Lib.hid l1
           clear x1 l1 s1)
        | (with_reducible show wpList _ _ _ (⟨some 3, Op.box cmT _, _, _, _, none⟩ :: _) _ _
           refine wpList_boxA_of rfl _ rfl (cmA p m d y) rfl ?_
           intro w2 x2 l2 s2
           have X2 := Lib.hid (X1.out.keep (l2.block _ X1.out.lt))
           have Y2 := Lib.hid x2
           have L2 := Lib.hid (L1.out.trans (l2.mono L1.out.size))
           obtain ⟨c0, c1, c2, c3, c4, c10⟩ := boxCm X2.out
           obtain ⟨d0, d1, d2, d3, d4, d10⟩ := boxCm Y2.out
           have RX := Lib.hid (opRange X2.out)
           have RY := Lib.hid (opRange Y2.out)
           clear x2 l2 s2 X1 L1)
        | (with_reducible show wpList _ _ _ (⟨some 33, Op.load roT _, _, _, _, _⟩ :: _) _ _
           refine wpList_cmop_load rfl _ rfl w.heap.size rfl x.o RX.out ?_)
        | (with_reducible show wpList _ _ _ (⟨some 35, Op.load roT _, _, _, _, _⟩ :: _) _ _
           refine wpList_cmop_load rfl _ rfl w1.heap.size rfl y.o RY.out ?_)
        | (with_reducible show wpList _ _ _ (⟨_, Op.binOp .eql roT _ _ _, _, _, _, _⟩ :: _) _ _
           refine wpList_rop_eql rfl _ _ rfl x.o y.o rfl rfl ?_
           have hE := HE.out)
        | (with_reducible show wpList _ _ _ (⟨some 41, Op.convert _ _ _, _, _, _, _⟩ :: _) _ _
           refine wpList_string_w rfl _ rfl q n c rfl g (HQ.out _ L2.out) ?_)
        | (with_reducible show wpList _ _ _ (⟨some 44, Op.convert _ _ _, _, _, _, _⟩ :: _) _ _
           refine wpList_string_w rfl _ rfl p m d rfl h (HP.out _ L2.out) ?_
           have hSS := HSS.out))
      go_ret
      exact ⟨by rw [← HV.out]; unfold sameB; rw [hK, hU]; first | rfl | (simp; done), L2.out⟩
    · skip
      cases hB : (x.b == y.b : Bool)
      · skip
        have HE := Lib.hid (rfl : eqOp x.o y.o = eqOp x.o y.o)
        go_enter Try.func18, Try.ntmps18
        go_wp2_with (first
          | (with_reducible show wpList _ _ _ (⟨some 2, Op.box cmT _, _, _, _, none⟩ :: _) _ _
             refine wpList_boxA_of rfl _ rfl (cmA q n c x) rfl ?_
             intro w1 x1 l1 s1
             have X1 := Lib.hid x1
             have L1 := Lib.hid l1
             clear x1 l1 s1)
          | (with_reducible show wpList _ _ _ (⟨some 3, Op.box cmT _, _, _, _, none⟩ :: _) _ _
             refine wpList_boxA_of rfl _ rfl (cmA p m d y) rfl ?_
             intro w2 x2 l2 s2
             have X2 := Lib.hid (X1.out.keep (l2.block _ X1.out.lt))
             have Y2 := Lib.hid x2
             have L2 := Lib.hid (L1.out.trans (l2.mono L1.out.size))
             obtain ⟨c0, c1, c2, c3, c4, c10⟩ := boxCm X2.out
             obtain ⟨d0, d1, d2, d3, d4, d10⟩ := boxCm Y2.out
             have RX := Lib.hid (opRange X2.out)
             have RY := Lib.hid (opRange Y2.out)
             clear x2 l2 s2 X1 L1)
          | (with_reducible show wpList _ _ _ (⟨some 33, Op.load roT _, _, _, _, _⟩ :: _) _ _
             refine wpList_cmop_load rfl _ rfl w.heap.size rfl x.o RX.out ?_)
          | (with_reducible show wpList _ _ _ (⟨some 35, Op.load roT _, _, _, _, _⟩ :: _) _ _
             refine wpList_cmop_load rfl _ rfl w1.heap.size rfl y.o RY.out ?_)
          | (with_reducible show wpList _ _ _ (⟨_, Op.binOp .eql roT _ _ _, _, _, _, _⟩ :: _) _ _
             refine wpList_rop_eql rfl _ _ rfl x.o y.o rfl rfl ?_
             have hE := HE.out)
          | (with_reducible show wpList _ _ _ (⟨some 41, Op.convert _ _ _, _, _, _, _⟩ :: _) _ _
             refine wpList_string_w rfl _ rfl q n c rfl g (HQ.out _ L2.out) ?_)
          | (with_reducible show wpList _ _ _ (⟨some 44, Op.convert _ _ _, _, _, _, _⟩ :: _) _ _
             refine wpList_string_w rfl _ rfl p m d rfl h (HP.out _ L2.out) ?_
             have hSS := HSS.out))
        go_ret
        exact ⟨by rw [← HV.out]; unfold sameB; rw [hK, hU, hB]; first | rfl | (simp; done), L2.out⟩
      · skip
        cases hM : (x.m == y.m : Bool)
        · skip
          have HE := Lib.hid (rfl : eqOp x.o y.o = eqOp x.o y.o)
          go_enter Try.func18, Try.ntmps18
          go_wp2_with (first
            | (with_reducible show wpList _ _ _ (⟨some 2, Op.box cmT _, _, _, _, none⟩ :: _) _ _
               refine wpList_boxA_of rfl _ rfl (cmA q n c x) rfl ?_
               intro w1 x1 l1 s1
               have X1 := Lib.hid x1
               have L1 := Lib.hid l1
               clear x1 l1 s1)
            | (with_reducible show wpList _ _ _ (⟨some 3, Op.box cmT _, _, _, _, none⟩ :: _) _ _
               refine wpList_boxA_of rfl _ rfl (cmA p m d y) rfl ?_
               intro w2 x2 l2 s2
               have X2 := Lib.hid (X1.out.keep (l2.block _ X1.out.lt))
               have Y2 := Lib.hid x2
               have L2 := Lib.hid (L1.out.trans (l2.mono L1.out.size))
               obtain ⟨c0, c1, c2, c3, c4, c10⟩ := boxCm X2.out
               obtain ⟨d0, d1, d2, d3, d4, d10⟩ := boxCm Y2.out
               have RX := Lib.hid (opRange X2.out)
               have RY := Lib.hid (opRange Y2.out)
               clear x2 l2 s2 X1 L1)
            | (with_reducible show wpList _ _ _ (⟨some 33, Op.load roT _, _, _, _, _⟩ :: _) _ _
               refine wpList_cmop_load rfl _ rfl w.heap.size rfl x.o RX.out ?_)
            | (with_reducible show wpList _ _ _ (⟨some 35, Op.load roT _, _, _, _, _⟩ :: _) _ _
               refine wpList_cmop_load rfl _ rfl w1.heap.size rfl y.o RY.out ?_)
            | (with_reducible show wpList _ _ _ (⟨_, Op.binOp .eql roT _ _ _, _, _, _, _⟩ :: _) _ _
               refine wpList_rop_eql rfl _ _ rfl x.o y.o rfl rfl ?_
               have hE := HE.out)
            | (with_reducible show wpList _ _ _ (⟨some 41, Op.convert _ _ _, _, _, _, _⟩ :: _) _ _
               refine wpList_string_w rfl _ rfl q n c rfl g (HQ.out _ L2.out) ?_)
            | (with_reducible show wpList _ _ _ (⟨some 44, Op.convert _ _ _, _, _, _, _⟩ :: _) _ _
               refine wpList_string_w rfl _ rfl p m d rfl h (HP.out _ L2.out) ?_
               have hSS := HSS.out))
          go_ret
          exact ⟨by rw [← HV.out]; unfold sameB; rw [hK, hU, hB, hM]; first | rfl | (simp; done), L2.out⟩
        · skip
          cases hE0 : (eqOp x.o y.o : Bool)
          · skip
            have HE := Lib.hid (hE0 : eqOp x.o y.o = false)
            clear hE0
            go_enter Try.func18, Try.ntmps18
            go_wp2_with (first
              | (with_reducible show wpList _ _ _ (⟨some 2, Op.box cmT _, _, _, _, none⟩ :: _) _ _
                 refine wpList_boxA_of rfl _ rfl (cmA q n c x) rfl ?_
                 intro w1 x1 l1 s1
                 have X1 := Lib.hid x1
                 have L1 := Lib.hid l1
                 clear x1 l1 s1)
              | (with_reducible show wpList _ _ _ (⟨some 3, Op.box cmT _, _, _, _, none⟩ :: _) _ _
                 refine wpList_boxA_of rfl _ rfl (cmA p m d y) rfl ?_
                 intro w2 x2 l2 s2
                 have X2 := Lib.hid (X1.out.keep (l2.block _ X1.out.lt))
                 have Y2 := Lib.hid x2
                 have L2 := Lib.hid (L1.out.trans (l2.mono L1.out.size))
                 obtain ⟨c0, c1, c2, c3, c4, c10⟩ := boxCm X2.out
                 obtain ⟨d0, d1, d2, d3, d4, d10⟩ := boxCm Y2.out
                 have RX := Lib.hid (opRange X2.out)
                 have RY := Lib.hid (opRange Y2.out)
                 clear x2 l2 s2 X1 L1)
              | (with_reducible show wpList _ _ _ (⟨some 33, Op.load roT _, _, _, _, _⟩ :: _) _ _
                 refine wpList_cmop_load rfl _ rfl w.heap.size rfl x.o RX.out ?_)
              | (with_reducible show wpList _ _ _ (⟨some 35, Op.load roT _, _, _, _, _⟩ :: _) _ _
                 refine wpList_cmop_load rfl _ rfl w1.heap.size rfl y.o RY.out ?_)
              | (with_reducible show wpList _ _ _ (⟨_, Op.binOp .eql roT _ _ _, _, _, _, _⟩ :: _) _ _
                 refine wpList_rop_eql rfl _ _ rfl x.o y.o rfl rfl ?_
                 have hE := HE.out)
              | (with_reducible show wpList _ _ _ (⟨some 41, Op.convert _ _ _, _, _, _, _⟩ :: _) _ _
                 refine wpList_string_w rfl _ rfl q n c rfl g (HQ.out _ L2.out) ?_)
              | (with_reducible show wpList _ _ _ (⟨some 44, Op.convert _ _ _, _, _, _, _⟩ :: _) _ _
                 refine wpList_string_w rfl _ rfl p m d rfl h (HP.out _ L2.out) ?_
                 have hSS := HSS.out))
            go_ret
            exact ⟨by rw [← HV.out]; unfold sameB; rw [hK, hU, hB, hM, HE.out]; first | rfl | (simp; done), L2.out⟩
          · skip
            have HE := Lib.hid (hE0 : eqOp x.o y.o = true)
            clear hE0
            cases hD : (D : Bool)
            · skip
              go_enter Try.func18, Try.ntmps18
              go_wp2_with (first
                | (with_reducible show wpList _ _ _ (⟨some 2, Op.box cmT _, _, _, _, none⟩ :: _) _ _
                   refine wpList_boxA_of rfl _ rfl (cmA q n c x) rfl ?_
                   intro w1 x1 l1 s1
                   have X1 := Lib.hid x1
                   have L1 := Lib.hid l1
                   clear x1 l1 s1)
                | (with_reducible show wpList _ _ _ (⟨some 3, Op.box cmT _, _, _, _, none⟩ :: _) _ _
                   refine wpList_boxA_of rfl _ rfl (cmA p m d y) rfl ?_
                   intro w2 x2 l2 s2
                   have X2 := Lib.hid (X1.out.keep (l2.block _ X1.out.lt))
                   have Y2 := Lib.hid x2
                   have L2 := Lib.hid (L1.out.trans (l2.mono L1.out.size))
                   obtain ⟨c0, c1, c2, c3, c4, c10⟩ := boxCm X2.out
                   obtain ⟨d0, d1, d2, d3, d4, d10⟩ := boxCm Y2.out
                   have RX := Lib.hid (opRange X2.out)
                   have RY := Lib.hid (opRange Y2.out)
                   clear x2 l2 s2 X1 L1)
                | (with_reducible show wpList _ _ _ (⟨some 33, Op.load roT _, _, _, _, _⟩ :: _) _ _
                   refine wpList_cmop_load rfl _ rfl w.heap.size rfl x.o RX.out ?_)
                | (with_reducible show wpList _ _ _ (⟨some 35, Op.load roT _, _, _, _, _⟩ :: _) _ _
                   refine wpList_cmop_load rfl _ rfl w1.heap.size rfl y.o RY.out ?_)
                | (with_reducible show wpList _ _ _ (⟨_, Op.binOp .eql roT _ _ _, _, _, _, _⟩ :: _) _ _
                   refine wpList_rop_eql rfl _ _ rfl x.o y.o rfl rfl ?_
                   have hE := HE.out)
                | (with_reducible show wpList _ _ _ (⟨some 41, Op.convert _ _ _, _, _, _, _⟩ :: _) _ _
                   refine wpList_string_w rfl _ rfl q n c rfl g (HQ.out _ L2.out) ?_)
                | (with_reducible show wpList _ _ _ (⟨some 44, Op.convert _ _ _, _, _, _, _⟩ :: _) _ _
                   refine wpList_string_w rfl _ rfl p m d rfl h (HP.out _ L2.out) ?_
                   have hSS := HSS.out))
              go_ret
              exact ⟨by rw [← HV.out]; unfold sameB; rw [hK, hU, hB, hM, HE.out, hD]; rfl, L2.out⟩
            · skip
              go_enter Try.func18, Try.ntmps18
              go_wp2_with (first
                | (with_reducible show wpList _ _ _ (⟨some 2, Op.box cmT _, _, _, _, none⟩ :: _) _ _
                   refine wpList_boxA_of rfl _ rfl (cmA q n c x) rfl ?_
                   intro w1 x1 l1 s1
                   have X1 := Lib.hid x1
                   have L1 := Lib.hid l1
                   clear x1 l1 s1)
                | (with_reducible show wpList _ _ _ (⟨some 3, Op.box cmT _, _, _, _, none⟩ :: _) _ _
                   refine wpList_boxA_of rfl _ rfl (cmA p m d y) rfl ?_
                   intro w2 x2 l2 s2
                   have X2 := Lib.hid (X1.out.keep (l2.block _ X1.out.lt))
                   have Y2 := Lib.hid x2
                   have L2 := Lib.hid (L1.out.trans (l2.mono L1.out.size))
                   obtain ⟨c0, c1, c2, c3, c4, c10⟩ := boxCm X2.out
                   obtain ⟨d0, d1, d2, d3, d4, d10⟩ := boxCm Y2.out
                   have RX := Lib.hid (opRange X2.out)
                   have RY := Lib.hid (opRange Y2.out)
                   clear x2 l2 s2 X1 L1)
                | (with_reducible show wpList _ _ _ (⟨some 33, Op.load roT _, _, _, _, _⟩ :: _) _ _
                   refine wpList_cmop_load rfl _ rfl w.heap.size rfl x.o RX.out ?_)
                | (with_reducible show wpList _ _ _ (⟨some 35, Op.load roT _, _, _, _, _⟩ :: _) _ _
                   refine wpList_cmop_load rfl _ rfl w1.heap.size rfl y.o RY.out ?_)
                | (with_reducible show wpList _ _ _ (⟨_, Op.binOp .eql roT _ _ _, _, _, _, _⟩ :: _) _ _
                   refine wpList_rop_eql rfl _ _ rfl x.o y.o rfl rfl ?_
                   have hE := HE.out)
                | (with_reducible show wpList _ _ _ (⟨some 41, Op.convert _ _ _, _, _, _, _⟩ :: _) _ _
                   refine wpList_string_w rfl _ rfl q n c rfl g (HQ.out _ L2.out) ?_)
                | (with_reducible show wpList _ _ _ (⟨some 44, Op.convert _ _ _, _, _, _, _⟩ :: _) _ _
                   refine wpList_string_w rfl _ rfl p m d rfl h (HP.out _ L2.out) ?_
                   have hSS := HSS.out))
              go_ret
              exact ⟨by rw [← HV.out]; unfold sameB; rw [hK, hU, hB, hM, HE.out, hD]; rfl, L2.out⟩
end Go.Proofs.Ytkibeddfkenlkaa
