/- ResvEnds: behind a clearing nobody is there; who ends its registration holds no more. Condition: none but the arguments' own forms; package resv by resvSpec. -/
import Derived.Test.YtfnkdmdcjliebaaRvAlive
import Derived.Test.YtfnkdmdcjliebaaRvOps
import Derived.Test.YtfnkdmdcjliebaaRvDo
namespace Go.Proofs.Ytfnkdmdcjliebaa
open Go.ChangeShapes Go.WideShapes Go.ChangeAt Go.RowKit
namespace resvEnds
set_option linter.unusedVariables false
theorem own : ownKnob Try.prog.godebug = none := by kernel_rfl
theorem built4 (a b : Int) : Try.prog.built roT [(0, .int .i64 4), (1, .int .i64 a), (2, .int .i64 b)] = some (ropA ⟨4, a, b, 0, 0, false⟩) := by kernel_rfl
theorem built1 (a b : Int) (s : Bool) : Try.prog.built roT [(0, .int .i64 1), (1, .int .i64 a), (2, .int .i64 b), (5, .bool s)] = some (ropA ⟨1, a, b, 0, 0, s⟩) := by kernel_rfl
theorem ok4 {a b : Int} (ha : okI a) (hb : okI b) : ROp.ok ⟨4, a, b, 0, 0, false⟩ := ⟨(show okI 4 from by unfold okI; decide), ha, hb, okI_zero, okI_zero⟩
theorem ok1 {a b : Int} (s : Bool) (ha : okI a) (hb : okI b) : ROp.ok ⟨1, a, b, 0, 0, s⟩ := ⟨(show okI 1 from by unfold okI; decide), ha, hb, okI_zero, okI_zero⟩
theorem key_ok {ks : List (Int × Int)} (h : ∀ p ∈ ks, okI p.1 ∧ okI p.2) (who : Int) : okI (keyR ks who) := by
  induction ks with
  | nil => exact okI_zero
  | cons p ps ih =>
    rw [key_cons]
    split
    · exact (h p List.mem_cons_self).2
    · exact ih fun x hx => h x (List.mem_cons_of_mem _ hx)
theorem good_cleared (r : ResvOf) (g : GoodR r) (h : r.g < 9223372036854775807) : goodR { r with regs := [], h := -1, t := 0, g := incR r.g } = true :=
  good_iff.2 ⟨Nat.zero_le _, by show 0 ≤ incR r.g; rw [inc_is g.gen h]; have := g.gen; omega, rfl, .inl ⟨rfl, rfl⟩⟩
attribute [local irreducible] regC atR atO doR runR ropC
attribute [local go_sem] Oper.semAt_some
set_option maxRecDepth 100000 in
set_option maxHeartbeats 8000000 in
theorem walk (K : ResvSpec) (q0 : Option Addr) (os : List ROp) (c0 : Nat) (hl : os.length ≤ maxLen) (hok : ∀ o ∈ os, o.ok) (who : Int) (hwho : okI who) (w : World) (y0 : OpsAt w q0 os) : Calls Try.prog 8 #[.slice q0 os.length c0, .int .i64 who] w fun e w' => e = .returned (.bool true) ∧ Below w.heap.size w w' := by
  have HK := Lib.hid K
  have HRUN := Lib.hid (fun (W : World) (hb : Below w.heap.size w W) => run_any K (n := os.length) (c := c0) (RowsAt.below y0 hb) rfl hl hok)
  have HG := Lib.hid (fun h => runs_good os h os.length (Nat.le_refl _))
  rw [List.take_of_length_le (Nat.le_refl _)] at HG
  have HW := Lib.hid hwho
  generalize hn : os.length = n at *
  generalize runR nobodyR os = r at *
  clear y0 hl hok hwho hn K
  by_cases h200 : 200 < n
  · have D1 := Lib.hid (show decide ((n : Int) ≤ 200) = false from by simp; omega)
    clear h200 HG
    go_enter Try.func8, Try.ntmps8
    go_wp2_with (first
      | (go_at_call 9; refine (alive_any HK.out w).mono ?_; rintro e w1 ⟨rfl, hb1⟩; have B1 := Lib.hid hb1; clear hb1)
      | (go_at_call 22
         refine (HRUN.out _ B1.out).mono ?_
         rw [D1.out]
         rintro e w2 ⟨q, m, d, rfl, r2, -, b2⟩
         have R2 := Lib.hid r2
         have B2 := Lib.hid (B1.out.trans (b2.mono B1.out.size))
         clear r2 b2 B1)
      | (with_reducible show wpList _ _ _ (⟨_, Op.alloc rvT, _, _, _, _⟩ :: _) _ _; refine wpList_boxA_new rowRv rfl rfl w2.heap.size rfl ?_
         intro w3 x3 l3 s3
         have X3 := Lib.hid x3
         have L3 := Lib.hid l3
         have S3 := Lib.hid s3
         clear x3 l3 s3)
      | (with_reducible show wpList _ _ _ (⟨_, Op.store rvT _ _, _, _, _, none⟩ :: _) _ _; refine wpList_boxA_put rowRv rfl _ _ rfl rfl w2.heap.size (resvA q m d r) _ rfl (rvA_one _ _ _ _) rfl rfl rfl X3.out ?_
         intro w4 x4 k4 s4
         have X4 := Lib.hid x4
         have L4 := Lib.hid (L3.out.trans (show Below w2.heap.size w3 w4 from k4.below L3.out.size (fun k hk e => by have := S3.out; omega)))
         have R4 := Lib.hid (R2.out.below L4.out)
         have B4 := Lib.hid (B2.out.trans (L4.out.mono B2.out.size))
         clear x4 k4 s4 X3 L3 S3 R2 B2 L4
         generalize w2.heap.size = J at *))
    go_ret
    exact ⟨rfl, B4.out⟩
  have D1 := Lib.hid (show decide ((n : Int) ≤ 200) = true from by simp; omega)
  have G0 := Lib.hid (HG.out (by omega))
  have HL := Lib.hid (show r.g < 9223372036854775807 from by have := (HG.out (by omega)).2; omega)
  clear h200 HG
  by_cases h0 : keyR r.regs who = 0
  · have f0 : (keyR r.regs who == 0) = true := by simp [h0]
    have H0 := Lib.hid h0
    clear h0
    by_cases hneg : who < 0
    · have f1 : max who 0 = 0 := by omega
      have f2 : decide (who < 0) = true := by simp [hneg]
      go_enter Try.func8, Try.ntmps8
      go_wp2_with (first
        | (go_at_call 9; refine (alive_any HK.out w).mono ?_; rintro e w1 ⟨rfl, hb1⟩; have B1 := Lib.hid hb1; clear hb1)
        | (go_at_call 22
           refine (HRUN.out _ B1.out).mono ?_
           rw [D1.out]
           rintro e w2 ⟨q, m, d, rfl, r2, -, b2⟩
           have R2 := Lib.hid r2
           have B2 := Lib.hid (B1.out.trans (b2.mono B1.out.size))
           clear r2 b2 B1)
        | (with_reducible show wpList _ _ _ (⟨_, Op.alloc rvT, _, _, _, _⟩ :: _) _ _; refine wpList_boxA_new rowRv rfl rfl w2.heap.size rfl ?_
           intro w3 x3 l3 s3
           have X3 := Lib.hid x3
           have L3 := Lib.hid l3
           have S3 := Lib.hid s3
           clear x3 l3 s3)
        | (with_reducible show wpList _ _ _ (⟨_, Op.store rvT _ _, _, _, _, none⟩ :: _) _ _; refine wpList_boxA_put rowRv rfl _ _ rfl rfl w2.heap.size (resvA q m d r) _ rfl (rvA_one _ _ _ _) rfl rfl rfl X3.out ?_
           intro w4 x4 k4 s4
           have X4 := Lib.hid x4
           have L4 := Lib.hid (L3.out.trans (show Below w2.heap.size w3 w4 from k4.below L3.out.size (fun k hk e => by have := S3.out; omega)))
           have R4 := Lib.hid (R2.out.below L4.out)
           have B4 := Lib.hid (B2.out.trans (L4.out.mono B2.out.size))
           clear x4 k4 s4 X3 L3 S3 R2 B2 L4
           generalize w2.heap.size = J at *)
        | (with_reducible show wpList _ _ _ (⟨_, Op.load rvT _, _, _, _, _⟩ :: _) _ _; refine wpList_boxA_loadw rowRv _ rfl rfl J (resvA q m d r) rfl rfl X4.out ?_)
        | (go_at_call 16
           refine (refKey_any R4.out.at_ R4.out.len R4.out.few _).mono ?_; rintro e w5 ⟨rfl, b5⟩
           have X5 := Lib.hid (X4.out.keep (b5.block _ X4.out.lt))
           have R5 := Lib.hid (R4.out.below b5)
           have B5 := Lib.hid (B4.out.trans (b5.mono B4.out.size))
           clear b5 X4 R4 B4)
        | (with_reducible show wpList _ _ _ (⟨_, Op.load rvT _, _, _, _, _⟩ :: _) _ _; refine wpList_boxA_loadw rowRv _ rfl rfl J (resvA q m d r) rfl rfl X5.out ?_)
        | (with_reducible show wpList _ _ _ (⟨_, Op.build _ _, _, _, _, none⟩ :: _) _ _; refine wpList_build_any rfl roT _ #[(0, .int .i64 4), (1, .int .i64 0), (2, .int .i64 1)] _ rfl rfl (fun w => run_build w roT #[(0, .int .i64 4), (1, .int .i64 0), (2, .int .i64 1)] _ (built4 0 1)) ?_)
        | (go_at_call 10
           have HD := HK.out.do_ ⟨4, 0, 1, 0, 0, false⟩ R5.out (ok4 okI_zero (by unfold okI; decide))
           generalize doR r _ = nx at HD
           refine HD.mono ?_; clear HD; rintro e w6 ⟨q6, m6, d6, rfl, o6, b6⟩
           have X6 := Lib.hid (X5.out.keep (b6.block _ X5.out.lt))
           have R6 := Lib.hid (R5.out.below b6)
           have B6 := Lib.hid (B5.out.trans (b6.mono B5.out.size))
           clear b6 X5 R5 B5)
        | (with_reducible show wpList _ _ _ (⟨_, Op.alloc rvT, _, _, _, _⟩ :: _) _ _; refine wpList_boxA_new rowRv rfl rfl w6.heap.size rfl ?_
           intro w7 y7 l7 s7
           have Y7 := Lib.hid y7
           have L7 := Lib.hid l7
           have S7 := Lib.hid s7
           clear y7 l7 s7)
        | (with_reducible show wpList _ _ _ (⟨_, Op.store rvT _ _, _, _, _, none⟩ :: _) _ _; refine wpList_boxA_put rowRv rfl _ _ rfl rfl w6.heap.size (resvA q6 m6 d6 nx.1) _ rfl (rvA_one _ _ _ _) rfl rfl rfl Y7.out ?_
           intro w8 y8 k8 s8
           have Y8 := Lib.hid y8
           have L8 := Lib.hid (L7.out.trans (show Below w6.heap.size w7 w8 from k8.below L7.out.size (fun k hk e => by have := S7.out; omega)))
           have X8 := Lib.hid (X6.out.keep (L8.out.block _ X6.out.lt))
           have R8 := Lib.hid (R6.out.below L8.out)
           have B8 := Lib.hid (B6.out.trans (L8.out.mono B6.out.size))
           clear y8 k8 s8 Y7 L7 S7 X6 R6 B6 L8
           generalize w6.heap.size = J8 at *))
      go_ret
      exact ⟨rfl, B8.out⟩
    · have HN := Lib.hid (show 0 ≤ who from by omega)
      have f1 : max who 0 = who := by omega
      have f2 : decide (who < 0) = false := by simp; omega
      have f3 : ¬ who < 0 := by omega
      clear hneg
      go_enter Try.func8, Try.ntmps8
      go_wp2_with (first
        | (go_at_call 9; refine (alive_any HK.out w).mono ?_; rintro e w1 ⟨rfl, hb1⟩; have B1 := Lib.hid hb1; clear hb1)
        | (go_at_call 22
           refine (HRUN.out _ B1.out).mono ?_
           rw [D1.out]
           rintro e w2 ⟨q, m, d, rfl, r2, -, b2⟩
           have R2 := Lib.hid r2
           have B2 := Lib.hid (B1.out.trans (b2.mono B1.out.size))
           clear r2 b2 B1)
        | (with_reducible show wpList _ _ _ (⟨_, Op.alloc rvT, _, _, _, _⟩ :: _) _ _; refine wpList_boxA_new rowRv rfl rfl w2.heap.size rfl ?_
           intro w3 x3 l3 s3
           have X3 := Lib.hid x3
           have L3 := Lib.hid l3
           have S3 := Lib.hid s3
           clear x3 l3 s3)
        | (with_reducible show wpList _ _ _ (⟨_, Op.store rvT _ _, _, _, _, none⟩ :: _) _ _; refine wpList_boxA_put rowRv rfl _ _ rfl rfl w2.heap.size (resvA q m d r) _ rfl (rvA_one _ _ _ _) rfl rfl rfl X3.out ?_
           intro w4 x4 k4 s4
           have X4 := Lib.hid x4
           have L4 := Lib.hid (L3.out.trans (show Below w2.heap.size w3 w4 from k4.below L3.out.size (fun k hk e => by have := S3.out; omega)))
           have R4 := Lib.hid (R2.out.below L4.out)
           have B4 := Lib.hid (B2.out.trans (L4.out.mono B2.out.size))
           clear x4 k4 s4 X3 L3 S3 R2 B2 L4
           generalize w2.heap.size = J at *)
        | (with_reducible show wpList _ _ _ (⟨_, Op.load rvT _, _, _, _, _⟩ :: _) _ _; refine wpList_boxA_loadw rowRv _ rfl rfl J (resvA q m d r) rfl rfl X4.out ?_)
        | (go_at_call 16
           refine (refKey_any R4.out.at_ R4.out.len R4.out.few _).mono ?_; rintro e w5 ⟨rfl, b5⟩
           have X5 := Lib.hid (X4.out.keep (b5.block _ X4.out.lt))
           have R5 := Lib.hid (R4.out.below b5)
           have B5 := Lib.hid (B4.out.trans (b5.mono B4.out.size))
           clear b5 X4 R4 B4)
        | (with_reducible show wpList _ _ _ (⟨_, Op.load rvT _, _, _, _, _⟩ :: _) _ _; refine wpList_boxA_loadw rowRv _ rfl rfl J (resvA q m d r) rfl rfl X5.out ?_)
        | (with_reducible show wpList _ _ _ (⟨_, Op.build _ _, _, _, _, none⟩ :: _) _ _; refine wpList_build_any rfl roT _ #[(0, .int .i64 4), (1, .int .i64 who), (2, .int .i64 1)] _ rfl rfl (fun w => run_build w roT #[(0, .int .i64 4), (1, .int .i64 who), (2, .int .i64 1)] _ (built4 who 1)) ?_)
        | (go_at_call 10
           have HD := HK.out.do_ ⟨4, who, 1, 0, 0, false⟩ R5.out (ok4 HW.out (by unfold okI; decide))
           rw [clear_none G0.out.1 HN.out H0.out, errN_not (z := 9) (by decide)] at HD
           generalize (doR r _).1 = nx at HD
           refine HD.mono ?_; clear HD; rintro e w6 ⟨q6, m6, d6, rfl, o6, b6⟩
           have X6 := Lib.hid (X5.out.keep (b6.block _ X5.out.lt))
           have R6 := Lib.hid (R5.out.below b6)
           have B6 := Lib.hid (B5.out.trans (b6.mono B5.out.size))
           clear b6 X5 R5 B5)
        | (with_reducible show wpList _ _ _ (⟨_, Op.alloc rvT, _, _, _, _⟩ :: _) _ _; refine wpList_boxA_new rowRv rfl rfl w6.heap.size rfl ?_
           intro w7 y7 l7 s7
           have Y7 := Lib.hid y7
           have L7 := Lib.hid l7
           have S7 := Lib.hid s7
           clear y7 l7 s7)
        | (with_reducible show wpList _ _ _ (⟨_, Op.store rvT _ _, _, _, _, none⟩ :: _) _ _; refine wpList_boxA_put rowRv rfl _ _ rfl rfl w6.heap.size (resvA q6 m6 d6 nx) _ rfl (rvA_one _ _ _ _) rfl rfl rfl Y7.out ?_
           intro w8 y8 k8 s8
           have Y8 := Lib.hid y8
           have L8 := Lib.hid (L7.out.trans (show Below w6.heap.size w7 w8 from k8.below L7.out.size (fun k hk e => by have := S7.out; omega)))
           have X8 := Lib.hid (X6.out.keep (L8.out.block _ X6.out.lt))
           have R8 := Lib.hid (R6.out.below L8.out)
           have B8 := Lib.hid (B6.out.trans (L8.out.mono B6.out.size))
           clear y8 k8 s8 Y7 L7 S7 X6 R6 B6 L8
           generalize w6.heap.size = J8 at *)
        | (go_at_call 17
           refine (Is_err 9 rfl _).mono ?_; rintro e w9 ⟨rfl, rfl⟩))
      go_ret
      exact ⟨rfl, B8.out⟩
  have f0 : (keyR r.regs who == 0) = false := by simp [h0]
  have HC := Lib.hid (clear_all G0.out.1 h0)
  have HE := Lib.hid (ends_is G0.out.1 h0)
  have HV := Lib.hid (ends_leaves G0.out.1 h0)
  have HKO := Lib.hid (show r.ok → okI (keyR r.regs who) from fun h => key_ok h.1 who)
  have HGC := Lib.hid (good_cleared r G0.out.1 HL.out)
  have HAL := Lib.hid (fun x => (allowed_nobody (r := { r with regs := [], h := -1, t := 0, g := incR r.g }) rfl x).2)
  clear h0 G0 HL
  have HCL := Lib.hid (show ({ r with regs := [], h := -1, t := 0, g := incR r.g } : ResvOf).regs = [] ∧ ({ r with regs := [], h := -1, t := 0, g := incR r.g } : ResvOf).h = -1 from ⟨rfl, rfl⟩)
  have HCK := Lib.hid (show r.ok → ({ r with regs := [], h := -1, t := 0, g := incR r.g } : ResvOf).ok from fun h => ⟨(fun p hp => nomatch hp), okI_neg, okI_zero, okI_inc _⟩)
  have HNK := Lib.hid (show r.ok → ({ withoutR r [who] with s := r.s, g := incR r.g } : ResvOf).ok from fun h => by have := without_ok h [who]; exact ⟨this.1, this.2.1, this.2.2.1, okI_inc _⟩)
  have HNF := Lib.hid (show ({ withoutR r [who] with s := r.s, g := incR r.g } : ResvOf).regs.length ≤ 4 from by have := do_few r ⟨1, who, keyR r.regs who, 0, 0, r.s⟩; rw [HE.out] at this; exact this)
  have HNX := Lib.hid (show keyR ({ withoutR r [who] with s := r.s, g := incR r.g } : ResvOf).regs who = 0 ∧ ({ withoutR r [who] with s := r.s, g := incR r.g } : ResvOf).h ≠ who ∧ (r.h ≠ who ∨ (5 ≤ r.t ∧ 1 < r.regs.length) ∨ ({ withoutR r [who] with s := r.s, g := incR r.g } : ResvOf).h = -1) from HV.out)
  clear HV
  generalize ({ r with regs := [], h := -1, t := 0, g := incR r.g } : ResvOf) = cl at *
  generalize ({ withoutR r [who] with s := r.s, g := incR r.g } : ResvOf) = nx at *
  have e1 : (keyR nx.regs who == 0) = true := by simp [HNX.out.1]
  have e2 : (keyR nx.regs who != 0) = false := by simp [HNX.out.1]
  have e3 : (nx.h == who) = false := by simp [HNX.out.2.1]
  obtain ⟨x1, hx1⟩ : ∃ x, IntKind.i64.wrap (who + 1) = x := ⟨_, rfl⟩
  have HX1 := Lib.hid (show okI x1 from by rw [← hx1]; exact okI_inc who)
  by_cases hh : r.h = who
  · have i1 : (r.h == who) = true := by simp [hh]
    have i2 : (r.h != who) = false := by simp [hh]
    by_cases h5 : 5 ≤ r.t
    · have i3 : decide (5 ≤ r.t) = true := by simp [h5]
      by_cases hm : 1 < r.regs.length
      · have HM := Lib.hid (show ∀ n : Nat, r.regs.length = n → decide (1 < (n : Int)) = true from fun n e => by simp; omega)
        clear hh h5 hm
        go_enter Try.func8, Try.ntmps8
        go_wp2_with (first
          | (go_at_call 9; refine (alive_any HK.out w).mono ?_; rintro e w1 ⟨rfl, hb1⟩; have B1 := Lib.hid hb1; clear hb1)
          | (go_at_call 22
             refine (HRUN.out _ B1.out).mono ?_
             rw [D1.out]
             rintro e w2 ⟨q, m, d, rfl, r2, -, b2⟩
             have R2 := Lib.hid r2
             have B2 := Lib.hid (B1.out.trans (b2.mono B1.out.size))
             clear r2 b2 B1)
          | (with_reducible show wpList _ _ _ (⟨_, Op.alloc rvT, _, _, _, _⟩ :: _) _ _; refine wpList_boxA_new rowRv rfl rfl w2.heap.size rfl ?_
             intro w3 x3 l3 s3
             have X3 := Lib.hid x3
             have L3 := Lib.hid l3
             have S3 := Lib.hid s3
             clear x3 l3 s3)
          | (with_reducible show wpList _ _ _ (⟨_, Op.store rvT _ _, _, _, _, none⟩ :: _) _ _; refine wpList_boxA_put rowRv rfl _ _ rfl rfl w2.heap.size (resvA q m d r) _ rfl (rvA_one _ _ _ _) rfl rfl rfl X3.out ?_
             intro w4 x4 k4 s4
             have X4 := Lib.hid x4
             have L4 := Lib.hid (L3.out.trans (show Below w2.heap.size w3 w4 from k4.below L3.out.size (fun k hk e => by have := S3.out; omega)))
             have R4 := Lib.hid (R2.out.below L4.out)
             have R5L := Lib.hid R2.out.len
             have B4 := Lib.hid (B2.out.trans (L4.out.mono B2.out.size))
             clear x4 k4 s4 X3 L3 S3 R2 B2 L4
             generalize w2.heap.size = J at *)
          | (with_reducible show wpList _ _ _ (⟨_, Op.load rvT _, _, _, _, _⟩ :: _) _ _; refine wpList_boxA_loadw rowRv _ rfl rfl J (resvA q m d r) rfl rfl X4.out ?_)
          | (go_at_call 16
             refine (refKey_any R4.out.at_ R4.out.len R4.out.few _).mono ?_; rintro e w5 ⟨rfl, b5⟩
             have X5 := Lib.hid (X4.out.keep (b5.block _ X4.out.lt))
             have R5 := Lib.hid (R4.out.below b5)
             have B5 := Lib.hid (B4.out.trans (b5.mono B4.out.size))
             clear b5 X4 R4 B4)
          | (with_reducible show wpList _ _ _ (⟨_, Op.load rvT _, _, _, _, _⟩ :: _) _ _; refine wpList_boxA_loadw rowRv _ rfl rfl J (resvA q m d r) rfl rfl X5.out ?_)
          | (with_reducible show wpList _ _ _ (⟨_, Op.build _ _, _, _, _, none⟩ :: _) _ _; refine wpList_build_any rfl roT _ #[(0, .int .i64 4), (1, .int .i64 who), (2, .int .i64 (keyR r.regs who))] _ rfl rfl (fun w => run_build w roT #[(0, .int .i64 4), (1, .int .i64 who), (2, .int .i64 (keyR r.regs who))] _ (built4 who (keyR r.regs who))) ?_)
          | (go_at_call 10
             have HD := HK.out.do_ ⟨4, who, keyR r.regs who, 0, 0, false⟩ R5.out (ok4 HW.out (HKO.out R5.out.ok))
             rw [HC.out, errN_zero] at HD
             refine HD.mono ?_; clear HD; rintro e w6 ⟨q6, m6, d6, rfl, o6, b6⟩
             have X6 := Lib.hid (X5.out.keep (b6.block _ X5.out.lt))
             have R6 := Lib.hid (R5.out.below b6)
             have B6 := Lib.hid (B5.out.trans (b6.mono B5.out.size))
             have C6 := Lib.hid (OwnR.at_ (r := cl) o6 (HCK.out R5.out.ok) (by rw [HCL.out.1]; exact Nat.zero_le _))
             have N6 : m6 = 0 := by rw [C6.out.2, HCL.out.1]; rfl
             subst N6
             clear b6 X5 R5 B5)
          | (with_reducible show wpList _ _ _ (⟨_, Op.alloc rvT, _, _, _, _⟩ :: _) _ _; refine wpList_boxA_new rowRv rfl rfl w6.heap.size rfl ?_
             intro w7 y7 l7 s7
             have Y7 := Lib.hid y7
             have L7 := Lib.hid l7
             have S7 := Lib.hid s7
             clear y7 l7 s7)
          | (with_reducible show wpList _ _ _ (⟨_, Op.store rvT _ _, _, _, _, none⟩ :: _) _ _; refine wpList_boxA_put rowRv rfl _ _ rfl rfl w6.heap.size (resvA q6 0 d6 cl) _ rfl (rvA_one _ _ _ _) rfl rfl rfl Y7.out ?_
             intro w8 y8 k8 s8
             have Y8 := Lib.hid y8
             have L8 := Lib.hid (L7.out.trans (show Below w6.heap.size w7 w8 from k8.below L7.out.size (fun k hk e => by have := S7.out; omega)))
             have X8 := Lib.hid (X6.out.keep (L8.out.block _ X6.out.lt))
             have R8 := Lib.hid (R6.out.below L8.out)
             have B8 := Lib.hid (B6.out.trans (L8.out.mono B6.out.size))
             have C8 := Lib.hid (C6.out.1.below L8.out)
             have c0 : w8.cell? ⟨w6.heap.size, 0, none⟩ = some (.slice q6 0 d6) := Y8.out.cell 0
             have c1 : w8.cell? ⟨w6.heap.size, 1, none⟩ = some (.int .i64 (-1)) := (Y8.out.cell 1).trans (by rw [← HCL.out.2]; rfl)
             clear C6
             clear y8 k8 s8 Y7 L7 S7 X6 R6 B6 L8
             generalize w6.heap.size = J8 at *)
          | (with_reducible show wpList _ _ _ (⟨_, Op.load rvT _, _, _, _, _⟩ :: _) _ _; refine wpList_boxA_loadw rowRv _ rfl rfl J8 (resvA q6 0 d6 cl) rfl rfl Y8.out ?_)
          | (go_at_call 20
             have HA := HK.out.allowed x1 2 HX1.out (by unfold okI; decide) C8.out HGC.out
             rw [HAL.out x1] at HA
             refine HA.mono ?_; clear HA; rintro e w9 ⟨rfl, b9⟩
             have X9 := Lib.hid (X8.out.keep (b9.block _ X8.out.lt))
             have R9 := Lib.hid (R8.out.below b9)
             have B9 := Lib.hid (B8.out.trans (b9.mono B8.out.size))
             clear b9 X8 R8 B8 Y8 C8 c0 c1
             have g3 : w9.cell? ⟨J, 3, none⟩ = some (.bool r.s) := X9.out.cell 3)
          | (with_reducible show wpList _ _ _ (⟨_, Op.load rvT _, _, _, _, _⟩ :: _) _ _; refine wpList_boxA_loadw rowRv _ rfl rfl J (resvA q m d r) rfl rfl X9.out ?_)
          | (with_reducible show wpList _ _ _ (⟨_, Op.build _ _, _, _, _, none⟩ :: _) _ _; refine wpList_build_any rfl roT _ #[(0, .int .i64 1), (1, .int .i64 who), (2, .int .i64 (keyR r.regs who)), (5, .bool r.s)] _ rfl rfl (fun w => run_build w roT #[(0, .int .i64 1), (1, .int .i64 who), (2, .int .i64 (keyR r.regs who)), (5, .bool r.s)] _ (built1 who (keyR r.regs who) r.s)) ?_)
          | (go_at_call 10
             have HD := HK.out.do_ ⟨1, who, keyR r.regs who, 0, 0, r.s⟩ R9.out (ok1 r.s HW.out (HKO.out R9.out.ok))
             rw [HE.out, errN_zero] at HD
             refine HD.mono ?_; clear HD; rintro e w10 ⟨q10, m10, d10, rfl, o10, b10⟩
             have X10 := Lib.hid (X9.out.keep (b10.block _ X9.out.lt))
             have R10 := Lib.hid (R9.out.below b10)
             have B10 := Lib.hid (B9.out.trans (b10.mono B9.out.size))
             have C10 := Lib.hid (OwnR.at_ (r := nx) o10 (HNK.out R9.out.ok) HNF.out)
             clear g3
             clear b10 X9 R9 B9)
          | (with_reducible show wpList _ _ _ (⟨_, Op.alloc rvT, _, _, _, _⟩ :: _) _ _; refine wpList_boxA_new rowRv rfl rfl w10.heap.size rfl ?_
             intro w11 y11 l11 s11
             have Y11 := Lib.hid y11
             have L11 := Lib.hid l11
             have S11 := Lib.hid s11
             clear y11 l11 s11)
          | (with_reducible show wpList _ _ _ (⟨_, Op.store rvT _ _, _, _, _, none⟩ :: _) _ _; refine wpList_boxA_put rowRv rfl _ _ rfl rfl w10.heap.size (resvA q10 m10 d10 nx) _ rfl (rvA_one _ _ _ _) rfl rfl rfl Y11.out ?_
             intro w12 y12 k12 s12
             have Y12 := Lib.hid y12
             have L12 := Lib.hid (L11.out.trans (show Below w10.heap.size w11 w12 from k12.below L11.out.size (fun k hk e => by have := S11.out; omega)))
             have X12 := Lib.hid (X10.out.keep (L12.out.block _ X10.out.lt))
             have R12 := Lib.hid (R10.out.below L12.out)
             have B12 := Lib.hid (B10.out.trans (L12.out.mono B10.out.size))
             have C12 := Lib.hid (C10.out.1.below L12.out)
             clear C10
             clear y12 k12 s12 Y11 L11 S11 X10 R10 B10 L12
             generalize w10.heap.size = J12 at *)
          | (with_reducible show wpList _ _ _ (⟨_, Op.load rvT _, _, _, _, _⟩ :: _) _ _; refine wpList_boxA_loadw rowRv _ rfl rfl J12 (resvA q10 m10 d10 nx) rfl rfl Y12.out ?_)
          | (go_at_call 16
             refine (refKey_any C12.out.at_ C12.out.len C12.out.few _).mono ?_; rintro e w13 ⟨rfl, b13⟩
             have B13 := Lib.hid (B12.out.trans (b13.mono B12.out.size))
             have Y13 := Lib.hid (Y12.out.keep (b13.block _ Y12.out.lt))
             have X13 := Lib.hid (X12.out.keep (b13.block _ X12.out.lt))
             clear b13 Y12 X12 R12 B12
             have h1 : w13.cell? ⟨J12, 1, none⟩ = some (.int .i64 nx.h) := Y13.out.cell 1
             have g0 : w13.cell? ⟨J, 0, none⟩ = some (.slice q m d) := X13.out.cell 0
             have g1 : w13.cell? ⟨J, 1, none⟩ = some (.int .i64 r.h) := X13.out.cell 1
             have i4 := HM.out m R5L.out
             have g2 : w13.cell? ⟨J, 2, none⟩ = some (.int .i64 r.t) := X13.out.cell 2))
        go_ret
        exact ⟨rfl, B13.out⟩
      · have HM := Lib.hid (show ∀ n : Nat, r.regs.length = n → decide (1 < (n : Int)) = false from fun n e => by simp; omega)
        have i5 : (nx.h == -1) = true := by
          rcases HNX.out.2.2 with h | h | h
          · exact absurd hh h
          · exact absurd h.2 hm
          · simp [h]
        clear hh h5 hm
        go_enter Try.func8, Try.ntmps8
        go_wp2_with (first
          | (go_at_call 9; refine (alive_any HK.out w).mono ?_; rintro e w1 ⟨rfl, hb1⟩; have B1 := Lib.hid hb1; clear hb1)
          | (go_at_call 22
             refine (HRUN.out _ B1.out).mono ?_
             rw [D1.out]
             rintro e w2 ⟨q, m, d, rfl, r2, -, b2⟩
             have R2 := Lib.hid r2
             have B2 := Lib.hid (B1.out.trans (b2.mono B1.out.size))
             clear r2 b2 B1)
          | (with_reducible show wpList _ _ _ (⟨_, Op.alloc rvT, _, _, _, _⟩ :: _) _ _; refine wpList_boxA_new rowRv rfl rfl w2.heap.size rfl ?_
             intro w3 x3 l3 s3
             have X3 := Lib.hid x3
             have L3 := Lib.hid l3
             have S3 := Lib.hid s3
             clear x3 l3 s3)
          | (with_reducible show wpList _ _ _ (⟨_, Op.store rvT _ _, _, _, _, none⟩ :: _) _ _; refine wpList_boxA_put rowRv rfl _ _ rfl rfl w2.heap.size (resvA q m d r) _ rfl (rvA_one _ _ _ _) rfl rfl rfl X3.out ?_
             intro w4 x4 k4 s4
             have X4 := Lib.hid x4
             have L4 := Lib.hid (L3.out.trans (show Below w2.heap.size w3 w4 from k4.below L3.out.size (fun k hk e => by have := S3.out; omega)))
             have R4 := Lib.hid (R2.out.below L4.out)
             have R5L := Lib.hid R2.out.len
             have B4 := Lib.hid (B2.out.trans (L4.out.mono B2.out.size))
             clear x4 k4 s4 X3 L3 S3 R2 B2 L4
             generalize w2.heap.size = J at *)
          | (with_reducible show wpList _ _ _ (⟨_, Op.load rvT _, _, _, _, _⟩ :: _) _ _; refine wpList_boxA_loadw rowRv _ rfl rfl J (resvA q m d r) rfl rfl X4.out ?_)
          | (go_at_call 16
             refine (refKey_any R4.out.at_ R4.out.len R4.out.few _).mono ?_; rintro e w5 ⟨rfl, b5⟩
             have X5 := Lib.hid (X4.out.keep (b5.block _ X4.out.lt))
             have R5 := Lib.hid (R4.out.below b5)
             have B5 := Lib.hid (B4.out.trans (b5.mono B4.out.size))
             clear b5 X4 R4 B4)
          | (with_reducible show wpList _ _ _ (⟨_, Op.load rvT _, _, _, _, _⟩ :: _) _ _; refine wpList_boxA_loadw rowRv _ rfl rfl J (resvA q m d r) rfl rfl X5.out ?_)
          | (with_reducible show wpList _ _ _ (⟨_, Op.build _ _, _, _, _, none⟩ :: _) _ _; refine wpList_build_any rfl roT _ #[(0, .int .i64 4), (1, .int .i64 who), (2, .int .i64 (keyR r.regs who))] _ rfl rfl (fun w => run_build w roT #[(0, .int .i64 4), (1, .int .i64 who), (2, .int .i64 (keyR r.regs who))] _ (built4 who (keyR r.regs who))) ?_)
          | (go_at_call 10
             have HD := HK.out.do_ ⟨4, who, keyR r.regs who, 0, 0, false⟩ R5.out (ok4 HW.out (HKO.out R5.out.ok))
             rw [HC.out, errN_zero] at HD
             refine HD.mono ?_; clear HD; rintro e w6 ⟨q6, m6, d6, rfl, o6, b6⟩
             have X6 := Lib.hid (X5.out.keep (b6.block _ X5.out.lt))
             have R6 := Lib.hid (R5.out.below b6)
             have B6 := Lib.hid (B5.out.trans (b6.mono B5.out.size))
             have C6 := Lib.hid (OwnR.at_ (r := cl) o6 (HCK.out R5.out.ok) (by rw [HCL.out.1]; exact Nat.zero_le _))
             have N6 : m6 = 0 := by rw [C6.out.2, HCL.out.1]; rfl
             subst N6
             clear b6 X5 R5 B5)
          | (with_reducible show wpList _ _ _ (⟨_, Op.alloc rvT, _, _, _, _⟩ :: _) _ _; refine wpList_boxA_new rowRv rfl rfl w6.heap.size rfl ?_
             intro w7 y7 l7 s7
             have Y7 := Lib.hid y7
             have L7 := Lib.hid l7
             have S7 := Lib.hid s7
             clear y7 l7 s7)
          | (with_reducible show wpList _ _ _ (⟨_, Op.store rvT _ _, _, _, _, none⟩ :: _) _ _; refine wpList_boxA_put rowRv rfl _ _ rfl rfl w6.heap.size (resvA q6 0 d6 cl) _ rfl (rvA_one _ _ _ _) rfl rfl rfl Y7.out ?_
             intro w8 y8 k8 s8
             have Y8 := Lib.hid y8
             have L8 := Lib.hid (L7.out.trans (show Below w6.heap.size w7 w8 from k8.below L7.out.size (fun k hk e => by have := S7.out; omega)))
             have X8 := Lib.hid (X6.out.keep (L8.out.block _ X6.out.lt))
             have R8 := Lib.hid (R6.out.below L8.out)
             have B8 := Lib.hid (B6.out.trans (L8.out.mono B6.out.size))
             have C8 := Lib.hid (C6.out.1.below L8.out)
             have c0 : w8.cell? ⟨w6.heap.size, 0, none⟩ = some (.slice q6 0 d6) := Y8.out.cell 0
             have c1 : w8.cell? ⟨w6.heap.size, 1, none⟩ = some (.int .i64 (-1)) := (Y8.out.cell 1).trans (by rw [← HCL.out.2]; rfl)
             clear C6
             clear y8 k8 s8 Y7 L7 S7 X6 R6 B6 L8
             generalize w6.heap.size = J8 at *)
          | (with_reducible show wpList _ _ _ (⟨_, Op.load rvT _, _, _, _, _⟩ :: _) _ _; refine wpList_boxA_loadw rowRv _ rfl rfl J8 (resvA q6 0 d6 cl) rfl rfl Y8.out ?_)
          | (go_at_call 20
             have HA := HK.out.allowed x1 2 HX1.out (by unfold okI; decide) C8.out HGC.out
             rw [HAL.out x1] at HA
             refine HA.mono ?_; clear HA; rintro e w9 ⟨rfl, b9⟩
             have X9 := Lib.hid (X8.out.keep (b9.block _ X8.out.lt))
             have R9 := Lib.hid (R8.out.below b9)
             have B9 := Lib.hid (B8.out.trans (b9.mono B8.out.size))
             clear b9 X8 R8 B8 Y8 C8 c0 c1
             have g3 : w9.cell? ⟨J, 3, none⟩ = some (.bool r.s) := X9.out.cell 3)
          | (with_reducible show wpList _ _ _ (⟨_, Op.load rvT _, _, _, _, _⟩ :: _) _ _; refine wpList_boxA_loadw rowRv _ rfl rfl J (resvA q m d r) rfl rfl X9.out ?_)
          | (with_reducible show wpList _ _ _ (⟨_, Op.build _ _, _, _, _, none⟩ :: _) _ _; refine wpList_build_any rfl roT _ #[(0, .int .i64 1), (1, .int .i64 who), (2, .int .i64 (keyR r.regs who)), (5, .bool r.s)] _ rfl rfl (fun w => run_build w roT #[(0, .int .i64 1), (1, .int .i64 who), (2, .int .i64 (keyR r.regs who)), (5, .bool r.s)] _ (built1 who (keyR r.regs who) r.s)) ?_)
          | (go_at_call 10
             have HD := HK.out.do_ ⟨1, who, keyR r.regs who, 0, 0, r.s⟩ R9.out (ok1 r.s HW.out (HKO.out R9.out.ok))
             rw [HE.out, errN_zero] at HD
             refine HD.mono ?_; clear HD; rintro e w10 ⟨q10, m10, d10, rfl, o10, b10⟩
             have X10 := Lib.hid (X9.out.keep (b10.block _ X9.out.lt))
             have R10 := Lib.hid (R9.out.below b10)
             have B10 := Lib.hid (B9.out.trans (b10.mono B9.out.size))
             have C10 := Lib.hid (OwnR.at_ (r := nx) o10 (HNK.out R9.out.ok) HNF.out)
             clear g3
             clear b10 X9 R9 B9)
          | (with_reducible show wpList _ _ _ (⟨_, Op.alloc rvT, _, _, _, _⟩ :: _) _ _; refine wpList_boxA_new rowRv rfl rfl w10.heap.size rfl ?_
             intro w11 y11 l11 s11
             have Y11 := Lib.hid y11
             have L11 := Lib.hid l11
             have S11 := Lib.hid s11
             clear y11 l11 s11)
          | (with_reducible show wpList _ _ _ (⟨_, Op.store rvT _ _, _, _, _, none⟩ :: _) _ _; refine wpList_boxA_put rowRv rfl _ _ rfl rfl w10.heap.size (resvA q10 m10 d10 nx) _ rfl (rvA_one _ _ _ _) rfl rfl rfl Y11.out ?_
             intro w12 y12 k12 s12
             have Y12 := Lib.hid y12
             have L12 := Lib.hid (L11.out.trans (show Below w10.heap.size w11 w12 from k12.below L11.out.size (fun k hk e => by have := S11.out; omega)))
             have X12 := Lib.hid (X10.out.keep (L12.out.block _ X10.out.lt))
             have R12 := Lib.hid (R10.out.below L12.out)
             have B12 := Lib.hid (B10.out.trans (L12.out.mono B10.out.size))
             have C12 := Lib.hid (C10.out.1.below L12.out)
             clear C10
             clear y12 k12 s12 Y11 L11 S11 X10 R10 B10 L12
             generalize w10.heap.size = J12 at *)
          | (with_reducible show wpList _ _ _ (⟨_, Op.load rvT _, _, _, _, _⟩ :: _) _ _; refine wpList_boxA_loadw rowRv _ rfl rfl J12 (resvA q10 m10 d10 nx) rfl rfl Y12.out ?_)
          | (go_at_call 16
             refine (refKey_any C12.out.at_ C12.out.len C12.out.few _).mono ?_; rintro e w13 ⟨rfl, b13⟩
             have B13 := Lib.hid (B12.out.trans (b13.mono B12.out.size))
             have Y13 := Lib.hid (Y12.out.keep (b13.block _ Y12.out.lt))
             have X13 := Lib.hid (X12.out.keep (b13.block _ X12.out.lt))
             clear b13 Y12 X12 R12 B12
             have h1 : w13.cell? ⟨J12, 1, none⟩ = some (.int .i64 nx.h) := Y13.out.cell 1
             have g0 : w13.cell? ⟨J, 0, none⟩ = some (.slice q m d) := X13.out.cell 0
             have g1 : w13.cell? ⟨J, 1, none⟩ = some (.int .i64 r.h) := X13.out.cell 1
             have i4 := HM.out m R5L.out
             have g2 : w13.cell? ⟨J, 2, none⟩ = some (.int .i64 r.t) := X13.out.cell 2))
        go_ret
        exact ⟨rfl, B13.out⟩
    · have i3 : decide (5 ≤ r.t) = false := by simp; omega
      have i6 : ¬ 5 ≤ r.t := h5
      have i5 : (nx.h == -1) = true := by
        rcases HNX.out.2.2 with h | h | h
        · exact absurd hh h
        · exact absurd h.1 h5
        · simp [h]
      clear hh h5
      go_enter Try.func8, Try.ntmps8
      go_wp2_with (first
        | (go_at_call 9; refine (alive_any HK.out w).mono ?_; rintro e w1 ⟨rfl, hb1⟩; have B1 := Lib.hid hb1; clear hb1)
        | (go_at_call 22
           refine (HRUN.out _ B1.out).mono ?_
           rw [D1.out]
           rintro e w2 ⟨q, m, d, rfl, r2, -, b2⟩
           have R2 := Lib.hid r2
           have B2 := Lib.hid (B1.out.trans (b2.mono B1.out.size))
           clear r2 b2 B1)
        | (with_reducible show wpList _ _ _ (⟨_, Op.alloc rvT, _, _, _, _⟩ :: _) _ _; refine wpList_boxA_new rowRv rfl rfl w2.heap.size rfl ?_
           intro w3 x3 l3 s3
           have X3 := Lib.hid x3
           have L3 := Lib.hid l3
           have S3 := Lib.hid s3
           clear x3 l3 s3)
        | (with_reducible show wpList _ _ _ (⟨_, Op.store rvT _ _, _, _, _, none⟩ :: _) _ _; refine wpList_boxA_put rowRv rfl _ _ rfl rfl w2.heap.size (resvA q m d r) _ rfl (rvA_one _ _ _ _) rfl rfl rfl X3.out ?_
           intro w4 x4 k4 s4
           have X4 := Lib.hid x4
           have L4 := Lib.hid (L3.out.trans (show Below w2.heap.size w3 w4 from k4.below L3.out.size (fun k hk e => by have := S3.out; omega)))
           have R4 := Lib.hid (R2.out.below L4.out)
           have B4 := Lib.hid (B2.out.trans (L4.out.mono B2.out.size))
           clear x4 k4 s4 X3 L3 S3 R2 B2 L4
           generalize w2.heap.size = J at *)
        | (with_reducible show wpList _ _ _ (⟨_, Op.load rvT _, _, _, _, _⟩ :: _) _ _; refine wpList_boxA_loadw rowRv _ rfl rfl J (resvA q m d r) rfl rfl X4.out ?_)
        | (go_at_call 16
           refine (refKey_any R4.out.at_ R4.out.len R4.out.few _).mono ?_; rintro e w5 ⟨rfl, b5⟩
           have X5 := Lib.hid (X4.out.keep (b5.block _ X4.out.lt))
           have R5 := Lib.hid (R4.out.below b5)
           have B5 := Lib.hid (B4.out.trans (b5.mono B4.out.size))
           clear b5 X4 R4 B4)
        | (with_reducible show wpList _ _ _ (⟨_, Op.load rvT _, _, _, _, _⟩ :: _) _ _; refine wpList_boxA_loadw rowRv _ rfl rfl J (resvA q m d r) rfl rfl X5.out ?_)
        | (with_reducible show wpList _ _ _ (⟨_, Op.build _ _, _, _, _, none⟩ :: _) _ _; refine wpList_build_any rfl roT _ #[(0, .int .i64 4), (1, .int .i64 who), (2, .int .i64 (keyR r.regs who))] _ rfl rfl (fun w => run_build w roT #[(0, .int .i64 4), (1, .int .i64 who), (2, .int .i64 (keyR r.regs who))] _ (built4 who (keyR r.regs who))) ?_)
        | (go_at_call 10
           have HD := HK.out.do_ ⟨4, who, keyR r.regs who, 0, 0, false⟩ R5.out (ok4 HW.out (HKO.out R5.out.ok))
           rw [HC.out, errN_zero] at HD
           refine HD.mono ?_; clear HD; rintro e w6 ⟨q6, m6, d6, rfl, o6, b6⟩
           have X6 := Lib.hid (X5.out.keep (b6.block _ X5.out.lt))
           have R6 := Lib.hid (R5.out.below b6)
           have B6 := Lib.hid (B5.out.trans (b6.mono B5.out.size))
           have C6 := Lib.hid (OwnR.at_ (r := cl) o6 (HCK.out R5.out.ok) (by rw [HCL.out.1]; exact Nat.zero_le _))
           have N6 : m6 = 0 := by rw [C6.out.2, HCL.out.1]; rfl
           subst N6
           clear b6 X5 R5 B5)
        | (with_reducible show wpList _ _ _ (⟨_, Op.alloc rvT, _, _, _, _⟩ :: _) _ _; refine wpList_boxA_new rowRv rfl rfl w6.heap.size rfl ?_
           intro w7 y7 l7 s7
           have Y7 := Lib.hid y7
           have L7 := Lib.hid l7
           have S7 := Lib.hid s7
           clear y7 l7 s7)
        | (with_reducible show wpList _ _ _ (⟨_, Op.store rvT _ _, _, _, _, none⟩ :: _) _ _; refine wpList_boxA_put rowRv rfl _ _ rfl rfl w6.heap.size (resvA q6 0 d6 cl) _ rfl (rvA_one _ _ _ _) rfl rfl rfl Y7.out ?_
           intro w8 y8 k8 s8
           have Y8 := Lib.hid y8
           have L8 := Lib.hid (L7.out.trans (show Below w6.heap.size w7 w8 from k8.below L7.out.size (fun k hk e => by have := S7.out; omega)))
           have X8 := Lib.hid (X6.out.keep (L8.out.block _ X6.out.lt))
           have R8 := Lib.hid (R6.out.below L8.out)
           have B8 := Lib.hid (B6.out.trans (L8.out.mono B6.out.size))
           have C8 := Lib.hid (C6.out.1.below L8.out)
           have c0 : w8.cell? ⟨w6.heap.size, 0, none⟩ = some (.slice q6 0 d6) := Y8.out.cell 0
           have c1 : w8.cell? ⟨w6.heap.size, 1, none⟩ = some (.int .i64 (-1)) := (Y8.out.cell 1).trans (by rw [← HCL.out.2]; rfl)
           clear C6
           clear y8 k8 s8 Y7 L7 S7 X6 R6 B6 L8
           generalize w6.heap.size = J8 at *)
        | (with_reducible show wpList _ _ _ (⟨_, Op.load rvT _, _, _, _, _⟩ :: _) _ _; refine wpList_boxA_loadw rowRv _ rfl rfl J8 (resvA q6 0 d6 cl) rfl rfl Y8.out ?_)
        | (go_at_call 20
           have HA := HK.out.allowed x1 2 HX1.out (by unfold okI; decide) C8.out HGC.out
           rw [HAL.out x1] at HA
           refine HA.mono ?_; clear HA; rintro e w9 ⟨rfl, b9⟩
           have X9 := Lib.hid (X8.out.keep (b9.block _ X8.out.lt))
           have R9 := Lib.hid (R8.out.below b9)
           have B9 := Lib.hid (B8.out.trans (b9.mono B8.out.size))
           clear b9 X8 R8 B8 Y8 C8 c0 c1
           have g3 : w9.cell? ⟨J, 3, none⟩ = some (.bool r.s) := X9.out.cell 3)
        | (with_reducible show wpList _ _ _ (⟨_, Op.load rvT _, _, _, _, _⟩ :: _) _ _; refine wpList_boxA_loadw rowRv _ rfl rfl J (resvA q m d r) rfl rfl X9.out ?_)
        | (with_reducible show wpList _ _ _ (⟨_, Op.build _ _, _, _, _, none⟩ :: _) _ _; refine wpList_build_any rfl roT _ #[(0, .int .i64 1), (1, .int .i64 who), (2, .int .i64 (keyR r.regs who)), (5, .bool r.s)] _ rfl rfl (fun w => run_build w roT #[(0, .int .i64 1), (1, .int .i64 who), (2, .int .i64 (keyR r.regs who)), (5, .bool r.s)] _ (built1 who (keyR r.regs who) r.s)) ?_)
        | (go_at_call 10
           have HD := HK.out.do_ ⟨1, who, keyR r.regs who, 0, 0, r.s⟩ R9.out (ok1 r.s HW.out (HKO.out R9.out.ok))
           rw [HE.out, errN_zero] at HD
           refine HD.mono ?_; clear HD; rintro e w10 ⟨q10, m10, d10, rfl, o10, b10⟩
           have X10 := Lib.hid (X9.out.keep (b10.block _ X9.out.lt))
           have R10 := Lib.hid (R9.out.below b10)
           have B10 := Lib.hid (B9.out.trans (b10.mono B9.out.size))
           have C10 := Lib.hid (OwnR.at_ (r := nx) o10 (HNK.out R9.out.ok) HNF.out)
           clear g3
           clear b10 X9 R9 B9)
        | (with_reducible show wpList _ _ _ (⟨_, Op.alloc rvT, _, _, _, _⟩ :: _) _ _; refine wpList_boxA_new rowRv rfl rfl w10.heap.size rfl ?_
           intro w11 y11 l11 s11
           have Y11 := Lib.hid y11
           have L11 := Lib.hid l11
           have S11 := Lib.hid s11
           clear y11 l11 s11)
        | (with_reducible show wpList _ _ _ (⟨_, Op.store rvT _ _, _, _, _, none⟩ :: _) _ _; refine wpList_boxA_put rowRv rfl _ _ rfl rfl w10.heap.size (resvA q10 m10 d10 nx) _ rfl (rvA_one _ _ _ _) rfl rfl rfl Y11.out ?_
           intro w12 y12 k12 s12
           have Y12 := Lib.hid y12
           have L12 := Lib.hid (L11.out.trans (show Below w10.heap.size w11 w12 from k12.below L11.out.size (fun k hk e => by have := S11.out; omega)))
           have X12 := Lib.hid (X10.out.keep (L12.out.block _ X10.out.lt))
           have R12 := Lib.hid (R10.out.below L12.out)
           have B12 := Lib.hid (B10.out.trans (L12.out.mono B10.out.size))
           have C12 := Lib.hid (C10.out.1.below L12.out)
           clear C10
           clear y12 k12 s12 Y11 L11 S11 X10 R10 B10 L12
           generalize w10.heap.size = J12 at *)
        | (with_reducible show wpList _ _ _ (⟨_, Op.load rvT _, _, _, _, _⟩ :: _) _ _; refine wpList_boxA_loadw rowRv _ rfl rfl J12 (resvA q10 m10 d10 nx) rfl rfl Y12.out ?_)
        | (go_at_call 16
           refine (refKey_any C12.out.at_ C12.out.len C12.out.few _).mono ?_; rintro e w13 ⟨rfl, b13⟩
           have B13 := Lib.hid (B12.out.trans (b13.mono B12.out.size))
           have Y13 := Lib.hid (Y12.out.keep (b13.block _ Y12.out.lt))
           have X13 := Lib.hid (X12.out.keep (b13.block _ X12.out.lt))
           clear b13 Y12 X12 R12 B12
           have h1 : w13.cell? ⟨J12, 1, none⟩ = some (.int .i64 nx.h) := Y13.out.cell 1
           have g0 : w13.cell? ⟨J, 0, none⟩ = some (.slice q m d) := X13.out.cell 0
           have g1 : w13.cell? ⟨J, 1, none⟩ = some (.int .i64 r.h) := X13.out.cell 1
           have g2 : w13.cell? ⟨J, 2, none⟩ = some (.int .i64 r.t) := X13.out.cell 2))
      go_ret
      exact ⟨rfl, B13.out⟩
  · have i1 : (r.h == who) = false := by simp [hh]
    have i2 : (r.h != who) = true := by simp [hh]
    clear hh
    go_enter Try.func8, Try.ntmps8
    go_wp2_with (first
      | (go_at_call 9; refine (alive_any HK.out w).mono ?_; rintro e w1 ⟨rfl, hb1⟩; have B1 := Lib.hid hb1; clear hb1)
      | (go_at_call 22
         refine (HRUN.out _ B1.out).mono ?_
         rw [D1.out]
         rintro e w2 ⟨q, m, d, rfl, r2, -, b2⟩
         have R2 := Lib.hid r2
         have B2 := Lib.hid (B1.out.trans (b2.mono B1.out.size))
         clear r2 b2 B1)
      | (with_reducible show wpList _ _ _ (⟨_, Op.alloc rvT, _, _, _, _⟩ :: _) _ _; refine wpList_boxA_new rowRv rfl rfl w2.heap.size rfl ?_
         intro w3 x3 l3 s3
         have X3 := Lib.hid x3
         have L3 := Lib.hid l3
         have S3 := Lib.hid s3
         clear x3 l3 s3)
      | (with_reducible show wpList _ _ _ (⟨_, Op.store rvT _ _, _, _, _, none⟩ :: _) _ _; refine wpList_boxA_put rowRv rfl _ _ rfl rfl w2.heap.size (resvA q m d r) _ rfl (rvA_one _ _ _ _) rfl rfl rfl X3.out ?_
         intro w4 x4 k4 s4
         have X4 := Lib.hid x4
         have L4 := Lib.hid (L3.out.trans (show Below w2.heap.size w3 w4 from k4.below L3.out.size (fun k hk e => by have := S3.out; omega)))
         have R4 := Lib.hid (R2.out.below L4.out)
         have B4 := Lib.hid (B2.out.trans (L4.out.mono B2.out.size))
         clear x4 k4 s4 X3 L3 S3 R2 B2 L4
         generalize w2.heap.size = J at *)
      | (with_reducible show wpList _ _ _ (⟨_, Op.load rvT _, _, _, _, _⟩ :: _) _ _; refine wpList_boxA_loadw rowRv _ rfl rfl J (resvA q m d r) rfl rfl X4.out ?_)
      | (go_at_call 16
         refine (refKey_any R4.out.at_ R4.out.len R4.out.few _).mono ?_; rintro e w5 ⟨rfl, b5⟩
         have X5 := Lib.hid (X4.out.keep (b5.block _ X4.out.lt))
         have R5 := Lib.hid (R4.out.below b5)
         have B5 := Lib.hid (B4.out.trans (b5.mono B4.out.size))
         clear b5 X4 R4 B4)
      | (with_reducible show wpList _ _ _ (⟨_, Op.load rvT _, _, _, _, _⟩ :: _) _ _; refine wpList_boxA_loadw rowRv _ rfl rfl J (resvA q m d r) rfl rfl X5.out ?_)
      | (with_reducible show wpList _ _ _ (⟨_, Op.build _ _, _, _, _, none⟩ :: _) _ _; refine wpList_build_any rfl roT _ #[(0, .int .i64 4), (1, .int .i64 who), (2, .int .i64 (keyR r.regs who))] _ rfl rfl (fun w => run_build w roT #[(0, .int .i64 4), (1, .int .i64 who), (2, .int .i64 (keyR r.regs who))] _ (built4 who (keyR r.regs who))) ?_)
      | (go_at_call 10
         have HD := HK.out.do_ ⟨4, who, keyR r.regs who, 0, 0, false⟩ R5.out (ok4 HW.out (HKO.out R5.out.ok))
         rw [HC.out, errN_zero] at HD
         refine HD.mono ?_; clear HD; rintro e w6 ⟨q6, m6, d6, rfl, o6, b6⟩
         have X6 := Lib.hid (X5.out.keep (b6.block _ X5.out.lt))
         have R6 := Lib.hid (R5.out.below b6)
         have B6 := Lib.hid (B5.out.trans (b6.mono B5.out.size))
         have C6 := Lib.hid (OwnR.at_ (r := cl) o6 (HCK.out R5.out.ok) (by rw [HCL.out.1]; exact Nat.zero_le _))
         have N6 : m6 = 0 := by rw [C6.out.2, HCL.out.1]; rfl
         subst N6
         clear b6 X5 R5 B5)
      | (with_reducible show wpList _ _ _ (⟨_, Op.alloc rvT, _, _, _, _⟩ :: _) _ _; refine wpList_boxA_new rowRv rfl rfl w6.heap.size rfl ?_
         intro w7 y7 l7 s7
         have Y7 := Lib.hid y7
         have L7 := Lib.hid l7
         have S7 := Lib.hid s7
         clear y7 l7 s7)
      | (with_reducible show wpList _ _ _ (⟨_, Op.store rvT _ _, _, _, _, none⟩ :: _) _ _; refine wpList_boxA_put rowRv rfl _ _ rfl rfl w6.heap.size (resvA q6 0 d6 cl) _ rfl (rvA_one _ _ _ _) rfl rfl rfl Y7.out ?_
         intro w8 y8 k8 s8
         have Y8 := Lib.hid y8
         have L8 := Lib.hid (L7.out.trans (show Below w6.heap.size w7 w8 from k8.below L7.out.size (fun k hk e => by have := S7.out; omega)))
         have X8 := Lib.hid (X6.out.keep (L8.out.block _ X6.out.lt))
         have R8 := Lib.hid (R6.out.below L8.out)
         have B8 := Lib.hid (B6.out.trans (L8.out.mono B6.out.size))
         have C8 := Lib.hid (C6.out.1.below L8.out)
         have c0 : w8.cell? ⟨w6.heap.size, 0, none⟩ = some (.slice q6 0 d6) := Y8.out.cell 0
         have c1 : w8.cell? ⟨w6.heap.size, 1, none⟩ = some (.int .i64 (-1)) := (Y8.out.cell 1).trans (by rw [← HCL.out.2]; rfl)
         clear C6
         clear y8 k8 s8 Y7 L7 S7 X6 R6 B6 L8
         generalize w6.heap.size = J8 at *)
      | (with_reducible show wpList _ _ _ (⟨_, Op.load rvT _, _, _, _, _⟩ :: _) _ _; refine wpList_boxA_loadw rowRv _ rfl rfl J8 (resvA q6 0 d6 cl) rfl rfl Y8.out ?_)
      | (go_at_call 20
         have HA := HK.out.allowed x1 2 HX1.out (by unfold okI; decide) C8.out HGC.out
         rw [HAL.out x1] at HA
         refine HA.mono ?_; clear HA; rintro e w9 ⟨rfl, b9⟩
         have X9 := Lib.hid (X8.out.keep (b9.block _ X8.out.lt))
         have R9 := Lib.hid (R8.out.below b9)
         have B9 := Lib.hid (B8.out.trans (b9.mono B8.out.size))
         clear b9 X8 R8 B8 Y8 C8 c0 c1
         have g3 : w9.cell? ⟨J, 3, none⟩ = some (.bool r.s) := X9.out.cell 3)
      | (with_reducible show wpList _ _ _ (⟨_, Op.load rvT _, _, _, _, _⟩ :: _) _ _; refine wpList_boxA_loadw rowRv _ rfl rfl J (resvA q m d r) rfl rfl X9.out ?_)
      | (with_reducible show wpList _ _ _ (⟨_, Op.build _ _, _, _, _, none⟩ :: _) _ _; refine wpList_build_any rfl roT _ #[(0, .int .i64 1), (1, .int .i64 who), (2, .int .i64 (keyR r.regs who)), (5, .bool r.s)] _ rfl rfl (fun w => run_build w roT #[(0, .int .i64 1), (1, .int .i64 who), (2, .int .i64 (keyR r.regs who)), (5, .bool r.s)] _ (built1 who (keyR r.regs who) r.s)) ?_)
      | (go_at_call 10
         have HD := HK.out.do_ ⟨1, who, keyR r.regs who, 0, 0, r.s⟩ R9.out (ok1 r.s HW.out (HKO.out R9.out.ok))
         rw [HE.out, errN_zero] at HD
         refine HD.mono ?_; clear HD; rintro e w10 ⟨q10, m10, d10, rfl, o10, b10⟩
         have X10 := Lib.hid (X9.out.keep (b10.block _ X9.out.lt))
         have R10 := Lib.hid (R9.out.below b10)
         have B10 := Lib.hid (B9.out.trans (b10.mono B9.out.size))
         have C10 := Lib.hid (OwnR.at_ (r := nx) o10 (HNK.out R9.out.ok) HNF.out)
         clear g3
         clear b10 X9 R9 B9)
      | (with_reducible show wpList _ _ _ (⟨_, Op.alloc rvT, _, _, _, _⟩ :: _) _ _; refine wpList_boxA_new rowRv rfl rfl w10.heap.size rfl ?_
         intro w11 y11 l11 s11
         have Y11 := Lib.hid y11
         have L11 := Lib.hid l11
         have S11 := Lib.hid s11
         clear y11 l11 s11)
      | (with_reducible show wpList _ _ _ (⟨_, Op.store rvT _ _, _, _, _, none⟩ :: _) _ _; refine wpList_boxA_put rowRv rfl _ _ rfl rfl w10.heap.size (resvA q10 m10 d10 nx) _ rfl (rvA_one _ _ _ _) rfl rfl rfl Y11.out ?_
         intro w12 y12 k12 s12
         have Y12 := Lib.hid y12
         have L12 := Lib.hid (L11.out.trans (show Below w10.heap.size w11 w12 from k12.below L11.out.size (fun k hk e => by have := S11.out; omega)))
         have X12 := Lib.hid (X10.out.keep (L12.out.block _ X10.out.lt))
         have R12 := Lib.hid (R10.out.below L12.out)
         have B12 := Lib.hid (B10.out.trans (L12.out.mono B10.out.size))
         have C12 := Lib.hid (C10.out.1.below L12.out)
         clear C10
         clear y12 k12 s12 Y11 L11 S11 X10 R10 B10 L12
         generalize w10.heap.size = J12 at *)
      | (with_reducible show wpList _ _ _ (⟨_, Op.load rvT _, _, _, _, _⟩ :: _) _ _; refine wpList_boxA_loadw rowRv _ rfl rfl J12 (resvA q10 m10 d10 nx) rfl rfl Y12.out ?_)
      | (go_at_call 16
         refine (refKey_any C12.out.at_ C12.out.len C12.out.few _).mono ?_; rintro e w13 ⟨rfl, b13⟩
         have B13 := Lib.hid (B12.out.trans (b13.mono B12.out.size))
         have Y13 := Lib.hid (Y12.out.keep (b13.block _ Y12.out.lt))
         have X13 := Lib.hid (X12.out.keep (b13.block _ X12.out.lt))
         clear b13 Y12 X12 R12 B12
         have h1 : w13.cell? ⟨J12, 1, none⟩ = some (.int .i64 nx.h) := Y13.out.cell 1
         have g0 : w13.cell? ⟨J, 0, none⟩ = some (.slice q m d) := X13.out.cell 0
         have g1 : w13.cell? ⟨J, 1, none⟩ = some (.int .i64 r.h) := X13.out.cell 1
         have g2 : w13.cell? ⟨J, 2, none⟩ = some (.int .i64 r.t) := X13.out.cell 2))
    go_ret
    exact ⟨rfl, B13.out⟩
theorem laidOut : laidOutB Try.prog = true := by kernel_rfl
set_option maxRecDepth 100000 in
theorem lifted (os : Os) (started : os.Started) (H : Type) (enc : TypeId × Value → H) :
    ReturnsInHanded {} Try.checked os 8 .any (Rows.resvEndsSpec.pre6 enc Try.prog Try.f8 Rows.resvEndsRow.domain false) (Rows.resvEndsSpec.post enc Try.prog Try.f8 false true false false) := by
  refine returnsInHanded_of_change (C := Try.checked) own started (by kernel_rfl) Try.func8
    (ChangeSpec.witness6 (enc := enc) (C := Try.checked) false ⟨#[], #[.slice none 0 0, .int .i64 0], []⟩ 8 (by kernel_rfl) (by kernel_rfl) (by kernel_rfl) (by kernel_rfl)) ?_
  intro W base args ds gs before hval0 hW hcnd _
  have hval : ∀ (j : Nat) t v, Try.f8.params[j]? = some t → args[j]? = some v → Value.okWide Try.prog W .any base t v := hval0
  have hW' := hW
  obtain ⟨p, q, hA0, hV, rfl, hfz, hnd⟩ := hW
  have hA : DataW.TrodAll enc Try.prog W 0 (fun _ => true) true Try.f8.params.toList args.toList ds p := hA0
  rw [Try.params8] at hA hval
  obtain ⟨v0, vs0, d0, ds0, p0, q0, hargs, rfl, rfl, h0, r0⟩ := trodAll_cons hA
  obtain ⟨v1, vs1, d1, ds1, p1, q1, rfl, rfl, rfl, h1, r1⟩ := trodAll_cons r0
  obtain ⟨rfl, rfl, rfl⟩ := trodAll_nil r1
  obtain rfl : args = #[v0, v1] := by cases args; simp_all
  obtain ⟨rfl, rfl⟩ := trodVars_none hV
  have k0 := h0
  have lt0 : ∀ x ∈ p0, x.block < W.heap.size := by obtain ⟨m, hm⟩ := k0; exact DataW.trod_lt m _ _ _ hm
  obtain ⟨q0, l0, c0, rfl, w0, y0, m0⟩ := open_rops (hval 0 41 v0 rfl rfl) h0
  obtain ⟨a1, rfl, rfl, rfl, w1⟩ := open_int Try.underlying3 (hval 1 3 v1 rfl rfl) h1
  clear hA0 hval0
  refine (walk resvSpec q0 l0 c0 m0 w0 a1 (okI_wf w1) W y0).mono fun e W' ⟨he, bel⟩ => ?_
  subst he
  exact ⟨_, rfl, _, _, _, [], _, [], hW', trodAll_mk1 (shut_bool Try.underlying4 _), (trodAll_cons_mk (Below.trod laidOut (by kernel_rfl) (of_decide_eq_true (by kernel_rfl)) k0 bel lt0) (trodAll_cons_mk (shut_int Try.underlying3 w1) trodAll_mk0)), rfl, bel.frame _, fun h => by cases h⟩

theorem over : Rows.resvEndsRow.holds Try.pinned (OpenSpec.ofChange Rows.resvEndsSpec) :=
  OpenClaim.holds_of_wide 8 Try.f8 rfl rfl rfl rfl rfl rfl rfl ⟨rfl, rfl, rfl, rfl, rfl⟩ rfl rfl rfl rfl rfl (by kernel_rfl) Try.func8 (by kernel_rfl)
    (of_decide_eq_true (by kernel_rfl)) (by unfold Func.isWrapper; first | (rw [if_pos (by decide +kernel)]; kernel_rfl) | (rw [if_neg (by decide +kernel)]; exact ⟨rfl, rfl⟩))
    (fun os started H enc _ => lifted os started H enc)

theorem proved : Rows.ResvEndsSaid := over
end resvEnds
end Go.Proofs.Ytfnkdmdcjliebaa
