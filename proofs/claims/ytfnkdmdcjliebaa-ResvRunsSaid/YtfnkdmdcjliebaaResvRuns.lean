/- ResvRuns: under any operations. Condition: none but the arguments' own forms; package resv by resvSpec. -/
import Derived.Test.YtfnkdmdcjliebaaRvAlive
import Derived.Test.YtfnkdmdcjliebaaRvOps
import Derived.Test.YtfnkdmdcjliebaaRvDo
namespace Go.Proofs.Ytfnkdmdcjliebaa
open Go.ChangeShapes Go.WideShapes Go.ChangeAt Go.RowKit
namespace resvRuns
set_option linter.unusedVariables false
theorem own : ownKnob Try.prog.godebug = none := by kernel_rfl
attribute [local irreducible] regC atR atO doR runR ropC
attribute [local go_sem] Oper.semAt_some
set_option maxRecDepth 100000 in
set_option maxHeartbeats 8000000 in
theorem walk (K : ResvSpec) (q0 : Option Addr) (os : List ROp) (c0 : Nat) (hl : os.length ≤ maxLen) (hok : ∀ o ∈ os, o.ok) (w : World) (y0 : OpsAt w q0 os) : Calls Try.prog 4 #[.slice q0 os.length c0] w fun e w' => e = .returned (.bool true) ∧ Below w.heap.size w w' := by
  have HK := Lib.hid K
  generalize hn : os.length = n at *
  have HN := Lib.hid hn
  have HLM := Lib.hid hl
  clear hl
  by_cases h200 : 200 < n
  · have f2 : (200 : Int) < (n : Int) := by omega
    have f1 : decide ((200 : Int) < (n : Int)) = true := by simp; omega
    clear y0 h200 hn
    go_enter Try.func4, Try.ntmps4
    go_wp2_with (first
      | (go_at_call 9; refine (alive_any HK.out w).mono ?_; rintro e w2 ⟨rfl, hb2⟩))
    go_ret
    exact ⟨rfl, hb2⟩
  have HL := Lib.hid (show n ≤ 200 from by omega)
  have f2 : ¬ (200 : Int) < (n : Int) := by omega
  have f1 : decide ((200 : Int) < (n : Int)) = false := by simp; omega
  have HR := Lib.hid (fun i (hi : i < os.length) => ops_at y0 (k := i) hi)
  have HO := Lib.hid (fun i (hi : i < os.length) => hok _ (atO_mem hi))
  have HT := Lib.hid (fun i (hi : i < os.length) => run_take hi nobodyR)
  have HG := Lib.hid (runs_good os (show os.length ≤ 200 by omega))
  have H0 := Lib.hid (show runR nobodyR (os.take 0) = nobodyR by unfold runR; rfl)
  rw [hn] at HR HO HT HG
  clear y0 hok h200 hn
  go_enter Try.func4, Try.ntmps4
  go_wp2_with (first
    | (go_at_call 9; refine (alive_any HK.out w).mono ?_; rintro e w1 ⟨rfl, hb1⟩; have L1 := Lib.hid hb1; clear hb1)
    | (with_reducible show wpList _ _ _ (⟨_, Op.alloc rvT, _, _, _, _⟩ :: _) _ _; refine wpList_boxA_new rowRv rfl rfl w1.heap.size rfl ?_
       intro w2 b2 l2 s2
       have B2 := Lib.hid b2
       have S2 := Lib.hid s2
       have L2 := Lib.hid (L1.out.trans (l2.mono L1.out.size))
       clear b2 l2 s2)
    | (with_reducible show wpList _ _ _ (⟨_, Op.store rvT _ _, _, _, _, none⟩ :: _) _ _; refine wpList_boxA_put rowRv rfl _ _ rfl rfl w1.heap.size (resvA none 0 0 nobodyR) _ rfl (rvA_one _ _ _ _) rfl rfl rfl B2.out ?_
       intro w3 b3 k3 s3
       have B3 := Lib.hid b3
       have O1 := Lib.hid (show w.heap.size ≤ w1.heap.size from L1.out.size)
       have L3 := Lib.hid (L2.out.trans (show Below w.heap.size w2 w3 from k3.below L2.out.size (fun k hk e => by have := O1.out; omega)))
       clear b3 k3 s3))
  generalize w1.heap.size = J at *
  clear B2 L1 L2 S2
  go_loopw [17, 5, 6, 7, 8] (fun v17 _ _ _ _ wr => ∃ (k : Nat) (q : Option Addr) (m d : Nat), k ≤ n ∧ v17 = .int .i64 k ∧ BoxA wr J rvT (resvA q m d (runR nobodyR (os.take k))) ∧ RvAt wr q m d (runR nobodyR (os.take k)) ∧ (∀ j, AtB q j → w.heap.size ≤ j ∧ j ≠ J) ∧ Below w.heap.size w wr) (fun v17 _ _ _ _ _ => n - (intOf v17).toNat)
  case atStart => exact ⟨0, none, 0, 0, Nat.zero_le _, rfl, by rw [H0.out]; exact B3.out, by rw [H0.out]; exact RvAt.nobody _, (fun j ⟨o, e⟩ => nomatch e), L3.out⟩
  case round =>
    obtain ⟨k, q, m, d, hk, rfl, hb, hr, hq, hl⟩ := hrel
    have HB := Lib.hid hb
    have HRV := Lib.hid hr
    have HQ := Lib.hid hq
    have HLB := Lib.hid hl
    clear hb hr hq hl B3 L3
    by_cases hlt : k < n
    · have f3 : (k : Int) < (n : Int) := by omega
      have HLT := Lib.hid hlt
      have f4 : IntKind.i64.wrap ((k : Int) + 1) = ((k + 1 : Nat) : Int) := by have := HL.out; rw [IntWalk.i64_in _ (by omega)]; omega
      obtain ⟨LB, o, rfl, hB, hrg⟩ := HR.out k hlt
      have HRK := Lib.hid (rangeAt_below hrg HLB.out hB)
      have HOK := Lib.hid (HO.out k hlt)
      have HTK := Lib.hid (HT.out k hlt)
      have HGK := Lib.hid (HG.out k hk)
      have HGN := Lib.hid (HG.out (k + 1) hlt)
      have HKL := Lib.hid hk
      clear hk hlt hrg hB
      generalize atO os k = op at *
      generalize hrr : runR nobodyR (os.take k) = r at *
      clear hrr
      have HDF := Lib.hid (do_few r op)
      have HRB := Lib.hid (show RvAt wr q m d r ∧ (∀ j, AtB q j → w.heap.size ≤ j ∧ j ≠ J) from ⟨HRV.out, HQ.out⟩)
      have HDG := Lib.hid (fun h0 => do_good HGK.out.1 (by have := HGK.out.2; have := HKL.out; have := HL.out; omega) (o := op) h0)
      have HDE := Lib.hid (do_err r op)
      have g5 : IntKind.i64.wrap (r.g + 1) = r.g + 1 := by have := HGK.out.2; have := HGK.out.1.gen; have := HKL.out; have := HL.out; rw [IntWalk.i64_in _ (by omega)]
      by_cases h0 : (doR r op).2 = 0
      · have HS := Lib.hid (show runR nobodyR (os.take (k + 1)) = (doR r op).1 from by rw [HTK.out]; unfold stepR; rw [if_pos h0])
        have E0 := Lib.hid h0
        have GD := Lib.hid (good_iff.2 (HDG.out h0).1)
        have N1 := Lib.hid (HDG.out h0).2
        have HDK := Lib.hid (do_ok (o := op) HRV.out.ok HOK.out)
        have HDO := Lib.hid (fun (W : World) (R : RvAt W q m d r) => HK.out.do_ op R HOK.out)
        rw [h0, errN_zero] at HDO
        have FM := Lib.hid (form_iff.1 (show formR (doR r op).1 = true from by have := GD.out; unfold goodR at this; simp only [Bool.and_eq_true] at this; exact this.2))
        clear h0 HTK HDE HDG HGN E0 HGK
        generalize (doR r op).1 = nx at *
        obtain ⟨nk, nh, nt, ns, ng⟩ := nx
        have g6 : ¬ ng < r.g := by have : r.g ≤ ng := N1.out.1; omega
        have g7 : ¬ r.g + 1 < ng := by have : ng ≤ r.g + 1 := N1.out.2; omega
        have g8 : decide (ng < r.g) = false := by simp; omega
        have g9 : decide (r.g + 1 < ng) = false := by simp; omega
        by_cases hh : nh = -1
        · subst hh
          go_wp2_with (first
            | (with_reducible show wpList _ _ _ (⟨_, Op.indexAddr _ _ _, _, _, _, none⟩ :: _) _ _; refine wpList_op_elem rfl _ _ rfl LB o n c0 k rfl rfl HLT.out ?_)
            | (with_reducible show wpList _ _ _ (⟨_, Op.load roT _, _, _, _, none⟩ :: _) _ _; refine wpList_op_load rfl _ rfl LB (o + 6 * k) rfl op HRK.out ?_)
            | (with_reducible show wpList _ _ _ (⟨_, Op.alloc roT, _, _, _, _⟩ :: _) _ _; refine wpList_boxA_new rowOp rfl rfl wr.heap.size rfl ?_
               intro w4 b4 l4 s4
               have B4 := Lib.hid b4
               have L4 := Lib.hid l4
               have S4 := Lib.hid s4
               clear b4 l4 s4)
            | (with_reducible show wpList _ _ _ (⟨_, Op.store roT _ _, _, _, _, none⟩ :: _) _ _; refine wpList_boxA_put rowOp rfl _ _ rfl rfl wr.heap.size (ropA op) _ rfl (ropA_one _) rfl rfl rfl B4.out ?_
               intro w5 b5 k5 s5
               have B5 := Lib.hid b5
               have L5 := Lib.hid (L4.out.trans (show Below wr.heap.size w4 w5 from k5.below L4.out.size (fun k hk e => by omega)))
               have J5 := Lib.hid (HB.out.keep (L5.out.block _ HB.out.lt))
               have R5 := Lib.hid (HRV.out.below L5.out)
               have g4 : w5.cell? ⟨J, 4, none⟩ = some (.int .i64 r.g) := J5.out.cell 4
               clear b5 k5 s5 B4 L4 S4)
            | (with_reducible show wpList _ _ _ (⟨_, Op.load rvT _, _, _, _, none⟩ :: _) _ _; refine wpList_boxA_load rowRv rfl _ rfl J (resvA q m d r) rfl rfl J5.out ?_)
            | (with_reducible show wpList _ _ _ (⟨_, Op.load roT _, _, _, _, none⟩ :: _) _ _; refine wpList_boxA_load rowOp rfl _ rfl wr.heap.size (ropA op) rfl rfl B5.out ?_)
            | (go_at_call 10
               refine (HDO.out _ R5.out).mono ?_; rintro e w6 ⟨q6, n6, c6, rfl, o6, hb6⟩
               have O6 := Lib.hid o6
               have L6 := Lib.hid (L5.out.trans (hb6.mono L5.out.size))
               have J6 := Lib.hid (J5.out.keep (hb6.block _ J5.out.lt))
               have G6 := Lib.hid (show w5.heap.size ≤ w6.heap.size from hb6.size)
               have R6 := Lib.hid (OwnR.at_ (r := ⟨nk, -1, nt, ns, ng⟩) O6.out HDK.out HDF.out)
               clear o6 hb6 g4 J5 B5 R5 HRK HDO)
            | (with_reducible show wpList _ _ _ (⟨_, Op.alloc rvT, _, _, _, _⟩ :: _) _ _; refine wpList_boxA_new rowRv rfl rfl w6.heap.size rfl ?_
               intro w7 b7 l7 s7
               have B7 := Lib.hid b7
               have L7 := Lib.hid l7
               have S7 := Lib.hid s7
               clear b7 l7 s7)
            | (with_reducible show wpList _ _ _ (⟨_, Op.store rvT _ _, _, _, _, none⟩ :: _) _ _; refine wpList_boxA_put rowRv rfl _ _ rfl rfl w6.heap.size (resvA q6 n6 c6 ⟨nk, -1, nt, ns, ng⟩) _ rfl (rvA_one _ _ _ _) rfl rfl rfl B7.out ?_
               intro w8 b8 k8 s8
               have B8 := Lib.hid b8
               have L8 := Lib.hid (L7.out.trans (show Below w6.heap.size w7 w8 from k8.below L7.out.size (fun k hk e => by omega)))
               have J8 := Lib.hid (J6.out.keep (L8.out.block _ J6.out.lt))
               have R8 := Lib.hid (R6.out.1.below L8.out)
               have G8 := Lib.hid (show w6.heap.size < w8.heap.size from B8.out.lt)
               clear b8 k8 s8 B7 L7 S7
               have g0 : w8.cell? ⟨w6.heap.size, 0, none⟩ = some (.slice q6 n6 c6) := B8.out.cell 0
               have g1 : w8.cell? ⟨w6.heap.size, 1, none⟩ = some (.int .i64 (-1)) := B8.out.cell 1
               have g4 : w8.cell? ⟨w6.heap.size, 4, none⟩ = some (.int .i64 ng) := B8.out.cell 4
               generalize hJ9 : w6.heap.size = J9 at *
               have HJ9 := Lib.hid hJ9
               clear hJ9)
            | (with_reducible show wpList _ _ _ (⟨_, Op.load rvT _, _, _, _, _⟩ :: _) _ _; refine wpList_boxA_loadw rowRv _ rfl rfl J9 (resvA q6 n6 c6 ⟨nk, -1, nt, ns, ng⟩) rfl rfl B8.out ?_)
            | (go_at_call 14
               go_loud (have HC := HK.out.check R8.out
                        rw [if_pos GD.out, errN_zero] at HC
                        refine HC.mono ?_; clear HC; rintro e w9 ⟨rfl, hb9⟩)
               have B9 := Lib.hid (B8.out.keep (hb9.block _ B8.out.lt))
               have JJ9 := Lib.hid (J8.out.keep (hb9.block _ J8.out.lt))
               have R9 := Lib.hid (R8.out.below hb9)
               have L9 := Lib.hid (L8.out.trans (hb9.mono (Nat.le_of_lt G8.out)))
               have G9 := Lib.hid (show J9 < w9.heap.size from by have := B9.out.lt; omega)
               clear hb9 g0 g1 g4 B8 J8 R8 L8 G8
               have g1 : w9.cell? ⟨J9, 1, none⟩ = some (.int .i64 (-1)) := B9.out.cell 1
               have g4 : w9.cell? ⟨J9, 4, none⟩ = some (.int .i64 ng) := B9.out.cell 4)
            | (with_reducible show wpList _ _ _ (⟨_, Op.load rvT _, _, _, _, none⟩ :: _) _ _; refine wpList_boxA_load rowRv rfl _ rfl J9 (resvA q6 n6 c6 ⟨nk, -1, nt, ns, ng⟩) rfl rfl B9.out ?_)
            | (with_reducible show wpList _ _ _ (⟨_, Op.store rvT _ _, _, _, _, none⟩ :: _) _ _; refine wpList_boxA_put rowRv rfl _ _ rfl rfl J (resvA q6 n6 c6 ⟨nk, -1, nt, ns, ng⟩) _ rfl (rvA_one _ _ _ _) rfl rfl rfl JJ9.out ?_
               intro w11 b11 k11 s11
               have B11 := Lib.hid b11
               have K11 := Lib.hid k11
               clear b11 k11 s11))
          go_roundw
          case rel =>
            obtain rfl := HJ9.out
            have q6 := OwnR.base O6.out
            have l5 := L5.out.size
            have l6 := G6.out
            have l9 := L9.out.size
            have lb := HLB.out.size
            have lj := HB.out.lt
            have hz : ∀ j, AtB _ j → w.heap.size ≤ j ∧ j ≠ J := fun j hj => by
              have h1 := q6 j hj
              omega
            have r11 := (R6.out.1.below L9.out).keepB K11.out.size (fun j hj hlt => K11.out.block j hlt (fun e => (hz j hj).2 e))
            have L12 : Below w.heap.size w _ := ((HLB.out.trans (L6.out.mono HLB.out.size)).trans (L9.out.mono (by have := L6.out.size; omega))).trans (K11.out.below (by have := L6.out.size; omega) (fun j hj e => by have := O1.out; omega))
            exact ⟨k + 1, _, _, _, HLT.out, by go_num, by rw [HS.out]; exact B11.out, by rw [HS.out]; exact r11, hz, L12⟩
          case measure => have := HLT.out; simp [intOf]; omega
        · have e1 : (nh != -1) = true := by simp [hh]
          have e2 : (nh == -1) = false := by simp [hh]
          have e3 : (keyR nk nh == 0) = false := by
            rcases FM.out with h | h
            · exact absurd h.1 hh
            · have : 0 < keyR nk nh := h.2.1
              simp; omega
          go_wp2_with (first
            | (with_reducible show wpList _ _ _ (⟨_, Op.indexAddr _ _ _, _, _, _, none⟩ :: _) _ _; refine wpList_op_elem rfl _ _ rfl LB o n c0 k rfl rfl HLT.out ?_)
            | (with_reducible show wpList _ _ _ (⟨_, Op.load roT _, _, _, _, none⟩ :: _) _ _; refine wpList_op_load rfl _ rfl LB (o + 6 * k) rfl op HRK.out ?_)
            | (with_reducible show wpList _ _ _ (⟨_, Op.alloc roT, _, _, _, _⟩ :: _) _ _; refine wpList_boxA_new rowOp rfl rfl wr.heap.size rfl ?_
               intro w4 b4 l4 s4
               have B4 := Lib.hid b4
               have L4 := Lib.hid l4
               have S4 := Lib.hid s4
               clear b4 l4 s4)
            | (with_reducible show wpList _ _ _ (⟨_, Op.store roT _ _, _, _, _, none⟩ :: _) _ _; refine wpList_boxA_put rowOp rfl _ _ rfl rfl wr.heap.size (ropA op) _ rfl (ropA_one _) rfl rfl rfl B4.out ?_
               intro w5 b5 k5 s5
               have B5 := Lib.hid b5
               have L5 := Lib.hid (L4.out.trans (show Below wr.heap.size w4 w5 from k5.below L4.out.size (fun k hk e => by omega)))
               have J5 := Lib.hid (HB.out.keep (L5.out.block _ HB.out.lt))
               have R5 := Lib.hid (HRV.out.below L5.out)
               have g4 : w5.cell? ⟨J, 4, none⟩ = some (.int .i64 r.g) := J5.out.cell 4
               clear b5 k5 s5 B4 L4 S4)
            | (with_reducible show wpList _ _ _ (⟨_, Op.load rvT _, _, _, _, none⟩ :: _) _ _; refine wpList_boxA_load rowRv rfl _ rfl J (resvA q m d r) rfl rfl J5.out ?_)
            | (with_reducible show wpList _ _ _ (⟨_, Op.load roT _, _, _, _, none⟩ :: _) _ _; refine wpList_boxA_load rowOp rfl _ rfl wr.heap.size (ropA op) rfl rfl B5.out ?_)
            | (go_at_call 10
               refine (HDO.out _ R5.out).mono ?_; rintro e w6 ⟨q6, n6, c6, rfl, o6, hb6⟩
               have O6 := Lib.hid o6
               have L6 := Lib.hid (L5.out.trans (hb6.mono L5.out.size))
               have J6 := Lib.hid (J5.out.keep (hb6.block _ J5.out.lt))
               have G6 := Lib.hid (show w5.heap.size ≤ w6.heap.size from hb6.size)
               have R6 := Lib.hid (OwnR.at_ (r := ⟨nk, nh, nt, ns, ng⟩) O6.out HDK.out HDF.out)
               clear o6 hb6 g4 J5 B5 R5 HRK HDO)
            | (with_reducible show wpList _ _ _ (⟨_, Op.alloc rvT, _, _, _, _⟩ :: _) _ _; refine wpList_boxA_new rowRv rfl rfl w6.heap.size rfl ?_
               intro w7 b7 l7 s7
               have B7 := Lib.hid b7
               have L7 := Lib.hid l7
               have S7 := Lib.hid s7
               clear b7 l7 s7)
            | (with_reducible show wpList _ _ _ (⟨_, Op.store rvT _ _, _, _, _, none⟩ :: _) _ _; refine wpList_boxA_put rowRv rfl _ _ rfl rfl w6.heap.size (resvA q6 n6 c6 ⟨nk, nh, nt, ns, ng⟩) _ rfl (rvA_one _ _ _ _) rfl rfl rfl B7.out ?_
               intro w8 b8 k8 s8
               have B8 := Lib.hid b8
               have L8 := Lib.hid (L7.out.trans (show Below w6.heap.size w7 w8 from k8.below L7.out.size (fun k hk e => by omega)))
               have J8 := Lib.hid (J6.out.keep (L8.out.block _ J6.out.lt))
               have R8 := Lib.hid (R6.out.1.below L8.out)
               have G8 := Lib.hid (show w6.heap.size < w8.heap.size from B8.out.lt)
               clear b8 k8 s8 B7 L7 S7
               have g0 : w8.cell? ⟨w6.heap.size, 0, none⟩ = some (.slice q6 n6 c6) := B8.out.cell 0
               have g1 : w8.cell? ⟨w6.heap.size, 1, none⟩ = some (.int .i64 nh) := B8.out.cell 1
               have g4 : w8.cell? ⟨w6.heap.size, 4, none⟩ = some (.int .i64 ng) := B8.out.cell 4
               generalize hJ9 : w6.heap.size = J9 at *
               have HJ9 := Lib.hid hJ9
               clear hJ9)
            | (with_reducible show wpList _ _ _ (⟨_, Op.load rvT _, _, _, _, _⟩ :: _) _ _; refine wpList_boxA_loadw rowRv _ rfl rfl J9 (resvA q6 n6 c6 ⟨nk, nh, nt, ns, ng⟩) rfl rfl B8.out ?_)
            | (go_at_call 14
               go_loud (have HC := HK.out.check R8.out
                        rw [if_pos GD.out, errN_zero] at HC
                        refine HC.mono ?_; clear HC; rintro e w9 ⟨rfl, hb9⟩)
               have B9 := Lib.hid (B8.out.keep (hb9.block _ B8.out.lt))
               have JJ9 := Lib.hid (J8.out.keep (hb9.block _ J8.out.lt))
               have R9 := Lib.hid (R8.out.below hb9)
               have L9 := Lib.hid (L8.out.trans (hb9.mono (Nat.le_of_lt G8.out)))
               have G9 := Lib.hid (show J9 < w9.heap.size from by have := B9.out.lt; omega)
               clear hb9 g0 g1 g4 B8 J8 R8 L8 G8
               have g1 : w9.cell? ⟨J9, 1, none⟩ = some (.int .i64 nh) := B9.out.cell 1
               have g4 : w9.cell? ⟨J9, 4, none⟩ = some (.int .i64 ng) := B9.out.cell 4)
            | (with_reducible show wpList _ _ _ (⟨_, Op.load rvT _, _, _, _, _⟩ :: _) _ _; refine wpList_boxA_loadw rowRv _ rfl rfl J9 (resvA q6 n6 c6 ⟨nk, nh, nt, ns, ng⟩) rfl rfl B9.out ?_)
            | (go_at_call 16
               refine (refKey_any R9.out.at_ R9.out.len R9.out.few _).mono ?_; rintro e w10 ⟨rfl, hb10⟩
               have B10 := Lib.hid (B9.out.keep (hb10.block _ B9.out.lt))
               have J10 := Lib.hid (JJ9.out.keep (hb10.block _ JJ9.out.lt))
               have L10 := Lib.hid (L9.out.trans (hb10.mono (Nat.le_of_lt G9.out)))
               have G10 := Lib.hid (show J9 < w10.heap.size from B10.out.lt)
               clear hb10 g1 g4 B9 JJ9 L9 G9
               have g1 : w10.cell? ⟨J9, 1, none⟩ = some (.int .i64 nh) := B10.out.cell 1
               have g4 : w10.cell? ⟨J9, 4, none⟩ = some (.int .i64 ng) := B10.out.cell 4)
            | (with_reducible show wpList _ _ _ (⟨_, Op.load rvT _, _, _, _, none⟩ :: _) _ _; refine wpList_boxA_load rowRv rfl _ rfl J9 (resvA q6 n6 c6 ⟨nk, nh, nt, ns, ng⟩) rfl rfl B10.out ?_)
            | (with_reducible show wpList _ _ _ (⟨_, Op.store rvT _ _, _, _, _, none⟩ :: _) _ _; refine wpList_boxA_put rowRv rfl _ _ rfl rfl J (resvA q6 n6 c6 ⟨nk, nh, nt, ns, ng⟩) _ rfl (rvA_one _ _ _ _) rfl rfl rfl J10.out ?_
               intro w11 b11 k11 s11
               have B11 := Lib.hid b11
               have K11 := Lib.hid k11
               clear b11 k11 s11))
          go_roundw
          case rel =>
            obtain rfl := HJ9.out
            have q6 := OwnR.base O6.out
            have l5 := L5.out.size
            have l6 := G6.out
            have l9 := L10.out.size
            have lb := HLB.out.size
            have lj := HB.out.lt
            have hz : ∀ j, AtB _ j → w.heap.size ≤ j ∧ j ≠ J := fun j hj => by
              have h1 := q6 j hj
              omega
            have r11 := (R6.out.1.below L10.out).keepB K11.out.size (fun j hj hlt => K11.out.block j hlt (fun e => (hz j hj).2 e))
            have L12 : Below w.heap.size w _ := ((HLB.out.trans (L6.out.mono HLB.out.size)).trans (L10.out.mono (by have := L6.out.size; omega))).trans (K11.out.below (by have := L6.out.size; omega) (fun j hj e => by have := O1.out; omega))
            exact ⟨k + 1, _, _, _, HLT.out, by go_num, by rw [HS.out]; exact B11.out, by rw [HS.out]; exact r11, hz, L12⟩
          case measure => have := HLT.out; simp [intOf]; omega
      · have HS := Lib.hid (show runR nobodyR (os.take (k + 1)) = r from by rw [HTK.out]; unfold stepR; rw [if_neg h0])
        have E0 := Lib.hid h0
        clear h0
        go_wp2_with (first
          | (with_reducible show wpList _ _ _ (⟨_, Op.indexAddr _ _ _, _, _, _, none⟩ :: _) _ _; refine wpList_op_elem rfl _ _ rfl LB o n c0 k rfl rfl HLT.out ?_)
          | (with_reducible show wpList _ _ _ (⟨_, Op.load roT _, _, _, _, none⟩ :: _) _ _; refine wpList_op_load rfl _ rfl LB (o + 6 * k) rfl op HRK.out ?_)
          | (with_reducible show wpList _ _ _ (⟨_, Op.alloc roT, _, _, _, _⟩ :: _) _ _; refine wpList_boxA_new rowOp rfl rfl wr.heap.size rfl ?_
             intro w4 b4 l4 s4
             have B4 := Lib.hid b4
             have L4 := Lib.hid l4
             have S4 := Lib.hid s4
             clear b4 l4 s4)
          | (with_reducible show wpList _ _ _ (⟨_, Op.store roT _ _, _, _, _, none⟩ :: _) _ _; refine wpList_boxA_put rowOp rfl _ _ rfl rfl wr.heap.size (ropA op) _ rfl (ropA_one _) rfl rfl rfl B4.out ?_
             intro w5 b5 k5 s5
             have B5 := Lib.hid b5
             have L5 := Lib.hid (L4.out.trans (show Below wr.heap.size w4 w5 from k5.below L4.out.size (fun k hk e => by omega)))
             have J5 := Lib.hid (HB.out.keep (L5.out.block _ HB.out.lt))
             have R5 := Lib.hid (HRV.out.below L5.out)
             have HDO := Lib.hid (HK.out.do_ op R5.out HOK.out)
             have g4 : w5.cell? ⟨J, 4, none⟩ = some (.int .i64 r.g) := J5.out.cell 4
             rw [errN_not E0.out] at HDO
             clear b5 k5 s5 B4 L4 S4)
          | (with_reducible show wpList _ _ _ (⟨_, Op.load rvT _, _, _, _, none⟩ :: _) _ _; refine wpList_boxA_load rowRv rfl _ rfl J (resvA q m d r) rfl rfl J5.out ?_)
          | (with_reducible show wpList _ _ _ (⟨_, Op.load roT _, _, _, _, none⟩ :: _) _ _; refine wpList_boxA_load rowOp rfl _ rfl wr.heap.size (ropA op) rfl rfl B5.out ?_)
          | (go_at_call 10
             refine HDO.out.mono ?_; rintro e w6 ⟨q6, n6, c6, rfl, o6, hb6⟩
             have O6 := Lib.hid o6
             have L6 := Lib.hid (L5.out.trans (hb6.mono L5.out.size))
             have J6 := Lib.hid (J5.out.keep (hb6.block _ J5.out.lt))
             have G6 := Lib.hid (show w5.heap.size ≤ w6.heap.size from hb6.size)
             have R6 := Lib.hid (OwnR.at_ (r := (doR r op).1) O6.out (do_ok HRV.out.ok HOK.out) HDF.out)
             clear o6 hb6 g4 J5 B5 R5 HRK HDO)
          | (with_reducible show wpList _ _ _ (⟨_, Op.alloc rvT, _, _, _, _⟩ :: _) _ _; refine wpList_boxA_new rowRv rfl rfl w6.heap.size rfl ?_
             intro w7 b7 l7 s7
             have B7 := Lib.hid b7
             have L7 := Lib.hid l7
             have S7 := Lib.hid s7
             clear b7 l7 s7)
          | (with_reducible show wpList _ _ _ (⟨_, Op.store rvT _ _, _, _, _, none⟩ :: _) _ _; refine wpList_boxA_put rowRv rfl _ _ rfl rfl w6.heap.size (resvA q6 n6 c6 (doR r op).1) _ rfl (rvA_one _ _ _ _) rfl rfl rfl B7.out ?_
             intro w8 b8 k8 s8
             have B8 := Lib.hid b8
             have L8 := Lib.hid (L7.out.trans (show Below w6.heap.size w7 w8 from k8.below L7.out.size (fun k hk e => by omega)))
             have J8 := Lib.hid (J6.out.keep (L8.out.block _ J6.out.lt))
             have R8 := Lib.hid (R6.out.1.below L8.out)
             have G8 := Lib.hid (show w6.heap.size < w8.heap.size from B8.out.lt)
             clear b8 k8 s8 B7 L7 S7
             have g0 : w8.cell? ⟨w6.heap.size, 0, none⟩ = some (.slice q6 n6 c6) := B8.out.cell 0
             have g1 : w8.cell? ⟨w6.heap.size, 1, none⟩ = some (.int .i64 (doR r op).1.h) := B8.out.cell 1
             have g4 : w8.cell? ⟨w6.heap.size, 4, none⟩ = some (.int .i64 (doR r op).1.g) := B8.out.cell 4
             have N8 : n6 = 0 := by rw [R6.out.2, HDE.out.2 E0.out]; rfl
             rw [HDE.out.2 E0.out] at g1 g4
             subst N8))
        go_roundw
        case rel =>
          have L8' : Below wr.heap.size wr _ := L6.out.trans (L8.out.mono L6.out.size)
          exact ⟨k + 1, q, m, d, HLT.out, by go_num, by rw [HS.out]; exact HB.out.keep (L8'.block _ HB.out.lt), by rw [HS.out]; exact HRB.out.1.below L8', HRB.out.2, HLB.out.trans (L8'.mono HLB.out.size)⟩
        case measure => have := HLT.out; simp [intOf]; omega
    · have f3 : ¬ (k : Int) < (n : Int) := by omega
      obtain rfl : k = n := by omega
      clear hlt hk
      go_wp2
      go_ret
      exact ⟨rfl, HLB.out⟩
theorem laidOut : laidOutB Try.prog = true := by kernel_rfl
set_option maxRecDepth 100000 in
theorem lifted (os : Os) (started : os.Started) (H : Type) (enc : TypeId × Value → H) :
    ReturnsInHanded {} Try.checked os 4 .any (Rows.resvRunsSpec.pre6 enc Try.prog Try.f4 Rows.resvRunsRow.domain false) (Rows.resvRunsSpec.post enc Try.prog Try.f4 false true false false) := by
  refine returnsInHanded_of_change (C := Try.checked) own started (by kernel_rfl) Try.func4
    (ChangeSpec.witness6 (enc := enc) (C := Try.checked) false ⟨#[], #[.slice none 0 0], []⟩ 8 (by kernel_rfl) (by kernel_rfl) (by kernel_rfl) (by kernel_rfl)) ?_
  intro W base args ds gs before hval0 hW hcnd _
  have hval : ∀ (j : Nat) t v, Try.f4.params[j]? = some t → args[j]? = some v → Value.okWide Try.prog W .any base t v := hval0
  have hW' := hW
  obtain ⟨p, q, hA0, hV, rfl, hfz, hnd⟩ := hW
  have hA : DataW.TrodAll enc Try.prog W 0 (fun _ => true) true Try.f4.params.toList args.toList ds p := hA0
  rw [Try.params4] at hA hval
  obtain ⟨v0, vs0, d0, ds0, p0, q0, hargs, rfl, rfl, h0, r0⟩ := trodAll_cons hA
  obtain ⟨rfl, rfl, rfl⟩ := trodAll_nil r0
  obtain rfl : args = #[v0] := by cases args; simp_all
  obtain ⟨rfl, rfl⟩ := trodVars_none hV
  have k0 := h0
  have lt0 : ∀ x ∈ p0, x.block < W.heap.size := by obtain ⟨m, hm⟩ := k0; exact DataW.trod_lt m _ _ _ hm
  obtain ⟨q0, l0, c0, rfl, w0, y0, m0⟩ := open_rops (hval 0 41 v0 rfl rfl) h0
  clear hA0 hval0
  refine (walk resvSpec q0 l0 c0 m0 w0 W y0).mono fun e W' ⟨he, bel⟩ => ?_
  subst he
  exact ⟨_, rfl, _, _, _, [], _, [], hW', trodAll_mk1 (shut_bool Try.underlying4 _), (trodAll_cons_mk (Below.trod laidOut (by kernel_rfl) (of_decide_eq_true (by kernel_rfl)) k0 bel lt0) trodAll_mk0), rfl, bel.frame _, fun h => by cases h⟩

theorem over : Rows.resvRunsRow.holds Try.pinned (OpenSpec.ofChange Rows.resvRunsSpec) :=
  OpenClaim.holds_of_wide 4 Try.f4 rfl rfl rfl rfl rfl rfl rfl ⟨rfl, rfl, rfl, rfl, rfl⟩ rfl rfl rfl rfl rfl (by kernel_rfl) Try.func4 (by kernel_rfl)
    (of_decide_eq_true (by kernel_rfl)) (by unfold Func.isWrapper; first | (rw [if_pos (by decide +kernel)]; kernel_rfl) | (rw [if_neg (by decide +kernel)]; exact ⟨rfl, rfl⟩))
    (fun os started H enc _ => lifted os started H enc)

theorem proved : Rows.ResvRunsSaid := over
end resvRuns
end Go.Proofs.Ytfnkdmdcjliebaa
