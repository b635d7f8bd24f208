/- The contract of the laws' run. Condition: package resv does as ResvSpec says; the operations lie in memory. -/
import Derived.Test.YtfnkdmdcjliebaaRvBox
import Derived.WalkMore
namespace Go.Proofs.Ytfnkdmdcjliebaa
open Go.ChangeShapes Go.WideShapes Go.ChangeAt Go.RowKit
set_option linter.unusedVariables false
theorem run_facts (os : List ROp) (hok : ∀ o ∈ os, o.ok) : ∀ r : ResvOf, r.ok → r.regs.length ≤ 4 → (runR r os).ok ∧ (runR r os).regs.length ≤ 4 := by
  induction os with
  | nil => exact fun r h1 h2 => ⟨h1, h2⟩
  | cons o os ih =>
    intro r h1 h2
    refine ih (fun x hx => hok x (List.mem_cons_of_mem _ hx)) (stepR r o) ?_ ?_
    · unfold stepR; split
      · exact do_ok h1 (hok o List.mem_cons_self)
      · exact h1
    · unfold stepR; split
      · exact do_few r o
      · exact h2
attribute [local irreducible] regC atR atO doR runR ropC
attribute [local go_sem] Oper.semAt_some
set_option maxRecDepth 100000 in
set_option maxHeartbeats 4000000 in
theorem run_any (K : ResvSpec) {w : World} {p : Option Addr} {n c : Nat} {os : List ROp} (hp : OpsAt w p os) (hn : os.length = n) (hl : n ≤ maxLen) (hok : ∀ o ∈ os, o.ok) :
    Calls Try.prog 22 #[.slice p n c] w fun e w' => ∃ q m c', e = .returned (.tuple #[.agg (resvA q m c' (runR nobodyR os)), .bool (decide ((n : Int) ≤ 200))]) ∧ RvAt w' q m c' (runR nobodyR os) ∧ (∀ k, AtB q k → w.heap.size ≤ k) ∧ Below w.heap.size w w' := by
  have HK := Lib.hid K
  have HR := Lib.hid (fun i (hi : i < os.length) => ops_at hp (k := i) hi)
  have HO := Lib.hid (fun i (hi : i < os.length) => hok _ (atO_mem hi))
  have HT := Lib.hid (fun i (hi : i < os.length) => run_take hi nobodyR)
  have HF := Lib.hid (fun i => run_facts (os.take i) (fun o ho => hok o (List.mem_of_mem_take ho)) nobodyR nobody_ok (Nat.zero_le _))
  have H0 := Lib.hid (show runR nobodyR (os.take 0) = nobodyR by unfold runR; rfl)
  have HE := Lib.hid (show runR nobodyR (os.take n) = runR nobodyR os by rw [List.take_of_length_le (by omega)])
  have HL := Lib.hid (show n ≤ 9223372036854775807 from by simpa [maxLen] using hl)
  rw [hn] at HR HO HT
  clear hp hl hok K
  go_enter Try.func22, Try.ntmps22
  have NB := Lib.hid (RvAt.nobody w)
  go_wp2_with (first
    | (refine wpList_boxA_new rowRv rfl rfl w.heap.size rfl ?_
       intro w1 b1 l1 s1
       have B1 := Lib.hid b1
       have L1 := Lib.hid l1
       have S1 := Lib.hid s1
       clear b1 l1 s1)
    | (refine wpList_boxA_new rowRv rfl rfl w1.heap.size rfl ?_
       intro w2 b2 l2 s2
       have B2 := Lib.hid b2
       have L2 := Lib.hid (L1.out.trans (l2.mono L1.out.size))
       have C2 := Lib.hid (B1.out.keep (l2.block _ B1.out.lt))
       clear b2 l2 s2)
    | (refine wpList_boxA_put rowRv rfl _ _ rfl rfl w1.heap.size (resvA none 0 0 nobodyR) _ rfl (rvA_one _ _ _ _) rfl rfl rfl B2.out ?_
       intro w3 b3 k3 s3
       have B3 := Lib.hid b3
       have L3 := Lib.hid (L2.out.trans (show Below w.heap.size w2 w3 from k3.below L2.out.size (fun k hk e => by have := S1.out; omega)))
       have C3 := Lib.hid (C2.out.keep (k3.block _ C2.out.lt (by have := S1.out; omega)))
       clear b3 k3 s3))
  have O1 := Lib.hid (show w.heap.size < w1.heap.size from by have := S1.out; omega)
  generalize w1.heap.size = J at *
  clear B1 B2 L1 L2 S1 C2
  go_loopw [12, 6, 7, 8] (fun v12 _ _ _ wr => ∃ (k : Nat) (q : Option Addr) (m d : Nat), k ≤ n ∧ v12 = .int .i64 k ∧ BoxA wr J rvT (resvA q m d (runR nobodyR (os.take k))) ∧ RvAt wr q m d (runR nobodyR (os.take k)) ∧ (∀ j, AtB q j → w.heap.size ≤ j ∧ j ≠ J ∧ j ≠ w.heap.size) ∧ BoxA wr w.heap.size rvT (resvA none 0 0 zeroRv) ∧ Below w.heap.size w wr) (fun v12 _ _ _ _ => n - (intOf v12).toNat)
  case atStart => exact ⟨0, none, 0, 0, Nat.zero_le _, rfl, by rw [H0.out]; exact B3.out, by rw [H0.out]; exact RvAt.nobody _, (fun j ⟨o, e⟩ => nomatch e), C3.out, L3.out⟩
  case round =>
    obtain ⟨k, q, m, d, hk, rfl, hb, hr, hq, hc, hl⟩ := hrel
    have HB := Lib.hid hb
    have HRV := Lib.hid hr
    have HQ := Lib.hid hq
    have HC := Lib.hid hc
    have HLB := Lib.hid hl
    clear hb hr hq hc hl B3 L3 C3 NB
    by_cases hlt : k < n
    · have f1 : (k : Int) < (n : Int) := by omega
      have HLT := Lib.hid hlt
      have f3 : IntKind.i64.wrap ((k : Int) + 1) = ((k + 1 : Nat) : Int) := by have := HL.out; rw [IntWalk.i64_in _ (by omega)]; omega
      obtain ⟨LB, o, rfl, hB, hrg⟩ := HR.out k hlt
      have HRK := Lib.hid (rangeAt_below hrg HLB.out hB)
      have HOK := Lib.hid (HO.out k hlt)
      have HTK := Lib.hid (HT.out k hlt)
      have HFK := Lib.hid (HF.out k)
      clear hk hlt hrg hB
      generalize atO os k = op at *
      generalize hrr : runR nobodyR (os.take k) = r at *
      have HDF := Lib.hid (do_few r op)
      have HRB := Lib.hid (show RvAt wr q m d r ∧ (∀ j, AtB q j → w.heap.size ≤ j ∧ j ≠ J ∧ j ≠ w.heap.size) from ⟨HRV.out, HQ.out⟩)
      by_cases h0 : (doR r op).2 = 0
      · have HS := Lib.hid (show runR nobodyR (os.take (k + 1)) = (doR r op).1 from by rw [HTK.out]; unfold stepR; rw [if_pos h0])
        have E0 := Lib.hid h0
        clear h0
        go_wp2_with (first
          | (refine wpList_op_elem rfl _ _ rfl LB o n c k rfl rfl HLT.out ?_)
          | (refine wpList_op_load rfl _ rfl LB (o + 6 * k) rfl op HRK.out ?_)
          | (refine wpList_boxA_new rowOp rfl rfl wr.heap.size rfl ?_
             intro w4 b4 l4 s4
             have B4 := Lib.hid b4
             have L4 := Lib.hid l4
             have S4 := Lib.hid s4
             clear b4 l4 s4)
          | (refine wpList_boxA_put rowOp rfl _ _ rfl rfl wr.heap.size (ropA op) _ rfl (ropA_one _) rfl rfl rfl B4.out ?_
             intro w5 b5 k5 s5
             have B5 := Lib.hid b5
             have L5 := Lib.hid (L4.out.trans (show Below wr.heap.size w4 w5 from k5.below L4.out.size (fun k hk e => by omega)))
             have S5 := Lib.hid s5
             have J5 := Lib.hid (HB.out.keep (L5.out.block _ HB.out.lt))
             have R5 := Lib.hid (HRV.out.below L5.out)
             have HDO := Lib.hid (HK.out.do_ op R5.out HOK.out)
             rw [E0.out, errN_zero] at HDO
             clear b5 k5 s5)
          | (refine wpList_boxA_load rowRv rfl _ rfl J (resvA q m d r) rfl rfl J5.out ?_)
          | (refine wpList_boxA_load rowOp rfl _ rfl wr.heap.size (ropA op) rfl rfl B5.out ?_)
          | (go_at_call 10
             refine HDO.out.mono ?_; rintro e w6 ⟨q6, n6, c6, rfl, o6, hb6⟩
             have O6 := Lib.hid o6
             have L6 := Lib.hid (L5.out.trans (hb6.mono L5.out.size))
             have J6 := Lib.hid (J5.out.keep (hb6.block _ J5.out.lt))
             have G6 := Lib.hid (show w5.heap.size ≤ w6.heap.size from hb6.size)
             clear o6 hb6)
          | (refine wpList_boxA_new rowRv rfl rfl w6.heap.size rfl ?_
             intro w7 b7 l7 s7
             have B7 := Lib.hid b7
             have L7 := Lib.hid l7
             have S7 := Lib.hid s7
             clear b7 l7 s7)
          | (refine wpList_boxA_put rowRv rfl _ _ rfl rfl w6.heap.size (resvA q6 n6 c6 (doR r op).1) _ rfl (rvA_one _ _ _ _) rfl rfl rfl B7.out ?_
             intro w8 b8 k8 s8
             have B8 := Lib.hid b8
             have L8 := Lib.hid (L7.out.trans (show Below w6.heap.size w7 w8 from k8.below L7.out.size (fun k hk e => by omega)))
             have J8 := Lib.hid (J6.out.keep (L8.out.block _ J6.out.lt))
             have G8 := Lib.hid (show w8.heap.size = w6.heap.size + 1 from by rw [s8, S7.out])
             clear b8 k8 s8)
          | (refine wpList_boxA_load rowRv rfl _ rfl w6.heap.size (resvA q6 n6 c6 (doR r op).1) rfl rfl B8.out ?_)
          | (refine wpList_boxA_put rowRv rfl _ _ rfl rfl J (resvA q6 n6 c6 (doR r op).1) _ rfl (rvA_one _ _ _ _) rfl rfl rfl J8.out ?_
             intro w9 b9 k9 s9
             have B9 := Lib.hid b9
             have K9 := Lib.hid k9
             clear b9 k9 s9))
        go_roundw
        case rel =>
          obtain ⟨r6, -⟩ := OwnR.at_ (r := (doR r op).1) O6.out (do_ok HRV.out.ok HOK.out) HDF.out
          have q6 := OwnR.base O6.out
          have hz : ∀ j, AtB _ j → w.heap.size ≤ j ∧ j ≠ J ∧ j ≠ w.heap.size := fun j hj => by
            have h1 := q6 j hj
            have h2 := L5.out.size
            have h3 := HLB.out.size
            have h4 := HB.out.lt
            have h5 := HC.out.lt
            omega
          have r9 := (r6.below L8.out).keepB K9.out.size (fun j hj hlt => K9.out.block j hlt (fun e => (hz j hj).2.1 e))
          have L9 : Below w.heap.size w _ := ((HLB.out.trans (L6.out.mono HLB.out.size)).trans (L8.out.mono (by have := L6.out.size; have := HLB.out.size; omega))).trans (K9.out.below (by have := L8.out.size; have := L6.out.size; have := HLB.out.size; omega) (fun j hj e => by have := O1.out; omega))
          refine ⟨k + 1, _, _, _, HLT.out, by go_num, by rw [HS.out]; exact B9.out, by rw [HS.out]; exact r9, hz, ?_, L9⟩
          exact HC.out.keep (((K9.out.block _ (by have := L8.out.size; have := L6.out.size; have := HC.out.lt; omega) (by have := O1.out; omega)).trans (L8.out.block _ (by have := L6.out.size; have := HC.out.lt; omega))).trans (L6.out.block _ HC.out.lt))
        case measure => have := HLT.out; simp [intOf]; omega
      · have HS := Lib.hid (show runR nobodyR (os.take (k + 1)) = r from by rw [HTK.out]; unfold stepR; rw [if_neg h0])
        have E0 := Lib.hid h0
        have E1 : ((doR r op).2 == 0) = false := by simpa using h0
        clear h0
        go_wp2_with (first
          | (refine wpList_op_elem rfl _ _ rfl LB o n c k rfl rfl HLT.out ?_)
          | (refine wpList_op_load rfl _ rfl LB (o + 6 * k) rfl op HRK.out ?_)
          | (refine wpList_boxA_new rowOp rfl rfl wr.heap.size rfl ?_
             intro w4 b4 l4 s4
             have B4 := Lib.hid b4
             have L4 := Lib.hid l4
             have S4 := Lib.hid s4
             clear b4 l4 s4)
          | (refine wpList_boxA_put rowOp rfl _ _ rfl rfl wr.heap.size (ropA op) _ rfl (ropA_one _) rfl rfl rfl B4.out ?_
             intro w5 b5 k5 s5
             have B5 := Lib.hid b5
             have L5 := Lib.hid (L4.out.trans (show Below wr.heap.size w4 w5 from k5.below L4.out.size (fun k hk e => by omega)))
             have S5 := Lib.hid s5
             have J5 := Lib.hid (HB.out.keep (L5.out.block _ HB.out.lt))
             have R5 := Lib.hid (HRV.out.below L5.out)
             have HDO := Lib.hid (HK.out.do_ op R5.out HOK.out)
             rw [errN_not E0.out] at HDO
             clear b5 k5 s5)
          | (refine wpList_boxA_load rowRv rfl _ rfl J (resvA q m d r) rfl rfl J5.out ?_)
          | (refine wpList_boxA_load rowOp rfl _ rfl wr.heap.size (ropA op) rfl rfl B5.out ?_)
          | (go_at_call 10
             refine HDO.out.mono ?_; rintro e w6 ⟨q6, n6, c6, rfl, o6, hb6⟩
             have O6 := Lib.hid o6
             have L6 := Lib.hid (L5.out.trans (hb6.mono L5.out.size))
             have J6 := Lib.hid (J5.out.keep (hb6.block _ J5.out.lt))
             have G6 := Lib.hid (show w5.heap.size ≤ w6.heap.size from hb6.size)
             clear o6 hb6)
          | (refine wpList_boxA_new rowRv rfl rfl w6.heap.size rfl ?_
             intro w7 b7 l7 s7
             have B7 := Lib.hid b7
             have L7 := Lib.hid l7
             have S7 := Lib.hid s7
             clear b7 l7 s7)
          | (refine wpList_boxA_put rowRv rfl _ _ rfl rfl w6.heap.size (resvA q6 n6 c6 (doR r op).1) _ rfl (rvA_one _ _ _ _) rfl rfl rfl B7.out ?_
             intro w8 b8 k8 s8
             have B8 := Lib.hid b8
             have L8 := Lib.hid (L7.out.trans (show Below w6.heap.size w7 w8 from k8.below L7.out.size (fun k hk e => by omega)))
             clear b8 k8 s8))
        go_roundw
        case rel =>
          have L8' : Below wr.heap.size wr _ := L6.out.trans (L8.out.mono L6.out.size)
          exact ⟨k + 1, q, m, d, HLT.out, by go_num, by rw [HS.out]; exact HB.out.keep (L8'.block _ HB.out.lt), by rw [HS.out]; exact HRB.out.1.below L8', HRB.out.2, HC.out.keep (L8'.block _ HC.out.lt), HLB.out.trans (L8'.mono HLB.out.size)⟩
        case measure => have := HLT.out; simp [intOf]; omega
    · have f1 : ¬ (k : Int) < (n : Int) := by omega
      obtain rfl : k = n := by omega
      rw [HE.out] at HB HRV
      clear hlt hk
      go_wp2_with (first
        | (refine wpList_boxA_load rowRv rfl _ rfl J (resvA q m d (runR nobodyR os)) rfl rfl HB.out ?_)
        | (refine wpList_boxA_put rowRv rfl _ _ rfl rfl w.heap.size (resvA q m d (runR nobodyR os)) _ rfl (rvA_one _ _ _ _) rfl rfl rfl HC.out ?_
           intro w4 b4 k4 s4
           have B4 := Lib.hid b4
           have K4 := Lib.hid k4
           clear b4 k4 s4))
      exact bodyPost_ret (results_cell_row_tmp rfl _ _ w.heap.size rvT (resvA q m d (runR nobodyR os)) (0, 0) _ rfl B4.out Try.underlying24 rfl (rvA_size _ _ _ _)) rfl ⟨q, m, d, rfl, HRV.out.keepB K4.out.size (fun j hj hlt => K4.out.block j hlt (fun e => (HQ.out j hj).2.2 e)), fun j hj => (HQ.out j hj).1, HLB.out.trans (K4.out.below HLB.out.size (fun j hj e => by omega))⟩
end Go.Proofs.Ytfnkdmdcjliebaa
