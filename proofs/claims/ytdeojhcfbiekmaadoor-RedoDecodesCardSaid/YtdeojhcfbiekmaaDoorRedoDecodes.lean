/- Sectors of any bytes, decoded by the program and by the document: the statement RedoDecodes, tied to the program's words. -/
import Derived.Test.YtdeojhcfbiekmaaDoorRdDecL
namespace Go.Proofs.YtdeojhcfbiekmaaDoor.redoDecodes
open Go.ChangeShapes Go.WideShapes Go.ChangeAt Go.RowKit
attribute [local go_sem] Oper.semAt_some
set_option linter.unusedVariables false

theorem own : ownKnob Tryd.prog.godebug = none := by kernel_rfl
attribute [local irreducible] putC natF putsL encL goodE tauK secC decE byteC cutS secsT extF saysC saysL decC decP secVal intC
set_option maxRecDepth 100000 in
set_option maxHeartbeats 16000000 in
theorem walk' (kp : Option Addr) (n kc : Nat) (g : Nat → Nat) (q : Option Addr) (N cap : Nat) (T : Nat → TextOf) (w : World) (hT : TabAt w) (hk : KeyOk w kp n kc g) (hl : ListsAt w q N T) :
    Calls Tryd.prog 4 #[.slice kp n kc, .slice q N cap] w fun e w' => e = .returned (.bool true) ∧ Below w.heap.size w w' := by
  by_cases h1 : n ≤ 1000
  · have d1 : decide ((1000 : Int) < (n : Int)) = false := decide_eq_false (by omega)
    have d1' : decide (1000 < n) = false := decide_eq_false (by omega)
    by_cases h2 : N ≤ 70
    · have d2 : decide ((70 : Int) < (N : Int)) = false := decide_eq_false (by omega)
      have d2' : decide (70 < N) = false := decide_eq_false (by omega)
      have b0 : Below w.heap.size w (w.alloc (.cells #[.bool false] 4)) := (Below.refl _ w).alloc (Nat.le_refl _) _
      have S0 := Lib.hid (show St w kp n kc g q N T (w.alloc (.cells #[.bool false] 4)) from ⟨hk.below b0, hT.on b0, hl.below b0, heap_alloc_new _ _, by simp, b0⟩)
      have HN := Lib.hid h1
      have HM := Lib.hid h2
      have OC := Lib.hid (fun W hT => one_any none 0 0 (fun _ => 0) (by decide) (Nat.le_refl _) (fun i hi => absurd hi (Nat.not_lt_zero _)) W hT (.inl rfl))
      clear h1 h2 hT hk hl b0
      refine (callsIn_wide (n := 3)).1 ?_
      refine callsIn_of_wp_marks Tryd.func4 rfl trivial ?_ rfl
      simp only [Tryd.ntmps4, List.size_toArray, List.length_cons, List.length_nil, Nat.reduceAdd, Nat.reduceSub, Array.replicate_succ, Array.replicate_zero, List.push_toArray, List.append_toArray, List.nil_append, List.cons_append]
      refine wpIn_wide.2 ?_
      go_wp2_with (first
        | (go_at_call 9
           generalize w.alloc (.cells #[.bool false] 4) = wA at *
           refine (OC.out wA S0.out.t).mono ?_; rintro e w1 ⟨⟨B1, c1, rfl, hc⟩, hb⟩
           have S1 := Lib.hid (S0.out.below hb)
           clear hb OC S0 hc)
        | (refine wpList_list0 elemSec rfl rfl ?_
           have O3 := Lib.hid (OwnL.empty 31 128 secC w1 w1.heap.size (Nat.le_refl _))
           have B3 := Lib.hid ((Below.refl w1.heap.size w1).alloc (Nat.le_refl _) (.cells #[] 31))
           have Z3 := Lib.hid (show (w1.alloc (.cells #[] 31)).heap.size = w1.heap.size + 1 by simp)
           generalize w1.alloc (.cells #[] 31) = w3 at *))
      go_loopw [43, 7] (fun v43 v7 wr => ∃ k : Nat, k ≤ N ∧ v43 = .int .i64 k ∧ OwnL 31 128 secC wr w1.heap.size wr.heap.size v7 (secsT T k) ∧ Below w1.heap.size w1 wr) (fun v43 _ _ => N - (intOf v43).toNat)
      case atStart => exact ⟨0, Nat.zero_le _, rfl, by rw [secsT_zero]; exact O3.out.move (fun _ _ _ => rfl) (by have := Z3.out; omega), B3.out⟩
      case round =>
        obtain ⟨k, hk, rfl, ho, hb⟩ := hrel
        have HO := Lib.hid ho
        have HB := Lib.hid hb
        have SR := Lib.hid (S1.out.below hb)
        have HWM := Lib.hid (show w1.heap.size ≤ wr.heap.size from hb.size)
        clear ho hb O3 B3
        by_cases hlt : k < N
        · have hL := SR.out.l
          rcases hL with h0 | ⟨B, o, hqe, hB, hc⟩
          · omega
          obtain ⟨hc1, hc2, hc3⟩ := hc k hlt
          subst hqe
          have g1 : (k : Int) < (N : Int) := by omega
          have g2 : (0 : Int) ≤ k := by omega
          have g3 : IntKind.i64.wrap ((k : Int) + 1) = ((k + 1 : Nat) : Int) := by have := HM.out; rw [IntWalk.i64_in _ (by omega)]; omega
          have HNX := Lib.hid (secsT_next T k)
          have HLE := Lib.hid (secsT_len T k)
          have HSC := Lib.hid (cutS_sec hc3)
          have HV := Lib.hid (cutS_val (T k))
          have HBY := Lib.hid hc2
          have HLT := Lib.hid hlt
          clear hc hc2 hc3 hlt hB
          generalize secsT T k = cs at *
          generalize cutS (T k) = s at *
          have hX := sec_laid wr zeroK
          have Y3 := Lib.hid hX.1
          have X3 := Lib.hid hX.2
          have Z3 := Lib.hid (show wr.heap.size < ((wr.alloc (.cells (cellsOf .u8 (mk 128 zeroK)) 31)).setRow wr.heap.size (cellsOf .u8 (mk 128 zeroK))).heap.size from hX.1.lt)
          clear hX
          go_wp2_with (first
            | (refine wpList_sec_build0 rfl rfl ?_)
            | (refine wpList_sec_alloc rfl rfl wr.heap.size rfl ?_)
            | (refine store_row_on rfl 31 _ _ rfl rfl wr.heap.size (cellsOf .u8 (mk 128 zeroK)) rfl rfl 31 (cellsOf .u8 (mk 128 zeroK)) (heap_alloc_new _ _) (secSize _) (sec_same _ _) (cellsOf_one _ _) ?_
               change wpList _ _ _ _ _ ((wr.alloc (.cells (cellsOf .u8 (mk 128 zeroK)) 31)).setRow wr.heap.size (cellsOf .u8 (mk 128 zeroK)))
               generalize (wr.alloc (.cells (cellsOf .u8 (mk 128 zeroK)) 31)).setRow wr.heap.size (cellsOf .u8 (mk 128 zeroK)) = wb at *)
            | (refine wpList_arr_slice rfl 31 5 128 secUnder rfl _ rfl wr.heap.size 0 rfl ?_)
            | (refine wpList_copy_upto rfl _ _ rfl wr.heap.size rfl (T k).p (T k).n (T k).c (T k).g rfl 31 Y3.out (HBY.out.below X3.out) ?_
               intro vc wc hic hbc hsz
               have Y4 := Lib.hid hic
               have X4 := Lib.hid (X3.out.trans (hbc.below (Nat.le_refl _) (X3.out.size)))
               have Z4 := Lib.hid (show wr.heap.size < wc.heap.size by rw [hsz]; exact Z3.out)
               clear hic hbc hsz X3 Y3 Z3)
            | (refine wpList_sec_load rfl _ rfl wr.heap.size (extF (T k).n (T k).g) rfl Y4.out ?_
               rw [HV.out])
            | (refine wpList_sec1 rfl _ rfl s rfl ?_
               have X5 := Lib.hid (X4.out.alloc (X4.out.size) (.cells (secC s).toArray 31))
               have R5 := Lib.hid (rows_sec1 wc s)
               generalize wc.alloc (.cells (secC s).toArray 31) = wd at *)
            | (refine wpList_append_list elemSec rfl _ _ rfl w1.heap.size wr.heap.size _ cs [s] (some ⟨wc.heap.size, 0, none⟩) 1 1 rfl rfl rfl (HO.out.below (Nat.le_refl _) X5.out) R5.out (by have := HLE.out; have := HM.out; have := HLT.out; simp; omega) (by decide) (Nat.le_trans HWM.out X5.out.size) ?_
               intro v6 w6 ho6 hg6 hr6
               have O6 := Lib.hid ho6
               have B6 := Lib.hid ((HB.out.trans (X5.out.mono HWM.out)).trans (below_own1 hg6 HO.out.block (Nat.le_trans HWM.out X5.out.size)))
               clear ho6 hg6 hr6))
          go_roundw
          case rel => exact ⟨k + 1, HLT.out, by go_num, by rw [HNX.out]; exact O6.out, B6.out⟩
          case measure => have := HLT.out; simp [intOf]; omega
        · have g1 : ¬ (k : Int) < (N : Int) := by omega
          have hkn : k = N := by omega
          rw [hkn] at HO
          have HCS := Lib.hid (show ∀ x ∈ secsT T N, IsSec x from secsT_all SR.out.l)
          have HLN := Lib.hid (secsT_len T N)
          obtain ⟨p7, c7, rfl, hcc, -, hr, -⟩ := HO.out.rows secC_len
          have R7 := Lib.hid hr
          have HL7 := HLN.out
          rw [HL7]
          clear hlt hk hkn hr hcc HO HL7
          have DA := decs_at (secsT T N) HCS.out HLN.out kp n kc g (by have := HN.out; omega) (by have := HM.out; omega) p7 c7
          obtain ⟨c, pl, b, HPN, HPO, DC, RC⟩ := DA
          have HPN := Lib.hid HPN
          have HPO := Lib.hid HPO
          have DC := Lib.hid DC
          have RC := Lib.hid RC
          have PC := Lib.hid (puts_at (secsT T N) HCS.out HLN.out p7 c7)
          have SC := Lib.hid (fun h => says_at (secsT T N) HCS.out h)
          have HZ := Lib.hid (says_none (secsT T N))
          have HSL := Lib.hid (saysC_len (secsT T N))
          generalize secsT T N = cs at *
          generalize saysC cs = L at *
          clear HCS HN HM HWM
          by_cases hz : N = 0
          · have d0 : decide ((0 : Int) < (N : Int)) = false := decide_eq_false (by omega)
            have d1 : decide (0 < N) = false := decide_eq_false (by omega)
            have hL0 : L = [] := HZ.out (List.eq_nil_of_length_eq_zero (by have := HLN.out; omega))
            subst hL0
            clear HZ hz SC
            go_wp2_with (first
              | (go_at_call 17; refine (DC.out wr SR.out.t SR.out.k R7.out).mono ?_; rintro e w8 ⟨⟨p8, c8, rfl, hr⟩, hb⟩
                 have S8 := Lib.hid (SR.out.below hb)
                 have R8 := Lib.hid (R7.out.below hb)
                 have P8 := Lib.hid hr
                 clear hb hr DC SR R7)
              | (go_at_call 18; refine (RC.out w8 S8.out.k R8.out).mono ?_; rintro e w9 ⟨⟨p9, c9, rfl, hr⟩, hb⟩
                 have S9 := Lib.hid (S8.out.below hb)
                 have R9 := Lib.hid (R8.out.below hb)
                 have P9 := Lib.hid (P8.out.below hb)
                 have Q9 := Lib.hid hr
                 clear hb hr RC S8 R8 P8)
              | (go_at_call 15; refine (same_any p8 p9 c8 c9 pl pl (by have := HPN.out; omega) HPO.out HPO.out w9 P9.out Q9.out).mono ?_; rintro e w10 ⟨hs, hb⟩
                 have he := hs.is rfl
                 subst he
                 have S10 := Lib.hid (S9.out.below hb).two
                 have R10 := Lib.hid (R9.out.below hb)
                 clear hs hb S9 R9 P9 Q9 HPN HPO)
              | (refine wpList_list0 elemInt rfl rfl ?_
                 have hb := (Below.refl w10.heap.size w10).alloc (Nat.le_refl _) (.cells #[] 3)
                 have S11 := Lib.hid (S10.out.below hb)
                 have R11 := Lib.hid (R10.out.below hb)
                 have hi := ints_none (w10.alloc (.cells #[] 3)) (some ⟨w10.heap.size, 0, none⟩)
                 have I11 := Lib.hid hi
                 generalize w10.alloc (.cells #[] 3) = w11 at *
                 generalize w10.heap.size = B11 at *
                 clear hb hi S10 R10)
              | (refine wpList_store_oneTo rfl 46 _ _ rfl rfl w11.heap.size (.slice (some ⟨B11, 0, none⟩) 0 0) rfl rfl rfl 46 (.slice none 0 0) (heap_alloc_new _ _) (by kernel_rfl) ?_
                 have hb := (box_laid w11 (.slice none 0 0) (.slice (some ⟨B11, 0, none⟩) 0 0) 46)
                 have S13 := Lib.hid (S11.out.below hb.1)
                 have R13 := Lib.hid (R11.out.below hb.1)
                 have I13 := Lib.hid (I11.out.below hb.1)
                 have X13 := Lib.hid hb.2.1
                 have Z13 := Lib.hid hb.2.2
                 have G13 := Lib.hid S11.out.lt
                 clear hb S11 R11 I11
                 change wpList _ _ _ _ _ ((w11.alloc (.cells #[.slice none 0 0] 46)).setRow w11.heap.size #[.slice (some ⟨B11, 0, none⟩) 0 0])
                 generalize (w11.alloc (.cells #[.slice none 0 0] 46)).setRow w11.heap.size #[.slice (some ⟨B11, 0, none⟩) 0 0] = w13 at *
                 generalize w11.heap.size = X at *)
              | (refine wpList_store_oneTo rfl 3 _ _ rfl rfl w13.heap.size (.int .i64 0) rfl rfl rfl 3 (.int .i64 0) (heap_alloc_new _ _) (by kernel_rfl) ?_
                 have hb := (box_laid w13 (.int .i64 0) (.int .i64 0) 3)
                 have S16 := Lib.hid (S13.out.below hb.1)
                 have R16 := Lib.hid (R13.out.below hb.1)
                 have I16 := Lib.hid (I13.out.below hb.1)
                 have X16 := Lib.hid ((hb.1.block X (by have := Z13.out; omega)).trans X13.out)
                 have K16 := Lib.hid hb.2.1
                 have Z16 := Lib.hid hb.2.2
                 have G16 := Lib.hid (show w.heap.size < X ∧ X < w13.heap.size from ⟨G13.out, by have := Z13.out; omega⟩)
                 have F16 := Lib.hid (ints_lt I13.out)
                 clear hb S13 R13 I13 X13
                 change wpList _ _ _ _ _ ((w13.alloc (.cells #[.int .i64 0] 3)).setRow w13.heap.size #[.int .i64 0])
                 generalize (w13.alloc (.cells #[.int .i64 0] 3)).setRow w13.heap.size #[.int .i64 0] = w16 at *
                 generalize w13.heap.size = K at *)
              | (go_at_call 20; refine (PC.out w16 R16.out).mono ?_; rintro e w17 ⟨C, nq, nc, rfl, hbx, hC, hb, hf⟩
                 have IT := Lib.hid (DeS.start S16.out I16.out X16.out K16.out Z16.out G16.out F16.out hbx hC hb hf)
                 clear hbx hC hb hf PC S16 R16 I16 X16 K16 Z16 G16 F16))
            refine (wpIn_wide (n := 3)).1 ?_
            have G0 := Lib.hid IT.out.1
            have I0 := Lib.hid IT.out.2
            clear IT
            refine range_free rfl (by omega) (gf := 51) (lb := #[.pointer (some ⟨C, 0, none⟩)]) rfl trivial (enters_of Tryd.func51 (by kernel_rfl) rfl)
              (pairE ([] : List Int)) (fun i => i) ([] : List Int).length (fun V => BoxL V C nq nc []) (fun _ => rfl)
              (fun i V => DeS w X K C w17.heap.size (some ⟨B11, 0, none⟩) 0 nq nc [] i V) (fun c V => False) ?rd ?st ?stx I0.out (all_gives _ C nq nc [] (by have := HSL.out; omega)) ?round ?done ?stop
            case rd => exact fun i V h => h.box
            case st => exact fun i V V' h hs => h.save hs G0.out
            case stx => exact fun c V V' h hs => h.elim
            case stop => exact fun D c W hD h hd => h.elim
            case done =>
              intro D W hD hI hd
              have c1 := cell_of_one hI.k
              have c2 := cell_of_one hI.s
              have c3 := cell_of_one hI.r
              have f3 := free_of_one hI.r
              have HD := Lib.hid hd
              have HI := Lib.hid hI
              have HG := Lib.hid hD
              have e1 : decide ((([] : List Int).length : Int) = (([] : List Int).length : Int)) = true := decide_eq_true rfl
              clear hI hd hD I0
              go_wp2
              have hd := (HI.out.done (b := true) G0.out HG.out HD.out)
              refine ⟨by simp, .inl ⟨_, _, rfl, run_takeDeferred hd.1, ?_⟩⟩
              refine ⟨.bool true, ?_, rfl, (hd.2 _).2⟩
              have hc := (hd.2 (.deferred none)).1
              simp [results, Tryd.f4, go_sem, hc]
            case round => exact fun l i W hl hi => absurd hi (Nat.not_lt_zero _)
          · have HN0 := Lib.hid (show 0 < N by omega)
            have HC0 := Lib.hid (show 0 < cs.length by have := HLN.out; omega)
            obtain ⟨B7, o7, rfl, -, -⟩ := secsAt_get R7.out HC0.out
            have d0 : decide ((0 : Int) < (N : Int)) = true := decide_eq_true (by omega)
            have d1 : decide (0 < N) = true := decide_eq_true (by omega)
            clear HZ hz
            go_wp2_with (first
              | (go_at_call 17; refine (DC.out wr SR.out.t SR.out.k R7.out).mono ?_; rintro e w8 ⟨⟨p8, c8, rfl, hr⟩, hb⟩
                 have S8 := Lib.hid (SR.out.below hb)
                 have R8 := Lib.hid (R7.out.below hb)
                 have P8 := Lib.hid hr
                 clear hb hr DC SR R7)
              | (go_at_call 18; refine (RC.out w8 S8.out.k R8.out).mono ?_; rintro e w9 ⟨⟨p9, c9, rfl, hr⟩, hb⟩
                 have S9 := Lib.hid (S8.out.below hb)
                 have R9 := Lib.hid (R8.out.below hb)
                 have P9 := Lib.hid (P8.out.below hb)
                 have Q9 := Lib.hid hr
                 clear hb hr RC S8 R8 P8)
              | (go_at_call 15; refine (same_any p8 p9 c8 c9 pl pl (by have := HPN.out; omega) HPO.out HPO.out w9 P9.out Q9.out).mono ?_; rintro e w10 ⟨hs, hb⟩
                 have he := hs.is rfl
                 subst he
                 have S10 := Lib.hid (S9.out.below hb).two
                 have R10 := Lib.hid (R9.out.below hb)
                 clear hs hb S9 R9 P9 Q9 HPN HPO)
              | (refine wpList_list0 elemInt rfl rfl ?_
                 have hb := (Below.refl w10.heap.size w10).alloc (Nat.le_refl _) (.cells #[] 3)
                 have S11 := Lib.hid (S10.out.below hb)
                 have R11 := Lib.hid (R10.out.below hb)
                 have hi := ints_none (w10.alloc (.cells #[] 3)) (some ⟨w10.heap.size, 0, none⟩)
                 have I11 := Lib.hid hi
                 generalize w10.alloc (.cells #[] 3) = w11 at *
                 generalize w10.heap.size = B11 at *
                 clear hb hi S10 R10)
              | (refine wpList_store_oneTo rfl 46 _ _ rfl rfl w11.heap.size (.slice (some ⟨B11, 0, none⟩) 0 0) rfl rfl rfl 46 (.slice none 0 0) (heap_alloc_new _ _) (by kernel_rfl) ?_
                 have hb := (box_laid w11 (.slice none 0 0) (.slice (some ⟨B11, 0, none⟩) 0 0) 46)
                 have S13 := Lib.hid (S11.out.below hb.1)
                 have R13 := Lib.hid (R11.out.below hb.1)
                 have I13 := Lib.hid (I11.out.below hb.1)
                 have X13 := Lib.hid hb.2.1
                 have Z13 := Lib.hid hb.2.2
                 have G13 := Lib.hid S11.out.lt
                 clear hb S11 R11 I11
                 change wpList _ _ _ _ _ ((w11.alloc (.cells #[.slice none 0 0] 46)).setRow w11.heap.size #[.slice (some ⟨B11, 0, none⟩) 0 0])
                 generalize (w11.alloc (.cells #[.slice none 0 0] 46)).setRow w11.heap.size #[.slice (some ⟨B11, 0, none⟩) 0 0] = w13 at *
                 generalize w11.heap.size = X at *)
              | (refine wpList_sec_elem rfl _ _ rfl B7 o7 N c7 0 rfl rfl HN0.out ?_)
              | (refine wpList_sec_mid rfl _ rfl B7 o7 rfl (cs.getD 0 []) (rows_head R13.out HC0.out) ?_)
              | (go_at_call 19; refine (SC.out HC0.out w13).mono ?_; rintro e w14 ⟨p14, c14, rfl, hr, hb⟩
                 have S14 := Lib.hid (S13.out.below hb)
                 have R14 := Lib.hid (R13.out.below hb)
                 have I14 := Lib.hid hr
                 have L13 := (Array.getElem?_eq_some_iff.1 X13.out).1
                 have X14 := Lib.hid ((hb.block X L13).trans X13.out)
                 have L14 := Lib.hid (show X < w14.heap.size from Nat.lt_of_lt_of_le L13 hb.size)
                 clear hr hb S13 R13 I13 X13 L13 SC)
              | (refine wpList_store_oneTo rfl 46 _ _ rfl rfl X (.slice p14 L.length c14) rfl rfl rfl 46 _ X14.out (by kernel_rfl) ?_
                 have S15 := Lib.hid (S14.out.setRow G13.out #[.slice p14 L.length c14])
                 have R15 := Lib.hid (secs_setRow R14.out X14.out #[.slice p14 L.length c14])
                 have I15 := Lib.hid (ints_setRow I14.out X14.out #[.slice p14 L.length c14])
                 have X15 := Lib.hid (setRow_heap w14 X _ #[.slice p14 L.length c14] _ (0, 0) X14.out)
                 have L15 := Lib.hid (show X < (w14.setRow X #[.slice p14 L.length c14]).heap.size by simpa using L14.out)
                 change wpList _ _ _ _ _ (w14.setRow X #[.slice p14 L.length c14])
                 generalize w14.setRow X #[.slice p14 L.length c14] = w15 at *
                 clear S14 R14 I14 X14 L14)
              | (refine wpList_store_oneTo rfl 3 _ _ rfl rfl w15.heap.size (.int .i64 0) rfl rfl rfl 3 (.int .i64 0) (heap_alloc_new _ _) (by kernel_rfl) ?_
                 have hb := (box_laid w15 (.int .i64 0) (.int .i64 0) 3)
                 have S16 := Lib.hid (S15.out.below hb.1)
                 have R16 := Lib.hid (R15.out.below hb.1)
                 have I16 := Lib.hid (I15.out.below hb.1)
                 have X16 := Lib.hid ((hb.1.block X (by have := L15.out; omega)).trans X15.out)
                 have K16 := Lib.hid hb.2.1
                 have Z16 := Lib.hid hb.2.2
                 have G16 := Lib.hid (show w.heap.size < X ∧ X < w15.heap.size from ⟨G13.out, by have := L15.out; omega⟩)
                 have F16 := Lib.hid (ints_lt I15.out)
                 clear hb S15 R15 I15 X15
                 change wpList _ _ _ _ _ ((w15.alloc (.cells #[.int .i64 0] 3)).setRow w15.heap.size #[.int .i64 0])
                 generalize (w15.alloc (.cells #[.int .i64 0] 3)).setRow w15.heap.size #[.int .i64 0] = w16 at *
                 generalize w15.heap.size = K at *)
              | (go_at_call 20; refine (PC.out w16 R16.out).mono ?_; rintro e w17 ⟨C, nq, nc, rfl, hbx, hC, hb, hf⟩
                 have IT := Lib.hid (DeS.start S16.out I16.out X16.out K16.out Z16.out G16.out F16.out hbx hC hb hf)
                 clear hbx hC hb hf PC S16 R16 I16 X16 K16 Z16 G16 F16))
            refine (wpIn_wide (n := 3)).1 ?_
            have G0 := Lib.hid IT.out.1
            have I0 := Lib.hid IT.out.2
            clear IT
            refine range_free rfl (by omega) (gf := 51) (lb := #[.pointer (some ⟨C, 0, none⟩)]) rfl trivial (enters_of Tryd.func51 (by kernel_rfl) rfl)
              (pairE L) (fun i => i) L.length (fun V => BoxL V C nq nc L) (fun _ => rfl)
              (fun i V => DeS w X K C w17.heap.size p14 c14 nq nc L i V) (fun c V => False) ?rd ?st ?stx I0.out (all_gives _ C nq nc L (by have := HSL.out; omega)) ?round ?done ?stop
            case rd => exact fun i V h => h.box
            case st => exact fun i V V' h hs => h.save hs G0.out
            case stx => exact fun c V V' h hs => h.elim
            case stop => exact fun D c W hD h hd => h.elim
            case done =>
              intro D W hD hI hd
              have c1 := cell_of_one hI.k
              have c2 := cell_of_one hI.s
              have c3 := cell_of_one hI.r
              have f3 := free_of_one hI.r
              have HD := Lib.hid hd
              have HI := Lib.hid hI
              have HG := Lib.hid hD
              have e1 : decide ((L.length : Int) = (L.length : Int)) = true := decide_eq_true rfl
              clear hI hd hD I0
              go_wp2
              have hd := (HI.out.done (b := true) G0.out HG.out HD.out)
              refine ⟨by simp, .inl ⟨_, _, rfl, run_takeDeferred hd.1, ?_⟩⟩
              refine ⟨.bool true, ?_, rfl, (hd.2 _).2⟩
              have hc := (hd.2 (.deferred none)).1
              simp [results, Tryd.f4, go_sem, hc]
            case round =>
              intro l i W hl hi hWs hI
              have HI := Lib.hid hI
              have HLI := Lib.hid hi
              clear hI I0
              unfold pairE
              obtain ⟨x, hxe⟩ : ∃ x, L.getD i 0 = x := ⟨_, rfl⟩
              rw [hxe]
              have HXE := Lib.hid hxe
              clear hxe hi
              gi_wp2
              refine ⟨Rec.refl _ _, fun V hVs hVk hVS => ?_⟩
              have hI := HI.out.save hVS G0.out
              have HV := Lib.hid (show w17.heap.size + 2 ≤ V.heap.size from by rw [hVs]; exact hWs)
              clear hVk hVS hVs HI hWs
              have c1 := cell_of_one hI.k
              have f1 := free_of_one hI.k
              have c2 := cell_of_one hI.s
              obtain ⟨B8, o8, hpq, -, c4⟩ := intL_cell hI.p HLI.out
              rw [HXE.out] at c4
              have g0 := HLI.out
              have g1 := HSL.out
              have g2 : IntKind.i64.wrap ((i : Int) + 1) = ((i + 1 : Nat) : Int) := by rw [IntWalk.i64_in _ (by omega)]; omega
              have d2 : ¬ (L.length : Int) ≤ (i : Int) := by omega
              have d3 : (i : Int) < (L.length : Int) := by omega
              have HI := Lib.hid hI
              clear hI g1
              subst hpq
              gi_wp2
              exact HI.out.step G0.out HV.out
    · have d2 : decide ((70 : Int) < (N : Int)) = true := decide_eq_true (by omega)
      have d2' : decide (70 < N) = true := decide_eq_true (by omega)
      go_enter Tryd.func4, Tryd.ntmps4
      have X0 := heap_alloc_new w (.cells #[.bool false] 4)
      have B0 := Lib.hid ((Below.refl _ w).alloc (Nat.le_refl _) (.cells #[.bool false] 4))
      have c0 := cell_of_one X0
      have f0 := free_of_one X0
      have E0 := Lib.hid (cell_of_one (heap_alloc_new w (.cells #[.bool true] 4)))
      clear X0 hT hk hl
      go_wp2
      have hc := E0.out
      refine bodyPost_ret (v := .bool true) ?_ rfl ⟨rfl, (Below.refl _ w).alloc (Nat.le_refl _) _⟩
      simp [results, Tryd.f4, go_sem, hc]
  · have d1 : decide ((1000 : Int) < (n : Int)) = true := decide_eq_true (by omega)
    have d1' : decide (1000 < n) = true := decide_eq_true (by omega)
    go_enter Tryd.func4, Tryd.ntmps4
    have X0 := heap_alloc_new w (.cells #[.bool false] 4)
    have B0 := Lib.hid ((Below.refl _ w).alloc (Nat.le_refl _) (.cells #[.bool false] 4))
    have c0 := cell_of_one X0
    have f0 := free_of_one X0
    have E0 := Lib.hid (cell_of_one (heap_alloc_new w (.cells #[.bool true] 4)))
    clear X0 hT hk hl
    go_wp2
    have hc := E0.out
    refine bodyPost_ret (v := .bool true) ?_ rfl ⟨rfl, (Below.refl _ w).alloc (Nat.le_refl _) _⟩
    simp [results, Tryd.f4, go_sem, hc]
theorem walk {A B : Prop} (kp : Option Addr) (n kc : Nat) (g : Nat → Nat) (q : Option Addr) (N cap : Nat) (T : Nat → TextOf) (hg : ∀ i, i < n → g i < 256) (hkc : n ≤ kc) (_ : A) (_ : B) (w : World) (hT : TabAt w) (hk : BytesAt w kp n g) (hl : ListsAt w q N T) :
    Calls Tryd.prog 4 #[.slice kp n kc, .slice q N cap] w fun e w' => e = .returned (.bool true) ∧ Below w.heap.size w w' :=
  walk' kp n kc g q N cap T w hT ⟨hg, hkc, hk⟩ hl

theorem laidOut : laidOutB Tryd.prog = true := by kernel_rfl
set_option maxRecDepth 100000 in
theorem lifted (os : Os) (started : os.Started) (H : Type) (enc : TypeId × Value → H) :
    ReturnsInHanded {} Tryd.checked os 4 .any (fun w args => (Rows.redoDecodesSpec.pre enc Tryd.prog Tryd.f4 Rows.redoDecodesRow.domain false w args ∧ laidMetH Tryd.prog Rows.redoDecodesRow.laid w) ∧ sizedMet enc Tryd.prog Tryd.f4 (OpenSpec.ofChange Rows.redoDecodesSpec) false w args) (Rows.redoDecodesSpec.post enc Tryd.prog Tryd.f4 false true false false) := by
  refine returnsInHanded_of_change_and (C := Tryd.checked) (X := fun w _ => laidMetH Tryd.prog Rows.redoDecodesRow.laid w) (fun _ _ _ hh h => h.of_heap hh) own started (by kernel_rfl) Tryd.func4
    (ChangeSpec.witness_shaped (enc := enc) (C := Tryd.checked) (os := os) (X := fun w _ => laidMetH Tryd.prog Rows.redoDecodesRow.laid w) false (World.laidAll Tryd.prog os Rows.redoDecodesRow.laid) #[.slice none 0 0, .slice none 0 0] 8 (World.laidAll_os _ _ _)
      (World.shaped_of_ZipB (by kernel_rfl) (by kernel_rfl)) (by kernel_rfl) (by kernel_rfl) (by kernel_rfl)
      (by rw [MakeChecks.laidMetH_plain _ _ _ (by kernel_rfl)]; exact laidMet_laidAll _ (by kernel_rfl) (by kernel_rfl))) ?_
  intro W base args ds gs before hval0 hW hcnd hsz hL _
  have hT := tab_of_laid hL
  have hval : ∀ (j : Nat) t v, Tryd.f4.params[j]? = some t → args[j]? = some v → Value.okWide Tryd.prog W .any base t v := hval0
  have hW' := hW
  obtain ⟨p, q, hA0, hV, rfl, hfz, hnd⟩ := hW
  have hA : DataW.TrodAll enc Tryd.prog W 0 (fun _ => true) true Tryd.f4.params.toList args.toList ds p := hA0
  rw [Tryd.params4] at hA hval
  obtain ⟨v0, vs0, d0, ds0, p0, q0, hargs, rfl, rfl, h0, r0⟩ := trodAll_cons hA
  obtain ⟨v1, vs1, d1, ds1, p1, q1, rfl, rfl, rfl, h1, r1⟩ := trodAll_cons r0
  obtain ⟨rfl, rfl, rfl⟩ := trodAll_nil r1
  obtain rfl : args = #[v0, v1] := by cases args; simp_all
  obtain ⟨rfl, rfl⟩ := trodVars_none hV
  have k0 := h0
  have lt0 : ∀ x ∈ p0, x.block < W.heap.size := by obtain ⟨m, hm⟩ := k0; exact DataW.trod_lt m _ _ _ hm
  obtain ⟨q0, n0, c0, a0, rfl, w0, y0, l0, m0⟩ := open_byteslice (hval 0 22 v0 rfl rfl) h0
  have k1 := h1
  have lt1 : ∀ x ∈ p1, x.block < W.heap.size := by obtain ⟨m, hm⟩ := k1; exact DataW.trod_lt m _ _ _ hm
  obtain ⟨q1, n1, c1, a1, rfl, y1, w1⟩ := open_lists (hval 1 43 v1 rfl rfl) h1
  have z0 := open_size k0 hsz (j := 0) (by rw [Tryd.params4]; rfl) rfl
  clear hA0 hval0
  refine (walk q0 n0 c0 a0 q1 n1 c1 a1 w0 l0 z0 w1 W hT y0 y1).mono fun e W' ⟨he, bel⟩ => ?_
  subst he
  exact ⟨_, rfl, _, _, _, [], _, [], hW', trodAll_mk1 (shut_bool Tryd.underlying4 _), (trodAll_cons_mk (Below.trod laidOut (by kernel_rfl) (of_decide_eq_true (by kernel_rfl)) k0 bel lt0) (trodAll_cons_mk (Below.trod laidOut (by kernel_rfl) (of_decide_eq_true (by kernel_rfl)) k1 bel lt1) trodAll_mk0)), rfl, bel.frame _, fun h => by cases h⟩

theorem over : Rows.redoDecodesRow.holds Tryd.pinned (OpenSpec.ofChange Rows.redoDecodesSpec) :=
  OpenClaim.holds_of_wide 4 Tryd.f4 rfl rfl rfl rfl rfl rfl rfl ⟨rfl, rfl, rfl, rfl, rfl⟩ rfl rfl rfl rfl rfl (by kernel_rfl) Tryd.func4 (by kernel_rfl)
    (of_decide_eq_true (by kernel_rfl)) (by unfold Func.isWrapper; first | (rw [if_pos (by decide +kernel)]; kernel_rfl) | (rw [if_neg (by decide +kernel)]; exact ⟨rfl, rfl⟩))
    (fun os started H enc _ => lifted os started H enc)

set_option maxRecDepth 100000 in
theorem proved : Rows.RedoDecodesCardSaid :=
  Claim7.holds_tied_plain_at .later [] [.data] true (true, "02ea7121c43e2a3ca2ba9c5335c4e2fd07ee2246b670e7239163a3305a411b98") true
    over (fun _ h => by cases h) (by kernel_rfl) (fun _ h => by cases h) redoDecodes_row_tie rfl ⟨rfl, rfl⟩ (by kernel_rfl) rfl
    (fun f fn hf hfn => by
      obtain rfl : f = 4 := Option.some.inj ((show Tryd.prog.funcNamed "citadel/citadellaw10.RedoDecodes" = some 4 by kernel_rfl).symm.trans hf) |>.symm
      obtain rfl : fn = Tryd.f4 := (Option.some.inj (Tryd.func4.symm.trans hfn)).symm
      exact ⟨by kernel_rfl, fun j t ht => by
        rw [Tryd.params4] at ht
        rcases j with _ | _ | j
        · obtain rfl : t = 22 := by simpa using ht.symm
          exact (show Tryd.prog.wantsStandIn 22 = false by kernel_rfl)
        · obtain rfl : t = 43 := by simpa using ht.symm
          exact (show Tryd.prog.wantsStandIn 43 = false by kernel_rfl)
        · simp at ht⟩)
    (by kernel_rfl)
end Go.Proofs.YtdeojhcfbiekmaaDoor.redoDecodes
