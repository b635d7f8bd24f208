/- The contract of package citadelref04's root: the first 32 bits behind the point of a number's second or third root. It writes nothing that was there. Conditions: the number is below 65536, the power is 2 or 3. -/
import Derived.Test.YtibbnnechjmdmaaDoorMostC
import Derived.Test.YtibbnnechjmdmaaDoorTimesC2
namespace Go.Proofs.YtibbnnechjmdmaaDoor
open Go.ChangeShapes Go.WideShapes Go.ChangeAt Go.RowKit

theorem one_new (w : World) (y : Nat) : (w.alloc (.cells (cellsOf .u64 [(y : Int)]) 54)).cell? ⟨w.heap.size, 0, none⟩ = some (.int .u64 (y : Nat)) := cell_of_one (heap_alloc_new w _)
theorem below_new (w : World) (o : Obj) : Below w.heap.size w (w.alloc o) := (Below.refl _ w).alloc (Nat.le_refl _) _
attribute [local irreducible] val desc high limb

set_option maxRecDepth 100000 in
set_option maxHeartbeats 4000000 in
theorem root_any (p pw : Nat) (hp : p < 65536) (hpw : pw = 2 ∨ pw = 3) (w : World) :
    Calls Tryd.prog 26 #[.int .u64 p, .int .i64 pw] w fun e w' => e = .returned (.int .u32 (rootN pw p : Nat)) ∧ Below w.heap.size w w' := by
  obtain ⟨m, hm⟩ : ∃ m, 2 * pw = m := ⟨_, rfl⟩
  obtain ⟨T, hT⟩ : ∃ T, p * 65536 ^ m = T := ⟨_, rfl⟩
  obtain ⟨D0, hD0⟩ : ∃ D, desc pw T 37 0 = D := ⟨_, rfl⟩
  have hR : rootN pw p = D0 % 4294967296 := by unfold rootN; rw [hm, hT, hD0]
  have hV : val (high m p) (m + 1) = T := by rw [high_val, hT]
  have q0 : IntKind.i64.wrap (2 * (pw : Int)) = (m : Int) := by rw [IntWalk.i64_in _ (by omega)]; omega
  have HV := Lib.hid hV; have HD0 := Lib.hid hD0; have HM := Lib.hid hm; have HPW := Lib.hid hpw
  have hm6 : m ≤ 6 := by omega
  have HM6 := Lib.hid hm6
  have HHI : Hid (∀ j, high m p j < 65536) := Lib.hid (high_lt hp)
  have hlow : ∀ j, j < m → high m p j = 0 := fun j hj => by unfold high; rw [if_neg (by omega)]
  have hat : high m p m = p := by unfold high; rw [if_pos rfl]
  have HLOW := Lib.hid hlow; have HAT := Lib.hid hat
  rw [hR]
  clear hV hD0 hm hpw hT hlow hat hp hm6
  clear hR
  go_enter Tryd.func26, Tryd.ntmps26
  go_wp2
  go_loopw [5, 6] (fun v5 v6 wr => ∃ (i top : Nat), i ≤ m ∧ v6 = .int .i64 i ∧ OwnU 54 1 wr w.heap.size top v5 i (high m p) ∧ top ≤ wr.heap.size ∧ Below w.heap.size w wr) (fun _ v _ => m - (intOf v).toNat)
  case atStart => exact ⟨0, w.heap.size, by omega, rfl, OwnU.nil _ _ _ _ _ _, Nat.le_refl _, Below.refl _ _⟩
  case round =>
    obtain ⟨i, top, hi, rfl, hv, htop, hbl⟩ := hrel
    have HM6' := HM6.out
    by_cases hlt : i < m
    · have e1 : (i : Int) < m := by omega
      have n1 := one_new wr 0
      have b1 := below_new wr (.cells (cellsOf .u64 [((0 : Nat) : Int)]) 54)
      have hv1 := hv.below b1 htop
      have N1 := Lib.hid n1; have B1 := Lib.hid b1; have HV1 := Lib.hid hv1; have HBL := Lib.hid hbl
      have hsz := hbl.size
      clear n1 b1 hv1 hv hbl
      go_wp2_with (first
        | (refine wpList_buildFlat rfl 51 54 1 _ rfl .u64 [((0 : Nat) : Int)] wordsUnder64 wordInfo64 (by rw [wordZero64]; rfl) rfl (by omega) (by omega) rfl ?_)
        | (refine wpList_append_u64 rfl (.tmp 17) (.tmp 18) rfl w.heap.size top i 1 u5 (high m p) wr.heap.size 0 rfl rfl HV1.out N1.out (HLOW.out i hlt).symm (by omega) (by rw [World.size_alloc]; omega) ?_; intro v' w' hv' hb'
           have HV' := Lib.hid hv'; have HB' := Lib.hid ((HBL.out.trans (B1.out.mono hsz)).trans hb')
           clear hv' hb' HV1)
        | fail)
      go_roundw
      case rel => exact ⟨i + 1, w'.heap.size, by omega, by go_num, HV'.out, Nat.le_refl _, HB'.out⟩
      case measure => simp [intOf]; omega
    · have ei : i = m := by omega
      have hd1 : decide ((i : Int) < (m : Int)) = false := by simp; omega
      have n1 := one_new wr p
      have b1 := below_new wr (.cells (cellsOf .u64 [(p : Int)]) 54)
      have hv1 := hv.below b1 htop
      rw [ei] at hv1
      have N1 := Lib.hid n1; have B1 := Lib.hid b1; have HV1 := Lib.hid hv1; have HBL := Lib.hid hbl
      have hsz := hbl.size
      clear n1 b1 hv1 hv hbl ei
      go_wp2_with (first
        | (refine wpList_buildFlat rfl 51 54 1 _ rfl .u64 [(p : Int)] wordsUnder64 wordInfo64 (by rw [wordZero64]; rfl) rfl (by omega) (by omega) rfl ?_)
        | (refine wpList_append_u64 rfl (.tmp 20) (.tmp 22) rfl w.heap.size top m 1 u5 (high m p) wr.heap.size p rfl rfl HV1.out N1.out HAT.out.symm (by omega) (by rw [World.size_alloc]; omega) ?_; intro v' w1 hv' hb'
           obtain ⟨Bt, ct, rfl, hBt, _, _, hwt⟩ := hv'.words (by omega)
           have HWT := Lib.hid hwt; have HB' := Lib.hid ((HBL.out.trans (B1.out.mono hsz)).trans hb')
           clear hv' hb' HV1 hwt)
        | fail)
      clear N1 B1 HBL hsz
      generalize wr = wo at *
      go_loopw [7, 8, 9, 10] (fun v7 v8 _ _ wr => ∃ (s x bt : Nat), v7 = .int .u64 x ∧ v8 = .int .u64 bt ∧ ((s = 0 ∧ bt = 0) ∨ ∃ s', s = s' + 1 ∧ bt = 2 ^ s') ∧ x + 2 * bt ≤ 137438953472 ∧ desc pw T s x = D0 ∧ WAt wr Bt (m + 1) (high m p) ∧ Below w.heap.size w wr) (fun _ v _ _ _ => (intOf v).toNat)
      case atStart => exact ⟨37, 0, 68719476736, rfl, rfl, .inr ⟨36, rfl, rfl⟩, by omega, HD0.out, HWT.out, HB'.out⟩
      case round =>
        clear HWT HB'
        obtain ⟨s, x, bt, rfl, rfl, hbt, hxb, hd, hwt, hbl⟩ := hrel
        rcases hbt with ⟨rfl, rfl⟩ | ⟨s', rfl, hb2⟩
        · have hx : x = D0 := by unfold desc at hd; exact hd
          have t0 : (x : Int).tmod 4294967296 = ((x % 4294967296 : Nat) : Int) := by rw [Int.tmod_eq_emod_of_nonneg (by omega)]; omega
          obtain ⟨r, hr⟩ : ∃ r, x % 4294967296 = r := ⟨_, rfl⟩
          rw [hr] at t0
          have t1 : IntKind.u32.wrap (r : Int) = (r : Int) := by rw [IntKind.wrap_u32']; omega
          have HR : Hid (D0 % 4294967296 = r) := Lib.hid (by rw [← hx]; exact hr)
          have HBL := Lib.hid hbl
          clear hr hx hd hwt hbl hxb
          go_wp2
          go_ret
          exact ⟨by rw [HR.out]; rfl, HBL.out⟩
        · have hpos : 0 < bt := by rw [hb2]; exact Nat.pow_pos (by omega)
          obtain ⟨z, hz⟩ : ∃ z, x + bt = z := ⟨_, rfl⟩
          obtain ⟨h, hh⟩ : ∃ h, bt / 2 = h := ⟨_, rfl⟩
          have m1 : IntKind.u64.wrap ((x : Int) + (bt : Int)) = (z : Int) := by rw [IntWalk.u64_in _ (by omega)]; omega
          have m2 : IntKind.u64.wrap ((bt : Int) / 2) = (h : Int) := by rw [IntWalk.u64_in _ (by omega)]; omega
          have m2' : IntKind.u64.wrap ((bt : Int).tdiv 2) = (h : Int) := by rw [Int.tdiv_eq_ediv_of_nonneg (by omega)]; exact m2
          have e1 : (0 : Int) < bt := by omega
          have hnext : (s' = 0 ∧ h = 0) ∨ ∃ s'', s' = s'' + 1 ∧ h = 2 ^ s'' := by
            rcases s' with _ | s''
            · exact .inl ⟨rfl, by rw [← hh, hb2]⟩
            · exact .inr ⟨s'', rfl, by rw [← hh, hb2, Nat.pow_succ]; omega⟩
          have hdn : desc pw T s' (if z ^ pw ≤ T then z else x) = D0 := by rw [desc_step, ← hb2, hz] at hd; exact hd
          have HN := Lib.hid hnext; have HW0 := Lib.hid hwt; have HBL := Lib.hid hbl; have HZ := Lib.hid hz; have HH := Lib.hid hh; have HXB := Lib.hid hxb
          have hz48 : z < 281474976710656 := by omega
          have hZV : val (limb z) 3 = z := limb_val hz48
          have HZV := Lib.hid hZV
          have hm6 := HM6.out
          have hsz := hbl.size
          clear hnext hwt hbl hz hh hd hb2 hxb hZV
          by_cases h3 : pw = 3
          · by_cases hle : z ^ pw ≤ T
            · have e3 : ((pw : Int) == 3) = true := by simp; omega
              have e4 : decide ((pw : Int) = 3) = true := by simp; omega
              rw [if_pos hle] at hdn
              have HLE := Lib.hid hle; have HDN := Lib.hid hdn; have H3 := Lib.hid h3
              clear hle hdn h3
              go_wp2_with (first
                | (go_at_call 35; refine (list_any z (by omega) _).mono ?_; rintro e wa ⟨rfl, hya, hba⟩
                   have HYA := Lib.hid (WAt.of_blk hya); have HTA := Lib.hid (HW0.out.on hba); have HLA := Lib.hid (HBL.out.trans (hba.mono hsz))
                   have hsa := hba.size
                   clear hya hba)
                | (go_at_call 36; refine (times_len wr.heap.size wr.heap.size 3 3 3 3 7 (limb z) (limb z) rfl (by omega) (by omega) (fun j _ => limb_lt z j) (fun j _ => limb_lt z j) wa HYA.out HYA.out).mono ?_; rintro e wb ⟨F1, rfl, h1, h2, h4, h5⟩
                   have HF1 := Lib.hid h1; have HL1 := Lib.hid h2; have HQ1 := Lib.hid h4; have HYB := Lib.hid (HYA.out.on h5); have HTB := Lib.hid (HTA.out.on h5); have HLB := Lib.hid (HLA.out.trans (h5.mono HLA.out.size))
                   clear h1 h2 h4 h5 HYA HTA HLA)
                | (go_at_call 36; refine (times_len wa.heap.size wr.heap.size 7 3 7 3 11 F1 (limb z) rfl (by omega) (by omega) (fun j _ => HL1.out j) (fun j _ => limb_lt z j) wb HF1.out HYB.out).mono ?_; rintro e wc ⟨F2, rfl, h1, h2, h4, h5⟩
                   have HF2 := Lib.hid h1; have HL2 := Lib.hid h2; have HTC := Lib.hid (HTB.out.on h5); have HLC := Lib.hid (HLB.out.trans (h5.mono HLB.out.size))
                   have HQ2 : Hid (val F2 11 = z ^ pw) := Lib.hid (by rw [h4, HQ1.out, HZV.out, H3.out, show (3 : Nat) = 2 + 1 from rfl, Nat.pow_succ, Nat.pow_two])
                   clear h1 h2 h4 h5 HYB HTB HLB HF1)
                | (go_at_call 37; refine (most_any wb.heap.size Bt 11 (m + 1) 11 ct F2 (high m p) (by omega) (by omega) (fun j _ => HL2.out j) (fun j _ => HHI.out j) wc HF2.out HTC.out).mono ?_; rintro e wd ⟨rfl, rfl⟩
                   rw [HQ2.out, HV.out, decide_eq_true HLE.out])
                | fail)
              go_roundw
              case rel =>
                have h1 := HZ.out; have h2 := HH.out; have h3 := HXB.out
                exact ⟨s', z, h, rfl, rfl, HN.out, by omega, HDN.out, HTC.out, HLC.out⟩
              case measure =>
                have h2 := HH.out
                simp [intOf]; omega
            · have e3 : ((pw : Int) == 3) = true := by simp; omega
              have e4 : decide ((pw : Int) = 3) = true := by simp; omega
              rw [if_neg hle] at hdn
              have HLE := Lib.hid hle; have HDN := Lib.hid hdn; have H3 := Lib.hid h3
              clear hle hdn h3
              go_wp2_with (first
                | (go_at_call 35; refine (list_any z (by omega) _).mono ?_; rintro e wa ⟨rfl, hya, hba⟩
                   have HYA := Lib.hid (WAt.of_blk hya); have HTA := Lib.hid (HW0.out.on hba); have HLA := Lib.hid (HBL.out.trans (hba.mono hsz))
                   have hsa := hba.size
                   clear hya hba)
                | (go_at_call 36; refine (times_len wr.heap.size wr.heap.size 3 3 3 3 7 (limb z) (limb z) rfl (by omega) (by omega) (fun j _ => limb_lt z j) (fun j _ => limb_lt z j) wa HYA.out HYA.out).mono ?_; rintro e wb ⟨F1, rfl, h1, h2, h4, h5⟩
                   have HF1 := Lib.hid h1; have HL1 := Lib.hid h2; have HQ1 := Lib.hid h4; have HYB := Lib.hid (HYA.out.on h5); have HTB := Lib.hid (HTA.out.on h5); have HLB := Lib.hid (HLA.out.trans (h5.mono HLA.out.size))
                   clear h1 h2 h4 h5 HYA HTA HLA)
                | (go_at_call 36; refine (times_len wa.heap.size wr.heap.size 7 3 7 3 11 F1 (limb z) rfl (by omega) (by omega) (fun j _ => HL1.out j) (fun j _ => limb_lt z j) wb HF1.out HYB.out).mono ?_; rintro e wc ⟨F2, rfl, h1, h2, h4, h5⟩
                   have HF2 := Lib.hid h1; have HL2 := Lib.hid h2; have HTC := Lib.hid (HTB.out.on h5); have HLC := Lib.hid (HLB.out.trans (h5.mono HLB.out.size))
                   have HQ2 : Hid (val F2 11 = z ^ pw) := Lib.hid (by rw [h4, HQ1.out, HZV.out, H3.out, show (3 : Nat) = 2 + 1 from rfl, Nat.pow_succ, Nat.pow_two])
                   clear h1 h2 h4 h5 HYB HTB HLB HF1)
                | (go_at_call 37; refine (most_any wb.heap.size Bt 11 (m + 1) 11 ct F2 (high m p) (by omega) (by omega) (fun j _ => HL2.out j) (fun j _ => HHI.out j) wc HF2.out HTC.out).mono ?_; rintro e wd ⟨rfl, rfl⟩
                   rw [HQ2.out, HV.out, decide_eq_false HLE.out])
                | fail)
              go_roundw
              case rel =>
                have h1 := HZ.out; have h2 := HH.out; have h3 := HXB.out
                exact ⟨s', x, h, rfl, rfl, HN.out, by omega, HDN.out, HTC.out, HLC.out⟩
              case measure =>
                have h2 := HH.out
                simp [intOf]; omega
          · have h3' : pw = 2 := by rcases HPW.out with h | h <;> omega
            clear h3
            have h3 := h3'
            clear h3'
            by_cases hle : z ^ pw ≤ T
            · have e3 : ((pw : Int) == 3) = false := by simp; omega
              have e4 : ¬ (pw : Int) = 3 := by omega
              rw [if_pos hle] at hdn
              have HLE := Lib.hid hle; have HDN := Lib.hid hdn; have H3 := Lib.hid h3
              clear hle hdn h3
              go_wp2_with (first
                | (go_at_call 35; refine (list_any z (by omega) _).mono ?_; rintro e wa ⟨rfl, hya, hba⟩
                   have HYA := Lib.hid (WAt.of_blk hya); have HTA := Lib.hid (HW0.out.on hba); have HLA := Lib.hid (HBL.out.trans (hba.mono hsz))
                   have hsa := hba.size
                   clear hya hba)
                | (go_at_call 36; refine (times_len wr.heap.size wr.heap.size 3 3 3 3 7 (limb z) (limb z) rfl (by omega) (by omega) (fun j _ => limb_lt z j) (fun j _ => limb_lt z j) wa HYA.out HYA.out).mono ?_; rintro e wb ⟨F1, rfl, h1, h2, h4, h5⟩
                   have HF1 := Lib.hid h1; have HL1 := Lib.hid h2; have HQ1 := Lib.hid h4; have HYB := Lib.hid (HYA.out.on h5); have HTB := Lib.hid (HTA.out.on h5); have HLB := Lib.hid (HLA.out.trans (h5.mono HLA.out.size))
                   clear h1 h2 h4 h5 HYA HTA HLA)
                | (go_at_call 37; refine (most_any wa.heap.size Bt 7 (m + 1) 7 ct F1 (high m p) (by omega) (by omega) (fun j _ => HL1.out j) (fun j _ => HHI.out j) wb HF1.out HTB.out).mono ?_; rintro e wd ⟨rfl, rfl⟩
                   have HQ2 : Hid (val F1 7 = z ^ pw) := Lib.hid (by rw [HQ1.out, HZV.out, H3.out, Nat.pow_two])
                   rw [HQ2.out, HV.out, decide_eq_true HLE.out])
                | fail)
              go_roundw
              case rel =>
                have h1 := HZ.out; have h2 := HH.out; have h3 := HXB.out
                exact ⟨s', z, h, rfl, rfl, HN.out, by omega, HDN.out, HTB.out, HLB.out⟩
              case measure =>
                have h2 := HH.out
                simp [intOf]; omega
            · have e3 : ((pw : Int) == 3) = false := by simp; omega
              have e4 : ¬ (pw : Int) = 3 := by omega
              rw [if_neg hle] at hdn
              have HLE := Lib.hid hle; have HDN := Lib.hid hdn; have H3 := Lib.hid h3
              clear hle hdn h3
              go_wp2_with (first
                | (go_at_call 35; refine (list_any z (by omega) _).mono ?_; rintro e wa ⟨rfl, hya, hba⟩
                   have HYA := Lib.hid (WAt.of_blk hya); have HTA := Lib.hid (HW0.out.on hba); have HLA := Lib.hid (HBL.out.trans (hba.mono hsz))
                   have hsa := hba.size
                   clear hya hba)
                | (go_at_call 36; refine (times_len wr.heap.size wr.heap.size 3 3 3 3 7 (limb z) (limb z) rfl (by omega) (by omega) (fun j _ => limb_lt z j) (fun j _ => limb_lt z j) wa HYA.out HYA.out).mono ?_; rintro e wb ⟨F1, rfl, h1, h2, h4, h5⟩
                   have HF1 := Lib.hid h1; have HL1 := Lib.hid h2; have HQ1 := Lib.hid h4; have HYB := Lib.hid (HYA.out.on h5); have HTB := Lib.hid (HTA.out.on h5); have HLB := Lib.hid (HLA.out.trans (h5.mono HLA.out.size))
                   clear h1 h2 h4 h5 HYA HTA HLA)
                | (go_at_call 37; refine (most_any wa.heap.size Bt 7 (m + 1) 7 ct F1 (high m p) (by omega) (by omega) (fun j _ => HL1.out j) (fun j _ => HHI.out j) wb HF1.out HTB.out).mono ?_; rintro e wd ⟨rfl, rfl⟩
                   have HQ2 : Hid (val F1 7 = z ^ pw) := Lib.hid (by rw [HQ1.out, HZV.out, H3.out, Nat.pow_two])
                   rw [HQ2.out, HV.out, decide_eq_false HLE.out])
                | fail)
              go_roundw
              case rel =>
                have h1 := HZ.out; have h2 := HH.out; have h3 := HXB.out
                exact ⟨s', x, h, rfl, rfl, HN.out, by omega, HDN.out, HTB.out, HLB.out⟩
              case measure =>
                have h2 := HH.out
                simp [intOf]; omega

end Go.Proofs.YtibbnnechjmdmaaDoor
