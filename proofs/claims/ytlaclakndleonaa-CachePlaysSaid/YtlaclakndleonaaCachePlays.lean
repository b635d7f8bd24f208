/- CachePlays: a cache, under any calls, for every quota, script and number asked for. Condition: none but the arguments' own forms; package cache by cacheSpec. -/
import Derived.Test.YtlaclakndleonaaCmSpec
import Derived.Test.YtlaclakndleonaaCaReg
namespace Go.Proofs.Ytlaclakndleonaa.cachePlays
open Go.ChangeShapes Go.WideShapes Go.ChangeAt Go.RowKit
set_option linter.unusedVariables false
theorem own : ownKnob Try.prog.godebug = none := by kernel_rfl
attribute [local irreducible] Go.Proofs.Ytlaclakndleonaa.mk lineC oneB findL getL gotL putS putN cleanedL dropL dirtyL takeD lineAt
theorem lenL_le {l : List LineOf} {q : Int} (h : GoodL q l) : l.length ≤ 8 := by have := h.few; have := h.high; omega
theorem lt400 {n : Nat} (h : ¬ 400 < n) : n ≤ 400 := by omega
set_option maxRecDepth 100000 in
set_option maxHeartbeats 8000000 in
theorem walk {At : AtT} (K : CacheSpec At) (q : Int) (q0 : Option Addr) (L : List OpOf) (c0 : Nat) (m : Int) (hL : ∀ c ∈ L, c.ok) (hm : okI m) (w : World) (y0 : OpsAt w q0 L) : Calls Try.prog 3 #[.int .i64 q, .slice q0 L.length c0, .int .i64 m] w fun e w' => e = .returned (.bool true) ∧ Below w.heap.size w w' := by
  have HK := Lib.hid K
  have B0 := Lib.hid (Below.refl w.heap.size w)
  have HL := Lib.hid hL
  have Y0 := Lib.hid y0
  have HM := Lib.hid hm
  clear hL y0 hm
  generalize hn : L.length = n at *
  have HN := Lib.hid hn
  clear hn
  by_cases h400 : 400 < n
  · have f1 : decide ((400 : Int) < (n : Int)) = true := by simp; omega
    have f2 : (400 : Int) < (n : Int) := by omega
    have f3 : decide (400 < n) = true := by simp; omega
    go_enter Try.func3, Try.ntmps3
    go_wp2_with (first
      | (go_at_call 8; refine (alive_ok HK.out w).mono ?_; rintro e w2 ⟨rfl, hb2⟩))
    go_ret
    exact ⟨rfl, hb2⟩
  have H4 := Lib.hid (lt400 h400)
  have f1 : decide ((400 : Int) < (n : Int)) = false := by simp; omega
  have f2 : ¬ (400 : Int) < (n : Int) := by omega
  have f3 : decide (400 < n) = false := by simp; omega
  clear h400
  by_cases hq1 : q < 1
  · have d1 : decide (q < 1) = true := by simp [hq1]
    have NQ := Lib.hid (show ¬ (1 ≤ q ∧ q ≤ 8) from by omega)
    clear hq1
    go_enter Try.func3, Try.ntmps3
    go_wp2_with (first
      | (go_at_call 8; refine (alive_ok HK.out w).mono ?_; rintro e w2 ⟨rfl, hb2⟩; have B2 := Lib.hid hb2; clear hb2)
      | (go_at_call 9; refine (HK.out.new_no q w2 NQ.out).mono ?_; rw [errN_one]; rintro e w3 ⟨rfl, hb3⟩; have B3 := Lib.hid (B2.out.trans (hb3.mono B2.out.size)); clear hb3)
      | (go_at_call 10; refine (Is_err 1 rfl _).mono ?_; rintro e w8 ⟨rfl, rfl⟩))
    go_ret
    exact ⟨rfl, B3.out⟩
  by_cases hq8 : 8 < q
  · have d1 : decide (q < 1) = false := by simp; omega
    have d2 : decide (8 < q) = true := by simp [hq8]
    have NQ := Lib.hid (show ¬ (1 ≤ q ∧ q ≤ 8) from by omega)
    clear hq1 hq8
    go_enter Try.func3, Try.ntmps3
    go_wp2_with (first
      | (go_at_call 8; refine (alive_ok HK.out w).mono ?_; rintro e w2 ⟨rfl, hb2⟩; have B2 := Lib.hid hb2; clear hb2)
      | (go_at_call 9; refine (HK.out.new_no q w2 NQ.out).mono ?_; rw [errN_one]; rintro e w3 ⟨rfl, hb3⟩; have B3 := Lib.hid (B2.out.trans (hb3.mono B2.out.size)); clear hb3)
      | (go_at_call 10; refine (Is_err 1 rfl _).mono ?_; rintro e w8 ⟨rfl, rfl⟩))
    go_ret
    exact ⟨rfl, B3.out⟩
  have d1 : decide (q < 1) = false := by simp; omega
  have d2 : decide (8 < q) = false := by simp; omega
  have HQ := Lib.hid (show 1 ≤ q ∧ q ≤ 8 from by omega)
  have dqq : decide (q = q) = true := by simp
  clear hq1 hq8
  go_enter Try.func3, Try.ntmps3
  go_wp2_with (first
    | (go_at_call 8; refine (alive_ok HK.out w).mono ?_; rintro e w2 ⟨rfl, hb2⟩; have B2 := Lib.hid hb2; clear hb2)
    | (go_at_call 9; refine (CaS.new HK.out q HQ.out.1 HQ.out.2 B2.out).mono ?_; rintro e w3 ⟨B, rfl, h3⟩; have C3 := Lib.hid h3; clear h3 B2)
    | (go_at_call 11; refine (C3.out.quota HK.out).mono ?_; rintro e w4 ⟨rfl, h4, hb4⟩; have C4 := Lib.hid h4; clear h4 hb4 C3))
  obtain ⟨y, hy, hye⟩ := most_is m HM.out
  rw [hye]
  have HYY := Lib.hid hy
  have P0 := Lib.hid (PSt.start HK.out C4.out (by have := HQ.out; omega) (fun _ => False) (fun _ h => h))
  clear hy hye C4
  generalize w4.heap.size = RB at *
  generalize w4.alloc (.cells #[.int .i64 q, .slice none 0 0] 36) = w5 at *
  go_loopw [61] (fun v61 wr => ∃ k : Nat, k ≤ n ∧ v61 = .int .i64 k ∧ ∃ ls, PSt At w wr B RB q ls ls k (fun _ => False)) (fun v61 _ => n - (intOf v61).toNat)
  case atStart => exact ⟨0, Nat.zero_le _, rfl, _, P0.out⟩
  case round =>
    obtain ⟨k, hk, rfl, ls, hp⟩ := hrel
    have P := Lib.hid hp
    clear hp P0
    by_cases hlt : k < n
    · obtain ⟨OB, oo, c, rfl, hB, hrg, hc⟩ := rows_op Y0.out (show k < L.length by rw [HN.out]; exact hlt)
      have HC := Lib.hid (HL.out c hc)
      have HRC := Lib.hid (rangeAt_below hrg P.out.low hB)
      have HLT := Lib.hid hlt
      have HTK := Lib.hid (show k ≤ 100000 from by have := H4.out; omega)
      have f9 : (k : Int) < (n : Int) := by omega
      have g3 : IntKind.i64.wrap ((k : Int) + 1) = ((k + 1 : Nat) : Int) := by have := H4.out; rw [IntWalk.i64_in _ (by omega)]; omega
      have OL := Lib.hid (op_laid wr c)
      clear hrg hB hc hlt hk
      by_cases hk0 : c.kind = 0
      · have HKD := Lib.hid hk0
        clear hk0
        have HSG := Lib.hid (show sameLine (gotL ls c.u c.b) (gotL ls c.u c.b) = true from (sameLine_iff (got_ok (P.out.good HK.out).ok c.u c.b) (got_ok (P.out.good HK.out).ok c.u c.b)).2 rfl)
        go_wp2_with (first
          | (refine wpList_op_elem rfl _ _ rfl OB oo n c0 k rfl rfl HLT.out ?_)
          | (refine wpList_op_load rfl _ rfl OB (oo + 5 * k) rfl c HRC.out ?_)
          | (refine wpList_op_alloc rfl rfl wr.heap.size rfl ?_)
          | (refine store_row_on rfl 38 _ _ rfl rfl wr.heap.size c.cells.toArray rfl rfl 38 opZ.cells.toArray (heap_alloc_new _ _) (opA_size c) rfl (opA_one c) ?_
             have BX := Lib.hid OL.out.1
             have P1 := Lib.hid (P.out.below HK.out OL.out.2.1)
             have Z1 := Lib.hid OL.out.2.2
             clear OL P HRC
             generalize hOO : wr.heap.size = O at *
             generalize (wr.alloc (.cells opZ.cells.toArray 38)).setRow O c.cells.toArray = u1 at *
             have P2 := Lib.hid (P1.out.mono (Y := fun i => i = O) (fun i hi => .inr (by have := Z1.out; omega)))
             have k0 := BX.out.cell 0
             have k1 := BX.out.cell 1
             have k2 := BX.out.cell 2
             simp only [OpOf.cells, List.getElem?_cons_succ, List.getElem?_cons_zero] at k0 k1 k2
             rw [HKD.out] at k0
             clear HKD
             clear P1 Z1 hOO)
          | (go_at_call 12; refine (P2.out.get HK.out c.u c.b HC.out.u HC.out.b HTK.out).mono ?_; rintro e w6 ⟨rfl, hp6, hf6⟩
             have BX6 := Lib.hid (show OpBox w6 O c from (hf6.2 O rfl).trans BX.out)
             have BL6 := Lib.hid (box_laid w6 (gotL ls c.u c.b))
             have P6 := Lib.hid (hp6.below HK.out BL6.out.2.1)
             clear hp6 hf6 P2 k0 k1 k2)
          | (refine wpList_line_alloc rfl rfl w6.heap.size rfl ?_)
          | (refine store_row_on rfl 42 _ _ rfl rfl w6.heap.size (lineC (gotL ls c.u c.b)).toArray rfl rfl 42 (lineC noLine).toArray (heap_alloc_new _ _) (lineA_size _) (lineA_same _ _) (lineA_one _) ?_
             have X6 := Lib.hid BL6.out.1
             have BX7 := Lib.hid (BX6.out.below BL6.out.2.1 BX6.out.lt)
             have E7 := Lib.hid BL6.out.2.2
             clear BL6 BX BX6
             generalize hO6 : w6.heap.size = O6 at *
             generalize (w6.alloc (.cells (lineC noLine).toArray 42)).setRow O6 (lineC (gotL ls c.u c.b)).toArray = w7 at *
             have P7 := Lib.hid (P6.out.mono (Y := fun i => i = O ∨ i = O6) (fun i hi => by rcases hi with e | e; exact .inl e; exact .inr (by have := E7.out; omega)))
             have k1 := BX7.out.cell 1
             have k2 := BX7.out.cell 2
             simp only [OpOf.cells, List.getElem?_cons_succ, List.getElem?_cons_zero] at k1 k2
             clear P6 E7 hO6)
          | (go_at_call 13; refine (P7.out.rget HK.out c.u c.b).mono ?_; rintro e w8 ⟨rfl, hp8, hf8⟩
             have X8 := Lib.hid (show LineBox w8 O6 (gotL ls c.u c.b) from (hf8.2 O6 (.inr rfl)).trans X6.out)
             have BL8 := Lib.hid (box_laid w8 (gotL ls c.u c.b))
             have P8 := Lib.hid ((hp8.below HK.out BL8.out.2.1).mono (Y := fun _ => False) (fun i hi => hi.elim))
             clear hp8 hf8 P7 k1 k2 X6)
          | (refine wpList_line_alloc rfl rfl w8.heap.size rfl ?_)
          | (refine store_row_on rfl 42 _ _ rfl rfl w8.heap.size (lineC (gotL ls c.u c.b)).toArray rfl rfl 42 (lineC noLine).toArray (heap_alloc_new _ _) (lineA_size _) (lineA_same _ _) (lineA_one _) ?_
             have Y9 := Lib.hid BL8.out.1
             have X9 := Lib.hid (X8.out.below BL8.out.2.1 X8.out.lt)
             clear BL8 X8
             generalize w8.heap.size = O8 at *
             generalize (w8.alloc (.cells (lineC noLine).toArray 42)).setRow O8 (lineC (gotL ls c.u c.b)).toArray = w9 at *)
          | (refine wpList_line_load_w rfl _ rfl O6 0 rfl (gotL ls c.u c.b) (X9.out.range) ?_)
          | (refine wpList_line_load_w rfl _ rfl O8 0 rfl (gotL ls c.u c.b) (Y9.out.range) ?_)
          | (refine wpList_line_eql rfl _ _ rfl (gotL ls c.u c.b) (gotL ls c.u c.b) rfl rfl _ HSG.out ?_))
        have PN := Lib.hid P8.out
        generalize getL ls c.u c.b = lz at *
        go_wp2_with (first
          | (go_at_call 22; refine (PN.out.lines HK.out).mono ?_; rintro e wa ⟨va, rfl, hoa, hba⟩
             have PA := Lib.hid ((PN.out.below HK.out hba).mono (Y := fun j => va.ownBlock = some j) (fun j hj => .inr ⟨hoa.block j hj, hoa.blockTop j hj⟩))
             have OA := Lib.hid hoa
             have WLA := Lib.hid (show ∀ j, va.ownBlock = some j → w.heap.size ≤ j from fun j hj => Nat.le_trans PN.out.low.size (hoa.block j hj))
             obtain ⟨pl, cl, hva, -, -, hra, -⟩ := hoa.rows elemLine.len
             have HRA := Lib.hid hra
             clear hoa hba PN hra
             generalize hnl : List.length _ = nl at hva
             have HNL := Lib.hid hnl
             subst hva
             clear hnl)
          | (go_at_call 23; refine (PA.out.rdirty).mono ?_; rintro e wb ⟨vb, rfl, hob, hbb⟩
             have PB := Lib.hid ((PA.out.below HK.out hbb).mono (Y := fun j => Value.ownBlock (.slice pl nl cl) = some j) (fun j hj => .inl hj))
             have OAB := Lib.hid (OA.out.below (Nat.le_refl _) hbb)
             have HRB := Lib.hid (HRA.out.below hbb)
             obtain ⟨pd, cd, hvb, hcd, -, hrd, -⟩ := hob.rows elemLine.len
             have HRD := Lib.hid hrd
             clear hob hbb hrd PA OA HRA
             generalize hnd : List.length _ = nd at hvb hcd
             have HND := Lib.hid hnd
             have HCD := Lib.hid hcd
             subst hvb
             clear hnd hcd))
        obtain ⟨vm, hvm⟩ := PB.out.ref
        have RM := Lib.hid hvm
        obtain ⟨pm, cm, hvm2, -, -, hrm, -⟩ := hvm.own.rows elemLine.len
        have HRM := Lib.hid hrm
        clear hvm hrm
        generalize hnm : List.length _ = nm at hvm2
        have HNM := Lib.hid hnm
        subst hvm2
        clear hnm
        have HV0 := Lib.hid ((Below.refl wb.heap.size wb).drew)
        have HOK := Lib.hid (PB.out.good HK.out).ok
        have HL8 := Lib.hid (lenL_le (PB.out.good HK.out))
        have HDL := Lib.hid (dirtyL_len lz)
        have HRO := Lib.hid (OAB.out.room HNL.out)
        obtain ⟨kk, hkk⟩ : ∃ x, min y nd = x := ⟨_, rfl⟩
        have HKK := Lib.hid hkk
        have HKD := Lib.hid (show kk ≤ cd from by have := HCD.out; omega)
        clear hkk
        refine wp_region_sched [(0, true), (1, true), (2, true), (3, true), (4, true), (5, true), (6, true), (7, true), (8, false), (9, true), (10, true), (11, true), (12, true), (13, true), (15, true), (16, true), (17, true), (18, true), (19, true), (20, true), (14, false), (21, false), (22, true), (23, true)] (fun V => Below wb.heap.size wb V) (by kernel_rfl) (by kernel_rfl) HV0.out ?_
        refine walk_float rfl rfl (fun K hK => ?_)
        refine gives_move _ rfl ?_
        go_simp
        refine hK _ ?_
        clear hK K
        refine walk_float rfl rfl (fun K hK => ?_)
        refine gives_not2 _ _ rfl true false rfl rfl ?_
        go_simp
        refine hK _ ?_
        clear hK K
        refine walk_float rfl rfl (fun K hK => ?_)
        refine gives_move _ rfl ?_
        go_simp
        refine hK _ ?_
        clear hK K
        refine walk_float rfl rfl (fun K hK => ?_)
        refine gives_move _ rfl ?_
        go_simp
        refine hK _ ?_
        clear hK K
        refine walk_float rfl rfl (fun K hK => ?_)
        refine gives_move _ rfl ?_
        go_simp
        refine hK _ ?_
        clear hK K
        refine walk_float rfl rfl (fun K hK => ?_)
        refine gives_nil_check _ rfl ⟨RB, 0, none⟩ rfl ?_
        go_simp
        refine hK _ ?_
        clear hK K
        refine walk_float rfl rfl (fun K hK => ?_)
        refine gives_cfield _ 1 rfl (by decide) RB rfl ?_
        go_simp
        refine hK _ ?_
        clear hK K
        refine walk_float rfl rfl (fun K hK => ?_)
        refine gives_cell 34 _ rfl ⟨RB, 1, none⟩ _ rfl box_lines (fun V hV => (RM.out.below hV).c1) ?_
        go_simp
        refine hK _ ?_
        clear hK K
        refine walk_done rfl rfl (fun K2 hK2 => ?_)
        refine done_enter2 _ _ _ _ rfl 24 rfl (enters_of Try.func24 (by kernel_rfl) rfl) _ _ rfl rfl _ (same_at pl pm nl nm cl cm lz lz HNL.out HNM.out (by have := HNL.out; have := HL8.out; omega) HOK.out HOK.out rfl wb.drew (HRB.out.below HV0.out) (HRM.out.below HV0.out)) ?_
        rintro e v8 ⟨rfl, hb8⟩
        have HV8 := Lib.hid (HV0.out.trans (hb8.mono HV0.out.size))
        clear hb8
        refine ⟨_, rfl, HV8.out, ?_⟩
        go_simp
        refine hK2 _ _ ?_
        clear hK2 K2
        refine walk_float rfl rfl (fun K hK => ?_)
        refine gives_not2 _ _ rfl true false rfl rfl ?_
        go_simp
        refine hK _ ?_
        clear hK K
        refine walk_float rfl rfl (fun K hK => ?_)
        refine gives_pickF _ _ _ rfl rfl _ rfl ?_
        go_simp
        refine hK _ ?_
        clear hK K
        refine walk_float rfl rfl (fun K hK => ?_)
        refine gives_move _ rfl ?_
        go_simp
        refine hK _ ?_
        clear hK K
        refine walk_float rfl rfl (fun K hK => ?_)
        refine gives_move _ rfl ?_
        go_simp
        refine hK _ ?_
        clear hK K
        refine walk_float rfl rfl (fun K hK => ?_)
        refine gives_move _ rfl ?_
        go_simp
        refine hK _ ?_
        clear hK K
        refine walk_float rfl rfl (fun K hK => ?_)
        refine gives_move _ rfl ?_
        go_simp
        refine hK _ ?_
        clear hK K
        refine walk_float rfl rfl (fun K hK => ?_)
        refine gives_move _ rfl ?_
        go_simp
        refine hK _ ?_
        clear hK K
        refine walk_float rfl rfl (fun K hK => ?_)
        refine gives_move _ rfl ?_
        go_simp
        refine hK _ ?_
        clear hK K
        refine walk_float rfl rfl (fun K hK => ?_)
        refine gives_len_lines _ rfl pd nd cd rfl ?_
        go_simp
        refine hK _ ?_
        clear hK K
        refine walk_float rfl rfl (fun K hK => ?_)
        refine gives_min _ _ rfl y nd rfl rfl kk HKK.out ?_
        go_simp
        refine hK _ ?_
        clear hK K
        refine walk_float rfl rfl (fun K hK => ?_)
        refine gives_lines_upto _ _ rfl pd nd cd kk rfl rfl HKD.out ?_
        go_simp
        refine hK _ ?_
        clear hK K
        refine walk_done rfl rfl (fun K2 hK2 => ?_)
        refine done_enter2 _ _ _ _ rfl 25 rfl (enters_of Try.func25 (by kernel_rfl) rfl) _ _ rfl rfl _ ((PB.out.cas.below HK.out HV8.out).dirty HK.out (y : Int)) ?_
        rintro e v9 ⟨vq, rfl, hod, -, hb9⟩
        have HV9 := Lib.hid (HV8.out.trans (hb9.mono HV8.out.size))
        obtain ⟨pq, cq, hvq, -, -, hrq, -⟩ := hod.rows elemLine.len
        have HRQ := Lib.hid hrq
        clear hod hb9 hrq
        generalize hnq : List.length _ = nq at hvq
        have HNQ := Lib.hid hnq
        subst hvq
        clear hnq
        refine ⟨_, rfl, HV9.out, ?_⟩
        go_simp
        refine hK2 _ _ ?_
        clear hK2 K2
        refine walk_done rfl rfl (fun K2 hK2 => ?_)
        refine done_enter2 _ _ _ _ rfl 24 rfl (enters_of Try.func24 (by kernel_rfl) rfl) _ _ rfl rfl _ (same_at pq pd nq kk cq cd (takeD (dirtyL lz) (y : Int)) ((dirtyL lz).take kk) HNQ.out (by rw [List.length_take, HND.out]; have := HKK.out; omega) (by have := HNQ.out; have := takeD_len (dirtyL lz) (y : Int); have := HDL.out; have := HL8.out; omega) (takeD_oks (dirty_oks HOK.out) _) (take_oks (dirty_oks HOK.out) _) (by rw [take_min, HND.out, HKK.out]) v9 HRQ.out ((rows_take HRD.out kk).below HV9.out)) ?_
        rintro e va ⟨rfl, hba⟩
        have HVA := Lib.hid (HV9.out.trans (hba.mono HV9.out.size))
        clear hba
        refine ⟨_, rfl, HVA.out, ?_⟩
        go_simp
        refine hK2 _ _ ?_
        clear hK2 K2
        refine walk_float rfl rfl (fun K hK => ?_)
        refine gives_not2 _ _ rfl true false rfl rfl ?_
        go_simp
        refine hK _ ?_
        clear hK K
        refine walk_float rfl rfl (fun K hK => ?_)
        refine gives_pickF _ _ _ rfl rfl _ rfl ?_
        go_simp
        refine hK _ ?_
        clear hK K
        refine walk_nil ?_
        have PC := Lib.hid ((PB.out.below HK.out HVA.out).mono (Y := fun j => Value.ownBlock (.slice pl nl cl) = some j) (fun j hj => .inl hj))
        have HRC := Lib.hid (HRO.out.keep (W' := va) (fun j hj => HVA.out.block j (PB.out.xlt j (show Value.ownBlock (.slice pl nl cl) = some j from by rw [hj]; rfl))))
        have HNL8 := Lib.hid (show nl ≤ 8 from by have := HNL.out; have := HL8.out; omega)
        clear PB OAB HRB HRD HND HCD RM HRM HNM HV0 HRO HKK HKD HV8 HV9 HRQ HNQ HVA HDL HOK HL8 HNL
        go_wp2
        generalize va = vz at *
        go_loopw [153] (fun v153 wy => ∃ i : Nat, i ≤ nl ∧ v153 = .int .i64 i ∧ PSt At w wy B RB q lz lz (k + 1) (fun j => Value.ownBlock (.slice pl nl cl) = some j) ∧ RoomL wy pl nl) (fun v153 _ => nl - (intOf v153).toNat)
        case atStart => exact ⟨0, Nat.zero_le _, rfl, PC.out, HRC.out⟩
        case round =>
          obtain ⟨i, hi, rfl, hpc, hrc⟩ := hrel
          have PD := Lib.hid hpc
          have HRX := Lib.hid hrc
          clear hpc hrc PC HRC
          by_cases hlt : i < nl
          · rcases HRX.out with e0 | ⟨LB, rfl, hlb⟩
            · omega
            have HIL := Lib.hid hlt
            have f8 : (i : Int) < (nl : Int) := by omega
            have g8 : IntKind.i64.wrap ((i : Int) + 1) = ((i + 1 : Nat) : Int) := by have := HNL8.out; rw [IntWalk.i64_in _ (by omega)]; omega
            have HTH := Lib.hid (hlb.there hlt)
            have PE := Lib.hid (PD.out.wrote HK.out (Y := fun j => j = LB) (W' := wr.setCells LB (131 * i) (lineC noLine)) (keeps_setCells LB _ _ wr) (fun j hj => by rw [hj]; rfl) (fun j hj => WLA.out j (by rw [hj]; rfl)))
            have HRE := Lib.hid (show RoomL (wr.setCells LB (131 * i) (lineC noLine)) (some ⟨LB, 0, none⟩) nl from .inr ⟨LB, rfl, hlb.setCells _ _⟩)
            clear hlb hlt hi
            go_wp2_with (first
              | (refine wpList_line_build0 rfl rfl ?_)
              | (refine wpList_line_elem0 rfl _ _ rfl LB nl cl i rfl rfl HIL.out ?_)
              | (refine wpList_line_put rfl _ _ rfl rfl LB (131 * i) rfl noLine rfl HTH.out ?_))
            go_roundw
            case rel => exact ⟨i + 1, HIL.out, by go_num, PE.out, HRE.out⟩
            case measure => have := HIL.out; simp [intOf]; omega
          · have f8 : ¬ (i : Int) < (nl : Int) := by omega
            obtain rfl : i = nl := by omega
            have PF := Lib.hid (PD.out.mono (Y := fun _ => False) (fun j hj => hj.elim))
            clear hlt hi PD
            go_wp2
            go_roundw
            case rel => exact ⟨k + 1, HLT.out, by go_num, _, PF.out⟩
            case measure => have := HLT.out; simp [intOf]; omega

      by_cases hk1 : c.kind = 1
      · have HKD := Lib.hid hk1
        clear hk0 hk1
        go_wp2_with (first
          | (refine wpList_op_elem rfl _ _ rfl OB oo n c0 k rfl rfl HLT.out ?_)
          | (refine wpList_op_load rfl _ rfl OB (oo + 5 * k) rfl c HRC.out ?_)
          | (refine wpList_op_alloc rfl rfl wr.heap.size rfl ?_)
          | (refine store_row_on rfl 38 _ _ rfl rfl wr.heap.size c.cells.toArray rfl rfl 38 opZ.cells.toArray (heap_alloc_new _ _) (opA_size c) rfl (opA_one c) ?_
             have BX := Lib.hid OL.out.1
             have P1 := Lib.hid (P.out.below HK.out OL.out.2.1)
             have Z1 := Lib.hid OL.out.2.2
             clear OL P HRC
             generalize hOO : wr.heap.size = O at *
             generalize (wr.alloc (.cells opZ.cells.toArray 38)).setRow O c.cells.toArray = u1 at *
             have P2 := Lib.hid (P1.out.mono (Y := fun i => i = O) (fun i hi => .inr (by have := Z1.out; omega)))
             have k0 := BX.out.cell 0
             have k1 := BX.out.cell 1
             have k2 := BX.out.cell 2
             simp only [OpOf.cells, List.getElem?_cons_succ, List.getElem?_cons_zero] at k0 k1 k2
             rw [HKD.out] at k0
             clear HKD
             clear P1 Z1 hOO))
        have PD0 := Lib.hid ((P2.out.below HK.out ((Below.refl u1.heap.size u1).drew)).mono (Y := fun i => i = O) (fun i hi => .inl hi))
        have H99 := Lib.hid (show ls.length ≤ 999 from by have := lenL_le (P2.out.good HK.out); omega)
        clear P2 k0 k1 k2
        refine wp_region_sched [(0, true), (1, true), (5, true), (6, true), (2, false), (3, false), (4, false), (7, false), (8, false), (9, true), (10, true)] (fun V => OpBox V O c) (by kernel_rfl) (by kernel_rfl) (show OpBox u1.drew O c from BX.out) ?_
        refine walk_float rfl rfl (fun K hK => ?_)
        refine gives_move _ rfl ?_
        go_simp
        refine hK _ ?_
        clear hK K
        refine walk_float rfl rfl (fun K hK => ?_)
        refine gives_op_load _ rfl O 0 rfl c (fun V hV => OpBox.range hV) ?_
        go_simp
        refine hK _ ?_
        clear hK K
        refine walk_float rfl rfl (fun K hK => ?_)
        refine gives_move _ rfl ?_
        go_simp
        refine hK _ ?_
        clear hK K
        refine walk_float rfl rfl (fun K hK => ?_)
        refine gives_op_load _ rfl O 0 rfl c (fun V hV => OpBox.range hV) ?_
        go_simp
        refine hK _ ?_
        clear hK K
        refine walk_done rfl rfl (fun K2 hK2 => ?_)
        refine done_enter1 _ _ _ rfl 16 rfl (enters_of Try.func16 (by kernel_rfl) rfl) _ rfl _ (line_any c HC.out u1.drew) ?_
        rintro e v5 ⟨rfl, hb5⟩
        have P5 := Lib.hid ((PD0.out.below HK.out hb5).mono (Y := fun i => i = O) (fun i hi => .inl hi))
        have BX5 := Lib.hid (OpBox.below (show OpBox u1.drew O c from BX.out) hb5 BX.out.lt)
        clear hb5 PD0 BX
        refine ⟨_, rfl, BX5.out, ?_⟩
        go_simp
        refine hK2 _ _ ?_
        clear hK2 K2
        refine walk_done rfl rfl (fun K2 hK2 => ?_)
        refine done_enter2 _ _ _ _ rfl 15 rfl (enters_of Try.func15 (by kernel_rfl) rfl) _ _ rfl rfl _ (P5.out.put HK.out c.line (OpOf.line_ok HC.out) HTK.out) ?_
        rintro e v6 ⟨rfl, hp6, hf6⟩
        have P6 := Lib.hid hp6
        have BX6 := Lib.hid (show OpBox v6 O c from (hf6.2 O rfl).trans BX5.out)
        clear hp6 hf6 P5 BX5
        refine ⟨_, rfl, BX6.out, ?_⟩
        go_simp
        refine hK2 _ _ ?_
        clear hK2 K2
        refine walk_done rfl rfl (fun K2 hK2 => ?_)
        refine done_enter1 _ _ _ rfl 14 rfl (enters_of Try.func14 (by kernel_rfl) rfl) _ rfl _ (Num_put q ls c.line v6) ?_
        rintro e v7 ⟨rfl, rfl⟩
        refine ⟨_, rfl, BX6.out, ?_⟩
        go_simp
        refine hK2 _ _ ?_
        clear hK2 K2
        refine walk_done rfl rfl (fun K2 hK2 => ?_)
        refine done_enter1 _ _ _ rfl 16 rfl (enters_of Try.func16 (by kernel_rfl) rfl) _ rfl _ (line_any c HC.out v6) ?_
        rintro e v8 ⟨rfl, hb8⟩
        have P8 := Lib.hid ((P6.out.below HK.out hb8).mono (Y := fun i => i = O) (fun i hi => .inl hi))
        have BX8 := Lib.hid (BX6.out.below hb8 BX6.out.lt)
        clear hb8 P6 BX6
        refine ⟨_, rfl, BX8.out, ?_⟩
        go_simp
        refine hK2 _ _ ?_
        clear hK2 K2
        refine walk_done rfl rfl (fun K2 hK2 => ?_)
        refine done_enter2 _ _ _ _ rfl 17 rfl (enters_of Try.func17 (by kernel_rfl) rfl) _ _ rfl rfl _ (P8.out.rput HK.out c.line (OpOf.line_ok HC.out) H99.out) ?_
        rintro e v9 ⟨rfl, hp9, hf9⟩
        have P9 := Lib.hid hp9
        have BX9 := Lib.hid (show OpBox v9 O c from (hf9.2 O rfl).trans BX8.out)
        clear hp9 hf9 P8 BX8
        refine ⟨_, rfl, BX9.out, ?_⟩
        go_simp
        refine hK2 _ _ ?_
        clear hK2 K2
        refine walk_float rfl rfl (fun K hK => ?_)
        refine gives_int_is _ _ rfl (putN q ls c.line) (putN q ls c.line) rfl rfl true (by simp) ?_
        go_simp
        refine hK _ ?_
        clear hK K
        refine walk_float rfl rfl (fun K hK => ?_)
        refine gives_assign _ rfl ?_
        go_simp
        refine hK _ ?_
        clear hK K
        refine walk_nil ?_
        have PN := Lib.hid (P9.out.mono (Y := fun _ => False) (fun i hi => hi.elim))
        clear P9 BX9
        generalize putS q ls c.line = lz at *
        go_wp2_with (first
          | (go_at_call 22; refine (PN.out.lines HK.out).mono ?_; rintro e wa ⟨va, rfl, hoa, hba⟩
             have PA := Lib.hid ((PN.out.below HK.out hba).mono (Y := fun j => va.ownBlock = some j) (fun j hj => .inr ⟨hoa.block j hj, hoa.blockTop j hj⟩))
             have OA := Lib.hid hoa
             have WLA := Lib.hid (show ∀ j, va.ownBlock = some j → w.heap.size ≤ j from fun j hj => Nat.le_trans PN.out.low.size (hoa.block j hj))
             obtain ⟨pl, cl, hva, -, -, hra, -⟩ := hoa.rows elemLine.len
             have HRA := Lib.hid hra
             clear hoa hba PN hra
             generalize hnl : List.length _ = nl at hva
             have HNL := Lib.hid hnl
             subst hva
             clear hnl)
          | (go_at_call 23; refine (PA.out.rdirty).mono ?_; rintro e wb ⟨vb, rfl, hob, hbb⟩
             have PB := Lib.hid ((PA.out.below HK.out hbb).mono (Y := fun j => Value.ownBlock (.slice pl nl cl) = some j) (fun j hj => .inl hj))
             have OAB := Lib.hid (OA.out.below (Nat.le_refl _) hbb)
             have HRB := Lib.hid (HRA.out.below hbb)
             obtain ⟨pd, cd, hvb, hcd, -, hrd, -⟩ := hob.rows elemLine.len
             have HRD := Lib.hid hrd
             clear hob hbb hrd PA OA HRA
             generalize hnd : List.length _ = nd at hvb hcd
             have HND := Lib.hid hnd
             have HCD := Lib.hid hcd
             subst hvb
             clear hnd hcd))
        obtain ⟨vm, hvm⟩ := PB.out.ref
        have RM := Lib.hid hvm
        obtain ⟨pm, cm, hvm2, -, -, hrm, -⟩ := hvm.own.rows elemLine.len
        have HRM := Lib.hid hrm
        clear hvm hrm
        generalize hnm : List.length _ = nm at hvm2
        have HNM := Lib.hid hnm
        subst hvm2
        clear hnm
        have HV0 := Lib.hid ((Below.refl wb.heap.size wb).drew)
        have HOK := Lib.hid (PB.out.good HK.out).ok
        have HL8 := Lib.hid (lenL_le (PB.out.good HK.out))
        have HDL := Lib.hid (dirtyL_len lz)
        have HRO := Lib.hid (OAB.out.room HNL.out)
        obtain ⟨kk, hkk⟩ : ∃ x, min y nd = x := ⟨_, rfl⟩
        have HKK := Lib.hid hkk
        have HKD := Lib.hid (show kk ≤ cd from by have := HCD.out; omega)
        clear hkk
        refine wp_region_sched [(0, true), (1, true), (2, true), (3, true), (4, true), (5, true), (6, true), (7, true), (8, false), (9, true), (10, true), (11, true), (12, true), (13, true), (15, true), (16, true), (17, true), (18, true), (19, true), (20, true), (14, false), (21, false), (22, true), (23, true)] (fun V => Below wb.heap.size wb V) (by kernel_rfl) (by kernel_rfl) HV0.out ?_
        refine walk_float rfl rfl (fun K hK => ?_)
        refine gives_move _ rfl ?_
        go_simp
        refine hK _ ?_
        clear hK K
        refine walk_float rfl rfl (fun K hK => ?_)
        refine gives_not2 _ _ rfl true false rfl rfl ?_
        go_simp
        refine hK _ ?_
        clear hK K
        refine walk_float rfl rfl (fun K hK => ?_)
        refine gives_move _ rfl ?_
        go_simp
        refine hK _ ?_
        clear hK K
        refine walk_float rfl rfl (fun K hK => ?_)
        refine gives_move _ rfl ?_
        go_simp
        refine hK _ ?_
        clear hK K
        refine walk_float rfl rfl (fun K hK => ?_)
        refine gives_move _ rfl ?_
        go_simp
        refine hK _ ?_
        clear hK K
        refine walk_float rfl rfl (fun K hK => ?_)
        refine gives_nil_check _ rfl ⟨RB, 0, none⟩ rfl ?_
        go_simp
        refine hK _ ?_
        clear hK K
        refine walk_float rfl rfl (fun K hK => ?_)
        refine gives_cfield _ 1 rfl (by decide) RB rfl ?_
        go_simp
        refine hK _ ?_
        clear hK K
        refine walk_float rfl rfl (fun K hK => ?_)
        refine gives_cell 34 _ rfl ⟨RB, 1, none⟩ _ rfl box_lines (fun V hV => (RM.out.below hV).c1) ?_
        go_simp
        refine hK _ ?_
        clear hK K
        refine walk_done rfl rfl (fun K2 hK2 => ?_)
        refine done_enter2 _ _ _ _ rfl 24 rfl (enters_of Try.func24 (by kernel_rfl) rfl) _ _ rfl rfl _ (same_at pl pm nl nm cl cm lz lz HNL.out HNM.out (by have := HNL.out; have := HL8.out; omega) HOK.out HOK.out rfl wb.drew (HRB.out.below HV0.out) (HRM.out.below HV0.out)) ?_
        rintro e v8 ⟨rfl, hb8⟩
        have HV8 := Lib.hid (HV0.out.trans (hb8.mono HV0.out.size))
        clear hb8
        refine ⟨_, rfl, HV8.out, ?_⟩
        go_simp
        refine hK2 _ _ ?_
        clear hK2 K2
        refine walk_float rfl rfl (fun K hK => ?_)
        refine gives_not2 _ _ rfl true false rfl rfl ?_
        go_simp
        refine hK _ ?_
        clear hK K
        refine walk_float rfl rfl (fun K hK => ?_)
        refine gives_pickF _ _ _ rfl rfl _ rfl ?_
        go_simp
        refine hK _ ?_
        clear hK K
        refine walk_float rfl rfl (fun K hK => ?_)
        refine gives_move _ rfl ?_
        go_simp
        refine hK _ ?_
        clear hK K
        refine walk_float rfl rfl (fun K hK => ?_)
        refine gives_move _ rfl ?_
        go_simp
        refine hK _ ?_
        clear hK K
        refine walk_float rfl rfl (fun K hK => ?_)
        refine gives_move _ rfl ?_
        go_simp
        refine hK _ ?_
        clear hK K
        refine walk_float rfl rfl (fun K hK => ?_)
        refine gives_move _ rfl ?_
        go_simp
        refine hK _ ?_
        clear hK K
        refine walk_float rfl rfl (fun K hK => ?_)
        refine gives_move _ rfl ?_
        go_simp
        refine hK _ ?_
        clear hK K
        refine walk_float rfl rfl (fun K hK => ?_)
        refine gives_move _ rfl ?_
        go_simp
        refine hK _ ?_
        clear hK K
        refine walk_float rfl rfl (fun K hK => ?_)
        refine gives_len_lines _ rfl pd nd cd rfl ?_
        go_simp
        refine hK _ ?_
        clear hK K
        refine walk_float rfl rfl (fun K hK => ?_)
        refine gives_min _ _ rfl y nd rfl rfl kk HKK.out ?_
        go_simp
        refine hK _ ?_
        clear hK K
        refine walk_float rfl rfl (fun K hK => ?_)
        refine gives_lines_upto _ _ rfl pd nd cd kk rfl rfl HKD.out ?_
        go_simp
        refine hK _ ?_
        clear hK K
        refine walk_done rfl rfl (fun K2 hK2 => ?_)
        refine done_enter2 _ _ _ _ rfl 25 rfl (enters_of Try.func25 (by kernel_rfl) rfl) _ _ rfl rfl _ ((PB.out.cas.below HK.out HV8.out).dirty HK.out (y : Int)) ?_
        rintro e v9 ⟨vq, rfl, hod, -, hb9⟩
        have HV9 := Lib.hid (HV8.out.trans (hb9.mono HV8.out.size))
        obtain ⟨pq, cq, hvq, -, -, hrq, -⟩ := hod.rows elemLine.len
        have HRQ := Lib.hid hrq
        clear hod hb9 hrq
        generalize hnq : List.length _ = nq at hvq
        have HNQ := Lib.hid hnq
        subst hvq
        clear hnq
        refine ⟨_, rfl, HV9.out, ?_⟩
        go_simp
        refine hK2 _ _ ?_
        clear hK2 K2
        refine walk_done rfl rfl (fun K2 hK2 => ?_)
        refine done_enter2 _ _ _ _ rfl 24 rfl (enters_of Try.func24 (by kernel_rfl) rfl) _ _ rfl rfl _ (same_at pq pd nq kk cq cd (takeD (dirtyL lz) (y : Int)) ((dirtyL lz).take kk) HNQ.out (by rw [List.length_take, HND.out]; have := HKK.out; omega) (by have := HNQ.out; have := takeD_len (dirtyL lz) (y : Int); have := HDL.out; have := HL8.out; omega) (takeD_oks (dirty_oks HOK.out) _) (take_oks (dirty_oks HOK.out) _) (by rw [take_min, HND.out, HKK.out]) v9 HRQ.out ((rows_take HRD.out kk).below HV9.out)) ?_
        rintro e va ⟨rfl, hba⟩
        have HVA := Lib.hid (HV9.out.trans (hba.mono HV9.out.size))
        clear hba
        refine ⟨_, rfl, HVA.out, ?_⟩
        go_simp
        refine hK2 _ _ ?_
        clear hK2 K2
        refine walk_float rfl rfl (fun K hK => ?_)
        refine gives_not2 _ _ rfl true false rfl rfl ?_
        go_simp
        refine hK _ ?_
        clear hK K
        refine walk_float rfl rfl (fun K hK => ?_)
        refine gives_pickF _ _ _ rfl rfl _ rfl ?_
        go_simp
        refine hK _ ?_
        clear hK K
        refine walk_nil ?_
        have PC := Lib.hid ((PB.out.below HK.out HVA.out).mono (Y := fun j => Value.ownBlock (.slice pl nl cl) = some j) (fun j hj => .inl hj))
        have HRC := Lib.hid (HRO.out.keep (W' := va) (fun j hj => HVA.out.block j (PB.out.xlt j (show Value.ownBlock (.slice pl nl cl) = some j from by rw [hj]; rfl))))
        have HNL8 := Lib.hid (show nl ≤ 8 from by have := HNL.out; have := HL8.out; omega)
        clear PB OAB HRB HRD HND HCD RM HRM HNM HV0 HRO HKK HKD HV8 HV9 HRQ HNQ HVA HDL HOK HL8 HNL
        go_wp2
        generalize va = vz at *
        go_loopw [153] (fun v153 wy => ∃ i : Nat, i ≤ nl ∧ v153 = .int .i64 i ∧ PSt At w wy B RB q lz lz (k + 1) (fun j => Value.ownBlock (.slice pl nl cl) = some j) ∧ RoomL wy pl nl) (fun v153 _ => nl - (intOf v153).toNat)
        case atStart => exact ⟨0, Nat.zero_le _, rfl, PC.out, HRC.out⟩
        case round =>
          obtain ⟨i, hi, rfl, hpc, hrc⟩ := hrel
          have PD := Lib.hid hpc
          have HRX := Lib.hid hrc
          clear hpc hrc PC HRC
          by_cases hlt : i < nl
          · rcases HRX.out with e0 | ⟨LB, rfl, hlb⟩
            · omega
            have HIL := Lib.hid hlt
            have f8 : (i : Int) < (nl : Int) := by omega
            have g8 : IntKind.i64.wrap ((i : Int) + 1) = ((i + 1 : Nat) : Int) := by have := HNL8.out; rw [IntWalk.i64_in _ (by omega)]; omega
            have HTH := Lib.hid (hlb.there hlt)
            have PE := Lib.hid (PD.out.wrote HK.out (Y := fun j => j = LB) (W' := wr.setCells LB (131 * i) (lineC noLine)) (keeps_setCells LB _ _ wr) (fun j hj => by rw [hj]; rfl) (fun j hj => WLA.out j (by rw [hj]; rfl)))
            have HRE := Lib.hid (show RoomL (wr.setCells LB (131 * i) (lineC noLine)) (some ⟨LB, 0, none⟩) nl from .inr ⟨LB, rfl, hlb.setCells _ _⟩)
            clear hlb hlt hi
            go_wp2_with (first
              | (refine wpList_line_build0 rfl rfl ?_)
              | (refine wpList_line_elem0 rfl _ _ rfl LB nl cl i rfl rfl HIL.out ?_)
              | (refine wpList_line_put rfl _ _ rfl rfl LB (131 * i) rfl noLine rfl HTH.out ?_))
            go_roundw
            case rel => exact ⟨i + 1, HIL.out, by go_num, PE.out, HRE.out⟩
            case measure => have := HIL.out; simp [intOf]; omega
          · have f8 : ¬ (i : Int) < (nl : Int) := by omega
            obtain rfl : i = nl := by omega
            have PF := Lib.hid (PD.out.mono (Y := fun _ => False) (fun j hj => hj.elim))
            clear hlt hi PD
            go_wp2
            go_roundw
            case rel => exact ⟨k + 1, HLT.out, by go_num, _, PF.out⟩
            case measure => have := HLT.out; simp [intOf]; omega

      by_cases hk2 : c.kind = 2
      · have HKD := Lib.hid hk2
        clear hk0 hk1 hk2
        go_wp2_with (first
          | (refine wpList_op_elem rfl _ _ rfl OB oo n c0 k rfl rfl HLT.out ?_)
          | (refine wpList_op_load rfl _ rfl OB (oo + 5 * k) rfl c HRC.out ?_)
          | (refine wpList_op_alloc rfl rfl wr.heap.size rfl ?_)
          | (refine store_row_on rfl 38 _ _ rfl rfl wr.heap.size c.cells.toArray rfl rfl 38 opZ.cells.toArray (heap_alloc_new _ _) (opA_size c) rfl (opA_one c) ?_
             have BX := Lib.hid OL.out.1
             have P1 := Lib.hid (P.out.below HK.out OL.out.2.1)
             have Z1 := Lib.hid OL.out.2.2
             clear OL P HRC
             generalize hOO : wr.heap.size = O at *
             generalize (wr.alloc (.cells opZ.cells.toArray 38)).setRow O c.cells.toArray = u1 at *
             have P2 := Lib.hid (P1.out.mono (Y := fun i => i = O) (fun i hi => .inr (by have := Z1.out; omega)))
             have k0 := BX.out.cell 0
             have k1 := BX.out.cell 1
             have k2 := BX.out.cell 2
             simp only [OpOf.cells, List.getElem?_cons_succ, List.getElem?_cons_zero] at k0 k1 k2
             rw [HKD.out] at k0
             clear HKD
             clear P1 Z1 hOO)
          | (go_at_call 18; refine (P2.out.clean HK.out HTK.out).mono ?_; rintro e w6 ⟨rfl, hp6, hf6⟩
             have P6 := Lib.hid hp6
             clear hp6 hf6 P2 k0 k1 k2)
          | (go_at_call 19; refine (P6.out.rclean HK.out).mono ?_; rintro e w8 ⟨rfl, hp8, hf8⟩
             have PN := Lib.hid (hp8.mono (Y := fun _ => False) (fun i hi => hi.elim))
             clear hp8 hf8 P6))
        generalize cleanedL ls = lz at *
        go_wp2_with (first
          | (go_at_call 22; refine (PN.out.lines HK.out).mono ?_; rintro e wa ⟨va, rfl, hoa, hba⟩
             have PA := Lib.hid ((PN.out.below HK.out hba).mono (Y := fun j => va.ownBlock = some j) (fun j hj => .inr ⟨hoa.block j hj, hoa.blockTop j hj⟩))
             have OA := Lib.hid hoa
             have WLA := Lib.hid (show ∀ j, va.ownBlock = some j → w.heap.size ≤ j from fun j hj => Nat.le_trans PN.out.low.size (hoa.block j hj))
             obtain ⟨pl, cl, hva, -, -, hra, -⟩ := hoa.rows elemLine.len
             have HRA := Lib.hid hra
             clear hoa hba PN hra
             generalize hnl : List.length _ = nl at hva
             have HNL := Lib.hid hnl
             subst hva
             clear hnl)
          | (go_at_call 23; refine (PA.out.rdirty).mono ?_; rintro e wb ⟨vb, rfl, hob, hbb⟩
             have PB := Lib.hid ((PA.out.below HK.out hbb).mono (Y := fun j => Value.ownBlock (.slice pl nl cl) = some j) (fun j hj => .inl hj))
             have OAB := Lib.hid (OA.out.below (Nat.le_refl _) hbb)
             have HRB := Lib.hid (HRA.out.below hbb)
             obtain ⟨pd, cd, hvb, hcd, -, hrd, -⟩ := hob.rows elemLine.len
             have HRD := Lib.hid hrd
             clear hob hbb hrd PA OA HRA
             generalize hnd : List.length _ = nd at hvb hcd
             have HND := Lib.hid hnd
             have HCD := Lib.hid hcd
             subst hvb
             clear hnd hcd))
        obtain ⟨vm, hvm⟩ := PB.out.ref
        have RM := Lib.hid hvm
        obtain ⟨pm, cm, hvm2, -, -, hrm, -⟩ := hvm.own.rows elemLine.len
        have HRM := Lib.hid hrm
        clear hvm hrm
        generalize hnm : List.length _ = nm at hvm2
        have HNM := Lib.hid hnm
        subst hvm2
        clear hnm
        have HV0 := Lib.hid ((Below.refl wb.heap.size wb).drew)
        have HOK := Lib.hid (PB.out.good HK.out).ok
        have HL8 := Lib.hid (lenL_le (PB.out.good HK.out))
        have HDL := Lib.hid (dirtyL_len lz)
        have HRO := Lib.hid (OAB.out.room HNL.out)
        obtain ⟨kk, hkk⟩ : ∃ x, min y nd = x := ⟨_, rfl⟩
        have HKK := Lib.hid hkk
        have HKD := Lib.hid (show kk ≤ cd from by have := HCD.out; omega)
        clear hkk
        refine wp_region_sched [(0, true), (1, true), (2, true), (3, true), (4, true), (5, true), (6, true), (7, true), (8, false), (9, true), (10, true), (11, true), (12, true), (13, true), (15, true), (16, true), (17, true), (18, true), (19, true), (20, true), (14, false), (21, false), (22, true), (23, true)] (fun V => Below wb.heap.size wb V) (by kernel_rfl) (by kernel_rfl) HV0.out ?_
        refine walk_float rfl rfl (fun K hK => ?_)
        refine gives_move _ rfl ?_
        go_simp
        refine hK _ ?_
        clear hK K
        refine walk_float rfl rfl (fun K hK => ?_)
        refine gives_not2 _ _ rfl true false rfl rfl ?_
        go_simp
        refine hK _ ?_
        clear hK K
        refine walk_float rfl rfl (fun K hK => ?_)
        refine gives_move _ rfl ?_
        go_simp
        refine hK _ ?_
        clear hK K
        refine walk_float rfl rfl (fun K hK => ?_)
        refine gives_move _ rfl ?_
        go_simp
        refine hK _ ?_
        clear hK K
        refine walk_float rfl rfl (fun K hK => ?_)
        refine gives_move _ rfl ?_
        go_simp
        refine hK _ ?_
        clear hK K
        refine walk_float rfl rfl (fun K hK => ?_)
        refine gives_nil_check _ rfl ⟨RB, 0, none⟩ rfl ?_
        go_simp
        refine hK _ ?_
        clear hK K
        refine walk_float rfl rfl (fun K hK => ?_)
        refine gives_cfield _ 1 rfl (by decide) RB rfl ?_
        go_simp
        refine hK _ ?_
        clear hK K
        refine walk_float rfl rfl (fun K hK => ?_)
        refine gives_cell 34 _ rfl ⟨RB, 1, none⟩ _ rfl box_lines (fun V hV => (RM.out.below hV).c1) ?_
        go_simp
        refine hK _ ?_
        clear hK K
        refine walk_done rfl rfl (fun K2 hK2 => ?_)
        refine done_enter2 _ _ _ _ rfl 24 rfl (enters_of Try.func24 (by kernel_rfl) rfl) _ _ rfl rfl _ (same_at pl pm nl nm cl cm lz lz HNL.out HNM.out (by have := HNL.out; have := HL8.out; omega) HOK.out HOK.out rfl wb.drew (HRB.out.below HV0.out) (HRM.out.below HV0.out)) ?_
        rintro e v8 ⟨rfl, hb8⟩
        have HV8 := Lib.hid (HV0.out.trans (hb8.mono HV0.out.size))
        clear hb8
        refine ⟨_, rfl, HV8.out, ?_⟩
        go_simp
        refine hK2 _ _ ?_
        clear hK2 K2
        refine walk_float rfl rfl (fun K hK => ?_)
        refine gives_not2 _ _ rfl true false rfl rfl ?_
        go_simp
        refine hK _ ?_
        clear hK K
        refine walk_float rfl rfl (fun K hK => ?_)
        refine gives_pickF _ _ _ rfl rfl _ rfl ?_
        go_simp
        refine hK _ ?_
        clear hK K
        refine walk_float rfl rfl (fun K hK => ?_)
        refine gives_move _ rfl ?_
        go_simp
        refine hK _ ?_
        clear hK K
        refine walk_float rfl rfl (fun K hK => ?_)
        refine gives_move _ rfl ?_
        go_simp
        refine hK _ ?_
        clear hK K
        refine walk_float rfl rfl (fun K hK => ?_)
        refine gives_move _ rfl ?_
        go_simp
        refine hK _ ?_
        clear hK K
        refine walk_float rfl rfl (fun K hK => ?_)
        refine gives_move _ rfl ?_
        go_simp
        refine hK _ ?_
        clear hK K
        refine walk_float rfl rfl (fun K hK => ?_)
        refine gives_move _ rfl ?_
        go_simp
        refine hK _ ?_
        clear hK K
        refine walk_float rfl rfl (fun K hK => ?_)
        refine gives_move _ rfl ?_
        go_simp
        refine hK _ ?_
        clear hK K
        refine walk_float rfl rfl (fun K hK => ?_)
        refine gives_len_lines _ rfl pd nd cd rfl ?_
        go_simp
        refine hK _ ?_
        clear hK K
        refine walk_float rfl rfl (fun K hK => ?_)
        refine gives_min _ _ rfl y nd rfl rfl kk HKK.out ?_
        go_simp
        refine hK _ ?_
        clear hK K
        refine walk_float rfl rfl (fun K hK => ?_)
        refine gives_lines_upto _ _ rfl pd nd cd kk rfl rfl HKD.out ?_
        go_simp
        refine hK _ ?_
        clear hK K
        refine walk_done rfl rfl (fun K2 hK2 => ?_)
        refine done_enter2 _ _ _ _ rfl 25 rfl (enters_of Try.func25 (by kernel_rfl) rfl) _ _ rfl rfl _ ((PB.out.cas.below HK.out HV8.out).dirty HK.out (y : Int)) ?_
        rintro e v9 ⟨vq, rfl, hod, -, hb9⟩
        have HV9 := Lib.hid (HV8.out.trans (hb9.mono HV8.out.size))
        obtain ⟨pq, cq, hvq, -, -, hrq, -⟩ := hod.rows elemLine.len
        have HRQ := Lib.hid hrq
        clear hod hb9 hrq
        generalize hnq : List.length _ = nq at hvq
        have HNQ := Lib.hid hnq
        subst hvq
        clear hnq
        refine ⟨_, rfl, HV9.out, ?_⟩
        go_simp
        refine hK2 _ _ ?_
        clear hK2 K2
        refine walk_done rfl rfl (fun K2 hK2 => ?_)
        refine done_enter2 _ _ _ _ rfl 24 rfl (enters_of Try.func24 (by kernel_rfl) rfl) _ _ rfl rfl _ (same_at pq pd nq kk cq cd (takeD (dirtyL lz) (y : Int)) ((dirtyL lz).take kk) HNQ.out (by rw [List.length_take, HND.out]; have := HKK.out; omega) (by have := HNQ.out; have := takeD_len (dirtyL lz) (y : Int); have := HDL.out; have := HL8.out; omega) (takeD_oks (dirty_oks HOK.out) _) (take_oks (dirty_oks HOK.out) _) (by rw [take_min, HND.out, HKK.out]) v9 HRQ.out ((rows_take HRD.out kk).below HV9.out)) ?_
        rintro e va ⟨rfl, hba⟩
        have HVA := Lib.hid (HV9.out.trans (hba.mono HV9.out.size))
        clear hba
        refine ⟨_, rfl, HVA.out, ?_⟩
        go_simp
        refine hK2 _ _ ?_
        clear hK2 K2
        refine walk_float rfl rfl (fun K hK => ?_)
        refine gives_not2 _ _ rfl true false rfl rfl ?_
        go_simp
        refine hK _ ?_
        clear hK K
        refine walk_float rfl rfl (fun K hK => ?_)
        refine gives_pickF _ _ _ rfl rfl _ rfl ?_
        go_simp
        refine hK _ ?_
        clear hK K
        refine walk_nil ?_
        have PC := Lib.hid ((PB.out.below HK.out HVA.out).mono (Y := fun j => Value.ownBlock (.slice pl nl cl) = some j) (fun j hj => .inl hj))
        have HRC := Lib.hid (HRO.out.keep (W' := va) (fun j hj => HVA.out.block j (PB.out.xlt j (show Value.ownBlock (.slice pl nl cl) = some j from by rw [hj]; rfl))))
        have HNL8 := Lib.hid (show nl ≤ 8 from by have := HNL.out; have := HL8.out; omega)
        clear PB OAB HRB HRD HND HCD RM HRM HNM HV0 HRO HKK HKD HV8 HV9 HRQ HNQ HVA HDL HOK HL8 HNL
        go_wp2
        generalize va = vz at *
        go_loopw [153] (fun v153 wy => ∃ i : Nat, i ≤ nl ∧ v153 = .int .i64 i ∧ PSt At w wy B RB q lz lz (k + 1) (fun j => Value.ownBlock (.slice pl nl cl) = some j) ∧ RoomL wy pl nl) (fun v153 _ => nl - (intOf v153).toNat)
        case atStart => exact ⟨0, Nat.zero_le _, rfl, PC.out, HRC.out⟩
        case round =>
          obtain ⟨i, hi, rfl, hpc, hrc⟩ := hrel
          have PD := Lib.hid hpc
          have HRX := Lib.hid hrc
          clear hpc hrc PC HRC
          by_cases hlt : i < nl
          · rcases HRX.out with e0 | ⟨LB, rfl, hlb⟩
            · omega
            have HIL := Lib.hid hlt
            have f8 : (i : Int) < (nl : Int) := by omega
            have g8 : IntKind.i64.wrap ((i : Int) + 1) = ((i + 1 : Nat) : Int) := by have := HNL8.out; rw [IntWalk.i64_in _ (by omega)]; omega
            have HTH := Lib.hid (hlb.there hlt)
            have PE := Lib.hid (PD.out.wrote HK.out (Y := fun j => j = LB) (W' := wr.setCells LB (131 * i) (lineC noLine)) (keeps_setCells LB _ _ wr) (fun j hj => by rw [hj]; rfl) (fun j hj => WLA.out j (by rw [hj]; rfl)))
            have HRE := Lib.hid (show RoomL (wr.setCells LB (131 * i) (lineC noLine)) (some ⟨LB, 0, none⟩) nl from .inr ⟨LB, rfl, hlb.setCells _ _⟩)
            clear hlb hlt hi
            go_wp2_with (first
              | (refine wpList_line_build0 rfl rfl ?_)
              | (refine wpList_line_elem0 rfl _ _ rfl LB nl cl i rfl rfl HIL.out ?_)
              | (refine wpList_line_put rfl _ _ rfl rfl LB (131 * i) rfl noLine rfl HTH.out ?_))
            go_roundw
            case rel => exact ⟨i + 1, HIL.out, by go_num, PE.out, HRE.out⟩
            case measure => have := HIL.out; simp [intOf]; omega
          · have f8 : ¬ (i : Int) < (nl : Int) := by omega
            obtain rfl : i = nl := by omega
            have PF := Lib.hid (PD.out.mono (Y := fun _ => False) (fun j hj => hj.elim))
            clear hlt hi PD
            go_wp2
            go_roundw
            case rel => exact ⟨k + 1, HLT.out, by go_num, _, PF.out⟩
            case measure => have := HLT.out; simp [intOf]; omega

      have e0 : decide (c.kind = 0) = false := by simp [hk0]
      have e1 : decide (c.kind = 1) = false := by simp [hk1]
      have e2 : decide (c.kind = 2) = false := by simp [hk2]
      have b0 : (c.kind == 0) = false := by simp [hk0]
      have b1 : (c.kind == 1) = false := by simp [hk1]
      have b2 : (c.kind == 2) = false := by simp [hk2]
      clear hk0 hk1 hk2
      go_wp2_with (first
        | (refine wpList_op_elem rfl _ _ rfl OB oo n c0 k rfl rfl HLT.out ?_)
        | (refine wpList_op_load rfl _ rfl OB (oo + 5 * k) rfl c HRC.out ?_)
        | (refine wpList_op_alloc rfl rfl wr.heap.size rfl ?_)
        | (refine store_row_on rfl 38 _ _ rfl rfl wr.heap.size c.cells.toArray rfl rfl 38 opZ.cells.toArray (heap_alloc_new _ _) (opA_size c) rfl (opA_one c) ?_
           have BX := Lib.hid OL.out.1
           have P1 := Lib.hid (P.out.below HK.out OL.out.2.1)
           have Z1 := Lib.hid OL.out.2.2
           clear OL P HRC
           generalize hOO : wr.heap.size = O at *
           generalize (wr.alloc (.cells opZ.cells.toArray 38)).setRow O c.cells.toArray = u1 at *
           have P2 := Lib.hid (P1.out.mono (Y := fun i => i = O) (fun i hi => .inr (by have := Z1.out; omega)))
           have k0 := BX.out.cell 0
           have k1 := BX.out.cell 1
           have k2 := BX.out.cell 2
           simp only [OpOf.cells, List.getElem?_cons_succ, List.getElem?_cons_zero] at k0 k1 k2
           clear P1 Z1 hOO))
      have PD0 := Lib.hid ((P2.out.below HK.out ((Below.refl u1.heap.size u1).drew)).mono (Y := fun i => i = O) (fun i hi => .inl hi))
      clear P2 k0 k1 k2
      refine wp_region_sched [(0, true), (1, true), (2, true), (4, true), (5, true), (6, true), (3, false), (7, false), (8, true), (9, true)] (fun V => OpBox V O c) (by kernel_rfl) (by kernel_rfl) (show OpBox u1.drew O c from BX.out) ?_
      refine walk_float rfl rfl (fun K hK => ?_)
      refine gives_move _ rfl ?_
      go_simp
      refine hK _ ?_
      clear hK K
      refine walk_float rfl rfl (fun K hK => ?_)
      refine gives_opfield _ 1 rfl (by decide) O rfl ?_
      go_simp
      refine hK _ ?_
      clear hK K
      refine walk_float rfl rfl (fun K hK => ?_)
      refine gives_cell 3 _ rfl ⟨O, 1, none⟩ (.int .i64 c.u) rfl box_int (fun V hV => OpBox.u hV) ?_
      go_simp
      refine hK _ ?_
      clear hK K
      refine walk_float rfl rfl (fun K hK => ?_)
      refine gives_move _ rfl ?_
      go_simp
      refine hK _ ?_
      clear hK K
      refine walk_float rfl rfl (fun K hK => ?_)
      refine gives_opfield _ 1 rfl (by decide) O rfl ?_
      go_simp
      refine hK _ ?_
      clear hK K
      refine walk_float rfl rfl (fun K hK => ?_)
      refine gives_cell 3 _ rfl ⟨O, 1, none⟩ (.int .i64 c.u) rfl box_int (fun V hV => OpBox.u hV) ?_
      go_simp
      refine hK _ ?_
      clear hK K
      refine walk_done rfl rfl (fun K2 hK2 => ?_)
      refine done_enter2 _ _ _ _ rfl 20 rfl (enters_of Try.func20 (by kernel_rfl) rfl) _ _ rfl rfl _ (PD0.out.drop HK.out c.u HC.out.u HTK.out) ?_
      rintro e v6 ⟨rfl, hp6, hf6⟩
      have P6 := Lib.hid hp6
      have BX6 := Lib.hid (show OpBox v6 O c from (hf6.2 O rfl).trans BX.out)
      clear hp6 hf6 PD0 BX
      refine ⟨_, rfl, BX6.out, ?_⟩
      go_simp
      refine hK2 _ _ ?_
      clear hK2 K2
      refine walk_done rfl rfl (fun K2 hK2 => ?_)
      refine done_enter2 _ _ _ _ rfl 21 rfl (enters_of Try.func21 (by kernel_rfl) rfl) _ _ rfl rfl _ (P6.out.rdrop HK.out c.u) ?_
      rintro e v9 ⟨rfl, hp9, hf9⟩
      have P9 := Lib.hid hp9
      have BX9 := Lib.hid (show OpBox v9 O c from (hf9.2 O rfl).trans BX6.out)
      clear hp9 hf9 P6 BX6
      refine ⟨_, rfl, BX9.out, ?_⟩
      go_simp
      refine hK2 _ _ ?_
      clear hK2 K2
      refine walk_float rfl rfl (fun K hK => ?_)
      refine gives_int_is _ _ rfl ((ls.length - (dropL ls c.u).length : Nat) : Int) ((ls.length - (dropL ls c.u).length : Nat) : Int) rfl rfl true (by simp) ?_
      go_simp
      refine hK _ ?_
      clear hK K
      refine walk_float rfl rfl (fun K hK => ?_)
      refine gives_assign _ rfl ?_
      go_simp
      refine hK _ ?_
      clear hK K
      refine walk_nil ?_
      have PN := Lib.hid (P9.out.mono (Y := fun _ => False) (fun i hi => hi.elim))
      clear P9 BX9
      generalize dropL ls c.u = lz at *
      go_wp2_with (first
        | (go_at_call 22; refine (PN.out.lines HK.out).mono ?_; rintro e wa ⟨va, rfl, hoa, hba⟩
           have PA := Lib.hid ((PN.out.below HK.out hba).mono (Y := fun j => va.ownBlock = some j) (fun j hj => .inr ⟨hoa.block j hj, hoa.blockTop j hj⟩))
           have OA := Lib.hid hoa
           have WLA := Lib.hid (show ∀ j, va.ownBlock = some j → w.heap.size ≤ j from fun j hj => Nat.le_trans PN.out.low.size (hoa.block j hj))
           obtain ⟨pl, cl, hva, -, -, hra, -⟩ := hoa.rows elemLine.len
           have HRA := Lib.hid hra
           clear hoa hba PN hra
           generalize hnl : List.length _ = nl at hva
           have HNL := Lib.hid hnl
           subst hva
           clear hnl)
        | (go_at_call 23; refine (PA.out.rdirty).mono ?_; rintro e wb ⟨vb, rfl, hob, hbb⟩
           have PB := Lib.hid ((PA.out.below HK.out hbb).mono (Y := fun j => Value.ownBlock (.slice pl nl cl) = some j) (fun j hj => .inl hj))
           have OAB := Lib.hid (OA.out.below (Nat.le_refl _) hbb)
           have HRB := Lib.hid (HRA.out.below hbb)
           obtain ⟨pd, cd, hvb, hcd, -, hrd, -⟩ := hob.rows elemLine.len
           have HRD := Lib.hid hrd
           clear hob hbb hrd PA OA HRA
           generalize hnd : List.length _ = nd at hvb hcd
           have HND := Lib.hid hnd
           have HCD := Lib.hid hcd
           subst hvb
           clear hnd hcd))
      obtain ⟨vm, hvm⟩ := PB.out.ref
      have RM := Lib.hid hvm
      obtain ⟨pm, cm, hvm2, -, -, hrm, -⟩ := hvm.own.rows elemLine.len
      have HRM := Lib.hid hrm
      clear hvm hrm
      generalize hnm : List.length _ = nm at hvm2
      have HNM := Lib.hid hnm
      subst hvm2
      clear hnm
      have HV0 := Lib.hid ((Below.refl wb.heap.size wb).drew)
      have HOK := Lib.hid (PB.out.good HK.out).ok
      have HL8 := Lib.hid (lenL_le (PB.out.good HK.out))
      have HDL := Lib.hid (dirtyL_len lz)
      have HRO := Lib.hid (OAB.out.room HNL.out)
      obtain ⟨kk, hkk⟩ : ∃ x, min y nd = x := ⟨_, rfl⟩
      have HKK := Lib.hid hkk
      have HKD := Lib.hid (show kk ≤ cd from by have := HCD.out; omega)
      clear hkk
      refine wp_region_sched [(0, true), (1, true), (2, true), (3, true), (4, true), (5, true), (6, true), (7, true), (8, false), (9, true), (10, true), (11, true), (12, true), (13, true), (15, true), (16, true), (17, true), (18, true), (19, true), (20, true), (14, false), (21, false), (22, true), (23, true)] (fun V => Below wb.heap.size wb V) (by kernel_rfl) (by kernel_rfl) HV0.out ?_
      refine walk_float rfl rfl (fun K hK => ?_)
      refine gives_move _ rfl ?_
      go_simp
      refine hK _ ?_
      clear hK K
      refine walk_float rfl rfl (fun K hK => ?_)
      refine gives_not2 _ _ rfl true false rfl rfl ?_
      go_simp
      refine hK _ ?_
      clear hK K
      refine walk_float rfl rfl (fun K hK => ?_)
      refine gives_move _ rfl ?_
      go_simp
      refine hK _ ?_
      clear hK K
      refine walk_float rfl rfl (fun K hK => ?_)
      refine gives_move _ rfl ?_
      go_simp
      refine hK _ ?_
      clear hK K
      refine walk_float rfl rfl (fun K hK => ?_)
      refine gives_move _ rfl ?_
      go_simp
      refine hK _ ?_
      clear hK K
      refine walk_float rfl rfl (fun K hK => ?_)
      refine gives_nil_check _ rfl ⟨RB, 0, none⟩ rfl ?_
      go_simp
      refine hK _ ?_
      clear hK K
      refine walk_float rfl rfl (fun K hK => ?_)
      refine gives_cfield _ 1 rfl (by decide) RB rfl ?_
      go_simp
      refine hK _ ?_
      clear hK K
      refine walk_float rfl rfl (fun K hK => ?_)
      refine gives_cell 34 _ rfl ⟨RB, 1, none⟩ _ rfl box_lines (fun V hV => (RM.out.below hV).c1) ?_
      go_simp
      refine hK _ ?_
      clear hK K
      refine walk_done rfl rfl (fun K2 hK2 => ?_)
      refine done_enter2 _ _ _ _ rfl 24 rfl (enters_of Try.func24 (by kernel_rfl) rfl) _ _ rfl rfl _ (same_at pl pm nl nm cl cm lz lz HNL.out HNM.out (by have := HNL.out; have := HL8.out; omega) HOK.out HOK.out rfl wb.drew (HRB.out.below HV0.out) (HRM.out.below HV0.out)) ?_
      rintro e v8 ⟨rfl, hb8⟩
      have HV8 := Lib.hid (HV0.out.trans (hb8.mono HV0.out.size))
      clear hb8
      refine ⟨_, rfl, HV8.out, ?_⟩
      go_simp
      refine hK2 _ _ ?_
      clear hK2 K2
      refine walk_float rfl rfl (fun K hK => ?_)
      refine gives_not2 _ _ rfl true false rfl rfl ?_
      go_simp
      refine hK _ ?_
      clear hK K
      refine walk_float rfl rfl (fun K hK => ?_)
      refine gives_pickF _ _ _ rfl rfl _ rfl ?_
      go_simp
      refine hK _ ?_
      clear hK K
      refine walk_float rfl rfl (fun K hK => ?_)
      refine gives_move _ rfl ?_
      go_simp
      refine hK _ ?_
      clear hK K
      refine walk_float rfl rfl (fun K hK => ?_)
      refine gives_move _ rfl ?_
      go_simp
      refine hK _ ?_
      clear hK K
      refine walk_float rfl rfl (fun K hK => ?_)
      refine gives_move _ rfl ?_
      go_simp
      refine hK _ ?_
      clear hK K
      refine walk_float rfl rfl (fun K hK => ?_)
      refine gives_move _ rfl ?_
      go_simp
      refine hK _ ?_
      clear hK K
      refine walk_float rfl rfl (fun K hK => ?_)
      refine gives_move _ rfl ?_
      go_simp
      refine hK _ ?_
      clear hK K
      refine walk_float rfl rfl (fun K hK => ?_)
      refine gives_move _ rfl ?_
      go_simp
      refine hK _ ?_
      clear hK K
      refine walk_float rfl rfl (fun K hK => ?_)
      refine gives_len_lines _ rfl pd nd cd rfl ?_
      go_simp
      refine hK _ ?_
      clear hK K
      refine walk_float rfl rfl (fun K hK => ?_)
      refine gives_min _ _ rfl y nd rfl rfl kk HKK.out ?_
      go_simp
      refine hK _ ?_
      clear hK K
      refine walk_float rfl rfl (fun K hK => ?_)
      refine gives_lines_upto _ _ rfl pd nd cd kk rfl rfl HKD.out ?_
      go_simp
      refine hK _ ?_
      clear hK K
      refine walk_done rfl rfl (fun K2 hK2 => ?_)
      refine done_enter2 _ _ _ _ rfl 25 rfl (enters_of Try.func25 (by kernel_rfl) rfl) _ _ rfl rfl _ ((PB.out.cas.below HK.out HV8.out).dirty HK.out (y : Int)) ?_
      rintro e v9 ⟨vq, rfl, hod, -, hb9⟩
      have HV9 := Lib.hid (HV8.out.trans (hb9.mono HV8.out.size))
      obtain ⟨pq, cq, hvq, -, -, hrq, -⟩ := hod.rows elemLine.len
      have HRQ := Lib.hid hrq
      clear hod hb9 hrq
      generalize hnq : List.length _ = nq at hvq
      have HNQ := Lib.hid hnq
      subst hvq
      clear hnq
      refine ⟨_, rfl, HV9.out, ?_⟩
      go_simp
      refine hK2 _ _ ?_
      clear hK2 K2
      refine walk_done rfl rfl (fun K2 hK2 => ?_)
      refine done_enter2 _ _ _ _ rfl 24 rfl (enters_of Try.func24 (by kernel_rfl) rfl) _ _ rfl rfl _ (same_at pq pd nq kk cq cd (takeD (dirtyL lz) (y : Int)) ((dirtyL lz).take kk) HNQ.out (by rw [List.length_take, HND.out]; have := HKK.out; omega) (by have := HNQ.out; have := takeD_len (dirtyL lz) (y : Int); have := HDL.out; have := HL8.out; omega) (takeD_oks (dirty_oks HOK.out) _) (take_oks (dirty_oks HOK.out) _) (by rw [take_min, HND.out, HKK.out]) v9 HRQ.out ((rows_take HRD.out kk).below HV9.out)) ?_
      rintro e va ⟨rfl, hba⟩
      have HVA := Lib.hid (HV9.out.trans (hba.mono HV9.out.size))
      clear hba
      refine ⟨_, rfl, HVA.out, ?_⟩
      go_simp
      refine hK2 _ _ ?_
      clear hK2 K2
      refine walk_float rfl rfl (fun K hK => ?_)
      refine gives_not2 _ _ rfl true false rfl rfl ?_
      go_simp
      refine hK _ ?_
      clear hK K
      refine walk_float rfl rfl (fun K hK => ?_)
      refine gives_pickF _ _ _ rfl rfl _ rfl ?_
      go_simp
      refine hK _ ?_
      clear hK K
      refine walk_nil ?_
      have PC := Lib.hid ((PB.out.below HK.out HVA.out).mono (Y := fun j => Value.ownBlock (.slice pl nl cl) = some j) (fun j hj => .inl hj))
      have HRC := Lib.hid (HRO.out.keep (W' := va) (fun j hj => HVA.out.block j (PB.out.xlt j (show Value.ownBlock (.slice pl nl cl) = some j from by rw [hj]; rfl))))
      have HNL8 := Lib.hid (show nl ≤ 8 from by have := HNL.out; have := HL8.out; omega)
      clear PB OAB HRB HRD HND HCD RM HRM HNM HV0 HRO HKK HKD HV8 HV9 HRQ HNQ HVA HDL HOK HL8 HNL
      go_wp2
      generalize va = vz at *
      go_loopw [153] (fun v153 wy => ∃ i : Nat, i ≤ nl ∧ v153 = .int .i64 i ∧ PSt At w wy B RB q lz lz (k + 1) (fun j => Value.ownBlock (.slice pl nl cl) = some j) ∧ RoomL wy pl nl) (fun v153 _ => nl - (intOf v153).toNat)
      case atStart => exact ⟨0, Nat.zero_le _, rfl, PC.out, HRC.out⟩
      case round =>
        obtain ⟨i, hi, rfl, hpc, hrc⟩ := hrel
        have PD := Lib.hid hpc
        have HRX := Lib.hid hrc
        clear hpc hrc PC HRC
        by_cases hlt : i < nl
        · rcases HRX.out with e0 | ⟨LB, rfl, hlb⟩
          · omega
          have HIL := Lib.hid hlt
          have f8 : (i : Int) < (nl : Int) := by omega
          have g8 : IntKind.i64.wrap ((i : Int) + 1) = ((i + 1 : Nat) : Int) := by have := HNL8.out; rw [IntWalk.i64_in _ (by omega)]; omega
          have HTH := Lib.hid (hlb.there hlt)
          have PE := Lib.hid (PD.out.wrote HK.out (Y := fun j => j = LB) (W' := wr.setCells LB (131 * i) (lineC noLine)) (keeps_setCells LB _ _ wr) (fun j hj => by rw [hj]; rfl) (fun j hj => WLA.out j (by rw [hj]; rfl)))
          have HRE := Lib.hid (show RoomL (wr.setCells LB (131 * i) (lineC noLine)) (some ⟨LB, 0, none⟩) nl from .inr ⟨LB, rfl, hlb.setCells _ _⟩)
          clear hlb hlt hi
          go_wp2_with (first
            | (refine wpList_line_build0 rfl rfl ?_)
            | (refine wpList_line_elem0 rfl _ _ rfl LB nl cl i rfl rfl HIL.out ?_)
            | (refine wpList_line_put rfl _ _ rfl rfl LB (131 * i) rfl noLine rfl HTH.out ?_))
          go_roundw
          case rel => exact ⟨i + 1, HIL.out, by go_num, PE.out, HRE.out⟩
          case measure => have := HIL.out; simp [intOf]; omega
        · have f8 : ¬ (i : Int) < (nl : Int) := by omega
          obtain rfl : i = nl := by omega
          have PF := Lib.hid (PD.out.mono (Y := fun _ => False) (fun j hj => hj.elim))
          clear hlt hi PD
          go_wp2
          go_roundw
          case rel => exact ⟨k + 1, HLT.out, by go_num, _, PF.out⟩
          case measure => have := HLT.out; simp [intOf]; omega

    · have f9 : ¬ (k : Int) < (n : Int) := by omega
      obtain rfl : k = n := by omega
      have HLO := Lib.hid P.out.low
      clear hlt hk P
      go_wp2
      go_ret
      exact ⟨rfl, HLO.out⟩
theorem laidOut : laidOutB Try.prog = true := by kernel_rfl
set_option maxRecDepth 100000 in
theorem lifted (os : Os) (started : os.Started) (H : Type) (enc : TypeId × Value → H) :
    ReturnsInHanded {} Try.checked os 3 .any (Rows.cachePlaysSpec.pre6 enc Try.prog Try.f3 Rows.cachePlaysRow.domain false) (Rows.cachePlaysSpec.post enc Try.prog Try.f3 false true false false) := by
  refine returnsInHanded_of_change (C := Try.checked) own started (by kernel_rfl) Try.func3
    (ChangeSpec.witness6 (enc := enc) (C := Try.checked) false ⟨#[], #[.int .i64 0, .slice none 0 0, .int .i64 0], []⟩ 8 (by kernel_rfl) (by kernel_rfl) (by kernel_rfl) (by kernel_rfl)) ?_
  intro W base args ds gs before hval0 hW hcnd _
  have hval : ∀ (j : Nat) t v, Try.f3.params[j]? = some t → args[j]? = some v → Value.okWide Try.prog W .any base t v := hval0
  have hW' := hW
  obtain ⟨p, q, hA0, hV, rfl, hfz, hnd⟩ := hW
  have hA : DataW.TrodAll enc Try.prog W 0 (fun _ => true) true Try.f3.params.toList args.toList ds p := hA0
  rw [Try.params3] at hA hval
  obtain ⟨v0, vs0, d0, ds0, p0, q0, hargs, rfl, rfl, h0, r0⟩ := trodAll_cons hA
  obtain ⟨v1, vs1, d1, ds1, p1, q1, rfl, rfl, rfl, h1, r1⟩ := trodAll_cons r0
  obtain ⟨v2, vs2, d2, ds2, p2, q2, rfl, rfl, rfl, h2, r2⟩ := trodAll_cons r1
  obtain ⟨rfl, rfl, rfl⟩ := trodAll_nil r2
  obtain rfl : args = #[v0, v1, v2] := by cases args; simp_all
  obtain ⟨rfl, rfl⟩ := trodVars_none hV
  obtain ⟨a0, rfl, rfl, rfl, w0⟩ := open_int Try.underlying3 (hval 0 3 v0 rfl rfl) h0
  have k1 := h1
  have lt1 : ∀ x ∈ p1, x.block < W.heap.size := by obtain ⟨m, hm⟩ := k1; exact DataW.trod_lt m _ _ _ hm
  obtain ⟨q1, l1, c1, rfl, w1, y1, -⟩ := open_ops (hval 1 22 v1 rfl rfl) h1
  obtain ⟨a2, rfl, rfl, rfl, w2⟩ := open_int Try.underlying3 (hval 2 3 v2 rfl rfl) h2
  clear hA0 hval0
  refine (walk cacheSpec a0 q1 l1 c1 a2 w1 (bounds_i64 w2) W y1).mono fun e W' ⟨he, bel⟩ => ?_
  subst he
  exact ⟨_, rfl, _, _, _, [], _, [], hW', trodAll_mk1 (shut_bool Try.underlying4 _), (trodAll_cons_mk (shut_int Try.underlying3 w0) (trodAll_cons_mk (Below.trod laidOut (by kernel_rfl) (of_decide_eq_true (by kernel_rfl)) k1 bel lt1) (trodAll_cons_mk (shut_int Try.underlying3 w2) trodAll_mk0))), rfl, bel.frame _, fun h => by cases h⟩

theorem over : Rows.cachePlaysRow.holds Try.pinned (OpenSpec.ofChange Rows.cachePlaysSpec) :=
  OpenClaim.holds_of_wide 3 Try.f3 rfl rfl rfl rfl rfl rfl rfl ⟨rfl, rfl, rfl, rfl, rfl⟩ rfl rfl rfl rfl rfl (by kernel_rfl) Try.func3 (by kernel_rfl)
    (of_decide_eq_true (by kernel_rfl)) (by unfold Func.isWrapper; first | (rw [if_pos (by decide +kernel)]; kernel_rfl) | (rw [if_neg (by decide +kernel)]; exact ⟨rfl, rfl⟩))
    (fun os started H enc _ => lifted os started H enc)

theorem proved : Rows.CachePlaysSaid := over
end Go.Proofs.Ytlaclakndleonaa.cachePlays
