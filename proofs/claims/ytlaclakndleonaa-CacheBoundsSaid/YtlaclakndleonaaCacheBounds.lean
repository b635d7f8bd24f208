/- CacheBounds: under any calls, for every quota and script. Condition: none but the arguments' own forms; package cache by cacheSpec. -/
import Derived.Test.YtlaclakndleonaaCmSpec
import Derived.Test.YtlaclakndleonaaCaBd
namespace Go.Proofs.Ytlaclakndleonaa
open Go.ChangeShapes Go.WideShapes Go.ChangeAt Go.RowKit
namespace cacheBounds
set_option linter.unusedVariables false
theorem own : ownKnob Try.prog.godebug = none := by kernel_rfl
attribute [local irreducible] Go.Proofs.Ytlaclakndleonaa.mk lineC oneB findL getL gotL putS putN cleanedL dropL dirtyL takeD lineAt cellV pk putF cntF cntN
theorem lt400 {n : Nat} (h : ¬ 400 < n) : n ≤ 400 := by omega
set_option maxRecDepth 100000 in
set_option maxHeartbeats 8000000 in
theorem walk {At : AtT} (K : CacheSpec At) (q : Int) (q0 : Option Addr) (L : List OpOf) (c0 : Nat) (hL : ∀ c ∈ L, c.ok) (w : World) (y0 : OpsAt w q0 L) : Calls Try.prog 4 #[.int .i64 q, .slice q0 L.length c0] w fun e w' => e = .returned (.bool true) ∧ Below w.heap.size w w' := by
  have HK := Lib.hid K
  have HL := Lib.hid hL
  have Y0 := Lib.hid y0
  clear hL y0
  generalize hn : L.length = n at *
  have HN := Lib.hid hn
  clear hn
  by_cases h400 : 400 < n
  · have f1 : decide ((400 : Int) < (n : Int)) = true := by simp; omega
    have f2 : (400 : Int) < (n : Int) := by omega
    have f3 : decide (400 < n) = true := by simp; omega
    go_enter Try.func4, Try.ntmps4
    go_wp2_with (first
      | (go_at_call 8; refine (alive_ok HK.out w).mono ?_; rintro e w2 ⟨rfl, hb2⟩))
    go_ret
    exact ⟨rfl, hb2⟩
  have H4 := Lib.hid (lt400 h400)
  have f1 : decide ((400 : Int) < (n : Int)) = false := by simp; omega
  have f2 : ¬ (400 : Int) < (n : Int) := by omega
  have f3 : decide (400 < n) = false := by simp; omega
  clear h400
  by_cases hq1 : q < 1
  · have d1 : decide (q < 1) = true := by simp [hq1]
    go_enter Try.func4, Try.ntmps4
    go_wp2_with (first
      | (go_at_call 8; refine (alive_ok HK.out w).mono ?_; rintro e w2 ⟨rfl, hb2⟩))
    go_ret
    exact ⟨rfl, hb2⟩
  by_cases hq8 : 8 < q
  · have d1 : decide (q < 1) = false := by simp; omega
    have d2 : decide (8 < q) = true := by simp [hq8]
    go_enter Try.func4, Try.ntmps4
    go_wp2_with (first
      | (go_at_call 8; refine (alive_ok HK.out w).mono ?_; rintro e w2 ⟨rfl, hb2⟩))
    go_ret
    exact ⟨rfl, hb2⟩
  have d1 : decide (q < 1) = false := by simp; omega
  have d2 : decide (8 < q) = false := by simp; omega
  have HQ := Lib.hid (show 1 ≤ q ∧ q ≤ 8 from by omega)
  clear hq1 hq8
  go_enter Try.func4, Try.ntmps4
  go_wp2_with (first
    | (go_at_call 8; refine (alive_ok HK.out w).mono ?_; rintro e w2 ⟨rfl, hb2⟩; have B2 := Lib.hid hb2; clear hb2)
    | (go_at_call 9; refine (CaS.new HK.out q HQ.out.1 HQ.out.2 B2.out).mono ?_; rintro e w3 ⟨B, rfl, h3⟩; have Q3 := Lib.hid (QSt.of (X := fun _ => False) h3 (fun _ h => h)); clear h3 B2))
  go_loopw [38] (fun v38 wr => ∃ k : Nat, k ≤ n ∧ v38 = .int .i64 k ∧ ∃ ls t, t ≤ k ∧ QSt At w wr B q ls t (fun _ => False)) (fun v38 _ => n - (intOf v38).toNat)
  case atStart => exact ⟨0, Nat.zero_le _, rfl, [], 0, Nat.le_refl _, Q3.out⟩
  case round =>
    obtain ⟨k, hk, rfl, ls, t, ht, hp⟩ := hrel
    have P := Lib.hid hp
    clear hp Q3
    by_cases hlt : k < n
    · obtain ⟨OB, oo, c, rfl, hB, hrg, hc⟩ := rows_op Y0.out (show k < L.length from by rw [HN.out]; exact hlt)
      have HC := Lib.hid (HL.out c hc)
      have HRC := Lib.hid (rangeAt_below hrg P.out.low hB)
      have HLT := Lib.hid hlt
      have HTT := Lib.hid ht
      have HTK := Lib.hid (show t ≤ 100000 from by have := H4.out; omega)
      have f9 : (k : Int) < (n : Int) := by omega
      have g3 : IntKind.i64.wrap ((k : Int) + 1) = ((k + 1 : Nat) : Int) := by have := H4.out; rw [IntWalk.i64_in _ (by omega)]; omega
      have OL := Lib.hid (op_laid wr c)
      have G0 := Lib.hid (P.out.good HK.out)
      have HTA := Lib.hid (take_all (P.out.good HK.out))
      have HWR := Lib.hid (show w.heap.size ≤ wr.heap.size from P.out.low.size)
      have HMT := Lib.hid Try.underlying54
      clear hrg hB hc hlt hk ht
      by_cases hk0 : c.kind = 0
      · have HKD := Lib.hid hk0
        clear hk0
        have HEX := Lib.hid (show ∀ l ∈ dirtyL ls, ∃ x ∈ dirtyL (getL ls c.u c.b), x.is l.u l.b = true from fun l hl => ⟨l, mem_dirty.2 ⟨get_holds c.u c.b (mem_dirty.1 hl).1, (mem_dirty.1 hl).2⟩, by rw [LineOf.is_iff]; exact ⟨rfl, rfl⟩⟩)
        go_wp2_with (first
          | (refine wpList_op_elem rfl _ _ rfl OB oo n c0 k rfl rfl HLT.out ?_)
          | (refine wpList_op_load rfl _ rfl OB (oo + 5 * k) rfl c HRC.out ?_)
          | (refine wpList_op_alloc rfl rfl wr.heap.size rfl ?_)
          | (refine store_row_on rfl 38 _ _ rfl rfl wr.heap.size c.cells.toArray rfl rfl 38 opZ.cells.toArray (heap_alloc_new _ _) (opA_size c) rfl (opA_one c) ?_
             have BX := Lib.hid OL.out.1
             have P1 := Lib.hid (P.out.below HK.out OL.out.2.1)
             have Z1 := Lib.hid OL.out.2.2
             clear OL P HRC
             generalize hOO : wr.heap.size = O at *
             generalize (wr.alloc (.cells opZ.cells.toArray 38)).setRow O c.cells.toArray = u1 at *
             have P2 := Lib.hid (P1.out.mono (Y := fun i => i = O) (fun i hi => .inr (by have := Z1.out; omega)))
             have HU1 := Lib.hid (show w.heap.size ≤ u1.heap.size from P2.out.low.size)
             clear P1 Z1 hOO)
          | (go_at_call 25; refine (P2.out.cas.dirty HK.out 99).mono ?_; rw [HTA.out]; rintro e w5 ⟨vw, rfl, how, -, hb5⟩
             obtain ⟨pw, cw, hvw, -, -, hrw, hpw⟩ := how.rows elemLine.len
             have P5 := Lib.hid ((P2.out.below HK.out hb5).mono (Y := fun j => j = O ∨ AtP pw j) (fun j hj => by
               rcases hj with e | ⟨o, e⟩
               · exact .inl e
               · exact .inr ⟨(hpw j o e).1, (hpw j o e).2.1⟩))
             have BX5 := Lib.hid (BX.out.below hb5 BX.out.lt)
             have RW5 := Lib.hid hrw
             generalize hnw : List.length _ = nw at hvw
             have HNW := Lib.hid hnw
             subst hvw
             clear how hb5 hrw hpw P2 BX HTA hnw
             have k0 := BX5.out.cell 0
             have k1 := BX5.out.cell 1
             have k2 := BX5.out.cell 2
             simp only [OpOf.cells, List.getElem?_cons_succ, List.getElem?_cons_zero] at k0 k1 k2
             rw [HKD.out] at k0
             skip)
          | (go_at_call 12; refine (P5.out.get HK.out c.u c.b HC.out.u HC.out.b HTK.out).mono ?_; rintro e w6 ⟨rfl, hp6, hf6⟩
             have P6 := Lib.hid hp6
             have BX6 := Lib.hid (show OpBox w6 O c from (hf6.2 O (.inl rfl)).trans BX5.out)
             have RW6 := Lib.hid (rows_fr RW5.out (hf6.mono fun j hj => .inr hj))
             clear hp6 hf6 P5 BX5 RW5 k0 k1 k2
             have k0 := BX6.out.cell 0
             have k1 := BX6.out.cell 1
             have k2 := BX6.out.cell 2
             simp only [OpOf.cells, List.getElem?_cons_succ, List.getElem?_cons_zero] at k0 k1 k2
             rw [HKD.out] at k0)
          | (go_at_call 22; refine (P6.out.lines HK.out).mono ?_; rintro e w7 ⟨v7, rfl, ho7, hb7⟩
             have G6 := Lib.hid (P6.out.good HK.out)
             have P7 := Lib.hid ((P6.out.below HK.out hb7).mono (Y := fun j => j = O ∨ AtP pw j) (fun j hj => .inl hj))
             have BX7 := Lib.hid (BX6.out.below hb7 BX6.out.lt)
             have RW7 := Lib.hid (RW6.out.below hb7)
             obtain ⟨p7, c7, hv7, -, -, -, -⟩ := ho7.rows elemLine.len
             generalize hn7 : List.length _ = n7 at hv7
             subst hv7
             have f7 : ¬ q < (n7 : Int) := by have := G6.out.few; rw [← hn7]; omega
             have d7 : decide (q < (n7 : Int)) = false := by simp; omega
             clear ho7 hb7 hn7 P6 BX6 RW6 k0 k1 k2
             have k0 := BX7.out.cell 0
             simp only [OpOf.cells, List.getElem?_cons_zero] at k0
             rw [HKD.out] at k0
             clear BX7)
          | (refine wpList_map_made rfl rfl HMT.out ?_
             have HTB := Lib.hid (take_all G6.out)
             have P8 := Lib.hid ((P7.out.below HK.out ((Below.refl w7.heap.size w7).alloc (Nat.le_refl _) (.map #[] 0))).mono (Y := fun j => j = w7.heap.size ∨ AtP pw j) (fun j hj => by
               rcases hj with e | e
               · exact .inr ⟨by rw [e]; exact Nat.le_refl _, by rw [e, World.size_alloc]; omega⟩
               · exact .inl (.inr e)))
             have M8 := Lib.hid (MapF.made w7 (.int .i64 0))
             have HPM := Lib.hid (show ∀ j, AtP pw j → ¬ j = w7.heap.size from fun j hj e => by have := P7.out.xlt j (.inr hj); omega)
             have RW8 := Lib.hid (RW7.out.below ((Below.refl w7.heap.size w7).alloc (Nat.le_refl _) (.map #[] 0)))
             have S8 := Lib.hid (show w7.heap.size < (w7.alloc (.map #[] 0)).heap.size from by rw [World.size_alloc]; omega)
             have HMW := Lib.hid (show w.heap.size ≤ w7.heap.size from P7.out.low.size)
             clear P7 RW7 k0
             generalize w7.heap.size = MB at *
             generalize w7.alloc (.map #[] 0) = w8 at *)
          | (go_at_call 25; refine (P8.out.cas.dirty HK.out 99).mono ?_; rw [HTB.out]; rintro e w9 ⟨vd, rfl, hod, -, hb9⟩
             obtain ⟨pd, cd, hvd, -, -, hrd, hpd⟩ := hod.rows elemLine.len
             have P9 := Lib.hid ((P8.out.below HK.out hb9).mono (Y := fun j => j = MB ∨ AtP pw j) (fun j hj => .inl hj))
             have M9 := Lib.hid (M8.out.keep (hb9.block MB M8.out.lt))
             have RW9 := Lib.hid (RW8.out.below hb9)
             have RD9 := Lib.hid hrd
             have HPD := Lib.hid (show ∀ j, AtP pd j → ¬ j = MB from fun j ⟨o, hj⟩ e => by have := (hpd j o hj).1; have := S8.out; omega)
             generalize hnd : List.length _ = nd at hvd
             have HND := Lib.hid hnd
             subst hvd
             clear hod hb9 hrd hpd P8 M8 RW8 HTB S8 hnd))
        have HN8 := Lib.hid (show nd ≤ 8 from by have := G6.out.few; have := G6.out.high; have := dirtyL_len (getL ls c.u c.b); have := HND.out; omega)
        have HW8 := Lib.hid (show nw ≤ 8 from by have := G0.out.few; have := G0.out.high; have := dirtyL_len ls; have := HNW.out; omega)
        have HOK := Lib.hid (dirty_oks G6.out.ok)
        have HOW := Lib.hid (dirty_oks G0.out.ok)
        have HONE := Lib.hid (show ∀ l ∈ dirtyL ls, cntF (dirtyL (getL ls c.u c.b)) nd l.u l.b = .int .i64 1 from fun l hl => by rw [← HND.out]; exact cntF_one (count_dirty G6.out (HEX.out l hl)))
        go_loopw [93] (fun v93 wr2 => ∃ i : Nat, i ≤ nd ∧ v93 = .int .i64 i ∧ MapF wr2 MB i (.int .i64 0) (cntF (dirtyL (getL ls c.u c.b)) i) ∧ Keeps (fun j => j = MB) w9 wr2) (fun v93 _ => nd - (intOf v93).toNat)
        case atStart => exact ⟨0, Nat.zero_le _, rfl, by rw [cntF_zero]; exact M9.out, Keeps.refl _ _⟩
        case round =>
          obtain ⟨i, hi, rfl, hm, hk⟩ := hrel
          have MI := Lib.hid hm
          have KI := Lib.hid hk
          clear hm hk M9
          by_cases hlt : i < nd
          · have HIL := Lib.hid hlt
            have hlD : i < List.length (dirtyL (getL ls c.u c.b)) := by rw [HND.out]; exact hlt
            obtain ⟨LB, lo, rfl, hLB, hrg⟩ := line_rows (rows_keeps RD9.out KI.out HPD.out) hlD
            have HRK := Lib.hid hrg
            have HNX := Lib.hid (cntF_next hlD)
            have HLO := Lib.hid (HOK.out _ (lineAt_mem hlD))
            have HCL := Lib.hid (cntN_le (dirtyL (getL ls c.u c.b)) i (lineAt (dirtyL (getL ls c.u c.b)) i).u (lineAt (dirtyL (getL ls c.u c.b)) i).b)
            have HIM := Lib.hid (show i < maxLen from by have := HN8.out; unfold maxLen; omega)
            have f8 : (i : Int) < (nd : Int) := by omega
            have g8 : IntKind.i64.wrap ((i : Int) + 1) = ((i + 1 : Nat) : Int) := by have := HN8.out; rw [IntWalk.i64_in _ (by omega)]; omega
            obtain ⟨cn, hcn⟩ : ∃ x, cntN (dirtyL (getL ls c.u c.b)) i (lineAt (dirtyL (getL ls c.u c.b)) i).u (lineAt (dirtyL (getL ls c.u c.b)) i).b = x := ⟨_, rfl⟩
            have HCF := Lib.hid (show cntF (dirtyL (getL ls c.u c.b)) i (lineAt (dirtyL (getL ls c.u c.b)) i).u (lineAt (dirtyL (getL ls c.u c.b)) i).b = .int .i64 (cn : Int) from by rw [← hcn]; exact cntF_is _ _ _ _)
            have HSM := Lib.hid (show IntKind.i64.wrap ((cn : Int) + 1) = ((cn + 1 : Nat) : Int) from by have := HCL.out; have := HN8.out; have := HND.out; rw [IntWalk.i64_in _ (by omega)]; omega)
            rw [hcn] at HNX
            have BLL := Lib.hid (box_laid wr (lineAt (dirtyL (getL ls c.u c.b)) i))
            clear hlt hi hLB hrg hlD hcn HCL
            generalize lineAt (dirtyL (getL ls c.u c.b)) i = l at *
            go_wp2_with (first
              | (refine wpList_line_elem rfl _ _ rfl LB lo nd cd i rfl rfl HIL.out ?_)
              | (refine wpList_line_load rfl _ rfl LB (lo + 131 * i) rfl l HRK.out ?_)
              | (refine wpList_line_alloc rfl rfl wr.heap.size rfl ?_)
              | (refine store_row_on rfl 42 _ _ rfl rfl wr.heap.size (lineC l).toArray rfl rfl 42 (lineC noLine).toArray (heap_alloc_new _ _) (lineA_size _) (lineA_same _ _) (lineA_one _) ?_
                 have XL := Lib.hid BLL.out.1
                 have MJ := Lib.hid (MI.out.keep (BLL.out.2.1.block MB MI.out.lt))
                 have KJ := Lib.hid (KI.out.trans (Keeps.of BLL.out.2.1))
                 have HLM := Lib.hid (show ¬ wr.heap.size = MB from by have := MI.out.lt; omega)
                 clear BLL MI KI HRK
                 generalize wr.heap.size = OL at *
                 generalize (wr.alloc (.cells (lineC noLine).toArray 42)).setRow OL (lineC l).toArray = wj at *))
            have MD := Lib.hid (show MapF wj.drew MB i (.int .i64 0) (cntF (dirtyL (getL ls c.u c.b)) i) from MJ.out.keep rfl)
            have XD := Lib.hid (show LineBox wj.drew OL l from XL.out)
            have KD := Lib.hid (KJ.out.drew)
            clear MJ XL KJ
            refine wp_region_tree (.float 0 (.float 1 (.float 2 (.float 3 (.float 4 (.float 5 (.two 6 (.float 7 (.one 8 (.float 9 (.one 10 .over)))) 8 (.float 9 (.one 6 (.float 7 (.one 10 .over))))))))))) (fun V => LineBox V OL l) (by kernel_rfl) (by kernel_rfl) XD.out ?_
            refine tree_float rfl rfl (fun K hK => ?_)
            refine gives_move _ rfl ?_
            go_simp
            refine hK _ ?_
            clear hK K
            refine tree_float rfl rfl (fun K hK => ?_)
            refine gives_line_field _ 0 0 (by simp) rfl OL rfl ?_
            go_simp
            refine hK _ ?_
            clear hK K
            refine tree_float rfl rfl (fun K hK => ?_)
            refine gives_cell 3 _ rfl ⟨OL, 0, none⟩ (.int .i64 l.u) rfl box_int (fun V hV => (LineBox.cell hV 0).trans (lineC_0 l)) ?_
            go_simp
            refine hK _ ?_
            clear hK K
            refine tree_float rfl rfl (fun K hK => ?_)
            refine gives_line_field _ 1 1 (by simp) rfl OL rfl ?_
            go_simp
            refine hK _ ?_
            clear hK K
            refine tree_float rfl rfl (fun K hK => ?_)
            refine gives_cell 3 _ rfl ⟨OL, 1, none⟩ (.int .i64 l.b) rfl box_int (fun V hV => (LineBox.cell hV 1).trans (lineC_1 l)) ?_
            go_simp
            refine hK _ ?_
            clear hK K
            refine tree_float rfl rfl (fun K hK => ?_)
            refine gives_pair _ _ rfl l.u l.b rfl rfl ?_
            go_simp
            refine hK _ ?_
            clear hK K
            refine tree_two ?_ ?_
            · refine tree_one rfl rfl (fun K hK => ?_)
              refine done_map_look HMT.out intZero _ _ rfl l.u l.b rfl rfl HLO.out.2.1 HLO.out.2.2 MD.out ?_
              rw [HCF.out]
              refine ⟨XD.out, ?_⟩
              go_simp
              refine hK _ _ ?_
              clear hK K
              refine tree_float rfl rfl (fun K hK => ?_)
              refine gives_int_sum _ _ rfl (cn : Int) 1 ((cn + 1 : Nat) : Int) rfl rfl HSM.out ?_
              go_simp
              refine hK _ ?_
              clear hK K
              refine tree_one rfl rfl (fun K hK => ?_)
              refine done_map_entry HMT.out intZero _ _ rfl l.u l.b rfl rfl HLO.out.2.1 HLO.out.2.2 HIM.out MD.out ?_
              intro v0 st W1 hm1 hk1 hst
              obtain ⟨W2, hr2, hm2, hk2⟩ := hst (.int .i64 ((cn + 1 : Nat) : Int))
              have X1 := Lib.hid (show LineBox W1 OL l from (hk1.block OL XD.out.lt HLM.out).trans XD.out)
              have M1 := Lib.hid hm1
              clear hst hm1
              refine ⟨X1.out, ?_⟩
              go_simp
              refine hK _ _ ?_
              clear hK K
              refine tree_float rfl rfl (fun K hK => ?_)
              refine gives_second _ rfl v0 (.int .i64 st) rfl ?_
              go_simp
              refine hK _ ?_
              clear hK K
              refine tree_one rfl rfl (fun K hK => ?_)
              refine done_entry_store _ _ _ rfl st (.int .i64 ((cn + 1 : Nat) : Int)) rfl rfl rfl W2 hr2 ?_
              refine ⟨(hk2.block OL X1.out.lt HLM.out).trans X1.out, ?_⟩
              go_simp
              refine hK _ _ ?_
              clear hK K
              refine tree_over ?_
              have HM2 := Lib.hid (show MapF W2 MB (i + 1) (.int .i64 0) (cntF (dirtyL (getL ls c.u c.b)) (i + 1)) from by rw [← HNX.out]; exact hm2)
              have HK2 := Lib.hid ((KD.out.trans hk1).trans hk2)
              clear hm2 hk2 hk1 hr2 MD XD KD
              go_wp2
              go_roundw
              case rel => exact ⟨i + 1, HIL.out, by go_num, HM2.out, HK2.out⟩
              case measure => have := HIL.out; simp [intOf]; omega
            · refine tree_one rfl rfl (fun K hK => ?_)
              refine done_map_entry HMT.out intZero _ _ rfl l.u l.b rfl rfl HLO.out.2.1 HLO.out.2.2 HIM.out MD.out ?_
              intro v0 st W1 hm1 hk1 hst
              obtain ⟨W2, hr2, hm2, hk2⟩ := hst (.int .i64 ((cn + 1 : Nat) : Int))
              have X1 := Lib.hid (show LineBox W1 OL l from (hk1.block OL XD.out.lt HLM.out).trans XD.out)
              have M1 := Lib.hid hm1
              clear hst hm1
              refine ⟨X1.out, ?_⟩
              go_simp
              refine hK _ _ ?_
              clear hK K
              refine tree_float rfl rfl (fun K hK => ?_)
              refine gives_second _ rfl v0 (.int .i64 st) rfl ?_
              go_simp
              refine hK _ ?_
              clear hK K
              refine tree_one rfl rfl (fun K hK => ?_)
              refine done_map_look HMT.out intZero _ _ rfl l.u l.b rfl rfl HLO.out.2.1 HLO.out.2.2 M1.out ?_
              rw [HCF.out]
              refine ⟨X1.out, ?_⟩
              go_simp
              refine hK _ _ ?_
              clear hK K
              refine tree_float rfl rfl (fun K hK => ?_)
              refine gives_int_sum _ _ rfl (cn : Int) 1 ((cn + 1 : Nat) : Int) rfl rfl HSM.out ?_
              go_simp
              refine hK _ ?_
              clear hK K
              refine tree_one rfl rfl (fun K hK => ?_)
              refine done_entry_store _ _ _ rfl st (.int .i64 ((cn + 1 : Nat) : Int)) rfl rfl rfl W2 hr2 ?_
              refine ⟨(hk2.block OL X1.out.lt HLM.out).trans X1.out, ?_⟩
              go_simp
              refine hK _ _ ?_
              clear hK K
              refine tree_over ?_
              have HM2 := Lib.hid (show MapF W2 MB (i + 1) (.int .i64 0) (cntF (dirtyL (getL ls c.u c.b)) (i + 1)) from by rw [← HNX.out]; exact hm2)
              have HK2 := Lib.hid ((KD.out.trans hk1).trans hk2)
              clear hm2 hk2 hk1 hr2 MD XD KD
              go_wp2
              go_roundw
              case rel => exact ⟨i + 1, HIL.out, by go_num, HM2.out, HK2.out⟩
              case measure => have := HIL.out; simp [intOf]; omega
          · have f8 : ¬ (i : Int) < (nd : Int) := by omega
            obtain rfl : i = nd := by omega
            have PA := Lib.hid (P9.out.wrote HK.out KI.out (fun j hj => .inl hj) (fun j hj => by rw [hj]; exact HMW.out))
            have RWA := Lib.hid (rows_keeps RW9.out KI.out HPM.out)
            clear hlt hi P9 RW9 KI RD9 HPD
            generalize wr = wz at *
            go_wp2
            go_loopw [110] (fun v110 wy => ∃ z : Nat, z ≤ nw ∧ v110 = .int .i64 z ∧ Below wz.heap.size wz wy) (fun v110 _ => nw - (intOf v110).toNat)
            case atStart => exact ⟨0, Nat.zero_le _, rfl, Below.refl _ _⟩
            case round =>
              obtain ⟨z, hz, rfl, hb⟩ := hrel
              have BY := Lib.hid hb
              clear hb
              by_cases hlt : z < nw
              · have HIL := Lib.hid hlt
                have hlD : z < List.length (dirtyL ls) := by rw [HNW.out]; exact hlt
                obtain ⟨LB, lo, rfl, hLB, hrg⟩ := line_rows (RWA.out.below BY.out) hlD
                have HRK := Lib.hid hrg
                have HLO := Lib.hid (HOW.out _ (lineAt_mem hlD))
                have HLN := Lib.hid (HONE.out _ (lineAt_mem hlD))
                have f8 : (z : Int) < (nw : Int) := by omega
                have g8 : IntKind.i64.wrap ((z : Int) + 1) = ((z + 1 : Nat) : Int) := by have := HW8.out; rw [IntWalk.i64_in _ (by omega)]; omega
                have BLL := Lib.hid (box_laid wr (lineAt (dirtyL ls) z))
                clear hlt hz hLB hrg hlD
                generalize lineAt (dirtyL ls) z = l at *
                go_wp2_with (first
                  | (refine wpList_line_elem rfl _ _ rfl LB lo nw cw z rfl rfl HIL.out ?_)
                  | (refine wpList_line_load rfl _ rfl LB (lo + 131 * z) rfl l HRK.out ?_)
                  | (refine wpList_line_alloc rfl rfl wr.heap.size rfl ?_)
                  | (refine store_row_on rfl 42 _ _ rfl rfl wr.heap.size (lineC l).toArray rfl rfl 42 (lineC noLine).toArray (heap_alloc_new _ _) (lineA_size _) (lineA_same _ _) (lineA_one _) ?_
                     have j0 := (BLL.out.1.cell 0).trans (lineC_0 l)
                     have j1 := (BLL.out.1.cell 1).trans (lineC_1 l)
                     have BZ := Lib.hid (BY.out.trans (BLL.out.2.1.mono BY.out.size))
                     have MZ := Lib.hid (MI.out.keep (BZ.out.block MB MI.out.lt))
                     clear BLL BY HRK
                     generalize wr.heap.size = OL at *
                     generalize (wr.alloc (.cells (lineC noLine).toArray 42)).setRow OL (lineC l).toArray = wj at *)
                  | (refine wpList_pair rfl _ _ rfl l.u l.b rfl rfl ?_; go_simp)
                  | (refine wpList_map_look rfl HMT.out intZero _ _ rfl l.u l.b rfl rfl HLO.out.2.1 HLO.out.2.2 MZ.out ?_
                     rw [HLN.out]
                     go_simp))
                go_roundw
                case rel => exact ⟨z + 1, HIL.out, by go_num, BZ.out⟩
                case measure => have := HIL.out; simp [intOf]; omega
              · have f8 : ¬ (z : Int) < (nw : Int) := by omega
                obtain rfl : z = nw := by omega
                have PX := Lib.hid ((PA.out.below HK.out BY.out).mono (Y := fun _ => False) (fun j hj => hj.elim))
                clear hlt hz PA
                go_wp2
                go_roundw
                case rel => exact ⟨k + 1, HLT.out, by go_num, (getL ls c.u c.b), t + 1, by have := HTT.out; omega, PX.out⟩
                case measure => have := HLT.out; simp [intOf]; omega

      by_cases hk1 : c.kind = 1
      · have HKD := Lib.hid hk1
        clear hk0 hk1
        have HEX := Lib.hid (show ∀ l ∈ dirtyL ls, ∃ x ∈ dirtyL (putS q ls c.line), x.is l.u l.b = true from fun l hl => put_holds c.line hl)
        by_cases hp0 : putN q ls c.line = 0
        · have HP0 := Lib.hid hp0
          clear hp0
          go_wp2_with (first
            | (refine wpList_op_elem rfl _ _ rfl OB oo n c0 k rfl rfl HLT.out ?_)
            | (refine wpList_op_load rfl _ rfl OB (oo + 5 * k) rfl c HRC.out ?_)
            | (refine wpList_op_alloc rfl rfl wr.heap.size rfl ?_)
            | (refine store_row_on rfl 38 _ _ rfl rfl wr.heap.size c.cells.toArray rfl rfl 38 opZ.cells.toArray (heap_alloc_new _ _) (opA_size c) rfl (opA_one c) ?_
               have BX := Lib.hid OL.out.1
               have P1 := Lib.hid (P.out.below HK.out OL.out.2.1)
               have Z1 := Lib.hid OL.out.2.2
               clear OL P HRC
               generalize hOO : wr.heap.size = O at *
               generalize (wr.alloc (.cells opZ.cells.toArray 38)).setRow O c.cells.toArray = u1 at *
               have P2 := Lib.hid (P1.out.mono (Y := fun i => i = O) (fun i hi => .inr (by have := Z1.out; omega)))
               have HU1 := Lib.hid (show w.heap.size ≤ u1.heap.size from P2.out.low.size)
               clear P1 Z1 hOO)
            | (go_at_call 25; refine (P2.out.cas.dirty HK.out 99).mono ?_; rw [HTA.out]; rintro e w5 ⟨vw, rfl, how, -, hb5⟩
               obtain ⟨pw, cw, hvw, -, -, hrw, hpw⟩ := how.rows elemLine.len
               have P5 := Lib.hid ((P2.out.below HK.out hb5).mono (Y := fun j => j = O ∨ AtP pw j) (fun j hj => by
                 rcases hj with e | ⟨o, e⟩
                 · exact .inl e
                 · exact .inr ⟨(hpw j o e).1, (hpw j o e).2.1⟩))
               have BX5 := Lib.hid (BX.out.below hb5 BX.out.lt)
               have RW5 := Lib.hid hrw
               generalize hnw : List.length _ = nw at hvw
               have HNW := Lib.hid hnw
               subst hvw
               clear how hb5 hrw hpw P2 BX HTA hnw
               have k0 := BX5.out.cell 0
               have k1 := BX5.out.cell 1
               have k2 := BX5.out.cell 2
               simp only [OpOf.cells, List.getElem?_cons_succ, List.getElem?_cons_zero] at k0 k1 k2
               rw [HKD.out] at k0
               skip)
            | (refine wpList_op_load rfl _ rfl O 0 rfl c (BX5.out.range) ?_)
            | (go_at_call 16; refine (line_any c HC.out _).mono ?_; rintro e wl ⟨rfl, hbl⟩
               have PL := Lib.hid ((P5.out.below HK.out hbl).mono (Y := fun j => j = O ∨ AtP pw j) (fun i hi => .inl hi))
               have BXl := Lib.hid (BX5.out.below hbl BX5.out.lt)
               have RWl := Lib.hid (RW5.out.below hbl)
               clear hbl P5 BX5 RW5 k0 k1 k2)
            | (go_at_call 15; refine (PL.out.put HK.out c.line (OpOf.line_ok HC.out) HTK.out).mono ?_; rw [HP0.out, errN_zero]; rintro e w6 ⟨rfl, hp6, hf6⟩
               have P6 := Lib.hid hp6
               have BX6 := Lib.hid (show OpBox w6 O c from (hf6.2 O (.inl rfl)).trans BXl.out)
               have RW6 := Lib.hid (rows_fr RWl.out (hf6.mono fun j hj => .inr hj))
               clear hp6 hf6 PL BXl RWl
               have k0 := BX6.out.cell 0
               have k1 := BX6.out.cell 1
               have k2 := BX6.out.cell 2
               simp only [OpOf.cells, List.getElem?_cons_succ, List.getElem?_cons_zero] at k0 k1 k2
               rw [HKD.out] at k0)
            | (go_at_call 22; refine (P6.out.lines HK.out).mono ?_; rintro e w7 ⟨v7, rfl, ho7, hb7⟩
               have G6 := Lib.hid (P6.out.good HK.out)
               have P7 := Lib.hid ((P6.out.below HK.out hb7).mono (Y := fun j => j = O ∨ AtP pw j) (fun j hj => .inl hj))
               have BX7 := Lib.hid (BX6.out.below hb7 BX6.out.lt)
               have RW7 := Lib.hid (RW6.out.below hb7)
               obtain ⟨p7, c7, hv7, -, -, -, -⟩ := ho7.rows elemLine.len
               generalize hn7 : List.length _ = n7 at hv7
               subst hv7
               have f7 : ¬ q < (n7 : Int) := by have := G6.out.few; rw [← hn7]; omega
               have d7 : decide (q < (n7 : Int)) = false := by simp; omega
               clear ho7 hb7 hn7 P6 BX6 RW6 k0 k1 k2
               have k0 := BX7.out.cell 0
               simp only [OpOf.cells, List.getElem?_cons_zero] at k0
               rw [HKD.out] at k0
               clear BX7)
            | (refine wpList_map_made rfl rfl HMT.out ?_
               have HTB := Lib.hid (take_all G6.out)
               have P8 := Lib.hid ((P7.out.below HK.out ((Below.refl w7.heap.size w7).alloc (Nat.le_refl _) (.map #[] 0))).mono (Y := fun j => j = w7.heap.size ∨ AtP pw j) (fun j hj => by
                 rcases hj with e | e
                 · exact .inr ⟨by rw [e]; exact Nat.le_refl _, by rw [e, World.size_alloc]; omega⟩
                 · exact .inl (.inr e)))
               have M8 := Lib.hid (MapF.made w7 (.int .i64 0))
               have HPM := Lib.hid (show ∀ j, AtP pw j → ¬ j = w7.heap.size from fun j hj e => by have := P7.out.xlt j (.inr hj); omega)
               have RW8 := Lib.hid (RW7.out.below ((Below.refl w7.heap.size w7).alloc (Nat.le_refl _) (.map #[] 0)))
               have S8 := Lib.hid (show w7.heap.size < (w7.alloc (.map #[] 0)).heap.size from by rw [World.size_alloc]; omega)
               have HMW := Lib.hid (show w.heap.size ≤ w7.heap.size from P7.out.low.size)
               clear P7 RW7 k0
               generalize w7.heap.size = MB at *
               generalize w7.alloc (.map #[] 0) = w8 at *)
            | (go_at_call 25; refine (P8.out.cas.dirty HK.out 99).mono ?_; rw [HTB.out]; rintro e w9 ⟨vd, rfl, hod, -, hb9⟩
               obtain ⟨pd, cd, hvd, -, -, hrd, hpd⟩ := hod.rows elemLine.len
               have P9 := Lib.hid ((P8.out.below HK.out hb9).mono (Y := fun j => j = MB ∨ AtP pw j) (fun j hj => .inl hj))
               have M9 := Lib.hid (M8.out.keep (hb9.block MB M8.out.lt))
               have RW9 := Lib.hid (RW8.out.below hb9)
               have RD9 := Lib.hid hrd
               have HPD := Lib.hid (show ∀ j, AtP pd j → ¬ j = MB from fun j ⟨o, hj⟩ e => by have := (hpd j o hj).1; have := S8.out; omega)
               generalize hnd : List.length _ = nd at hvd
               have HND := Lib.hid hnd
               subst hvd
               clear hod hb9 hrd hpd P8 M8 RW8 HTB S8 hnd))
          have HN8 := Lib.hid (show nd ≤ 8 from by have := G6.out.few; have := G6.out.high; have := dirtyL_len (putS q ls c.line); have := HND.out; omega)
          have HW8 := Lib.hid (show nw ≤ 8 from by have := G0.out.few; have := G0.out.high; have := dirtyL_len ls; have := HNW.out; omega)
          have HOK := Lib.hid (dirty_oks G6.out.ok)
          have HOW := Lib.hid (dirty_oks G0.out.ok)
          have HONE := Lib.hid (show ∀ l ∈ dirtyL ls, cntF (dirtyL (putS q ls c.line)) nd l.u l.b = .int .i64 1 from fun l hl => by rw [← HND.out]; exact cntF_one (count_dirty G6.out (HEX.out l hl)))
          go_loopw [93] (fun v93 wr2 => ∃ i : Nat, i ≤ nd ∧ v93 = .int .i64 i ∧ MapF wr2 MB i (.int .i64 0) (cntF (dirtyL (putS q ls c.line)) i) ∧ Keeps (fun j => j = MB) w9 wr2) (fun v93 _ => nd - (intOf v93).toNat)
          case atStart => exact ⟨0, Nat.zero_le _, rfl, by rw [cntF_zero]; exact M9.out, Keeps.refl _ _⟩
          case round =>
            obtain ⟨i, hi, rfl, hm, hk⟩ := hrel
            have MI := Lib.hid hm
            have KI := Lib.hid hk
            clear hm hk M9
            by_cases hlt : i < nd
            · have HIL := Lib.hid hlt
              have hlD : i < List.length (dirtyL (putS q ls c.line)) := by rw [HND.out]; exact hlt
              obtain ⟨LB, lo, rfl, hLB, hrg⟩ := line_rows (rows_keeps RD9.out KI.out HPD.out) hlD
              have HRK := Lib.hid hrg
              have HNX := Lib.hid (cntF_next hlD)
              have HLO := Lib.hid (HOK.out _ (lineAt_mem hlD))
              have HCL := Lib.hid (cntN_le (dirtyL (putS q ls c.line)) i (lineAt (dirtyL (putS q ls c.line)) i).u (lineAt (dirtyL (putS q ls c.line)) i).b)
              have HIM := Lib.hid (show i < maxLen from by have := HN8.out; unfold maxLen; omega)
              have f8 : (i : Int) < (nd : Int) := by omega
              have g8 : IntKind.i64.wrap ((i : Int) + 1) = ((i + 1 : Nat) : Int) := by have := HN8.out; rw [IntWalk.i64_in _ (by omega)]; omega
              obtain ⟨cn, hcn⟩ : ∃ x, cntN (dirtyL (putS q ls c.line)) i (lineAt (dirtyL (putS q ls c.line)) i).u (lineAt (dirtyL (putS q ls c.line)) i).b = x := ⟨_, rfl⟩
              have HCF := Lib.hid (show cntF (dirtyL (putS q ls c.line)) i (lineAt (dirtyL (putS q ls c.line)) i).u (lineAt (dirtyL (putS q ls c.line)) i).b = .int .i64 (cn : Int) from by rw [← hcn]; exact cntF_is _ _ _ _)
              have HSM := Lib.hid (show IntKind.i64.wrap ((cn : Int) + 1) = ((cn + 1 : Nat) : Int) from by have := HCL.out; have := HN8.out; have := HND.out; rw [IntWalk.i64_in _ (by omega)]; omega)
              rw [hcn] at HNX
              have BLL := Lib.hid (box_laid wr (lineAt (dirtyL (putS q ls c.line)) i))
              clear hlt hi hLB hrg hlD hcn HCL
              generalize lineAt (dirtyL (putS q ls c.line)) i = l at *
              go_wp2_with (first
                | (refine wpList_line_elem rfl _ _ rfl LB lo nd cd i rfl rfl HIL.out ?_)
                | (refine wpList_line_load rfl _ rfl LB (lo + 131 * i) rfl l HRK.out ?_)
                | (refine wpList_line_alloc rfl rfl wr.heap.size rfl ?_)
                | (refine store_row_on rfl 42 _ _ rfl rfl wr.heap.size (lineC l).toArray rfl rfl 42 (lineC noLine).toArray (heap_alloc_new _ _) (lineA_size _) (lineA_same _ _) (lineA_one _) ?_
                   have XL := Lib.hid BLL.out.1
                   have MJ := Lib.hid (MI.out.keep (BLL.out.2.1.block MB MI.out.lt))
                   have KJ := Lib.hid (KI.out.trans (Keeps.of BLL.out.2.1))
                   have HLM := Lib.hid (show ¬ wr.heap.size = MB from by have := MI.out.lt; omega)
                   clear BLL MI KI HRK
                   generalize wr.heap.size = OL at *
                   generalize (wr.alloc (.cells (lineC noLine).toArray 42)).setRow OL (lineC l).toArray = wj at *))
              have MD := Lib.hid (show MapF wj.drew MB i (.int .i64 0) (cntF (dirtyL (putS q ls c.line)) i) from MJ.out.keep rfl)
              have XD := Lib.hid (show LineBox wj.drew OL l from XL.out)
              have KD := Lib.hid (KJ.out.drew)
              clear MJ XL KJ
              refine wp_region_tree (.float 0 (.float 1 (.float 2 (.float 3 (.float 4 (.float 5 (.two 6 (.float 7 (.one 8 (.float 9 (.one 10 .over)))) 8 (.float 9 (.one 6 (.float 7 (.one 10 .over))))))))))) (fun V => LineBox V OL l) (by kernel_rfl) (by kernel_rfl) XD.out ?_
              refine tree_float rfl rfl (fun K hK => ?_)
              refine gives_move _ rfl ?_
              go_simp
              refine hK _ ?_
              clear hK K
              refine tree_float rfl rfl (fun K hK => ?_)
              refine gives_line_field _ 0 0 (by simp) rfl OL rfl ?_
              go_simp
              refine hK _ ?_
              clear hK K
              refine tree_float rfl rfl (fun K hK => ?_)
              refine gives_cell 3 _ rfl ⟨OL, 0, none⟩ (.int .i64 l.u) rfl box_int (fun V hV => (LineBox.cell hV 0).trans (lineC_0 l)) ?_
              go_simp
              refine hK _ ?_
              clear hK K
              refine tree_float rfl rfl (fun K hK => ?_)
              refine gives_line_field _ 1 1 (by simp) rfl OL rfl ?_
              go_simp
              refine hK _ ?_
              clear hK K
              refine tree_float rfl rfl (fun K hK => ?_)
              refine gives_cell 3 _ rfl ⟨OL, 1, none⟩ (.int .i64 l.b) rfl box_int (fun V hV => (LineBox.cell hV 1).trans (lineC_1 l)) ?_
              go_simp
              refine hK _ ?_
              clear hK K
              refine tree_float rfl rfl (fun K hK => ?_)
              refine gives_pair _ _ rfl l.u l.b rfl rfl ?_
              go_simp
              refine hK _ ?_
              clear hK K
              refine tree_two ?_ ?_
              · refine tree_one rfl rfl (fun K hK => ?_)
                refine done_map_look HMT.out intZero _ _ rfl l.u l.b rfl rfl HLO.out.2.1 HLO.out.2.2 MD.out ?_
                rw [HCF.out]
                refine ⟨XD.out, ?_⟩
                go_simp
                refine hK _ _ ?_
                clear hK K
                refine tree_float rfl rfl (fun K hK => ?_)
                refine gives_int_sum _ _ rfl (cn : Int) 1 ((cn + 1 : Nat) : Int) rfl rfl HSM.out ?_
                go_simp
                refine hK _ ?_
                clear hK K
                refine tree_one rfl rfl (fun K hK => ?_)
                refine done_map_entry HMT.out intZero _ _ rfl l.u l.b rfl rfl HLO.out.2.1 HLO.out.2.2 HIM.out MD.out ?_
                intro v0 st W1 hm1 hk1 hst
                obtain ⟨W2, hr2, hm2, hk2⟩ := hst (.int .i64 ((cn + 1 : Nat) : Int))
                have X1 := Lib.hid (show LineBox W1 OL l from (hk1.block OL XD.out.lt HLM.out).trans XD.out)
                have M1 := Lib.hid hm1
                clear hst hm1
                refine ⟨X1.out, ?_⟩
                go_simp
                refine hK _ _ ?_
                clear hK K
                refine tree_float rfl rfl (fun K hK => ?_)
                refine gives_second _ rfl v0 (.int .i64 st) rfl ?_
                go_simp
                refine hK _ ?_
                clear hK K
                refine tree_one rfl rfl (fun K hK => ?_)
                refine done_entry_store _ _ _ rfl st (.int .i64 ((cn + 1 : Nat) : Int)) rfl rfl rfl W2 hr2 ?_
                refine ⟨(hk2.block OL X1.out.lt HLM.out).trans X1.out, ?_⟩
                go_simp
                refine hK _ _ ?_
                clear hK K
                refine tree_over ?_
                have HM2 := Lib.hid (show MapF W2 MB (i + 1) (.int .i64 0) (cntF (dirtyL (putS q ls c.line)) (i + 1)) from by rw [← HNX.out]; exact hm2)
                have HK2 := Lib.hid ((KD.out.trans hk1).trans hk2)
                clear hm2 hk2 hk1 hr2 MD XD KD
                go_wp2
                go_roundw
                case rel => exact ⟨i + 1, HIL.out, by go_num, HM2.out, HK2.out⟩
                case measure => have := HIL.out; simp [intOf]; omega
              · refine tree_one rfl rfl (fun K hK => ?_)
                refine done_map_entry HMT.out intZero _ _ rfl l.u l.b rfl rfl HLO.out.2.1 HLO.out.2.2 HIM.out MD.out ?_
                intro v0 st W1 hm1 hk1 hst
                obtain ⟨W2, hr2, hm2, hk2⟩ := hst (.int .i64 ((cn + 1 : Nat) : Int))
                have X1 := Lib.hid (show LineBox W1 OL l from (hk1.block OL XD.out.lt HLM.out).trans XD.out)
                have M1 := Lib.hid hm1
                clear hst hm1
                refine ⟨X1.out, ?_⟩
                go_simp
                refine hK _ _ ?_
                clear hK K
                refine tree_float rfl rfl (fun K hK => ?_)
                refine gives_second _ rfl v0 (.int .i64 st) rfl ?_
                go_simp
                refine hK _ ?_
                clear hK K
                refine tree_one rfl rfl (fun K hK => ?_)
                refine done_map_look HMT.out intZero _ _ rfl l.u l.b rfl rfl HLO.out.2.1 HLO.out.2.2 M1.out ?_
                rw [HCF.out]
                refine ⟨X1.out, ?_⟩
                go_simp
                refine hK _ _ ?_
                clear hK K
                refine tree_float rfl rfl (fun K hK => ?_)
                refine gives_int_sum _ _ rfl (cn : Int) 1 ((cn + 1 : Nat) : Int) rfl rfl HSM.out ?_
                go_simp
                refine hK _ ?_
                clear hK K
                refine tree_one rfl rfl (fun K hK => ?_)
                refine done_entry_store _ _ _ rfl st (.int .i64 ((cn + 1 : Nat) : Int)) rfl rfl rfl W2 hr2 ?_
                refine ⟨(hk2.block OL X1.out.lt HLM.out).trans X1.out, ?_⟩
                go_simp
                refine hK _ _ ?_
                clear hK K
                refine tree_over ?_
                have HM2 := Lib.hid (show MapF W2 MB (i + 1) (.int .i64 0) (cntF (dirtyL (putS q ls c.line)) (i + 1)) from by rw [← HNX.out]; exact hm2)
                have HK2 := Lib.hid ((KD.out.trans hk1).trans hk2)
                clear hm2 hk2 hk1 hr2 MD XD KD
                go_wp2
                go_roundw
                case rel => exact ⟨i + 1, HIL.out, by go_num, HM2.out, HK2.out⟩
                case measure => have := HIL.out; simp [intOf]; omega
            · have f8 : ¬ (i : Int) < (nd : Int) := by omega
              obtain rfl : i = nd := by omega
              have PA := Lib.hid (P9.out.wrote HK.out KI.out (fun j hj => .inl hj) (fun j hj => by rw [hj]; exact HMW.out))
              have RWA := Lib.hid (rows_keeps RW9.out KI.out HPM.out)
              clear hlt hi P9 RW9 KI RD9 HPD
              generalize wr = wz at *
              go_wp2
              go_loopw [110] (fun v110 wy => ∃ z : Nat, z ≤ nw ∧ v110 = .int .i64 z ∧ Below wz.heap.size wz wy) (fun v110 _ => nw - (intOf v110).toNat)
              case atStart => exact ⟨0, Nat.zero_le _, rfl, Below.refl _ _⟩
              case round =>
                obtain ⟨z, hz, rfl, hb⟩ := hrel
                have BY := Lib.hid hb
                clear hb
                by_cases hlt : z < nw
                · have HIL := Lib.hid hlt
                  have hlD : z < List.length (dirtyL ls) := by rw [HNW.out]; exact hlt
                  obtain ⟨LB, lo, rfl, hLB, hrg⟩ := line_rows (RWA.out.below BY.out) hlD
                  have HRK := Lib.hid hrg
                  have HLO := Lib.hid (HOW.out _ (lineAt_mem hlD))
                  have HLN := Lib.hid (HONE.out _ (lineAt_mem hlD))
                  have f8 : (z : Int) < (nw : Int) := by omega
                  have g8 : IntKind.i64.wrap ((z : Int) + 1) = ((z + 1 : Nat) : Int) := by have := HW8.out; rw [IntWalk.i64_in _ (by omega)]; omega
                  have BLL := Lib.hid (box_laid wr (lineAt (dirtyL ls) z))
                  clear hlt hz hLB hrg hlD
                  generalize lineAt (dirtyL ls) z = l at *
                  go_wp2_with (first
                    | (refine wpList_line_elem rfl _ _ rfl LB lo nw cw z rfl rfl HIL.out ?_)
                    | (refine wpList_line_load rfl _ rfl LB (lo + 131 * z) rfl l HRK.out ?_)
                    | (refine wpList_line_alloc rfl rfl wr.heap.size rfl ?_)
                    | (refine store_row_on rfl 42 _ _ rfl rfl wr.heap.size (lineC l).toArray rfl rfl 42 (lineC noLine).toArray (heap_alloc_new _ _) (lineA_size _) (lineA_same _ _) (lineA_one _) ?_
                       have j0 := (BLL.out.1.cell 0).trans (lineC_0 l)
                       have j1 := (BLL.out.1.cell 1).trans (lineC_1 l)
                       have BZ := Lib.hid (BY.out.trans (BLL.out.2.1.mono BY.out.size))
                       have MZ := Lib.hid (MI.out.keep (BZ.out.block MB MI.out.lt))
                       clear BLL BY HRK
                       generalize wr.heap.size = OL at *
                       generalize (wr.alloc (.cells (lineC noLine).toArray 42)).setRow OL (lineC l).toArray = wj at *)
                    | (refine wpList_pair rfl _ _ rfl l.u l.b rfl rfl ?_; go_simp)
                    | (refine wpList_map_look rfl HMT.out intZero _ _ rfl l.u l.b rfl rfl HLO.out.2.1 HLO.out.2.2 MZ.out ?_
                       rw [HLN.out]
                       go_simp))
                  go_roundw
                  case rel => exact ⟨z + 1, HIL.out, by go_num, BZ.out⟩
                  case measure => have := HIL.out; simp [intOf]; omega
                · have f8 : ¬ (z : Int) < (nw : Int) := by omega
                  obtain rfl : z = nw := by omega
                  have PX := Lib.hid ((PA.out.below HK.out BY.out).mono (Y := fun _ => False) (fun j hj => hj.elim))
                  clear hlt hz PA
                  go_wp2
                  go_roundw
                  case rel => exact ⟨k + 1, HLT.out, by go_num, (putS q ls c.line), t + 1, by have := HTT.out; omega, PX.out⟩
                  case measure => have := HLT.out; simp [intOf]; omega

        · have HPN := Lib.hid (put_failed hp0).1
          have HFU := Lib.hid (full_all G0.out (put_failed hp0).1)
          clear hp0
          go_wp2_with (first
            | (refine wpList_op_elem rfl _ _ rfl OB oo n c0 k rfl rfl HLT.out ?_)
            | (refine wpList_op_load rfl _ rfl OB (oo + 5 * k) rfl c HRC.out ?_)
            | (refine wpList_op_alloc rfl rfl wr.heap.size rfl ?_)
            | (refine store_row_on rfl 38 _ _ rfl rfl wr.heap.size c.cells.toArray rfl rfl 38 opZ.cells.toArray (heap_alloc_new _ _) (opA_size c) rfl (opA_one c) ?_
               have BX := Lib.hid OL.out.1
               have P1 := Lib.hid (P.out.below HK.out OL.out.2.1)
               have Z1 := Lib.hid OL.out.2.2
               clear OL P HRC
               generalize hOO : wr.heap.size = O at *
               generalize (wr.alloc (.cells opZ.cells.toArray 38)).setRow O c.cells.toArray = u1 at *
               have P2 := Lib.hid (P1.out.mono (Y := fun i => i = O) (fun i hi => .inr (by have := Z1.out; omega)))
               have HU1 := Lib.hid (show w.heap.size ≤ u1.heap.size from P2.out.low.size)
               clear P1 Z1 hOO)
            | (go_at_call 25; refine (P2.out.cas.dirty HK.out 99).mono ?_; rw [HTA.out]; rintro e w5 ⟨vw, rfl, how, -, hb5⟩
               obtain ⟨pw, cw, hvw, -, -, hrw, hpw⟩ := how.rows elemLine.len
               have P5 := Lib.hid ((P2.out.below HK.out hb5).mono (Y := fun j => j = O ∨ AtP pw j) (fun j hj => by
                 rcases hj with e | ⟨o, e⟩
                 · exact .inl e
                 · exact .inr ⟨(hpw j o e).1, (hpw j o e).2.1⟩))
               have BX5 := Lib.hid (BX.out.below hb5 BX.out.lt)
               have RW5 := Lib.hid hrw
               generalize hnw : List.length _ = nw at hvw
               have HNW := Lib.hid hnw
               subst hvw
               clear how hb5 hrw hpw P2 BX HTA hnw
               have k0 := BX5.out.cell 0
               have k1 := BX5.out.cell 1
               have k2 := BX5.out.cell 2
               simp only [OpOf.cells, List.getElem?_cons_succ, List.getElem?_cons_zero] at k0 k1 k2
               rw [HKD.out] at k0
               have dq : decide ((nw : Int) = q) = true := by rw [← HNW.out]; exact decide_eq_true HFU.out
               have bq : ((nw : Int) == q) = true := by rw [← HNW.out]; exact beq_iff_eq.2 HFU.out
               have bn : ((nw : Int) != q) = false := by simp [bq, bne])
            | (refine wpList_op_load rfl _ rfl O 0 rfl c (BX5.out.range) ?_)
            | (go_at_call 16; refine (line_any c HC.out _).mono ?_; rintro e wl ⟨rfl, hbl⟩
               have PL := Lib.hid ((P5.out.below HK.out hbl).mono (Y := fun j => j = O ∨ AtP pw j) (fun i hi => .inl hi))
               have BXl := Lib.hid (BX5.out.below hbl BX5.out.lt)
               have RWl := Lib.hid (RW5.out.below hbl)
               clear hbl P5 BX5 RW5 k0 k1 k2)
            | (go_at_call 15; refine (PL.out.put HK.out c.line (OpOf.line_ok HC.out) HTK.out).mono ?_; rw [HPN.out, errN_seven]; rintro e w6 ⟨rfl, hp6, hf6⟩
               have P6 := Lib.hid hp6
               have BX6 := Lib.hid (show OpBox w6 O c from (hf6.2 O (.inl rfl)).trans BXl.out)
               have RW6 := Lib.hid (rows_fr RWl.out (hf6.mono fun j hj => .inr hj))
               clear hp6 hf6 PL BXl RWl
               have k0 := BX6.out.cell 0
               have k1 := BX6.out.cell 1
               have k2 := BX6.out.cell 2
               simp only [OpOf.cells, List.getElem?_cons_succ, List.getElem?_cons_zero] at k0 k1 k2
               rw [HKD.out] at k0)
            | (go_at_call 22; refine (P6.out.lines HK.out).mono ?_; rintro e w7 ⟨v7, rfl, ho7, hb7⟩
               have G6 := Lib.hid (P6.out.good HK.out)
               have P7 := Lib.hid ((P6.out.below HK.out hb7).mono (Y := fun j => j = O ∨ AtP pw j) (fun j hj => .inl hj))
               have BX7 := Lib.hid (BX6.out.below hb7 BX6.out.lt)
               have RW7 := Lib.hid (RW6.out.below hb7)
               obtain ⟨p7, c7, hv7, -, -, -, -⟩ := ho7.rows elemLine.len
               generalize hn7 : List.length _ = n7 at hv7
               subst hv7
               have f7 : ¬ q < (n7 : Int) := by have := G6.out.few; rw [← hn7]; omega
               have d7 : decide (q < (n7 : Int)) = false := by simp; omega
               clear ho7 hb7 hn7 P6 BX6 RW6 k0 k1 k2
               have k0 := BX7.out.cell 0
               simp only [OpOf.cells, List.getElem?_cons_zero] at k0
               rw [HKD.out] at k0
               clear BX7)
            | (refine wpList_map_made rfl rfl HMT.out ?_
               have HTB := Lib.hid (take_all G6.out)
               have P8 := Lib.hid ((P7.out.below HK.out ((Below.refl w7.heap.size w7).alloc (Nat.le_refl _) (.map #[] 0))).mono (Y := fun j => j = w7.heap.size ∨ AtP pw j) (fun j hj => by
                 rcases hj with e | e
                 · exact .inr ⟨by rw [e]; exact Nat.le_refl _, by rw [e, World.size_alloc]; omega⟩
                 · exact .inl (.inr e)))
               have M8 := Lib.hid (MapF.made w7 (.int .i64 0))
               have HPM := Lib.hid (show ∀ j, AtP pw j → ¬ j = w7.heap.size from fun j hj e => by have := P7.out.xlt j (.inr hj); omega)
               have RW8 := Lib.hid (RW7.out.below ((Below.refl w7.heap.size w7).alloc (Nat.le_refl _) (.map #[] 0)))
               have S8 := Lib.hid (show w7.heap.size < (w7.alloc (.map #[] 0)).heap.size from by rw [World.size_alloc]; omega)
               have HMW := Lib.hid (show w.heap.size ≤ w7.heap.size from P7.out.low.size)
               clear P7 RW7 k0
               generalize w7.heap.size = MB at *
               generalize w7.alloc (.map #[] 0) = w8 at *)
            | (go_at_call 25; refine (P8.out.cas.dirty HK.out 99).mono ?_; rw [HTB.out]; rintro e w9 ⟨vd, rfl, hod, -, hb9⟩
               obtain ⟨pd, cd, hvd, -, -, hrd, hpd⟩ := hod.rows elemLine.len
               have P9 := Lib.hid ((P8.out.below HK.out hb9).mono (Y := fun j => j = MB ∨ AtP pw j) (fun j hj => .inl hj))
               have M9 := Lib.hid (M8.out.keep (hb9.block MB M8.out.lt))
               have RW9 := Lib.hid (RW8.out.below hb9)
               have RD9 := Lib.hid hrd
               have HPD := Lib.hid (show ∀ j, AtP pd j → ¬ j = MB from fun j ⟨o, hj⟩ e => by have := (hpd j o hj).1; have := S8.out; omega)
               generalize hnd : List.length _ = nd at hvd
               have HND := Lib.hid hnd
               subst hvd
               clear hod hb9 hrd hpd P8 M8 RW8 HTB S8 hnd))
          have HN8 := Lib.hid (show nd ≤ 8 from by have := G6.out.few; have := G6.out.high; have := dirtyL_len (putS q ls c.line); have := HND.out; omega)
          have HW8 := Lib.hid (show nw ≤ 8 from by have := G0.out.few; have := G0.out.high; have := dirtyL_len ls; have := HNW.out; omega)
          have HOK := Lib.hid (dirty_oks G6.out.ok)
          have HOW := Lib.hid (dirty_oks G0.out.ok)
          have HONE := Lib.hid (show ∀ l ∈ dirtyL ls, cntF (dirtyL (putS q ls c.line)) nd l.u l.b = .int .i64 1 from fun l hl => by rw [← HND.out]; exact cntF_one (count_dirty G6.out (HEX.out l hl)))
          go_loopw [93] (fun v93 wr2 => ∃ i : Nat, i ≤ nd ∧ v93 = .int .i64 i ∧ MapF wr2 MB i (.int .i64 0) (cntF (dirtyL (putS q ls c.line)) i) ∧ Keeps (fun j => j = MB) w9 wr2) (fun v93 _ => nd - (intOf v93).toNat)
          case atStart => exact ⟨0, Nat.zero_le _, rfl, by rw [cntF_zero]; exact M9.out, Keeps.refl _ _⟩
          case round =>
            obtain ⟨i, hi, rfl, hm, hk⟩ := hrel
            have MI := Lib.hid hm
            have KI := Lib.hid hk
            clear hm hk M9
            by_cases hlt : i < nd
            · have HIL := Lib.hid hlt
              have hlD : i < List.length (dirtyL (putS q ls c.line)) := by rw [HND.out]; exact hlt
              obtain ⟨LB, lo, rfl, hLB, hrg⟩ := line_rows (rows_keeps RD9.out KI.out HPD.out) hlD
              have HRK := Lib.hid hrg
              have HNX := Lib.hid (cntF_next hlD)
              have HLO := Lib.hid (HOK.out _ (lineAt_mem hlD))
              have HCL := Lib.hid (cntN_le (dirtyL (putS q ls c.line)) i (lineAt (dirtyL (putS q ls c.line)) i).u (lineAt (dirtyL (putS q ls c.line)) i).b)
              have HIM := Lib.hid (show i < maxLen from by have := HN8.out; unfold maxLen; omega)
              have f8 : (i : Int) < (nd : Int) := by omega
              have g8 : IntKind.i64.wrap ((i : Int) + 1) = ((i + 1 : Nat) : Int) := by have := HN8.out; rw [IntWalk.i64_in _ (by omega)]; omega
              obtain ⟨cn, hcn⟩ : ∃ x, cntN (dirtyL (putS q ls c.line)) i (lineAt (dirtyL (putS q ls c.line)) i).u (lineAt (dirtyL (putS q ls c.line)) i).b = x := ⟨_, rfl⟩
              have HCF := Lib.hid (show cntF (dirtyL (putS q ls c.line)) i (lineAt (dirtyL (putS q ls c.line)) i).u (lineAt (dirtyL (putS q ls c.line)) i).b = .int .i64 (cn : Int) from by rw [← hcn]; exact cntF_is _ _ _ _)
              have HSM := Lib.hid (show IntKind.i64.wrap ((cn : Int) + 1) = ((cn + 1 : Nat) : Int) from by have := HCL.out; have := HN8.out; have := HND.out; rw [IntWalk.i64_in _ (by omega)]; omega)
              rw [hcn] at HNX
              have BLL := Lib.hid (box_laid wr (lineAt (dirtyL (putS q ls c.line)) i))
              clear hlt hi hLB hrg hlD hcn HCL
              generalize lineAt (dirtyL (putS q ls c.line)) i = l at *
              go_wp2_with (first
                | (refine wpList_line_elem rfl _ _ rfl LB lo nd cd i rfl rfl HIL.out ?_)
                | (refine wpList_line_load rfl _ rfl LB (lo + 131 * i) rfl l HRK.out ?_)
                | (refine wpList_line_alloc rfl rfl wr.heap.size rfl ?_)
                | (refine store_row_on rfl 42 _ _ rfl rfl wr.heap.size (lineC l).toArray rfl rfl 42 (lineC noLine).toArray (heap_alloc_new _ _) (lineA_size _) (lineA_same _ _) (lineA_one _) ?_
                   have XL := Lib.hid BLL.out.1
                   have MJ := Lib.hid (MI.out.keep (BLL.out.2.1.block MB MI.out.lt))
                   have KJ := Lib.hid (KI.out.trans (Keeps.of BLL.out.2.1))
                   have HLM := Lib.hid (show ¬ wr.heap.size = MB from by have := MI.out.lt; omega)
                   clear BLL MI KI HRK
                   generalize wr.heap.size = OL at *
                   generalize (wr.alloc (.cells (lineC noLine).toArray 42)).setRow OL (lineC l).toArray = wj at *))
              have MD := Lib.hid (show MapF wj.drew MB i (.int .i64 0) (cntF (dirtyL (putS q ls c.line)) i) from MJ.out.keep rfl)
              have XD := Lib.hid (show LineBox wj.drew OL l from XL.out)
              have KD := Lib.hid (KJ.out.drew)
              clear MJ XL KJ
              refine wp_region_tree (.float 0 (.float 1 (.float 2 (.float 3 (.float 4 (.float 5 (.two 6 (.float 7 (.one 8 (.float 9 (.one 10 .over)))) 8 (.float 9 (.one 6 (.float 7 (.one 10 .over))))))))))) (fun V => LineBox V OL l) (by kernel_rfl) (by kernel_rfl) XD.out ?_
              refine tree_float rfl rfl (fun K hK => ?_)
              refine gives_move _ rfl ?_
              go_simp
              refine hK _ ?_
              clear hK K
              refine tree_float rfl rfl (fun K hK => ?_)
              refine gives_line_field _ 0 0 (by simp) rfl OL rfl ?_
              go_simp
              refine hK _ ?_
              clear hK K
              refine tree_float rfl rfl (fun K hK => ?_)
              refine gives_cell 3 _ rfl ⟨OL, 0, none⟩ (.int .i64 l.u) rfl box_int (fun V hV => (LineBox.cell hV 0).trans (lineC_0 l)) ?_
              go_simp
              refine hK _ ?_
              clear hK K
              refine tree_float rfl rfl (fun K hK => ?_)
              refine gives_line_field _ 1 1 (by simp) rfl OL rfl ?_
              go_simp
              refine hK _ ?_
              clear hK K
              refine tree_float rfl rfl (fun K hK => ?_)
              refine gives_cell 3 _ rfl ⟨OL, 1, none⟩ (.int .i64 l.b) rfl box_int (fun V hV => (LineBox.cell hV 1).trans (lineC_1 l)) ?_
              go_simp
              refine hK _ ?_
              clear hK K
              refine tree_float rfl rfl (fun K hK => ?_)
              refine gives_pair _ _ rfl l.u l.b rfl rfl ?_
              go_simp
              refine hK _ ?_
              clear hK K
              refine tree_two ?_ ?_
              · refine tree_one rfl rfl (fun K hK => ?_)
                refine done_map_look HMT.out intZero _ _ rfl l.u l.b rfl rfl HLO.out.2.1 HLO.out.2.2 MD.out ?_
                rw [HCF.out]
                refine ⟨XD.out, ?_⟩
                go_simp
                refine hK _ _ ?_
                clear hK K
                refine tree_float rfl rfl (fun K hK => ?_)
                refine gives_int_sum _ _ rfl (cn : Int) 1 ((cn + 1 : Nat) : Int) rfl rfl HSM.out ?_
                go_simp
                refine hK _ ?_
                clear hK K
                refine tree_one rfl rfl (fun K hK => ?_)
                refine done_map_entry HMT.out intZero _ _ rfl l.u l.b rfl rfl HLO.out.2.1 HLO.out.2.2 HIM.out MD.out ?_
                intro v0 st W1 hm1 hk1 hst
                obtain ⟨W2, hr2, hm2, hk2⟩ := hst (.int .i64 ((cn + 1 : Nat) : Int))
                have X1 := Lib.hid (show LineBox W1 OL l from (hk1.block OL XD.out.lt HLM.out).trans XD.out)
                have M1 := Lib.hid hm1
                clear hst hm1
                refine ⟨X1.out, ?_⟩
                go_simp
                refine hK _ _ ?_
                clear hK K
                refine tree_float rfl rfl (fun K hK => ?_)
                refine gives_second _ rfl v0 (.int .i64 st) rfl ?_
                go_simp
                refine hK _ ?_
                clear hK K
                refine tree_one rfl rfl (fun K hK => ?_)
                refine done_entry_store _ _ _ rfl st (.int .i64 ((cn + 1 : Nat) : Int)) rfl rfl rfl W2 hr2 ?_
                refine ⟨(hk2.block OL X1.out.lt HLM.out).trans X1.out, ?_⟩
                go_simp
                refine hK _ _ ?_
                clear hK K
                refine tree_over ?_
                have HM2 := Lib.hid (show MapF W2 MB (i + 1) (.int .i64 0) (cntF (dirtyL (putS q ls c.line)) (i + 1)) from by rw [← HNX.out]; exact hm2)
                have HK2 := Lib.hid ((KD.out.trans hk1).trans hk2)
                clear hm2 hk2 hk1 hr2 MD XD KD
                go_wp2
                go_roundw
                case rel => exact ⟨i + 1, HIL.out, by go_num, HM2.out, HK2.out⟩
                case measure => have := HIL.out; simp [intOf]; omega
              · refine tree_one rfl rfl (fun K hK => ?_)
                refine done_map_entry HMT.out intZero _ _ rfl l.u l.b rfl rfl HLO.out.2.1 HLO.out.2.2 HIM.out MD.out ?_
                intro v0 st W1 hm1 hk1 hst
                obtain ⟨W2, hr2, hm2, hk2⟩ := hst (.int .i64 ((cn + 1 : Nat) : Int))
                have X1 := Lib.hid (show LineBox W1 OL l from (hk1.block OL XD.out.lt HLM.out).trans XD.out)
                have M1 := Lib.hid hm1
                clear hst hm1
                refine ⟨X1.out, ?_⟩
                go_simp
                refine hK _ _ ?_
                clear hK K
                refine tree_float rfl rfl (fun K hK => ?_)
                refine gives_second _ rfl v0 (.int .i64 st) rfl ?_
                go_simp
                refine hK _ ?_
                clear hK K
                refine tree_one rfl rfl (fun K hK => ?_)
                refine done_map_look HMT.out intZero _ _ rfl l.u l.b rfl rfl HLO.out.2.1 HLO.out.2.2 M1.out ?_
                rw [HCF.out]
                refine ⟨X1.out, ?_⟩
                go_simp
                refine hK _ _ ?_
                clear hK K
                refine tree_float rfl rfl (fun K hK => ?_)
                refine gives_int_sum _ _ rfl (cn : Int) 1 ((cn + 1 : Nat) : Int) rfl rfl HSM.out ?_
                go_simp
                refine hK _ ?_
                clear hK K
                refine tree_one rfl rfl (fun K hK => ?_)
                refine done_entry_store _ _ _ rfl st (.int .i64 ((cn + 1 : Nat) : Int)) rfl rfl rfl W2 hr2 ?_
                refine ⟨(hk2.block OL X1.out.lt HLM.out).trans X1.out, ?_⟩
                go_simp
                refine hK _ _ ?_
                clear hK K
                refine tree_over ?_
                have HM2 := Lib.hid (show MapF W2 MB (i + 1) (.int .i64 0) (cntF (dirtyL (putS q ls c.line)) (i + 1)) from by rw [← HNX.out]; exact hm2)
                have HK2 := Lib.hid ((KD.out.trans hk1).trans hk2)
                clear hm2 hk2 hk1 hr2 MD XD KD
                go_wp2
                go_roundw
                case rel => exact ⟨i + 1, HIL.out, by go_num, HM2.out, HK2.out⟩
                case measure => have := HIL.out; simp [intOf]; omega
            · have f8 : ¬ (i : Int) < (nd : Int) := by omega
              obtain rfl : i = nd := by omega
              have PA := Lib.hid (P9.out.wrote HK.out KI.out (fun j hj => .inl hj) (fun j hj => by rw [hj]; exact HMW.out))
              have RWA := Lib.hid (rows_keeps RW9.out KI.out HPM.out)
              clear hlt hi P9 RW9 KI RD9 HPD
              generalize wr = wz at *
              go_wp2
              go_loopw [110] (fun v110 wy => ∃ z : Nat, z ≤ nw ∧ v110 = .int .i64 z ∧ Below wz.heap.size wz wy) (fun v110 _ => nw - (intOf v110).toNat)
              case atStart => exact ⟨0, Nat.zero_le _, rfl, Below.refl _ _⟩
              case round =>
                obtain ⟨z, hz, rfl, hb⟩ := hrel
                have BY := Lib.hid hb
                clear hb
                by_cases hlt : z < nw
                · have HIL := Lib.hid hlt
                  have hlD : z < List.length (dirtyL ls) := by rw [HNW.out]; exact hlt
                  obtain ⟨LB, lo, rfl, hLB, hrg⟩ := line_rows (RWA.out.below BY.out) hlD
                  have HRK := Lib.hid hrg
                  have HLO := Lib.hid (HOW.out _ (lineAt_mem hlD))
                  have HLN := Lib.hid (HONE.out _ (lineAt_mem hlD))
                  have f8 : (z : Int) < (nw : Int) := by omega
                  have g8 : IntKind.i64.wrap ((z : Int) + 1) = ((z + 1 : Nat) : Int) := by have := HW8.out; rw [IntWalk.i64_in _ (by omega)]; omega
                  have BLL := Lib.hid (box_laid wr (lineAt (dirtyL ls) z))
                  clear hlt hz hLB hrg hlD
                  generalize lineAt (dirtyL ls) z = l at *
                  go_wp2_with (first
                    | (refine wpList_line_elem rfl _ _ rfl LB lo nw cw z rfl rfl HIL.out ?_)
                    | (refine wpList_line_load rfl _ rfl LB (lo + 131 * z) rfl l HRK.out ?_)
                    | (refine wpList_line_alloc rfl rfl wr.heap.size rfl ?_)
                    | (refine store_row_on rfl 42 _ _ rfl rfl wr.heap.size (lineC l).toArray rfl rfl 42 (lineC noLine).toArray (heap_alloc_new _ _) (lineA_size _) (lineA_same _ _) (lineA_one _) ?_
                       have j0 := (BLL.out.1.cell 0).trans (lineC_0 l)
                       have j1 := (BLL.out.1.cell 1).trans (lineC_1 l)
                       have BZ := Lib.hid (BY.out.trans (BLL.out.2.1.mono BY.out.size))
                       have MZ := Lib.hid (MI.out.keep (BZ.out.block MB MI.out.lt))
                       clear BLL BY HRK
                       generalize wr.heap.size = OL at *
                       generalize (wr.alloc (.cells (lineC noLine).toArray 42)).setRow OL (lineC l).toArray = wj at *)
                    | (refine wpList_pair rfl _ _ rfl l.u l.b rfl rfl ?_; go_simp)
                    | (refine wpList_map_look rfl HMT.out intZero _ _ rfl l.u l.b rfl rfl HLO.out.2.1 HLO.out.2.2 MZ.out ?_
                       rw [HLN.out]
                       go_simp))
                  go_roundw
                  case rel => exact ⟨z + 1, HIL.out, by go_num, BZ.out⟩
                  case measure => have := HIL.out; simp [intOf]; omega
                · have f8 : ¬ (z : Int) < (nw : Int) := by omega
                  obtain rfl : z = nw := by omega
                  have PX := Lib.hid ((PA.out.below HK.out BY.out).mono (Y := fun _ => False) (fun j hj => hj.elim))
                  clear hlt hz PA
                  go_wp2
                  go_roundw
                  case rel => exact ⟨k + 1, HLT.out, by go_num, (putS q ls c.line), t + 1, by have := HTT.out; omega, PX.out⟩
                  case measure => have := HLT.out; simp [intOf]; omega

      by_cases hk2 : c.kind = 2
      · have HKD := Lib.hid hk2
        clear hk0 hk1 hk2
        go_wp2_with (first
          | (refine wpList_op_elem rfl _ _ rfl OB oo n c0 k rfl rfl HLT.out ?_)
          | (refine wpList_op_load rfl _ rfl OB (oo + 5 * k) rfl c HRC.out ?_)
          | (refine wpList_op_alloc rfl rfl wr.heap.size rfl ?_)
          | (refine store_row_on rfl 38 _ _ rfl rfl wr.heap.size c.cells.toArray rfl rfl 38 opZ.cells.toArray (heap_alloc_new _ _) (opA_size c) rfl (opA_one c) ?_
             have BX := Lib.hid OL.out.1
             have P1 := Lib.hid (P.out.below HK.out OL.out.2.1)
             have Z1 := Lib.hid OL.out.2.2
             clear OL P HRC
             generalize hOO : wr.heap.size = O at *
             generalize (wr.alloc (.cells opZ.cells.toArray 38)).setRow O c.cells.toArray = u1 at *
             have P2 := Lib.hid (P1.out.mono (Y := fun i => i = O) (fun i hi => .inr (by have := Z1.out; omega)))
             have HU1 := Lib.hid (show w.heap.size ≤ u1.heap.size from P2.out.low.size)
             clear P1 Z1 hOO)
          | (go_at_call 25; refine (P2.out.cas.dirty HK.out 99).mono ?_; rw [HTA.out]; rintro e w5 ⟨vw, rfl, how, -, hb5⟩
             obtain ⟨pw, cw, hvw, -, -, hrw, hpw⟩ := how.rows elemLine.len
             have P5 := Lib.hid ((P2.out.below HK.out hb5).mono (Y := fun j => j = O ∨ AtP pw j) (fun j hj => by
               rcases hj with e | ⟨o, e⟩
               · exact .inl e
               · exact .inr ⟨(hpw j o e).1, (hpw j o e).2.1⟩))
             have BX5 := Lib.hid (BX.out.below hb5 BX.out.lt)
             have RW5 := Lib.hid hrw
             generalize hnw : List.length _ = nw at hvw
             have HNW := Lib.hid hnw
             subst hvw
             clear how hb5 hrw hpw P2 BX HTA hnw
             have k0 := BX5.out.cell 0
             have k1 := BX5.out.cell 1
             have k2 := BX5.out.cell 2
             simp only [OpOf.cells, List.getElem?_cons_succ, List.getElem?_cons_zero] at k0 k1 k2
             rw [HKD.out] at k0
             skip)
          | (go_at_call 18; refine (P5.out.clean HK.out HTK.out).mono ?_; rintro e w6 ⟨rfl, hp6, hf6⟩
             have P6 := Lib.hid hp6
             have BX6 := Lib.hid (show OpBox w6 O c from (hf6.2 O (.inl rfl)).trans BX5.out)
             have RW6 := Lib.hid (rows_fr RW5.out (hf6.mono fun j hj => .inr hj))
             clear hp6 hf6 P5 BX5 RW5 k0 k1 k2
             have k0 := BX6.out.cell 0
             have k1 := BX6.out.cell 1
             have k2 := BX6.out.cell 2
             simp only [OpOf.cells, List.getElem?_cons_succ, List.getElem?_cons_zero] at k0 k1 k2
             rw [HKD.out] at k0)
          | (go_at_call 22; refine (P6.out.lines HK.out).mono ?_; rintro e w7 ⟨v7, rfl, ho7, hb7⟩
             have G6 := Lib.hid (P6.out.good HK.out)
             have P7 := Lib.hid ((P6.out.below HK.out hb7).mono (Y := fun j => j = O ∨ AtP pw j) (fun j hj => .inl hj))
             have BX7 := Lib.hid (BX6.out.below hb7 BX6.out.lt)
             have RW7 := Lib.hid (RW6.out.below hb7)
             obtain ⟨p7, c7, hv7, -, -, -, -⟩ := ho7.rows elemLine.len
             generalize hn7 : List.length _ = n7 at hv7
             subst hv7
             have f7 : ¬ q < (n7 : Int) := by have := G6.out.few; rw [← hn7]; omega
             have d7 : decide (q < (n7 : Int)) = false := by simp; omega
             clear ho7 hb7 hn7 P6 BX6 RW6 k0 k1 k2
             have k0 := BX7.out.cell 0
             simp only [OpOf.cells, List.getElem?_cons_zero] at k0
             rw [HKD.out] at k0
             clear BX7))
        have PZ := Lib.hid (P7.out.mono (Y := fun _ => False) (fun j hj => hj.elim))
        go_wp2
        go_roundw
        case rel => exact ⟨k + 1, HLT.out, by go_num, (cleanedL ls), t + 1, by have := HTT.out; omega, PZ.out⟩
        case measure => have := HLT.out; simp [intOf]; omega

      have e0 : decide (c.kind = 0) = false := by simp [hk0]
      have e1 : decide (c.kind = 1) = false := by simp [hk1]
      have e2 : decide (c.kind = 2) = false := by simp [hk2]
      have b0 : (c.kind == 0) = false := by simp [hk0]
      have b1 : (c.kind == 1) = false := by simp [hk1]
      have b2 : (c.kind == 2) = false := by simp [hk2]
      have n0 : (c.kind != 0) = true := by simp [hk0]
      have n1 : (c.kind != 1) = true := by simp [hk1]
      go_wp2_with (first
        | (refine wpList_op_elem rfl _ _ rfl OB oo n c0 k rfl rfl HLT.out ?_)
        | (refine wpList_op_load rfl _ rfl OB (oo + 5 * k) rfl c HRC.out ?_)
        | (refine wpList_op_alloc rfl rfl wr.heap.size rfl ?_)
        | (refine store_row_on rfl 38 _ _ rfl rfl wr.heap.size c.cells.toArray rfl rfl 38 opZ.cells.toArray (heap_alloc_new _ _) (opA_size c) rfl (opA_one c) ?_
           have BX := Lib.hid OL.out.1
           have P1 := Lib.hid (P.out.below HK.out OL.out.2.1)
           have Z1 := Lib.hid OL.out.2.2
           clear OL P HRC
           generalize hOO : wr.heap.size = O at *
           generalize (wr.alloc (.cells opZ.cells.toArray 38)).setRow O c.cells.toArray = u1 at *
           have P2 := Lib.hid (P1.out.mono (Y := fun i => i = O) (fun i hi => .inr (by have := Z1.out; omega)))
           have HU1 := Lib.hid (show w.heap.size ≤ u1.heap.size from P2.out.low.size)
           clear P1 Z1 hOO)
        | (go_at_call 25; refine (P2.out.cas.dirty HK.out 99).mono ?_; rw [HTA.out]; rintro e w5 ⟨vw, rfl, how, -, hb5⟩
           obtain ⟨pw, cw, hvw, -, -, hrw, hpw⟩ := how.rows elemLine.len
           have P5 := Lib.hid ((P2.out.below HK.out hb5).mono (Y := fun j => j = O ∨ AtP pw j) (fun j hj => by
             rcases hj with e | ⟨o, e⟩
             · exact .inl e
             · exact .inr ⟨(hpw j o e).1, (hpw j o e).2.1⟩))
           have BX5 := Lib.hid (BX.out.below hb5 BX.out.lt)
           have RW5 := Lib.hid hrw
           generalize hnw : List.length _ = nw at hvw
           have HNW := Lib.hid hnw
           subst hvw
           clear how hb5 hrw hpw P2 BX HTA hnw
           have k0 := BX5.out.cell 0
           have k1 := BX5.out.cell 1
           have k2 := BX5.out.cell 2
           simp only [OpOf.cells, List.getElem?_cons_succ, List.getElem?_cons_zero] at k0 k1 k2
           skip)
        | (go_at_call 20; refine (P5.out.drop HK.out c.u HC.out.u HTK.out).mono ?_; rintro e w6 ⟨rfl, hp6, hf6⟩
           have P6 := Lib.hid hp6
           have BX6 := Lib.hid (show OpBox w6 O c from (hf6.2 O (.inl rfl)).trans BX5.out)
           have RW6 := Lib.hid (rows_fr RW5.out (hf6.mono fun j hj => .inr hj))
           clear hp6 hf6 P5 BX5 RW5 k0 k1 k2
           have k0 := BX6.out.cell 0
           have k1 := BX6.out.cell 1
           have k2 := BX6.out.cell 2
           simp only [OpOf.cells, List.getElem?_cons_succ, List.getElem?_cons_zero] at k0 k1 k2
      )
        | (go_at_call 22; refine (P6.out.lines HK.out).mono ?_; rintro e w7 ⟨v7, rfl, ho7, hb7⟩
           have G6 := Lib.hid (P6.out.good HK.out)
           have P7 := Lib.hid ((P6.out.below HK.out hb7).mono (Y := fun j => j = O ∨ AtP pw j) (fun j hj => .inl hj))
           have BX7 := Lib.hid (BX6.out.below hb7 BX6.out.lt)
           have RW7 := Lib.hid (RW6.out.below hb7)
           obtain ⟨p7, c7, hv7, -, -, -, -⟩ := ho7.rows elemLine.len
           generalize hn7 : List.length _ = n7 at hv7
           subst hv7
           have f7 : ¬ q < (n7 : Int) := by have := G6.out.few; rw [← hn7]; omega
           have d7 : decide (q < (n7 : Int)) = false := by simp; omega
           clear ho7 hb7 hn7 P6 BX6 RW6 k0 k1 k2
           have k0 := BX7.out.cell 0
           simp only [OpOf.cells, List.getElem?_cons_zero] at k0
           clear BX7))
      have PZ := Lib.hid (P7.out.mono (Y := fun _ => False) (fun j hj => hj.elim))
      go_wp2
      go_roundw
      case rel => exact ⟨k + 1, HLT.out, by go_num, (dropL ls c.u), t + 1, by have := HTT.out; omega, PZ.out⟩
      case measure => have := HLT.out; simp [intOf]; omega

    · have f9 : ¬ (k : Int) < (n : Int) := by omega
      obtain rfl : k = n := by omega
      have HLO := Lib.hid P.out.low
      clear hlt hk P
      go_wp2
      go_ret
      exact ⟨rfl, HLO.out⟩
theorem laidOut : laidOutB Try.prog = true := by kernel_rfl
set_option maxRecDepth 100000 in
theorem lifted (os : Os) (started : os.Started) (H : Type) (enc : TypeId × Value → H) :
    ReturnsInHanded {} Try.checked os 4 .any (Rows.cacheBoundsSpec.pre6 enc Try.prog Try.f4 Rows.cacheBoundsRow.domain false) (Rows.cacheBoundsSpec.post enc Try.prog Try.f4 false true false false) := by
  refine returnsInHanded_of_change (C := Try.checked) own started (by kernel_rfl) Try.func4
    (ChangeSpec.witness6 (enc := enc) (C := Try.checked) false ⟨#[], #[.int .i64 0, .slice none 0 0], []⟩ 8 (by kernel_rfl) (by kernel_rfl) (by kernel_rfl) (by kernel_rfl)) ?_
  intro W base args ds gs before hval0 hW hcnd _
  have hval : ∀ (j : Nat) t v, Try.f4.params[j]? = some t → args[j]? = some v → Value.okWide Try.prog W .any base t v := hval0
  have hW' := hW
  obtain ⟨p, q, hA0, hV, rfl, hfz, hnd⟩ := hW
  have hA : DataW.TrodAll enc Try.prog W 0 (fun _ => true) true Try.f4.params.toList args.toList ds p := hA0
  rw [Try.params4] at hA hval
  obtain ⟨v0, vs0, d0, ds0, p0, q0, hargs, rfl, rfl, h0, r0⟩ := trodAll_cons hA
  obtain ⟨v1, vs1, d1, ds1, p1, q1, rfl, rfl, rfl, h1, r1⟩ := trodAll_cons r0
  obtain ⟨rfl, rfl, rfl⟩ := trodAll_nil r1
  obtain rfl : args = #[v0, v1] := by cases args; simp_all
  obtain ⟨rfl, rfl⟩ := trodVars_none hV
  obtain ⟨a0, rfl, rfl, rfl, w0⟩ := open_int Try.underlying3 (hval 0 3 v0 rfl rfl) h0
  have k1 := h1
  have lt1 : ∀ x ∈ p1, x.block < W.heap.size := by obtain ⟨m, hm⟩ := k1; exact DataW.trod_lt m _ _ _ hm
  obtain ⟨q1, l1, c1, rfl, w1, y1, -⟩ := open_ops (hval 1 22 v1 rfl rfl) h1
  clear hA0 hval0
  refine (walk cacheSpec a0 q1 l1 c1 w1 W y1).mono fun e W' ⟨he, bel⟩ => ?_
  subst he
  exact ⟨_, rfl, _, _, _, [], _, [], hW', trodAll_mk1 (shut_bool Try.underlying4 _), (trodAll_cons_mk (shut_int Try.underlying3 w0) (trodAll_cons_mk (Below.trod laidOut (by kernel_rfl) (of_decide_eq_true (by kernel_rfl)) k1 bel lt1) trodAll_mk0)), rfl, bel.frame _, fun h => by cases h⟩

theorem over : Rows.cacheBoundsRow.holds Try.pinned (OpenSpec.ofChange Rows.cacheBoundsSpec) :=
  OpenClaim.holds_of_wide 4 Try.f4 rfl rfl rfl rfl rfl rfl rfl ⟨rfl, rfl, rfl, rfl, rfl⟩ rfl rfl rfl rfl rfl (by kernel_rfl) Try.func4 (by kernel_rfl)
    (of_decide_eq_true (by kernel_rfl)) (by unfold Func.isWrapper; first | (rw [if_pos (by decide +kernel)]; kernel_rfl) | (rw [if_neg (by decide +kernel)]; exact ⟨rfl, rfl⟩))
    (fun os started H enc _ => lifted os started H enc)

theorem proved : Rows.CacheBoundsSaid := over
end Go.Proofs.Ytlaclakndleonaa.cacheBounds
