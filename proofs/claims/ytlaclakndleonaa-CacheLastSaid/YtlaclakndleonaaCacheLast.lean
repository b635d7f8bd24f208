/- CacheLast: under any calls, for every quota and script. Condition: none but the arguments' own forms; package cache by cacheSpec. -/
import Derived.Test.YtlaclakndleonaaCmSpec
import Derived.Test.YtlaclakndleonaaCaMapOp
namespace Go.Proofs.Ytlaclakndleonaa
open Go.ChangeShapes Go.WideShapes Go.ChangeAt Go.RowKit
namespace cacheLast
set_option linter.unusedVariables false
theorem own : ownKnob Try.prog.godebug = none := by kernel_rfl
attribute [local irreducible] Go.Proofs.Ytlaclakndleonaa.mk lineC oneB findL getL gotL putS putN cleanedL dropL dirtyL takeD lineAt cellV pk putF
theorem lt400 {n : Nat} (h : ¬ 400 < n) : n ≤ 400 := by omega
set_option maxRecDepth 100000 in
set_option maxHeartbeats 8000000 in
theorem walk {At : AtT} (K : CacheSpec At) (q : Int) (q0 : Option Addr) (L : List OpOf) (c0 : Nat) (hL : ∀ c ∈ L, c.ok) (w : World) (y0 : OpsAt w q0 L) : Calls Try.prog 5 #[.int .i64 q, .slice q0 L.length c0] w fun e w' => e = .returned (.bool true) ∧ Below w.heap.size w w' := by
  have HK := Lib.hid K
  have HL := Lib.hid hL
  have Y0 := Lib.hid y0
  clear hL y0
  generalize hn : L.length = n at *
  have HN := Lib.hid hn
  clear hn
  by_cases h400 : 400 < n
  · have f1 : decide ((400 : Int) < (n : Int)) = true := by simp; omega
    have f2 : (400 : Int) < (n : Int) := by omega
    have f3 : decide (400 < n) = true := by simp; omega
    go_enter Try.func5, Try.ntmps5
    go_wp2_with (first
      | (go_at_call 8; refine (alive_ok HK.out w).mono ?_; rintro e w2 ⟨rfl, hb2⟩))
    go_ret
    exact ⟨rfl, hb2⟩
  have H4 := Lib.hid (lt400 h400)
  have f1 : decide ((400 : Int) < (n : Int)) = false := by simp; omega
  have f2 : ¬ (400 : Int) < (n : Int) := by omega
  have f3 : decide (400 < n) = false := by simp; omega
  clear h400
  by_cases hq1 : q < 1
  · have d1 : decide (q < 1) = true := by simp [hq1]
    go_enter Try.func5, Try.ntmps5
    go_wp2_with (first
      | (go_at_call 8; refine (alive_ok HK.out w).mono ?_; rintro e w2 ⟨rfl, hb2⟩))
    go_ret
    exact ⟨rfl, hb2⟩
  by_cases hq8 : 8 < q
  · have d1 : decide (q < 1) = false := by simp; omega
    have d2 : decide (8 < q) = true := by simp [hq8]
    go_enter Try.func5, Try.ntmps5
    go_wp2_with (first
      | (go_at_call 8; refine (alive_ok HK.out w).mono ?_; rintro e w2 ⟨rfl, hb2⟩))
    go_ret
    exact ⟨rfl, hb2⟩
  have d1 : decide (q < 1) = false := by simp; omega
  have d2 : decide (8 < q) = false := by simp; omega
  have HQ := Lib.hid (show 1 ≤ q ∧ q ≤ 8 from by omega)
  clear hq1 hq8
  go_enter Try.func5, Try.ntmps5
  go_wp2_with (first
    | (go_at_call 8; refine (alive_ok HK.out w).mono ?_; rintro e w2 ⟨rfl, hb2⟩; have B2 := Lib.hid hb2; clear hb2)
    | (go_at_call 9; refine (CaS.new HK.out q HQ.out.1 HQ.out.2 B2.out).mono ?_; rintro e w3 ⟨B, rfl, h3⟩; have C3 := Lib.hid h3; clear h3 B2)
    | (refine wpList_map_made rfl rfl Try.underlying57 ?_
       have Q3 := Lib.hid (((QSt.of (X := fun _ => False) C3.out (fun _ h => h)).below HK.out ((Below.refl w3.heap.size w3).alloc (Nat.le_refl _) (.map #[] 0))).mono (Y := fun j => j = w3.heap.size) (fun j hj => .inr ⟨by rw [hj]; exact Nat.le_refl _, by rw [hj, World.size_alloc]; omega⟩))
       have M3 := Lib.hid (MapF.made w3 (.agg (cellsOf .u8 (Go.Proofs.Ytlaclakndleonaa.mk 128 zeroK))))
       have HMW := Lib.hid (show w.heap.size ≤ w3.heap.size from C3.out.low.size)
       clear C3))
  generalize w3.heap.size = MB at *
  generalize w3.alloc (.map #[] 0) = w4 at *
  have HZ := Lib.hid secZero_run
  go_loopw [39] (fun v39 wr => ∃ k : Nat, k ≤ n ∧ v39 = .int .i64 k ∧ ∃ ls t f, t ≤ 2 * k ∧ QSt At w wr B q ls t (fun j => j = MB) ∧ MapF wr MB k (.agg (cellsOf .u8 (Go.Proofs.Ytlaclakndleonaa.mk 128 zeroK))) f ∧ LastOk ls f) (fun v39 _ => n - (intOf v39).toNat)
  case atStart => exact ⟨0, Nat.zero_le _, rfl, [], 0, _, Nat.le_refl _, Q3.out, M3.out, fun _ h => by simp at h⟩
  case round =>
    obtain ⟨k, hk, rfl, ls, t, f, ht, hp, hm, ho⟩ := hrel
    have P := Lib.hid hp
    have MF := Lib.hid hm
    have LO := Lib.hid ho
    clear hp hm ho Q3 M3
    by_cases hlt : k < n
    · obtain ⟨OB, oo, c, rfl, hB, hrg, hc⟩ := rows_op Y0.out (show k < L.length from by rw [HN.out]; exact hlt)
      have HC := Lib.hid (HL.out c hc)
      have HRC := Lib.hid (rangeAt_below hrg P.out.low hB)
      have HLT := Lib.hid hlt
      have HTT := Lib.hid ht
      have HTK := Lib.hid (show t ≤ 100000 from by have := H4.out; omega)
      have HTK1 := Lib.hid (show t + 1 ≤ 100000 from by have := H4.out; omega)
      have HKM := Lib.hid (show k < maxLen from by have := H4.out; unfold maxLen; omega)
      have f9 : (k : Int) < (n : Int) := by omega
      have g3 : IntKind.i64.wrap ((k : Int) + 1) = ((k + 1 : Nat) : Int) := by have := H4.out; rw [IntWalk.i64_in _ (by omega)]; omega
      have OL := Lib.hid (op_laid wr c)
      have G0 := Lib.hid (P.out.good HK.out)
      clear hrg hB hc hlt hk ht
      by_cases hk0 : c.kind = 0
      · have HKD := Lib.hid hk0
        clear hk0
        by_cases hf : findL ls c.u c.b < ls.length
        · have DF := Lib.hid (show decide (findL ls c.u c.b < ls.length) = true from by simp [hf])
          have HG := Lib.hid (LO.out.got c.u c.b hf)
          clear hf
          go_wp2_with (first
            | (refine wpList_op_elem rfl _ _ rfl OB oo n c0 k rfl rfl HLT.out ?_)
            | (refine wpList_op_load rfl _ rfl OB (oo + 5 * k) rfl c HRC.out ?_)
            | (refine wpList_op_alloc rfl rfl wr.heap.size rfl ?_)
            | (refine store_row_on rfl 38 _ _ rfl rfl wr.heap.size c.cells.toArray rfl rfl 38 opZ.cells.toArray (heap_alloc_new _ _) (opA_size c) rfl (opA_one c) ?_
               have BX := Lib.hid OL.out.1
               have P1 := Lib.hid (P.out.below HK.out OL.out.2.1)
               have M2 := Lib.hid (MF.out.keep (OL.out.2.1.block MB MF.out.lt))
               have Z1 := Lib.hid OL.out.2.2
               have HOM := Lib.hid (show ¬ wr.heap.size = MB from by have := MF.out.lt; omega)
               clear OL P HRC MF
               generalize hOO : wr.heap.size = O at *
               generalize (wr.alloc (.cells opZ.cells.toArray 38)).setRow O c.cells.toArray = u1 at *
               have P2 := Lib.hid (P1.out.mono (Y := fun i => i = MB ∨ i = O) (fun i hi => by rcases hi with e | e; exact .inl e; exact .inr (by have := Z1.out; omega)))
               have k0 := BX.out.cell 0
               have k1 := BX.out.cell 1
               have k2 := BX.out.cell 2
               simp only [OpOf.cells, List.getElem?_cons_succ, List.getElem?_cons_zero] at k0 k1 k2
               rw [HKD.out] at k0
               clear HKD
               clear P1 Z1 hOO)
            | (go_at_call 12; refine (P2.out.get HK.out c.u c.b HC.out.u HC.out.b HTK.out).mono ?_; rw [DF.out]; rintro e w6 ⟨rfl, hp6, hf6⟩
               have BL6 := Lib.hid (box_laid w6 (gotL ls c.u c.b))
               have BX6 := Lib.hid (show OpBox w6 O c from (hf6.2 O (.inr rfl)).trans BX.out)
               have M6 := Lib.hid (M2.out.keep (hf6.2 MB (.inl rfl)))
               have P6 := Lib.hid (hp6.below HK.out BL6.out.2.1)
               clear hp6 hf6 P2 M2 BX k0 k1 k2)
            | (refine wpList_line_alloc rfl rfl w6.heap.size rfl ?_)
            | (refine store_row_on rfl 42 _ _ rfl rfl w6.heap.size (lineC (gotL ls c.u c.b)).toArray rfl rfl 42 (lineC noLine).toArray (heap_alloc_new _ _) (lineA_size _) (lineA_same _ _) (lineA_one _) ?_
               have X7 := Lib.hid BL6.out.1
               have BX7 := Lib.hid (BX6.out.below BL6.out.2.1 BX6.out.lt)
               have M7 := Lib.hid (M6.out.keep (BL6.out.2.1.block MB M6.out.lt))
               have P7 := Lib.hid (P6.out.mono (Y := fun i => i = MB ∨ i = O) (fun i hi => .inl hi))
               clear BL6 P6 BX6 M6
               generalize w6.heap.size = O6 at *
               generalize (w6.alloc (.cells (lineC noLine).toArray 42)).setRow O6 (lineC (gotL ls c.u c.b)).toArray = w7 at *))
          have BD := Lib.hid ((Below.refl w7.heap.size w7).drew)
          refine wp_region_sched [(0, true), (1, true), (2, true), (3, true), (4, true), (5, true), (6, true), (7, true), (8, true), (9, true), (10, true), (11, true), (12, true), (13, true), (14, true), (15, true), (16, true), (17, true), (18, true), (19, true), (20, true), (21, true)] (fun V => Below w7.heap.size w7 V) (by kernel_rfl) (by kernel_rfl) BD.out ?_
          refine walk_float rfl rfl (fun K hK => ?_)
          refine gives_move _ rfl ?_
          go_simp
          refine hK _ ?_
          clear hK K
          refine walk_float rfl rfl (fun K hK => ?_)
          refine gives_move _ rfl ?_
          go_simp
          refine hK _ ?_
          clear hK K
          refine walk_float rfl rfl (fun K hK => ?_)
          refine gives_line_field _ 2 2 (by simp) rfl O6 rfl ?_
          go_simp
          refine hK _ ?_
          clear hK K
          refine walk_float rfl rfl (fun K hK => ?_)
          refine gives_line_sec _ rfl O6 rfl (gotL ls c.u c.b) (fun V hV => X7.out.below hV X7.out.lt) ?_
          go_simp
          refine hK _ ?_
          clear hK K
          refine walk_float rfl rfl (fun K hK => ?_)
          refine gives_move _ rfl ?_
          go_simp
          refine hK _ ?_
          clear hK K
          refine walk_float rfl rfl (fun K hK => ?_)
          refine gives_opfield _ 1 rfl (by decide) O rfl ?_
          go_simp
          refine hK _ ?_
          clear hK K
          refine walk_float rfl rfl (fun K hK => ?_)
          refine gives_cell 3 _ rfl ⟨O, 1, none⟩ (.int .i64 c.u) rfl box_int (fun V hV => (BX7.out.below hV BX7.out.lt).u) ?_
          go_simp
          refine hK _ ?_
          clear hK K
          refine walk_float rfl rfl (fun K hK => ?_)
          refine gives_opfield _ 2 rfl (by decide) O rfl ?_
          go_simp
          refine hK _ ?_
          clear hK K
          refine walk_float rfl rfl (fun K hK => ?_)
          refine gives_cell 3 _ rfl ⟨O, 2, none⟩ (.int .i64 c.b) rfl box_int (fun V hV => (BX7.out.below hV BX7.out.lt).w) ?_
          go_simp
          refine hK _ ?_
          clear hK K
          refine walk_float rfl rfl (fun K hK => ?_)
          refine gives_pair _ _ rfl c.u c.b rfl rfl ?_
          go_simp
          refine hK _ ?_
          clear hK K
          refine walk_float rfl rfl (fun K hK => ?_)
          refine gives_map_look Try.underlying57 HZ.out _ _ rfl c.u c.b rfl rfl HC.out.u HC.out.b (fun V hV => M7.out.keep (hV.block MB M7.out.lt)) ?_
          rw [HG.out]
          go_simp
          refine hK _ ?_
          clear hK K
          refine walk_float rfl rfl (fun K hK => ?_)
          refine gives_sec_isnt _ _ rfl (gotL ls c.u c.b).c rfl rfl ?_
          go_simp
          refine hK _ ?_
          clear hK K
          refine walk_float rfl rfl (fun K hK => ?_)
          refine gives_pickT _ _ _ rfl rfl _ rfl ?_
          go_simp
          refine hK _ ?_
          clear hK K
          refine walk_float rfl rfl (fun K hK => ?_)
          refine gives_move _ rfl ?_
          go_simp
          refine hK _ ?_
          clear hK K
          refine walk_float rfl rfl (fun K hK => ?_)
          refine gives_move _ rfl ?_
          go_simp
          refine hK _ ?_
          clear hK K
          refine walk_float rfl rfl (fun K hK => ?_)
          refine gives_not2 _ _ rfl true false rfl rfl ?_
          go_simp
          refine hK _ ?_
          clear hK K
          refine walk_float rfl rfl (fun K hK => ?_)
          refine gives_move _ rfl ?_
          go_simp
          refine hK _ ?_
          clear hK K
          refine walk_off rfl rfl ?_
          go_simp
          refine walk_off rfl rfl ?_
          go_simp
          refine walk_off rfl rfl ?_
          go_simp
          refine walk_float rfl rfl (fun K hK => ?_)
          refine gives_pickF _ _ _ rfl rfl _ rfl ?_
          go_simp
          refine hK _ ?_
          clear hK K
          refine walk_float rfl rfl (fun K hK => ?_)
          refine gives_pickF _ _ _ rfl rfl _ rfl ?_
          go_simp
          refine hK _ ?_
          clear hK K
          refine walk_nil ?_
          have PZ := Lib.hid ((P7.out.below HK.out BD.out).mono (Y := fun j => j = MB) (fun j hj => .inl (.inl hj)))
          have MZ := Lib.hid ((M7.out.keep (BD.out.block MB M7.out.lt)).mono (Nat.le_succ k))
          go_wp2
          go_roundw
          case rel => exact ⟨k + 1, HLT.out, by go_num, getL ls c.u c.b, t + 1, f, by have := HTT.out; omega, PZ.out, MZ.out, LO.out.get _ _⟩
          case measure => have := HLT.out; simp [intOf]; omega

        · have DF := Lib.hid (show decide (findL ls c.u c.b < ls.length) = false from by simp [hf])
          have HG := Lib.hid (got_none hf)
          have HSN := Lib.hid (show (!(sameLine noLine noLine)) = false from by rw [(sameLine_iff noLine_ok noLine_ok).2 rfl]; rfl)
          clear hf
          go_wp2_with (first
            | (refine wpList_op_elem rfl _ _ rfl OB oo n c0 k rfl rfl HLT.out ?_)
            | (refine wpList_op_load rfl _ rfl OB (oo + 5 * k) rfl c HRC.out ?_)
            | (refine wpList_op_alloc rfl rfl wr.heap.size rfl ?_)
            | (refine store_row_on rfl 38 _ _ rfl rfl wr.heap.size c.cells.toArray rfl rfl 38 opZ.cells.toArray (heap_alloc_new _ _) (opA_size c) rfl (opA_one c) ?_
               have BX := Lib.hid OL.out.1
               have P1 := Lib.hid (P.out.below HK.out OL.out.2.1)
               have M2 := Lib.hid (MF.out.keep (OL.out.2.1.block MB MF.out.lt))
               have Z1 := Lib.hid OL.out.2.2
               have HOM := Lib.hid (show ¬ wr.heap.size = MB from by have := MF.out.lt; omega)
               clear OL P HRC MF
               generalize hOO : wr.heap.size = O at *
               generalize (wr.alloc (.cells opZ.cells.toArray 38)).setRow O c.cells.toArray = u1 at *
               have P2 := Lib.hid (P1.out.mono (Y := fun i => i = MB ∨ i = O) (fun i hi => by rcases hi with e | e; exact .inl e; exact .inr (by have := Z1.out; omega)))
               have k0 := BX.out.cell 0
               have k1 := BX.out.cell 1
               have k2 := BX.out.cell 2
               simp only [OpOf.cells, List.getElem?_cons_succ, List.getElem?_cons_zero] at k0 k1 k2
               rw [HKD.out] at k0
               clear HKD
               clear P1 Z1 hOO)
            | (go_at_call 12; refine (P2.out.get HK.out c.u c.b HC.out.u HC.out.b HTK.out).mono ?_; rw [DF.out, HG.out]; rintro e w6 ⟨rfl, hp6, hf6⟩
               have BL6 := Lib.hid (box_laid w6 noLine)
               have BX6 := Lib.hid (show OpBox w6 O c from (hf6.2 O (.inr rfl)).trans BX.out)
               have M6 := Lib.hid (M2.out.keep (hf6.2 MB (.inl rfl)))
               have P6 := Lib.hid (hp6.below HK.out BL6.out.2.1)
               clear hp6 hf6 P2 M2 BX k0 k1 k2)
            | (refine wpList_line_alloc rfl rfl w6.heap.size rfl ?_)
            | (refine store_row_on rfl 42 _ _ rfl rfl w6.heap.size (lineC noLine).toArray rfl rfl 42 (lineC noLine).toArray (heap_alloc_new _ _) (lineA_size _) (lineA_same _ _) (lineA_one _) ?_
               have X7 := Lib.hid BL6.out.1
               have BX7 := Lib.hid (BX6.out.below BL6.out.2.1 BX6.out.lt)
               have M7 := Lib.hid (M6.out.keep (BL6.out.2.1.block MB M6.out.lt))
               have P7 := Lib.hid (P6.out.mono (Y := fun i => i = MB ∨ i = O) (fun i hi => .inl hi))
               clear BL6 P6 BX6 M6
               generalize w6.heap.size = O6 at *
               generalize (w6.alloc (.cells (lineC noLine).toArray 42)).setRow O6 (lineC noLine).toArray = w7 at *))
          have BD := Lib.hid ((Below.refl w7.heap.size w7).drew)
          refine wp_region_sched [(0, true), (1, true), (2, true), (3, true), (4, true), (5, true), (6, true), (7, true), (8, true), (9, true), (10, true), (11, true), (12, true), (13, true), (14, true), (15, true), (16, true), (17, true), (18, true), (19, true), (20, true), (21, true)] (fun V => Below w7.heap.size w7 V) (by kernel_rfl) (by kernel_rfl) BD.out ?_
          refine walk_float rfl rfl (fun K hK => ?_)
          refine gives_move _ rfl ?_
          go_simp
          refine hK _ ?_
          clear hK K
          refine walk_float rfl rfl (fun K hK => ?_)
          refine gives_move _ rfl ?_
          go_simp
          refine hK _ ?_
          clear hK K
          refine walk_off rfl rfl ?_
          go_simp
          refine walk_off rfl rfl ?_
          go_simp
          refine walk_off rfl rfl ?_
          go_simp
          refine walk_off rfl rfl ?_
          go_simp
          refine walk_off rfl rfl ?_
          go_simp
          refine walk_off rfl rfl ?_
          go_simp
          refine walk_off rfl rfl ?_
          go_simp
          refine walk_off rfl rfl ?_
          go_simp
          refine walk_off rfl rfl ?_
          go_simp
          refine walk_off rfl rfl ?_
          go_simp
          refine walk_float rfl rfl (fun K hK => ?_)
          refine gives_pickF _ _ _ rfl rfl _ rfl ?_
          go_simp
          refine hK _ ?_
          clear hK K
          refine walk_float rfl rfl (fun K hK => ?_)
          refine gives_move _ rfl ?_
          go_simp
          refine hK _ ?_
          clear hK K
          refine walk_float rfl rfl (fun K hK => ?_)
          refine gives_move _ rfl ?_
          go_simp
          refine hK _ ?_
          clear hK K
          refine walk_float rfl rfl (fun K hK => ?_)
          refine gives_not2 _ _ rfl false true rfl rfl ?_
          go_simp
          refine hK _ ?_
          clear hK K
          refine walk_float rfl rfl (fun K hK => ?_)
          refine gives_move _ rfl ?_
          go_simp
          refine hK _ ?_
          clear hK K
          refine walk_float rfl rfl (fun K hK => ?_)
          refine gives_line_load _ rfl O6 0 rfl noLine (fun V hV => (X7.out.below hV X7.out.lt).range) ?_
          go_simp
          refine hK _ ?_
          clear hK K
          refine walk_float rfl rfl (fun K hK => ?_)
          refine gives_line_zero rfl ?_
          go_simp
          refine hK _ ?_
          clear hK K
          refine walk_float rfl rfl (fun K hK => ?_)
          refine gives_line_neq _ _ rfl noLine noLine rfl rfl false HSN.out ?_
          go_simp
          refine hK _ ?_
          clear hK K
          refine walk_float rfl rfl (fun K hK => ?_)
          refine gives_pickT _ _ _ rfl rfl _ rfl ?_
          go_simp
          refine hK _ ?_
          clear hK K
          refine walk_float rfl rfl (fun K hK => ?_)
          refine gives_pickF _ _ _ rfl rfl _ rfl ?_
          go_simp
          refine hK _ ?_
          clear hK K
          refine walk_nil ?_
          have PZ := Lib.hid ((P7.out.below HK.out BD.out).mono (Y := fun j => j = MB) (fun j hj => .inl (.inl hj)))
          have MZ := Lib.hid ((M7.out.keep (BD.out.block MB M7.out.lt)).mono (Nat.le_succ k))
          go_wp2
          go_roundw
          case rel => exact ⟨k + 1, HLT.out, by go_num, getL ls c.u c.b, t + 1, f, by have := HTT.out; omega, PZ.out, MZ.out, LO.out.get _ _⟩
          case measure => have := HLT.out; simp [intOf]; omega

      by_cases hk1 : c.kind = 1
      · have HKD := Lib.hid hk1
        clear hk0 hk1
        by_cases hp0 : putN q ls c.line = 0
        · have HP0 := Lib.hid hp0
          have HLO := Lib.hid (LO.out.put G0.out hp0)
          obtain ⟨hf, dd, hg⟩ := put_got G0.out hp0
          have DF := Lib.hid (show decide (findL (putS q ls c.line) c.u c.b < (putS q ls c.line).length) = true from decide_eq_true hf)
          have HGC := Lib.hid (show (gotL (putS q ls c.line) c.u c.b).c = Go.Proofs.Ytlaclakndleonaa.mk 128 (oneB c.byte) from congrArg LineOf.c hg)
          have HGD := Lib.hid (show (gotL (putS q ls c.line) c.u c.b).d = (c.d || dd) from congrArg LineOf.d hg)
          clear hf hg hp0
          have HMT := Lib.hid Try.underlying57
          cases hcd : c.d with
          | true =>
            have HCD := Lib.hid hcd
            clear hcd
            go_wp2_with (first
              | (refine wpList_op_elem rfl _ _ rfl OB oo n c0 k rfl rfl HLT.out ?_)
              | (refine wpList_op_load rfl _ rfl OB (oo + 5 * k) rfl c HRC.out ?_)
              | (refine wpList_op_alloc rfl rfl wr.heap.size rfl ?_)
              | (refine store_row_on rfl 38 _ _ rfl rfl wr.heap.size c.cells.toArray rfl rfl 38 opZ.cells.toArray (heap_alloc_new _ _) (opA_size c) rfl (opA_one c) ?_
                 have BX := Lib.hid OL.out.1
                 have P1 := Lib.hid (P.out.below HK.out OL.out.2.1)
                 have M2 := Lib.hid (MF.out.keep (OL.out.2.1.block MB MF.out.lt))
                 have Z1 := Lib.hid OL.out.2.2
                 have HOM := Lib.hid (show ¬ wr.heap.size = MB from by have := MF.out.lt; omega)
                 clear OL P HRC MF
                 generalize hOO : wr.heap.size = O at *
                 generalize (wr.alloc (.cells opZ.cells.toArray 38)).setRow O c.cells.toArray = u1 at *
                 have P2 := Lib.hid (P1.out.mono (Y := fun i => i = MB ∨ i = O) (fun i hi => by rcases hi with e | e; exact .inl e; exact .inr (by have := Z1.out; omega)))
                 have k0 := BX.out.cell 0
                 have k1 := BX.out.cell 1
                 have k2 := BX.out.cell 2
                 simp only [OpOf.cells, List.getElem?_cons_succ, List.getElem?_cons_zero] at k0 k1 k2
                 rw [HKD.out] at k0
                 clear HKD
                 clear P1 Z1 hOO)
              | (refine wpList_op_load rfl _ rfl O 0 rfl c (BX.out.range) ?_)
              | (go_at_call 16; refine (line_any c HC.out _).mono ?_; rintro e w5 ⟨rfl, hb5⟩
                 have P5 := Lib.hid ((P2.out.below HK.out hb5).mono (Y := fun i => i = MB ∨ i = O) (fun i hi => .inl hi))
                 have BX5 := Lib.hid (BX.out.below hb5 BX.out.lt)
                 have M5 := Lib.hid (M2.out.keep (hb5.block MB M2.out.lt))
                 clear hb5 P2 BX M2 k0 k1 k2)
              | (go_at_call 15; refine (P5.out.put HK.out c.line (OpOf.line_ok HC.out) HTK.out).mono ?_; rw [HP0.out, errN_zero]; rintro e w6 ⟨rfl, hp6, hf6⟩
                 have P6 := Lib.hid hp6
                 have BX6 := Lib.hid (show OpBox w6 O c from (hf6.2 O (.inr rfl)).trans BX5.out)
                 have M6 := Lib.hid (M5.out.keep (hf6.2 MB (.inl rfl)))
                 clear hp6 hf6 P5 BX5 M5
                 have k1 := BX6.out.cell 1
                 have k2 := BX6.out.cell 2
                 have k3 := BX6.out.cell 3
                 simp only [OpOf.cells, List.getElem?_cons_succ, List.getElem?_cons_zero] at k1 k2 k3)
              | (refine wpList_pair rfl _ _ rfl c.u c.b rfl rfl ?_)
              | (refine wpList_sec1v rfl _ rfl c.byte HC.out.byte rfl ?_; go_simp)
              | (refine wpList_map_store rfl HMT.out _ _ _ rfl c.u c.b (cellV (Go.Proofs.Ytlaclakndleonaa.mk 128 (oneB c.byte))) rfl rfl rfl HC.out.u HC.out.b HKM.out M6.out ?_
                 intro w9 hm9 hk9
                 have M9 := Lib.hid hm9
                 have P9 := Lib.hid (P6.out.wrote HK.out hk9 (fun i hi => .inl hi) (fun i hi => by rw [hi]; exact HMW.out))
                 have BX9 := Lib.hid (show OpBox w9 O c from (hk9.block O BX6.out.lt HOM.out).trans BX6.out)
                 clear hm9 hk9 M6 P6 BX6 k1 k2 k3
                 have k1 := BX9.out.cell 1
                 have k2 := BX9.out.cell 2
                 simp only [OpOf.cells, List.getElem?_cons_succ, List.getElem?_cons_zero] at k1 k2)
              | (go_at_call 12; refine (P9.out.get HK.out c.u c.b HC.out.u HC.out.b HTK1.out).mono ?_; rw [DF.out]; rintro e w10 ⟨rfl, hp6, hf6⟩
                 have BL10 := Lib.hid (box_laid w10 (gotL (putS q ls c.line) c.u c.b))
                 have BX10 := Lib.hid (show OpBox w10 O c from (hf6.2 O (.inr rfl)).trans BX9.out)
                 have M10 := Lib.hid (M9.out.keep (hf6.2 MB (.inl rfl)))
                 have P10 := Lib.hid (hp6.below HK.out BL10.out.2.1)
                 clear hp6 hf6 P9 M9 BX9 k1 k2)
              | (refine wpList_line_alloc rfl rfl w10.heap.size rfl ?_)
              | (refine store_row_on rfl 42 _ _ rfl rfl w10.heap.size (lineC (gotL (putS q ls c.line) c.u c.b)).toArray rfl rfl 42 (lineC noLine).toArray (heap_alloc_new _ _) (lineA_size _) (lineA_same _ _) (lineA_one _) ?_
                 have X11 := Lib.hid BL10.out.1
                 have BX11 := Lib.hid (BX10.out.below BL10.out.2.1 BX10.out.lt)
                 have M11 := Lib.hid (M10.out.keep (BL10.out.2.1.block MB M10.out.lt))
                 have P11 := Lib.hid (P10.out.mono (Y := fun i => i = MB ∨ i = O) (fun i hi => .inl hi))
                 clear BL10 P10 BX10 M10
                 generalize w10.heap.size = O10 at *
                 generalize (w10.alloc (.cells (lineC noLine).toArray 42)).setRow O10 (lineC (gotL (putS q ls c.line) c.u c.b)).toArray = w11 at *
                 have k3 := BX11.out.cell 3
                 have k4 := BX11.out.cell 4
                 simp only [OpOf.cells, List.getElem?_cons_succ, List.getElem?_cons_zero] at k3 k4
                 rw [HCD.out] at k4
                 have kd : w11.cell? ⟨O10, 130, none⟩ = some (.bool true) := by have := (X11.out.cell 130).trans (lineC_d _); rw [HGD.out, HCD.out] at this; exact this)
              | (refine wpList_line_sec rfl _ rfl O10 rfl (gotL (putS q ls c.line) c.u c.b) X11.out ?_
                 rw [HGC.out]
                 go_simp)
              | (refine wpList_sec_isnt rfl _ _ rfl (Go.Proofs.Ytlaclakndleonaa.mk 128 (oneB c.byte)) rfl rfl ?_; go_simp))
            have PZ := Lib.hid (P11.out.mono (Y := fun j => j = MB) (fun j hj => .inl hj))
            have MZ := Lib.hid (M11.out)
            go_wp2
            go_roundw
            case rel => exact ⟨k + 1, HLT.out, by go_num, getL (putS q ls c.line) c.u c.b, t + 1 + 1, _, by have := HTT.out; omega, PZ.out, MZ.out, HLO.out.get _ _⟩
            case measure => have := HLT.out; simp [intOf]; omega

          | false =>
            have HCD := Lib.hid hcd
            clear hcd
            go_wp2_with (first
              | (refine wpList_op_elem rfl _ _ rfl OB oo n c0 k rfl rfl HLT.out ?_)
              | (refine wpList_op_load rfl _ rfl OB (oo + 5 * k) rfl c HRC.out ?_)
              | (refine wpList_op_alloc rfl rfl wr.heap.size rfl ?_)
              | (refine store_row_on rfl 38 _ _ rfl rfl wr.heap.size c.cells.toArray rfl rfl 38 opZ.cells.toArray (heap_alloc_new _ _) (opA_size c) rfl (opA_one c) ?_
                 have BX := Lib.hid OL.out.1
                 have P1 := Lib.hid (P.out.below HK.out OL.out.2.1)
                 have M2 := Lib.hid (MF.out.keep (OL.out.2.1.block MB MF.out.lt))
                 have Z1 := Lib.hid OL.out.2.2
                 have HOM := Lib.hid (show ¬ wr.heap.size = MB from by have := MF.out.lt; omega)
                 clear OL P HRC MF
                 generalize hOO : wr.heap.size = O at *
                 generalize (wr.alloc (.cells opZ.cells.toArray 38)).setRow O c.cells.toArray = u1 at *
                 have P2 := Lib.hid (P1.out.mono (Y := fun i => i = MB ∨ i = O) (fun i hi => by rcases hi with e | e; exact .inl e; exact .inr (by have := Z1.out; omega)))
                 have k0 := BX.out.cell 0
                 have k1 := BX.out.cell 1
                 have k2 := BX.out.cell 2
                 simp only [OpOf.cells, List.getElem?_cons_succ, List.getElem?_cons_zero] at k0 k1 k2
                 rw [HKD.out] at k0
                 clear HKD
                 clear P1 Z1 hOO)
              | (refine wpList_op_load rfl _ rfl O 0 rfl c (BX.out.range) ?_)
              | (go_at_call 16; refine (line_any c HC.out _).mono ?_; rintro e w5 ⟨rfl, hb5⟩
                 have P5 := Lib.hid ((P2.out.below HK.out hb5).mono (Y := fun i => i = MB ∨ i = O) (fun i hi => .inl hi))
                 have BX5 := Lib.hid (BX.out.below hb5 BX.out.lt)
                 have M5 := Lib.hid (M2.out.keep (hb5.block MB M2.out.lt))
                 clear hb5 P2 BX M2 k0 k1 k2)
              | (go_at_call 15; refine (P5.out.put HK.out c.line (OpOf.line_ok HC.out) HTK.out).mono ?_; rw [HP0.out, errN_zero]; rintro e w6 ⟨rfl, hp6, hf6⟩
                 have P6 := Lib.hid hp6
                 have BX6 := Lib.hid (show OpBox w6 O c from (hf6.2 O (.inr rfl)).trans BX5.out)
                 have M6 := Lib.hid (M5.out.keep (hf6.2 MB (.inl rfl)))
                 clear hp6 hf6 P5 BX5 M5
                 have k1 := BX6.out.cell 1
                 have k2 := BX6.out.cell 2
                 have k3 := BX6.out.cell 3
                 simp only [OpOf.cells, List.getElem?_cons_succ, List.getElem?_cons_zero] at k1 k2 k3)
              | (refine wpList_pair rfl _ _ rfl c.u c.b rfl rfl ?_)
              | (refine wpList_sec1v rfl _ rfl c.byte HC.out.byte rfl ?_; go_simp)
              | (refine wpList_map_store rfl HMT.out _ _ _ rfl c.u c.b (cellV (Go.Proofs.Ytlaclakndleonaa.mk 128 (oneB c.byte))) rfl rfl rfl HC.out.u HC.out.b HKM.out M6.out ?_
                 intro w9 hm9 hk9
                 have M9 := Lib.hid hm9
                 have P9 := Lib.hid (P6.out.wrote HK.out hk9 (fun i hi => .inl hi) (fun i hi => by rw [hi]; exact HMW.out))
                 have BX9 := Lib.hid (show OpBox w9 O c from (hk9.block O BX6.out.lt HOM.out).trans BX6.out)
                 clear hm9 hk9 M6 P6 BX6 k1 k2 k3
                 have k1 := BX9.out.cell 1
                 have k2 := BX9.out.cell 2
                 simp only [OpOf.cells, List.getElem?_cons_succ, List.getElem?_cons_zero] at k1 k2)
              | (go_at_call 12; refine (P9.out.get HK.out c.u c.b HC.out.u HC.out.b HTK1.out).mono ?_; rw [DF.out]; rintro e w10 ⟨rfl, hp6, hf6⟩
                 have BL10 := Lib.hid (box_laid w10 (gotL (putS q ls c.line) c.u c.b))
                 have BX10 := Lib.hid (show OpBox w10 O c from (hf6.2 O (.inr rfl)).trans BX9.out)
                 have M10 := Lib.hid (M9.out.keep (hf6.2 MB (.inl rfl)))
                 have P10 := Lib.hid (hp6.below HK.out BL10.out.2.1)
                 clear hp6 hf6 P9 M9 BX9 k1 k2)
              | (refine wpList_line_alloc rfl rfl w10.heap.size rfl ?_)
              | (refine store_row_on rfl 42 _ _ rfl rfl w10.heap.size (lineC (gotL (putS q ls c.line) c.u c.b)).toArray rfl rfl 42 (lineC noLine).toArray (heap_alloc_new _ _) (lineA_size _) (lineA_same _ _) (lineA_one _) ?_
                 have X11 := Lib.hid BL10.out.1
                 have BX11 := Lib.hid (BX10.out.below BL10.out.2.1 BX10.out.lt)
                 have M11 := Lib.hid (M10.out.keep (BL10.out.2.1.block MB M10.out.lt))
                 have P11 := Lib.hid (P10.out.mono (Y := fun i => i = MB ∨ i = O) (fun i hi => .inl hi))
                 clear BL10 P10 BX10 M10
                 generalize w10.heap.size = O10 at *
                 generalize (w10.alloc (.cells (lineC noLine).toArray 42)).setRow O10 (lineC (gotL (putS q ls c.line) c.u c.b)).toArray = w11 at *
                 have k3 := BX11.out.cell 3
                 have k4 := BX11.out.cell 4
                 simp only [OpOf.cells, List.getElem?_cons_succ, List.getElem?_cons_zero] at k3 k4
                 rw [HCD.out] at k4)
              | (refine wpList_line_sec rfl _ rfl O10 rfl (gotL (putS q ls c.line) c.u c.b) X11.out ?_
                 rw [HGC.out]
                 go_simp)
              | (refine wpList_sec_isnt rfl _ _ rfl (Go.Proofs.Ytlaclakndleonaa.mk 128 (oneB c.byte)) rfl rfl ?_; go_simp))
            have PZ := Lib.hid (P11.out.mono (Y := fun j => j = MB) (fun j hj => .inl hj))
            have MZ := Lib.hid (M11.out)
            go_wp2
            go_roundw
            case rel => exact ⟨k + 1, HLT.out, by go_num, getL (putS q ls c.line) c.u c.b, t + 1 + 1, _, by have := HTT.out; omega, PZ.out, MZ.out, HLO.out.get _ _⟩
            case measure => have := HLT.out; simp [intOf]; omega

        · have HPN := Lib.hid (put_failed hp0).1
          have HPS := Lib.hid (put_failed hp0).2
          clear hp0
          go_wp2_with (first
            | (refine wpList_op_elem rfl _ _ rfl OB oo n c0 k rfl rfl HLT.out ?_)
            | (refine wpList_op_load rfl _ rfl OB (oo + 5 * k) rfl c HRC.out ?_)
            | (refine wpList_op_alloc rfl rfl wr.heap.size rfl ?_)
            | (refine store_row_on rfl 38 _ _ rfl rfl wr.heap.size c.cells.toArray rfl rfl 38 opZ.cells.toArray (heap_alloc_new _ _) (opA_size c) rfl (opA_one c) ?_
               have BX := Lib.hid OL.out.1
               have P1 := Lib.hid (P.out.below HK.out OL.out.2.1)
               have M2 := Lib.hid (MF.out.keep (OL.out.2.1.block MB MF.out.lt))
               have Z1 := Lib.hid OL.out.2.2
               have HOM := Lib.hid (show ¬ wr.heap.size = MB from by have := MF.out.lt; omega)
               clear OL P HRC MF
               generalize hOO : wr.heap.size = O at *
               generalize (wr.alloc (.cells opZ.cells.toArray 38)).setRow O c.cells.toArray = u1 at *
               have P2 := Lib.hid (P1.out.mono (Y := fun i => i = MB ∨ i = O) (fun i hi => by rcases hi with e | e; exact .inl e; exact .inr (by have := Z1.out; omega)))
               have k0 := BX.out.cell 0
               have k1 := BX.out.cell 1
               have k2 := BX.out.cell 2
               simp only [OpOf.cells, List.getElem?_cons_succ, List.getElem?_cons_zero] at k0 k1 k2
               rw [HKD.out] at k0
               clear HKD
               clear P1 Z1 hOO)
            | (refine wpList_op_load rfl _ rfl O 0 rfl c (BX.out.range) ?_)
            | (go_at_call 16; refine (line_any c HC.out _).mono ?_; rintro e w5 ⟨rfl, hb5⟩
               have P5 := Lib.hid ((P2.out.below HK.out hb5).mono (Y := fun i => i = MB ∨ i = O) (fun i hi => .inl hi))
               have BX5 := Lib.hid (BX.out.below hb5 BX.out.lt)
               have M5 := Lib.hid (M2.out.keep (hb5.block MB M2.out.lt))
               clear hb5 P2 BX M2 k0 k1 k2)
            | (go_at_call 15; refine (P5.out.put HK.out c.line (OpOf.line_ok HC.out) HTK.out).mono ?_; rw [HPN.out, HPS.out, errN_seven]; rintro e w6 ⟨rfl, hp6, hf6⟩
               have P6 := Lib.hid hp6
               have BX6 := Lib.hid (show OpBox w6 O c from (hf6.2 O (.inr rfl)).trans BX5.out)
               have M6 := Lib.hid (M5.out.keep (hf6.2 MB (.inl rfl)))
               clear hp6 hf6 P5 BX5 M5))
          have PZ := Lib.hid (P6.out.mono (Y := fun j => j = MB) (fun j hj => .inl hj))
          have MZ := Lib.hid (M6.out.mono (Nat.le_succ k))
          go_wp2
          go_roundw
          case rel => exact ⟨k + 1, HLT.out, by go_num, ls, t + 1, f, by have := HTT.out; omega, PZ.out, MZ.out, LO.out⟩
          case measure => have := HLT.out; simp [intOf]; omega

      by_cases hk2 : c.kind = 2
      · have HKD := Lib.hid hk2
        clear hk0 hk1 hk2
        have HCN := Lib.hid (show takeD (dirtyL (cleanedL ls)) 9 = [] from by rw [clean_none]; unfold takeD; rfl)
        go_wp2_with (first
          | (refine wpList_op_elem rfl _ _ rfl OB oo n c0 k rfl rfl HLT.out ?_)
          | (refine wpList_op_load rfl _ rfl OB (oo + 5 * k) rfl c HRC.out ?_)
          | (refine wpList_op_alloc rfl rfl wr.heap.size rfl ?_)
          | (refine store_row_on rfl 38 _ _ rfl rfl wr.heap.size c.cells.toArray rfl rfl 38 opZ.cells.toArray (heap_alloc_new _ _) (opA_size c) rfl (opA_one c) ?_
             have BX := Lib.hid OL.out.1
             have P1 := Lib.hid (P.out.below HK.out OL.out.2.1)
             have M2 := Lib.hid (MF.out.keep (OL.out.2.1.block MB MF.out.lt))
             have Z1 := Lib.hid OL.out.2.2
             have HOM := Lib.hid (show ¬ wr.heap.size = MB from by have := MF.out.lt; omega)
             clear OL P HRC MF
             generalize hOO : wr.heap.size = O at *
             generalize (wr.alloc (.cells opZ.cells.toArray 38)).setRow O c.cells.toArray = u1 at *
             have P2 := Lib.hid (P1.out.mono (Y := fun i => i = MB ∨ i = O) (fun i hi => by rcases hi with e | e; exact .inl e; exact .inr (by have := Z1.out; omega)))
             have k0 := BX.out.cell 0
             have k1 := BX.out.cell 1
             have k2 := BX.out.cell 2
             simp only [OpOf.cells, List.getElem?_cons_succ, List.getElem?_cons_zero] at k0 k1 k2
             rw [HKD.out] at k0
             clear HKD
             clear P1 Z1 hOO)
          | (go_at_call 18; refine (P2.out.clean HK.out HTK.out).mono ?_; rintro e w6 ⟨rfl, hp6, hf6⟩
             have P6 := Lib.hid hp6
             have M6 := Lib.hid (M2.out.keep (hf6.2 MB (.inl rfl)))
             clear hp6 hf6 P2 M2 BX k0 k1 k2)
          | (go_at_call 25; refine (P6.out.cas.dirty HK.out 9).mono ?_; rw [HCN.out]; rintro e w8 ⟨v, rfl, ho, -, hb8⟩
             have P8 := Lib.hid ((P6.out.below HK.out hb8).mono (Y := fun i => i = MB ∨ i = O) (fun i hi => .inl hi))
             have M8 := Lib.hid (M6.out.keep (hb8.block MB M6.out.lt))
             obtain ⟨pb, cb, hvb, -, -, -, -⟩ := ho.rows elemLine.len
             subst hvb
             clear hb8 ho P6 M6))
        have PZ := Lib.hid (P8.out.mono (Y := fun j => j = MB) (fun j hj => .inl hj))
        have MZ := Lib.hid (M8.out.mono (Nat.le_succ k))
        go_wp2
        go_roundw
        case rel => exact ⟨k + 1, HLT.out, by go_num, cleanedL ls, t + 1, f, by have := HTT.out; omega, PZ.out, MZ.out, LO.out.clean⟩
        case measure => have := HLT.out; simp [intOf]; omega

      have e0 : decide (c.kind = 0) = false := by simp [hk0]
      have e1 : decide (c.kind = 1) = false := by simp [hk1]
      have e2 : decide (c.kind = 2) = false := by simp [hk2]
      have b0 : (c.kind == 0) = false := by simp [hk0]
      have b1 : (c.kind == 1) = false := by simp [hk1]
      have b2 : (c.kind == 2) = false := by simp [hk2]
      clear hk0 hk1 hk2
      have DF := Lib.hid (show decide (findL (dropL ls c.u) c.u c.b < (dropL ls c.u).length) = false from decide_eq_false (drop_not ls c.u c.b))
      have HG := Lib.hid (got_none (drop_not ls c.u c.b))
      go_wp2_with (first
        | (refine wpList_op_elem rfl _ _ rfl OB oo n c0 k rfl rfl HLT.out ?_)
        | (refine wpList_op_load rfl _ rfl OB (oo + 5 * k) rfl c HRC.out ?_)
        | (refine wpList_op_alloc rfl rfl wr.heap.size rfl ?_)
        | (refine store_row_on rfl 38 _ _ rfl rfl wr.heap.size c.cells.toArray rfl rfl 38 opZ.cells.toArray (heap_alloc_new _ _) (opA_size c) rfl (opA_one c) ?_
           have BX := Lib.hid OL.out.1
           have P1 := Lib.hid (P.out.below HK.out OL.out.2.1)
           have M2 := Lib.hid (MF.out.keep (OL.out.2.1.block MB MF.out.lt))
           have Z1 := Lib.hid OL.out.2.2
           have HOM := Lib.hid (show ¬ wr.heap.size = MB from by have := MF.out.lt; omega)
           clear OL P HRC MF
           generalize hOO : wr.heap.size = O at *
           generalize (wr.alloc (.cells opZ.cells.toArray 38)).setRow O c.cells.toArray = u1 at *
           have P2 := Lib.hid (P1.out.mono (Y := fun i => i = MB ∨ i = O) (fun i hi => by rcases hi with e | e; exact .inl e; exact .inr (by have := Z1.out; omega)))
           have k0 := BX.out.cell 0
           have k1 := BX.out.cell 1
           have k2 := BX.out.cell 2
           simp only [OpOf.cells, List.getElem?_cons_succ, List.getElem?_cons_zero] at k0 k1 k2
           clear P1 Z1 hOO)
        | (go_at_call 20; refine (P2.out.drop HK.out c.u HC.out.u HTK.out).mono ?_; rintro e w4 ⟨rfl, hp6, hf6⟩
           have P4 := Lib.hid hp6
           have BX4 := Lib.hid (show OpBox w4 O c from (hf6.2 O (.inr rfl)).trans BX.out)
           have M4 := Lib.hid (M2.out.keep (hf6.2 MB (.inl rfl)))
           clear hp6 hf6 P2 M2 BX k0 k1 k2
           have k1 := BX4.out.cell 1
           have k2 := BX4.out.cell 2
           simp only [OpOf.cells, List.getElem?_cons_succ, List.getElem?_cons_zero] at k1 k2)
        | (go_at_call 12; refine (P4.out.get HK.out c.u c.b HC.out.u HC.out.b HTK1.out).mono ?_; rw [DF.out, HG.out]; rintro e w6 ⟨rfl, hp6, hf6⟩
           have BL6 := Lib.hid (box_laid w6 noLine)
           have BX6 := Lib.hid (show OpBox w6 O c from (hf6.2 O (.inr rfl)).trans BX4.out)
           have M6 := Lib.hid (M4.out.keep (hf6.2 MB (.inl rfl)))
           have P6 := Lib.hid (hp6.below HK.out BL6.out.2.1)
           clear hp6 hf6 P4 M4 BX4 k1 k2)
        | (refine wpList_line_alloc rfl rfl w6.heap.size rfl ?_)
        | (refine store_row_on rfl 42 _ _ rfl rfl w6.heap.size (lineC noLine).toArray rfl rfl 42 (lineC noLine).toArray (heap_alloc_new _ _) (lineA_size _) (lineA_same _ _) (lineA_one _) ?_
           have X7 := Lib.hid BL6.out.1
           have BX7 := Lib.hid (BX6.out.below BL6.out.2.1 BX6.out.lt)
           have M7 := Lib.hid (M6.out.keep (BL6.out.2.1.block MB M6.out.lt))
           have P7 := Lib.hid (P6.out.mono (Y := fun i => i = MB ∨ i = O) (fun i hi => .inl hi))
           clear BL6 P6 BX6 M6
           generalize w6.heap.size = O6 at *
           generalize (w6.alloc (.cells (lineC noLine).toArray 42)).setRow O6 (lineC noLine).toArray = w7 at *))
      have PZ := Lib.hid (P7.out.mono (Y := fun j => j = MB) (fun j hj => .inl hj))
      have MZ := Lib.hid (M7.out.mono (Nat.le_succ k))
      go_wp2
      go_roundw
      case rel => exact ⟨k + 1, HLT.out, by go_num, getL (dropL ls c.u) c.u c.b, t + 1 + 1, f, by have := HTT.out; omega, PZ.out, MZ.out, (LO.out.drop c.u).get _ _⟩
      case measure => have := HLT.out; simp [intOf]; omega

    · have f9 : ¬ (k : Int) < (n : Int) := by omega
      obtain rfl : k = n := by omega
      have HLO := Lib.hid P.out.low
      clear hlt hk P
      go_wp2
      go_ret
      exact ⟨rfl, HLO.out⟩
theorem laidOut : laidOutB Try.prog = true := by kernel_rfl
set_option maxRecDepth 100000 in
theorem lifted (os : Os) (started : os.Started) (H : Type) (enc : TypeId × Value → H) :
    ReturnsInHanded {} Try.checked os 5 .any (Rows.cacheLastSpec.pre6 enc Try.prog Try.f5 Rows.cacheLastRow.domain false) (Rows.cacheLastSpec.post enc Try.prog Try.f5 false true false false) := by
  refine returnsInHanded_of_change (C := Try.checked) own started (by kernel_rfl) Try.func5
    (ChangeSpec.witness6 (enc := enc) (C := Try.checked) false ⟨#[], #[.int .i64 0, .slice none 0 0], []⟩ 8 (by kernel_rfl) (by kernel_rfl) (by kernel_rfl) (by kernel_rfl)) ?_
  intro W base args ds gs before hval0 hW hcnd _
  have hval : ∀ (j : Nat) t v, Try.f5.params[j]? = some t → args[j]? = some v → Value.okWide Try.prog W .any base t v := hval0
  have hW' := hW
  obtain ⟨p, q, hA0, hV, rfl, hfz, hnd⟩ := hW
  have hA : DataW.TrodAll enc Try.prog W 0 (fun _ => true) true Try.f5.params.toList args.toList ds p := hA0
  rw [Try.params5] at hA hval
  obtain ⟨v0, vs0, d0, ds0, p0, q0, hargs, rfl, rfl, h0, r0⟩ := trodAll_cons hA
  obtain ⟨v1, vs1, d1, ds1, p1, q1, rfl, rfl, rfl, h1, r1⟩ := trodAll_cons r0
  obtain ⟨rfl, rfl, rfl⟩ := trodAll_nil r1
  obtain rfl : args = #[v0, v1] := by cases args; simp_all
  obtain ⟨rfl, rfl⟩ := trodVars_none hV
  obtain ⟨a0, rfl, rfl, rfl, w0⟩ := open_int Try.underlying3 (hval 0 3 v0 rfl rfl) h0
  have k1 := h1
  have lt1 : ∀ x ∈ p1, x.block < W.heap.size := by obtain ⟨m, hm⟩ := k1; exact DataW.trod_lt m _ _ _ hm
  obtain ⟨q1, l1, c1, rfl, w1, y1, -⟩ := open_ops (hval 1 22 v1 rfl rfl) h1
  clear hA0 hval0
  refine (walk cacheSpec a0 q1 l1 c1 w1 W y1).mono fun e W' ⟨he, bel⟩ => ?_
  subst he
  exact ⟨_, rfl, _, _, _, [], _, [], hW', trodAll_mk1 (shut_bool Try.underlying4 _), (trodAll_cons_mk (shut_int Try.underlying3 w0) (trodAll_cons_mk (Below.trod laidOut (by kernel_rfl) (of_decide_eq_true (by kernel_rfl)) k1 bel lt1) trodAll_mk0)), rfl, bel.frame _, fun h => by cases h⟩

theorem over : Rows.cacheLastRow.holds Try.pinned (OpenSpec.ofChange Rows.cacheLastSpec) :=
  OpenClaim.holds_of_wide 5 Try.f5 rfl rfl rfl rfl rfl rfl rfl ⟨rfl, rfl, rfl, rfl, rfl⟩ rfl rfl rfl rfl rfl (by kernel_rfl) Try.func5 (by kernel_rfl)
    (of_decide_eq_true (by kernel_rfl)) (by unfold Func.isWrapper; first | (rw [if_pos (by decide +kernel)]; kernel_rfl) | (rw [if_neg (by decide +kernel)]; exact ⟨rfl, rfl⟩))
    (fun os started H enc _ => lifted os started H enc)

theorem proved : Rows.CacheLastSaid := over
end Go.Proofs.Ytlaclakndleonaa.cacheLast
