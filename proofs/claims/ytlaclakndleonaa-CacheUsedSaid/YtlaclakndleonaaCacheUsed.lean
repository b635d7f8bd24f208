/- CacheUsed: which lines lie in a cache, and in what order, for every quota and list of blocks. Condition: none but the arguments' own forms; package cache by cacheSpec. -/
import Derived.Test.YtlaclakndleonaaCmSpec
import Derived.Test.YtlaclakndleonaaCaFr
namespace Go.Proofs.Ytlaclakndleonaa
open Go.ChangeShapes Go.WideShapes Go.ChangeAt Go.RowKit
theorem quota_is (n : Int) : ∃ M : Int, 1 ≤ M ∧ M ≤ 8 ∧ wrap64 (1 + wrap64 ((IntKind.u64.wrap n).tmod 8)) = M := by
  have h : 0 ≤ IntKind.u64.wrap n := by rw [IntKind.wrap_u64]; exact Int.emod_nonneg _ (by decide)
  generalize IntKind.u64.wrap n = u at *
  have h1 : u.tmod 8 = u % 8 := Int.tmod_eq_emod_of_nonneg h
  rw [h1]
  have h2 : wrap64 (u % 8) = u % 8 := by unfold wrap64; omega
  rw [h2]
  have h3 : wrap64 (1 + u % 8) = 1 + u % 8 := by unfold wrap64; omega
  exact ⟨1 + u % 8, by omega, by omega, h3⟩
theorem isnt_zero (bs : List Int) (b : Int) : (bs.take 0).filter (· != b) = [] := by simp
theorem isnt_all (bs : List Int) (b : Int) : (bs.take bs.length).filter (· != b) = bs.filter (· != b) := by rw [List.take_length]
theorem isnt_no {bs : List Int} {b : Int} {i : Nat} (hi : i < bs.length) (h : bs.getD i 0 = b) : (bs.take (i + 1)).filter (· != b) = (bs.take i).filter (· != b) := by
  rw [List.take_add_one, List.getElem?_eq_getElem hi, List.filter_append]
  rw [List.getD_eq_getElem?_getD, List.getElem?_eq_getElem hi] at h
  simp at h
  simp [h]
theorem isnt_yes {bs : List Int} {b : Int} {i : Nat} (hi : i < bs.length) (h : bs.getD i 0 ≠ b) : (bs.take (i + 1)).filter (· != b) = (bs.take i).filter (· != b) ++ [bs.getD i 0] := by
  rw [List.take_add_one, List.getElem?_eq_getElem hi, List.filter_append]
  rw [List.getD_eq_getElem?_getD, List.getElem?_eq_getElem hi] at h
  rw [List.getD_eq_getElem?_getD, List.getElem?_eq_getElem hi]
  simp at h
  simp [h]
theorem isnt_len (bs : List Int) (b : Int) (i : Nat) : ((bs.take i).filter (· != b)).length ≤ bs.length := Nat.le_trans (List.length_filter_le _ _) (by rw [List.length_take]; omega)
theorem used_at {ls : List LineOf} {bs : List Int} (h : UsedI ls bs) (i : Nat) (hi : i < ls.length) : (lineAt ls i).b = bs.getD i 0 := by
  rw [← h.map, lineAt_eq hi, List.getD_eq_getElem?_getD, List.getElem?_map, List.getElem?_eq_getElem hi]; rfl
theorem used_len {ls : List LineOf} {bs : List Int} (h : UsedI ls bs) : bs.length = ls.length := by rw [← h.map, List.length_map]
/-- What is kept of a list, and where it lies, behind the cut. -/
theorem next_no {q : Int} {bs : List Int} {b : Int} (h : ¬ q < ((bs.filter (· != b) ++ [b]).length : Nat)) : nextB q bs b = bs.filter (· != b) ++ [b] := by
  unfold nextB
  rw [List.length_append] at h
  exact if_neg h
theorem next_yes {q : Int} {bs : List Int} {b : Int} (h : q < ((bs.filter (· != b) ++ [b]).length : Nat)) : nextB q bs b = (bs.filter (· != b) ++ [b]).drop 1 := by
  unfold nextB
  rw [List.length_append] at h
  exact if_pos h
theorem lt300 {n : Nat} (h : ¬ 300 < n) : n ≤ 300 := by omega
theorem own_some {W : World} {base top : Nat} {v : Value} {l : List Int} (h : OwnL 3 1 intC W base top v l) (hl : 0 < l.length) : ∃ B c, v = .slice (some ⟨B, 0, none⟩) l.length c ∧ base ≤ B ∧ B < top ∧ l.length ≤ c ∧ RowsAt 1 intC W (some ⟨B, 0, none⟩) l := by
  obtain ⟨p, c, h1, h2, _, h4, h5⟩ := h.rows elemInt.len
  rcases h4 with e | ⟨B, o, e, h6, h7⟩
  · rw [e] at hl; simp at hl
  · obtain ⟨h8, h9, rfl⟩ := h5 B o e
    subst e
    exact ⟨B, c, h1, h8, h9, h2, .inr ⟨B, 0, rfl, h6, h7⟩⟩
theorem rows_drop {W : World} {B : Nat} {l : List Int} (h : RowsAt 1 intC W (some ⟨B, 0, none⟩) l) : RowsAt 1 intC W (some ⟨B, 1, none⟩) (l.drop 1) := by
  cases l with
  | nil => exact .inl rfl
  | cons x l => exact rows_tail h
namespace cacheUsed
set_option linter.unusedVariables false
theorem own : ownKnob Try.prog.godebug = none := by kernel_rfl
attribute [local irreducible] Go.Proofs.Ytlaclakndleonaa.mk lineC intC oneB findL getL gotL putS putN zl lineAt nextB
set_option maxRecDepth 100000 in
set_option maxHeartbeats 8000000 in
theorem walk {At : AtT} (K : CacheSpec At) (q0 : Int) (p0 : Option Addr) (L : List Int) (c0 : Nat) (hL : ∀ j, j < L.length → okI (L.getD j 0)) (w : World) (y0 : IntsAt w p0 L) : Calls Try.prog 6 #[.int .i64 q0, .slice p0 L.length c0] w fun e w' => e = .returned (.bool true) ∧ Below w.heap.size w w' := by
  have HK := Lib.hid K
  have HL := Lib.hid hL
  have Y0 := Lib.hid (rows_ints y0)
  obtain ⟨q, hq1, hq8, hqe⟩ := quota_is q0
  have HQ := Lib.hid (And.intro hq1 hq8)
  have HQE := Lib.hid hqe
  clear hL y0 hq1 hq8 hqe
  generalize hn : L.length = n at *
  have HN := Lib.hid hn
  clear hn
  by_cases h300 : 300 < n
  · have f1 : decide ((300 : Int) < (n : Int)) = true := by simp; omega
    have f2 : (300 : Int) < (n : Int) := by omega
    have f3 : decide (300 < n) = true := by simp; omega
    go_enter Try.func6, Try.ntmps6
    go_wp2_with (first
      | (go_at_call 8; refine (alive_ok HK.out w).mono ?_; rintro e w2 ⟨rfl, hb2⟩))
    go_ret
    exact ⟨rfl, hb2⟩
  have H3 := Lib.hid (lt300 h300)
  have f1 : decide ((300 : Int) < (n : Int)) = false := by simp; omega
  have f2 : ¬ (300 : Int) < (n : Int) := by omega
  have f3 : decide (300 < n) = false := by simp; omega
  clear h300
  go_enter Try.func6, Try.ntmps6
  go_wp2_with (first
    | (go_at_call 8; refine (alive_ok HK.out w).mono ?_; rintro e w2 ⟨rfl, hb2⟩; have B2 := Lib.hid hb2; clear hb2)
    | (go_at_call 9; rw [HQE.out]; refine (CaS.new HK.out q HQ.out.1 HQ.out.2 B2.out).mono ?_; rintro e w3 ⟨B, rfl, h3⟩; have C3 := Lib.hid h3; clear h3 B2)
    | (refine wpList_list0 elemInt rfl rfl ?_
       have Q3 := Lib.hid ((QSt.of (X := fun _ => False) C3.out (fun _ h => h)).below HK.out ((Below.refl w3.heap.size w3).alloc (Nat.le_refl _) (.cells #[] 3)))
       have O3 := Lib.hid (OwnL.empty 3 1 intC w3 w3.heap.size (Nat.le_refl _))
       clear C3))
  obtain ⟨pz, cz, hvz, hcz, -, hrz, hpz⟩ := O3.out.rows elemInt.len
  have Q4 := Lib.hid (Q3.out.mono (Y := AtP (some ⟨w3.heap.size, 0, none⟩)) (fun j ⟨o, hj⟩ => .inr ⟨by cases hj; exact Nat.le_refl _, by cases hj; rw [World.size_alloc]; omega⟩))
  have RZ := Lib.hid (show RowsAt 1 intC (w3.alloc (.cells #[] 3)) (some ⟨w3.heap.size, 0, none⟩) [] from .inl rfl)
  clear hvz hcz hrz hpz Q3 O3
  generalize w3.heap.size = z3 at *
  generalize w3.alloc (.cells #[] 3) = w4 at *
  go_loopw [37, 7] (fun v37 v7 wr => ∃ k : Nat, k ≤ n ∧ v37 = .int .i64 k ∧ ∃ ls bs t p m c, v7 = .slice p m c ∧ bs.length = m ∧ RowsAt 1 intC wr p bs ∧ t ≤ 2 * k ∧ UsedI ls bs ∧ QSt At w wr B q ls t (AtP p)) (fun v37 _ _ => n - (intOf v37).toNat)
  case atStart => exact ⟨0, Nat.zero_le _, rfl, [], [], 0, _, 0, 0, rfl, rfl, RZ.out, Nat.le_refl _, ⟨fun _ h => by simp at h, rfl⟩, Q4.out⟩
  case round =>
    obtain ⟨k, hk, rfl, ls, bs, t, p, m, c, rfl, hm, hr, ht, hu, hp⟩ := hrel
    have P := Lib.hid hp
    have HM := Lib.hid hm
    have RB := Lib.hid hr
    have HU := Lib.hid hu
    clear hp hm hr hu Q4 RZ
    by_cases hlt : k < n
    · obtain ⟨IB, io, rfl, hB, hc⟩ := int_row Y0.out (show k < L.length from by rw [HN.out]; exact hlt)
      have k0 : wr.cell? ⟨IB, io + k, none⟩ = some (.int .i64 (L.getD k 0)) := (P.out.low.cell hB).trans hc
      have HB := Lib.hid (HL.out k hlt)
      have HLT := Lib.hid hlt
      have HTT := Lib.hid ht
      have HTK := Lib.hid (show t ≤ 100000 from by have := H3.out; omega)
      have HTK1 := Lib.hid (show t + 1 ≤ 100000 from by have := H3.out; omega)
      have f9 : (k : Int) < (n : Int) := by omega
      have g3 : IntKind.i64.wrap ((k : Int) + 1) = ((k + 1 : Nat) : Int) := by have := H3.out; rw [IntWalk.i64_in _ (by omega)]; omega
      have HZ0 := Lib.hid (show okI 0 from by unfold okI; decide)
      have HM8 := Lib.hid (show m ≤ 8 from by have := (P.out.good HK.out).few; have := (P.out.good HK.out).high; have := used_len HU.out; have := HM.out; omega)
      have G0 := Lib.hid (P.out.good HK.out)
      clear hB hc hlt hk ht
      generalize L.getD k 0 = b at *
      by_cases hf : findL ls 0 b < ls.length
      · have DF := Lib.hid (show decide (findL ls 0 b < ls.length) = true from by simp [hf])
        have UN := Lib.hid (used_found HU.out G0.out b hf)
        clear hf
        go_wp2_with (first
          | (refine wpList_int_elem rfl _ _ rfl IB io n c0 k rfl rfl HLT.out ?_)
          | (go_at_call 12; refine (P.out.get HK.out 0 b HZ0.out HB.out HTK.out).mono ?_; rw [DF.out]; rintro e w6 ⟨rfl, hp6, hf6⟩
             have BL6 := Lib.hid (box_laid w6 (gotL ls 0 b))
             have R6 := Lib.hid (rows_fr RB.out hf6)
             have P6 := Lib.hid (hp6.below HK.out BL6.out.2.1)
             clear hp6 hf6 P)
          | (refine wpList_line_alloc rfl rfl w6.heap.size rfl ?_)
          | (refine store_row_on rfl 42 _ _ rfl rfl w6.heap.size (lineC (gotL ls 0 b)).toArray rfl rfl 42 (lineC noLine).toArray (heap_alloc_new _ _) (lineA_size _) (lineA_same _ _) (lineA_one _) ?_
             have R7 := Lib.hid (R6.out.below BL6.out.2.1)
             have P7 := Lib.hid (P6.out.mono (Y := AtP p) (fun i hi => .inl hi))
             clear BL6 R6 P6
             generalize (w6.alloc (.cells (lineC noLine).toArray 42)).setRow w6.heap.size (lineC (gotL ls 0 b)).toArray = w7 at *)
          | (refine wpList_list0 elemInt rfl rfl ?_
             have O0 := Lib.hid (OwnL.empty 3 1 intC w7 w7.heap.size (Nat.le_refl _))
             have A0 := Lib.hid ((Below.refl w7.heap.size w7).alloc (Nat.le_refl _) (.cells #[] 3))
             have S0 := Lib.hid (show (w7.alloc (.cells #[] 3)).heap.size = w7.heap.size + 1 from World.size_alloc _ _)))
        generalize w7.alloc (.cells #[] 3) = wz at *
        go_loopw [59, 12] (fun v59 v12 wr2 => ∃ i : Nat, i ≤ m ∧ v59 = .int .i64 i ∧ OwnL 3 1 intC wr2 w7.heap.size wr2.heap.size v12 ((bs.take i).filter (· != b)) ∧ Below w7.heap.size w7 wr2) (fun v59 _ _ => m - (intOf v59).toNat)
        case atStart => exact ⟨0, Nat.zero_le _, rfl, by rw [isnt_zero, S0.out]; exact O0.out, A0.out⟩
        case round =>
          obtain ⟨i, hi, rfl, ho, hb⟩ := hrel
          have OI := Lib.hid ho
          have BI := Lib.hid hb
          clear ho hb O0 A0 S0
          by_cases hlt : i < m
          · have HIL := Lib.hid hlt
            obtain ⟨JB, jo, rfl, hJ, hcj⟩ := int_row R7.out (show i < bs.length by rw [HM.out]; exact hlt)
            have kj : wr.cell? ⟨JB, jo + i, none⟩ = some (.int .i64 (bs.getD i 0)) := (BI.out.cell hJ).trans hcj
            have f8 : (i : Int) < (m : Int) := by omega
            have g8 : IntKind.i64.wrap ((i : Int) + 1) = ((i + 1 : Nat) : Int) := by have := HM8.out; rw [IntWalk.i64_in _ (by omega)]; omega
            have HLE := Lib.hid (show ((bs.take i).filter (· != b)).length ≤ 1000 from by have := isnt_len bs b i; have := HM.out; have := HM8.out; omega)
            by_cases hx : bs.getD i 0 = b
            · have HX := Lib.hid (isnt_no (show i < bs.length by rw [HM.out]; exact hlt) hx)
              rw [hx] at kj
              have dx : decide (b = b) = true := by simp
              clear hlt hi hJ hcj hx
              go_wp2_with (first
                | (refine wpList_int_elem rfl _ _ rfl JB jo m c i rfl rfl HIL.out ?_))
              go_roundw
              case rel => exact ⟨i + 1, HIL.out, by go_num, by rw [HX.out]; exact OI.out, BI.out⟩
              case measure => have := HIL.out; simp [intOf]; omega
            · have HX := Lib.hid (isnt_yes (show i < bs.length by rw [HM.out]; exact hlt) hx)
              clear hlt hi hJ hcj
              generalize bs.getD i 0 = x at *
              have dx : decide (x = b) = false := by simp [hx]
              have bx : (x == b) = false := by simp [hx]
              generalize (bs.take i).filter (· != b) = fl at *
              clear hx
              go_wp2_with (first
                | (refine wpList_int_elem rfl _ _ rfl JB jo m c i rfl rfl HIL.out ?_)
                | (refine wpList_int1 rfl _ rfl x rfl ?_)
                | (refine wpList_append_list elemInt rfl _ _ rfl w7.heap.size wr.heap.size _ fl [x] (some ⟨wr.heap.size, 0, none⟩) 1 1 rfl rfl rfl (OI.out.below (Nat.le_refl _) ((Below.refl _ wr).alloc (Nat.le_refl _) _)) (rows_int1 wr x) (by have := HLE.out; simp; omega) (by decide) (by have := BI.out.size; simp; omega) ?_
                   intro v5 w5 ho5 hg5 hr5
                   have O6 := Lib.hid ho5
                   have B6 := Lib.hid ((BI.out.trans ((Below.refl _ wr).alloc BI.out.size _)).trans (below_own1 hg5 (OI.out.block) (by have := BI.out.size; simp; omega)))
                   clear ho5 hg5 hr5))
              go_roundw
              case rel => exact ⟨i + 1, HIL.out, by go_num, by rw [HX.out]; exact O6.out, B6.out⟩
              case measure => have := HIL.out; simp [intOf]; omega
          · have f8 : ¬ (i : Int) < (m : Int) := by omega
            obtain rfl : i = m := by omega
            have HLE := Lib.hid (show ((bs.take i).filter (· != b)).length ≤ 1000 from by have := isnt_len bs b i; have := HM.out; have := HM8.out; omega)
            have HFE := Lib.hid (show (bs.take i).filter (· != b) = bs.filter (· != b) from by rw [← HM.out]; exact isnt_all bs b)
            clear hlt hi
            generalize hwi : wr = wi at *
            clear hwi
            obtain ⟨ap, hap⟩ : ∃ x, bs.filter (· != b) ++ [b] = x := ⟨_, rfl⟩
            have hapl : 0 < ap.length := by rw [← hap]; simp
            have HAP := Lib.hid hapl
            obtain ⟨n9, hn9⟩ : ∃ x, ap.length = x := ⟨_, rfl⟩
            have HN9 := Lib.hid hn9
            have HN8 := Lib.hid (show n9 ≤ 1001 from by rw [← hn9, ← hap, ← HFE.out, List.length_append]; have := HLE.out; show _ + 1 ≤ 1001; omega)
            have HFA := Lib.hid (show (bs.take i).filter (· != b) ++ [b] = ap from by rw [HFE.out]; exact hap)
            by_cases hq : q < (n9 : Int)
            · have f7 : q < (n9 : Int) := hq
              have d7 : decide (q < (n9 : Int)) = true := by simp [hq]
              have HNX := Lib.hid (show nextB q bs b = ap.drop 1 from by rw [next_yes (by rw [hap, hn9]; exact hq), hap])
              have H29 := Lib.hid (show 2 ≤ n9 from by have := HQ.out; omega)
              clear hq hap hapl hn9 HFE
              go_wp2_with (first
                | (refine wpList_int1 rfl _ rfl b rfl ?_)
                | (refine wpList_append_list elemInt rfl _ _ rfl w7.heap.size wi.heap.size _ _ [b] (some ⟨wi.heap.size, 0, none⟩) 1 1 rfl rfl rfl (OI.out.below (Nat.le_refl _) ((Below.refl _ wi).alloc (Nat.le_refl _) _)) (rows_int1 wi b) (by have := HLE.out; simp; omega) (by decide) (by have := BI.out.size; simp; omega) ?_
                   rw [HFA.out]
                   intro v5 w9 ho5 hg5 hr5
                   have B9 := Lib.hid ((BI.out.trans ((Below.refl _ wi).alloc BI.out.size _)).trans (below_own1 hg5 (OI.out.block) (by have := BI.out.size; simp; omega)))
                   obtain ⟨N9, c9, hv9, hlo9, hhi9, hc9, hr9⟩ := own_some ho5 HAP.out
                   rw [HN9.out] at hv9 hc9
                   have HC9 := Lib.hid hc9
                   have P9 := Lib.hid ((P7.out.below HK.out B9.out).mono (Y := fun j => j = N9) (fun j hj => .inr ⟨by rw [hj]; exact hlo9, by rw [hj]; exact hhi9⟩))
                   have HR9 := Lib.hid hr9
                   clear ho5 hg5 hr5 hc9 hr9 hlo9 hhi9 OI BI HLE HFA B9 P7
                   subst hv9
                   have HRN := Lib.hid (show RowsAt 1 intC w9 (some ⟨N9, 1, none⟩) (nextB q bs b) from by rw [HNX.out]; exact rows_drop HR9.out)
                   clear HR9)
                | (refine wpList_ints_tail rfl _ rfl N9 n9 c9 rfl H29.out HC9.out ?_
                   have HNE := Lib.hid (show n9 - 1 = (nextB q bs b).length from by rw [HNX.out, List.length_drop, HN9.out])
                   have HM1 := Lib.hid (show n9 - 1 ≤ 1001 from by have := HN8.out; omega)
                   generalize n9 - 1 = ne at *
                   generalize c9 - 1 = ce at *)
                | (go_at_call 22; refine (P9.out.lines HK.out).mono ?_; rintro e wa ⟨va, rfl, hoa, hba⟩
                   have PA := Lib.hid ((P9.out.below HK.out hba).mono (Y := fun j => j = N9) (fun j hj => .inl hj))
                   have HRA := Lib.hid (HRN.out.below hba)
                   obtain ⟨pl, cl, hva, -, -, hra, -⟩ := hoa.rows elemLine.len
                   have HRL := Lib.hid hra
                   have hle : List.length (getL ls 0 b) = ne := by rw [HNE.out]; exact (used_len UN.out).symm
                   rw [hle] at hva
                   have HLEN := Lib.hid hle
                   subst hva
                   clear hoa hba hra hle P9 HRN))
              go_loopw [90] (fun v90 wy => ∃ i : Nat, i ≤ ne ∧ v90 = .int .i64 i ∧ Below wa.heap.size wa wy) (fun v90 _ => ne - (intOf v90).toNat)
              case atStart => exact ⟨0, Nat.zero_le _, rfl, Below.refl _ _⟩
              case round =>
                obtain ⟨z, hz, rfl, hb⟩ := hrel
                have BY := Lib.hid hb
                clear hb
                by_cases hlt : z < ne
                · have HIL := Lib.hid hlt
                  obtain ⟨LB, lo, rfl, hLB, hrg⟩ := line_rows HRL.out (show z < List.length (getL ls 0 b) from by rw [HLEN.out]; exact hlt)
                  obtain ⟨JB, jo, hje, hJB, hcj⟩ := int_row HRA.out (show z < (nextB q bs b).length from by rw [← HNE.out]; exact hlt)
                  obtain ⟨rfl, rfl⟩ : N9 = JB ∧ jo = 1 := by cases hje; exact ⟨rfl, rfl⟩
                  have KB := Lib.hid (line_c1 hrg)
                  have KJ := Lib.hid hcj
                  have HUA := Lib.hid (used_at UN.out z (by rw [HLEN.out]; exact hlt))
                  have HLB := Lib.hid hLB
                  have HJB := Lib.hid hJB
                  have f8 : (z : Int) < (ne : Int) := by omega
                  have g8 : IntKind.i64.wrap ((z : Int) + 1) = ((z + 1 : Nat) : Int) := by have := HM1.out; rw [IntWalk.i64_in _ (by omega)]; omega
                  rw [← HUA.out] at KJ
                  skip
                  clear hrg hcj hLB hJB hje hlt hz HUA
                  generalize (lineAt (getL ls 0 b) z).b = x at *
                  have BD := Lib.hid (BY.out.trans ((Below.refl wr.heap.size wr).drew.mono BY.out.size))
                  go_wp2
                  refine wp_region_sched [(0, true), (1, true), (2, true), (3, true), (4, true), (5, true), (6, true), (7, true), (8, true), (9, true)] (fun V => Below wa.heap.size wa V) (by kernel_rfl) (by kernel_rfl) BD.out ?_
                  refine walk_float rfl rfl (fun K hK => ?_)
                  refine gives_move _ rfl ?_
                  go_simp
                  refine hK _ ?_
                  clear hK K
                  refine walk_float rfl rfl (fun K hK => ?_)
                  refine gives_move _ rfl ?_
                  go_simp
                  refine hK _ ?_
                  clear hK K
                  refine walk_float rfl rfl (fun K hK => ?_)
                  refine gives_line_elem _ _ rfl LB lo ne cl z rfl rfl HIL.out ?_
                  go_simp
                  refine hK _ ?_
                  clear hK K
                  refine walk_float rfl rfl (fun K hK => ?_)
                  refine gives_line_block _ rfl LB (lo + 131 * z) rfl ?_
                  go_simp
                  refine hK _ ?_
                  clear hK K
                  refine walk_float rfl rfl (fun K hK => ?_)
                  refine gives_cell 3 _ rfl ⟨LB, lo + 131 * z + 1, none⟩ (.int .i64 x) rfl box_int (fun V hV => (hV.cell HLB.out).trans KB.out) ?_
                  go_simp
                  refine hK _ ?_
                  clear hK K
                  refine walk_float rfl rfl (fun K hK => ?_)
                  refine gives_move _ rfl ?_
                  go_simp
                  refine hK _ ?_
                  clear hK K
                  refine walk_float rfl rfl (fun K hK => ?_)
                  refine gives_move _ rfl ?_
                  go_simp
                  refine hK _ ?_
                  clear hK K
                  refine walk_float rfl rfl (fun K hK => ?_)
                  refine gives_int_elem _ _ rfl N9 1 ne ce z rfl rfl HIL.out ?_
                  go_simp
                  refine hK _ ?_
                  clear hK K
                  refine walk_float rfl rfl (fun K hK => ?_)
                  refine gives_cell 3 _ rfl ⟨N9, 1 + z, none⟩ (.int .i64 x) rfl box_int (fun V hV => (hV.cell HJB.out).trans KJ.out) ?_
                  go_simp
                  refine hK _ ?_
                  clear hK K
                  refine walk_float rfl rfl (fun K hK => ?_)
                  refine gives_int_isnt _ _ rfl x x rfl rfl false (by simp) ?_
                  go_simp
                  refine hK _ ?_
                  clear hK K
                  refine walk_nil ?_
                  go_wp2
                  go_roundw
                  case rel => exact ⟨z + 1, HIL.out, by go_num, BD.out⟩
                  case measure => have := HIL.out; simp [intOf]; omega
                · have f8 : ¬ (z : Int) < (ne : Int) := by omega
                  obtain rfl : z = ne := by omega
                  have PX := Lib.hid ((PA.out.below HK.out BY.out).mono (Y := AtP (some ⟨N9, 1, none⟩)) (fun j ⟨o, hj⟩ => .inl (by cases hj; rfl)))
                  have HRX := Lib.hid (HRA.out.below BY.out)
                  clear hlt hz PA HRA
                  go_wp2
                  go_roundw
                  case rel => exact ⟨k + 1, HLT.out, by go_num, (getL ls 0 b), nextB q bs b, t + 1, some ⟨N9, 1, none⟩, z, ce, rfl, HNE.out.symm, HRX.out, by have := HTT.out; omega, UN.out, PX.out⟩
                  case measure => have := HLT.out; simp [intOf]; omega
            · have f7 : ¬ q < (n9 : Int) := hq
              have d7 : decide (q < (n9 : Int)) = false := by simp [hq]
              have HNX := Lib.hid (show nextB q bs b = ap from by rw [next_no (by rw [hap, hn9]; exact hq), hap])
              clear hq hap hapl hn9 HFE
              go_wp2_with (first
                | (refine wpList_int1 rfl _ rfl b rfl ?_)
                | (refine wpList_append_list elemInt rfl _ _ rfl w7.heap.size wi.heap.size _ _ [b] (some ⟨wi.heap.size, 0, none⟩) 1 1 rfl rfl rfl (OI.out.below (Nat.le_refl _) ((Below.refl _ wi).alloc (Nat.le_refl _) _)) (rows_int1 wi b) (by have := HLE.out; simp; omega) (by decide) (by have := BI.out.size; simp; omega) ?_
                   rw [HFA.out]
                   intro v5 w9 ho5 hg5 hr5
                   have B9 := Lib.hid ((BI.out.trans ((Below.refl _ wi).alloc BI.out.size _)).trans (below_own1 hg5 (OI.out.block) (by have := BI.out.size; simp; omega)))
                   obtain ⟨N9, c9, hv9, hlo9, hhi9, hc9, hr9⟩ := own_some ho5 HAP.out
                   rw [HN9.out] at hv9 hc9
                   have HC9 := Lib.hid hc9
                   have P9 := Lib.hid ((P7.out.below HK.out B9.out).mono (Y := fun j => j = N9) (fun j hj => .inr ⟨by rw [hj]; exact hlo9, by rw [hj]; exact hhi9⟩))
                   have HR9 := Lib.hid hr9
                   clear ho5 hg5 hr5 hc9 hr9 hlo9 hhi9 OI BI HLE HFA B9 P7
                   subst hv9
                   have HRN := Lib.hid (show RowsAt 1 intC w9 (some ⟨N9, 0, none⟩) (nextB q bs b) from by rw [HNX.out]; exact HR9.out)
                   have HNE := Lib.hid (show n9 = (nextB q bs b).length from by rw [HNX.out]; exact HN9.out.symm)
                   have HM1 := Lib.hid HN8.out
                   clear HR9)
                | (go_at_call 22; refine (P9.out.lines HK.out).mono ?_; rintro e wa ⟨va, rfl, hoa, hba⟩
                   have PA := Lib.hid ((P9.out.below HK.out hba).mono (Y := fun j => j = N9) (fun j hj => .inl hj))
                   have HRA := Lib.hid (HRN.out.below hba)
                   obtain ⟨pl, cl, hva, -, -, hra, -⟩ := hoa.rows elemLine.len
                   have HRL := Lib.hid hra
                   have hle : List.length (getL ls 0 b) = n9 := by rw [HNE.out]; exact (used_len UN.out).symm
                   rw [hle] at hva
                   have HLEN := Lib.hid hle
                   subst hva
                   clear hoa hba hra hle P9 HRN))
              go_loopw [90] (fun v90 wy => ∃ i : Nat, i ≤ n9 ∧ v90 = .int .i64 i ∧ Below wa.heap.size wa wy) (fun v90 _ => n9 - (intOf v90).toNat)
              case atStart => exact ⟨0, Nat.zero_le _, rfl, Below.refl _ _⟩
              case round =>
                obtain ⟨z, hz, rfl, hb⟩ := hrel
                have BY := Lib.hid hb
                clear hb
                by_cases hlt : z < n9
                · have HIL := Lib.hid hlt
                  obtain ⟨LB, lo, rfl, hLB, hrg⟩ := line_rows HRL.out (show z < List.length (getL ls 0 b) from by rw [HLEN.out]; exact hlt)
                  obtain ⟨JB, jo, hje, hJB, hcj⟩ := int_row HRA.out (show z < (nextB q bs b).length from by rw [← HNE.out]; exact hlt)
                  obtain ⟨rfl, rfl⟩ : N9 = JB ∧ jo = 0 := by cases hje; exact ⟨rfl, rfl⟩
                  have KB := Lib.hid (line_c1 hrg)
                  have KJ := Lib.hid hcj
                  have HUA := Lib.hid (used_at UN.out z (by rw [HLEN.out]; exact hlt))
                  have HLB := Lib.hid hLB
                  have HJB := Lib.hid hJB
                  have f8 : (z : Int) < (n9 : Int) := by omega
                  have g8 : IntKind.i64.wrap ((z : Int) + 1) = ((z + 1 : Nat) : Int) := by have := HM1.out; rw [IntWalk.i64_in _ (by omega)]; omega
                  rw [← HUA.out] at KJ
                  rw [Nat.zero_add] at KJ
                  clear hrg hcj hLB hJB hje hlt hz HUA
                  generalize (lineAt (getL ls 0 b) z).b = x at *
                  have BD := Lib.hid (BY.out.trans ((Below.refl wr.heap.size wr).drew.mono BY.out.size))
                  go_wp2
                  refine wp_region_sched [(0, true), (1, true), (2, true), (3, true), (4, true), (5, true), (6, true), (7, true), (8, true), (9, true)] (fun V => Below wa.heap.size wa V) (by kernel_rfl) (by kernel_rfl) BD.out ?_
                  refine walk_float rfl rfl (fun K hK => ?_)
                  refine gives_move _ rfl ?_
                  go_simp
                  refine hK _ ?_
                  clear hK K
                  refine walk_float rfl rfl (fun K hK => ?_)
                  refine gives_move _ rfl ?_
                  go_simp
                  refine hK _ ?_
                  clear hK K
                  refine walk_float rfl rfl (fun K hK => ?_)
                  refine gives_line_elem _ _ rfl LB lo n9 cl z rfl rfl HIL.out ?_
                  go_simp
                  refine hK _ ?_
                  clear hK K
                  refine walk_float rfl rfl (fun K hK => ?_)
                  refine gives_line_block _ rfl LB (lo + 131 * z) rfl ?_
                  go_simp
                  refine hK _ ?_
                  clear hK K
                  refine walk_float rfl rfl (fun K hK => ?_)
                  refine gives_cell 3 _ rfl ⟨LB, lo + 131 * z + 1, none⟩ (.int .i64 x) rfl box_int (fun V hV => (hV.cell HLB.out).trans KB.out) ?_
                  go_simp
                  refine hK _ ?_
                  clear hK K
                  refine walk_float rfl rfl (fun K hK => ?_)
                  refine gives_move _ rfl ?_
                  go_simp
                  refine hK _ ?_
                  clear hK K
                  refine walk_float rfl rfl (fun K hK => ?_)
                  refine gives_move _ rfl ?_
                  go_simp
                  refine hK _ ?_
                  clear hK K
                  refine walk_float rfl rfl (fun K hK => ?_)
                  refine gives_int_elem _ _ rfl N9 0 n9 c9 z rfl rfl HIL.out ?_
                  go_simp
                  refine hK _ ?_
                  clear hK K
                  refine walk_float rfl rfl (fun K hK => ?_)
                  refine gives_cell 3 _ rfl ⟨N9, z, none⟩ (.int .i64 x) rfl box_int (fun V hV => (hV.cell HJB.out).trans KJ.out) ?_
                  go_simp
                  refine hK _ ?_
                  clear hK K
                  refine walk_float rfl rfl (fun K hK => ?_)
                  refine gives_int_isnt _ _ rfl x x rfl rfl false (by simp) ?_
                  go_simp
                  refine hK _ ?_
                  clear hK K
                  refine walk_nil ?_
                  go_wp2
                  go_roundw
                  case rel => exact ⟨z + 1, HIL.out, by go_num, BD.out⟩
                  case measure => have := HIL.out; simp [intOf]; omega
                · have f8 : ¬ (z : Int) < (n9 : Int) := by omega
                  obtain rfl : z = n9 := by omega
                  have PX := Lib.hid ((PA.out.below HK.out BY.out).mono (Y := AtP (some ⟨N9, 0, none⟩)) (fun j ⟨o, hj⟩ => .inl (by cases hj; rfl)))
                  have HRX := Lib.hid (HRA.out.below BY.out)
                  clear hlt hz PA HRA
                  go_wp2
                  go_roundw
                  case rel => exact ⟨k + 1, HLT.out, by go_num, (getL ls 0 b), nextB q bs b, t + 1, some ⟨N9, 0, none⟩, z, c9, rfl, HNE.out.symm, HRX.out, by have := HTT.out; omega, UN.out, PX.out⟩
                  case measure => have := HLT.out; simp [intOf]; omega

      · have DF := Lib.hid (show decide (findL ls 0 b < ls.length) = false from by simp [hf])
        have UN := Lib.hid (used_new HU.out G0.out b hf).2
        have HPN := Lib.hid (used_new HU.out G0.out b hf).1
        have GN := Lib.hid (get_none hf)
        clear hf
        go_wp2_with (first
          | (refine wpList_int_elem rfl _ _ rfl IB io n c0 k rfl rfl HLT.out ?_)
          | (go_at_call 12; refine (P.out.get HK.out 0 b HZ0.out HB.out HTK.out).mono ?_; rw [DF.out, GN.out]; rintro e w6 ⟨rfl, hp6, hf6⟩
             have BL6 := Lib.hid (box_laid w6 (gotL ls 0 b))
             have R6 := Lib.hid (rows_fr RB.out hf6)
             have P6 := Lib.hid (hp6.below HK.out BL6.out.2.1)
             clear hp6 hf6 P)
          | (refine wpList_line_alloc rfl rfl w6.heap.size rfl ?_)
          | (refine store_row_on rfl 42 _ _ rfl rfl w6.heap.size (lineC (gotL ls 0 b)).toArray rfl rfl 42 (lineC noLine).toArray (heap_alloc_new _ _) (lineA_size _) (lineA_same _ _) (lineA_one _) ?_
             have R7 := Lib.hid (R6.out.below BL6.out.2.1)
             have P7 := Lib.hid (P6.out.mono (Y := AtP p) (fun i hi => .inl hi))
             clear BL6 R6 P6
             generalize (w6.alloc (.cells (lineC noLine).toArray 42)).setRow w6.heap.size (lineC (gotL ls 0 b)).toArray = w7 at *)
          | (refine wpList_zlv rfl _ rfl b rfl ?_)
          | (go_at_call 15; refine (P7.out.put HK.out (zl b false) (zl_ok b HB.out false) HTK1.out).mono ?_; rw [HPN.out, errN_zero]; rintro e w8 ⟨rfl, hp8, hf8⟩
             have P8 := Lib.hid hp8
             have R8 := Lib.hid (rows_fr R7.out hf8)
             clear hp8 hf8 P7 R7)
          | (refine wpList_list0 elemInt rfl rfl ?_
             have O0 := Lib.hid (OwnL.empty 3 1 intC w8 w8.heap.size (Nat.le_refl _))
             have A0 := Lib.hid ((Below.refl w8.heap.size w8).alloc (Nat.le_refl _) (.cells #[] 3))
             have S0 := Lib.hid (show (w8.alloc (.cells #[] 3)).heap.size = w8.heap.size + 1 from World.size_alloc _ _)))
        generalize w8.alloc (.cells #[] 3) = wz at *
        go_loopw [59, 12] (fun v59 v12 wr2 => ∃ i : Nat, i ≤ m ∧ v59 = .int .i64 i ∧ OwnL 3 1 intC wr2 w8.heap.size wr2.heap.size v12 ((bs.take i).filter (· != b)) ∧ Below w8.heap.size w8 wr2) (fun v59 _ _ => m - (intOf v59).toNat)
        case atStart => exact ⟨0, Nat.zero_le _, rfl, by rw [isnt_zero, S0.out]; exact O0.out, A0.out⟩
        case round =>
          obtain ⟨i, hi, rfl, ho, hb⟩ := hrel
          have OI := Lib.hid ho
          have BI := Lib.hid hb
          clear ho hb O0 A0 S0
          by_cases hlt : i < m
          · have HIL := Lib.hid hlt
            obtain ⟨JB, jo, rfl, hJ, hcj⟩ := int_row R8.out (show i < bs.length by rw [HM.out]; exact hlt)
            have kj : wr.cell? ⟨JB, jo + i, none⟩ = some (.int .i64 (bs.getD i 0)) := (BI.out.cell hJ).trans hcj
            have f8 : (i : Int) < (m : Int) := by omega
            have g8 : IntKind.i64.wrap ((i : Int) + 1) = ((i + 1 : Nat) : Int) := by have := HM8.out; rw [IntWalk.i64_in _ (by omega)]; omega
            have HLE := Lib.hid (show ((bs.take i).filter (· != b)).length ≤ 1000 from by have := isnt_len bs b i; have := HM.out; have := HM8.out; omega)
            by_cases hx : bs.getD i 0 = b
            · have HX := Lib.hid (isnt_no (show i < bs.length by rw [HM.out]; exact hlt) hx)
              rw [hx] at kj
              have dx : decide (b = b) = true := by simp
              clear hlt hi hJ hcj hx
              go_wp2_with (first
                | (refine wpList_int_elem rfl _ _ rfl JB jo m c i rfl rfl HIL.out ?_))
              go_roundw
              case rel => exact ⟨i + 1, HIL.out, by go_num, by rw [HX.out]; exact OI.out, BI.out⟩
              case measure => have := HIL.out; simp [intOf]; omega
            · have HX := Lib.hid (isnt_yes (show i < bs.length by rw [HM.out]; exact hlt) hx)
              clear hlt hi hJ hcj
              generalize bs.getD i 0 = x at *
              have dx : decide (x = b) = false := by simp [hx]
              have bx : (x == b) = false := by simp [hx]
              generalize (bs.take i).filter (· != b) = fl at *
              clear hx
              go_wp2_with (first
                | (refine wpList_int_elem rfl _ _ rfl JB jo m c i rfl rfl HIL.out ?_)
                | (refine wpList_int1 rfl _ rfl x rfl ?_)
                | (refine wpList_append_list elemInt rfl _ _ rfl w8.heap.size wr.heap.size _ fl [x] (some ⟨wr.heap.size, 0, none⟩) 1 1 rfl rfl rfl (OI.out.below (Nat.le_refl _) ((Below.refl _ wr).alloc (Nat.le_refl _) _)) (rows_int1 wr x) (by have := HLE.out; simp; omega) (by decide) (by have := BI.out.size; simp; omega) ?_
                   intro v5 w5 ho5 hg5 hr5
                   have O6 := Lib.hid ho5
                   have B6 := Lib.hid ((BI.out.trans ((Below.refl _ wr).alloc BI.out.size _)).trans (below_own1 hg5 (OI.out.block) (by have := BI.out.size; simp; omega)))
                   clear ho5 hg5 hr5))
              go_roundw
              case rel => exact ⟨i + 1, HIL.out, by go_num, by rw [HX.out]; exact O6.out, B6.out⟩
              case measure => have := HIL.out; simp [intOf]; omega
          · have f8 : ¬ (i : Int) < (m : Int) := by omega
            obtain rfl : i = m := by omega
            have HLE := Lib.hid (show ((bs.take i).filter (· != b)).length ≤ 1000 from by have := isnt_len bs b i; have := HM.out; have := HM8.out; omega)
            have HFE := Lib.hid (show (bs.take i).filter (· != b) = bs.filter (· != b) from by rw [← HM.out]; exact isnt_all bs b)
            clear hlt hi
            generalize hwi : wr = wi at *
            clear hwi
            obtain ⟨ap, hap⟩ : ∃ x, bs.filter (· != b) ++ [b] = x := ⟨_, rfl⟩
            have hapl : 0 < ap.length := by rw [← hap]; simp
            have HAP := Lib.hid hapl
            obtain ⟨n9, hn9⟩ : ∃ x, ap.length = x := ⟨_, rfl⟩
            have HN9 := Lib.hid hn9
            have HN8 := Lib.hid (show n9 ≤ 1001 from by rw [← hn9, ← hap, ← HFE.out, List.length_append]; have := HLE.out; show _ + 1 ≤ 1001; omega)
            have HFA := Lib.hid (show (bs.take i).filter (· != b) ++ [b] = ap from by rw [HFE.out]; exact hap)
            by_cases hq : q < (n9 : Int)
            · have f7 : q < (n9 : Int) := hq
              have d7 : decide (q < (n9 : Int)) = true := by simp [hq]
              have HNX := Lib.hid (show nextB q bs b = ap.drop 1 from by rw [next_yes (by rw [hap, hn9]; exact hq), hap])
              have H29 := Lib.hid (show 2 ≤ n9 from by have := HQ.out; omega)
              clear hq hap hapl hn9 HFE
              go_wp2_with (first
                | (refine wpList_int1 rfl _ rfl b rfl ?_)
                | (refine wpList_append_list elemInt rfl _ _ rfl w8.heap.size wi.heap.size _ _ [b] (some ⟨wi.heap.size, 0, none⟩) 1 1 rfl rfl rfl (OI.out.below (Nat.le_refl _) ((Below.refl _ wi).alloc (Nat.le_refl _) _)) (rows_int1 wi b) (by have := HLE.out; simp; omega) (by decide) (by have := BI.out.size; simp; omega) ?_
                   rw [HFA.out]
                   intro v5 w9 ho5 hg5 hr5
                   have B9 := Lib.hid ((BI.out.trans ((Below.refl _ wi).alloc BI.out.size _)).trans (below_own1 hg5 (OI.out.block) (by have := BI.out.size; simp; omega)))
                   obtain ⟨N9, c9, hv9, hlo9, hhi9, hc9, hr9⟩ := own_some ho5 HAP.out
                   rw [HN9.out] at hv9 hc9
                   have HC9 := Lib.hid hc9
                   have P9 := Lib.hid ((P8.out.below HK.out B9.out).mono (Y := fun j => j = N9) (fun j hj => .inr ⟨by rw [hj]; exact hlo9, by rw [hj]; exact hhi9⟩))
                   have HR9 := Lib.hid hr9
                   clear ho5 hg5 hr5 hc9 hr9 hlo9 hhi9 OI BI HLE HFA B9 P8
                   subst hv9
                   have HRN := Lib.hid (show RowsAt 1 intC w9 (some ⟨N9, 1, none⟩) (nextB q bs b) from by rw [HNX.out]; exact rows_drop HR9.out)
                   clear HR9)
                | (refine wpList_ints_tail rfl _ rfl N9 n9 c9 rfl H29.out HC9.out ?_
                   have HNE := Lib.hid (show n9 - 1 = (nextB q bs b).length from by rw [HNX.out, List.length_drop, HN9.out])
                   have HM1 := Lib.hid (show n9 - 1 ≤ 1001 from by have := HN8.out; omega)
                   generalize n9 - 1 = ne at *
                   generalize c9 - 1 = ce at *)
                | (go_at_call 22; refine (P9.out.lines HK.out).mono ?_; rintro e wa ⟨va, rfl, hoa, hba⟩
                   have PA := Lib.hid ((P9.out.below HK.out hba).mono (Y := fun j => j = N9) (fun j hj => .inl hj))
                   have HRA := Lib.hid (HRN.out.below hba)
                   obtain ⟨pl, cl, hva, -, -, hra, -⟩ := hoa.rows elemLine.len
                   have HRL := Lib.hid hra
                   have hle : List.length (putS q ls (zl b false)) = ne := by rw [HNE.out]; exact (used_len UN.out).symm
                   rw [hle] at hva
                   have HLEN := Lib.hid hle
                   subst hva
                   clear hoa hba hra hle P9 HRN))
              go_loopw [90] (fun v90 wy => ∃ i : Nat, i ≤ ne ∧ v90 = .int .i64 i ∧ Below wa.heap.size wa wy) (fun v90 _ => ne - (intOf v90).toNat)
              case atStart => exact ⟨0, Nat.zero_le _, rfl, Below.refl _ _⟩
              case round =>
                obtain ⟨z, hz, rfl, hb⟩ := hrel
                have BY := Lib.hid hb
                clear hb
                by_cases hlt : z < ne
                · have HIL := Lib.hid hlt
                  obtain ⟨LB, lo, rfl, hLB, hrg⟩ := line_rows HRL.out (show z < List.length (putS q ls (zl b false)) from by rw [HLEN.out]; exact hlt)
                  obtain ⟨JB, jo, hje, hJB, hcj⟩ := int_row HRA.out (show z < (nextB q bs b).length from by rw [← HNE.out]; exact hlt)
                  obtain ⟨rfl, rfl⟩ : N9 = JB ∧ jo = 1 := by cases hje; exact ⟨rfl, rfl⟩
                  have KB := Lib.hid (line_c1 hrg)
                  have KJ := Lib.hid hcj
                  have HUA := Lib.hid (used_at UN.out z (by rw [HLEN.out]; exact hlt))
                  have HLB := Lib.hid hLB
                  have HJB := Lib.hid hJB
                  have f8 : (z : Int) < (ne : Int) := by omega
                  have g8 : IntKind.i64.wrap ((z : Int) + 1) = ((z + 1 : Nat) : Int) := by have := HM1.out; rw [IntWalk.i64_in _ (by omega)]; omega
                  rw [← HUA.out] at KJ
                  skip
                  clear hrg hcj hLB hJB hje hlt hz HUA
                  generalize (lineAt (putS q ls (zl b false)) z).b = x at *
                  have BD := Lib.hid (BY.out.trans ((Below.refl wr.heap.size wr).drew.mono BY.out.size))
                  go_wp2
                  refine wp_region_sched [(0, true), (1, true), (2, true), (3, true), (4, true), (5, true), (6, true), (7, true), (8, true), (9, true)] (fun V => Below wa.heap.size wa V) (by kernel_rfl) (by kernel_rfl) BD.out ?_
                  refine walk_float rfl rfl (fun K hK => ?_)
                  refine gives_move _ rfl ?_
                  go_simp
                  refine hK _ ?_
                  clear hK K
                  refine walk_float rfl rfl (fun K hK => ?_)
                  refine gives_move _ rfl ?_
                  go_simp
                  refine hK _ ?_
                  clear hK K
                  refine walk_float rfl rfl (fun K hK => ?_)
                  refine gives_line_elem _ _ rfl LB lo ne cl z rfl rfl HIL.out ?_
                  go_simp
                  refine hK _ ?_
                  clear hK K
                  refine walk_float rfl rfl (fun K hK => ?_)
                  refine gives_line_block _ rfl LB (lo + 131 * z) rfl ?_
                  go_simp
                  refine hK _ ?_
                  clear hK K
                  refine walk_float rfl rfl (fun K hK => ?_)
                  refine gives_cell 3 _ rfl ⟨LB, lo + 131 * z + 1, none⟩ (.int .i64 x) rfl box_int (fun V hV => (hV.cell HLB.out).trans KB.out) ?_
                  go_simp
                  refine hK _ ?_
                  clear hK K
                  refine walk_float rfl rfl (fun K hK => ?_)
                  refine gives_move _ rfl ?_
                  go_simp
                  refine hK _ ?_
                  clear hK K
                  refine walk_float rfl rfl (fun K hK => ?_)
                  refine gives_move _ rfl ?_
                  go_simp
                  refine hK _ ?_
                  clear hK K
                  refine walk_float rfl rfl (fun K hK => ?_)
                  refine gives_int_elem _ _ rfl N9 1 ne ce z rfl rfl HIL.out ?_
                  go_simp
                  refine hK _ ?_
                  clear hK K
                  refine walk_float rfl rfl (fun K hK => ?_)
                  refine gives_cell 3 _ rfl ⟨N9, 1 + z, none⟩ (.int .i64 x) rfl box_int (fun V hV => (hV.cell HJB.out).trans KJ.out) ?_
                  go_simp
                  refine hK _ ?_
                  clear hK K
                  refine walk_float rfl rfl (fun K hK => ?_)
                  refine gives_int_isnt _ _ rfl x x rfl rfl false (by simp) ?_
                  go_simp
                  refine hK _ ?_
                  clear hK K
                  refine walk_nil ?_
                  go_wp2
                  go_roundw
                  case rel => exact ⟨z + 1, HIL.out, by go_num, BD.out⟩
                  case measure => have := HIL.out; simp [intOf]; omega
                · have f8 : ¬ (z : Int) < (ne : Int) := by omega
                  obtain rfl : z = ne := by omega
                  have PX := Lib.hid ((PA.out.below HK.out BY.out).mono (Y := AtP (some ⟨N9, 1, none⟩)) (fun j ⟨o, hj⟩ => .inl (by cases hj; rfl)))
                  have HRX := Lib.hid (HRA.out.below BY.out)
                  clear hlt hz PA HRA
                  go_wp2
                  go_roundw
                  case rel => exact ⟨k + 1, HLT.out, by go_num, (putS q ls (zl b false)), nextB q bs b, t + 1 + 1, some ⟨N9, 1, none⟩, z, ce, rfl, HNE.out.symm, HRX.out, by have := HTT.out; omega, UN.out, PX.out⟩
                  case measure => have := HLT.out; simp [intOf]; omega
            · have f7 : ¬ q < (n9 : Int) := hq
              have d7 : decide (q < (n9 : Int)) = false := by simp [hq]
              have HNX := Lib.hid (show nextB q bs b = ap from by rw [next_no (by rw [hap, hn9]; exact hq), hap])
              clear hq hap hapl hn9 HFE
              go_wp2_with (first
                | (refine wpList_int1 rfl _ rfl b rfl ?_)
                | (refine wpList_append_list elemInt rfl _ _ rfl w8.heap.size wi.heap.size _ _ [b] (some ⟨wi.heap.size, 0, none⟩) 1 1 rfl rfl rfl (OI.out.below (Nat.le_refl _) ((Below.refl _ wi).alloc (Nat.le_refl _) _)) (rows_int1 wi b) (by have := HLE.out; simp; omega) (by decide) (by have := BI.out.size; simp; omega) ?_
                   rw [HFA.out]
                   intro v5 w9 ho5 hg5 hr5
                   have B9 := Lib.hid ((BI.out.trans ((Below.refl _ wi).alloc BI.out.size _)).trans (below_own1 hg5 (OI.out.block) (by have := BI.out.size; simp; omega)))
                   obtain ⟨N9, c9, hv9, hlo9, hhi9, hc9, hr9⟩ := own_some ho5 HAP.out
                   rw [HN9.out] at hv9 hc9
                   have HC9 := Lib.hid hc9
                   have P9 := Lib.hid ((P8.out.below HK.out B9.out).mono (Y := fun j => j = N9) (fun j hj => .inr ⟨by rw [hj]; exact hlo9, by rw [hj]; exact hhi9⟩))
                   have HR9 := Lib.hid hr9
                   clear ho5 hg5 hr5 hc9 hr9 hlo9 hhi9 OI BI HLE HFA B9 P8
                   subst hv9
                   have HRN := Lib.hid (show RowsAt 1 intC w9 (some ⟨N9, 0, none⟩) (nextB q bs b) from by rw [HNX.out]; exact HR9.out)
                   have HNE := Lib.hid (show n9 = (nextB q bs b).length from by rw [HNX.out]; exact HN9.out.symm)
                   have HM1 := Lib.hid HN8.out
                   clear HR9)
                | (go_at_call 22; refine (P9.out.lines HK.out).mono ?_; rintro e wa ⟨va, rfl, hoa, hba⟩
                   have PA := Lib.hid ((P9.out.below HK.out hba).mono (Y := fun j => j = N9) (fun j hj => .inl hj))
                   have HRA := Lib.hid (HRN.out.below hba)
                   obtain ⟨pl, cl, hva, -, -, hra, -⟩ := hoa.rows elemLine.len
                   have HRL := Lib.hid hra
                   have hle : List.length (putS q ls (zl b false)) = n9 := by rw [HNE.out]; exact (used_len UN.out).symm
                   rw [hle] at hva
                   have HLEN := Lib.hid hle
                   subst hva
                   clear hoa hba hra hle P9 HRN))
              go_loopw [90] (fun v90 wy => ∃ i : Nat, i ≤ n9 ∧ v90 = .int .i64 i ∧ Below wa.heap.size wa wy) (fun v90 _ => n9 - (intOf v90).toNat)
              case atStart => exact ⟨0, Nat.zero_le _, rfl, Below.refl _ _⟩
              case round =>
                obtain ⟨z, hz, rfl, hb⟩ := hrel
                have BY := Lib.hid hb
                clear hb
                by_cases hlt : z < n9
                · have HIL := Lib.hid hlt
                  obtain ⟨LB, lo, rfl, hLB, hrg⟩ := line_rows HRL.out (show z < List.length (putS q ls (zl b false)) from by rw [HLEN.out]; exact hlt)
                  obtain ⟨JB, jo, hje, hJB, hcj⟩ := int_row HRA.out (show z < (nextB q bs b).length from by rw [← HNE.out]; exact hlt)
                  obtain ⟨rfl, rfl⟩ : N9 = JB ∧ jo = 0 := by cases hje; exact ⟨rfl, rfl⟩
                  have KB := Lib.hid (line_c1 hrg)
                  have KJ := Lib.hid hcj
                  have HUA := Lib.hid (used_at UN.out z (by rw [HLEN.out]; exact hlt))
                  have HLB := Lib.hid hLB
                  have HJB := Lib.hid hJB
                  have f8 : (z : Int) < (n9 : Int) := by omega
                  have g8 : IntKind.i64.wrap ((z : Int) + 1) = ((z + 1 : Nat) : Int) := by have := HM1.out; rw [IntWalk.i64_in _ (by omega)]; omega
                  rw [← HUA.out] at KJ
                  rw [Nat.zero_add] at KJ
                  clear hrg hcj hLB hJB hje hlt hz HUA
                  generalize (lineAt (putS q ls (zl b false)) z).b = x at *
                  have BD := Lib.hid (BY.out.trans ((Below.refl wr.heap.size wr).drew.mono BY.out.size))
                  go_wp2
                  refine wp_region_sched [(0, true), (1, true), (2, true), (3, true), (4, true), (5, true), (6, true), (7, true), (8, true), (9, true)] (fun V => Below wa.heap.size wa V) (by kernel_rfl) (by kernel_rfl) BD.out ?_
                  refine walk_float rfl rfl (fun K hK => ?_)
                  refine gives_move _ rfl ?_
                  go_simp
                  refine hK _ ?_
                  clear hK K
                  refine walk_float rfl rfl (fun K hK => ?_)
                  refine gives_move _ rfl ?_
                  go_simp
                  refine hK _ ?_
                  clear hK K
                  refine walk_float rfl rfl (fun K hK => ?_)
                  refine gives_line_elem _ _ rfl LB lo n9 cl z rfl rfl HIL.out ?_
                  go_simp
                  refine hK _ ?_
                  clear hK K
                  refine walk_float rfl rfl (fun K hK => ?_)
                  refine gives_line_block _ rfl LB (lo + 131 * z) rfl ?_
                  go_simp
                  refine hK _ ?_
                  clear hK K
                  refine walk_float rfl rfl (fun K hK => ?_)
                  refine gives_cell 3 _ rfl ⟨LB, lo + 131 * z + 1, none⟩ (.int .i64 x) rfl box_int (fun V hV => (hV.cell HLB.out).trans KB.out) ?_
                  go_simp
                  refine hK _ ?_
                  clear hK K
                  refine walk_float rfl rfl (fun K hK => ?_)
                  refine gives_move _ rfl ?_
                  go_simp
                  refine hK _ ?_
                  clear hK K
                  refine walk_float rfl rfl (fun K hK => ?_)
                  refine gives_move _ rfl ?_
                  go_simp
                  refine hK _ ?_
                  clear hK K
                  refine walk_float rfl rfl (fun K hK => ?_)
                  refine gives_int_elem _ _ rfl N9 0 n9 c9 z rfl rfl HIL.out ?_
                  go_simp
                  refine hK _ ?_
                  clear hK K
                  refine walk_float rfl rfl (fun K hK => ?_)
                  refine gives_cell 3 _ rfl ⟨N9, z, none⟩ (.int .i64 x) rfl box_int (fun V hV => (hV.cell HJB.out).trans KJ.out) ?_
                  go_simp
                  refine hK _ ?_
                  clear hK K
                  refine walk_float rfl rfl (fun K hK => ?_)
                  refine gives_int_isnt _ _ rfl x x rfl rfl false (by simp) ?_
                  go_simp
                  refine hK _ ?_
                  clear hK K
                  refine walk_nil ?_
                  go_wp2
                  go_roundw
                  case rel => exact ⟨z + 1, HIL.out, by go_num, BD.out⟩
                  case measure => have := HIL.out; simp [intOf]; omega
                · have f8 : ¬ (z : Int) < (n9 : Int) := by omega
                  obtain rfl : z = n9 := by omega
                  have PX := Lib.hid ((PA.out.below HK.out BY.out).mono (Y := AtP (some ⟨N9, 0, none⟩)) (fun j ⟨o, hj⟩ => .inl (by cases hj; rfl)))
                  have HRX := Lib.hid (HRA.out.below BY.out)
                  clear hlt hz PA HRA
                  go_wp2
                  go_roundw
                  case rel => exact ⟨k + 1, HLT.out, by go_num, (putS q ls (zl b false)), nextB q bs b, t + 1 + 1, some ⟨N9, 0, none⟩, z, c9, rfl, HNE.out.symm, HRX.out, by have := HTT.out; omega, UN.out, PX.out⟩
                  case measure => have := HLT.out; simp [intOf]; omega

    · have f9 : ¬ (k : Int) < (n : Int) := by omega
      obtain rfl : k = n := by omega
      have HLO := Lib.hid P.out.low
      clear hlt hk P
      go_wp2
      go_ret
      exact ⟨rfl, HLO.out⟩
theorem laidOut : laidOutB Try.prog = true := by kernel_rfl
set_option maxRecDepth 100000 in
theorem lifted (os : Os) (started : os.Started) (H : Type) (enc : TypeId × Value → H) :
    ReturnsInHanded {} Try.checked os 6 .any (Rows.cacheUsedSpec.pre6 enc Try.prog Try.f6 Rows.cacheUsedRow.domain false) (Rows.cacheUsedSpec.post enc Try.prog Try.f6 false true false false) := by
  refine returnsInHanded_of_change (C := Try.checked) own started (by kernel_rfl) Try.func6
    (ChangeSpec.witness6 (enc := enc) (C := Try.checked) false ⟨#[], #[.int .i64 0, .slice none 0 0], []⟩ 8 (by kernel_rfl) (by kernel_rfl) (by kernel_rfl) (by kernel_rfl)) ?_
  intro W base args ds gs before hval0 hW hcnd _
  have hval : ∀ (j : Nat) t v, Try.f6.params[j]? = some t → args[j]? = some v → Value.okWide Try.prog W .any base t v := hval0
  have hW' := hW
  obtain ⟨p, q, hA0, hV, rfl, hfz, hnd⟩ := hW
  have hA : DataW.TrodAll enc Try.prog W 0 (fun _ => true) true Try.f6.params.toList args.toList ds p := hA0
  rw [Try.params6] at hA hval
  obtain ⟨v0, vs0, d0, ds0, p0, q0, hargs, rfl, rfl, h0, r0⟩ := trodAll_cons hA
  obtain ⟨v1, vs1, d1, ds1, p1, q1, rfl, rfl, rfl, h1, r1⟩ := trodAll_cons r0
  obtain ⟨rfl, rfl, rfl⟩ := trodAll_nil r1
  obtain rfl : args = #[v0, v1] := by cases args; simp_all
  obtain ⟨rfl, rfl⟩ := trodVars_none hV
  obtain ⟨a0, rfl, rfl, rfl, w0⟩ := open_int Try.underlying3 (hval 0 3 v0 rfl rfl) h0
  have k1 := h1
  have lt1 : ∀ x ∈ p1, x.block < W.heap.size := by obtain ⟨m, hm⟩ := k1; exact DataW.trod_lt m _ _ _ hm
  obtain ⟨q1, a1, c1, rfl, w1, y1⟩ := open_ints (hval 1 58 v1 rfl rfl) h1
  clear hA0 hval0
  refine (walk cacheSpec a0 q1 a1 c1 (fun j hj => w1.1 j hj) W y1).mono fun e W' ⟨he, bel⟩ => ?_
  subst he
  exact ⟨_, rfl, _, _, _, [], _, [], hW', trodAll_mk1 (shut_bool Try.underlying4 _), (trodAll_cons_mk (shut_int Try.underlying3 w0) (trodAll_cons_mk (Below.trod laidOut (by kernel_rfl) (of_decide_eq_true (by kernel_rfl)) k1 bel lt1) trodAll_mk0)), rfl, bel.frame _, fun h => by cases h⟩

theorem over : Rows.cacheUsedRow.holds Try.pinned (OpenSpec.ofChange Rows.cacheUsedSpec) :=
  OpenClaim.holds_of_wide 6 Try.f6 rfl rfl rfl rfl rfl rfl rfl ⟨rfl, rfl, rfl, rfl, rfl⟩ rfl rfl rfl rfl rfl (by kernel_rfl) Try.func6 (by kernel_rfl)
    (of_decide_eq_true (by kernel_rfl)) (by unfold Func.isWrapper; first | (rw [if_pos (by decide +kernel)]; kernel_rfl) | (rw [if_neg (by decide +kernel)]; exact ⟨rfl, rfl⟩))
    (fun os started H enc _ => lifted os started H enc)

theorem proved : Rows.CacheUsedSaid := over
end Go.Proofs.Ytlaclakndleonaa.cacheUsed
