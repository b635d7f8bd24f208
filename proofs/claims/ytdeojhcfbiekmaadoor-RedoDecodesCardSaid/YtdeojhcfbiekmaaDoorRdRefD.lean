/- The contract of citadelref10's Decode: the entry that sectors begin with. Conditions: the key has at most 80,000 bytes; sectors have 128 bytes; there are at most 1000. -/
import Derived.Test.YtdeojhcfbiekmaaDoorRdRefE
import Derived.Test.YtdeojhcfbiekmaaDoorRdSays
import Derived.Test.YtdeojhcfbiekmaaDoorRdDec
namespace Go.Proofs.YtdeojhcfbiekmaaDoor
open Go.ChangeShapes Go.WideShapes Go.ChangeAt Go.RowKit
set_option linter.unusedVariables false
theorem dec_short (τ : List Int → List Int) {cs : List (List Int)} (h2 : 2 ≤ cs.length) (h : cs.length < 2 + (saysC cs).length) : decE τ cs = none := by
  match cs, h2, h with
  | s0 :: s1 :: r, _, h =>
    rw [saysC_cons] at h
    exact says_short (by simp at h; omega)
theorem saysC_get {cs : List (List Int)} (h : 0 < cs.length) : saysC cs = saysL (cs.getD 0 []) := if_neg (List.length_pos_iff.1 h)
theorem box_ints (w : World) : (isAgg 46).run Tryd.prog w = .ok false w := by simp [go_sem]
theorem int_addr {o : Oper} {a : Act} (x y : Operand) (ho : o.op = .indexAddr 46 x y) (B off n cap k : Nat) (hx : a.eval x = .slice (some ⟨B, off, none⟩) n cap) (hy : a.eval y = .int .i64 k) (hk : k < n) (w : World) : (execOp a.eval o).run Tryd.prog w = .ok (.value (.pointer (some ⟨B, off + k, none⟩))) w := by
  have h0 : (k : Int) < n := by omega
  have hi : (Tryd.prog.info? 3).map (·.size) = some 1 := by kernel_rfl
  cases hq : Tryd.prog.info? 3 with
  | none => simp [hq] at hi
  | some i =>
    have hs : i.size = 1 := by simpa [hq] using hi
    unfold execOp
    simp only [ho, hx, hy]
    simp [go_sem, Tryd.underlying46, h0, sizeOf, typeInfo, hq, hs, addr_add]
theorem gives_int_elem {o : Oper} {a : Act} {C : World → Prop} {K : Act → Prop} (x y : Operand) (ho : o.op = .indexAddr 46 x y) (B off n cap k : Nat) (hx : a.eval x = .slice (some ⟨B, off, none⟩) n cap) (hy : a.eval y = .int .i64 k) (hk' : k < n) (hk : K (a.put o.dst (.pointer (some ⟨B, off + k, none⟩)))) : ∃ v, Gives Tryd.prog C o a v ∧ K (a.put o.dst v) :=
  ⟨_, fun w _ => int_addr x y ho B off n cap k hx hy hk' w, hk⟩
attribute [local irreducible] putC natF secC encL countL toldL saysC goodE tauK decE intC secVal
set_option maxRecDepth 100000 in
set_option maxHeartbeats 4000000 in
theorem refDecode_any (kp : Option Addr) (nk kc : Nat) (g : Nat → Nat) (hnk : nk ≤ 80000) (hg : ∀ i, i < nk → g i < 256) (q : Option Addr) (cap : Nat) (cs : List (List Int)) (hcs : ∀ s ∈ cs, IsSec s) (hn : cs.length ≤ 1000) (w : World) (hk : BytesAt w kp nk g) (hp : RowsAt 128 secC w q cs) :
    Calls Tryd.prog 18 #[.slice kp nk kc, .slice q cs.length cap] w fun e w' => DecSays (decE (tauK nk g) cs) w' e ∧ Below w.heap.size w w' := by
  have HB0 := Lib.hid (Below.refl w.heap.size w)
  by_cases h2 : cs.length < 2
  · have HX := Lib.hid (dec_none (tauK nk g) h2)
    have d1 : decide ((cs.length : Int) < 2) = true := decide_eq_true (by omega)
    have d2 : decide (cs.length < 2) = true := decide_eq_true h2
    clear hp hk hcs hg h2
    generalize cs.length = m at *
    go_enter Tryd.func18, Tryd.ntmps18
    go_wp2
    go_ret3
    exact ⟨.none' HX.out, HB0.out⟩
  have h2' : 2 ≤ cs.length := by omega
  have d1 : decide ((cs.length : Int) < 2) = false := decide_eq_false (by omega)
  have d2 : decide (cs.length < 2) = false := decide_eq_false h2
  obtain ⟨B, o, rfl, hB, hr0⟩ := secsAt_get hp (show 0 < cs.length by omega)
  have hs0 : IsSec (cs.getD 0 []) := hcs _ (getD_mem [] (by omega))
  have HGX := Lib.hid (fun W (hb : Below w.heap.size w W) i (hi : i < cs.length) => show W.rangeAt B (o + 128 * i) (secC (cs.getD i [])) from by
    obtain ⟨B', o', e, hB', hr'⟩ := secsAt_get hp hi
    cases e
    exact rangeAt_below hr' hb hB')
  have HBL := Lib.hid hB
  have HSL := Lib.hid (saysC_len cs)
  have HSC := Lib.hid (saysC_get (cs := cs) (by omega))
  have SC := Lib.hid (refSays_any (cs.getD 0 []) hs0 w)
  rw [← sec_val, ← HSC.out] at SC
  have HDE := Lib.hid (decE_is (tauK nk g) h2')
  have HDS := Lib.hid (fun h => dec_short (tauK nk g) (cs := cs) h2' h)
  have hta := told_ats cs hcs h2'
  have hsh := told_short cs h2'
  have CT := Lib.hid (show IntKind.i64.wrap (valN 8 (natF (cs.getD 0 [])) : Nat) = countL (cs.getD 0 []) from by unfold countL; rfl)
  have TK := Lib.hid (fun W (hb : Below w.heap.size w W) => refTake_ok (some ⟨B, o, none⟩) 128 128 (natF (cs.getD 0 [])) (fun i _ => natF_lt hs0.2 i) 8 (.inr (.inr (.inr rfl))) (by decide) W (sec_bytes (rangeAt_below hr0 hb hB) (Nat.lt_of_lt_of_le hB hb.size)))
  have h56 : (toldL (saysC cs) (cs.drop 2)).length ≤ 56 := by rw [toldL_len]; have := saysC_len cs; omega
  have HCI := Lib.hid (fun i (hi : i < cs.length) => hcs _ (getD_mem [] hi))
  have HEN := Lib.hid (fun (p : Option Addr) (c : Nat) (W : World) hk hp => refEncode_any kp nk kc g hnk hg (countL (cs.getD 0 [])) p c (toldL (saysC cs) (cs.drop 2)) (by omega) (fun x hx => (hta x hx).2) W hk hp)
  have HES := Lib.hid (encL_sec (τ := tauK nk g) (tauK_bytes nk g) (count := countL (cs.getD 0 [])) (l := toldL (saysC cs) (cs.drop 2)) (fun x hx => (hta x hx).2))
  have HEL := Lib.hid (encL_len (tauK nk g) (countL (cs.getD 0 [])) (toldL (saysC cs) (cs.drop 2)))
  have hpf := prefix_iff (E := encL (tauK nk g) (countL (cs.getD 0 [])) (toldL (saysC cs) (cs.drop 2))) (cs := cs) (by rw [HEL.out]; exact hsh)
  have HPF := Lib.hid hpf
  have HSH := Lib.hid hsh
  have HDR := Lib.hid (show (cs.drop 2).length = cs.length - 2 from List.length_drop ..)
  have HSTEP := Lib.hid (fun i (h1 : i < (saysC cs).length) (h2 : i < (cs.drop 2).length) => toldL_step h1 h2)
  have HFULL := Lib.hid (toldL_full (saysC cs) (cs.drop 2))
  have HNONE := Lib.hid (toldL_none (saysC cs) (cs.drop 2))
  have HTL := Lib.hid (fun i => show (toldL ((saysC cs).take i) (cs.drop 2)).length ≤ 56 by rw [toldL_len]; have := HSL.out; rw [List.length_take]; omega)
  have HGD := Lib.hid (fun i => getD_drop cs i)
  have HP := Lib.hid hp
  have HK := Lib.hid hk
  have HN := Lib.hid hn
  have HM2 := Lib.hid h2'
  clear hpf hta hsh hp hk hcs hg h2 h2' hn h56 hr0 hs0 hB
  generalize hm : cs.length = m at *
  have HCM := Lib.hid hm
  go_enter Tryd.func18, Tryd.ntmps18
  by_cases hsl : m < 2 + (saysC cs).length
  · have HX := Lib.hid (HDS.out hsl)
    generalize hn : (saysC cs).length = n at *
    have d3 : decide ((m : Int) < (2 : Int) + (n : Int)) = true := decide_eq_true (by omega)
    have d4 : IntKind.i64.wrap ((2 : Int) + (n : Int)) = (2 : Int) + (n : Int) := IntWalk.i64_in _ (by have := HSL.out; omega)
    clear hsl
    go_wp2_with (first
      | (refine wpList_sec_elem rfl _ _ rfl B o m cap 0 rfl rfl (by have := HM2.out; omega) ?_)
      | (refine wpList_sec_mid rfl _ rfl B o rfl (cs.getD 0 []) (HGX.out w HB0.out 0 (by have := HM2.out; omega)) ?_)
      | (go_at_call 19; refine (SC.out).mono ?_; rintro e w1 ⟨np, nc, rfl, hr, hb⟩
         have B1 := Lib.hid hb
         clear hr hb SC))
    go_ret3
    exact ⟨.none' HX.out, B1.out⟩
  · have HNS := Lib.hid (show 2 + (saysC cs).length ≤ m by omega)
    generalize hn : (saysC cs).length = n at *
    have d3 : decide ((m : Int) < (2 : Int) + (n : Int)) = false := decide_eq_false (by omega)
    have d4 : IntKind.i64.wrap ((2 : Int) + (n : Int)) = (2 : Int) + (n : Int) := IntWalk.i64_in _ (by have := HSL.out; omega)
    clear hsl HDS
    go_wp2_with (first
      | (refine wpList_sec_elem rfl _ _ rfl B o m cap 0 rfl rfl (by have := HM2.out; omega) ?_)
      | (refine wpList_sec_mid rfl _ rfl B o rfl (cs.getD 0 []) (HGX.out w HB0.out 0 (by have := HM2.out; omega)) ?_)
      | (go_at_call 19; refine (SC.out).mono ?_; rintro e w1 ⟨np, nc, rfl, hr, hb⟩
         have B1 := Lib.hid hb
         have N1 := Lib.hid hr
         clear hr hb SC))
    have HNN := Lib.hid (show n ≤ 56 from HSL.out)
    go_loopw [9, 8] (fun v9 v8 wr => ∃ i : Nat, i ≤ n ∧ v9 = .int .i64 i ∧ OwnL 57 129 putC wr w1.heap.size wr.heap.size v8 (toldL ((saysC cs).take i) (cs.drop 2)) ∧ Below w1.heap.size w1 wr) (fun v9 _ _ => n - (intOf v9).toNat)
    case atStart => exact ⟨0, Nat.zero_le _, rfl, by rw [HNONE.out]; exact OwnL.nil _ _ _ _ _ _, Below.refl _ _⟩
    case round =>
      obtain ⟨i, hi, rfl, ho, hb⟩ := hrel
      have HO := Lib.hid ho
      have HB := Lib.hid hb
      clear ho hb
      by_cases hlt : i < n
      · obtain ⟨NB, no, rfl, hNB, hnc⟩ := intL_cell N1.out (show i < (saysC cs).length by omega)
        have hnc' := (HB.out.cell (p := ⟨NB, no + i, none⟩) hNB).trans hnc
        obtain ⟨j, hj⟩ : ∃ j, j = 2 + i := ⟨_, rfl⟩
        have hjm : j < m := by have := HNS.out; omega
        have HSV := Lib.hid (HGX.out wr (B1.out.trans (HB.out.mono B1.out.size)) j hjm)
        have hst := HSTEP.out i (by omega) (by have := HDR.out; omega)
        rw [HGD.out i, ← hj] at hst
        have HST := Lib.hid hst
        have HNC := Lib.hid hnc'
        have HJM := Lib.hid hjm
        have HIN := Lib.hid hlt
        have HTI := Lib.hid (HTL.out i)
        have HLB := Lib.hid (show NB < w1.heap.size ∧ B < w1.heap.size ∧ w1.heap.size ≤ wr.heap.size from ⟨hNB, by have := HBL.out; have := B1.out.size; omega, HB.out.size⟩)
        have f1 : (i : Int) < (n : Int) := by omega
        have f2 : (0 : Int) ≤ i := by omega
        have f3 : IntKind.i64.wrap ((i : Int) + 1) = ((i + 1 : Nat) : Int) := by have := HNN.out; rw [IntWalk.i64_in _ (by omega)]; omega
        have G2 := Lib.hid (show IntKind.i64.wrap ((2 : Int) + (i : Int)) = ((j : Nat) : Int) by have := HNN.out; rw [IntWalk.i64_in _ (by omega)]; omega)
        have HNB2 := Lib.hid (show ∀ k, k < w1.heap.size → some k ≠ u8.ownBlock from fun k hk e => by have := HO.out.block k e.symm; omega)
        clear hst hnc hnc' hNB hlt hjm hj
        generalize (saysC cs).getD i 0 = x at *
        generalize cs.getD j [] = s at *
        generalize toldL ((saysC cs).take i) (cs.drop 2) = tl at *
        go_wp2
        have k0 : wr.drew.cell? ⟨NB, no + i, none⟩ = some (.int .i64 x) ∧ wr.drew.rangeAt B (o + 128 * j) (secC s) := ⟨HNC.out, HSV.out⟩
        refine wp_region_sched [(0, true), (1, true), (2, true), (3, true), (4, true), (5, true), (6, true), (7, true), (8, true), (9, true), (10, true), (11, false), (12, false), (13, true)] (fun U => U.cell? ⟨NB, no + i, none⟩ = some (.int .i64 x) ∧ U.rangeAt B (o + 128 * j) (secC s)) (by kernel_rfl) (by kernel_rfl) k0 ?_
        iterate 11 (
          refine walk_float rfl rfl (fun K hK => ?_)
          first
            | (refine gives_move _ rfl ?_)
            | (refine gives_int_elem _ _ rfl NB no _ nc i rfl rfl HIN.out ?_)
            | (refine gives_cell 3 _ rfl ⟨NB, no + i, none⟩ (.int .i64 x) rfl box_int (fun U h => h.1) ?_)
            | (refine gives_int_sum _ _ rfl 2 i j rfl rfl G2.out ?_)
            | (refine gives_sec_elem _ _ rfl B o m cap j rfl rfl HJM.out ?_)
            | (refine gives_sec_mid _ rfl B (o + 128 * j) rfl s (fun U h => h.2) ?_)
            | (refine gives_build2 _ _ rfl x (natF s) s rfl rfl (sec_val s) ?_)
          go_simp
          refine hK _ ?_
          clear hK K)
        refine walk_done rfl rfl (fun K hK => ?_)
        refine done_put1 _ rfl ⟨x, s⟩ rfl ?_
        have c1 : Below wr.heap.size wr (wr.drew.alloc (.cells (putC ⟨x, s⟩).toArray 57)) := ((Below.refl _ wr).drew).alloc (Nat.le_refl _) _
        have r1 : RowsAt 129 putC (wr.drew.alloc (.cells (putC ⟨x, s⟩).toArray 57)) (some ⟨wr.drew.heap.size, 0, none⟩) [⟨x, s⟩] := rows_one wr.drew ⟨x, s⟩
        have k1 : (wr.drew.alloc (.cells (putC ⟨x, s⟩).toArray 57)).cell? ⟨NB, no + i, none⟩ = some (.int .i64 x) ∧ (wr.drew.alloc (.cells (putC ⟨x, s⟩).toArray 57)).rangeAt B (o + 128 * j) (secC s) :=
          ⟨(c1.cell (p := ⟨NB, no + i, none⟩) (show NB < wr.heap.size by have := HLB.out; omega)).trans HNC.out, rangeAt_below HSV.out c1 (by have := HLB.out; omega)⟩
        generalize wr.drew.alloc (.cells (putC ⟨x, s⟩).toArray 57) = V1 at *
        refine ⟨k1, ?_⟩
        go_simp
        refine hK _ _ ?_
        clear hK K
        refine walk_done rfl rfl (fun K hK => ?_)
        refine done_append_list elemPut _ _ rfl w1.heap.size wr.heap.size _ tl [⟨x, s⟩] (some ⟨wr.drew.heap.size, 0, none⟩) 1 1 rfl rfl rfl (HO.out.below (Nat.le_refl _) c1) r1 (by have := HTI.out; simp; omega) (by decide) (by have := c1.size; have := HLB.out; omega) (fun v5 w5 ho5 hg5 hr5 => ?_)
        have B5 := Lib.hid ((HB.out.trans (c1.mono HLB.out.2.2)).trans (below_own1 hg5 HO.out.block (by have := c1.size; have := HLB.out; omega)))
        have O5 := Lib.hid ho5
        refine ⟨⟨hg5.cell k1.1 (HNB2.out _ HLB.out.1), fun jj u hu => hg5.cell (k1.2 jj u hu) (HNB2.out _ HLB.out.2.1)⟩, ?_⟩
        go_simp
        refine hK _ _ ?_
        clear hK K
        refine walk_float rfl rfl (fun K hK => ?_)
        refine gives_assign _ rfl ?_
        go_simp
        refine hK _ ?_
        clear hK K
        refine walk_nil ?_
        clear ho5 hg5 hr5 k1 r1 c1 k0
        go_wp2
        go_roundw
        case rel => exact ⟨i + 1, HIN.out, by go_num, by rw [HST.out]; exact O5.out, B5.out⟩
        case measure => have := HIN.out; simp [intOf]; omega
      · have f1 : ¬ (i : Int) < (n : Int) := by omega
        obtain rfl : i = n := by omega
        have hfu := HFULL.out
        rw [hfu] at HO
        obtain ⟨pp, pc, rfl, _, _, hr, _⟩ := HO.out.rows elemPut.len
        have BR := Lib.hid (B1.out.trans (HB.out.mono B1.out.size))
        have R1 := Lib.hid hr
        have K1 := Lib.hid (HK.out.below BR.out)
        have P1 := Lib.hid (HP.out.below BR.out)
        clear hr HO HB hlt hi hfu HTL HSTEP
        generalize hct : countL (cs.getD 0 []) = ct at *
        generalize hl : toldL (saysC cs) (cs.drop 2) = l at *
        have HCT := Lib.hid hct
        have HLL := Lib.hid hl
        clear hct hl
        by_cases hgd : goodE ct l
        · have HGD := Lib.hid hgd
          clear hgd
          go_wp2_with (first
            | (refine wpList_sec_elem rfl _ _ rfl B o m cap 0 rfl rfl (by have := HM2.out; omega) ?_)
            | (refine wpList_arr_slice rfl 31 5 128 secUnder rfl _ rfl B o rfl ?_)
            | (go_at_call 35; refine (TK.out wr BR.out).mono ?_; rintro e w2 ⟨rfl, rfl⟩
               rw [CT.out])
            | (go_at_call 12; refine (HEN.out pp pc wr K1.out R1.out).mono ?_; rintro e w2 ⟨hs, hb⟩
               unfold RefEnc at hs
               obtain ⟨_, ep, ec, rfl, hr⟩ := hs.resolve_right (fun h => h.1 HGD.out)
               have R2 := Lib.hid hr
               have Q2 := Lib.hid (R1.out.below hb)
               have P2 := Lib.hid (P1.out.below hb)
               have B2 := Lib.hid (BR.out.trans (hb.mono BR.out.size))
               clear hs hb hr R1 P1 BR K1 HEN))
          generalize hN : (encL (tauK nk g) ct l).length = N at *
          have HNM := Lib.hid (show N ≤ m by have := HSH.out; have := HEL.out; omega)
          go_loopw [14] (fun v14 wr => ∃ i : Nat, i ≤ N ∧ v14 = .int .i64 i ∧ (∀ j, j < i → (encL (tauK nk g) ct l).getD j [] = cs.getD j []) ∧ Below w2.heap.size w2 wr) (fun v14 _ => N - (intOf v14).toNat)
          case atStart => exact ⟨0, Nat.zero_le _, rfl, fun j hj => absurd hj (Nat.not_lt_zero _), Below.refl _ _⟩
          case round =>
            obtain ⟨i, hi, rfl, hj, hb⟩ := hrel
            have HJ := Lib.hid hj
            have HB := Lib.hid hb
            clear hj hb
            by_cases hlt : i < N
            · have him : i < m := by have := HNM.out; omega
              have hrc := rangeAt_below (HGX.out w2 B2.out i him) HB.out (by have := HBL.out; have := B2.out.size; omega)
              obtain ⟨E, oe, he, hBe, hre⟩ := secsAt_get (R2.out.below HB.out) (show i < (encL (tauK nk g) ct l).length by omega)
              subst he
              have hse := HES.out _ (getD_mem [] (show i < (encL (tauK nk g) ct l).length by omega))
              have hsc := HCI.out i him
              have HQ := Lib.hid (sameSec_iff hse hsc)
              have HXT := Lib.hid (fun (h : (encL (tauK nk g) ct l).getD i [] = cs.getD i []) j (hj : j < i + 1) => show (encL (tauK nk g) ct l).getD j [] = cs.getD j [] from by
                by_cases e : j = i
                · subst e; exact h
                · exact HJ.out j (by omega))
              have HXN := Lib.hid (fun (h : ¬ (encL (tauK nk g) ct l).getD i [] = cs.getD i []) (hp : encL (tauK nk g) ct l <+: cs) => h (HPF.out.2 hp i (by omega)))
              have f1 : (i : Int) < (N : Int) := by omega
              have f2 : (0 : Int) ≤ i := by omega
              have f3 : IntKind.i64.wrap ((i : Int) + 1) = ((i + 1 : Nat) : Int) := by have := HN.out; rw [IntWalk.i64_in _ (by omega)]; omega
              have HLT := Lib.hid hlt
              have HIM := Lib.hid him
              have HRE := Lib.hid hre
              have HRC := Lib.hid hrc
              clear hlt him hrc hBe hre hse hsc
              generalize (encL (tauK nk g) ct l).getD i [] = x at *
              generalize cs.getD i [] = y at *
              obtain ⟨b, hb2⟩ : ∃ b, sameSec x y = b := ⟨_, rfl⟩
              have HBB := Lib.hid (show (!(sameSec x y)) = !b by rw [hb2])
              rw [hb2] at HQ
              clear hb2
              have k0 : wr.drew.rangeAt E (oe + 128 * i) (secC x) ∧ wr.drew.rangeAt B (o + 128 * i) (secC y) := ⟨HRE.out, HRC.out⟩
              go_wp2
              refine wp_region_sched [(0, true), (1, true), (2, true), (3, true), (4, true), (5, true), (6, true), (7, true), (8, true)] (fun U => U.rangeAt E (oe + 128 * i) (secC x) ∧ U.rangeAt B (o + 128 * i) (secC y)) (by kernel_rfl) (by kernel_rfl) k0 ?_
              iterate 9 (
                refine walk_float rfl rfl (fun K hK => ?_)
                first
                  | (refine gives_move _ rfl ?_)
                  | (refine gives_sec_elem _ _ rfl E oe N ec i rfl rfl HLT.out ?_)
                  | (refine gives_sec_elem _ _ rfl B o m cap i rfl rfl HIM.out ?_)
                  | (refine gives_sec_mid _ rfl E (oe + 128 * i) rfl x (fun U h => h.1) ?_)
                  | (refine gives_sec_mid _ rfl B (o + 128 * i) rfl y (fun U h => h.2) ?_)
                  | (refine gives_sec_neq2 _ _ rfl x y rfl rfl (!b) HBB.out ?_)
                go_simp
                refine hK _ ?_
                clear hK K)
              refine walk_nil ?_
              clear k0
              cases b with
              | true =>
                have HX := Lib.hid (HXT.out (HQ.out.1 rfl))
                go_wp2
                go_roundw
                case rel => exact ⟨i + 1, HLT.out, by go_num, HX.out, HB.out.drew⟩
                case measure => have := HLT.out; simp [intOf]; omega
              | false =>
                have HX := Lib.hid (HXN.out (fun h => by have := HQ.out.2 h; cases this))
                go_wp2
                go_ret3
                exact ⟨.none' (by rw [HDE.out, if_neg fun h => HX.out h.2]), B2.out.trans (HB.out.drew.mono B2.out.size)⟩
            · have f1 : ¬ (i : Int) < (N : Int) := by omega
              obtain rfl : i = N := by omega
              have HX := Lib.hid (HPF.out.1 HJ.out)
              clear hlt hi
              go_wp2
              go_ret3
              exact ⟨.some' (by rw [HDE.out, if_pos ⟨HGD.out, HX.out⟩]) (Q2.out.below HB.out), B2.out.trans (HB.out.mono B2.out.size)⟩
        · have HGD := Lib.hid hgd
          clear hgd
          go_wp2_with (first
            | (refine wpList_sec_elem rfl _ _ rfl B o m cap 0 rfl rfl (by have := HM2.out; omega) ?_)
            | (refine wpList_arr_slice rfl 31 5 128 secUnder rfl _ rfl B o rfl ?_)
            | (go_at_call 35; refine (TK.out wr BR.out).mono ?_; rintro e w2 ⟨rfl, rfl⟩
               rw [CT.out])
            | (go_at_call 12; refine (HEN.out pp pc wr K1.out R1.out).mono ?_; rintro e w2 ⟨hs, hb⟩
               unfold RefEnc at hs
               obtain ⟨_, rfl⟩ := hs.resolve_left (fun h => HGD.out h.1)
               have B2 := Lib.hid (BR.out.trans (hb.mono BR.out.size))
               clear hs hb R1 P1 BR K1 HEN))
          go_ret3
          exact ⟨.none' (by rw [HDE.out, if_neg fun h => HGD.out h.1]), B2.out⟩
end Go.Proofs.YtdeojhcfbiekmaaDoor
