/- A padded text's pieces are its bytes, in order, as many as are asked for: the statement DigestPieces, tied to the program's text. No condition. -/
import Derived.Test.YtibbnnechjmdmaaDoorPieceQ
import Derived.Test.YtibbnnechjmdmaaDoorDoor
import Derived.Test.YtibbnnechjmdmaaDoorDone
namespace Go.Proofs.YtibbnnechjmdmaaDoor.digestPieces
open Go.ChangeShapes Go.WideShapes Go.ChangeAt Go.RowKit Go.Shelf
attribute [local go_sem] Oper.semAt_some
set_option linter.unusedVariables false

theorem own : ownKnob Tryd.prog.godebug = none := by kernel_rfl
/-- Between two pieces. -/
def PiI (w V0 : World) (N K i : Nat) (W : World) : Prop :=
  IntBlk W N .i64 3 [(i : Int)] ∧ i < K ∧ (∀ k, k < V0.heap.size → k ≠ N → W.heap[k]? = V0.heap[k]?) ∧ Below w.heap.size w W ∧ V0.heap.size ≤ W.heap.size
def PiX (w V0 : World) (N K M : Nat) (c : Code) (W : World) : Prop :=
  c = .exit 0 ∧ IntBlk W N .i64 3 [(K : Int)] ∧ K ≤ M ∧ (∀ k, k < V0.heap.size → k ≠ N → W.heap[k]? = V0.heap[k]?) ∧ Below w.heap.size w W ∧ V0.heap.size ≤ W.heap.size
attribute [local irreducible] padL padB cntP pieceB allB digF markF

set_option maxRecDepth 100000 in
set_option maxHeartbeats 2000000 in
theorem walk (p : Option Addr) (n cap : Nat) (g : Nat → Nat) (most : Int) (hg : ∀ i, i < n → g i < 256) (hcap : n ≤ cap) (hmax : cap ≤ maxLen) (hm : (Lit.int .i64 most).wf = true) (w : World) (hT : TabAt w) (hp : BytesAt w p n g) :
    Calls Tryd.prog 7 #[.slice p n cap, .int .i64 most] w fun e w' => e = .returned (.bool true) ∧ Below w.heap.size w w' := by
  have ix : ∀ W, (Instr.index 37 (.agg (cellsOf .u8 (mk 32 (digF 0 zeroK)))) (.int .i64 0)).run Tryd.prog W = .ok (.int .u8 227) W := fun W => by
    have := run_index_at (P := Tryd.prog) 37 32 (digF 0 zeroK) sumUnder byteElem (i := 0) (by omega) W
    rw [dig_none.1] at this; exact this
  have b0 : IntBlk ((w.alloc (.cells #[.int .i64 most] 3)).alloc (.cells #[.bool false] 4)) w.heap.size .i64 3 [most] := (IntBlk.new w .i64 3 [most]).alloc _
  have b1 : BoolBlk ((w.alloc (.cells #[.int .i64 most] 3)).alloc (.cells #[.bool false] 4)) (w.heap.size + 1) 4 false := by
    have e := World.alloc_heap_new (w.alloc (.cells #[.int .i64 most] 3)) (.cells #[.bool false] 4)
    rw [World.size_alloc] at e; exact e
  have b2 : Below w.heap.size w ((w.alloc (.cells #[.int .i64 most] 3)).alloc (.cells #[.bool false] 4)) := below_two w _ _
  have b3 : ((w.alloc (.cells #[.int .i64 most] 3)).alloc (.cells #[.bool false] 4)).heap.size = w.heap.size + 2 := by simp
  have HT := Lib.hid hT
  have HP := Lib.hid hp
  have HP0 := Lib.hid hp
  have B0 := Lib.hid b0; have B1 := Lib.hid b1; have B2 := Lib.hid b2; have B3 := Lib.hid b3
  clear hT hp b0 b1 b2 b3
  refine (callsIn_wide (n := 3)).1 ?_
  refine callsIn_of_wp_marks Tryd.func7 rfl trivial ?_ rfl
  simp only [Tryd.ntmps7, List.size_toArray, List.length_cons, List.length_nil, Nat.reduceAdd, Nat.reduceSub, Array.replicate_succ, Array.replicate_zero, List.push_toArray, List.append_toArray, List.nil_append, List.cons_append]
  refine wpIn_wide.2 ?_
  have F1 := Lib.hid (show ∀ j, j < n → g j = allB n g (0 + j) from fun j hj => by unfold allB; rw [Nat.zero_add, if_pos hj])
  have F2 := Lib.hid (show ∀ j, j < padL n → padB n j = allB n g (n + j) from fun j hj => by unfold allB; rw [if_neg (by omega), Nat.add_sub_cancel_left])
  by_cases hn : n ≤ 16384
  · have e1 : ¬ 16384 < (n : Int) := by omega
    have e2 : ¬ 16384 < n := by omega
    go_wp2_with (first
      | (go_at_call 17; refine (Of_none _ (HT.out.on B2.out)).mono ?_; rintro e w0 ⟨rfl, hb0⟩
         have c0 : IntBlk w0 w.heap.size .i64 3 [most] := B0.out.below hb0 B0.out.lt
         have c1 : BoolBlk w0 (w.heap.size + 1) 4 false := B1.out.below hb0 B1.out.lt
         have c2 : Below w.heap.size w w0 := B2.out.trans (hb0.mono B2.out.size)
         have cf : w0.cell? ⟨w.heap.size, 0, none⟩ = some (.int .i64 most) := cell_of_one c0
         have ff := c0.free 0
         have C0 := Lib.hid c0; have C1 := Lib.hid c1; have C2 := Lib.hid c2
         obtain ⟨u, hu⟩ : ∃ u : Nat, IntKind.u64.wrap most = (u : Int) := ⟨(IntKind.u64.wrap most).toNat, by
           have : 0 ≤ IntKind.u64.wrap most := by simp only [IntKind.wrap, IntKind.bits, IntKind.signed]; simp; omega
           omega⟩
         obtain ⟨r, hr⟩ : ∃ r : Nat, u % 40 = r := ⟨_, rfl⟩
         have q1 : (u : Int).tmod 40 = (r : Int) := by rw [Int.tmod_eq_emod_of_nonneg (by omega)]; omega
         have q2 : IntKind.i64.wrap (r : Int) = (r : Int) := IntWalk.i64_in _ (by omega)
         obtain ⟨K, hK⟩ : ∃ K : Nat, 1 + r = K := ⟨_, rfl⟩
         have q3 : IntKind.i64.wrap (1 + (r : Int)) = (K : Int) := by rw [IntWalk.i64_in _ (by omega)]; omega
         have k1 : 1 ≤ K := by omega
         have K40 := Lib.hid (show K ≤ 40 by omega)
         clear hK hr hb0 c0 c1 c2 B0 B1 B2)
      | (go_at_call 16; refine (Copy_any p n cap g (by omega) _ (HP.out.below (C2.out.setCell (Nat.le_refl _) _))).mono ?_; rintro e w1 ⟨D, m, rfl, rfl, hd, hb1⟩
         have g0 : IntBlk w1 w.heap.size .i64 3 [(K : Int)] := (C0.out.set 0 (K : Int)).below hb1 (by simpa [World.setCell] using C0.out.lt)
         have g1 : BoolBlk w1 (w.heap.size + 1) 4 false := (C1.out.other (by show w.heap.size ≠ w.heap.size + 1; omega) _).below hb1 (by simpa [World.setCell] using C1.out.lt)
         have g2 : Below w.heap.size w w1 := (C2.out.setCell (p := ⟨w.heap.size, 0, none⟩) (Nat.le_refl _) (.int .i64 (K : Int))).trans (hb1.mono (by have := C2.out.size; simpa [World.setCell] using this))
         have gp := HP.out.below g2
         have a1 : Below w1.heap.size w1 (w1.alloc (.cells (cellsOf .u8 []) 5)) := (Below.refl _ w1).alloc (Nat.le_refl _) _
         have GPA := Lib.hid (gp.below a1); have A1 := Lib.hid a1
         have G0 := Lib.hid g0; have G1 := Lib.hid g1; have G2 := Lib.hid g2; have GD := Lib.hid hd
         clear hd hb1 g0 g1 g2 gp a1 HP C0 C1 C2 hu q1 q2 q3 cf ff)
      | (refine wpList_buildFlat rfl 34 5 0 _ rfl .u8 [] bytesUnder byteInfo (by rw [byteZero1]; rfl) rfl (by omega) (by omega) rfl ?_)
      | (refine wpList_append_own_bytes rfl (.tmp 22) (.tmp 23) rfl w1.heap.size (w1.heap.size + 1) 0 _ (allB n g) g p n cap rfl rfl (OwnS.empty w1 (allB n g) w1.heap.size (Nat.le_refl _)) GPA.out F1.out (by omega) (by simp) ?_; intro v1 w2 hv1 hb2
         rw [Nat.zero_add] at hv1
         have HV1 := Lib.hid hv1; have L2 := Lib.hid (A1.out.trans hb2)
         clear hv1 hb2 GPA A1)
      | (go_at_call 20; refine (refPad_any _ _).mono ?_; rintro e w3 ⟨v2, rfl, hv2, hb3⟩
         rw [effN_nat (by omega)] at hv2
         obtain ⟨p2, c2, rfl, hc2, _, hp2, _⟩ := hv2.bytes (Nat.le_refl _)
         have HV2 := Lib.hid (HV1.out.later (Nat.le_refl _) hb3)
         have L3 := Lib.hid (L2.out.trans (hb3.mono L2.out.size))
         have HP2 := Lib.hid hp2
         have hs3 := L3.out.size
         clear hv2 hb3 hp2 hc2 HV1 L2)
      | (refine wpList_append_own_bytes rfl (.tmp 24) (.tmp 27) rfl w1.heap.size w2.heap.size n v1 (allB n g) (padB n) p2 (padL n) c2 rfl rfl HV2.out HP2.out F2.out (by have := padL_bd n; omega) hs3 ?_; intro v3 w4 hv3 hb4
         obtain ⟨p3, c3, rfl, hc3, _, hp3, _⟩ := hv3.bytes (Nat.le_refl _)
         have L4 := Lib.hid (L3.out.trans hb4)
         have HP3 := Lib.hid hp3
         have HC3 := Lib.hid hc3
         have hb6 : Below w4.heap.size w4 ((w4.alloc (.cells #[.slice p3 (n + padL n) c3] 34)).alloc (.cells #[.int .i64 0] 3)) := below_two w4 _ _
         have h6 : IntBlk ((w4.alloc (.cells #[.slice p3 (n + padL n) c3] 34)).alloc (.cells #[.int .i64 0] 3)) (w4.heap.size + 1) .i64 3 [0] := by
           have e := World.alloc_heap_new (w4.alloc (.cells #[.slice p3 (n + padL n) c3] 34)) (.cells #[.int .i64 0] 3)
           rw [World.size_alloc] at e; exact e
         have h7 : ((w4.alloc (.cells #[.slice p3 (n + padL n) c3] 34)).alloc (.cells #[.int .i64 0] 3)).cell? ⟨w4.heap.size, 0, none⟩ = some (.slice p3 (n + padL n) c3) :=
           cell_of_one ((Below.heap_alloc _ _ _ (by simp)).trans (heap_alloc_new w4 _))
         have HB6 := Lib.hid hb6; have H6 := Lib.hid h6; have H7 := Lib.hid h7
         clear hv3 hb4 hp3 hc3 HV2 HP2 L3 hs3 hb6 h6 h7)
      | (go_at_call 21; refine (Pieces_any (some ⟨D, 0, none⟩) n (n + 2) g (by omega) _ (((GD.out.low rfl).below L4.out).below HB6.out)).mono ?_; rintro e w5 ⟨p1, c1, B, Bq, rfl, hc1, hBq, hcq, hpi, hb5⟩
         have HC1 := Lib.hid hc1; have HBq := Lib.hid hBq; have HCQ := Lib.hid hcq; have HPI := Lib.hid hpi
         have Y5 := Lib.hid (HB6.out.trans (hb5.mono HB6.out.size))
         have h6' := H6.out.below hb5 H6.out.lt
         have h7' := (hb5.cell (p := ⟨w4.heap.size, 0, none⟩) (by simp; omega)).trans H7.out
         have H6' := Lib.hid h6'; have H7' := Lib.hid h7'
         clear hc1 hBq hcq hpi hb5 h6' h7' HB6 H6 H7)
      | fail)
    have y5 : Below w1.heap.size w1 w5 := L4.out.trans (Y5.out.mono L4.out.size)
    have j0 : IntBlk w5 w.heap.size .i64 3 [(K : Int)] := G0.out.below y5 G0.out.lt
    have j1 : BoolBlk w5 (w.heap.size + 1) 4 false := G1.out.below y5 G1.out.lt
    have jw : Below w.heap.size w w5 := G2.out.trans (y5.mono G2.out.size)
    have jd : BytesAt w5 (some ⟨D, 0, none⟩) (n + 2) (markF n g) := GD.out.below y5
    have ja : BytesAt w5 p3 (n + padL n) (allB n g) := HP3.out.below Y5.out
    have j6 : IntBlk w5 (w4.heap.size + 1) .i64 3 [0] := H6'.out
    have j7 : w5.cell? ⟨w4.heap.size, 0, none⟩ = some (.slice p3 (n + padL n) c3) := H7'.out
    have jn : w.heap.size + 2 ≤ w4.heap.size := by have := L4.out.size; have := G1.out.lt; omega
    have jz : w4.heap.size + 2 ≤ w5.heap.size := by have := j6.lt; omega
    have hI0 : PiI w w5 (w4.heap.size + 1) K 0 w5 := ⟨j6, k1, fun _ _ _ => rfl, jw, Nat.le_refl _⟩
    have hRd : ∀ V, (∀ k, k < w5.heap.size → k ≠ w4.heap.size + 1 → V.heap[k]? = w5.heap[k]?) → Reads Bq 1 1 (some ⟨B, 0, none⟩) (onePart p1 n c1) g V := fun V h => by
      have hqn : Bq ≠ w4.heap.size + 1 := fun e => by
        have := HCQ.out
        rw [e] at this
        obtain ⟨x, hx⟩ := int_cell j6 this
        cases hx
      exact (partsIn_apart HPI.out j6 (by decide) h).reads ((apart_cell h HBq.out hqn).trans HCQ.out)
    have hPG := pieces_gives (3 - 1) Bq 1 1 (some ⟨B, 0, none⟩) (onePart p1 n c1) g (by omega) (by rw [onePart_len]; omega) (fun i hi => by exact HC1.out)
    rw [onePart_len] at hPG
    have HI0 := Lib.hid hI0; have HRD := Lib.hid hRd; have HPG := Lib.hid hPG; have HG := Lib.hid hg
    have J0 := Lib.hid j0; have J1 := Lib.hid j1; have JW := Lib.hid jw; have JD := Lib.hid jd; have JA := Lib.hid ja; have J6 := Lib.hid j6; have J7 := Lib.hid j7
    have JP := Lib.hid (HP0.out.below jw)
    have JC := Lib.hid HC3.out
    clear j0 j1 jw jd ja j6 j7 y5 hI0 hRd hPG HPI HCQ HBq HC1 H6' H7' Y5 L4 HP3 G0 G1 G2 GD F1 F2 hg HC3 HT HP0 hm hcap hmax
    generalize w4.heap.size = N at *
    refine (wpIn_wide (n := 3)).1 ?_
    refine range_ends rfl (by omega) (gf := 38) (lb := #[.pointer (some ⟨Bq, 0, none⟩)]) rfl trivial (enters_of Tryd.func38 (by kernel_rfl) rfl)
      (fun x : Nat => #[.agg (cellsOf .u8 (mk 64 (pieceB (allB n g) x)))]) (fun _ i _ x => x = i) (cntP n) (Reads Bq 1 1 (some ⟨B, 0, none⟩) (onePart p1 n c1) g) (fun _ => rfl)
      (PiI w w5 (N + 1) K) (PiX w w5 (N + 1) K (cntP n)) ?rd ?st ?stx HI0.out HPG.out ?round ?done ?stop
    case rd => exact fun i U h => HRD.out U h.2.2.1
    case st =>
      rintro i U U' ⟨h1, h2, h3, h4, h5⟩ hb
      exact ⟨h1.below hb (by omega), h2, fun k hk hkn => (hb.block _ hk).trans (h3 k hk hkn), h4.trans (hb.mono (by omega)), Nat.le_trans h5 hb.size⟩
    case stx =>
      rintro c U U' ⟨h1, h2, h2', h3, h4, h5⟩ hb
      exact ⟨h1, h2.below hb (by omega), h2', fun k hk hkn => (hb.block _ hk).trans (h3 k hk hkn), h4.trans (hb.mono (by omega)), Nat.le_trans h5 hb.size⟩
    case done =>
      rintro D0 U hD ⟨h1, h2, h3, h4, h5⟩ hd
      have hcc : cntP n ≤ K ∧ cntP n = Nat.min K (cntP n) := ⟨by omega, (Nat.min_eq_right (by omega)).symm⟩
      have HMIN := Lib.hid hcc.2
      clear hcc
      have hTT := cntP_mul n
      have hT2 : n + padL n ≤ 20000 := by have := padL_bd n; omega
      have HJA := JA.out; have HJ7 := J7.out
      generalize n + padL n = T at *
      have f1 := h1.cell (i := 0) (by simp)
      simp only [List.getD_cons_zero] at f1
      have f2 : U.cell? ⟨w.heap.size, 0, none⟩ = some (.int .i64 (K : Int)) := (apart_cell h3 (by omega) (by omega)).trans (cell_of_one J0.out)
      have f3 : U.cell? ⟨N, 0, none⟩ = some (.slice p3 T c3) := (apart_cell h3 (by omega) (by omega)).trans HJ7
      have f4 := cell_of_one ((h3 (w.heap.size + 1) (by omega) (by omega)).trans J1.out)
      have f5 : U.heap[w.heap.size + 1]? = some (.cells #[.bool false] 4 (0, 0)) := (h3 (w.heap.size + 1) (by omega) (by omega)).trans J1.out
      have ff : U.frozen? ⟨w.heap.size + 1, 0, none⟩ = false := by simp [World.frozen?, f5]
      have kd := Lib.hid (bytesAt_apart JD.out J6.out (by decide) rfl h5 h3)
      have kp := Lib.hid (bytesAt_apart JP.out J6.out (by decide) rfl h5 h3)
      have HB := Lib.hid h4
      have HDD := Lib.hid hd
      have HD0 := Lib.hid hD
      have F5 := Lib.hid f5
      clear h1 h3 h4 hd hD f5 HJA HJ7
      generalize cntP n = M at *
      have hd64 : IntKind.i64.wrap ((T : Int) / 64) = (M : Int) := by rw [IntWalk.i64_in _ (by omega)]; omega
      clear hTT
      go_wp2_with (first
        | (go_at_call 19; refine (Kept_any p n cap (n + 2) D g (by omega) rfl U kp.out kd.out).mono ?_; rintro e wk ⟨rfl, rfl⟩)
        | fail)
      have hD1 := HD0.out
      have hd3 : (U.setCell ⟨w.heap.size + 1, 0, none⟩ (.bool true)).heap[D0]? = some (.deferred (some [])) := (Below.heap_setCell U ⟨w.heap.size + 1, 0, none⟩ (.bool true) D0 (by show D0 ≠ w.heap.size + 1; omega)).trans HDD.out
      have hs3 : (U.setCell ⟨w.heap.size + 1, 0, none⟩ (.bool true)).heap[w.heap.size + 1]? = some (.cells #[.bool true] 4 (0, 0)) := one_setCell F5.out
      have hc : ((U.setCell ⟨w.heap.size + 1, 0, none⟩ (.bool true)).putObj D0 (.deferred none)).cell? ⟨w.heap.size + 1, 0, none⟩ = some (.bool true) := cell_of_one (cells_turn hs3 hd3 rfl)
      refine ⟨by simp, .inl ⟨_, _, rfl, run_takeDeferred hd3, ?_⟩⟩
      refine ⟨.bool true, ?_, rfl, below_turn _ (HB.out.setCell (by show w.heap.size ≤ w.heap.size + 1; omega) _) (by omega)⟩
      simp [results, Tryd.f7, go_sem, hc]
    case stop =>
      rintro D0 c U hD ⟨rfl, h1, h2, h3, h4, h5⟩ hd
      have HMIN := Lib.hid (Nat.min_eq_left h2).symm
      gi_wp2
      have hTT := cntP_mul n
      have hT2 : n + padL n ≤ 20000 := by have := padL_bd n; omega
      have HJA := JA.out; have HJ7 := J7.out
      generalize n + padL n = T at *
      have f1 := h1.cell (i := 0) (by simp)
      simp only [List.getD_cons_zero] at f1
      have f2 : U.cell? ⟨w.heap.size, 0, none⟩ = some (.int .i64 (K : Int)) := (apart_cell h3 (by omega) (by omega)).trans (cell_of_one J0.out)
      have f3 : U.cell? ⟨N, 0, none⟩ = some (.slice p3 T c3) := (apart_cell h3 (by omega) (by omega)).trans HJ7
      have f4 := cell_of_one ((h3 (w.heap.size + 1) (by omega) (by omega)).trans J1.out)
      have f5 : U.heap[w.heap.size + 1]? = some (.cells #[.bool false] 4 (0, 0)) := (h3 (w.heap.size + 1) (by omega) (by omega)).trans J1.out
      have ff : U.frozen? ⟨w.heap.size + 1, 0, none⟩ = false := by simp [World.frozen?, f5]
      have kd := Lib.hid (bytesAt_apart JD.out J6.out (by decide) rfl h5 h3)
      have kp := Lib.hid (bytesAt_apart JP.out J6.out (by decide) rfl h5 h3)
      have HB := Lib.hid h4
      have HDD := Lib.hid hd
      have HD0 := Lib.hid hD
      have F5 := Lib.hid f5
      clear h1 h3 h4 hd hD f5 HJA HJ7
      generalize cntP n = M at *
      have hd64 : IntKind.i64.wrap ((T : Int) / 64) = (M : Int) := by rw [IntWalk.i64_in _ (by omega)]; omega
      clear hTT
      go_wp2_with (first
        | (go_at_call 19; refine (Kept_any p n cap (n + 2) D g (by omega) rfl U kp.out kd.out).mono ?_; rintro e wk ⟨rfl, rfl⟩)
        | fail)
      have hD1 := HD0.out
      have hd3 : (U.setCell ⟨w.heap.size + 1, 0, none⟩ (.bool true)).heap[D0]? = some (.deferred (some [])) := (Below.heap_setCell U ⟨w.heap.size + 1, 0, none⟩ (.bool true) D0 (by show D0 ≠ w.heap.size + 1; omega)).trans HDD.out
      have hs3 : (U.setCell ⟨w.heap.size + 1, 0, none⟩ (.bool true)).heap[w.heap.size + 1]? = some (.cells #[.bool true] 4 (0, 0)) := one_setCell F5.out
      have hc : ((U.setCell ⟨w.heap.size + 1, 0, none⟩ (.bool true)).putObj D0 (.deferred none)).cell? ⟨w.heap.size + 1, 0, none⟩ = some (.bool true) := cell_of_one (cells_turn hs3 hd3 rfl)
      refine ⟨by simp, .inl ⟨_, _, rfl, run_takeDeferred hd3, ?_⟩⟩
      refine ⟨.bool true, ?_, rfl, below_turn _ (HB.out.setCell (by show w.heap.size ≤ w.heap.size + 1; omega) _) (by omega)⟩
      simp [results, Tryd.f7, go_sem, hc]
    case round =>
      rintro l i0 i U hl hi hus ⟨h1, h2, h3, h4, h5⟩ rfl
      have hiN := h1.lt
      have hTT := cntP_mul n
      have HJA := JA.out; have HJ7 := J7.out; have HJC := JC.out
      have hT2 : n + padL n ≤ 20000 := by have := padL_bd n; omega
      generalize n + padL n = T at *
      obtain ⟨z, hz⟩ : ∃ z, 64 * i = z := ⟨_, rfl⟩
      have hzT : z + 64 ≤ T := by omega
      have f2 : U.cell? ⟨w.heap.size, 0, none⟩ = some (.int .i64 (K : Int)) := (apart_cell h3 (by omega) (by omega)).trans (cell_of_one J0.out)
      have f3 : U.cell? ⟨N, 0, none⟩ = some (.slice p3 T c3) := (apart_cell h3 (by omega) (by omega)).trans HJ7
      have fA := bytesAt_apart HJA J6.out (by decide) rfl h5 h3
      rcases fA with fA | ⟨BA, oA, rfl, hBA, hcA⟩
      · omega
      have hBA5 : BA < w5.heap.size := by
        rcases HJA with h | ⟨b, o, h1, h2, _⟩
        · omega
        · cases h1; exact h2
      have HBA5 := Lib.hid hBA5
      clear hBA5
      have q1 : IntKind.i64.wrap (64 * (i : Int)) = (z : Int) := by rw [IntWalk.i64_in _ (by omega)]; omega
      have q2 : IntKind.i64.wrap ((z : Int) + 64) = ((z + 64 : Nat) : Int) := by rw [IntWalk.i64_in _ (by omega)]; omega
      have q3 : decide ((T : Int) < ((z + 64 : Nat) : Int)) = false := by simp; omega
      have q4 : IntKind.i64.wrap ((i : Int) + 1) = ((i + 1 : Nat) : Int) := by rw [IntWalk.i64_in _ (by omega)]; omega
      have hcl : Cells U BA (oA + z) 64 (pieceB (allB n g) i) := fun j hj => by
        have := hcA (z + j) (by omega)
        unfold pieceB
        rw [hz, Nat.add_assoc]; exact this
      have H1 := Lib.hid h1; have H3 := Lib.hid h3; have H4 := Lib.hid h4; have H5 := Lib.hid h5; have F2 := Lib.hid f2; have F3 := Lib.hid f3; have HCL := Lib.hid hcl; have HBA := Lib.hid hBA
      have HIM := Lib.hid hi; have HIK := Lib.hid h2; have HZT := Lib.hid hzT; have HQ1 := Lib.hid q1; have HQ2 := Lib.hid q2; have HQ3 := Lib.hid q3; have HQ4 := Lib.hid q4
      clear h1 h3 h4 h5 f2 f3 hcA hcl HJA HJ7 JA J7 hTT hz q1 q2 q3 q4
      generalize pieceB (allB n g) i = pc at *
      refine region_round rfl (by rintro ⟨_, _, h⟩; exact h) ?_
      go_wp2_with (refine store_row_on rfl 47 _ _ rfl rfl U.heap.size (cellsOf .u8 (mk 64 pc)) rfl rfl 47 (cellsOf .u8 (mk 64 zeroK)) (IntBlk.new U .u8 _ (mk 64 zeroK)) (pieceSize _) (by rw [cellsOf_size, cellsOf_size, mk_len, mk_len]) (cellsOf_one _ _) ?_)
      have P1 : IntBlk ((U.alloc (.cells (cellsOf .u8 (mk 64 zeroK)) 47)).setRow U.heap.size (cellsOf .u8 (mk 64 pc))) U.heap.size .u8 47 (mk 64 pc) := (IntBlk.new U .u8 _ (mk 64 zeroK)).setRow .u8 _
      have P2 : Below U.heap.size U ((U.alloc (.cells (cellsOf .u8 (mk 64 zeroK)) 47)).setRow U.heap.size (cellsOf .u8 (mk 64 pc))) := below_setRow ((Below.refl _ _).alloc (Nat.le_refl _) _) (Nat.le_refl _) _
      refine ⟨Aft.of_below _ P2, fun V hVs hVk0 hVb0 => ?_⟩
      have hVk : ∀ k, k ≠ w5.heap.size + 1 → V.heap[k]? = ((U.alloc (.cells (cellsOf .u8 (mk 64 zeroK)) 47)).setRow U.heap.size (cellsOf .u8 (mk 64 pc))).heap[k]? := hVk0
      have hVb : Below w5.heap.size ((U.alloc (.cells (cellsOf .u8 (mk 64 zeroK)) 47)).setRow U.heap.size (cellsOf .u8 (mk 64 pc))) V := hVb0
      clear hVk0 hVb0 hVs
      generalize ((U.alloc (.cells (cellsOf .u8 (mk 64 zeroK)) 47)).setRow U.heap.size (cellsOf .u8 (mk 64 pc))) = U1 at *
      have hUV : ∀ k, k < U.heap.size → k ≠ w5.heap.size + 1 → V.heap[k]? = U.heap[k]? := fun k hk hkn => (hVk k hkn).trans (P2.block k hk)
      have sV : U.heap.size ≤ V.heap.size := Nat.le_trans P2.size hVb.size
      have Q1 : IntBlk V U.heap.size .u8 47 (mk 64 pc) := (hVk _ (by omega)).trans P1
      have hlV := Q1.lt
      have hb2 : Below w.heap.size w V := (H4.out.trans (P2.mono (by omega))).trans (hVb.mono (by omega))
      have Q2 : IntBlk V (N + 1) .i64 3 [(i : Int)] := (H1.out.below P2 hiN).below hVb (by omega)
      have Q3 : ∀ k, k < w5.heap.size → k ≠ N + 1 → V.heap[k]? = w5.heap[k]? := fun k hk hkn => (hVb.block k hk).trans ((P2.block k (by omega)).trans (H3.out k hk hkn))
      have g2 : V.cell? ⟨w.heap.size, 0, none⟩ = some (.int .i64 (K : Int)) := ((hVb.cell (p := ⟨w.heap.size, 0, none⟩) (by show w.heap.size < _; omega)).trans (P2.cell (p := ⟨w.heap.size, 0, none⟩) (by show w.heap.size < _; omega))).trans F2.out
      have g3 : V.cell? ⟨N, 0, none⟩ = some (.slice (some ⟨BA, oA, none⟩) T c3) := ((hVb.cell (p := ⟨N, 0, none⟩) (by show N < _; omega)).trans (P2.cell (p := ⟨N, 0, none⟩) (by show N < _; omega))).trans F3.out
      have g4 : Cells V BA (oA + z) 64 pc := fun j hj => by
        have h6 := HCL.out j hj
        by_cases hb : BA = w5.heap.size + 1
        · exfalso
          subst hb
          have hJA2 := HBA5.out
          omega
        · exact (World.cell?_of_block (w := U) (hUV BA HBA.out hb)).trans h6
      have K1 : ∀ W, Below V.heap.size V W → BytesAt W (some ⟨U.heap.size, 0, none⟩) 64 pc := fun W h => .inr ⟨U.heap.size, 0, rfl, (Q1.below h hlV).lt, fun j hj => by
        have := (Q1.below h hlV).cell (i := j) (by rw [mk_len]; exact hj)
        rw [mk_get hj] at this; rw [Nat.zero_add]; exact this⟩
      have K2 : ∀ W, Below V.heap.size V W → W.cell? ⟨N + 1, 0, none⟩ = some (.int .i64 (i : Int)) := fun W h => cell_of_one (Q2.below h Q2.lt)
      have K3 : ∀ W, Below V.heap.size V W → W.cell? ⟨N, 0, none⟩ = some (.slice (some ⟨BA, oA, none⟩) T c3) := fun W h => (h.cell (p := ⟨N, 0, none⟩) (by show N < _; omega)).trans g3
      have K4 : ∀ W, Below V.heap.size V W → BytesAt W (some ⟨BA, oA + z, none⟩) 64 pc := fun W h => .inr ⟨BA, oA + z, rfl, by have := h.size; have := HBA.out; omega, fun j hj => (h.cell (p := ⟨BA, oA + z + j, none⟩) (by show BA < _; have := HBA.out; omega)).trans (g4 j hj)⟩
      have HK1 := Lib.hid K1; have HK2 := Lib.hid K2; have HK3 := Lib.hid K3; have HK4 := Lib.hid K4; have HQ2' := Lib.hid Q2; have HQ3' := Lib.hid Q3; have HB2 := Lib.hid hb2; have HG2 := Lib.hid g2; have HSV := Lib.hid sV; have HUS := Lib.hid hus
      have hVC := HJC
      clear P1 P2 Q1 Q2 Q3 hb2 K1 K2 K3 K4 hVk hVb H1 H3 H4 H5 F2 F3 HCL hUV g2 g3 g4
      gi_wp2
      refine round_class_tail 18 (fun w' => Below V.heap.size V w') (by kernel_rfl) (by kernel_rfl) rfl (by rintro ⟨_, _, h⟩; exact h) ((Below.refl _ _).drew) ?_
      simp only [List.take_succ_cons, List.take_zero, List.drop_succ_cons, List.drop_zero]
      iterate 18 (first
        | go_big_quiet_skip
        | (go_big_quiet_want
           first
             | (go_big_quiet_op; go_big_quiet_on)
             | ((first
                 | (refine quiet_int_load _ rfl (N + 1) 0 (.int .i64 (i : Int)) rfl HK2.out ?_)
                 | (refine quiet_slice_load _ rfl N 0 (.slice (some ⟨BA, oA, none⟩) T c3) rfl HK3.out ?_)
                 | (refine quiet_int_mul _ _ rfl 64 i z rfl rfl HQ1.out ?_)
                 | (refine quiet_int_add _ _ rfl z 64 ((z + 64 : Nat) : Int) rfl rfl HQ2.out ?_)
                 | (refine quiet_len _ rfl (some ⟨BA, oA, none⟩) T c3 rfl ?_)
                 | (refine quiet_int_gtr _ _ rfl ((z + 64 : Nat) : Int) T false rfl rfl HQ3.out ?_)
                 | (refine quiet_whole _ rfl U.heap.size rfl ?_)
                 | (refine quiet_string _ rfl (some ⟨U.heap.size, 0, none⟩) 64 64 pc rfl HK1.out ?_)
                 | (refine quiet_range _ _ _ rfl BA oA T c3 z (z + 64) rfl rfl rfl (by omega) (by omega) ?_; rw [Nat.add_sub_cancel_left])
                 | (refine quiet_string _ rfl (some ⟨BA, oA + z, none⟩) 64 (c3 - z) pc rfl HK4.out ?_)
                 | (refine quiet_string_neq _ _ rfl _ _ _ _ rfl rfl rfl rfl rfl ?_)); go_simp; go_big_quiet_on)))
      refine wpQuiet_nil ?_
      intro wx hwx
      obtain ⟨i1, hi1⟩ : ∃ i1, i + 1 = i1 := ⟨_, rfl⟩
      have hK40 := K40.out
      have hIK2 := HIK.out
      have qn : IntKind.i64.wrap ((i : Int) + 1) = (i1 : Int) := by rw [IntWalk.i64_in _ (by omega)]; omega
      have hqx : IntBlk wx (N + 1) .i64 3 [(i : Int)] := HQ2'.out.below hwx HQ2'.out.lt
      have hqy : IntBlk (wx.setCell ⟨N + 1, 0, none⟩ (.int .i64 (i1 : Int))) (N + 1) .i64 3 [(i1 : Int)] := hqx.set 0 _
      have cf : wx.cell? ⟨N + 1, 0, none⟩ = some (.int .i64 (i : Int)) := cell_of_one hqx
      have cf2 : (wx.setCell ⟨N + 1, 0, none⟩ (.int .i64 (i1 : Int))).cell? ⟨N + 1, 0, none⟩ = some (.int .i64 (i1 : Int)) := cell_of_one hqy
      have ff := hqx.free 0
      have cm : wx.cell? ⟨w.heap.size, 0, none⟩ = some (.int .i64 (K : Int)) := (hwx.cell (p := ⟨w.heap.size, 0, none⟩) (by show w.heap.size < _; omega)).trans HG2.out
      have cm2 : (wx.setCell ⟨N + 1, 0, none⟩ (.int .i64 (i1 : Int))).cell? ⟨w.heap.size, 0, none⟩ = some (.int .i64 (K : Int)) := (World.cell?_of_block (w := wx) (Below.heap_setCell wx _ _ _ (by show w.heap.size ≠ N + 1; omega))).trans cm
      have HQX := Lib.hid hqx; have HQY := Lib.hid hqy; have HI1 := Lib.hid hi1; have HWX := Lib.hid hwx
      have same3 : ∀ k, k < w5.heap.size → k ≠ N + 1 → (wx.setCell ⟨N + 1, 0, none⟩ (.int .i64 (i1 : Int))).heap[k]? = w5.heap[k]? := fun k hk hkn => (Below.heap_setCell wx _ _ _ (by show k ≠ N + 1; exact hkn)).trans ((hwx.block k (by have := HSV.out; have := HUS.out; omega)).trans (HQ3'.out k hk hkn))
      have bel3 : Below w.heap.size w (wx.setCell ⟨N + 1, 0, none⟩ (.int .i64 (i1 : Int))) := (HB2.out.trans (hwx.mono HB2.out.size)).setCell (by show w.heap.size ≤ N + 1; omega) _
      have aft3 : Aft w5.heap.size V (wx.setCell ⟨N + 1, 0, none⟩ (.int .i64 (i1 : Int))) := (Aft.of_below _ hwx).trans ((Aft.refl _ wx).setCell (by show N + 1 < w5.heap.size; omega) _)
      have sz3 : w5.heap.size ≤ (wx.setCell ⟨N + 1, 0, none⟩ (.int .i64 (i1 : Int))).heap.size := by have := hwx.size; have := HSV.out; have := HUS.out; simp [World.setCell]; omega
      have HS3 := Lib.hid same3; have HB3 := Lib.hid bel3; have HA3 := Lib.hid aft3; have HZ3 := Lib.hid sz3
      clear hqx hqy hwx same3 bel3 aft3 sz3
      by_cases hl : i1 = K
      · have t1 : (((i1 : Int)) == (K : Int)) = true := by simp; omega
        clear hi1
        subst hl
        go_wp2
        gi_wp2
        have hI := HI1.out
        have hM := HIM.out
        exact ⟨HA3.out, rfl, HQY.out, by omega, HS3.out, HB3.out, HZ3.out⟩
      · have t1 : (((i1 : Int)) == (K : Int)) = false := by simp; omega
        have t2 : ¬ ((i1 : Int) = (K : Int)) := by omega
        clear hi1
        go_wp2
        gi_wp2
        have hI := HI1.out
        exact ⟨HA3.out, by rw [hI]; exact HQY.out, by omega, HS3.out, HB3.out, HZ3.out⟩
  · have e1 : 16384 < (n : Int) := by omega
    have e2 : 16384 < n := by omega
    clear hn
    go_wp2_with (first
      | (go_at_call 17; refine (Of_none _ (HT.out.on B2.out)).mono ?_; rintro e w0 ⟨rfl, hb0⟩
         have c0 : IntBlk w0 w.heap.size .i64 3 [most] := B0.out.below hb0 B0.out.lt
         have c1 : BoolBlk w0 (w.heap.size + 1) 4 false := B1.out.below hb0 B1.out.lt
         have c2 : Below w.heap.size w w0 := B2.out.trans (hb0.mono B2.out.size)
         have cf : w0.cell? ⟨w.heap.size, 0, none⟩ = some (.int .i64 most) := cell_of_one c0
         have cb : w0.cell? ⟨w.heap.size + 1, 0, none⟩ = some (.bool false) := cell_of_one c1
         have ff : w0.frozen? ⟨w.heap.size + 1, 0, none⟩ = false := by simp [World.frozen?, show w0.heap[w.heap.size + 1]? = _ from c1]
         have C1 := Lib.hid c1; have C2 := Lib.hid c2
         clear hb0 c0 c1 c2 B0 B1 B2)
      | fail)
    have hc : (w0.setCell ⟨w.heap.size + 1, 0, none⟩ (.bool true)).cell? ⟨w.heap.size + 1, 0, none⟩ = some (.bool true) := cell_of_one (one_setCell C1.out)
    refine ⟨.bool true, ?_, rfl, C2.out.setCell (by show w.heap.size ≤ w.heap.size + 1; omega) _⟩
    simp [results, Tryd.f7, go_sem, hc]

theorem laidOut : laidOutB Tryd.prog = true := by kernel_rfl
set_option maxRecDepth 100000 in
theorem lifted (os : Os) (started : os.Started) (H : Type) (enc : TypeId × Value → H) :
    ReturnsInHanded {} Tryd.checked os 7 .any (fun w args => (Rows.digestPiecesSpec.pre enc Tryd.prog Tryd.f7 Rows.digestPiecesRow.domain false w args ∧ laidMetH Tryd.prog Rows.digestPiecesRow.laid w) ∧ sizedMet enc Tryd.prog Tryd.f7 (OpenSpec.ofChange Rows.digestPiecesSpec) false w args) (Rows.digestPiecesSpec.post enc Tryd.prog Tryd.f7 false true false false) := by
  refine returnsInHanded_of_change_and (C := Tryd.checked) (X := fun w _ => laidMetH Tryd.prog Rows.digestPiecesRow.laid w) (fun _ _ _ hh h => h.of_heap hh) own started (by kernel_rfl) Tryd.func7
    (ChangeSpec.witness_shaped (enc := enc) (C := Tryd.checked) (os := os) (X := fun w _ => laidMetH Tryd.prog Rows.digestPiecesRow.laid w) false (World.laidAll Tryd.prog os Rows.digestPiecesRow.laid) #[.slice none 0 0, .int .i64 0] 8 (World.laidAll_os _ _ _)
      (World.shaped_of_ZipB (by kernel_rfl) (by kernel_rfl)) (by kernel_rfl) (by kernel_rfl) (by kernel_rfl)
      (by rw [MakeChecks.laidMetH_plain _ _ _ (by kernel_rfl)]; exact laidMet_laidAll _ (by kernel_rfl) (by kernel_rfl))) ?_
  intro W base args ds gs before hval0 hW hcnd hsz hL _
  have hT := tab_of_laid hL
  have hval : ∀ (j : Nat) t v, Tryd.f7.params[j]? = some t → args[j]? = some v → Value.okWide Tryd.prog W .any base t v := hval0
  have hW' := hW
  obtain ⟨p, q, hA0, hV, rfl, hfz, hnd⟩ := hW
  have hA : DataW.TrodAll enc Tryd.prog W 0 (fun _ => true) true Tryd.f7.params.toList args.toList ds p := hA0
  rw [Tryd.params7] at hA hval
  obtain ⟨v0, vs0, d0, ds0, p0, q0, hargs, rfl, rfl, h0, r0⟩ := trodAll_cons hA
  obtain ⟨v1, vs1, d1, ds1, p1, q1, rfl, rfl, rfl, h1, r1⟩ := trodAll_cons r0
  obtain ⟨rfl, rfl, rfl⟩ := trodAll_nil r1
  obtain rfl : args = #[v0, v1] := by cases args; simp_all
  obtain ⟨rfl, rfl⟩ := trodVars_none hV
  have k0 := h0
  have lt0 : ∀ x ∈ p0, x.block < W.heap.size := by obtain ⟨m, hm⟩ := k0; exact DataW.trod_lt m _ _ _ hm
  obtain ⟨q0, n0, c0, a0, rfl, w0, y0, l0, m0⟩ := open_byteslice (hval 0 34 v0 rfl rfl) h0
  obtain ⟨a1, rfl, rfl, rfl, w1⟩ := open_int Tryd.underlying3 (hval 1 3 v1 rfl rfl) h1
  clear hA0 hval0
  refine (walk q0 n0 c0 a0 a1 w0 l0 m0 w1 W hT y0).mono fun e W' ⟨he, bel⟩ => ?_
  subst he
  exact ⟨_, rfl, _, _, _, [], _, [], hW', trodAll_mk1 (shut_bool Tryd.underlying4 _), (trodAll_cons_mk (Below.trod laidOut (by kernel_rfl) (of_decide_eq_true (by kernel_rfl)) k0 bel lt0) (trodAll_cons_mk (shut_int Tryd.underlying3 w1) trodAll_mk0)), rfl, bel.frame _, fun h => by cases h⟩

theorem over : Rows.digestPiecesRow.holds Tryd.pinned (OpenSpec.ofChange Rows.digestPiecesSpec) :=
  OpenClaim.holds_of_wide 7 Tryd.f7 rfl rfl rfl rfl rfl rfl rfl ⟨rfl, rfl, rfl, rfl, rfl⟩ rfl rfl rfl rfl rfl (by kernel_rfl) Tryd.func7 (by kernel_rfl)
    (of_decide_eq_true (by kernel_rfl)) (by unfold Func.isWrapper; first | (rw [if_pos (by decide +kernel)]; kernel_rfl) | (rw [if_neg (by decide +kernel)]; exact ⟨rfl, rfl⟩))
    (fun os started H enc _ => lifted os started H enc)

set_option maxRecDepth 100000 in
theorem proved : Rows.DigestPiecesCardSaid :=
  Claim7.holds_tied_plain_at .later [] [.data] true (true, "f7205cfd815a6bad1c86f1bccfe71f72fe6628e239341f6fbb660aec02113458") false
    over (fun _ h => by cases h) (by kernel_rfl) (fun _ h => by cases h) digestPieces_row_tie rfl ⟨rfl, rfl⟩ (by kernel_rfl) rfl
    (fun f fn hf hfn => by
      obtain rfl : f = 7 := Option.some.inj ((show Tryd.prog.funcNamed "citadel/citadellaw04.DigestPieces" = some 7 by kernel_rfl).symm.trans hf) |>.symm
      obtain rfl : fn = Tryd.f7 := (Option.some.inj (Tryd.func7.symm.trans hfn)).symm
      exact ⟨by kernel_rfl, fun j t ht => by
        rw [Tryd.params7] at ht
        rcases j with _ | _ | j
        · obtain rfl : t = 34 := by simpa using ht.symm
          exact (show Tryd.prog.wantsStandIn 34 = false by kernel_rfl)
        · obtain rfl : t = 3 := by simpa using ht.symm
          exact (show Tryd.prog.wantsStandIn 3 = false by kernel_rfl)
        · simp at ht⟩)
    (by kernel_rfl)
end Go.Proofs.YtibbnnechjmdmaaDoor.digestPieces
