/- The contract of package chap's Fresh. Condition: the package's variable holds the constants. -/
import Derived.Test.YtccpecajbfpjdaaDoorChC3
namespace Go.Proofs.YtccpecajbfpjdaaDoor
open Go.ChangeShapes Go.WideShapes Go.ChangeAt Go.RowKit Go.Shelf
set_option linter.unusedVariables false
set_option linter.unusedSimpArgs false
attribute [local irreducible] ansT ansD drwD mk zeroK atN freshT
attribute [local go_sem] Oper.semAt_some
set_option maxRecDepth 100000 in
set_option maxHeartbeats 1000000 in
theorem Fresh_no {w : World} (seed b m : Int) (h : m < 1 ∨ 4096 < m) : Calls Tryd.prog 18 #[.int .i64 seed, .int .i64 b, .int .i64 m] w fun e w' => e = .returned (.tuple #[.slice none 0 0, .int .i64 b]) ∧ Below w.heap.size w w' := by
  have a0 : Below w.heap.size w (w.alloc (.cells #[.int .i64 m] 3)) := (Below.refl _ w).alloc (Nat.le_refl _) _
  have HA := Lib.hid a0
  clear a0
  by_cases h1 : m < 1
  · have f1 : decide (m < 1) = true := by simp [h1]
    clear h
    go_enter Tryd.func18, Tryd.ntmps18
    go_wp2
    go_step3
    go_wp2
    rw [Exit.noGoto_ret]
    go_ret2
    exact ⟨rfl, HA.out⟩
  · have f1 : decide (m < 1) = false := by simp; omega
    have f2 : decide ((4096 : Int) < m) = true := by simp; omega
    clear h
    go_enter Tryd.func18, Tryd.ntmps18
    go_wp2
    go_step3
    go_wp2
    rw [Exit.noGoto_ret]
    go_ret2
    exact ⟨rfl, HA.out⟩
/-- Between two draws: the things in boxes, and the row that grows. -/
def FrI (w w5 : World) (T : Nat → Prop) (O5 O8 O9 : Nat) (m : Nat) (nb : Int) (k : Nat) (F : Nat → Nat) (V : World) : Prop :=
  ∃ p c, LoS w w5 T [bxO O9 3 #[.int .i64 nb], bxO O8 22 #[.slice p k c], bxO O5 3 #[.int .i64 (m : Nat)]] V ∧ OwnZ V (w5.heap.size + 2) V.heap.size (.slice p k c) k F
theorem FrI.save {w w5 V V' : World} {T : Nat → Prop} {O5 O8 O9 m k : Nat} {nb : Int} {F : Nat → Nat} (h : FrI w w5 T O5 O8 O9 m nb k F V) (hT : ∀ k, T k → k < w5.heap.size) (hw : w.heap.size ≤ w5.heap.size) (hs : Save w5.heap.size V V') : FrI w w5 T O5 O8 O9 m nb k F V' := by
  obtain ⟨p, c, h1, h2⟩ := h
  exact ⟨p, c, h1.save hT hw hs, (h2.same (fun B b1 b2 => hs.same B b2 (by omega) (by omega))).raise hs.size⟩
theorem FrI.mono {w w5 V V' : World} {T : Nat → Prop} {O5 O8 O9 m k : Nat} {nb : Int} {F : Nat → Nat} (h : FrI w w5 T O5 O8 O9 m nb k F V) (hT : ∀ k, T k → k < w5.heap.size) (hs : Below V.heap.size V V') : FrI w w5 T O5 O8 O9 m nb k F V' := by
  obtain ⟨p, c, h1, h2⟩ := h
  exact ⟨p, c, h1.mono hT hs, (h2.later (Nat.le_refl _) hs).raise hs.size⟩
theorem FrI.num {w w5 V V' : World} {T : Nat → Prop} {O5 O8 O9 m k : Nat} {nb nb' : Int} {F : Nat → Nat} (h : FrI w w5 T O5 O8 O9 m nb k F V) (hT : ∀ k, T k → k < w5.heap.size) (hO : ¬ T O9) (hx : BoxA V' O9 3 #[.int .i64 nb']) (hk : Keeps (fun j => j = O9) V V') (hz : V'.heap.size = V.heap.size) : FrI w w5 T O5 O8 O9 m nb' k F V' := by
  obtain ⟨p, c, h1, h2⟩ := h
  have l9 := h1.top (i := 0) rfl
  refine ⟨p, c, h1.put hT 0 rfl hO hx hk hz, (h2.same (fun B b1 b2 => hk.block B b2 (fun e => ?_))).raise (by rw [hz]; exact Nat.le_refl _)⟩
  subst e
  have l9' : B < w5.heap.size := l9
  omega
set_option maxRecDepth 100000 in
set_option maxHeartbeats 4000000 in
theorem Fresh_ok {w : World} (hT : TabAt w) (seed b : Int) (hs : okI seed) (hb : okI b) (m : Nat) (h1 : 1 ≤ m) (h2 : m ≤ 4096) : Calls Tryd.prog 18 #[.int .i64 seed, .int .i64 b, .int .i64 m] w fun e W' => ∃ D C, ∃ G : Nat → Nat, e = .returned (.tuple #[.slice (some ⟨D, 0, none⟩) m C, .int .i64 (atN b ((m + 31) / 32))]) ∧ BlkR W' D C G ∧ (∀ j, j < m → G j = freshT seed b j) ∧ m ≤ C ∧ w.heap.size ≤ D ∧ Below w.heap.size w W' := by
  have f1 : decide ((m : Int) < 1) = false := by simp; omega
  have f2 : decide ((4096 : Int) < (m : Int)) = false := by simp; omega
  have f3 : decide (4096 < m) = false := by simp; omega
  have f4 : decide (m < 1) = false := by simp; omega
  have HM := Lib.hid (show 1 ≤ m ∧ m ≤ 4096 from ⟨h1, h2⟩)
  have DS := Lib.hid (fun (W : World) (t : TabAt W) => Draws_any t seed b hs hb)
  have HT := Lib.hid hT
  have Z0 := Lib.hid (atN_zero hb)
  clear hT hs hb h1 h2
  refine (callsIn_wide (n := 3)).1 ?_
  refine callsIn_of_wp_marks Tryd.func18 rfl trivial ?_ rfl
  simp only [Tryd.ntmps18, List.size_toArray, List.length_cons, List.length_nil, Nat.reduceAdd, Nat.reduceSub, Array.replicate_succ, Array.replicate_zero, List.push_toArray, List.append_toArray, List.nil_append, List.cons_append]
  refine wpIn_wide.2 ?_
  go_wp2_with (first
    | (with_reducible show wpList _ _ _ (⟨some 5, Op.box 3 _, _, _, _, none⟩ :: _) _ _
       refine wpList_one_of rfl _ rfl (.int .i64 (m : Nat)) rfl rfl ?_
       intro w1 x1 l1 s1
       have P1 := Lib.hid (show LwB w [bxO w.heap.size 3 #[.int .i64 (m : Nat)]] w1 from (LwB.none w).add l1 x1 (Nat.le_refl _))
       have g1 : w1.cell? ⟨w.heap.size, 0, none⟩ = some (.int .i64 (m : Nat)) := x1.cell 0
       clear x1 l1 s1))
  go_step3
  go_wp2_with (first
    | (with_reducible show wpList _ _ _ (⟨some 8, Op.alloc 22, _, _, _, _⟩ :: _) _ _
       refine wpList_one_new oneBytes rfl rfl _ rfl ?_
       intro w2 x2 l2 s2
       have P2 := Lib.hid (show LwB w [bxO w1.heap.size 22 #[.slice none 0 0], bxO w.heap.size 3 #[.int .i64 (m : Nat)]] w2 from P1.out.add l2 x2 (Nat.le_refl _))
       clear x2 l2 s2 P1 g1
       generalize w1.heap.size = J8 at *)
    | (with_reducible show wpList _ _ _ (⟨some 9, Op.alloc 3, _, _, _, _⟩ :: _) _ _
       refine wpList_one_new oneInt rfl rfl _ rfl ?_
       intro w3 x3 l3 s3
       have P3 := Lib.hid (show LwB w [bxO w2.heap.size 3 #[.int .i64 0], bxO J8 22 #[.slice none 0 0], bxO w.heap.size 3 #[.int .i64 (m : Nat)]] w3 from P2.out.add l3 x3 (Nat.le_refl _))
       clear x3 l3 s3 P2
       generalize w2.heap.size = J9 at *)
    | (with_reducible show wpList _ _ _ (⟨_, Op.store 3 (.tmp 9) _, _, _, _, none⟩ :: _) _ _
       refine wpList_int_put rfl _ _ rfl rfl J9 0 b rfl rfl (P3.out.bx (i := 0) rfl) ?_
       intro w4 x4 k4 s4
       have P4 := Lib.hid (show LwB w [bxO J9 3 #[.int .i64 b], bxO J8 22 #[.slice none 0 0], bxO w.heap.size 3 #[.int .i64 (m : Nat)]] w4 from P3.out.put 0 rfl x4 k4)
       clear x4 k4 s4 P3))
  go_step3
  go_wp2_with (first
    | (go_at_call 15
       refine (DS.out _ (HT.out.on P4.out.low)).mono ?_; rintro e w5 ⟨gf, lb, T, rfl, eg, hT, l5, hit⟩
       have S5 := Lib.hid (LoS.of T (P4.out.mono l5))
       have HTT := Lib.hid (fun k hk => (hT k hk).1)
       have HT8 := Lib.hid (show ¬ T J8 from fun hk => by have := (hT J8 hk).2; have := P4.out.lt (i := 1) rfl; simp only [bxO] at this; omega)
       have HT9 := Lib.hid (show ¬ T J9 from fun hk => by have := (hT J9 hk).2; have := P4.out.lt (i := 0) rfl; simp only [bxO] at this; omega)
       have GV := Lib.hid hit
       have EG := Lib.hid eg
       have W5 := Lib.hid (S5.out.b.low.size)
       clear hT l5 hit eg P4 DS))
  refine (wpIn_wide (n := 3)).1 ?_
  refine range_free rfl (by omega) (gf := gf) (lb := lb) rfl trivial EG.out
    (fun z : Int × (Nat → Nat) => #[.int .i64 z.1, .agg (cellsOf .u8 (mk 32 z.2))]) (fun i => (atN b i, drwD seed (atN b i))) 4096 (fun V => TabAt V ∧ ∀ k, T k → V.heap[k]? = w5.heap[k]?) (fun _ => rfl)
    (fun i V => 32 * i < m ∧ FrI w w5 T w.heap.size J8 J9 m (atN b i) (32 * i) (freshT seed b) V) (fun c V => c = .exit 0 ∧ FrI w w5 T w.heap.size J8 J9 m (atN b ((m + 31) / 32)) m (freshT seed b) V) ?rd ?st ?stx ⟨by have := HM.out; omega, none, 0, by rw [Z0.out]; exact S5.out, .inl ⟨rfl, rfl⟩⟩ GV.out ?round ?done ?stop
  case rd => exact fun i V ⟨_, p, c, h, _⟩ => ⟨HT.out.on h.b.low, h.it⟩
  case st => exact fun i V V' h hs => ⟨h.1, h.2.save HTT.out W5.out hs⟩
  case stx => exact fun c V V' h hs => ⟨h.1, h.2.save HTT.out W5.out hs⟩
  case done => exact fun D W hD hI hd => absurd hI.1 (by have := HM.out; omega)
  case stop =>
    rintro D c0 U hD ⟨rfl, p, c, hl, hz⟩ hd
    have P2 := Lib.hid (hl.mark W5.out hD hd)
    have HZ := Lib.hid hz
    clear hl hz hd S5 GV HTT HT8 HT9 EG
    gi_wp2
    have P3 := Lib.hid P2.out.drew
    have HZ3 := Lib.hid (show OwnZ U.drew (w5.heap.size + 2) U.drew.heap.size (.slice p m c) m (freshT seed b) from HZ.out)
    clear P2 HZ
    go_wp2
    refine wp_region_sched [(0, true), (1, true), (2, true), (3, true), (4, true), (5, true), (6, true)] (fun V => BoxA V J9 3 #[.int .i64 (atN b ((m + 31) / 32))] ∧ BoxA V J8 22 #[.slice p m c] ∧ BoxA V w.heap.size 3 #[.int .i64 (m : Nat)]) (by kernel_rfl) (by kernel_rfl) ⟨P3.out.bx (i := 1) rfl, P3.out.bx (i := 2) rfl, P3.out.bx (i := 3) rfl⟩ ?_
    have HC := Lib.hid (show m ≤ c from by
      rcases HZ3.out with ⟨-, h⟩ | ⟨B, C, G, h, -, -, h4, -⟩
      · have := HM.out; omega
      · cases h; exact h4)
    iterate 7 (
      refine walk_float rfl rfl (fun K hK => ?_)
      first
        | (refine gives_assign _ rfl ?_)
        | (refine gives_cell 22 _ rfl ⟨J8, 0, none⟩ (.slice p m c) rfl apart.box_bytes (fun V hV => hV.2.1.cell 0) ?_)
        | (refine gives_cell 3 _ rfl ⟨w.heap.size, 0, none⟩ (.int .i64 (m : Nat)) rfl box_int (fun V hV => hV.2.2.cell 0) ?_)
        | (refine gives_cell 3 _ rfl ⟨J9, 0, none⟩ (.int .i64 (atN b ((m + 31) / 32))) rfl box_int (fun V hV => hV.1.cell 0) ?_)
        | (refine gives_cut3 _ _ _ rfl p m c m rfl rfl rfl HC.out ?_)
      go_simp
      refine hK _ ?_
      clear hK K)
    refine walk_nil ?_
    go_wp2
    rw [Exit.noGoto_ret]
    have hd1 := P3.out.mark (i := 0) rfl
    have hb1 : w.heap.size ≤ D := (P3.out.box (i := 0) rfl).2
    refine ⟨by simp, .inl ⟨_, _, rfl, run_takeDeferred hd1, ?_⟩⟩
    rcases HZ3.out with ⟨-, h⟩ | ⟨B, C, G, h, h2, h3, h4, h5, h6⟩
    · have := HM.out; omega
    · cases h
      have hBD : B ≠ D := fun e => by
        subst e
        have := hd1.symm.trans h5
        simp at this
      refine ⟨_, results_tmp2 rfl _ _ _, B, m, G, rfl, ⟨c, h4, cells_turn h5 hd1 rfl⟩, h6, Nat.le_refl _, Nat.le_trans W5.out (by omega), below_turn _ P3.out.low hb1⟩
  case round =>
    intro l i W hl hi hWs hI
    have HI := Lib.hid hI.2
    have HMI := Lib.hid hI.1
    have HWS := Lib.hid hWs
    have HN := Lib.hid (atN_next b i)
    have HF := Lib.hid (freshT_at seed b i)
    clear hI hi hWs S5 GV hl
    have q1 := HN.out
    have HK := Lib.hid (show atN b ((m + 31) / 32) = atN b ((m + 31) / 32) from rfl)
    gi_wp2_with (first
      | (refine wpListIn_round (by rintro ⟨_, _, h⟩; exact h) _ _ _ rfl ?_
         go_wp2_with (first
           | (with_reducible show wpList _ _ _ (⟨some 11, Op.alloc 25, _, _, _, _⟩ :: _) _ _
              obtain ⟨J8', hJ8⟩ : ∃ J, W.heap.size = J := ⟨_, rfl⟩
              refine wpList_boxA_new rowSum rfl rfl J8' hJ8 ?_
              intro v1 x1 l1 s1
              have S1 := Lib.hid (show LwB W [bxO J8' 25 (cellsOf .u8 (mk 32 zeroK))] v1 from (LwB.none W).add l1 x1 (Nat.le_of_eq hJ8))
              clear x1 l1 s1 hJ8)
           | (with_reducible show wpList _ _ _ (⟨_, Op.store 25 _ _, _, _, _, none⟩ :: _) _ _
              refine wpList_boxA_put rowSum rfl _ _ rfl rfl J8' (cellsOf .u8 (mk 32 (drwD seed (atN b i)))) (cellsOf .u8 (mk 32 zeroK)) (s32_size _) (s32_one _) (s32_size _) rfl rfl (S1.out.bx (i := 0) rfl) ?_
              intro v2 x2 k2' s2
              have S2 := Lib.hid (show LwB W [bxO J8' 25 (cellsOf .u8 (mk 32 (drwD seed (atN b i))))] v2 from S1.out.put 0 rfl x2 k2')
              clear x2 k2' s2 S1))))
    refine ⟨rec_low S2.out.low HWS.out, fun V hVs hVk hVS => ?_⟩
    have HV := Lib.hid ((HI.out.mono HTT.out S2.out.low).save HTT.out W5.out hVS)
    have X8 := Lib.hid (show BoxA V J8' 25 (cellsOf .u8 (mk 32 (drwD seed (atN b i)))) from (S2.out.bx (i := 0) rfl).keep (hVk J8' (by have h2 := (S2.out.box (i := 0) rfl).2; simp only [bxO] at h2; have := HWS.out; omega)))
    have XJ := Lib.hid (show w5.heap.size + 2 ≤ J8' from by have h2 := (S2.out.box (i := 0) rfl).2; simp only [bxO] at h2; have := HWS.out; omega)
    have HV2 := Lib.hid (show w5.heap.size + 2 ≤ V.heap.size from by have := HWS.out; have := S2.out.low.size; omega)
    clear hVs hVk hVS HI HWS S2
    go_simp
    generalize drwD seed (atN b i) = G at *
    gi_wp2_with (first
      | (refine wpListIn_round (by rintro ⟨_, _, h⟩; exact h) _ _ _ rfl ?_
         go_wp2_with (first
           | (with_reducible show wpList _ _ _ (⟨_, Op.store 3 (.tmp 9) _, _, _, _, none⟩ :: _) _ _
              refine wpList_int_put rfl _ _ rfl rfl J9 (atN b i) (atN b (i + 1)) rfl rfl (by obtain ⟨p, c, h, _⟩ := HV.out; exact h.b.bx (i := 0) rfl) ?_
              intro v3 x3 k3 s3
              have H3 := Lib.hid (HV.out.num HTT.out HT9.out x3 k3 s3)
              have t9 : J9 < w5.heap.size := by obtain ⟨p, c, h, _⟩ := HV.out; exact h.top (i := 0) rfl
              have R3 := Lib.hid (rec_put (w5 := w5) k3 s3 t9 HV2.out)
              have X3 := Lib.hid (X8.out.keep (k3.block J8' X8.out.lt (fun e => by have := XJ.out; omega)))
              have B3 := Lib.hid (show w5.heap.size + 2 ≤ v3.heap.size by rw [s3]; exact HV2.out)
              clear x3 k3 s3 t9 HV X8)
           | (refine wpList_load_row rfl 25 _ rfl J8' rfl 25 (cellsOf .u8 (mk 32 G)) (0, 0) _ X3.out sumUnder rfl (by rw [s32_size]; kernel_rfl) ?_))))
    gi_loopw [30] (fun v wr => ∃ k : Nat, k ≤ 32 ∧ v = .int .i64 k ∧ 32 * i + k < m ∧ FrI w w5 T w.heap.size J8 J9 m (atN b (i + 1)) (32 * i + k) (freshT seed b) wr ∧ Rec w5.heap.size V wr ∧ w5.heap.size + 2 ≤ wr.heap.size) (fun v _ => 32 - (intOf v).toNat)
    case atStart => exact ⟨0, by omega, rfl, by have := HMI.out; omega, by rw [Nat.add_zero]; exact H3.out, R3.out, B3.out⟩
    case round =>
      clear H3 R3 X3 B3
      obtain ⟨k, hk, rfl, hkm, hz, hr, hbg⟩ := hrel
      obtain ⟨q, hq⟩ : ∃ q, 32 * i + k = q := ⟨_, rfl⟩
      by_cases h32 : k < 32
      · have e1 : (k : Int) < 32 := by omega
        have ix := run_index_at 25 32 G sumUnder byteElem h32
        have hgk : G k = freshT seed b q := by rw [← hq]; exact HF.out k h32
        rw [hq] at hz hkm
        obtain ⟨p, c, hl, hw⟩ := hz
        have e8 : wr.cell? ⟨J8, 0, none⟩ = some (.slice p q c) := (hl.b.bx (i := 1) rfl).cell 0
        have e5 : wr.cell? ⟨w.heap.size, 0, none⟩ = some (.int .i64 (m : Nat)) := (hl.b.bx (i := 2) rfl).cell 0
        have HQM := Lib.hid hkm
        have HQ := Lib.hid hq
        have HL := Lib.hid hl
        have HZ := Lib.hid hw
        have HR := Lib.hid hr
        have HB := Lib.hid hbg
        have H32 := Lib.hid h32
        clear hl hw hr hbg hkm hq h32 hk
        generalize G k = gk at *
        have HGK := Lib.hid hgk
        clear hgk
        by_cases hbr : q + 1 = m
        · have b1 : ((((q + 1 : Nat) : Int) == (m : Nat)) : Bool) = true := by simp; omega
          have b2 : (((q : Int) + 1 == (m : Int)) : Bool) = true := by simp; omega
          have HBR := Lib.hid hbr
          clear hbr
          gi_wp2_with (first
            | (refine wpListIn_round (by rintro ⟨_, _, h⟩; exact h) _ _ _ rfl ?_
               go_wp2_with (first
                 | (with_reducible show wpList _ _ _ (⟨some 35, Op.buildSlice 22 _ _, _, _, _, _⟩ :: _) _ _
                    refine wpList_bytes1 rfl _ rfl (gk : Int) rfl ?_
                    have l6 : Below wr.heap.size wr (wr.alloc (.cells (cellsOf .u8 [(gk : Int)]) 5)) := (Below.refl _ _).alloc (Nat.le_refl _) _
                    have X6 := Lib.hid (show (wr.alloc (.cells (cellsOf .u8 [(gk : Int)]) 5)).cell? ⟨wr.heap.size, 0, none⟩ = some (.int .u8 (gk : Nat)) from cell_of_one (heap_alloc_new wr _))
                    have L6 := Lib.hid (HL.out.mono HTT.out l6)
                    have Z6 := Lib.hid (HZ.out.later (Nat.le_refl _) l6)
                    have R6 := Lib.hid (HR.out.trans (rec_low l6 HB.out))
                    have B6 := Lib.hid (Nat.le_trans HB.out l6.size)
                    clear l6 HL HZ HR HB e8
                    generalize wr.alloc (.cells (cellsOf .u8 [(gk : Int)]) 5) = w6 at *)
                 | (refine wpList_append_z rfl _ _ rfl (w5.heap.size + 2) _ q (.slice p q c) (freshT seed b) wr.heap.size gk rfl rfl Z6.out B6.out X6.out HGK.out (by have := HQM.out; have := HM.out; omega) ?_
                    intro v7 w7 z7 l7
                    obtain ⟨p7, c7, rfl⟩ : ∃ p c, v7 = .slice p (q + 1) c := z7.slice
                    have L7 := Lib.hid (L6.out.above HTT.out W5.out (Nat.le_add_right _ 2) l7)
                    have Z7 := Lib.hid z7
                    have R7 := Lib.hid (R6.out.trans (rec_above l7 (Nat.le_refl _)))
                    have B7 := Lib.hid (Nat.le_trans B6.out l7.size)
                    clear z7 l7 L6 Z6 R6 B6 X6)
                 | (with_reducible show wpList _ _ _ (⟨_, Op.store 22 _ _, _, _, _, none⟩ :: _) _ _
                    refine wpList_bytes_put rfl _ _ rfl rfl J8 (.slice p q c) p7 (q + 1) c7 rfl rfl (L7.out.b.bx (i := 1) rfl) ?_
                    intro w8 x8 k8 s8
                    have L8 := Lib.hid (show LoS w w5 T [bxO J9 3 #[.int .i64 (atN b (i + 1))], bxO J8 22 #[.slice p7 (q + 1) c7], bxO w.heap.size 3 #[.int .i64 (m : Nat)]] w8 from L7.out.put HTT.out 1 rfl HT8.out x8 k8 s8)
                    have t8 := L7.out.top (i := 1) rfl
                    have Z8 := Lib.hid (show OwnZ w8 (w5.heap.size + 2) w8.heap.size (.slice p7 (q + 1) c7) (q + 1) (freshT seed b) from (Z7.out.same (fun B b1 b2 => k8.block B b2 (fun e => absurd (show J8 < w5.heap.size from t8) (by omega)))).raise (Nat.le_of_eq s8.symm))
                    have R8 := Lib.hid (R7.out.trans (rec_put (w5 := w5) k8 s8 t8 B7.out))
                    have B8 := Lib.hid (show w5.heap.size + 2 ≤ w8.heap.size by rw [s8]; exact B7.out)
                    have c8 : w8.cell? ⟨J8, 0, none⟩ = some (.slice p7 (q + 1) c7) := (L8.out.b.bx (i := 1) rfl).cell 0
                    have c5 : w8.cell? ⟨w.heap.size, 0, none⟩ = some (.int .i64 (m : Nat)) := (L8.out.b.bx (i := 2) rfl).cell 0
                    clear x8 k8 s8 t8 L7 Z7 R7 B7 e5))))

          refine ⟨R8.out, rfl, p7, c7, ?_, ?_⟩
          · have := L8.out
            rw [show (m + 31) / 32 = i + 1 by have := HBR.out; have := HQ.out; have := H32.out; omega, ← HBR.out]
            rw [← HBR.out] at this
            exact this
          · have := Z8.out
            rw [← HBR.out]; exact this
        · have b1 : ((((q + 1 : Nat) : Int) == (m : Nat)) : Bool) = false := by simp; omega
          have b2 : (((q : Int) + 1 == (m : Int)) : Bool) = false := by simp; omega
          have HBR := Lib.hid hbr
          clear hbr
          gi_wp2_with (first
            | (refine wpListIn_round (by rintro ⟨_, _, h⟩; exact h) _ _ _ rfl ?_
               go_wp2_with (first
                 | (with_reducible show wpList _ _ _ (⟨some 35, Op.buildSlice 22 _ _, _, _, _, _⟩ :: _) _ _
                    refine wpList_bytes1 rfl _ rfl (gk : Int) rfl ?_
                    have l6 : Below wr.heap.size wr (wr.alloc (.cells (cellsOf .u8 [(gk : Int)]) 5)) := (Below.refl _ _).alloc (Nat.le_refl _) _
                    have X6 := Lib.hid (show (wr.alloc (.cells (cellsOf .u8 [(gk : Int)]) 5)).cell? ⟨wr.heap.size, 0, none⟩ = some (.int .u8 (gk : Nat)) from cell_of_one (heap_alloc_new wr _))
                    have L6 := Lib.hid (HL.out.mono HTT.out l6)
                    have Z6 := Lib.hid (HZ.out.later (Nat.le_refl _) l6)
                    have R6 := Lib.hid (HR.out.trans (rec_low l6 HB.out))
                    have B6 := Lib.hid (Nat.le_trans HB.out l6.size)
                    clear l6 HL HZ HR HB e8
                    generalize wr.alloc (.cells (cellsOf .u8 [(gk : Int)]) 5) = w6 at *)
                 | (refine wpList_append_z rfl _ _ rfl (w5.heap.size + 2) _ q (.slice p q c) (freshT seed b) wr.heap.size gk rfl rfl Z6.out B6.out X6.out HGK.out (by have := HQM.out; have := HM.out; omega) ?_
                    intro v7 w7 z7 l7
                    obtain ⟨p7, c7, rfl⟩ : ∃ p c, v7 = .slice p (q + 1) c := z7.slice
                    have L7 := Lib.hid (L6.out.above HTT.out W5.out (Nat.le_add_right _ 2) l7)
                    have Z7 := Lib.hid z7
                    have R7 := Lib.hid (R6.out.trans (rec_above l7 (Nat.le_refl _)))
                    have B7 := Lib.hid (Nat.le_trans B6.out l7.size)
                    clear z7 l7 L6 Z6 R6 B6 X6)
                 | (with_reducible show wpList _ _ _ (⟨_, Op.store 22 _ _, _, _, _, none⟩ :: _) _ _
                    refine wpList_bytes_put rfl _ _ rfl rfl J8 (.slice p q c) p7 (q + 1) c7 rfl rfl (L7.out.b.bx (i := 1) rfl) ?_
                    intro w8 x8 k8 s8
                    have L8 := Lib.hid (show LoS w w5 T [bxO J9 3 #[.int .i64 (atN b (i + 1))], bxO J8 22 #[.slice p7 (q + 1) c7], bxO w.heap.size 3 #[.int .i64 (m : Nat)]] w8 from L7.out.put HTT.out 1 rfl HT8.out x8 k8 s8)
                    have t8 := L7.out.top (i := 1) rfl
                    have Z8 := Lib.hid (show OwnZ w8 (w5.heap.size + 2) w8.heap.size (.slice p7 (q + 1) c7) (q + 1) (freshT seed b) from (Z7.out.same (fun B b1 b2 => k8.block B b2 (fun e => absurd (show J8 < w5.heap.size from t8) (by omega)))).raise (Nat.le_of_eq s8.symm))
                    have R8 := Lib.hid (R7.out.trans (rec_put (w5 := w5) k8 s8 t8 B7.out))
                    have B8 := Lib.hid (show w5.heap.size + 2 ≤ w8.heap.size by rw [s8]; exact B7.out)
                    have c8 : w8.cell? ⟨J8, 0, none⟩ = some (.slice p7 (q + 1) c7) := (L8.out.b.bx (i := 1) rfl).cell 0
                    have c5 : w8.cell? ⟨w.heap.size, 0, none⟩ = some (.int .i64 (m : Nat)) := (L8.out.b.bx (i := 2) rfl).cell 0
                    clear x8 k8 s8 t8 L7 Z7 R7 B7 e5))))

          refine ⟨⟨k + 1, H32.out, by go_num, by have := HBR.out; have := HQ.out; have := HQM.out; omega, ?_, R8.out, B8.out⟩, by simp [intOf]; have := H32.out; omega⟩
          rw [show 32 * i + (k + 1) = q + 1 by have := HQ.out; omega]
          exact ⟨p7, c7, L8.out, Z8.out⟩
      · have e8 : k = 32 := by omega
        have hd1 : decide ((k : Int) < 32) = false := by simp; omega
        rw [e8] at hz hkm
        have HZ := Lib.hid hz; have HR := Lib.hid hr; have HKM := Lib.hid hkm
        clear hz hr hbg hkm hq
        gi_wp2
        exact ⟨HR.out, by have := HKM.out; omega, by rw [show 32 * (i + 1) = 32 * i + 32 by omega]; exact HZ.out⟩
/-- Package chap answers as it is asked to. -/
theorem chapSpec : ChapSpec where
  answer := @fun W hT z p n1 c1 g1 q n2 c2 g2 hl hc1 hc2 h1 h2 hp hq => Answer_any hT z hl hc1 hc2 h1 h2 hp hq
  right := @fun W hT z p n1 c1 g1 q n2 c2 g2 r n3 c3 g3 hl hc1 hc2 hn3 h1 h2 h3 hp hq hr => Right_any hT z hl hc1 hc2 hn3 h1 h2 h3 hp hq hr
  draw := fun hT seed n _ _ => Draw_any hT seed n
  draws := fun hT seed b hs hb => Draws_any hT seed b hs hb
  fresh := fun hT seed b hs hb m h1 h2 => Fresh_ok hT seed b hs hb m h1 h2
  none := fun seed b m h => Fresh_no seed b m h
end Go.Proofs.YtccpecajbfpjdaaDoor
