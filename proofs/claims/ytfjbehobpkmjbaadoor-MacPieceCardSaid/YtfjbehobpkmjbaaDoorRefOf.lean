/- The contract of package citadelref04's Of: a text's digest. It writes nothing that was there. Condition: the text has no more than 90000 bytes. -/
import Derived.Test.YtfjbehobpkmjbaaDoorOfC
import Derived.Test.YtfjbehobpkmjbaaDoorRefPad
import Derived.Test.YtfjbehobpkmjbaaDoorRefTake
import Derived.Test.YtfjbehobpkmjbaaDoorTableC
import Derived.Test.YtfjbehobpkmjbaaDoorTailQ
namespace Go.Proofs.YtfjbehobpkmjbaaDoor
open Go.ChangeShapes Go.WideShapes Go.ChangeAt Go.RowKit

theorem quiet_range {o : Oper} {a : Act} {C : World → Prop} {K : Act → Prop} (x y z : Operand) (ho : o.op = .slice 22 x (some y) (some z) none) (B off n c l h : Nat) (hx : a.eval x = .slice (some ⟨B, off, none⟩) n c) (hy : a.eval y = .int .i64 l) (hz : a.eval z = .int .i64 h) (hl : l < h) (hc : h ≤ c)
    (hk : K (a.put o.dst (.slice (some ⟨B, off + l, none⟩) (h - l) (c - l)))) : o.quiet Tryd.prog a C K := by
  refine quiet_value _ (fun w _ => ?_) hk
  have hs := byteElem.run_size (P := Tryd.prog) w
  have e1 : (0 : Int) ≤ l := by omega
  have e2 : (l : Int) ≤ h := by omega
  have e3 : (h : Int) ≤ c := by omega
  have e4 : ¬ c = l := by omega
  have hr : (Instr.sliceAt 22 (.slice (some ⟨B, off, none⟩) n c) (some (.int .i64 l)) (some (.int .i64 h)) none).run Tryd.prog w = .ok (.slice (some ⟨B, off + l, none⟩) (h - l) (c - l)) w := by
    simp [go_sem, e1, e2, e3, e4, hs, addr_add, Program.elem]
  unfold execOp
  simp only [ho, hx]
  simp [hy, hz, hr]
theorem outB_mod (h : Nat → Nat) (i : Nat) {y : Int} (hy : y = ((24 - 8 * (i % 4) : Nat) : Int)) : (shZ (h (i / 4)) y).tmod 256 % 256 = (outB h i : Nat) := by
  subst hy
  unfold shZ outB
  rw [Int.toNat_natCast, IntWalk.rem_in _ _ (Int.natCast_nonneg _)]
  generalize h (i / 4) / 2 ^ (24 - 8 * (i % 4)) = q
  omega
attribute [local irreducible] padL padB cntP chain schT takH begK tabK pieceB allB shZ

set_option maxRecDepth 100000 in
set_option maxHeartbeats 4000000 in
theorem refOf_any (p : Option Addr) (n cap : Nat) (g : Nat → Nat) (hn : n ≤ 90000) (hg : ∀ i, i < n → g i < 256) (w : World) (hp : BytesAt w p n g) :
    Calls Tryd.prog 26 #[.slice p n cap] w fun e w' => e = .returned (.agg (cellsOf .u8 (mk 32 (digF n g)))) ∧ Below w.heap.size w w' := by
  have hL := padL_bd n
  have hM := cntP_mul n
  have heff : effN (n : Int) = n := effN_nat (by omega)
  have F1 := Lib.hid (show ∀ j, j < n → g j = allB n g (0 + j) from fun j hj => by unfold allB; rw [Nat.zero_add, if_pos hj])
  have F2 := Lib.hid (show ∀ j, j < padL n → padB n j = allB n g (n + j) from fun j hj => by unfold allB; rw [if_neg (by omega), Nat.add_sub_cancel_left])
  have HS := Lib.hid (IntBlk.new w .u8 30 (mk 32 zeroK))
  have hb0 : Below w.heap.size w (w.alloc (.cells (cellsOf .u8 (mk 32 zeroK)) 30)) := (Below.refl _ w).alloc (Nat.le_refl _) _
  have hs0 : (w.alloc (.cells (cellsOf .u8 (mk 32 zeroK)) 30)).heap.size = w.heap.size + 1 := World.size_alloc _ _
  have HP := Lib.hid ((hp.below hb0).below ((Below.refl _ (w.alloc (.cells (cellsOf .u8 (mk 32 zeroK)) 30))).alloc (Nat.le_refl _) (.cells (cellsOf .u8 []) 5)))
  have HB0 := Lib.hid hb0
  clear hp hb0
  go_enter Tryd.func26, Tryd.ntmps26
  go_wp2_with (first
    | (refine wpList_buildFlat rfl 22 5 0 _ rfl .u8 [] bytesUnder byteInfo (by rw [byteZero1]; rfl) rfl (by omega) (by omega) rfl ?_)
    | (refine wpList_append_own_bytes rfl (.tmp 9) (.tmp 10) rfl (w.heap.size + 1) (w.heap.size + 1 + 1) 0 _ (allB n g) g p n cap rfl rfl (by have := OwnS.empty (w.alloc (.cells (cellsOf .u8 (mk 32 zeroK)) 30)) (allB n g) (w.heap.size + 1) (by omega); rw [hs0] at this; exact this) HP.out F1.out (by omega) (by first | (simp; done) | (simp; omega)) ?_; intro v1 w2 hv1 hb2; have hs2 : w.heap.size + 1 + 1 ≤ w2.heap.size := by (have := hb2.size; simp only [World.size_alloc] at this; exact this))
    | (go_at_call 31; refine (refPad_any _ _).mono ?_; rintro e w3 ⟨v2, rfl, hv2, hb3⟩; rw [heff] at hv2; obtain ⟨p2, c2, rfl, hc2, _, hp2, _⟩ := hv2.bytes (Nat.le_refl _))
    | (refine wpList_append_own_bytes rfl (.tmp 11) (.tmp 14) rfl (w.heap.size + 1) w2.heap.size n v1 (allB n g) (padB n) p2 (padL n) c2 rfl rfl (by have := hv1.later (Nat.le_refl _) hb3; rw [Nat.zero_add] at this; exact this) hp2 F2.out (by omega) (by have := hb3.size; omega) ?_; intro v3 w4 hv3 hb4))
  obtain ⟨p3, c3, rfl, hc3, _, hp3, hpb3⟩ := hv3.bytes (Nat.le_refl _)
  rcases hp3 with hp3 | ⟨B, off, rfl, hB3, hcl3⟩
  · omega
  have hbB := hpb3 B off rfl
  have hs3 := hb3.size
  have hs4 : w.heap.size + 1 ≤ w4.heap.size := by have := hb4.size; omega
  have hS4 : IntBlk w4 w.heap.size .u8 30 (mk 32 zeroK) := (((HS.out.alloc _).below hb2 (by omega)).below hb3 (by omega)).below hb4 (by omega)
  have hL4 : Below w.heap.size w w4 := ((HB0.out.alloc (by rw [hs0]; omega) _).trans (hb2.mono (by omega))).trans ((hb3.mono (by omega)).trans (hb4.mono (by omega)))
  refine (Table_any _).mono ?_
  rintro e w5 ⟨rfl, hb5⟩
  have G1 := Lib.hid (hS4.below hb5 hS4.lt)
  have G2 := Lib.hid (hL4.trans (hb5.mono hL4.size))
  have G3 := Lib.hid (hcl3.below hb5 hB3)
  have hs5 := hb5.size
  clear hv1 hb2 hb3 hb4 hv2 hp2 hv3 hpb3 hcl3 hS4 hL4 hb5 HS HP HB0
  go_wp2_with (first
    | (refine store_row_on rfl 57 _ _ rfl rfl w5.heap.size (cellsOf .u32 (mk 64 tabK)) rfl rfl 57 (cellsOf .u32 (mk 64 zeroK)) ((IntBlk.new w5 .u32 57 (mk 64 zeroK)).alloc (.cells (cellsOf .u32 (mk 8 zeroK)) 58)) (schedSize _) (by rw [cellsOf_size, cellsOf_size, mk_len, mk_len]) (cellsOf_one _ _) ?_)
    | (refine store_row_on rfl 58 _ _ rfl rfl (w5.heap.size + 1) (cellsOf .u32 (mk 8 begK)) rfl rfl 58 (cellsOf .u32 (mk 8 zeroK)) ((blk_two w5 .u32 58 (mk 8 zeroK) (.cells (cellsOf .u32 (mk 64 zeroK)) 57)).otherRow (by omega) _) (eightSize _) (by rw [cellsOf_size, cellsOf_size, mk_len, mk_len]) (cellsOf_one _ _) ?_))
  have E1 : IntBlk ((((w5.alloc (.cells (cellsOf .u32 (mk 64 zeroK)) 57)).alloc (.cells (cellsOf .u32 (mk 8 zeroK)) 58)).setRow w5.heap.size (cellsOf .u32 (mk 64 tabK))).setRow (w5.heap.size + 1) (cellsOf .u32 (mk 8 begK))) w.heap.size .u8 30 (mk 32 zeroK) := (((G1.out.alloc _).alloc _).otherRow (by omega) _).otherRow (by omega) _
  have E2 : IntBlk ((((w5.alloc (.cells (cellsOf .u32 (mk 64 zeroK)) 57)).alloc (.cells (cellsOf .u32 (mk 8 zeroK)) 58)).setRow w5.heap.size (cellsOf .u32 (mk 64 tabK))).setRow (w5.heap.size + 1) (cellsOf .u32 (mk 8 begK))) w5.heap.size .u32 57 (mk 64 tabK) := (((IntBlk.new w5 .u32 57 (mk 64 zeroK)).alloc _).setRow .u32 _).otherRow (by omega) _
  have E3 : IntBlk ((((w5.alloc (.cells (cellsOf .u32 (mk 64 zeroK)) 57)).alloc (.cells (cellsOf .u32 (mk 8 zeroK)) 58)).setRow w5.heap.size (cellsOf .u32 (mk 64 tabK))).setRow (w5.heap.size + 1) (cellsOf .u32 (mk 8 begK))) (w5.heap.size + 1) .u32 58 (mk 8 begK) := ((blk_two w5 .u32 58 (mk 8 zeroK) (.cells (cellsOf .u32 (mk 64 zeroK)) 57)).otherRow (by omega) _).setRow .u32 _
  have E4 : Below w5.heap.size w5 ((((w5.alloc (.cells (cellsOf .u32 (mk 64 zeroK)) 57)).alloc (.cells (cellsOf .u32 (mk 8 zeroK)) 58)).setRow w5.heap.size (cellsOf .u32 (mk 64 tabK))).setRow (w5.heap.size + 1) (cellsOf .u32 (mk 8 begK))) := below_setRow (below_setRow (((Below.refl _ w5).alloc (Nat.le_refl _) _).alloc (by simp) _) (by omega) _) (by omega) _
  have E5 := G2.out.trans (E4.mono (by omega))
  have E6 : Cells ((((w5.alloc (.cells (cellsOf .u32 (mk 64 zeroK)) 57)).alloc (.cells (cellsOf .u32 (mk 8 zeroK)) 58)).setRow w5.heap.size (cellsOf .u32 (mk 64 tabK))).setRow (w5.heap.size + 1) (cellsOf .u32 (mk 8 begK))) B off (n + padL n) (allB n g) := G3.out.below E4 (by omega)
  have hN : ((((w5.alloc (.cells (cellsOf .u32 (mk 64 zeroK)) 57)).alloc (.cells (cellsOf .u32 (mk 8 zeroK)) 58)).setRow w5.heap.size (cellsOf .u32 (mk 64 tabK))).setRow (w5.heap.size + 1) (cellsOf .u32 (mk 8 begK))).heap.size = w5.heap.size + 2 := by simp
  have e0 : chain begK tabK (allB n g) 0 = begK := by unfold chain; rfl
  have H1 := Lib.hid E1; have H2 := Lib.hid E2; have H3 := Lib.hid E3; have H5 := Lib.hid E5; have H6 := Lib.hid E6
  clear E1 E2 E3 E4 E5 E6 G1 G2 G3
  change Code.wp _ _ _ _ ((((w5.alloc (.cells (cellsOf .u32 (mk 64 zeroK)) 57)).alloc (.cells (cellsOf .u32 (mk 8 zeroK)) 58)).setRow w5.heap.size (cellsOf .u32 (mk 64 tabK))).setRow (w5.heap.size + 1) (cellsOf .u32 (mk 8 begK)))
  generalize ((((w5.alloc (.cells (cellsOf .u32 (mk 64 zeroK)) 57)).alloc (.cells (cellsOf .u32 (mk 8 zeroK)) 58)).setRow w5.heap.size (cellsOf .u32 (mk 64 tabK))).setRow (w5.heap.size + 1) (cellsOf .u32 (mk 8 begK))) = V at *
  generalize w5.heap.size = N at *
  obtain ⟨M, hMM⟩ : ∃ M, cntP n = M := ⟨_, rfl⟩
  rw [hMM] at hM
  obtain ⟨T, hT⟩ : ∃ T, n + padL n = T := ⟨_, rfl⟩
  have hTb : T ≤ 90072 := by omega
  rw [hT] at hM H6 hc3
  have HCG := Lib.hid (show digF n g = outB (chain begK tabK (allB n g) M) from by rw [← hMM]; rfl)
  have hpbb : ∀ k j, j < 64 → pieceB (allB n g) k j < 256 := fun k j _ => by unfold pieceB; exact allB_lt hg _
  have hch : ∀ k j, j < 8 → chain begK tabK (allB n g) k j < 4294967296 := chain_lt _ _ (fun j _ => begK_lt j)
  have HPB := Lib.hid hpbb; have HCH := Lib.hid hch
  have HST := Lib.hid (chain_step begK tabK (allB n g))
  have h6c := H6.out
  clear H6 hpbb hch heff F1 F2 hL hs0
  generalize allB n g = all at *
  rw [hT]
  have HBN := Lib.hid (show B < N by omega)
  have HwN := Lib.hid (show w.heap.size < N by omega)
  have HTM := Lib.hid hM
  have HC3 := Lib.hid hc3
  go_wp2
  go_loopw [6] (fun v wr => ∃ k x : Nat, k ≤ M ∧ x = 64 * k ∧ v = .int .i64 x ∧ IntBlk wr N .u32 57 (mk 64 tabK) ∧ IntBlk wr (N + 1) .u32 58 (mk 8 (chain begK tabK all k)) ∧ Below N V wr) (fun v _ => T - (intOf v).toNat)
  case atStart => exact ⟨0, 0, by omega, rfl, rfl, H2.out, by rw [e0]; exact H3.out, Below.refl _ _⟩
  case round =>
    clear H2 H3
    obtain ⟨k, x, hk, hx, rfl, h2, h3, h4⟩ := hrel
    have I2 := Lib.hid h2; have I3 := Lib.hid h3; have I4 := Lib.hid h4; have HX := Lib.hid hx
    by_cases hlt : k < M
    · have e1 : (x : Int) < T := by omega
      have q1 : IntKind.i64.wrap ((x : Int) + 64) = ((x + 64 : Nat) : Int) := by rw [IntWalk.i64_in _ (by omega)]; omega
      have hsN : N + 1 < wr.heap.size := h3.lt
      have ht : Cells wr B (off + x) 64 (pieceB all k) := fun j hj => by
        have := (h6c : Cells V B off T all).below h4 HBN.out (x + j) (by omega)
        unfold pieceB
        rw [← hx, Nat.add_assoc]; exact this
      have K2 := Lib.hid (fun W (h : Below wr.heap.size wr W) => h2.below h h2.lt)
      have K3 := Lib.hid (fun W (h : Below wr.heap.size wr W) => h3.below h h3.lt)
      have K4 := Lib.hid (fun W (h : Below wr.heap.size wr W) => (refSchedule_any B (off + x) (c3 - x) (pieceB all k) (HPB.out k) W (by have := HBN.out; have := h.size; omega) (ht.below h (by have := HBN.out; omega))).mono fun e w' (hr : _ ∧ Below W.heap.size W w') => And.intro hr.1 (h.trans (hr.2.mono h.size)))
      have K5 := Lib.hid (class_of (W0 := wr) (fun W => refTake_any (chain begK tabK all k) (schT (pieceB all k) 64) tabK (HCH.out k) W))
      have HSTk := Lib.hid (HST.out k)
      have hxc : x + 64 ≤ c3 := by omega
      clear h2 h3 h4 ht hx
      generalize pieceB all k = pc at *
      generalize hch : chain begK tabK all k = ch at *
      clear hch
      go_wp2
      refine wp_region_class_tail 9 (fun w' => Below wr.heap.size wr w') (by kernel_rfl) (by kernel_rfl) ((Below.refl _ _).drew) ?_
      simp only [List.take_succ_cons, List.take_zero, List.drop_succ_cons, List.drop_zero]
      iterate 9 (first
        | go_big_quiet_skip
        | (go_big_quiet_want
           first
             | (go_big_quiet_op; go_big_quiet_on)
             | ((first
                 | (refine quiet_load_row 58 _ rfl (N + 1) .u32 (mk 8 ch) rfl 8 56 eightUnder (eightSize _) K3.out ?_)
                 | (refine quiet_load_row 57 _ rfl N .u32 (mk 64 tabK) rfl 64 56 schedUnder (schedSize _) K2.out ?_)
                 | (refine quiet_int_add _ _ rfl x 64 _ rfl rfl q1 ?_)
                 | (refine quiet_range _ _ _ rfl B off T c3 x (x + 64) rfl rfl rfl (by omega) hxc ?_; rw [Nat.add_sub_cancel_left])
                 | (refine quiet_call1 _ _ _ rfl 34 rfl (.slice (some ⟨B, off + x, none⟩) 64 (c3 - x)) (.agg (cellsOf .u32 (mk 64 (schT pc 64)))) rfl (fun _ w => by simp [go_sem]) K4.out ?_)
                 | (refine quiet_call3 _ _ _ _ _ rfl 33 rfl (.agg (cellsOf .u32 (mk 8 ch))) (.agg (cellsOf .u32 (mk 64 (schT pc 64)))) (.agg (cellsOf .u32 (mk 64 tabK))) (.agg (cellsOf .u32 (mk 8 (takH ch (schT pc 64) tabK)))) rfl rfl rfl (fun _ w => by simp [go_sem]) K5.out ?_)); go_simp; go_big_quiet_on)))
      refine wpQuiet_nil ?_
      intro wx hwx
      have hsx := hwx.size
      refine store_row_on rfl 58 _ _ rfl rfl (N + 1) (cellsOf .u32 (mk 8 (takH ch (schT pc 64) tabK))) rfl rfl 58 (cellsOf .u32 (mk 8 ch)) (K3.out _ hwx) (eightSize _) (by rw [cellsOf_size, cellsOf_size, mk_len, mk_len]) (cellsOf_one _ _) ?_
      go_wp2
      go_roundw
      case rel => exact ⟨k + 1, x + 64, by omega, by have := HX.out; omega, by go_num, (K2.out _ hwx).otherRow (by omega) _, by rw [HSTk.out]; exact (K3.out _ hwx).setRow .u32 _, below_setRow (I4.out.trans (hwx.mono (by omega))) (by omega) _⟩
      case measure => simp [intOf]; omega
    · have ek : k = M := by omega
      have e1 : ¬ (x : Int) < T := by omega
      rw [ek] at I3
      have hsN : N + 1 < wr.heap.size := h3.lt
      have I1 := Lib.hid (H1.out.below h4 HwN.out)
      have IL := Lib.hid (H5.out.trans (h4.mono (by have := HwN.out; omega)))
      clear h2 h3 h4 hlt ek hx
      have hchM := HCH.out M
      generalize chain begK tabK all M = ch at *
      have hcb : ∀ j, j < 8 → ch j < 4294967296 := hchM
      generalize wr = wq at *
      go_wp2
      have hz0 : IntBlk (wq.alloc (.cells (cellsOf .u8 (mk 32 zeroK)) 30)) wq.heap.size .u8 30 (mk 32 (outTo ch 0)) := by rw [outTo_zero]; exact IntBlk.new wq .u8 _ (mk 32 zeroK)
      have HZ := Lib.hid hz0
      have H0 := Lib.hid (show Below wq.heap.size wq (wq.alloc (.cells (cellsOf .u8 (mk 32 zeroK)) 30)) from (Below.refl _ wq).alloc (Nat.le_refl _) _)
      clear hz0
      go_loopw [8] (fun v wk => ∃ i : Nat, i ≤ 32 ∧ v = .int .i64 i ∧ IntBlk wk wq.heap.size .u8 30 (mk 32 (outTo ch i)) ∧ Below wq.heap.size wq wk) (fun v _ => 32 - (intOf v).toNat)
      case atStart => exact ⟨0, by omega, rfl, HZ.out, H0.out⟩
      case round =>
        clear HZ H0
        obtain ⟨i, hi, rfl, hz, hl⟩ := hrel
        have HZ := Lib.hid hz; have HL := Lib.hid hl
        by_cases h32 : i < 32
        · have e2 : (i : Int) < 32 := by omega
          have HS := Lib.hid (outTo_step ch i rfl)
          have hw3 := I3.out.below hl I3.out.lt
          obtain ⟨a, ha⟩ : ∃ a, i / 4 = a := ⟨_, rfl⟩
          obtain ⟨r, hr⟩ : ∃ r, i % 4 = r := ⟨_, rfl⟩
          obtain ⟨y, hy⟩ : ∃ y, 24 - 8 * (i % 4) = y := ⟨_, rfl⟩
          have sv := outB_mod ch i (y := (y : Int)) (by rw [← hy])
          rw [ha] at sv
          have ca := hw3.cell (i := a) (by rw [mk_len]; omega)
          rw [mk_get (by omega)] at ca
          have ci := hz.cell (i := i) (by rw [mk_len]; exact h32)
          have fi := hz.free i
          have hca := hcb a (by omega)
          have q1 : (i : Int) / 4 = (a : Int) := by omega
          have q2 : (i : Int) % 4 = (r : Int) := by omega
          have q3 : IntKind.i64.wrap (8 * (r : Int)) = 8 * (r : Int) := IntWalk.i64_in _ (by omega)
          have q4 : 24 - 8 * (r : Int) = (y : Int) := by omega
          have l1 : (0 : Int) ≤ a := by omega
          have l2 : (a : Int) < 8 := by omega
          have l3 : (0 : Int) ≤ y := by omega
          have l4 : (y : Int) ≤ 32 := by omega
          have SH := Lib.hid (fun W => refShr_any (ch a) (y : Int) hca l3 l4 W)
          have HQ1 := Lib.hid q1; have HQ2 := Lib.hid q2; have HQ4 := Lib.hid q4; have HSV := Lib.hid sv
          clear hz hl hw3 ha hr hy sv
          generalize outB ch i = ov at *
          go_wp2_with (go_at_call 35; refine (SH.out _).mono ?_; rintro e w' ⟨rfl, rfl⟩)
          go_roundw
          case rel => exact ⟨i + 1, by omega, by go_num, by rw [← HS.out, ← HSV.out]; exact HZ.out.set i _, HL.out.setCell (Nat.le_refl _) _⟩
          case measure => simp [intOf]; omega
        · have e32 : i = 32 := by omega
          have hd1 : decide ((i : Int) < 32) = false := by simp; omega
          rw [e32] at HZ
          have hz2 : IntBlk wr wq.heap.size .u8 30 (mk 32 (outB ch)) := by rw [← outTo_end]; exact HZ.out
          have HZ2 := Lib.hid hz2
          have HR2 := Lib.hid (I1.out.below hl I1.out.lt)
          have HW2 := Lib.hid (IL.out.trans (hl.mono IL.out.size))
          clear hz2 e32 h32 HZ hz hl
          go_wp2_with (first
            | (refine wpList_load_row rfl 30 _ rfl wq.heap.size rfl 30 (cellsOf .u8 (mk 32 (outB ch))) (0, 0) _ HZ2.out sumUnder rfl (sumSize _) ?_)
            | (refine wpList_store_row rfl 30 _ _ rfl w.heap.size _ rfl rfl 30 (cellsOf .u8 (mk 32 zeroK)) HR2.out (sumSize _) (by rw [cellsOf_size, cellsOf_size, mk_len, mk_len]) (cellsOf_one _ _) ?_))
          refine bodyPost_ret (results_cell_row rfl _ _ w.heap.size 30 (cellsOf .u8 (mk 32 (outB ch))) (0, 0) _ rfl (HR2.out.setRow .u8 (mk 32 (outB ch))) sumUnder rfl (sumSize _)) rfl ⟨by rw [HCG.out], below_setRow HW2.out (Nat.le_refl _) _⟩
end Go.Proofs.YtfjbehobpkmjbaaDoor
