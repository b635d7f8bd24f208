/- A digest is the beginning with all pieces taken: the statement DigestChains, tied to the program's text. No condition. -/
import Derived.Test.YtibbnnechjmdmaaDoorDigLaw
import Derived.Test.YtibbnnechjmdmaaDoorPiecesD
import Derived.Test.YtibbnnechjmdmaaDoorDoor
import Derived.Test.YtibbnnechjmdmaaDoorDone
namespace Go.Proofs.YtibbnnechjmdmaaDoor.digestChains
open Go.ChangeShapes Go.WideShapes Go.ChangeAt Go.RowKit Go.Shelf
attribute [local go_sem] Oper.semAt_some
set_option linter.unusedVariables false

theorem own : ownKnob Tryd.prog.godebug = none := by kernel_rfl
section
variable {W W' : World} {M N : Nat} {t : TypeId} {l : List Int}
theorem word_cell {j : Nat} {v : Value} (h : IntBlk W N .u32 t l) (hv : W.cell? ⟨N, j, none⟩ = some v) : ∃ x, v = .int .u32 x := by
  rw [cell_of_row W N j (cellsOf .u32 l) t (0, 0) h] at hv
  unfold cellsOf at hv
  simp at hv
  obtain ⟨x, _, rfl⟩ := hv
  exact ⟨x, rfl⟩
theorem but_cell {b j : Nat} (hs : ∀ k, k < M → k ≠ N → W'.heap[k]? = W.heap[k]?) (hb : b < M) (hn : b ≠ N) : W'.cell? ⟨b, j, none⟩ = W.cell? ⟨b, j, none⟩ := World.cell?_of_block (w := W) (hs b hb hn)
theorem partsIn_but {q : Option Addr} {np : Nat} {P : Nat → Option Addr × Nat × Nat} {g : Nat → Nat} (h : PartsIn M W q np P g) (hI : IntBlk W N .u32 t l) (hs : ∀ k, k < M → k ≠ N → W'.heap[k]? = W.heap[k]?) : PartsIn M W' q np P g := by
  refine ⟨?_, fun i hi => ?_⟩
  · rcases h.1 with h | ⟨B, o, h1, h2, h3⟩
    · exact .inl h
    · refine .inr ⟨B, o, h1, h2, fun i hi => ?_⟩
      have h4 := h3 i hi
      have hn : B ≠ N := fun e => by subst e; obtain ⟨x, hx⟩ := word_cell hI h4; cases hx
      rw [but_cell hs h2 hn]; exact h4
  · rcases h.2 i hi with h | ⟨B, o, h1, h2, h3⟩
    · exact .inl h
    · refine .inr ⟨B, o, h1, h2, fun j hj => ?_⟩
      have h4 := h3 j hj
      have hn : B ≠ N := fun e => by subst e; obtain ⟨x, hx⟩ := word_cell hI h4; cases hx
      rw [but_cell hs h2 hn]; exact h4
end
/-- Between two pieces. -/
def ChI (w w2 : World) (N : Nat) (t : Nat → Nat) (i : Nat) (W : World) : Prop :=
  IntBlk W N .u32 23 (mk 8 (chain begK tabK t i)) ∧ (∀ k, k < w2.heap.size → k ≠ N → W.heap[k]? = w2.heap[k]?) ∧ Below w.heap.size w W
theorem out_any (h : Nat → Nat) {i q y : Nat} (hq : i / 4 = q) (hy : 24 - 8 * (i % 4) = y) : IntKind.u8.wrap ((h q : Int) / 2 ^ y) = (outB h i : Nat) := by
  have := outB_shift h (i := q) (k := i % 4) (y := y) (by omega) (by omega)
  rw [this]
  congr 2; omega
theorem parts_cell (w : World) (x : Value) (t : TypeId) : (w.alloc (.cells #[x] t)).cell? ⟨w.heap.size, 0, none⟩ = some x := cell_of_one (heap_alloc_new w _)
attribute [local irreducible] padL padB cntP chain schT takH begK tabK pieceB allB digF outB

set_option maxRecDepth 100000 in
set_option maxHeartbeats 2000000 in
theorem walk (p : Option Addr) (n cap : Nat) (g : Nat → Nat) (hg : ∀ i, i < n → g i < 256) (hcap : n ≤ cap) (hmax : cap ≤ maxLen) (w : World) (hT : TabAt w) (hp : BytesAt w p n g) :
    Calls Tryd.prog 8 #[.slice p n cap] w fun e w' => e = .returned (.bool true) ∧ Below w.heap.size w w' := by
  have ix : ∀ W, (Instr.index 37 (.agg (cellsOf .u8 (mk 32 (digF 0 zeroK)))) (.int .i64 0)).run Tryd.prog W = .ok (.int .u8 227) W := fun W => by
    have := run_index_at (P := Tryd.prog) 37 32 (digF 0 zeroK) sumUnder byteElem (i := 0) (by omega) W
    rw [dig_none.1] at this; exact this
  refine (callsIn_wide (n := 3)).1 ?_
  refine callsIn_of_wp_marks Tryd.func8 rfl trivial ?_ rfl
  simp only [Tryd.ntmps8, List.size_toArray, List.length_cons, List.length_nil, Nat.reduceAdd, Nat.reduceSub, Array.replicate_succ, Array.replicate_zero, List.push_toArray, List.append_toArray, List.nil_append, List.cons_append]
  refine wpIn_wide.2 ?_
  by_cases hn : n ≤ 8192
  · have e1 : ¬ 8192 < (n : Int) := by omega
    have e2 : ¬ 8192 < n := by omega
    have HT := Lib.hid hT
    have HP := Lib.hid hp
    clear hp hT
    go_wp2_with (first
      | (go_at_call 17; refine (Of_none w HT.out).mono ?_; rintro e w0 ⟨rfl, hb0⟩
         have HB0 := Lib.hid hb0; have HP0 := Lib.hid (HP.out.below hb0)
         clear hb0)
      | (go_at_call 12; refine (Begin_any _).mono ?_; rintro e w1 ⟨rfl, hb1⟩
         have HB1 := Lib.hid hb1
         have HP1 := Lib.hid ((HP0.out.below hb1).below (below_setRow ((Below.refl _ w1).alloc (Nat.le_refl _) (.cells (cellsOf .u32 (mk 8 zeroK)) 23)) (Nat.le_refl _) (cellsOf .u32 (mk 8 begK))))
         clear hb1 HP0)
      | (refine store_row_on rfl 23 _ _ rfl rfl w1.heap.size (cellsOf .u32 (mk 8 begK)) rfl rfl 23 (cellsOf .u32 (mk 8 zeroK)) (IntBlk.new w1 .u32 _ (mk 8 zeroK)) (eightSize _) (by rw [cellsOf_size, cellsOf_size, mk_len, mk_len]) (cellsOf_one _ _) ?_)
      | (go_at_call 21; refine (Pieces_any p n cap g (by omega) _ HP1.out).mono ?_; rintro e w2 ⟨p1, c1, B, Bq, rfl, hc1, hBq, hcq, hpi, hb2⟩
         have HC1 := Lib.hid hc1; have HBq := Lib.hid hBq; have HCQ := Lib.hid hcq; have HPI := Lib.hid hpi; have HB2 := Lib.hid hb2
         clear hc1 hBq hcq hpi hb2 HP1))
    have hs1 : w.heap.size ≤ w1.heap.size := Nat.le_trans HB0.out.size HB1.out.size
    have hBz : Below w.heap.size w ((w1.alloc (.cells (cellsOf .u32 (mk 8 zeroK)) 23)).setRow w1.heap.size (cellsOf .u32 (mk 8 begK))) := below_setRow ((HB0.out.trans (HB1.out.mono HB0.out.size)).alloc hs1 _) hs1 _
    have hz1 : ((w1.alloc (.cells (cellsOf .u32 (mk 8 zeroK)) 23)).setRow w1.heap.size (cellsOf .u32 (mk 8 begK))).heap.size = w1.heap.size + 1 := by simp
    have hb2 := HB2.out
    rw [hz1] at hb2
    have hs2 : w1.heap.size + 1 ≤ w2.heap.size := by have := hb2.size; rw [hz1] at this; exact this
    have hI2 : IntBlk w2 w1.heap.size .u32 23 (mk 8 begK) := ((IntBlk.new w1 .u32 23 (mk 8 zeroK)).setRow .u32 (mk 8 begK)).below hb2 (by omega)
    have hI0 : ChI w w2 w1.heap.size (allB n g) 0 w2 := by
      have e0 : chain begK tabK (allB n g) 0 = begK := by unfold chain; rfl
      unfold ChI
      rw [e0]
      exact ⟨hI2, fun _ _ _ => rfl, hBz.trans (hb2.mono (by omega))⟩
    have hRd : ∀ V i, ChI w w2 w1.heap.size (allB n g) i V → Reads Bq 1 1 (some ⟨B, 0, none⟩) (onePart p1 n c1) g V := fun V i h => by
      obtain ⟨h1, h2, h3⟩ := h
      have hqn : Bq ≠ w1.heap.size := fun e => by
        have := HCQ.out
        rw [e] at this
        obtain ⟨x, hx⟩ := word_cell hI2 this
        cases hx
      exact (partsIn_but HPI.out hI2 h2).reads ((but_cell h2 HBq.out hqn).trans HCQ.out)
    have hBy : ∀ V i, ChI w w2 w1.heap.size (allB n g) i V → True := fun _ _ _ => trivial
    have hPG := pieces_gives (3 - 1) Bq 1 1 (some ⟨B, 0, none⟩) (onePart p1 n c1) g (by omega) (by rw [onePart_len]; omega) (fun i hi => by exact HC1.out)
    rw [onePart_len] at hPG
    have hNs : w.heap.size ≤ w1.heap.size := hs1
    have HI0 := Lib.hid hI0; have HRD := Lib.hid hRd; have HPG := Lib.hid hPG; have HG := Lib.hid hg
    clear hI0 hRd hBy hPG HPI HCQ HBq HC1 hBz hb2 hI2 HB0 HB1 HB2 hg
    generalize w1.heap.size = N at *
    refine (wpIn_wide (n := 3)).1 ?_
    refine range_ends rfl (by omega) (gf := 38) (lb := #[.pointer (some ⟨Bq, 0, none⟩)]) rfl trivial (enters_of Tryd.func38 (by kernel_rfl) rfl)
      (fun x : Nat => #[.agg (cellsOf .u8 (mk 64 (pieceB (allB n g) x)))]) (fun _ i _ x => x = i) (cntP n) (Reads Bq 1 1 (some ⟨B, 0, none⟩) (onePart p1 n c1) g) (fun _ => rfl)
      (ChI w w2 N (allB n g)) (fun _ _ => False) ?rd ?st ?stx HI0.out HPG.out ?round ?done ?stop
    case rd => exact fun i U h => HRD.out U i h
    case st =>
      rintro i U U' ⟨h1, h2, h3⟩ hb
      exact ⟨h1.below hb (by omega), fun k hk hkn => (hb.block _ hk).trans (h2 k hk hkn), h3.trans (hb.mono (by omega))⟩
    case stx => exact fun _ _ _ h _ => h
    case stop => exact fun _ _ _ _ h _ => h.elim
    case done =>
      rintro D U hD ⟨h2, h3, h4⟩ hd
      have H2 := Lib.hid h2; have H4 := Lib.hid h4; have HD := Lib.hid hd
      have hTU := HT.out.on h4
      have HTU := Lib.hid hTU
      have HPU := Lib.hid (HP.out.below h4)
      clear h2 h3 h4 hd hTU HP HT
      have hcb : ∀ j, j < 8 → chain begK tabK (allB n g) (cntP n) j < 4294967296 := chain_lt _ _ (fun j _ => begK_lt j) _
      have hdig : outB (chain begK tabK (allB n g) (cntP n)) = digF n g := by unfold digF; rfl
      have HDG := Lib.hid hdig
      clear hdig
      generalize chain begK tabK (allB n g) (cntP n) = ch at *
      have hDU := (Array.getElem?_eq_some_iff.1 HD.out).1
      have hiN := H2.out.lt
      go_wp2_with (first
        | (refine wpList_buildTo rfl 37 _ rfl (some 21) rfl (cellsOf .u8 (mk 32 zeroK)) (by kernel_rfl) ?_)
        | (refine store_row_on rfl 37 _ _ rfl rfl U.heap.size (cellsOf .u8 (mk 32 zeroK)) rfl rfl 37 (cellsOf .u8 (mk 32 zeroK)) (IntBlk.new U .u8 _ (mk 32 zeroK)) (sumSize _) rfl (cellsOf_one _ _) ?_))
      have hz0 : IntBlk ((U.alloc (.cells (cellsOf .u8 (mk 32 zeroK)) 37)).setRow U.heap.size (cellsOf .u8 (mk 32 zeroK))) U.heap.size .u8 37 (mk 32 (outTo ch 0)) := by rw [outTo_zero]; exact (IntBlk.new U .u8 37 (mk 32 zeroK)).setRow .u8 _
      have hb0 : Below U.heap.size U ((U.alloc (.cells (cellsOf .u8 (mk 32 zeroK)) 37)).setRow U.heap.size (cellsOf .u8 (mk 32 zeroK))) := below_setRow ((Below.refl _ U).alloc (Nat.le_refl _) _) (Nat.le_refl _) _
      change Code.wp _ _ _ _ ((U.alloc (.cells (cellsOf .u8 (mk 32 zeroK)) 37)).setRow U.heap.size (cellsOf .u8 (mk 32 zeroK)))
      generalize ((U.alloc (.cells (cellsOf .u8 (mk 32 zeroK)) 37)).setRow U.heap.size (cellsOf .u8 (mk 32 zeroK))) = U1 at *
      have HZ := Lib.hid hz0; have HB := Lib.hid hb0
      clear hz0 hb0
      go_loopw [6, 22] (fun _ v wr => ∃ i : Nat, i ≤ 32 ∧ v = .int .i64 i ∧ IntBlk wr U.heap.size .u8 37 (mk 32 (outTo ch i)) ∧ Below U.heap.size U wr) (fun _ v _ => 32 - (intOf v).toNat)
      case atStart => exact ⟨0, by omega, rfl, HZ.out, HB.out⟩
      case round =>
        clear HZ HB
        obtain ⟨i, hi, rfl, hz, hb⟩ := hrel
        have HZ := Lib.hid hz; have HB := Lib.hid hb
        clear hb
        by_cases h4 : i < 32
        · have e3 : (i : Int) < 32 := by omega
          have HS := Lib.hid (outTo_step ch i rfl)
          obtain ⟨q, hq⟩ : ∃ q, i / 4 = q := ⟨_, rfl⟩
          obtain ⟨r, hr⟩ : ∃ r, i % 4 = r := ⟨_, rfl⟩
          obtain ⟨z, hzz⟩ : ∃ z, 8 * r = z := ⟨_, rfl⟩
          obtain ⟨y, hy⟩ : ∃ y, 24 - z = y := ⟨_, rfl⟩
          have sv := out_any ch (i := i) (q := q) (y := y) hq (by omega)
          have cs := hz.cell (i := i) (by rw [mk_len]; omega)
          have fs := hz.free i
          have hN := H2.out.below HB.out hiN
          have cN := hN.cell (i := q) (by rw [mk_len]; omega)
          rw [mk_get (by omega)] at cN
          have p1 : IntKind.i64.wrap ((i : Int) / 4) = (q : Int) := by rw [IntWalk.i64_in _ (by omega)]; omega
          have p1' : IntKind.i64.wrap ((i : Int).tdiv 4) = (q : Int) := by rw [Int.tdiv_eq_ediv_of_nonneg (by omega)]; exact p1
          have p2 : (i : Int).tmod 4 = (r : Int) := by rw [Int.tmod_eq_emod_of_nonneg (by omega)]; omega
          have p2' : (i : Int) % 4 = (r : Int) := by omega
          have p3 : IntKind.i64.wrap (8 * (r : Int)) = (z : Int) := by rw [IntWalk.i64_in _ (by omega)]; omega
          have p4 : IntKind.i64.wrap (24 - (z : Int)) = (y : Int) := by rw [IntWalk.i64_in _ (by omega)]; omega
          have p5 : IntKind.u64.wrap (y : Int) = (y : Int) := by exact IntWalk.u64_in _ (by omega)
          have l0 : (q : Int) < 8 := by omega
          have l2 : (0 : Int) ≤ y := by omega
          have l3 : (y : Int) ≤ 32 := by omega
          clear hz hq hr hzz hy hN
          generalize outB ch i = ov at *
          generalize ch q = cq at *
          go_wp2
          go_roundw
          case rel => exact ⟨i + 1, by omega, by go_num, by rw [← HS.out]; exact HZ.out.set i _, HB.out.setCell (Nat.le_refl _) _⟩
          case measure => simp [intOf]; omega
        · have e32 : i = 32 := by omega
          have hd1 : decide ((i : Int) < 32) = false := by simp; omega
          rw [e32] at HZ
          have hz2 : IntBlk wr U.heap.size .u8 37 (mk 32 (digF n g)) := by rw [← HDG.out, ← outTo_end]; exact HZ.out
          have HZ2 := Lib.hid hz2
          have HP2 := Lib.hid (HPU.out.below HB.out)
          have HT2 := Lib.hid (HTU.out.on HB.out)
          have HL2 := Lib.hid (H4.out.trans (HB.out.mono H4.out.size))
          have HD2 := Lib.hid ((HB.out.block D hDU).trans HD.out)
          clear hz2 e32 h4 HZ HPU HTU H4 HD hz hDU
          go_wp2
          have c0 : Below wr.heap.size wr wr.drew := (Below.refl _ wr).drew
          refine wp_region_sched [(0, false), (1, true), (2, true), (3, true), (7, true), (4, true), (5, false), (6, false), (8, true), (9, true), (10, true)] (fun w' => Below wr.heap.size wr w') (by kernel_rfl) (by kernel_rfl) c0 ?_
          have KB := Lib.hid (fun W (h : Below wr.heap.size wr W) => HZ2.out.below h HZ2.out.lt)
          refine walk_done rfl rfl (fun K hK => ?_)
          refine done_call1 _ _ _ rfl 17 rfl (.slice none 0 0) rfl (fun _ w => by simp [go_sem]) _ (Of_none wr.drew (HT2.out.on c0)) ?_
          intro v1 hv1
          have c1 : Below wr.heap.size wr v1 := c0.trans (hv1.mono c0.size)
          refine ⟨c1, ?_⟩
          go_simp
          refine hK _ _ ?_
          clear hK K hv1
          iterate 5 (
            refine walk_float rfl rfl (fun K hK => ?_)
            first
              | (refine gives_move _ rfl ?_)
              | (refine gives_assign _ rfl ?_)
              | (refine gives_row 37 _ rfl U.heap.size .u8 (mk 32 (digF n g)) rfl 32 5 sumUnder (sumSize _) KB.out ?_)
              | (refine gives_sum_index _ _ rfl (digF 0 zeroK) 0 rfl 0 rfl rfl (by omega) 227 dig_none.1 ?_)
              | (refine gives_u8_eql _ _ rfl 227 227 true rfl rfl rfl ?_)
            go_simp
            refine hK _ ?_
            clear hK K)
          refine walk_done rfl rfl (fun K hK => ?_)
          refine done_slice1 _ rfl p n cap rfl ?_
          have a2 : Below v1.heap.size v1 (v1.alloc (.cells #[.slice p n cap] 34)) := (Below.refl _ v1).alloc (Nat.le_refl _) _
          have c2 : Below wr.heap.size wr (v1.alloc (.cells #[.slice p n cap] 34)) := c1.trans (a2.mono c1.size)
          have d2 := cell_of_one (heap_alloc_new v1 (.cells #[.slice p n cap] 34))
          refine ⟨c2, ?_⟩
          generalize v1.alloc (.cells #[.slice p n cap] 34) = v2 at *
          go_simp
          refine hK _ _ ?_
          clear hK K
          refine walk_done rfl rfl (fun K hK => ?_)
          refine done_call1 _ _ _ rfl 17 rfl (.slice (some ⟨v1.heap.size, 0, none⟩) 1 1) rfl (fun _ w => by simp [go_sem]) _ (Of_one v1.heap.size 1 p n cap g (by omega) hcap HG.out v2 (HT2.out.on c2) d2 (HP2.out.below c2)) ?_
          intro v3 hv3
          have c3 : Below wr.heap.size wr v3 := c2.trans (hv3.mono c2.size)
          refine ⟨c3, ?_⟩
          go_simp
          refine hK _ _ ?_
          clear hK K hv3
          iterate 3 (
            refine walk_float rfl rfl (fun K hK => ?_)
            first
              | (refine gives_assign _ rfl ?_)
              | (refine gives_pick_bool _ _ _ rfl rfl _ rfl ?_)
              | (refine gives_sum_eql _ _ rfl (digF n g) (digF n g) rfl rfl (by simp) ?_)
            go_simp
            refine hK _ ?_
            clear hK K)
          refine walk_nil ?_
          go_wp2
          have hd3 : v3.heap[D]? = some (.deferred (some [])) := (c3.block D (Array.getElem?_eq_some_iff.1 HD2.out).1).trans HD2.out
          refine ⟨by simp, .inl ⟨_, _, rfl, run_takeDeferred hd3, ?_⟩⟩
          exact ⟨_, results_tmp rfl _ _ _, rfl, below_turn _ (HL2.out.trans (c3.mono HL2.out.size)) (by have := hD; omega)⟩
    case round =>
      rintro l i0 i U hl hi hus hI rfl
      obtain ⟨h2, h3, h4⟩ := hI
      have hlN := h2.lt
      have hTU := HT.out.on h4
      have HC := Lib.hid (chain_step begK tabK (allB n g) i)
      have hpb : ∀ j, j < 64 → pieceB (allB n g) i j < 256 := fun j _ => by unfold pieceB; exact allB_lt HG.out _
      have hcb : ∀ j, j < 8 → chain begK tabK (allB n g) i j < 4294967296 := chain_lt _ _ (fun j _ => begK_lt j) i
      have SC := Lib.hid (fun W => Schedule_any _ hpb W)
      have TC := Lib.hid (fun W hW => Take_any _ (schT (pieceB (allB n g) i) 64) hcb W hW)
      have H2 := Lib.hid h2; have H3 := Lib.hid h3; have H4 := Lib.hid h4; have HTU := Lib.hid hTU; have HUS := Lib.hid (show w2.heap.size ≤ U.heap.size by omega)
      clear h2 h3 h4 hTU hpb hcb
      generalize pieceB (allB n g) i = pc at *
      generalize hch : chain begK tabK (allB n g) i = ch at *
      clear hch
      refine region_round rfl (by rintro ⟨_, _, h⟩; exact h) ?_
      go_wp2_with (refine store_row_on rfl 47 _ _ rfl rfl U.heap.size (cellsOf .u8 (mk 64 pc)) rfl rfl 47 (cellsOf .u8 (mk 64 zeroK)) (IntBlk.new U .u8 _ (mk 64 zeroK)) (pieceSize _) (by rw [cellsOf_size, cellsOf_size, mk_len, mk_len]) (cellsOf_one _ _) ?_)
      have P1 : IntBlk ((U.alloc (.cells (cellsOf .u8 (mk 64 zeroK)) 47)).setRow U.heap.size (cellsOf .u8 (mk 64 pc))) U.heap.size .u8 47 (mk 64 pc) := (IntBlk.new U .u8 _ (mk 64 zeroK)).setRow .u8 _
      have P2 : Below U.heap.size U ((U.alloc (.cells (cellsOf .u8 (mk 64 zeroK)) 47)).setRow U.heap.size (cellsOf .u8 (mk 64 pc))) := below_setRow ((Below.refl _ _).alloc (Nat.le_refl _) _) (Nat.le_refl _) _
      refine ⟨Aft.of_below _ P2, fun V hVs hVk0 hVb0 => ?_⟩
      have hVk : ∀ k, k ≠ w2.heap.size + 1 → V.heap[k]? = ((U.alloc (.cells (cellsOf .u8 (mk 64 zeroK)) 47)).setRow U.heap.size (cellsOf .u8 (mk 64 pc))).heap[k]? := hVk0
      have hVb : Below w2.heap.size ((U.alloc (.cells (cellsOf .u8 (mk 64 zeroK)) 47)).setRow U.heap.size (cellsOf .u8 (mk 64 pc))) V := hVb0
      clear hVk0 hVb0 hVs
      generalize ((U.alloc (.cells (cellsOf .u8 (mk 64 zeroK)) 47)).setRow U.heap.size (cellsOf .u8 (mk 64 pc))) = U1 at *
      have Q1 : IntBlk V U.heap.size .u8 47 (mk 64 pc) := (hVk _ (by omega)).trans P1
      have hb2 : Below w.heap.size w V := (H4.out.trans (P2.mono (by omega))).trans (hVb.mono (by omega))
      have Q2 : IntBlk V N .u32 23 (mk 8 ch) := (H2.out.below P2 hlN).below hVb (by omega)
      have Q3 : ∀ k, k < w2.heap.size → k ≠ N → V.heap[k]? = w2.heap[k]? := fun k hk hkn => (hVb.block k hk).trans ((P2.block k (by have := HUS.out; omega)).trans (H3.out k hk hkn))
      have HVS := Lib.hid (show w2.heap.size ≤ V.heap.size by have := hVb.size; have := P2.size; have := HUS.out; omega)
      have Q5 := HT.out.on hb2
      have hlV := Q1.lt
      have K1 : ∀ W, Below V.heap.size V W → IntBlk W U.heap.size .u8 47 (mk 64 pc) := fun W h => Q1.below h Q1.lt
      have K2 : ∀ W, Below V.heap.size V W → IntBlk W N .u32 23 (mk 8 ch) := fun W h => Q2.below h Q2.lt
      have K3 : ∀ W, Below V.heap.size V W → Calls Tryd.prog 10 #[.agg (cellsOf .u32 (mk 8 ch)), .agg (cellsOf .u32 (mk 64 (schT pc 64)))] W fun e w' => e = .returned (.agg (cellsOf .u32 (mk 8 (takH ch (schT pc 64) tabK)))) ∧ Below V.heap.size V w' := fun W h => (TC.out W (Q5.on h)).mono fun e w' hh => ⟨hh.1, h.trans (hh.2.mono h.size)⟩
      have K4 : ∀ W, Below V.heap.size V W → Calls Tryd.prog 22 #[.agg (cellsOf .u8 (mk 64 pc))] W fun e w' => e = .returned (.agg (cellsOf .u32 (mk 64 (schT pc 64)))) ∧ Below V.heap.size V w' := class_of (fun W => SC.out W)
      have HK1 := Lib.hid K1; have HK2 := Lib.hid K2; have HK3 := Lib.hid K3; have HK4 := Lib.hid K4; have HQ2 := Lib.hid Q2; have HQ3 := Lib.hid Q3; have HB2 := Lib.hid hb2
      clear P1 P2 Q1 Q2 Q3 Q5 hb2 K1 K2 K3 K4 hVk hVb H2 H3 H4 TC SC HTU
      gi_wp2
      refine round_class_tail 4 (fun w' => Below V.heap.size V w') (by kernel_rfl) (by kernel_rfl) rfl (by rintro ⟨_, _, h⟩; exact h) ((Below.refl _ _).drew) ?_
      simp only [List.take_succ_cons, List.take_zero, List.drop_succ_cons, List.drop_zero]
      iterate 4 (first
        | go_big_quiet_skip
        | (go_big_quiet_want
           first
             | (go_big_quiet_op; go_big_quiet_on)
             | ((first
                 | (refine quiet_load_row 23 _ rfl N .u32 (mk 8 ch) rfl 8 22 eightUnder (eightSize _) HK2.out ?_)
                 | (refine quiet_load_row 47 _ rfl U.heap.size .u8 (mk 64 pc) rfl 64 5 pieceUnder (pieceSize _) HK1.out ?_)
                 | (refine quiet_call1 _ _ _ rfl 22 rfl (.agg (cellsOf .u8 (mk 64 pc))) (.agg (cellsOf .u32 (mk 64 (schT pc 64)))) rfl (fun _ w => by simp [go_sem]) HK4.out ?_)
                 | (refine quiet_call2 _ _ _ _ rfl 10 rfl (.agg (cellsOf .u32 (mk 8 ch))) (.agg (cellsOf .u32 (mk 64 (schT pc 64)))) (.agg (cellsOf .u32 (mk 8 (takH ch (schT pc 64) tabK)))) rfl rfl (fun _ w => by simp [go_sem]) HK3.out ?_)); go_simp; go_big_quiet_on)))
      refine wpQuiet_nil ?_
      intro wx hwx
      have hsx := hwx.size
      refine store_row_on rfl 23 _ _ rfl rfl N (cellsOf .u32 (mk 8 (takH ch (schT pc 64) tabK))) rfl rfl 23 (cellsOf .u32 (mk 8 ch)) (HK2.out _ hwx) (eightSize _) (by rw [cellsOf_size, cellsOf_size, mk_len, mk_len]) (cellsOf_one _ _) ?_
      show Aft w2.heap.size V _ ∧ ChI w w2 N (allB n g) (i + 1) _
      refine ⟨⟨by simp; exact hsx, fun k hk1 hk2 => ?_⟩, ?_, ?_, ?_⟩
      · rw [setRow_other wx N k _ (by omega)]; exact hwx.block k hk2
      · rw [HC.out]; exact (HK2.out _ hwx).setRow .u32 _
      · exact fun k hk hkn => (setRow_other wx N k _ (by omega)).trans ((hwx.block k (Nat.lt_of_lt_of_le hk HVS.out)).trans (HQ3.out k hk hkn))
      · exact below_setRow (HB2.out.trans (hwx.mono HB2.out.size)) (by omega) _
  · have e1 : 8192 < (n : Int) := by omega
    have e2 : 8192 < n := by omega
    have HT := Lib.hid hT
    clear hn hp hT
    go_wp2_with (go_at_call 17; refine (Of_none w HT.out).mono ?_; rintro e w0 ⟨rfl, hb0⟩)
    exact ⟨_, results_tmp rfl _ _ _, rfl, hb0⟩

theorem laidOut : laidOutB Tryd.prog = true := by kernel_rfl
set_option maxRecDepth 100000 in
theorem lifted (os : Os) (started : os.Started) (H : Type) (enc : TypeId × Value → H) :
    ReturnsInHanded {} Tryd.checked os 8 .any (fun w args => (Rows.digestChainsSpec.pre enc Tryd.prog Tryd.f8 Rows.digestChainsRow.domain false w args ∧ laidMetH Tryd.prog Rows.digestChainsRow.laid w) ∧ sizedMet enc Tryd.prog Tryd.f8 (OpenSpec.ofChange Rows.digestChainsSpec) false w args) (Rows.digestChainsSpec.post enc Tryd.prog Tryd.f8 false true false false) := by
  refine returnsInHanded_of_change_and (C := Tryd.checked) (X := fun w _ => laidMetH Tryd.prog Rows.digestChainsRow.laid w) (fun _ _ _ hh h => h.of_heap hh) own started (by kernel_rfl) Tryd.func8
    (ChangeSpec.witness_shaped (enc := enc) (C := Tryd.checked) (os := os) (X := fun w _ => laidMetH Tryd.prog Rows.digestChainsRow.laid w) false (World.laidAll Tryd.prog os Rows.digestChainsRow.laid) #[.slice none 0 0] 8 (World.laidAll_os _ _ _)
      (World.shaped_of_ZipB (by kernel_rfl) (by kernel_rfl)) (by kernel_rfl) (by kernel_rfl) (by kernel_rfl)
      (by rw [MakeChecks.laidMetH_plain _ _ _ (by kernel_rfl)]; exact laidMet_laidAll _ (by kernel_rfl) (by kernel_rfl))) ?_
  intro W base args ds gs before hval0 hW hcnd hsz hL _
  have hT := tab_of_laid hL
  have hval : ∀ (j : Nat) t v, Tryd.f8.params[j]? = some t → args[j]? = some v → Value.okWide Tryd.prog W .any base t v := hval0
  have hW' := hW
  obtain ⟨p, q, hA0, hV, rfl, hfz, hnd⟩ := hW
  have hA : DataW.TrodAll enc Tryd.prog W 0 (fun _ => true) true Tryd.f8.params.toList args.toList ds p := hA0
  rw [Tryd.params8] at hA hval
  obtain ⟨v0, vs0, d0, ds0, p0, q0, hargs, rfl, rfl, h0, r0⟩ := trodAll_cons hA
  obtain ⟨rfl, rfl, rfl⟩ := trodAll_nil r0
  obtain rfl : args = #[v0] := by cases args; simp_all
  obtain ⟨rfl, rfl⟩ := trodVars_none hV
  have k0 := h0
  have lt0 : ∀ x ∈ p0, x.block < W.heap.size := by obtain ⟨m, hm⟩ := k0; exact DataW.trod_lt m _ _ _ hm
  obtain ⟨q0, n0, c0, a0, rfl, w0, y0, l0, m0⟩ := open_byteslice (hval 0 34 v0 rfl rfl) h0
  clear hA0 hval0
  refine (walk q0 n0 c0 a0 w0 l0 m0 W hT y0).mono fun e W' ⟨he, bel⟩ => ?_
  subst he
  exact ⟨_, rfl, _, _, _, [], _, [], hW', trodAll_mk1 (shut_bool Tryd.underlying4 _), (trodAll_cons_mk (Below.trod laidOut (by kernel_rfl) (of_decide_eq_true (by kernel_rfl)) k0 bel lt0) trodAll_mk0), rfl, bel.frame _, fun h => by cases h⟩

theorem over : Rows.digestChainsRow.holds Tryd.pinned (OpenSpec.ofChange Rows.digestChainsSpec) :=
  OpenClaim.holds_of_wide 8 Tryd.f8 rfl rfl rfl rfl rfl rfl rfl ⟨rfl, rfl, rfl, rfl, rfl⟩ rfl rfl rfl rfl rfl (by kernel_rfl) Tryd.func8 (by kernel_rfl)
    (of_decide_eq_true (by kernel_rfl)) (by unfold Func.isWrapper; first | (rw [if_pos (by decide +kernel)]; kernel_rfl) | (rw [if_neg (by decide +kernel)]; exact ⟨rfl, rfl⟩))
    (fun os started H enc _ => lifted os started H enc)

set_option maxRecDepth 100000 in
theorem proved : Rows.DigestChainsCardSaid :=
  Claim7.holds_tied_plain_at .later [] [.data] true (true, "f7205cfd815a6bad1c86f1bccfe71f72fe6628e239341f6fbb660aec02113458") false
    over (fun _ h => by cases h) (by kernel_rfl) (fun _ h => by cases h) digestChains_row_tie rfl ⟨rfl, rfl⟩ (by kernel_rfl) rfl
    (fun f fn hf hfn => by
      obtain rfl : f = 8 := Option.some.inj ((show Tryd.prog.funcNamed "citadel/citadellaw04.DigestChains" = some 8 by kernel_rfl).symm.trans hf) |>.symm
      obtain rfl : fn = Tryd.f8 := (Option.some.inj (Tryd.func8.symm.trans hfn)).symm
      exact ⟨by kernel_rfl, fun j t ht => by
        rw [Tryd.params8] at ht
        rcases j with _ | j
        · obtain rfl : t = 34 := by simpa using ht.symm
          exact (show Tryd.prog.wantsStandIn 34 = false by kernel_rfl)
        · simp at ht⟩)
    (by kernel_rfl)
end Go.Proofs.YtibbnnechjmdmaaDoor.digestChains
