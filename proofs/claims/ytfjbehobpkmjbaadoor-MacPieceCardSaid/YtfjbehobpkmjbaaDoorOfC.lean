/- The contracts of package digest's Begin and Of. Conditions: the package's variable holds the constants; the parts are no more than 1000, and together no longer than 1000000 bytes. -/
import Derived.Test.YtfjbehobpkmjbaaDoorPiecesC
import Derived.Test.YtfjbehobpkmjbaaDoorSchC
import Derived.Test.YtfjbehobpkmjbaaDoorTakeC
import Derived.Test.YtfjbehobpkmjbaaDoorQuietG
import Derived.Test.YtfjbehobpkmjbaaDoorBool
namespace Go.Proofs.YtfjbehobpkmjbaaDoor
open Go.ChangeShapes Go.WideShapes Go.ChangeAt Go.RowKit Go.Shelf
attribute [local go_sem] Oper.semAt_some

theorem sumUnder : Tryd.prog.underlying 30 = some (.array 32 5) := Tryd.underlying30
theorem sumSize (f : Nat → Nat) : (Tryd.prog.info? 30).map (·.size) = some (cellsOf .u8 (mk 32 f)).size := by
  rw [cellsOf_size, mk_len]; kernel_rfl
set_option maxRecDepth 100000 in
theorem Begin_any (w : World) : Calls Tryd.prog 36 #[] w fun e w' => e = .returned (.agg (cellsOf .u32 (mk 8 begK))) ∧ Below w.heap.size w w' := by
  have hZ := IntBlk.new w .u32 58 (mk 8 zeroK)
  have hB : Below w.heap.size w (w.alloc (.cells (cellsOf .u32 (mk 8 zeroK)) 58)) := (Below.refl _ w).alloc (Nat.le_refl _) _
  have HZ := Lib.hid hZ
  have HB := Lib.hid hB
  clear hZ hB
  go_enter Tryd.func36, Tryd.ntmps36
  go_wp2_with (first
    | (refine wpList_buildTo rfl 58 _ rfl (some 1) rfl (cellsOf .u32 (mk 8 begK)) (by kernel_rfl) ?_)
    | (refine wpList_store_row rfl 58 _ _ rfl w.heap.size (cellsOf .u32 (mk 8 begK)) rfl rfl 58 (cellsOf .u32 (mk 8 zeroK)) HZ.out (eightSize _) (by rw [cellsOf_size, cellsOf_size, mk_len, mk_len]) (cellsOf_one _ _) ?_))
  refine bodyPost_ret (results_cell_row rfl _ _ w.heap.size 58 (cellsOf .u32 (mk 8 begK)) (0, 0) _ rfl (HZ.out.setRow .u32 (mk 8 begK)) eightUnder rfl (eightSize _)) rfl ⟨rfl, below_setRow HB.out (by omega) _⟩
theorem pieces_any (q : Option Addr) (np cap : Nat) (w : World) : Calls Tryd.prog 37 #[.slice q np cap] w fun e w' => e = .returned (.func (.func 41) #[] #[.pointer (some ⟨w.heap.size, 0, none⟩)]) ∧ w.alloc (.cells #[.slice q np cap] 46) = w' := by
  go_enter Tryd.func37, Tryd.ntmps37
  go_wp2
  go_ret
  exact ⟨rfl, rfl⟩
/-- The sum's first bytes. -/
def outTo (h : Nat → Nat) (m : Nat) : Nat → Nat := fun j => if j < m then outB h j else 0
theorem outTo_zero (h : Nat → Nat) : outTo h 0 = zeroK := by funext j; unfold outTo zeroK; rw [if_neg (by omega)]
theorem outTo_end (h : Nat → Nat) : mk 32 (outTo h 32) = mk 32 (outB h) := mk_ext fun _ hj => if_pos hj
theorem outTo_step (h : Nat → Nat) (m : Nat) {v : Int} (hv : v = (outB h m : Nat)) : (mk 32 (outTo h m)).set m v = mk 32 (outTo h (m + 1)) :=
  mk_set_is hv fun j _ => by
    unfold outTo
    by_cases e : j = m
    · subst e; rw [if_pos rfl, if_pos (by omega)]
    · rw [if_neg e]
      by_cases h2 : j < m
      · rw [if_pos h2, if_pos (by omega)]
      · rw [if_neg h2, if_neg (by omega)]
theorem outB_shift (h : Nat → Nat) {i k y : Nat} (hk : k < 4) (hy : 8 * (3 - k) = y) : IntKind.u8.wrap ((h i : Int) / 2 ^ y) = (outB h (4 * i + k) : Nat) := by
  have p : ((2 : Int) ^ y) = ((2 ^ y : Nat) : Int) := by rw [Int.natCast_pow]; rfl
  rw [IntKind.wrap_u8', p, ← Int.natCast_ediv]
  unfold outB
  rw [show (4 * i + k) / 4 = i by omega, show 24 - 8 * ((4 * i + k) % 4) = y by omega]
  omega
/-- What a text's digest is. -/
def digF (n : Nat) (g : Nat → Nat) : Nat → Nat := outB (chain begK tabK (allB n g) (cntP n))
theorem digF_lt (n : Nat) (g : Nat → Nat) (i : Nat) : digF n g i < 256 := outB_lt _ _

/-- What the caller of Of holds: the parts' addresses and bytes, all below a block's number. -/
def PartsIn (M : Nat) (w : World) (q : Option Addr) (np : Nat) (P : Nat → Option Addr × Nat × Nat) (g : Nat → Nat) : Prop :=
  (np = 0 ∨ ∃ B o, q = some ⟨B, o, none⟩ ∧ B < M ∧ ∀ i, i < np → w.cell? ⟨B, o + i, none⟩ = some (.slice (P i).1 (P i).2.1 (P i).2.2)) ∧
  ∀ i, i < np → (P i).2.1 = 0 ∨ ∃ B o, (P i).1 = some ⟨B, o, none⟩ ∧ B < M ∧ Cells w B o (P i).2.1 (fun j => g (lenTo P i + j))
theorem PartsIn.below {M : Nat} {w w' : World} {q : Option Addr} {np : Nat} {P : Nat → Option Addr × Nat × Nat} {g : Nat → Nat} (h : PartsIn M w q np P g) (hb : Below M w w') : PartsIn M w' q np P g := by
  refine ⟨?_, fun i hi => ?_⟩
  · rcases h.1 with h | ⟨B, o, h1, h2, h3⟩
    · exact .inl h
    · exact .inr ⟨B, o, h1, h2, fun i hi => (hb.cell (p := ⟨B, o + i, none⟩) h2).trans (h3 i hi)⟩
  · rcases h.2 i hi with h | ⟨B, o, h1, h2, h3⟩
    · exact .inl h
    · exact .inr ⟨B, o, h1, h2, h3.below hb h2⟩
theorem PartsIn.reads {M Bq cap : Nat} {w : World} {q : Option Addr} {np : Nat} {P : Nat → Option Addr × Nat × Nat} {g : Nat → Nat} (h : PartsIn M w q np P g) (hq : w.cell? ⟨Bq, 0, none⟩ = some (.slice q np cap)) : Reads Bq np cap q P g w := by
  refine ⟨hq, ?_, fun i hi => ?_⟩
  · rcases h.1 with h | ⟨B, o, h1, _, h3⟩
    · exact .inl h
    · exact .inr ⟨B, o, h1, h3⟩
  · rcases h.2 i hi with h | ⟨B, o, h1, _, h3⟩
    · exact .inl h
    · exact .inr ⟨B, o, h1, h3⟩
/-- Between two pieces. -/
def OfI (w : World) (N : Nat) (np cap : Nat) (q : Option Addr) (t : Nat → Nat) (i : Nat) (W : World) : Prop :=
  IntBlk W w.heap.size .u8 30 (mk 32 zeroK) ∧ IntBlk W N .u32 58 (mk 8 (chain begK tabK t i)) ∧ W.heap[N + 1]? = some (.cells #[.slice q np cap] 46 (0, 0)) ∧ Below w.heap.size w W
theorem chain_step (h k t : Nat → Nat) (i : Nat) : chain h k t (i + 1) = takH (chain h k t i) (schT (pieceB t i) 64) k := rfl
attribute [local irreducible] padL padB cntP chain schT takH begK tabK pieceB allB

set_option maxRecDepth 100000 in
set_option maxHeartbeats 2000000 in
theorem Of_any (np cap : Nat) (q : Option Addr) (P : Nat → Option Addr × Nat × Nat) (g : Nat → Nat) (hnp : np ≤ 1000) (hN : lenTo P np ≤ 1000000) (hPc : ∀ i, i < np → (P i).2.1 ≤ (P i).2.2) (hg : ∀ i, i < lenTo P np → g i < 256) (w : World) (hT : TabAt w) (hp : PartsIn w.heap.size w q np P g) :
    Calls Tryd.prog 27 #[.slice q np cap] w fun e w' => e = .returned (.agg (cellsOf .u8 (mk 32 (digF (lenTo P np) g)))) ∧ Below w.heap.size w w' := by
  refine (callsIn_wide (n := 3)).1 ?_
  refine callsIn_of_wp_marks Tryd.func27 rfl trivial ?_ rfl
  simp only [Tryd.ntmps27, List.size_toArray, List.length_cons, List.length_nil, Nat.reduceAdd, Nat.reduceSub, Array.replicate_succ, Array.replicate_zero, List.push_toArray, List.append_toArray, List.nil_append, List.cons_append]
  refine wpIn_wide.2 ?_
  have hz0 := IntBlk.new w .u8 30 (mk 32 zeroK)
  have hbz : Below w.heap.size w (w.alloc (.cells (cellsOf .u8 (mk 32 zeroK)) 30)) := (Below.refl _ w).alloc (Nat.le_refl _) _
  have HZ0 := Lib.hid hz0; have HBZ := Lib.hid hbz
  clear hz0 hbz
  go_wp2_with (first
    | (go_at_call 36; refine (Begin_any _).mono ?_; rintro e w1 ⟨rfl, hb1⟩
       have HB1 := Lib.hid hb1
       clear hb1)
    | (refine store_row_on rfl 58 _ _ rfl rfl w1.heap.size (cellsOf .u32 (mk 8 begK)) rfl rfl 58 (cellsOf .u32 (mk 8 zeroK)) (IntBlk.new w1 .u32 _ (mk 8 zeroK)) (eightSize _) (by rw [cellsOf_size, cellsOf_size, mk_len, mk_len]) (cellsOf_one _ _) ?_)
    | (go_at_call 37; refine (pieces_any _ _ _ _).mono ?_; rintro e w2 ⟨rfl, hw2⟩))
  have hb1 : Below (w.alloc (.cells (cellsOf .u8 (mk 32 zeroK)) 30)).heap.size (w.alloc (.cells (cellsOf .u8 (mk 32 zeroK)) 30)) w1 := HB1.out
  have hs1 : w.heap.size + 1 ≤ w1.heap.size := by have := hb1.size; rw [World.size_alloc] at this; exact this
  have hI0 : OfI w w1.heap.size np cap q (allB (lenTo P np) g) 0 w2 := by
    subst hw2
    have b1 : Below w.heap.size w w1 := HBZ.out.trans (hb1.mono (by rw [World.size_alloc]; omega))
    have e0 : chain begK tabK (allB (lenTo P np) g) 0 = begK := by unfold chain; rfl
    unfold OfI
    rw [e0]
    refine ⟨(((HZ0.out.below hb1 (by rw [World.size_alloc]; omega)).alloc _).otherRow (by omega) _).alloc _, ((IntBlk.new w1 .u32 58 (mk 8 zeroK)).setRow .u32 (mk 8 begK)).alloc _, ?_, ((below_setRow (b1.alloc (by omega) _) (by omega) _).alloc (by simp; omega) _)⟩
    have := heap_alloc_new ((w1.alloc (.cells (cellsOf .u32 (mk 8 zeroK)) 58)).setRow w1.heap.size (cellsOf .u32 (mk 8 begK))) (.cells #[.slice q np cap] 46)
    have es : ((w1.alloc (.cells (cellsOf .u32 (mk 8 zeroK)) 58)).setRow w1.heap.size (cellsOf .u32 (mk 8 begK))).heap.size = w1.heap.size + 1 := by simp
    rw [es] at this
    exact this
  have hs2 : w2.heap.size = w1.heap.size + 2 := by subst hw2; simp
  have HI0 := Lib.hid hI0
  have HP := Lib.hid hp
  have HT := Lib.hid hT
  have HG := Lib.hid hg
  clear hw2 hI0 hp hT hg hb1 HB1 HZ0 HBZ
  generalize w1.heap.size = N at *
  refine (wpIn_wide (n := 3)).1 ?_
  refine range_ends rfl (by omega) (gf := 41) (lb := #[.pointer (some ⟨N + 1, 0, none⟩)]) rfl trivial (enters_of Tryd.func41 (by kernel_rfl) rfl)
    (fun x : Nat => #[.agg (cellsOf .u8 (mk 64 (pieceB (allB (lenTo P np) g) x)))]) (fun _ i _ x => x = i) (cntP (lenTo P np)) (Reads (N + 1) np cap q P g) (fun _ => rfl)
    (OfI w N np cap q (allB (lenTo P np) g)) (fun _ _ => False) ?rd ?st ?stx HI0.out (pieces_gives _ _ np cap q P g hnp hN hPc) ?round ?done ?stop
  case rd =>
    rintro i U ⟨h1, h2, h3, h4⟩
    exact (HP.out.below h4).reads (cell_of_one h3)
  case st =>
    rintro i U U' ⟨h1, h2, h3, h4⟩ hb
    rw [hs2] at hb
    exact ⟨h1.below hb (by omega), h2.below hb (by omega), (hb.block _ (by omega)).trans h3, h4.trans (hb.mono (by omega))⟩
  case stx => exact fun _ _ _ h _ => h
  case stop => exact fun _ _ _ _ h _ => h.elim
  case done =>
    rintro D U hD ⟨h1, h2, h3, h4⟩ hd
    rw [hs2] at hD
    have H1 := Lib.hid h1; have H2 := Lib.hid h2; have H4 := Lib.hid h4; have HD := Lib.hid hd
    clear h1 h2 h3 h4 hd
    have hcb : ∀ j, j < 8 → chain begK tabK (allB (lenTo P np) g) (cntP (lenTo P np)) j < 4294967296 := chain_lt _ _ (fun j _ => begK_lt j) _
    have hdig : outB (chain begK tabK (allB (lenTo P np) g) (cntP (lenTo P np))) = digF (lenTo P np) g := rfl
    have HDG := Lib.hid hdig
    clear hdig
    generalize chain begK tabK (allB (lenTo P np) g) (cntP (lenTo P np)) = ch at *
    have hDU := (Array.getElem?_eq_some_iff.1 HD.out).1
    have hiN := H2.out.lt
    go_wp2_with (refine wpList_load_row rfl 58 _ rfl N rfl 58 (cellsOf .u32 (mk 8 ch)) (0, 0) _ (H2.out.alloc _) eightUnder rfl (eightSize ch) ?_)
    have hz0 : IntBlk (U.alloc (.cells (cellsOf .u8 (mk 32 zeroK)) 30)) U.heap.size .u8 30 (mk 32 (outTo ch 0)) := by rw [outTo_zero]; exact IntBlk.new U .u8 _ (mk 32 zeroK)
    have HZ := Lib.hid hz0
    clear hz0
    go_loopw [18] (fun v wr => ∃ i : Nat, i ≤ 8 ∧ v = .int .i64 i ∧ IntBlk wr U.heap.size .u8 30 (mk 32 (outTo ch (4 * i))) ∧ Below U.heap.size U wr) (fun v _ => 8 - (intOf v).toNat)
    case atStart => exact ⟨0, by omega, rfl, HZ.out, (Below.refl _ U).alloc (Nat.le_refl _) _⟩
    case round =>
      clear HZ
      obtain ⟨i, hi, rfl, hz, hb⟩ := hrel
      have HZ := Lib.hid hz; have HB := Lib.hid hb
      clear hz hb
      by_cases h8 : i < 8
      · have e1 : (i : Int) < 8 := by omega
        have ix := run_index_at 58 8 ch eightUnder wdElem h8
        go_wp2
        go_loopw [22] (fun v wk => ∃ k : Nat, k ≤ 4 ∧ v = .int .i64 k ∧ IntBlk wk U.heap.size .u8 30 (mk 32 (outTo ch (4 * i + k))) ∧ Below U.heap.size U wk) (fun v _ => 4 - (intOf v).toNat)
        case atStart => exact ⟨0, by omega, rfl, HZ.out, HB.out⟩
        case round =>
          clear HZ HB
          obtain ⟨k, hk, rfl, hz, hb⟩ := hrel
          have HZ := Lib.hid hz; have HB := Lib.hid hb
          by_cases h4 : k < 4
          · have e2 : (k : Int) < 4 := by omega
            have HS := Lib.hid (outTo_step ch (4 * i + k) rfl)
            obtain ⟨y, hy⟩ : ∃ y, 8 * (3 - k) = y := ⟨_, rfl⟩
            obtain ⟨z, hzz⟩ : ∃ z, 4 * i = z := ⟨_, rfl⟩
            obtain ⟨s, hs⟩ : ∃ s, z + k = s := ⟨_, rfl⟩
            have sv := outB_shift ch (i := i) h4 hy
            rw [hzz, hs] at HS sv HZ
            have cs := hz.cell (i := s) (by rw [mk_len]; omega)
            have fs := hz.free s
            have p1 : IntKind.i64.wrap (4 * (i : Int)) = (z : Int) := by rw [IntWalk.i64_in _ (by omega)]; omega
            have p2 : IntKind.i64.wrap ((z : Int) + (k : Int)) = (s : Int) := by rw [IntWalk.i64_in _ (by omega)]; omega
            have p3 : IntKind.i64.wrap (3 - (k : Int)) = 3 - (k : Int) := IntWalk.i64_in _ (by omega)
            have p4 : IntKind.i64.wrap (8 * (3 - (k : Int))) = (y : Int) := by rw [IntWalk.i64_in _ (by omega)]; omega
            have l0 : (0 : Int) ≤ s := by omega
            have l1 : (s : Int) < 32 := by omega
            have l2 : (0 : Int) ≤ y := by omega
            have l3 : (y : Int) ≤ 32 := by omega
            have HE := Lib.hid (show 4 * i + (k + 1) = s + 1 by omega)
            clear hz hb hy hzz hs
            generalize outB ch s = ov at *
            go_wp2
            go_roundw
            case rel => exact ⟨k + 1, by omega, by go_num, by rw [HE.out, ← HS.out]; exact HZ.out.set s _, HB.out.setCell (Nat.le_refl _) _⟩
            case measure => simp [intOf]; omega
          · have e4 : k = 4 := by omega
            have hd1 : decide ((k : Int) < 4) = false := by simp; omega
            rw [e4, show 4 * i + 4 = 4 * (i + 1) by omega] at HZ
            clear hz hb e4 h4
            go_wp2
            go_roundw
            case rel => exact ⟨i + 1, by omega, by go_num, HZ.out, HB.out⟩
            case measure => simp [intOf]; omega
      · have e8 : i = 8 := by omega
        have hd1 : decide ((i : Int) < 8) = false := by simp; omega
        rw [e8] at HZ
        have hz2 : IntBlk wr U.heap.size .u8 30 (mk 32 (outB ch)) := by rw [← outTo_end]; exact HZ.out
        have HZ2 := Lib.hid hz2
        have HR2 := Lib.hid (H1.out.below HB.out H1.out.lt)
        clear hz2 e8 h8 HZ
        go_wp2_with (first
          | (refine wpList_load_row rfl 30 _ rfl U.heap.size rfl 30 (cellsOf .u8 (mk 32 (outB ch))) (0, 0) _ HZ2.out sumUnder rfl (sumSize _) ?_)
          | (refine wpList_store_row rfl 30 _ _ rfl w.heap.size _ rfl rfl 30 (cellsOf .u8 (mk 32 zeroK)) HR2.out (sumSize _) (by rw [cellsOf_size, cellsOf_size, mk_len, mk_len]) (cellsOf_one _ _) ?_))
        have hd3 : (wr.setRow w.heap.size (cellsOf .u8 (mk 32 (outB ch)))).heap[D]? = some (.deferred (some [])) := (setRow_other wr w.heap.size D _ (by have := H1.out.lt; have := H4.out.size; omega)).trans ((HB.out.block D hDU).trans HD.out)
        refine ⟨by simp, .inl ⟨_, _, rfl, run_takeDeferred hd3, ?_⟩⟩
        exact ⟨_, results_cell_row rfl _ _ w.heap.size 30 (cellsOf .u8 (mk 32 (outB ch))) (0, 0) _ rfl (cells_turn (HR2.out.setRow .u8 (mk 32 (outB ch))) hd3 rfl) sumUnder rfl (sumSize _), by rw [HDG.out], below_turn _ (below_setRow (H4.out.trans (HB.out.mono H4.out.size)) (Nat.le_refl _) _) (by omega)⟩
  case round =>
    rintro l i0 i U hl hi hus hI rfl
    rw [hs2] at hus
    obtain ⟨h1, h2, h3, h4⟩ := hI
    have hlw := h1.lt
    have hlN := h2.lt
    have hTU := HT.out.on h4
    have HC := Lib.hid (chain_step begK tabK (allB (lenTo P np) g) i)
    have hpb : ∀ j, j < 64 → pieceB (allB (lenTo P np) g) i j < 256 := fun j _ => by unfold pieceB; exact allB_lt HG.out _
    have hcb : ∀ j, j < 8 → chain begK tabK (allB (lenTo P np) g) i j < 4294967296 := chain_lt _ _ (fun j _ => begK_lt j) i
    have SC := Lib.hid (fun W => Schedule_any _ hpb W)
    have TC := Lib.hid (fun W hW => Take_any _ (schT (pieceB (allB (lenTo P np) g) i) 64) hcb W hW)
    have H1 := Lib.hid h1; have H2 := Lib.hid h2; have H3 := Lib.hid h3; have H4 := Lib.hid h4; have HTU := Lib.hid hTU
    clear h1 h2 h3 h4 hTU hpb hcb
    generalize pieceB (allB (lenTo P np) g) i = pc at *
    generalize hch : chain begK tabK (allB (lenTo P np) g) i = ch at *
    clear hch
    refine region_round rfl (by rintro ⟨_, _, h⟩; exact h) ?_
    go_wp2_with (refine store_row_on rfl 25 _ _ rfl rfl U.heap.size (cellsOf .u8 (mk 64 pc)) rfl rfl 25 (cellsOf .u8 (mk 64 zeroK)) (IntBlk.new U .u8 _ (mk 64 zeroK)) (pieceSize _) (by rw [cellsOf_size, cellsOf_size, mk_len, mk_len]) (cellsOf_one _ _) ?_)
    have P1 : IntBlk ((U.alloc (.cells (cellsOf .u8 (mk 64 zeroK)) 25)).setRow U.heap.size (cellsOf .u8 (mk 64 pc))) U.heap.size .u8 25 (mk 64 pc) := (IntBlk.new U .u8 _ (mk 64 zeroK)).setRow .u8 _
    have P2 : Below U.heap.size U ((U.alloc (.cells (cellsOf .u8 (mk 64 zeroK)) 25)).setRow U.heap.size (cellsOf .u8 (mk 64 pc))) := below_setRow ((Below.refl _ _).alloc (Nat.le_refl _) _) (Nat.le_refl _) _
    refine ⟨Aft.of_below _ P2, fun V hVs hVk0 hVb0 => ?_⟩
    have hVk : ∀ k, k ≠ w2.heap.size + 1 → V.heap[k]? = ((U.alloc (.cells (cellsOf .u8 (mk 64 zeroK)) 25)).setRow U.heap.size (cellsOf .u8 (mk 64 pc))).heap[k]? := hVk0
    have hVb : Below w2.heap.size ((U.alloc (.cells (cellsOf .u8 (mk 64 zeroK)) 25)).setRow U.heap.size (cellsOf .u8 (mk 64 pc))) V := hVb0
    clear hVk0 hVb0 hVs
    rw [hs2] at hVk hVb
    generalize ((U.alloc (.cells (cellsOf .u8 (mk 64 zeroK)) 25)).setRow U.heap.size (cellsOf .u8 (mk 64 pc))) = U1 at *
    have Q1 : IntBlk V U.heap.size .u8 25 (mk 64 pc) := (hVk _ (by omega)).trans P1
    have hb2 : Below w.heap.size w V := (H4.out.trans (P2.mono (by omega))).trans (hVb.mono (by omega))
    have Q2 : IntBlk V N .u32 58 (mk 8 ch) := (H2.out.below P2 hlN).below hVb (by omega)
    have Q3 : IntBlk V w.heap.size .u8 30 (mk 32 zeroK) := (H1.out.below P2 hlw).below hVb (by omega)
    have Q4 := (hVb.block (N + 1) (by omega)).trans ((P2.block (N + 1) (by omega)).trans H3.out)
    have Q5 := HT.out.on hb2
    have hlV := Q1.lt
    have K1 : ∀ W, Below V.heap.size V W → IntBlk W U.heap.size .u8 25 (mk 64 pc) := fun W h => Q1.below h Q1.lt
    have K2 : ∀ W, Below V.heap.size V W → IntBlk W N .u32 58 (mk 8 ch) := fun W h => Q2.below h Q2.lt
    have K3 : ∀ W, Below V.heap.size V W → Calls Tryd.prog 38 #[.agg (cellsOf .u32 (mk 8 ch)), .agg (cellsOf .u32 (mk 64 (schT pc 64)))] W fun e w' => e = .returned (.agg (cellsOf .u32 (mk 8 (takH ch (schT pc 64) tabK)))) ∧ Below V.heap.size V w' := fun W h => (TC.out W (Q5.on h)).mono fun e w' hh => ⟨hh.1, h.trans (hh.2.mono h.size)⟩
    have K4 : ∀ W, Below V.heap.size V W → Calls Tryd.prog 39 #[.agg (cellsOf .u8 (mk 64 pc))] W fun e w' => e = .returned (.agg (cellsOf .u32 (mk 64 (schT pc 64)))) ∧ Below V.heap.size V w' := class_of (fun W => SC.out W)
    have HK1 := Lib.hid K1; have HK2 := Lib.hid K2; have HK3 := Lib.hid K3; have HK4 := Lib.hid K4; have HQ2 := Lib.hid Q2; have HQ3 := Lib.hid Q3; have HQ4 := Lib.hid Q4; have HB2 := Lib.hid hb2
    clear P1 P2 Q1 Q2 Q3 Q4 Q5 hb2 K1 K2 K3 K4 hVk hVb H1 H2 H3 H4 TC SC HTU
    gi_wp2
    refine round_class_tail 4 (fun w' => Below V.heap.size V w') (by kernel_rfl) (by kernel_rfl) rfl (by rintro ⟨_, _, h⟩; exact h) ((Below.refl _ _).drew) ?_
    simp only [List.take_succ_cons, List.take_zero, List.drop_succ_cons, List.drop_zero]
    iterate 4 (first
      | go_big_quiet_skip
      | (go_big_quiet_want
         first
           | (go_big_quiet_op; go_big_quiet_on)
           | ((first
               | (refine quiet_load_row 58 _ rfl N .u32 (mk 8 ch) rfl 8 56 eightUnder (eightSize _) HK2.out ?_)
               | (refine quiet_load_row 25 _ rfl U.heap.size .u8 (mk 64 pc) rfl 64 5 pieceUnder (pieceSize _) HK1.out ?_)
               | (refine quiet_call1 _ _ _ rfl 39 rfl (.agg (cellsOf .u8 (mk 64 pc))) (.agg (cellsOf .u32 (mk 64 (schT pc 64)))) rfl (fun _ w => by simp [go_sem]) HK4.out ?_)
               | (refine quiet_call2 _ _ _ _ rfl 38 rfl (.agg (cellsOf .u32 (mk 8 ch))) (.agg (cellsOf .u32 (mk 64 (schT pc 64)))) (.agg (cellsOf .u32 (mk 8 (takH ch (schT pc 64) tabK)))) rfl rfl (fun _ w => by simp [go_sem]) HK3.out ?_)); go_simp; go_big_quiet_on)))
    refine wpQuiet_nil ?_
    intro wx hwx
    have hsx := hwx.size
    refine store_row_on rfl 58 _ _ rfl rfl N (cellsOf .u32 (mk 8 (takH ch (schT pc 64) tabK))) rfl rfl 58 (cellsOf .u32 (mk 8 ch)) (HK2.out _ hwx) (eightSize _) (by rw [cellsOf_size, cellsOf_size, mk_len, mk_len]) (cellsOf_one _ _) ?_
    show Aft w2.heap.size V _ ∧ OfI w N np cap q (allB (lenTo P np) g) (i + 1) _
    rw [hs2]
    refine ⟨⟨by simp; exact hsx, fun k hk1 hk2 => ?_⟩, ?_, ?_, ?_, ?_⟩
    · rw [setRow_other wx N k _ (by omega)]; exact hwx.block k hk2
    · exact (HQ3.out.below hwx HQ3.out.lt).otherRow (by omega) _
    · rw [HC.out]; exact (HK2.out _ hwx).setRow .u32 _
    · exact (setRow_other wx N (N + 1) _ (by omega)).trans ((hwx.block (N + 1) (Array.getElem?_eq_some_iff.1 HQ4.out).1).trans HQ4.out)
    · exact below_setRow (HB2.out.trans (hwx.mono HB2.out.size)) (by omega) _
end Go.Proofs.YtfjbehobpkmjbaaDoor
