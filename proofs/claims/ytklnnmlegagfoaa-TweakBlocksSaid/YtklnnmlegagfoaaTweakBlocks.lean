/- The tweaks of blocks by package tweak's Tweaks are the document's, as many as are asked for: the statement TweakBlocks. No condition. -/
import Derived.Test.YtklnnmlegagfoaaLawS
namespace Go.Proofs.Ytklnnmlegagfoaa.tweakBlocks
open Go.ChangeShapes Go.WideShapes Go.ChangeAt Go.RowKit Go.Shelf
set_option linter.unusedVariables false
attribute [local go_sem] Oper.semAt_some

theorem own : ownKnob Try.prog.godebug = none := by kernel_rfl
theorem rounds (n : Int) : ∃ M : Nat, 1 ≤ M ∧ M ≤ 50 ∧ wrap64 (1 + wrap64 ((IntKind.u64.wrap n).tmod 50)) = M := by
  have h : 0 ≤ IntKind.u64.wrap n := by rw [IntKind.wrap_u64]; exact Int.emod_nonneg _ (by decide)
  generalize IntKind.u64.wrap n = u at *
  rw [IntWalk.rem_in u 50 h]
  have a : 0 ≤ u % 50 ∧ u % 50 < 50 := by omega
  generalize u % 50 = r at *
  rw [IntWalk.wrap64_in r (by omega), IntWalk.wrap64_in (1 + r) (by omega)]
  exact ⟨(1 + r).toNat, by omega, by omega, by omega⟩

/-- Between two rounds: i of them are over, of M. -/
structure TbI (w : World) (S A : Nat) (g : Nat → Nat) (M i : Nat) (V : World) : Prop where
  lt : i < M
  num : IntBlk V (S + 1) .i64 3 [(M : Int)]
  res : BoolBlk V (S + 1 + 1) 4 false
  at' : IntBlk V A .i64 3 [(i : Int)]
  key : IntBlk V (A + 1) .u8 25 (mk 16 (twk g i))
  first : IntBlk V (A + 1 + 1) .u8 25 (mk 16 g)
  low : Below S w V
  big : A + 1 + 1 < V.heap.size
theorem TbI.below {w : World} {S A : Nat} {g : Nat → Nat} {M i : Nat} {V V' : World} (h : TbI w S A g M i V) (hs : S + 1 + 1 < A) (hb : Below (A + 3) V V') : TbI w S A g M i V' :=
  ⟨h.lt, h.num.below hb (by omega), BoolBlk.below h.res hb (by omega), h.at'.below hb (by omega), h.key.below hb (by omega), h.first.below hb (by omega), h.low.trans (hb.mono (by omega)), Nat.lt_of_lt_of_le h.big hb.size⟩
/-- Behind the last one. -/
structure TbX (w : World) (S A M : Nat) (V : World) : Prop where
  num : IntBlk V (S + 1) .i64 3 [(M : Int)]
  res : BoolBlk V (S + 1 + 1) 4 false
  at' : IntBlk V A .i64 3 [(M : Int)]
  low : Below S w V
theorem TbX.below {w : World} {S A M : Nat} {V V' : World} (h : TbX w S A M V) (hs : S + 1 + 1 < A) (hb : Below (A + 3) V V') : TbX w S A M V' :=
  ⟨h.num.below hb (by omega), BoolBlk.below h.res hb (by omega), h.at'.below hb (by omega), h.low.trans (hb.mono (by omega))⟩
section
variable {F : Fence} {m l : Nat} {ops : Array Oper} {rest : List Oper} {o : Oper} {a : Act} {w : World} {Q : Exit → Act → World → Prop}
theorem wantIn {a2 : Act} (hF : F = Fence.wide.inRound l) (hw : Region.wanted o (yielded ops a.tmps) = true) (hd : noDefer o = true) (h : ∀ K : Act → World → Prop, K a2 w → o.wp Try.prog a w K Q) (hk : wpListIn F m Try.prog ops Q rest a2 w) : wpListIn F m Try.prog ops Q (o :: rest) a w := by
  subst hF
  exact wpListIn_step fun K hK => by rw [if_pos hw]; exact oper_round hd (h K (hK _ _ hk))
theorem loadIn_want (hF : F = Fence.wide.inRound l) (hw : Region.wanted o (yielded ops a.tmps) = true) (hd : noDefer o = true) (x : Operand) (ho : o.op = .load 25 x) (B : Nat) (f : Nat → Nat) (hx : a.eval x = .pointer (some ⟨B, 0, none⟩)) (hB : IntBlk w B .u8 25 (mk 16 f))
    (h : wpListIn F m Try.prog ops Q rest (a.put o.dst (.agg (cellsOf .u8 (mk 16 f)))) w) : wpListIn F m Try.prog ops Q (o :: rest) a w :=
  wantIn hF hw hd (fun _ hK => wp_load_row 25 x ho B hx 25 (cellsOf .u8 (mk 16 f)) (0, 0) _ hB keyUnder rfl (keySize f) hK) h
theorem neqIn_is (hF : F = Fence.wide.inRound l) (hw : Region.wanted o (yielded ops a.tmps) = true) (hd : noDefer o = true) (x y : Operand) (ho : o.op = .binOp .neq 25 x y 25) (f g : Nat → Nat) (hr : (mk 16 f == mk 16 g) = true) (hx : a.eval x = .agg (cellsOf .u8 (mk 16 f))) (hy : a.eval y = .agg (cellsOf .u8 (mk 16 g)))
    (h : wpListIn F m Try.prog ops Q rest (a.put o.dst (.bool false)) w) : wpListIn F m Try.prog ops Q (o :: rest) a w :=
  wantIn hF hw hd (fun _ hK => by
    have e := key_eq f g w
    rw [hr] at e
    unfold Oper.wp execOp
    simp only [ho, hx, hy]
    simp [go_sem, e]
    exact hK) h
end
attribute [local irreducible] twk dbl

set_option maxRecDepth 100000 in
set_option maxHeartbeats 4000000 in
theorem walk (g : Nat → Nat) (n : Int) (hg : IsKey g) (w1 : (Lit.int .i64 n).wf = true) (w : World) :
    Calls Try.prog 4 #[.agg (cellsOf .u8 (mk 16 g)), .int .i64 n] w fun e w' => e = .returned (.bool true) ∧ Below w.heap.size w w' := by
  clear w1
  refine (callsIn_wide (n := 3)).1 ?_
  refine callsIn_of_wp_marks Try.func4 rfl trivial ?_ rfl
  simp only [Try.ntmps4, List.size_toArray, List.length_cons, List.length_nil, Nat.reduceAdd, Nat.reduceSub, Array.replicate_succ, Array.replicate_zero, List.push_toArray, List.append_toArray, List.nil_append, List.cons_append]
  refine wpIn_wide.2 ?_
  obtain ⟨M, hM0, hM1, hM⟩ := rounds n
  have HM := Lib.hid hM
  clear hM
  have AL := Lib.hid (alive_any (((w.alloc (.cells (cellsOf .u8 (mk 16 g)) 25)).alloc (.cells #[.int .i64 n] 3)).alloc (.cells #[.bool false] 4)))
  go_wp2_with (first
    | (go_at_call 16; refine AL.out.mono ?_
       rintro e w1 ⟨rfl, hb⟩
       have B0 : IntBlk w1 w.heap.size .u8 25 (mk 16 g) := (((IntBlk.new w .u8 25 (mk 16 g)).alloc _).alloc _).below hb (by simp; omega)
       have B1 : IntBlk w1 (w.heap.size + 1) .i64 3 [n] := ((blk_two w .i64 3 [n] _).alloc _).below hb (by simp)
       have B2 : BoolBlk w1 (w.heap.size + 1 + 1) 4 false := by
         have e := World.alloc_heap_new ((w.alloc (.cells (cellsOf .u8 (mk 16 g)) 25)).alloc (.cells #[.int .i64 n] 3)) (.cells #[.bool false] 4)
         rw [World.size_alloc, World.size_alloc] at e
         exact BoolBlk.below e hb (by simp)
       have BW : Below w.heap.size w w1 := (below_three w _ _ _).trans (hb.mono (by simp; omega))
       have c1 : w1.cell? ⟨w.heap.size + 1, 0, none⟩ = some (.int .i64 n) := B1.cell (i := 0) (by simp)
       have f1 := B1.free 0
       have s2 : w.heap.size + 1 + 1 < w1.heap.size := B2.lt
       have HB0 := Lib.hid B0; have HB1 := Lib.hid B1; have HB2 := Lib.hid B2; have HW := Lib.hid BW
       clear hb B0 B1 B2 BW AL)
    | (refine wpList_load_row rfl 25 _ rfl w.heap.size rfl 25 (cellsOf .u8 (mk 16 g)) (0, 0) _ ((HB0.out.other (by show w.heap.size + 1 ≠ w.heap.size; omega) _).alloc _) keyUnder rfl (keySize _) ?_
       rw [HM.out]
       have hv : (w1.setCell ⟨w.heap.size + 1, 0, none⟩ (.int .i64 M)).heap.size = w1.heap.size := by simp [World.setCell]
       have C0 : IntBlk (w1.setCell ⟨w.heap.size + 1, 0, none⟩ (.int .i64 M)) w.heap.size .u8 25 (mk 16 g) := HB0.out.other (by show w.heap.size + 1 ≠ w.heap.size; omega) _
       have C1 : IntBlk (w1.setCell ⟨w.heap.size + 1, 0, none⟩ (.int .i64 M)) (w.heap.size + 1) .i64 3 [(M : Int)] := HB1.out.set 0 _
       have C2 : BoolBlk (w1.setCell ⟨w.heap.size + 1, 0, none⟩ (.int .i64 M)) (w.heap.size + 1 + 1) 4 false := HB2.out.other (by show w.heap.size + 1 ≠ w.heap.size + 1 + 1; omega) _
       have CW : Below w.heap.size w (w1.setCell ⟨w.heap.size + 1, 0, none⟩ (.int .i64 M)) := HW.out.setCell (by show w.heap.size ≤ w.heap.size + 1; omega) _
       clear HB0 HB1 HB2 HW c1 f1 HM
       generalize w1.setCell ⟨w.heap.size + 1, 0, none⟩ (.int .i64 M) = V at *
       rw [← hv] at s2 ⊢
       clear hv
       have HC0 := Lib.hid C0; have HC1 := Lib.hid C1; have HC2 := Lib.hid C2; have HCW := Lib.hid CW
       clear C0 C1 C2 CW
       generalize wrap64 ((IntKind.u64.wrap n).tmod 50) = r1
       generalize (IntKind.u64.wrap n).tmod 50 = r0
       generalize IntKind.u64.wrap n = u)
    | (refine store_row_on rfl 25 _ _ rfl rfl (V.heap.size + 1) (cellsOf .u8 (mk 16 g)) rfl rfl 25 (cellsOf .u8 (mk 16 zeroK)) (blk_two V .u8 _ (mk 16 zeroK) _) (keySize _) (by rw [cellsOf_size, cellsOf_size, mk_len, mk_len]) (cellsOf_one _ _) ?_
       have k0 : IntBlk (((V.alloc (.cells #[.int .i64 0] 3)).alloc (.cells (cellsOf .u8 (mk 16 zeroK)) 25)).setRow (V.heap.size + 1) (cellsOf .u8 (mk 16 g))) V.heap.size .i64 3 [((0 : Nat) : Int)] := ((IntBlk.new V .i64 3 [((0 : Nat) : Int)]).alloc _).otherRow (by omega) _
       have k1 := (blk_two V .u8 25 (mk 16 zeroK) (.cells #[.int .i64 0] 3)).setRow .u8 (mk 16 g)
       have kb : Below V.heap.size V (((V.alloc (.cells #[.int .i64 0] 3)).alloc (.cells (cellsOf .u8 (mk 16 zeroK)) 25)).setRow (V.heap.size + 1) (cellsOf .u8 (mk 16 g))) := below_setRow (below_two V _ _) (by omega) _
       have ks : (((V.alloc (.cells #[.int .i64 0] 3)).alloc (.cells (cellsOf .u8 (mk 16 zeroK)) 25)).setRow (V.heap.size + 1) (cellsOf .u8 (mk 16 g))).heap.size = V.heap.size + 2 := by simp
       change wpList _ _ _ _ _ (((V.alloc (.cells #[.int .i64 0] 3)).alloc (.cells (cellsOf .u8 (mk 16 zeroK)) 25)).setRow (V.heap.size + 1) (cellsOf .u8 (mk 16 g)))
       generalize (((V.alloc (.cells #[.int .i64 0] 3)).alloc (.cells (cellsOf .u8 (mk 16 zeroK)) 25)).setRow (V.heap.size + 1) (cellsOf .u8 (mk 16 g))) = W0 at *
       have K0 := Lib.hid k0; have K1 := Lib.hid k1; have KS := Lib.hid ks
       have D0 := Lib.hid (HC0.out.below kb (by omega)); have D1 := Lib.hid (HC1.out.below kb (by omega)); have D2 := Lib.hid (BoolBlk.below HC2.out kb (by omega)); have DW := Lib.hid (HCW.out.trans (kb.mono (by omega)))
       clear k0 k1 kb ks HC0 HC1 HC2 HCW)
    | (refine wpList_load_row rfl 25 _ rfl w.heap.size rfl 25 (cellsOf .u8 (mk 16 g)) (0, 0) _ D0.out keyUnder rfl (keySize _) ?_)
    | (go_at_call 17; refine (Tweaks_any _ _).mono ?_; rintro e w5 ⟨rfl, hw5⟩))
  have hs5 : w5.heap.size = V.heap.size + 3 := by subst hw5; simp [KS.out]
  have hI0 : TbI w w.heap.size V.heap.size g M 0 w5 := by
    have bb : Below (V.heap.size + 2) W0 w5 := by
      subst hw5; rw [← KS.out]; exact (Below.refl _ _).alloc (Nat.le_refl _) _
    have ef : IntBlk w5 (V.heap.size + 1 + 1) .u8 25 (mk 16 g) := by
      subst hw5
      have := IntBlk.new W0 .u8 25 (mk 16 g)
      rw [KS.out] at this; exact this
    exact ⟨by omega, D1.out.below bb (by omega), BoolBlk.below D2.out bb (by omega), K0.out.below bb (by omega), by rw [twk_zero]; exact K1.out.below bb (by omega), ef, DW.out.trans (bb.mono (by omega)), by omega⟩
  have HI := Lib.hid hI0
  rw [KS.out]
  clear hI0 hw5 K0 K1 D0 D1 D2 DW KS
  generalize V.heap.size = A at *
  refine (wpIn_wide (n := 3)).1 ?_
  refine range_till rfl (by omega) (gf := 34) (lb := #[.pointer (some ⟨A + 2, 0, none⟩)]) rfl trivial (enters_of Try.func34 (by kernel_rfl) rfl)
    (fun x : Nat => #[.int .i64 x, .agg (cellsOf .u8 (mk 16 (twk g x)))]) (fun _ i _ x => x = i) M (TwR M (A + 2) g) (fun _ => rfl)
    (TbI w w.heap.size A g M) (fun c U => c = .exit 0 ∧ TbX w w.heap.size A M U) ?rd ?st ?stx HI.out (tweaks_gives _ M (A + 2) g hg (by omega)) ?round ?done ?stop
  case rd => exact fun i U h => ⟨h.lt, h.first⟩
  case st => exact fun i U U' h hb => h.below (by omega) (by rw [hs5] at hb; exact hb)
  case stx => exact fun c U U' h hb => ⟨h.1, h.2.below (by omega) (by rw [hs5] at hb; exact hb)⟩
  case done => exact fun D U hD h hd => absurd h.lt (by omega)
  case stop =>
    rintro D c W hD ⟨rfl, hx⟩ hd
    clear HI
    rw [hs5] at hD
    have cn : W.cell? ⟨w.heap.size + 1, 0, none⟩ = some (.int .i64 M) := hx.num.cell (i := 0) (by simp)
    have ck : W.cell? ⟨A, 0, none⟩ = some (.int .i64 M) := hx.at'.cell (i := 0) (by simp)
    have cb : W.cell? ⟨w.heap.size + 1 + 1, 0, none⟩ = some (.bool false) := cell_of_one hx.res
    have fb : W.frozen? ⟨w.heap.size + 1 + 1, 0, none⟩ = false := free_of_one hx.res
    have t0 : ((M : Int) == (M : Int)) = true := by simp
    have HB := Lib.hid hx.res
    have HW := Lib.hid hx.low
    have HD : Hid ((W.setCell ⟨w.heap.size + 1 + 1, 0, none⟩ (.bool true)).heap[D]? = some (.deferred (some []))) := (Below.heap_setCell W ⟨w.heap.size + 1 + 1, 0, none⟩ _ D (by show D ≠ w.heap.size + 1 + 1; omega)).trans hd
    clear hx hd
    gi_wp2
    go_wp2
    refine ⟨by simp, .inl ⟨_, _, rfl, run_takeDeferred HD.out, ?_⟩⟩
    have hc : ((W.setCell ⟨w.heap.size + 1 + 1, 0, none⟩ (.bool true)).putObj D (.deferred none)).cell? ⟨w.heap.size + 1 + 1, 0, none⟩ = some (.bool true) := cell_of_one (cells_turn (one_setCell HB.out) HD.out rfl)
    refine ⟨.bool true, ?_, rfl, below_turn _ (HW.out.setCell (by show w.heap.size ≤ w.heap.size + 1 + 1; omega) _) (by omega)⟩
    simp [results, Try.f4, go_sem, hc]
  case round =>
    rintro l i0 i U hl hi hus hI rfl
    clear HI
    have HU := Lib.hid hI
    clear hI
    gi_wp2_with (first
      | (refine wpListIn_of_list rfl rfl rfl (store_row_on rfl 25 _ _ rfl rfl U.heap.size (cellsOf .u8 (mk 16 (twk g i))) rfl rfl 25 (cellsOf .u8 (mk 16 zeroK)) (IntBlk.new U .u8 _ (mk 16 zeroK)) (keySize _) (by rw [cellsOf_size, cellsOf_size, mk_len, mk_len]) (cellsOf_one _ _) (wpList_nil ⟨rfl, rfl, rfl⟩)) ?_))
    have P1 : IntBlk ((U.alloc (.cells (cellsOf .u8 (mk 16 zeroK)) 25)).setRow U.heap.size (cellsOf .u8 (mk 16 (twk g i)))) U.heap.size .u8 25 (mk 16 (twk g i)) := (IntBlk.new U .u8 _ (mk 16 zeroK)).setRow .u8 _
    have P2 : Below U.heap.size U ((U.alloc (.cells (cellsOf .u8 (mk 16 zeroK)) 25)).setRow U.heap.size (cellsOf .u8 (mk 16 (twk g i)))) := below_setRow ((Below.refl _ _).alloc (Nat.le_refl _) _) (Nat.le_refl _) _
    refine ⟨Aft.of_below _ P2, fun V1 hVs hVk0 hVb0 => ?_⟩
    have hVk : ∀ k, k ≠ w5.heap.size + 1 → V1.heap[k]? = ((U.alloc (.cells (cellsOf .u8 (mk 16 zeroK)) 25)).setRow U.heap.size (cellsOf .u8 (mk 16 (twk g i)))).heap[k]? := hVk0
    have hVb : Below w5.heap.size ((U.alloc (.cells (cellsOf .u8 (mk 16 zeroK)) 25)).setRow U.heap.size (cellsOf .u8 (mk 16 (twk g i)))) V1 := hVb0
    clear hVk0 hVb0 hVs
    rw [hs5] at hVk hVb hus hl
    have HV := Lib.hid (HU.out.below (by omega) ((P2.mono (by omega)).trans hVb))
    have KV := Lib.hid (show IntBlk V1 U.heap.size .u8 25 (mk 16 (twk g i)) from (hVk _ (by omega)).trans P1)
    clear P1 P2 hVk hVb HU
    generalize U.heap.size = T at *
    have kt := twk_key hg i
    have DC := Lib.hid (refDouble_any (twk g i) kt V1)
    have NX := Lib.hid (twk_step g i)
    have ck : V1.cell? ⟨A, 0, none⟩ = some (.int .i64 i) := HV.out.at'.cell (i := 0) (by simp)
    have cr := cell_of_one HV.out.res
    have q1 : IntKind.i64.wrap ((i : Int) + 1) = (i : Int) + 1 := IntWalk.i64_in _ (by omega)
    gi_wp2_with (first
      | (refine loadIn_want rfl rfl rfl _ rfl T (twk g i) rfl KV.out ?_)
      | (refine loadIn_want rfl rfl rfl _ rfl (A + 1) (twk g i) rfl HV.out.key ?_)
      | (refine neqIn_is rfl rfl rfl _ _ rfl (twk g i) (twk g i) (same_key _) rfl rfl ?_)
      | (refine wpListIn_of_list rfl rfl rfl (wpList_load_row rfl 25 _ rfl (A + 1) rfl 25 (cellsOf .u8 (mk 16 (twk g i))) (0, 0) _ HV.out.key keyUnder rfl (keySize _) (wpList_nil ⟨rfl, rfl, rfl⟩)) ?_))
    refine ⟨trivial, (CallsIn.inRound _ (callsIn_wide.2 DC.out)).mono ?_⟩
    rintro e V2 ⟨rfl, hb2⟩
    rw [NX.out]
    have O0 := HV.out.at'.below hb2 HV.out.at'.lt
    have O1 := HV.out.key.below hb2 HV.out.key.lt
    have O2 := HV.out.num.below hb2 HV.out.num.lt
    have O3 := BoolBlk.below HV.out.res hb2 HV.out.res.lt
    have O4 := HV.out.first.below hb2 HV.out.first.lt
    have O5 := HV.out.low.trans (hb2.mono HV.out.low.size)
    have O6 := Nat.lt_of_lt_of_le HV.out.big hb2.size
    have OA := Aft.of_below w5.heap.size hb2
    have HO1 := Lib.hid O1
    have k0 : IntBlk (V2.setRow (A + 1) (cellsOf .u8 (mk 16 (twk g (i + 1))))) A .i64 3 [(i : Int)] := O0.otherRow (by omega) _
    have k1 : IntBlk (V2.setRow (A + 1) (cellsOf .u8 (mk 16 (twk g (i + 1))))) (A + 1) .u8 25 (mk 16 (twk g (i + 1))) := O1.setRow .u8 _
    have k2 : IntBlk (V2.setRow (A + 1) (cellsOf .u8 (mk 16 (twk g (i + 1))))) (w.heap.size + 1) .i64 3 [(M : Int)] := O2.otherRow (by omega) _
    have k3 : BoolBlk (V2.setRow (A + 1) (cellsOf .u8 (mk 16 (twk g (i + 1))))) (w.heap.size + 1 + 1) 4 false := (setRow_other V2 (A + 1) _ _ (by omega)).trans O3
    have k4 : IntBlk (V2.setRow (A + 1) (cellsOf .u8 (mk 16 (twk g (i + 1))))) (A + 1 + 1) .u8 25 (mk 16 g) := O4.otherRow (by omega) _
    have k5 : Below w.heap.size w (V2.setRow (A + 1) (cellsOf .u8 (mk 16 (twk g (i + 1))))) := below_setRow O5 (by omega) _
    have k6 : A + 1 + 1 < (V2.setRow (A + 1) (cellsOf .u8 (mk 16 (twk g (i + 1))))).heap.size := by simpa using O6
    have kA : Aft w5.heap.size V1 (V2.setRow (A + 1) (cellsOf .u8 (mk 16 (twk g (i + 1))))) := OA.trans ⟨by simp, fun k hk _ => setRow_other V2 _ k _ (by omega)⟩
    clear O0 O1 O2 O3 O4 O5 O6 OA hb2 KV DC NX ck cr HV
    have HK := Lib.hid (And.intro k0 (And.intro k1 (And.intro k2 (And.intro k3 (And.intro k4 (And.intro k5 (And.intro k6 kA)))))))
    clear k0 k1 k2 k3 k4 k5 k6 kA
    have hne : A ≠ w.heap.size + 1 := by omega
    by_cases hl2 : i + 1 = M
    · have t1 : ((i : Int) + 1 == (M : Int)) = true := by simp; omega
      have HL := Lib.hid hl2
      clear hl2
      gi_wp2_with (first
        | (refine wpListIn_of_list rfl rfl rfl (store_row_on rfl 25 _ _ rfl rfl (A + 1) (cellsOf .u8 (mk 16 (twk g (i + 1)))) rfl rfl 25 (cellsOf .u8 (mk 16 (twk g i))) HO1.out (keySize _) (by rw [cellsOf_size, cellsOf_size, mk_len, mk_len]) (cellsOf_one _ _) (wpList_nil ⟨rfl, rfl, rfl⟩)) ?_
           clear HO1
           generalize V2.setRow (A + 1) (cellsOf .u8 (mk 16 (twk g (i + 1)))) = V3 at *
           have ck := HK.out.1.cell (i := 0) (by simp)
           have fk := HK.out.1.free 0
           have cn := HK.out.2.2.1.cell (i := 0) (by simp)))
      obtain ⟨k0, k1, k2, k3, k4, k5, k6, kA⟩ := HK.out
      exact ⟨kA.setCell (by show A < w5.heap.size; omega) _, rfl, k2.other (by show A ≠ w.heap.size + 1; omega) _, k3.other (by show A ≠ w.heap.size + 1 + 1; omega) _, by rw [← HL.out]; exact k0.set 0 _, k5.setCell (by show w.heap.size ≤ A; omega) _⟩
    · have t1 : ((i : Int) + 1 == (M : Int)) = false := by simp; omega
      have hlt : i + 1 < M := by omega
      clear hl2
      gi_wp2_with (first
        | (refine wpListIn_of_list rfl rfl rfl (store_row_on rfl 25 _ _ rfl rfl (A + 1) (cellsOf .u8 (mk 16 (twk g (i + 1)))) rfl rfl 25 (cellsOf .u8 (mk 16 (twk g i))) HO1.out (keySize _) (by rw [cellsOf_size, cellsOf_size, mk_len, mk_len]) (cellsOf_one _ _) (wpList_nil ⟨rfl, rfl, rfl⟩)) ?_
           clear HO1
           generalize V2.setRow (A + 1) (cellsOf .u8 (mk 16 (twk g (i + 1)))) = V3 at *
           have ck := HK.out.1.cell (i := 0) (by simp)
           have fk := HK.out.1.free 0
           have cn := HK.out.2.2.1.cell (i := 0) (by simp)))
      obtain ⟨k0, k1, k2, k3, k4, k5, k6, kA⟩ := HK.out
      exact ⟨kA.setCell (by show A < w5.heap.size; omega) _, hlt, k2.other (by show A ≠ w.heap.size + 1; omega) _, k3.other (by show A ≠ w.heap.size + 1 + 1; omega) _, k0.set 0 _, k1.other (by show A ≠ A + 1; omega) _, k4.other (by show A ≠ A + 1 + 1; omega) _, k5.setCell (by show w.heap.size ≤ A; omega) _, by rw [World.size_setCell]; exact k6⟩

theorem laidOut : laidOutB Try.prog = true := by kernel_rfl
set_option maxRecDepth 100000 in
theorem lifted (os : Os) (started : os.Started) (H : Type) (enc : TypeId × Value → H) :
    ReturnsInHanded {} Try.checked os 4 .any (Rows.tweakBlocksSpec.pre6 enc Try.prog Try.f4 Rows.tweakBlocksRow.domain false) (Rows.tweakBlocksSpec.post enc Try.prog Try.f4 false true false false) := by
  refine returnsInHanded_of_change (C := Try.checked) own started (by kernel_rfl) Try.func4
    (ChangeSpec.witness6 (enc := enc) (C := Try.checked) false ⟨#[], #[.agg #[.int .u8 0, .int .u8 0, .int .u8 0, .int .u8 0, .int .u8 0, .int .u8 0, .int .u8 0, .int .u8 0, .int .u8 0, .int .u8 0, .int .u8 0, .int .u8 0, .int .u8 0, .int .u8 0, .int .u8 0, .int .u8 0], .int .i64 0], []⟩ 8 (by kernel_rfl) (by kernel_rfl) (by kernel_rfl) (by kernel_rfl)) ?_
  intro W base args ds gs before hval0 hW hcnd _
  have hval : ∀ (j : Nat) t v, Try.f4.params[j]? = some t → args[j]? = some v → Value.okWide Try.prog W .any base t v := hval0
  have hW' := hW
  obtain ⟨p, q, hA0, hV, rfl, hfz, hnd⟩ := hW
  have hA : DataW.TrodAll enc Try.prog W 0 (fun _ => true) true Try.f4.params.toList args.toList ds p := hA0
  rw [Try.params4] at hA hval
  obtain ⟨v0, vs0, d0, ds0, p0, q0, hargs, rfl, rfl, h0, r0⟩ := trodAll_cons hA
  obtain ⟨v1, vs1, d1, ds1, p1, q1, rfl, rfl, rfl, h1, r1⟩ := trodAll_cons r0
  obtain ⟨rfl, rfl, rfl⟩ := trodAll_nil r1
  obtain rfl : args = #[v0, v1] := by cases args; simp_all
  obtain ⟨rfl, rfl⟩ := trodVars_none hV
  have k0 := h0
  have lt0 : ∀ x ∈ p0, x.block < W.heap.size := by obtain ⟨m, hm⟩ := k0; exact DataW.trod_lt m _ _ _ hm
  obtain ⟨a0, w0, rfl⟩ := open_bytes Try.underlying25 Try.underlying5 (by kernel_rfl) (by kernel_rfl) (hval 0 25 v0 rfl rfl) h0
  obtain ⟨a1, rfl, rfl, rfl, w1⟩ := open_int Try.underlying3 (hval 1 3 v1 rfl rfl) h1
  clear hA0 hval0
  refine (walk a0 a1 w0 w1 W).mono fun e W' ⟨he, bel⟩ => ?_
  subst he
  exact ⟨_, rfl, _, _, _, [], _, [], hW', trodAll_mk1 (shut_bool Try.underlying4 _), (trodAll_cons_mk (Below.trod laidOut (by kernel_rfl) (of_decide_eq_true (by kernel_rfl)) k0 bel lt0) (trodAll_cons_mk (shut_int Try.underlying3 w1) trodAll_mk0)), rfl, bel.frame _, fun h => by cases h⟩

theorem over : Rows.tweakBlocksRow.holds Try.pinned (OpenSpec.ofChange Rows.tweakBlocksSpec) :=
  OpenClaim.holds_of_wide 4 Try.f4 rfl rfl rfl rfl rfl rfl rfl ⟨rfl, rfl, rfl, rfl, rfl⟩ rfl rfl rfl rfl rfl (by kernel_rfl) Try.func4 (by kernel_rfl)
    (of_decide_eq_true (by kernel_rfl)) (by unfold Func.isWrapper; first | (rw [if_pos (by decide +kernel)]; kernel_rfl) | (rw [if_neg (by decide +kernel)]; exact ⟨rfl, rfl⟩))
    (fun os started H enc _ => lifted os started H enc)

theorem proved : Rows.TweakBlocksSaid := over
end Go.Proofs.Ytklnnmlegagfoaa.tweakBlocks
