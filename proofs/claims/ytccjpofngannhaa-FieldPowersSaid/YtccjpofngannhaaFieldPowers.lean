/- A byte's powers by package field come one behind the other, as many as are asked for: the statement FieldPowers. No condition. -/
import Derived.Test.YtccjpofngannhaaLoopB
import Derived.Test.YtccjpofngannhaaRef1
namespace Go.Proofs.Ytccjpofngannhaa.fieldPowers
open Go.ChangeShapes Go.WideShapes Go.ChangeAt Go.RowKit Go.Shelf
set_option linter.unusedVariables false
attribute [local go_sem] Oper.semAt_some

theorem own : ownKnob Try.prog.godebug = none := by kernel_rfl

/-- Between two rounds: i of them are over, of M. -/
def PwI (w : World) (N : Nat) (b : Int) (M i : Nat) (W : World) : Prop :=
  i < M ∧ IntBlk W w.heap.size .u8 5 [b] ∧ IntBlk W (w.heap.size + 1) .i64 3 [(M : Int)] ∧ BoolBlk W (w.heap.size + 1 + 1) 4 false ∧ IntBlk W N .u8 5 [powI b i] ∧ IntBlk W (N + 1) .i64 3 [(i : Int)] ∧ IntBlk W (N + 1 + 1) .u8 5 [b] ∧ Below w.heap.size w W
/-- Behind the last one. -/
def PwX (w : World) (N M : Nat) (c : Code) (W : World) : Prop := c = .exit 0 ∧ IntBlk W (w.heap.size + 1) .i64 3 [(M : Int)] ∧ BoolBlk W (w.heap.size + 1 + 1) 4 false ∧ IntBlk W (N + 1) .i64 3 [(M : Int)] ∧ Below w.heap.size w W
theorem PwI.turn {w W : World} {N : Nat} {b : Int} {M i l : Nat} {o o' : Obj} (h : PwI w N b M i W) (hl : w.heap.size ≤ l) (ho : W.heap[l]? = some o) (hc : o.isCells = false) : PwI w N b M i (W.putObj l o') := by
  obtain ⟨h1, h2, h3, h4, h5, h6, h7, h8⟩ := h
  exact ⟨h1, cells_turn h2 ho hc, cells_turn h3 ho hc, cells_turn h4 ho hc, cells_turn h5 ho hc, cells_turn h6 ho hc, cells_turn h7 ho hc, below_turn _ h8 hl⟩
theorem PwX.turn {w W : World} {N M : Nat} {c : Code} {l : Nat} {o o' : Obj} (h : PwX w N M c W) (hl : w.heap.size ≤ l) (ho : W.heap[l]? = some o) (hc : o.isCells = false) : PwX w N M c (W.putObj l o') :=
  ⟨h.1, cells_turn h.2.1 ho hc, cells_turn h.2.2.1 ho hc, cells_turn h.2.2.2.1 ho hc, below_turn _ h.2.2.2.2 hl⟩
theorem PwI.box {w W : World} {N : Nat} {b : Int} {M i : Nat} (h : PwI w N b M i W) : W.cell? ⟨N + 1 + 1, 0, none⟩ = some (.int .u8 b) := h.2.2.2.2.2.2.1.cell (i := 0) (by simp)
theorem keeps_below {W W' : World} (h : Below W.heap.size W W') : KeepsOthers W W' :=
  ⟨h.size, fun k o hk _ => (h.block k (Array.getElem?_eq_some_iff.1 hk).1).trans hk⟩
theorem rounds (n : Int) : ∃ M : Nat, 1 ≤ M ∧ M ≤ 300 ∧ wrap64 (1 + wrap64 ((IntKind.u64.wrap n).tmod 300)) = M := by
  have h : 0 ≤ IntKind.u64.wrap n := by rw [IntKind.wrap_u64]; exact Int.emod_nonneg _ (by decide)
  generalize IntKind.u64.wrap n = u at *
  rw [IntWalk.rem_in u 300 h]
  have a : 0 ≤ u % 300 ∧ u % 300 < 300 := by omega
  generalize u % 300 = r at *
  rw [IntWalk.wrap64_in r (by omega), IntWalk.wrap64_in (1 + r) (by omega)]
  exact ⟨(1 + r).toNat, by omega, by omega, by omega⟩

set_option maxRecDepth 100000 in
set_option maxHeartbeats 2000000 in
theorem walk (b n : Int) (w0 : (Lit.int .u8 b).wf = true) (w1 : (Lit.int .i64 n).wf = true) (w : World) :
    Calls Try.prog 7 #[.int .u8 b, .int .i64 n] w fun e w' => e = .returned (.bool true) ∧ Below w.heap.size w w' := by
  have ⟨b0, b1⟩ := bounds_u8 w0
  clear w0 w1
  refine (callsIn_wide (n := 3)).1 ?_
  refine callsIn_of_wp_marks Try.func7 rfl trivial ?_ rfl
  simp only [Try.ntmps7, List.size_toArray, List.length_cons, List.length_nil, Nat.reduceAdd, Nat.reduceSub, Array.replicate_succ, Array.replicate_zero, List.push_toArray, List.append_toArray, List.nil_append, List.cons_append]
  gi_wp2
  refine ⟨trivial, (callsIn_wide.2 (Double_any (oneK 1) (oneK_key (by omega)) _)).mono ?_⟩
  rintro e w1 ⟨rfl, hb⟩
  have B0 : IntBlk w1 w.heap.size .u8 5 [b] := (((IntBlk.new w .u8 5 [b]).alloc _).alloc _).below hb (by simp; omega)
  have B1 : IntBlk w1 (w.heap.size + 1) .i64 3 [n] := ((blk_two w .i64 3 [n] _).alloc _).below hb (by simp)
  have B2 : BoolBlk w1 (w.heap.size + 1 + 1) 4 false := by
    have e := World.alloc_heap_new ((w.alloc (.cells #[.int .u8 b] 5)).alloc (.cells #[.int .i64 n] 3)) (.cells #[.bool false] 4)
    rw [World.size_alloc, World.size_alloc] at e
    exact BoolBlk.below e hb (by simp)
  have BW : Below w.heap.size w w1 := (below_three w _ _ _).trans (hb.mono (by simp; omega))
  have HB0 := Lib.hid B0
  have HB1 := Lib.hid B1
  have HB2 := Lib.hid B2
  have HW := Lib.hid BW
  have c0 : w1.cell? ⟨w.heap.size, 0, none⟩ = some (.int .u8 b) := B0.cell (i := 0) (by simp)
  have c1 : w1.cell? ⟨w.heap.size + 1, 0, none⟩ = some (.int .i64 n) := B1.cell (i := 0) (by simp)
  have f1 := B1.free 0
  have s2 : w.heap.size + 1 + 1 < w1.heap.size := B2.lt
  have s1 : w.heap.size + 1 < w1.heap.size := by omega
  have s0 : w.heap.size < w1.heap.size := by omega
  clear hb B0 B1 B2 BW
  have eq2 := two_eq
  gi_wp2
  refine ⟨trivial, (callsIn_wide.2 (Powers_any b _)).mono ?_⟩
  rintro e w2 ⟨rfl, rfl⟩
  obtain ⟨M, hM0, hM1, hM⟩ := rounds n
  generalize wrap64 (1 + wrap64 ((IntKind.u64.wrap n).tmod 300)) = nn at *
  subst hM
  generalize wrap64 ((IntKind.u64.wrap n).tmod 300) = r1
  generalize (IntKind.u64.wrap n).tmod 300 = r0
  generalize IntKind.u64.wrap n = u
  gi_wp2
  have hv : (w1.setCell ⟨w.heap.size + 1, 0, none⟩ (.int .i64 M)).heap.size = w1.heap.size := by simp [World.setCell]
  have C0 : IntBlk (w1.setCell ⟨w.heap.size + 1, 0, none⟩ (.int .i64 M)) w.heap.size .u8 5 [b] := HB0.out.other (by show w.heap.size + 1 ≠ w.heap.size; omega) _
  have C1 : IntBlk (w1.setCell ⟨w.heap.size + 1, 0, none⟩ (.int .i64 M)) (w.heap.size + 1) .i64 3 [(M : Int)] := HB1.out.set 0 _
  have C2 : BoolBlk (w1.setCell ⟨w.heap.size + 1, 0, none⟩ (.int .i64 M)) (w.heap.size + 1 + 1) 4 false := HB2.out.other (by show w.heap.size + 1 ≠ w.heap.size + 1 + 1; omega) _
  have CW : Below w.heap.size w (w1.setCell ⟨w.heap.size + 1, 0, none⟩ (.int .i64 M)) := HW.out.setCell (by show w.heap.size ≤ w.heap.size + 1; omega) _
  generalize w1.setCell ⟨w.heap.size + 1, 0, none⟩ (.int .i64 M) = V at *
  rw [← hv] at s0 s1 s2 ⊢
  clear hv HB0 HB1 HB2 HW
  have BI : ∀ o o', PwI w V.heap.size b M 0 (((((V.alloc (.cells #[.int .u8 1] 5)).alloc (.cells #[.int .i64 0] 3)).alloc (.cells #[.int .u8 b] 5)).alloc o).alloc o') := fun o o' =>
    ⟨by omega, ((((C0.alloc _).alloc _).alloc _).alloc _).alloc _, ((((C1.alloc _).alloc _).alloc _).alloc _).alloc _, ((((C2.alloc _).alloc _).alloc _).alloc _).alloc _, ((blk_first V .u8 5 [1] _ _).alloc _).alloc _,
      ((blk_second V .i64 3 [0] _ _).alloc _).alloc _, ((blk_third V .u8 5 [b] _ _).alloc _).alloc _,
      (((((CW.alloc (by omega) _).alloc (by simp; omega) _).alloc (by simp; omega) _).alloc (by simp; omega) _).alloc (by simp; omega) _)⟩
  clear C0 C1 C2 CW
  have hs : V.heap.size + 3 = (((V.alloc (.cells #[.int .u8 1] 5)).alloc (.cells #[.int .i64 0] 3)).alloc (.cells #[.int .u8 b] 5)).heap.size := by simp
  generalize ((V.alloc (.cells #[.int .u8 1] 5)).alloc (.cells #[.int .i64 0] 3)).alloc (.cells #[.int .u8 b] 5) = W0 at *
  generalize V.heap.size = N at *
  have HI := Lib.hid BI
  clear BI
  refine range_told rfl (by omega) (gf := 26) (lb := #[.pointer (some ⟨N + 1 + 1, 0, none⟩)]) rfl trivial (enters_of Try.func26 (by kernel_rfl) rfl)
    (fun i => #[.int .u8 (powI b i)]) (fun _ => rfl) (PwI w N b M) (PwX w N M) (fun i W l o o' hl ho hc h => h.turn (by omega) ho hc) (fun c W l o o' hl ho hc h => h.turn (by omega) ho hc) HI.out
    (powers_told _ (N + 1 + 1) M b b0 b1 (PwI w N b M) (fun i W h => Nat.le_of_lt h.1) (fun i W h => h.box))
    (fun i => { tmps := #[.int .u8 b, .int .i64 n, .pointer (some ⟨w.heap.size, 0, none⟩), .pointer (some ⟨w.heap.size + 1, 0, none⟩), .pointer (some ⟨w.heap.size + 1 + 1, 0, none⟩), .pointer (some ⟨N, 0, none⟩), .pointer (some ⟨N + 1, 0, none⟩), .int .u8 (powI b i),
      .agg #[.int .u8 1, .int .u8 0, .int .u8 0, .int .u8 0, .int .u8 0, .int .u8 0, .int .u8 0, .int .u8 0, .int .u8 0, .int .u8 0, .int .u8 0, .int .u8 0, .int .u8 0, .int .u8 0, .int .u8 0, .int .u8 0], .agg (cellsOf .u8 (mk 16 (dbl (oneK 1)))), .agg #[.int .u8 2, .int .u8 0, .int .u8 0, .int .u8 0, .int .u8 0, .int .u8 0, .int .u8 0, .int .u8 0, .int .u8 0, .int .u8 0, .int .u8 0, .int .u8 0, .int .u8 0, .int .u8 0, .int .u8 0, .int .u8 0], .bool false, .int .i64 n, .int .u64 u, .int .u64 r0, .int .i64 r1, .int .i64 M, .int .u8 b, .func (.func 26) #[] #[.pointer (some ⟨N + 1 + 1, 0, none⟩)], .int .u8 (powI b i),
      undef, undef, undef, undef, undef, undef, undef, undef, undef, undef, undef, undef, undef, undef], defers := [] }) ?assign ?body ?stop
  case assign =>
    intro l i W K hi hK
    clear HI
    gi_wp2
    exact hK
  case stop =>
    rintro D c W hD ⟨rfl, hn, hb, hk, hw⟩ hd
    clear HI
    have cn : W.cell? ⟨w.heap.size + 1, 0, none⟩ = some (.int .i64 M) := hn.cell (i := 0) (by simp)
    have ck : W.cell? ⟨N + 1, 0, none⟩ = some (.int .i64 M) := hk.cell (i := 0) (by simp)
    have cb : W.cell? ⟨w.heap.size + 1 + 1, 0, none⟩ = some (.bool false) := cell_of_one hb
    have fb : W.frozen? ⟨w.heap.size + 1 + 1, 0, none⟩ = false := free_of_one hb
    have t0 : ((M : Int) == (M : Int)) = true := by simp
    have HB := Lib.hid hb
    have HW := Lib.hid hw
    have HD : Hid ((W.setCell ⟨w.heap.size + 1 + 1, 0, none⟩ (.bool true)).heap[D]? = some (.deferred (some []))) := (Below.heap_setCell W ⟨w.heap.size + 1 + 1, 0, none⟩ _ D (by show D ≠ w.heap.size + 1 + 1; omega)).trans hd
    clear hn hk hb hw hd
    gi_wp2
    refine ⟨by simp, .inl ⟨_, _, rfl, run_takeDeferred HD.out, ?_⟩⟩
    have hc : ((W.setCell ⟨w.heap.size + 1 + 1, 0, none⟩ (.bool true)).putObj D (.deferred none)).cell? ⟨w.heap.size + 1 + 1, 0, none⟩ = some (.bool true) := cell_of_one (cells_turn (one_setCell HB.out) HD.out rfl)
    refine ⟨.bool true, ?_, rfl, below_turn _ (HW.out.setCell (by show w.heap.size ≤ w.heap.size + 1 + 1; omega) _) (by omega)⟩
    simp [results, Try.f7, go_sem, hc]
  case body =>
    intro l i W h1 h2 h
    clear HI
    obtain ⟨hi, hb0, hn, hr, hw0, hk, hx, hw⟩ := h
    have pb := powI_bd (b := b) i
    have cw : W.cell? ⟨N, 0, none⟩ = some (.int .u8 (powI b i)) := hw0.cell (i := 0) (by simp)
    have cb : W.cell? ⟨w.heap.size, 0, none⟩ = some (.int .u8 b) := hb0.cell (i := 0) (by simp)
    have t0 : (powI b i != powI b i) = false := by simp
    have HB := Lib.hid hb0
    have HN := Lib.hid hn
    have HR := Lib.hid hr
    have HW0 := Lib.hid hw0
    have HK := Lib.hid hk
    have HX := Lib.hid hx
    have HW := Lib.hid hw
    clear hb0 hn hr hw0 hk hx hw
    gi_wp2
    refine ⟨trivial, (CallsIn.inRound l (callsIn_wide.2 (refMul_any _ _ pb.1 pb.2 b0 b1 _))).mono ?_⟩
    rintro e W2 ⟨rfl, hb⟩
    have JB := HB.out.below hb HB.out.lt
    have JN := HN.out.below hb HN.out.lt
    have JR := HR.out.below hb HR.out.lt
    have JW0 := HW0.out.below hb HW0.out.lt
    have JK := HK.out.below hb HK.out.lt
    have JX := HX.out.below hb HX.out.lt
    have JW := HW.out.trans (hb.mono HW.out.size)
    have JO : KeepsOthers W W2 := keeps_below hb
    have cw2 := JW0.cell (i := 0) (by simp)
    have fw2 := JW0.free 0
    have ck2 : W2.cell? ⟨N + 1, 0, none⟩ = some (.int .i64 i) := JK.cell (i := 0) (by simp)
    have fk2 := JK.free 0
    have cn2 : W2.cell? ⟨w.heap.size + 1, 0, none⟩ = some (.int .i64 M) := JN.cell (i := 0) (by simp)
    clear HB HN HR HW0 HK HX HW hb cw cb t0
    have HB := Lib.hid JB
    have HN := Lib.hid JN
    have HR := Lib.hid JR
    have HW0 := Lib.hid JW0
    have HK := Lib.hid JK
    have HX := Lib.hid JX
    have HW := Lib.hid JW
    have HO := Lib.hid JO
    clear JB JN JR JW0 JK JX JW JO
    have hne : N ≠ N + 1 := by omega
    by_cases hl : i + 1 = M
    · have t1 : ((i : Int) + 1 == (M : Int)) = true := by simp; omega
      have HL := Lib.hid hl
      clear hl
      gi_wp2
      exact ⟨HO.out.trans ((KeepsOthers.setCell _ _ _).trans (KeepsOthers.setCell _ _ _)), rfl, (HN.out.other (by show N ≠ w.heap.size + 1; omega) _).other (by show N + 1 ≠ w.heap.size + 1; omega) _, (HR.out.other (by show N ≠ w.heap.size + 1 + 1; omega) _).other (by show N + 1 ≠ w.heap.size + 1 + 1; omega) _,
        by rw [← HL.out]; exact (HK.out.other (by show N ≠ N + 1; omega) _).set 0 _, (HW.out.setCell (by show w.heap.size ≤ N; omega) _).setCell (by show w.heap.size ≤ N + 1; omega) _⟩
    · have t1 : ((i : Int) + 1 == (M : Int)) = false := by simp; omega
      have hlt : i + 1 < M := by omega
      clear hl
      gi_wp2
      exact ⟨HO.out.trans ((KeepsOthers.setCell _ _ _).trans (KeepsOthers.setCell _ _ _)), hlt, (HB.out.other (by show N ≠ w.heap.size; omega) _).other (by show N + 1 ≠ w.heap.size; omega) _, (HN.out.other (by show N ≠ w.heap.size + 1; omega) _).other (by show N + 1 ≠ w.heap.size + 1; omega) _, (HR.out.other (by show N ≠ w.heap.size + 1 + 1; omega) _).other (by show N + 1 ≠ w.heap.size + 1 + 1; omega) _,
        (HW0.out.set 0 _).other (by show N + 1 ≠ N; omega) _, (HK.out.other (by show N ≠ N + 1; omega) _).set 0 _, (HX.out.other (by show N ≠ N + 1 + 1; omega) _).other (by show N + 1 ≠ N + 1 + 1; omega) _, (HW.out.setCell (by show w.heap.size ≤ N; omega) _).setCell (by show w.heap.size ≤ N + 1; omega) _⟩

set_option maxRecDepth 100000 in
theorem lifted (os : Os) (started : os.Started) (H : Type) (enc : TypeId × Value → H) :
    ReturnsInHanded {} Try.checked os 7 .any (Rows.fieldPowersSpec.pre6 enc Try.prog Try.f7 Rows.fieldPowersRow.domain false) (Rows.fieldPowersSpec.post enc Try.prog Try.f7 false true false false) := by
  refine returnsInHanded_of_change (C := Try.checked) own started (by kernel_rfl) Try.func7
    (ChangeSpec.witness6 (enc := enc) (C := Try.checked) false ⟨#[], #[.int .u8 0, .int .i64 0], []⟩ 8 (by kernel_rfl) (by kernel_rfl) (by kernel_rfl) (by kernel_rfl)) ?_
  intro W base args ds gs before hval0 hW hcnd _
  have hval : ∀ (j : Nat) t v, Try.f7.params[j]? = some t → args[j]? = some v → Value.okWide Try.prog W .any base t v := hval0
  have hW' := hW
  obtain ⟨p, q, hA0, hV, rfl, hfz, hnd⟩ := hW
  have hA : DataW.TrodAll enc Try.prog W 0 (fun _ => true) true Try.f7.params.toList args.toList ds p := hA0
  rw [Try.params7] at hA hval
  obtain ⟨v0, vs0, d0, ds0, p0, q0, hargs, rfl, rfl, h0, r0⟩ := trodAll_cons hA
  obtain ⟨v1, vs1, d1, ds1, p1, q1, rfl, rfl, rfl, h1, r1⟩ := trodAll_cons r0
  obtain ⟨rfl, rfl, rfl⟩ := trodAll_nil r1
  obtain rfl : args = #[v0, v1] := by cases args; simp_all
  obtain ⟨rfl, rfl⟩ := trodVars_none hV
  obtain ⟨a0, rfl, rfl, rfl, w0⟩ := open_int Try.underlying5 (hval 0 5 v0 rfl rfl) h0
  obtain ⟨a1, rfl, rfl, rfl, w1⟩ := open_int Try.underlying3 (hval 1 3 v1 rfl rfl) h1
  clear hA0 hval0
  refine (walk a0 a1 w0 w1 W).mono fun e W' ⟨he, bel⟩ => ?_
  subst he
  exact ⟨_, rfl, _, _, _, [], _, [], hW', trodAll_mk1 (shut_bool Try.underlying4 _), (trodAll_cons_mk (shut_int Try.underlying5 w0) (trodAll_cons_mk (shut_int Try.underlying3 w1) trodAll_mk0)), rfl, bel.frame _, fun h => by cases h⟩

theorem over : Rows.fieldPowersRow.holds Try.pinned (OpenSpec.ofChange Rows.fieldPowersSpec) :=
  OpenClaim.holds_of_wide 7 Try.f7 rfl rfl rfl rfl rfl rfl rfl ⟨rfl, rfl, rfl, rfl, rfl⟩ rfl rfl rfl rfl rfl (by kernel_rfl) Try.func7 (by kernel_rfl)
    (of_decide_eq_true (by kernel_rfl)) (by unfold Func.isWrapper; first | (rw [if_pos (by decide +kernel)]; kernel_rfl) | (rw [if_neg (by decide +kernel)]; exact ⟨rfl, rfl⟩))
    (fun os started H enc _ => lifted os started H enc)

theorem proved : Rows.FieldPowersSaid := over
end Go.Proofs.Ytccjpofngannhaa.fieldPowers
