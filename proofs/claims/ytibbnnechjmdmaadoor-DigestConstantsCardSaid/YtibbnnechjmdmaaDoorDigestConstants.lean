/- Package digest's constants and beginning are those reckoned from the primes: the statement DigestConstants, tied to the program's text. No condition. -/
import Derived.Test.YtibbnnechjmdmaaDoorConstsC
import Derived.Test.YtibbnnechjmdmaaDoorTableC
import Derived.Test.YtibbnnechjmdmaaDoorOfC
import Derived.Test.YtibbnnechjmdmaaDoorQuietE
import Derived.Test.YtibbnnechjmdmaaDoorQuietA
import Derived.Test.YtibbnnechjmdmaaDoorDoor
namespace Go.Proofs.YtibbnnechjmdmaaDoor.digestConstants
open Go.ChangeShapes Go.WideShapes Go.ChangeAt Go.RowKit
set_option linter.unusedVariables false

theorem own : ownKnob Tryd.prog.godebug = none := by kernel_rfl
section
variable {P : Program} {ops : Array Oper} {rest : List Oper} {o : Oper} {a : Act} {w : World} {Q : Exit → Act → World → Prop}
theorem run_loadVar_words (B n : Nat) (f : Nat → Nat) (ty : TypeId) (d : TypeDesc) (hc : ∀ j, j < n → w.cell? ⟨B, j, none⟩ = some (.int .u32 (f j : Nat)))
    (hu : P.underlying ty = some d) (hd : (match d with | .struct _ | .array _ _ => true | _ => false) = true) (hi : (P.info? ty).map (·.size) = some n) :
    (loadVar ty ⟨B, 0, none⟩).run P w = .ok (.agg (cellsOf .u32 (mk n f))) w := by
  have hlen : (cellsOf .u32 (mk n f)).toList.length = n := by rw [Array.length_toList, cellsOf_size, mk_len]
  have hl := run_loadCells_list (P := P) w ⟨B, 0, none⟩ (cellsOf .u32 (mk n f)).toList (fun j v hv => by
    rw [addr_add]
    have hj : j < n := by
      have h1 : j < (cellsOf .u32 (mk n f)).toList.length := by
        rcases Nat.lt_or_ge j (cellsOf .u32 (mk n f)).toList.length with h | h
        · exact h
        · rw [List.getElem?_eq_none h] at hv; cases hv
      omega
    have h2 : (cellsOf .u32 (mk n f))[j]? = some v := by simpa using hv
    rw [cellsOf_get _ _ (by rw [mk_len]; exact hj), mk_get hj] at h2
    rw [Nat.zero_add, hc j hj]; exact h2)
  rw [hlen] at hl
  cases hq : P.info? ty with
  | none => simp [hq] at hi
  | some i =>
    have hs : i.size = n := by simpa [hq] using hi
    have hagg : (isAgg ty).run P w = .ok true w := by
      unfold isAgg
      rw [Sem.run_bind, run_underlying hu w]
      cases d <;> simp_all
    simp [loadVar, Sem.run_bind, hagg, sizeOf, typeInfo, hq, hs, hl]
theorem wpList_load_words (hgd : o.guard = none) (ty : TypeId) (x : Operand) (ho : o.op = .load ty x) (B n : Nat) (f : Nat → Nat) (hx : a.eval x = .pointer (some ⟨B, 0, none⟩)) (d : TypeDesc) (hc : ∀ j, j < n → w.cell? ⟨B, j, none⟩ = some (.int .u32 (f j : Nat)))
    (hu : P.underlying ty = some d) (hd : (match d with | .struct _ | .array _ _ => true | _ => false) = true) (hi : (P.info? ty).map (·.size) = some n)
    (h : wpList P ops Q rest (a.put o.dst (.agg (cellsOf .u32 (mk n f)))) w) : wpList P ops Q (o :: rest) a w :=
  wpList_plain hgd fun _ hK => by
    unfold Oper.wp execOp
    simp only [ho, hx, Instr.loadAt, Instr.sureAddr, Sem.run_bind, Sem.run_pure, Result.andThen_ok, run_loadVar_words B n f ty d hc hu hd hi]
    exact hK _ _ h
end
theorem tabSize : (Tryd.prog.info? 24).map (·.size) = some 64 := by kernel_rfl
theorem tabK_pos : ∀ i, i < 64 → tabK i ≠ 0 := by decide +kernel
attribute [local irreducible] tabK begK

set_option maxRecDepth 100000 in
theorem Constants_any (w : World) (hT : TabAt w) : Calls Tryd.prog 13 #[] w fun e w' => e = .returned (.agg (cellsOf .u32 (mk 64 tabK))) ∧ Below w.heap.size w w' := by
  have hZ := IntBlk.new w .u32 24 (mk 64 zeroK)
  have hB : Below w.heap.size w (w.alloc (.cells (cellsOf .u32 (mk 64 zeroK)) 24)) := (Below.refl _ w).alloc (Nat.le_refl _) _
  have HT := Lib.hid (hT.on hB)
  have HZ := Lib.hid hZ; have HB := Lib.hid hB
  clear hZ hB hT
  go_enter Tryd.func13, Tryd.ntmps13
  go_wp2_with (first
    | (refine wpList_load_words rfl 24 _ rfl 0 64 tabK rfl _ HT.out schedUnder rfl tabSize ?_)
    | (refine wpList_store_row rfl 24 _ _ rfl w.heap.size (cellsOf .u32 (mk 64 tabK)) rfl rfl 24 (cellsOf .u32 (mk 64 zeroK)) HZ.out (schedSize _) (by rw [cellsOf_size, cellsOf_size, mk_len, mk_len]) (cellsOf_one _ _) ?_)
    | fail)
  refine bodyPost_ret (results_cell_row rfl _ _ w.heap.size 24 (cellsOf .u32 (mk 64 tabK)) (0, 0) _ rfl (HZ.out.setRow .u32 (mk 64 tabK)) schedUnder rfl (schedSize _)) rfl ⟨rfl, below_setRow HB.out (Nat.le_refl _) _⟩

set_option maxRecDepth 100000 in
set_option maxHeartbeats 2000000 in
theorem walk (i0 : Int) (hm : (Lit.int .i64 i0).wf = true) (w : World) (hT : TabAt w) :
    Calls Tryd.prog 4 #[.int .i64 i0] w fun e w' => e = .returned (.bool true) ∧ Below w.heap.size w w' := by
  obtain ⟨u, hu⟩ : ∃ u : Nat, IntKind.u64.wrap i0 = (u : Int) := ⟨(IntKind.u64.wrap i0).toNat, by
    have : 0 ≤ IntKind.u64.wrap i0 := by simp only [IntKind.wrap, IntKind.bits, IntKind.signed]; simp; omega
    omega⟩
  obtain ⟨q, hq⟩ : ∃ q : Nat, u % 64 = q := ⟨_, rfl⟩
  have r1 : (u : Int).tmod 64 = (q : Int) := by rw [Int.tmod_eq_emod_of_nonneg (by omega)]; omega
  have r2 : IntKind.i64.wrap (q : Int) = (q : Int) := IntWalk.i64_in _ (by omega)
  have hq64 : q < 64 := by omega
  have HQ := Lib.hid hq64
  have HT := Lib.hid hT
  clear hq hT hq64
  go_enter Tryd.func4, Tryd.ntmps4
  go_wp2_with (first
    | (go_at_call 13; refine (Constants_any w HT.out).mono ?_; rintro e w1 ⟨rfl, hb1⟩
       have HB1 := Lib.hid hb1
       clear hb1)
    | (refine store_row_on rfl 24 _ _ rfl rfl w1.heap.size (cellsOf .u32 (mk 64 tabK)) rfl rfl 24 (cellsOf .u32 (mk 64 zeroK)) (IntBlk.new w1 .u32 _ (mk 64 zeroK)) (schedSize _) (by rw [cellsOf_size, cellsOf_size, mk_len, mk_len]) (cellsOf_one _ _) ?_
       have e1 : IntBlk ((w1.alloc (.cells (cellsOf .u32 (mk 64 zeroK)) 24)).setRow w1.heap.size (cellsOf .u32 (mk 64 tabK))) w1.heap.size .u32 24 (mk 64 tabK) := (IntBlk.new w1 .u32 _ (mk 64 zeroK)).setRow .u32 _
       have e2 : Below w.heap.size w ((w1.alloc (.cells (cellsOf .u32 (mk 64 zeroK)) 24)).setRow w1.heap.size (cellsOf .u32 (mk 64 tabK))) := below_setRow (HB1.out.alloc HB1.out.size _) HB1.out.size _
       change wpList _ _ _ _ _ ((w1.alloc (.cells (cellsOf .u32 (mk 64 zeroK)) 24)).setRow w1.heap.size (cellsOf .u32 (mk 64 tabK)))
       generalize ((w1.alloc (.cells (cellsOf .u32 (mk 64 zeroK)) 24)).setRow w1.heap.size (cellsOf .u32 (mk 64 tabK))) = V1 at *
       have E1 := Lib.hid e1; have E2 := Lib.hid e2
       clear e1 e2 HB1)
    | (go_at_call 9; refine (Table_any V1).mono ?_; rintro e w2 ⟨rfl, hb2⟩
       have F1 := Lib.hid (E1.out.below hb2 E1.out.lt); have F2 := Lib.hid (E2.out.trans (hb2.mono E2.out.size))
       clear hb2 E1 E2)
    | (refine store_row_on rfl 24 _ _ rfl rfl w2.heap.size (cellsOf .u32 (mk 64 tabK)) rfl rfl 24 (cellsOf .u32 (mk 64 zeroK)) ((IntBlk.new w2 .u32 24 (mk 64 zeroK)).alloc (.cells (cellsOf .u32 (mk 8 zeroK)) 23)) (schedSize _) (by rw [cellsOf_size, cellsOf_size, mk_len, mk_len]) (cellsOf_one _ _) ?_)
    | (refine store_row_on rfl 23 _ _ rfl rfl (w2.heap.size + 1) (cellsOf .u32 (mk 8 begK)) rfl rfl 23 (cellsOf .u32 (mk 8 zeroK)) ((blk_two w2 .u32 23 (mk 8 zeroK) (.cells (cellsOf .u32 (mk 64 zeroK)) 24)).otherRow (by omega) _) (eightSize _) (by rw [cellsOf_size, cellsOf_size, mk_len, mk_len]) (cellsOf_one _ _) ?_)
    | fail)
  have hl1 := F1.out.lt
  have G1 : IntBlk ((((w2.alloc (.cells (cellsOf .u32 (mk 64 zeroK)) 24)).alloc (.cells (cellsOf .u32 (mk 8 zeroK)) 23)).setRow w2.heap.size (cellsOf .u32 (mk 64 tabK))).setRow (w2.heap.size + 1) (cellsOf .u32 (mk 8 begK))) w1.heap.size .u32 24 (mk 64 tabK) := (((F1.out.alloc _).alloc _).otherRow (by omega) _).otherRow (by omega) _
  have G2 : IntBlk ((((w2.alloc (.cells (cellsOf .u32 (mk 64 zeroK)) 24)).alloc (.cells (cellsOf .u32 (mk 8 zeroK)) 23)).setRow w2.heap.size (cellsOf .u32 (mk 64 tabK))).setRow (w2.heap.size + 1) (cellsOf .u32 (mk 8 begK))) w2.heap.size .u32 24 (mk 64 tabK) := (((IntBlk.new w2 .u32 24 (mk 64 zeroK)).alloc _).setRow .u32 (mk 64 tabK)).otherRow (by omega) _
  have G3 : IntBlk ((((w2.alloc (.cells (cellsOf .u32 (mk 64 zeroK)) 24)).alloc (.cells (cellsOf .u32 (mk 8 zeroK)) 23)).setRow w2.heap.size (cellsOf .u32 (mk 64 tabK))).setRow (w2.heap.size + 1) (cellsOf .u32 (mk 8 begK))) (w2.heap.size + 1) .u32 23 (mk 8 begK) := ((blk_two w2 .u32 23 (mk 8 zeroK) (.cells (cellsOf .u32 (mk 64 zeroK)) 24)).otherRow (by omega) _).setRow .u32 (mk 8 begK)
  have G4 : Below w.heap.size w ((((w2.alloc (.cells (cellsOf .u32 (mk 64 zeroK)) 24)).alloc (.cells (cellsOf .u32 (mk 8 zeroK)) 23)).setRow w2.heap.size (cellsOf .u32 (mk 64 tabK))).setRow (w2.heap.size + 1) (cellsOf .u32 (mk 8 begK))) := below_setRow (below_setRow (F2.out.trans ((below_two w2 _ _).mono F2.out.size)) F2.out.size _) (by have := F2.out.size; omega) _
  change Code.wp _ _ _ _ ((((w2.alloc (.cells (cellsOf .u32 (mk 64 zeroK)) 24)).alloc (.cells (cellsOf .u32 (mk 8 zeroK)) 23)).setRow w2.heap.size (cellsOf .u32 (mk 64 tabK))).setRow (w2.heap.size + 1) (cellsOf .u32 (mk 8 begK)))
  generalize ((((w2.alloc (.cells (cellsOf .u32 (mk 64 zeroK)) 24)).alloc (.cells (cellsOf .u32 (mk 8 zeroK)) 23)).setRow w2.heap.size (cellsOf .u32 (mk 64 tabK))).setRow (w2.heap.size + 1) (cellsOf .u32 (mk 8 begK))) = V at *
  have K1 := Lib.hid (fun W (h : Below V.heap.size V W) => G1.below h G1.lt)
  have K2 := Lib.hid (fun W (h : Below V.heap.size V W) => G2.below h G2.lt)
  have K3 := Lib.hid (fun W (h : Below V.heap.size V W) => G3.below h G3.lt)
  have K4 := Lib.hid (class_of (W0 := V) (fun W => refConstants_any W))
  have K5 := Lib.hid (class_of (W0 := V) (fun W => refBegin_any W))
  have K6 := Lib.hid (class_of (W0 := V) (fun W => Begin_any W))
  have hq64 := HQ.out
  have K7 := Lib.hid (fun W (h : Below V.heap.size V W) => (show W.cell? ⟨w1.heap.size, q, none⟩ = some (.int .u32 (tabK q : Nat)) by
    have := (G1.below h G1.lt).cell (i := q) (by rw [mk_len]; omega)
    rw [mk_get (by omega)] at this; exact this))
  have hnz := tabK_pos q hq64
  obtain ⟨kq, hkq⟩ : ∃ k, tabK q = k := ⟨_, rfl⟩
  rw [hkq] at hnz K7
  have hb : (((kq : Nat) : Int) != 0) = true := by simp; exact hnz
  have HB := Lib.hid hb
  have HG4 := Lib.hid G4
  clear G1 G2 G3 G4 F1 F2 hb hnz hkq hl1
  refine wp_region_class (fun w' => Below V.heap.size V w') (by kernel_rfl) (by kernel_rfl) ((Below.refl _ _).drew) ?_
  iterate 25 (first
    | go_big_quiet_skip
    | (go_big_quiet_want
       first
         | (go_big_quiet_op; go_big_quiet_on)
         | ((first
             | (refine quiet_pick _ _ _ rfl rfl rfl ?_)
             | (refine quiet_load_row 24 _ rfl w1.heap.size .u32 (mk 64 tabK) rfl 64 22 schedUnder (schedSize _) K1.out ?_)
             | (refine quiet_load_row 24 _ rfl w2.heap.size .u32 (mk 64 tabK) rfl 64 22 schedUnder (schedSize _) K2.out ?_)
             | (refine quiet_load_row 23 _ rfl (w2.heap.size + 1) .u32 (mk 8 begK) rfl 8 22 eightUnder (eightSize _) K3.out ?_)
             | (refine quiet_at 24 64 _ _ rfl schedUnder wdElem w1.heap.size q (q : Int) rfl rfl rfl hq64 ?_)
             | (refine quiet_u32 _ rfl w1.heap.size q _ rfl K7.out ?_)
             | (refine quiet_u32_neq _ _ rfl kq 0 true rfl rfl HB.out ?_)
             | (refine quiet_sched_eql _ _ rfl tabK tabK rfl rfl (by simp) ?_)
             | (refine quiet_eight_eql _ _ rfl begK begK rfl rfl (by simp) ?_)
             | (refine quiet_call0 _ _ rfl 14 rfl (.agg (cellsOf .u32 (mk 64 tabK))) (fun _ w => by simp [go_sem]) K4.out ?_)
             | (refine quiet_call0 _ _ rfl 15 rfl (.agg (cellsOf .u32 (mk 8 begK))) (fun _ w => by simp [go_sem]) K5.out ?_)
             | (refine quiet_call0 _ _ rfl 12 rfl (.agg (cellsOf .u32 (mk 8 begK))) (fun _ w => by simp [go_sem]) K6.out ?_)); go_simp; go_big_quiet_on)))
  refine wpQuiet_nil ?_
  intro wx hwx
  go_wp2
  go_ret
  exact ⟨rfl, HG4.out.trans (hwx.mono HG4.out.size)⟩

set_option maxRecDepth 100000 in
theorem lifted (os : Os) (started : os.Started) (H : Type) (enc : TypeId × Value → H) :
    ReturnsInHanded {} Tryd.checked os 4 .any (fun w args => (Rows.digestConstantsSpec.pre enc Tryd.prog Tryd.f4 Rows.digestConstantsRow.domain false w args ∧ laidMetH Tryd.prog Rows.digestConstantsRow.laid w) ∧ sizedMet enc Tryd.prog Tryd.f4 (OpenSpec.ofChange Rows.digestConstantsSpec) false w args) (Rows.digestConstantsSpec.post enc Tryd.prog Tryd.f4 false true false false) := by
  refine returnsInHanded_of_change_and (C := Tryd.checked) (X := fun w _ => laidMetH Tryd.prog Rows.digestConstantsRow.laid w) (fun _ _ _ hh h => h.of_heap hh) own started (by kernel_rfl) Tryd.func4
    (ChangeSpec.witness_shaped (enc := enc) (C := Tryd.checked) (os := os) (X := fun w _ => laidMetH Tryd.prog Rows.digestConstantsRow.laid w) false (World.laidAll Tryd.prog os Rows.digestConstantsRow.laid) #[.int .i64 0] 8 (World.laidAll_os _ _ _)
      (World.shaped_of_ZipB (by kernel_rfl) (by kernel_rfl)) (by kernel_rfl) (by kernel_rfl) (by kernel_rfl)
      (by rw [MakeChecks.laidMetH_plain _ _ _ (by kernel_rfl)]; exact laidMet_laidAll _ (by kernel_rfl) (by kernel_rfl))) ?_
  intro W base args ds gs before hval0 hW hcnd hsz hL _
  have hT := tab_of_laid hL
  have hval : ∀ (j : Nat) t v, Tryd.f4.params[j]? = some t → args[j]? = some v → Value.okWide Tryd.prog W .any base t v := hval0
  have hW' := hW
  obtain ⟨p, q, hA0, hV, rfl, hfz, hnd⟩ := hW
  have hA : DataW.TrodAll enc Tryd.prog W 0 (fun _ => true) true Tryd.f4.params.toList args.toList ds p := hA0
  rw [Tryd.params4] at hA hval
  obtain ⟨v0, vs0, d0, ds0, p0, q0, hargs, rfl, rfl, h0, r0⟩ := trodAll_cons hA
  obtain ⟨rfl, rfl, rfl⟩ := trodAll_nil r0
  obtain rfl : args = #[v0] := by cases args; simp_all
  obtain ⟨rfl, rfl⟩ := trodVars_none hV
  obtain ⟨a0, rfl, rfl, rfl, w0⟩ := open_int Tryd.underlying3 (hval 0 3 v0 rfl rfl) h0
  clear hA0 hval0
  refine (walk a0 w0 W hT).mono fun e W' ⟨he, bel⟩ => ?_
  subst he
  exact ⟨_, rfl, _, _, _, [], _, [], hW', trodAll_mk1 (shut_bool Tryd.underlying4 _), (trodAll_cons_mk (shut_int Tryd.underlying3 w0) trodAll_mk0), rfl, bel.frame _, fun h => by cases h⟩

theorem over : Rows.digestConstantsRow.holds Tryd.pinned (OpenSpec.ofChange Rows.digestConstantsSpec) :=
  OpenClaim.holds_of_wide 4 Tryd.f4 rfl rfl rfl rfl rfl rfl rfl ⟨rfl, rfl, rfl, rfl, rfl⟩ rfl rfl rfl rfl rfl (by kernel_rfl) Tryd.func4 (by kernel_rfl)
    (of_decide_eq_true (by kernel_rfl)) (by unfold Func.isWrapper; first | (rw [if_pos (by decide +kernel)]; kernel_rfl) | (rw [if_neg (by decide +kernel)]; exact ⟨rfl, rfl⟩))
    (fun os started H enc _ => lifted os started H enc)

set_option maxRecDepth 100000 in
theorem proved : Rows.DigestConstantsCardSaid :=
  Claim7.holds_tied_plain_at .later [] [.data] true (true, "f7205cfd815a6bad1c86f1bccfe71f72fe6628e239341f6fbb660aec02113458") false
    over (fun _ h => by cases h) (by kernel_rfl) (fun _ h => by cases h) digestConstants_row_tie rfl ⟨rfl, rfl⟩ (by kernel_rfl) rfl
    (fun f fn hf hfn => by
      obtain rfl : f = 4 := Option.some.inj ((show Tryd.prog.funcNamed "citadel/citadellaw04.DigestConstants" = some 4 by kernel_rfl).symm.trans hf) |>.symm
      obtain rfl : fn = Tryd.f4 := (Option.some.inj (Tryd.func4.symm.trans hfn)).symm
      exact ⟨by kernel_rfl, fun j t ht => by
        rw [Tryd.params4] at ht
        rcases j with _ | j
        · obtain rfl : t = 3 := by simpa using ht.symm
          exact (show Tryd.prog.wantsStandIn 3 = false by kernel_rfl)
        · simp at ht⟩)
    (by kernel_rfl)
end Go.Proofs.YtibbnnechjmdmaaDoor.digestConstants
