/- Package redo's Merge answers what the document's does, of any rows, and leaves the puts as they were: the statement RedoMerge. No condition. -/
import Derived.Test.YtdeojhcfbiekmaaRdRefMerge
import Derived.Test.YtdeojhcfbiekmaaRdPuts
import Derived.Test.YtdeojhcfbiekmaaRdSame
namespace Go.Proofs.Ytdeojhcfbiekmaa.redoMerge
open Go.ChangeShapes Go.WideShapes Go.ChangeAt Go.RowKit
set_option linter.unusedVariables false

theorem own : ownKnob Try.prog.godebug = none := by kernel_rfl
def l3 : List PutOf := [⟨2, []⟩, ⟨1, []⟩, ⟨2, [1]⟩]
theorem l3_keys : IsKeys l3 [1, 2] := ⟨by decide, fun x => by
  show x ∈ [1, 2] ↔ (if (2 : Int) = x then some 2 else if (1 : Int) = x then some 1 else if (2 : Int) = x then some 0 else none).isSome = true
  by_cases h2 : (2 : Int) = x
  · subst h2; simp
  · by_cases h1 : (1 : Int) = x
    · subst h1; simp
    · simp [h1, h2]; omega⟩
theorem l3_merge : mergeK l3 [1, 2] = [⟨1, []⟩, ⟨2, [1]⟩] := by
  unfold mergeK pickP
  rfl
theorem l3_ats : AtsOk l3 := fun p hp => by
  simp [l3] at hp
  rcases hp with rfl | rfl | rfl <;> decide
theorem mergeK_ok {l : List PutOf} {K : List Int} (h : IsKeys l K) (hl : ∀ p ∈ l, p.ok) : ∀ p ∈ mergeK l K, p.ok := fun p hp => by
  obtain ⟨x, hx, rfl⟩ := List.mem_map.1 hp
  obtain ⟨i, _, hi, he, _⟩ := h.pick hx
  rw [he]; exact hl _ (List.getElem_mem hi)
theorem fill_put3 : Instr.fill (fun i => some (i * 129, 129)) ((Array.range (3 * 129)).map (putZ.cells[· % putZ.cells.size]!)) [(0, putV ⟨2, []⟩), (1, putV ⟨1, []⟩), (2, putV ⟨2, [1]⟩)] = some (l3.flatMap putC).toArray := by kernel_rfl
theorem run_put3 (w : World) : (Instr.buildSlice 25 3 #[(0, putV ⟨2, []⟩), (1, putV ⟨1, []⟩), (2, putV ⟨2, [1]⟩)]).run Try.prog w = .ok (.slice (some ⟨w.heap.size, 0, none⟩) 3 3) (w.alloc (.cells (l3.flatMap putC).toArray 31)) := by
  have hi := putSize
  have hz := putZero
  cases hq : Try.prog.info? 31 with
  | none => rw [hq] at hi; simp at hi
  | some i =>
    rw [hq] at hi hz
    have hs : i.size = 129 := by simpa using hi
    have hzz : i.zero = some putZ := by simpa using hz
    refine run_buildSlice w 25 31 3 _ _ i _ Try.underlying25 hq hzz (by rw [hs]; omega) (by rw [hs]; omega) ?_
    rw [hs]; exact fill_put3
theorem rows_l3 (w : World) : RowsAt 129 putC (w.alloc (.cells (l3.flatMap putC).toArray 31)) (some ⟨w.heap.size, 0, none⟩) l3 :=
  .inr ⟨w.heap.size, 0, rfl, by simp, fun i d hd j v hv => by
    have hj : j < 129 := by rw [← putC_len d]; exact (List.getElem?_eq_some_iff.1 hv).1
    rw [cell_of_row _ _ _ _ _ _ (heap_alloc_new w (.cells (l3.flatMap putC).toArray 31)), Nat.zero_add, Nat.mul_comm, List.getElem?_toArray, flatMap_at putC_len l3 i j d hd hj]
    exact hv⟩
theorem run_built1 (z : Int) (w : World) : (Instr.build 31 #[(0, .int .i64 z)]).run Try.prog w = .ok (putV ⟨z, []⟩) w := run_build w 31 _ _ (by kernel_rfl)
theorem run_cell1 (w : World) : (Instr.build 29 #[(0, .int .u8 1)]).run Try.prog w = .ok (.agg (cellsOf .u8 (mk 128 (natF [1])))) w := run_build w 29 _ _ (by kernel_rfl)
section
variable {ops : Array Oper} {rest : List Oper} {o : Oper} {a : Act} {w : World} {Q : Exit → Act → World → Prop}
theorem wpList_built1 (hgd : o.guard = none) (z : Int) (ho : o.op = .build 31 #[(0, .const (.int .i64 z))]) (h : wpList Try.prog ops Q rest (a.put o.dst (putV ⟨z, []⟩)) w) : wpList Try.prog ops Q (o :: rest) a w :=
  wpList_build_any hgd _ _ #[(0, .int .i64 z)] _ ho (by simp [Act.eval]) (run_built1 z) h
theorem wpList_cell1 (hgd : o.guard = none) (ho : o.op = .build 29 #[(0, .const (.int .u8 1))]) (h : wpList Try.prog ops Q rest (a.put o.dst (.agg (cellsOf .u8 (mk 128 (natF [1]))))) w) : wpList Try.prog ops Q (o :: rest) a w :=
  wpList_build_any hgd _ _ #[(0, .int .u8 1)] _ ho (by simp [Act.eval]) run_cell1 h
theorem wpList_built2 (hgd : o.guard = none) (x : Operand) (ho : o.op = .build 31 #[(0, .const (.int .i64 2)), (1, x)]) (hx : a.eval x = .agg (cellsOf .u8 (mk 128 (natF [1])))) (h : wpList Try.prog ops Q rest (a.put o.dst (putV ⟨2, [1]⟩)) w) : wpList Try.prog ops Q (o :: rest) a w :=
  wpList_build_any hgd _ _ #[(0, .int .i64 2), (1, .agg (cellsOf .u8 (mk 128 (natF [1]))))] _ ho (by rw [← hx]; simp [Act.eval]) (run_build2 2 (natF [1]) [1] rfl) h
theorem wpList_put3 (hgd : o.guard = none) (x y z : Operand) (ho : o.op = .buildSlice 25 3 #[(0, x), (1, y), (2, z)]) (hx : a.eval x = putV ⟨2, []⟩) (hy : a.eval y = putV ⟨1, []⟩) (hz : a.eval z = putV ⟨2, [1]⟩)
    (h : wpList Try.prog ops Q rest (a.put o.dst (.slice (some ⟨w.heap.size, 0, none⟩) 3 3)) (w.alloc (.cells (l3.flatMap putC).toArray 31))) : wpList Try.prog ops Q (o :: rest) a w :=
  wpList_plain hgd fun _ hK => by
    have e := run_put3 w
    unfold Oper.wp execOp
    simp only [ho]
    simp [hx, hy, hz, e]
    exact hK _ _ h
theorem wpList_put_elemW (hw : Region.wanted o (yielded ops a.tmps) = true) (x y : Operand) (ho : o.op = .indexAddr 25 x y) (B off n cap k : Nat) (hx : a.eval x = .slice (some ⟨B, off, none⟩) n cap) (hy : a.eval y = .int .i64 k) (hk : k < n) (h : wpList Try.prog ops Q rest (a.put o.dst (.pointer (some ⟨B, off + 129 * k, none⟩))) w) : wpList Try.prog ops Q (o :: rest) a w :=
  wanted_step hw fun K hK => by
    unfold Oper.wp
    rw [elem_addr x y ho B off n cap k hx hy hk w]
    exact hK _ _ h
end
theorem L3N : l3.length ≤ 1000 := by decide
theorem one_first : (putC ⟨2, [1]⟩)[1]? = some (.int .u8 1) := by
  show (secC [1])[0]? = _
  rw [secC_get [1] (by decide)]; rfl
theorem merge_l3 (q : Option Addr) (w : World) (h : RowsAt 129 putC w q l3) : Calls Try.prog 8 #[.slice q 3 3] w fun e w' => ∃ v, e = .returned v ∧ OwnL 31 129 putC w' w.heap.size w'.heap.size v [⟨1, []⟩, ⟨2, [1]⟩] ∧ Below w.heap.size w w' :=
  (Merge_any q 3 l3 L3N l3_ats w h).mono fun e w' ⟨K, v, he, hk, ho, hb⟩ => ⟨v, he, by
    have hk1 := isKeys_unique hk l3_keys
    subst hk1
    rw [l3_merge] at ho
    exact ho, hb⟩
attribute [local irreducible] lastTo mergeK pickP putC natF putsL l3 putV
set_option maxRecDepth 100000 in
set_option maxHeartbeats 4000000 in
theorem walk (q : Option Addr) (l0 : List RowOf) (cap : Nat) (w : World) (hp : RowsIn w q l0) :
    Calls Try.prog 4 #[.slice q l0.length cap] w fun e w' => e = .returned (.bool true) ∧ Below w.heap.size w w' := by
  have HB0 := Lib.hid (Below.refl w.heap.size w)
  by_cases hn : l0.length ≤ 200
  · have d1 : decide ((200 : Int) < (l0.length : Int)) = false := decide_eq_false (by omega)
    have d2 : decide (200 < l0.length) = false := decide_eq_false (by omega)
    have HP := Lib.hid hp
    have HOK := Lib.hid (putsL_ok hp)
    have HAT := Lib.hid (putsL_ats hp)
    have HN := Lib.hid (show l0.length ≤ 1000 by omega)
    have HNP := Lib.hid (show (putsL l0).length ≤ 200 by rw [putsL_len]; exact hn)
    clear hp hn
    go_enter Try.func4, Try.ntmps4
    go_wp2_with (first
      | (go_at_call 7; refine (puts_any q cap l0 HN.out w HP.out).mono ?_; rintro e w1 ⟨v, rfl, ho, hb⟩
         obtain ⟨lp, lc, rfl, _, _, hr, _⟩ := ho.rows elemPut.len
         have HL := Lib.hid hr
         have B1 := Lib.hid hb
         clear ho hb hr)
      | (refine wpList_list0 elemPut rfl rfl ?_
         have B2 := Lib.hid ((Below.refl w1.heap.size w1).alloc (Nat.le_refl _) (.cells #[] 31))
         have O2 := Lib.hid (OwnL.empty 31 129 putC w1 w1.heap.size (Nat.le_refl _)))
      | (refine wpList_append_list elemPut rfl _ _ rfl w1.heap.size (w1.heap.size + 1) _ [] (putsL l0) lp _ lc rfl rfl rfl O2.out (HL.out.below B2.out) (by have := HNP.out; simp; omega) (by decide) B2.out.size ?_
         intro v3 w3 ho3 hg3 hr3
         rw [List.nil_append] at ho3
         obtain ⟨cp, cc, rfl, _, _, hr, _⟩ := ho3.rows elemPut.len
         have HC := Lib.hid hr
         have B3 := Lib.hid (B2.out.trans (below_own1 hg3 (O2.out.block) B2.out.size))
         have HL3 := Lib.hid (HL.out.below B3.out)
         have B4 := Lib.hid (B1.out.trans (B3.out.mono B1.out.size))
         clear ho3 hg3 hr3 hr B2 O2 HL B3 B1)
      | (refine wpList_built1 rfl _ rfl ?_)
      | (refine wpList_cell1 rfl rfl ?_)
      | (refine wpList_built2 rfl _ rfl rfl ?_)
      | (refine wpList_put3 rfl _ _ _ rfl rfl rfl rfl ?_
         have B5 := Lib.hid ((Below.refl w3.heap.size w3).alloc (Nat.le_refl _) (.cells (l3.flatMap putC).toArray 31))
         have R5 := Lib.hid (rows_l3 w3)
         generalize w3.alloc (.cells (l3.flatMap putC).toArray 31) = w5 at *)
      | (go_at_call 8; refine (merge_l3 (some ⟨w3.heap.size, 0, none⟩) w5 R5.out).mono ?_; rintro e w6 ⟨v, rfl, ho, hb⟩
         obtain ⟨op, oc, rfl, _, _, hr, hq⟩ := ho.rows elemPut.len
         obtain ⟨OB, oo, rfl, hOB, hor⟩ := rowsAt_elem hr (k := 1) (by decide)
         obtain rfl : oo = 0 := (hq OB oo rfl).2.2
         have c1 : w6.cell? ⟨OB, 130, none⟩ = some (.int .u8 1) := hor 1 _ one_first
         have B6 := Lib.hid (B5.out.trans (hb.mono B5.out.size))
         have L6 := Lib.hid (HL3.out.below B6.out)
         have C6 := Lib.hid (HC.out.below B6.out)
         have B7 := Lib.hid (B4.out.trans (B6.out.mono B4.out.size))
         clear ho hb hr hq hOB hor B5 B6 HL3 HC B4 R5)
      | (refine wpList_put_elemW rfl _ _ rfl OB 0 2 oc 1 rfl rfl (by decide) ?_)
      | (go_at_call 8; refine (Merge_any cp cc (putsL l0) (by have := HNP.out; omega) HAT.out w6 C6.out).mono ?_; rintro e w7 ⟨K, v, rfl, hk, ho, hb⟩
         obtain ⟨mp, mc, rfl, _, _, hr, _⟩ := ho.rows elemPut.len
         have HM := Lib.hid hr
         have HK := Lib.hid hk
         have L7 := Lib.hid (L6.out.below hb)
         have C7 := Lib.hid (C6.out.below hb)
         have B8 := Lib.hid (B7.out.trans (hb.mono B7.out.size))
         clear hk ho hb hr L6 C6 B7)
      | (go_at_call 10; refine (refMerge_any lp lc (putsL l0) K HK.out (by have := HNP.out; omega) w7 L7.out).mono ?_; rintro e w8 ⟨v, rfl, ho, hb⟩
         obtain ⟨np, nc, rfl, _, _, hr, _⟩ := ho.rows elemPut.len
         have HN8 := Lib.hid hr
         have HM8 := Lib.hid (HM.out.below hb)
         have L8 := Lib.hid (L7.out.below hb)
         have C8 := Lib.hid (C7.out.below hb)
         have B9 := Lib.hid (B8.out.trans (hb.mono B8.out.size))
         have MO := Lib.hid (mergeK_ok HK.out HOK.out)
         have ML := Lib.hid (show (mergeK (putsL l0) K).length ≤ 1000000 by rw [mergeK_len]; have := HK.out.most; have := HNP.out; omega)
         clear ho hb hr L7 C7 B8 HM)
      | (go_at_call 9; refine (same_any mp np mc nc (mergeK (putsL l0) K) (mergeK (putsL l0) K) ML.out MO.out MO.out w8 HM8.out HN8.out).mono ?_; rintro e w9 ⟨hs, hb⟩
         have he := hs.is rfl
         subst he
         have L9 := Lib.hid (L8.out.below hb)
         have C9 := Lib.hid (C8.out.below hb)
         have B10 := Lib.hid (B9.out.trans (hb.mono B9.out.size))
         clear hs hb L8 C8 B9 HM8 HN8)
      | (go_at_call 9; refine (same_any cp lp cc lc (putsL l0) (putsL l0) (by have := HNP.out; omega) HOK.out HOK.out w9 C9.out L9.out).mono ?_; rintro e w10 ⟨hs, hb⟩
         have he := hs.is rfl
         subst he
         have B11 := Lib.hid (B10.out.trans (hb.mono B10.out.size))
         clear hs hb))
    go_ret
    exact ⟨rfl, B11.out⟩
  · have d1 : decide ((200 : Int) < (l0.length : Int)) = true := decide_eq_true (by omega)
    have d2 : decide (200 < l0.length) = true := decide_eq_true (by omega)
    clear hp hn
    go_enter Try.func4, Try.ntmps4
    go_wp2
    go_ret
    exact ⟨rfl, HB0.out⟩

theorem laidOut : laidOutB Try.prog = true := by kernel_rfl
set_option maxRecDepth 100000 in
theorem lifted (os : Os) (started : os.Started) (H : Type) (enc : TypeId × Value → H) :
    ReturnsInHanded {} Try.checked os 4 .any (Rows.redoMergeSpec.pre6 enc Try.prog Try.f4 Rows.redoMergeRow.domain false) (Rows.redoMergeSpec.post enc Try.prog Try.f4 false true false false) := by
  refine returnsInHanded_of_change (C := Try.checked) own started (by kernel_rfl) Try.func4
    (ChangeSpec.witness6 (enc := enc) (C := Try.checked) false ⟨#[], #[.slice none 0 0], []⟩ 8 (by kernel_rfl) (by kernel_rfl) (by kernel_rfl) (by kernel_rfl)) ?_
  intro W base args ds gs before hval0 hW hcnd _
  have hval : ∀ (j : Nat) t v, Try.f4.params[j]? = some t → args[j]? = some v → Value.okWide Try.prog W .any base t v := hval0
  have hW' := hW
  obtain ⟨p, q, hA0, hV, rfl, hfz, hnd⟩ := hW
  have hA : DataW.TrodAll enc Try.prog W 0 (fun _ => true) true Try.f4.params.toList args.toList ds p := hA0
  rw [Try.params4] at hA hval
  obtain ⟨v0, vs0, d0, ds0, p0, q0, hargs, rfl, rfl, h0, r0⟩ := trodAll_cons hA
  obtain ⟨rfl, rfl, rfl⟩ := trodAll_nil r0
  obtain rfl : args = #[v0] := by cases args; simp_all
  obtain ⟨rfl, rfl⟩ := trodVars_none hV
  have k0 := h0
  have lt0 : ∀ x ∈ p0, x.block < W.heap.size := by obtain ⟨m, hm⟩ := k0; exact DataW.trod_lt m _ _ _ hm
  obtain ⟨q0, a0, c0, rfl, y0⟩ := open_rows (hval 0 24 v0 rfl rfl) h0
  clear hA0 hval0
  refine (walk q0 a0 c0  W y0).mono fun e W' ⟨he, bel⟩ => ?_
  subst he
  exact ⟨_, rfl, _, _, _, [], _, [], hW', trodAll_mk1 (shut_bool Try.underlying4 _), (trodAll_cons_mk (Below.trod laidOut (by kernel_rfl) (of_decide_eq_true (by kernel_rfl)) k0 bel lt0) trodAll_mk0), rfl, bel.frame _, fun h => by cases h⟩

theorem over : Rows.redoMergeRow.holds Try.pinned (OpenSpec.ofChange Rows.redoMergeSpec) :=
  OpenClaim.holds_of_wide 4 Try.f4 rfl rfl rfl rfl rfl rfl rfl ⟨rfl, rfl, rfl, rfl, rfl⟩ rfl rfl rfl rfl rfl (by kernel_rfl) Try.func4 (by kernel_rfl)
    (of_decide_eq_true (by kernel_rfl)) (by unfold Func.isWrapper; first | (rw [if_pos (by decide +kernel)]; kernel_rfl) | (rw [if_neg (by decide +kernel)]; exact ⟨rfl, rfl⟩))
    (fun os started H enc _ => lifted os started H enc)

theorem proved : Rows.RedoMergeSaid := over
end Go.Proofs.Ytdeojhcfbiekmaa.redoMerge
