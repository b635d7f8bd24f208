/- ResvFair: a holder may always read and write. Condition: none but the arguments' own forms; package resv by resvSpec. -/
import Derived.Test.YtfnkdmdcjliebaaRvAlive
import Derived.Test.YtfnkdmdcjliebaaRvOps
import Derived.Test.YtfnkdmdcjliebaaRvDo
import Derived.WalkMore
namespace Go.Proofs.Ytfnkdmdcjliebaa
open Go.ChangeShapes Go.WideShapes Go.ChangeAt Go.RowKit
namespace resvFair
set_option linter.unusedVariables false
theorem own : ownKnob Try.prog.godebug = none := by kernel_rfl
theorem low_save {w V V' : World} (h : Below w.heap.size w V) (hs : Save w.heap.size V V') : Below w.heap.size w V' :=
  ⟨hs.os.trans h.os, hs.tape.trans h.tape, hs.output.trans h.output, Nat.le_trans h.size hs.size, fun k hk => (hs.same k (Nat.lt_of_lt_of_le hk h.size) (by omega) (by omega)).trans (h.block k hk)⟩
theorem holders_hold {r : ResvOf} {i : Nat} (hi : i < (holdersR r).length) : holdsR r ((holdersR r).getD i 0) = true := by
  have hm : (holdersR r).getD i 0 ∈ holdersR r := by rw [List.getD_eq_getElem?_getD, List.getElem?_eq_getElem hi]; exact List.getElem_mem hi
  obtain ⟨p, hp, he⟩ := List.mem_map.1 hm
  rw [← he]
  exact (List.mem_filter.1 hp).2
theorem holders_ok {r : ResvOf} (h : r.ok) (i : Nat) : okI ((holdersR r).getD i 0) := by
  by_cases hi : i < (holdersR r).length
  · have hm : (holdersR r).getD i 0 ∈ holdersR r := by rw [List.getD_eq_getElem?_getD, List.getElem?_eq_getElem hi]; exact List.getElem_mem hi
    obtain ⟨p, hp, he⟩ := List.mem_map.1 hm
    rw [← he]
    exact (h.1 p (List.mem_filter.1 hp).1).1
  · rw [List.getD_eq_getElem?_getD, List.getElem?_eq_none (by omega)]; exact okI_zero
theorem gives_boxA_load {T : TypeId} {sz : Nat} {z : Array Value} (R : IsRow T sz z) {o : Oper} {a : Act} {C : World → Prop} {K : Act → Prop} (x : Operand) (ho : o.op = .load T x) (O : Nat) (A : Array Value) (hA : A.size = sz) (hx : a.eval x = .pointer (some ⟨O, 0, none⟩)) (hO : ∀ W, C W → BoxA W O T A) (hk : K (a.put o.dst (.agg A))) : ∃ v, Gives Try.prog C o a v ∧ K (a.put o.dst v) := by
  obtain ⟨d, hu, hd⟩ := R.under
  refine ⟨_, fun w hw => ?_, hk⟩
  have hl : (loadVar T ⟨O, 0, none⟩).run Try.prog w = .ok (.agg A) w := by
    refine run_loadVar_row w O T T A (0, 0) d (hO w hw) hu ?_ (by rw [hA]; exact R.size)
    cases d <;> first | rfl | exact hd
  unfold execOp
  simp only [ho, hx, Instr.loadAt, Instr.sureAddr, Sem.run_bind, Sem.run_pure, Result.andThen_ok, hl]
theorem done_call3 {o : Oper} {a : Act} {w : World} {K : Value → World → Prop} (x y z u : Operand) (ts : Array TypeId) (ho : o.op = .call { callee := .value x, args := #[y, z, u], argTypes := ts }) (g : FuncId) (hx : a.eval x = .func (.func g) #[] #[])
    (p q r : Value) (hy : a.eval y = p) (hz : a.eval z = q) (hu : a.eval u = r) (hf : ∀ (args : Array Value) (w : World), (callFunc g args).run Try.prog w = .ok (.enter g args) w)
    (hc : Calls Try.prog g #[p, q, r] w fun e w' => ∃ v, e = .returned v ∧ K v w') : doneAt Try.prog o a w K :=
  done_call x #[y, z, u] ts ho g #[p, q, r] hx (by simp only [List.map_toArray, List.map_cons, List.map_nil, hy, hz, hu]) (hf _ w) hc
theorem fin_cell {W : World} {O D : Nat} {T : TypeId} {u v : Value} {o : Obj} (h : W.heap[O]? = some (.cells #[u] T (0, 0))) (hn : O ≠ D) : ((W.setCell ⟨O, 0, none⟩ v).putObj D o).cell? ⟨O, 0, none⟩ = some v :=
  (World.cell?_of_block (w := W.setCell ⟨O, 0, none⟩ v) (a := ⟨O, 0, none⟩) (World.putObj_heap_other (fun e => hn e))).trans (cell_of_row _ _ _ _ _ _ (heap_setCell_same _ _ _ _ _ _ h))
theorem fin_below {w W : World} {T : TypeId} {u v : Value} (h : W.heap[w.heap.size]? = some (.cells #[u] T (0, 0))) (hb : Below w.heap.size w W) : Below w.heap.size w (W.setCell ⟨w.heap.size, 0, none⟩ v) := hb.setCell (p := ⟨w.heap.size, 0, none⟩) (Nat.le_refl _) v
attribute [local irreducible] regC atR atO doR runR ropC allowedR holdsR holdersR
attribute [local go_sem] Oper.semAt_some
set_option maxRecDepth 100000 in
set_option maxHeartbeats 8000000 in
theorem walk (K : ResvSpec) (q0 : Option Addr) (os : List ROp) (c0 : Nat) (hl : os.length ≤ maxLen) (hok : ∀ o ∈ os, o.ok) (who : Int) (hwho : okI who) (w : World) (y0 : OpsAt w q0 os) : Calls Try.prog 6 #[.slice q0 os.length c0, .int .i64 who] w fun e w' => e = .returned (.bool true) ∧ Below w.heap.size w w' := by
  have HK := Lib.hid K
  have HRUN := Lib.hid (fun (W : World) (hb : Below w.heap.size w W) => run_any K (n := os.length) (c := c0) (RowsAt.below y0 hb) rfl hl hok)
  have HG := Lib.hid (fun h => runs_good os h os.length (Nat.le_refl _))
  rw [List.take_of_length_le (Nat.le_refl _)] at HG
  have HW := Lib.hid hwho
  generalize hn : os.length = n at *
  generalize runR nobodyR os = r at *
  clear y0 hl hok hwho hn K
  refine (callsIn_wide (n := 3)).1 ?_
  refine callsIn_of_wp_marks Try.func6 rfl trivial ?_ rfl
  simp only [Try.ntmps6, List.size_toArray, List.length_cons, List.length_nil, Nat.reduceAdd, Nat.reduceSub, Array.replicate_succ, Array.replicate_zero, List.push_toArray, List.append_toArray, List.nil_append, List.cons_append]
  refine wpIn_wide.2 ?_
  by_cases h200 : 200 < n
  · have D1 := Lib.hid (show decide ((n : Int) ≤ 200) = false from by simp; omega)
    clear h200 HG
    go_wp2_with (first
      | (go_at_call 9
         have OB := Lib.hid (heap_alloc_new w (.cells #[.bool false] 4))
         have B0 := Lib.hid (box_below w (.cells #[.bool false] 4))
         generalize w.alloc (.cells #[.bool false] 4) = w0 at *
         have OL := Lib.hid (show w.heap.size < w0.heap.size from (Array.getElem?_eq_some_iff.1 OB.out).1)
         refine (alive_any HK.out w0).mono ?_; rintro e w1 ⟨rfl, hb1⟩
         have B1 := Lib.hid (B0.out.trans (hb1.mono B0.out.size))
         have O1 := Lib.hid ((hb1.block _ OL.out).trans OB.out)
         clear hb1 OB B0 OL)
      | (go_at_call 22
         refine (HRUN.out _ B1.out).mono ?_
         rw [D1.out]
         rintro e w2 ⟨q, m, d, rfl, r2, -, b2⟩
         have R2 := Lib.hid r2
         have B2 := Lib.hid (B1.out.trans (b2.mono B1.out.size))
         have O2 := Lib.hid ((b2.block _ (Array.getElem?_eq_some_iff.1 O1.out).1).trans O1.out)
         clear r2 b2 B1 O1)
      | (with_reducible show wpList _ _ _ (⟨_, Op.alloc rvT, _, _, _, _⟩ :: _) _ _
         refine wpList_boxA_new rowRv rfl rfl w2.heap.size rfl ?_
         intro w3 x3 l3 s3
         have X3 := Lib.hid x3
         have L3 := Lib.hid l3
         have S3 := Lib.hid s3
         clear x3 l3 s3)
      | (with_reducible show wpList _ _ _ (⟨_, Op.store rvT _ _, _, _, _, none⟩ :: _) _ _
         refine wpList_boxA_put rowRv rfl _ _ rfl rfl w2.heap.size (resvA q m d r) _ rfl (rvA_one _ _ _ _) rfl rfl rfl X3.out ?_
         intro w4 x4 k4 s4
         have X4 := Lib.hid x4
         have L4 := Lib.hid (L3.out.trans (show Below w2.heap.size w3 w4 from k4.below L3.out.size (fun k hk e => by have := S3.out; omega)))
         have R4 := Lib.hid (R2.out.below L4.out)
         have B4 := Lib.hid (B2.out.trans (L4.out.mono B2.out.size))
         have O4 := Lib.hid ((L4.out.block _ (Array.getElem?_eq_some_iff.1 O2.out).1).trans O2.out)
         clear x4 k4 s4 X3 L3 S3 R2 B2 L4 O2
         generalize w2.heap.size = J at *
         have g5 : w4.cell? ⟨w.heap.size, 0, none⟩ = some (.bool false) := cell_of_row _ _ _ _ _ _ O4.out
         have g6 : w4.frozen? ⟨w.heap.size, 0, none⟩ = false := frozen_of_row _ _ _ _ _ O4.out))
    have hc : (w4.setCell ⟨w.heap.size, 0, none⟩ (.bool true)).cell? ⟨w.heap.size, 0, none⟩ = some (.bool true) := cell_of_row _ _ _ _ _ _ (heap_setCell_same _ _ _ _ _ _ O4.out)
    refine ⟨.bool true, ?_, rfl, fin_below O4.out B4.out⟩
    simp [results, Try.f6, go_sem, hc]
  have D1 := Lib.hid (show decide ((n : Int) ≤ 200) = true from by simp; omega)
  have G0 := Lib.hid (good_iff.2 (HG.out (by omega)).1)
  clear h200 HG
  go_wp2_with (first
    | (go_at_call 9
       have OB := Lib.hid (heap_alloc_new w (.cells #[.bool false] 4))
       have B0 := Lib.hid (box_below w (.cells #[.bool false] 4))
       generalize w.alloc (.cells #[.bool false] 4) = w0 at *
       have OL := Lib.hid (show w.heap.size < w0.heap.size from (Array.getElem?_eq_some_iff.1 OB.out).1)
       refine (alive_any HK.out w0).mono ?_; rintro e w1 ⟨rfl, hb1⟩
       have B1 := Lib.hid (B0.out.trans (hb1.mono B0.out.size))
       have O1 := Lib.hid ((hb1.block _ OL.out).trans OB.out)
       clear hb1 OB B0 OL)
    | (go_at_call 22
       refine (HRUN.out _ B1.out).mono ?_
       rw [D1.out]
       rintro e w2 ⟨q, m, d, rfl, r2, -, b2⟩
       have R2 := Lib.hid r2
       have B2 := Lib.hid (B1.out.trans (b2.mono B1.out.size))
       have O2 := Lib.hid ((b2.block _ (Array.getElem?_eq_some_iff.1 O1.out).1).trans O1.out)
       clear r2 b2 B1 O1)
    | (with_reducible show wpList _ _ _ (⟨_, Op.alloc rvT, _, _, _, _⟩ :: _) _ _
       refine wpList_boxA_new rowRv rfl rfl w2.heap.size rfl ?_
       intro w3 x3 l3 s3
       have X3 := Lib.hid x3
       have L3 := Lib.hid l3
       have S3 := Lib.hid s3
       clear x3 l3 s3)
    | (with_reducible show wpList _ _ _ (⟨_, Op.store rvT _ _, _, _, _, none⟩ :: _) _ _
       refine wpList_boxA_put rowRv rfl _ _ rfl rfl w2.heap.size (resvA q m d r) _ rfl (rvA_one _ _ _ _) rfl rfl rfl X3.out ?_
       intro w4 x4 k4 s4
       have X4 := Lib.hid x4
       have L4 := Lib.hid (L3.out.trans (show Below w2.heap.size w3 w4 from k4.below L3.out.size (fun k hk e => by have := S3.out; omega)))
       have R4 := Lib.hid (R2.out.below L4.out)
       have B4 := Lib.hid (B2.out.trans (L4.out.mono B2.out.size))
       have O4 := Lib.hid ((L4.out.block _ (Array.getElem?_eq_some_iff.1 O2.out).1).trans O2.out)
       clear x4 k4 s4 X3 L3 S3 R2 B2 L4 O2
       generalize w2.heap.size = J at *)
    | (with_reducible show wpList _ _ _ (⟨_, Op.load rvT _, _, _, _, _⟩ :: _) _ _
       refine wpList_boxA_loadw rowRv _ rfl rfl J (resvA q m d r) rfl rfl X4.out ?_)
    | (go_at_call 18
       refine (HK.out.holders R4.out G0.out).mono ?_; rintro e w5 ⟨fv, T, rfl, ⟨gf, lb, rfl, eg, hTl, hit⟩, -, b5⟩
       have X5 := Lib.hid (X4.out.keep (b5.block _ X4.out.lt))
       have R5 := Lib.hid (R4.out.below b5)
       have B5 := Lib.hid (B4.out.trans (b5.mono B4.out.size))
       have O5 := Lib.hid ((b5.block _ (Array.getElem?_eq_some_iff.1 O4.out).1).trans O4.out)
       have HTL := Lib.hid hTl
       have HIT := Lib.hid hit
       have HEG := Lib.hid eg
       clear b5 hit hTl eg X4 R4 B4 O4))
  refine (wpIn_wide (n := 3)).1 ?_
  refine range_free rfl (by omega) (gf := gf) (lb := lb) rfl trivial HEG.out
    (fun z : Int => #[.int .i64 z]) (fun i => (holdersR r).getD i 0) (holdersR r).length (fun V => ∀ k, T k → V.heap[k]? = w5.heap[k]?) (fun _ => rfl)
    (fun i V => Below w5.heap.size w5 V) (fun _ _ => False) ?rd ?st ?stx (Below.refl _ _) HIT.out ?round ?done ?stop
  case rd => exact fun i V h k hk => h.block k (HTL.out k hk)
  case st => exact fun i V V' h hs => low_save h hs
  case stx => exact fun _ _ _ h _ => h
  case stop => exact fun _ _ _ _ h _ => h.elim
  case done =>
    intro D W hD hI hd
    have XW := Lib.hid (X5.out.keep (hI.block _ X5.out.lt))
    have RW := Lib.hid (R5.out.below hI)
    have OW := Lib.hid ((hI.block _ (Array.getElem?_eq_some_iff.1 O5.out).1).trans O5.out)
    have BW := Lib.hid (B5.out.trans (hI.mono B5.out.size))
    have HD := Lib.hid hd
    have HDD := Lib.hid hD
    have HJ := Lib.hid X5.out.lt
    have C1 := Lib.hid (fun (V : World) (h : RvAt V q m d r) => HK.out.allowed who 1 HW.out (by unfold okI; decide) h G0.out)
    have C2 := Lib.hid (fun (V : World) (h : RvAt V q m d r) => HK.out.allowed who 2 HW.out (by unfold okI; decide) h G0.out)
    have HN := Lib.hid (fun h : r.h = -1 => allowed_nobody h who)
    have HR := Lib.hid (allowed_reads (r := r) who)
    have HWD := Lib.hid (show w.heap.size < w5.heap.size from (Array.getElem?_eq_some_iff.1 O5.out).1)
    clear hI X5 R5 O5 B5 hd hD HIT HEG HTL HRUN
    generalize allowedR r who 1 = a1 at *
    generalize allowedR r who 2 = a2 at *
    go_wp2
    refine wp_region_sched [(0, true), (1, true), (3, true), (4, true), (2, false), (5, false), (6, true), (7, true)] (fun V => BoxA V J rvT (resvA q m d r)) (by kernel_rfl) (by kernel_rfl) (show BoxA W.drew J rvT (resvA q m d r) from XW.out) ?_
    refine walk_float rfl rfl (fun K hK => ?_)
    refine gives_boxA_load rowRv _ rfl J (resvA q m d r) rfl rfl (fun V hV => hV) ?_
    go_simp
    refine hK _ ?_
    clear hK K
    refine walk_float rfl rfl (fun K hK => ?_)
    refine gives_move _ rfl ?_
    go_simp
    refine hK _ ?_
    clear hK K
    refine walk_float rfl rfl (fun K hK => ?_)
    refine gives_boxA_load rowRv _ rfl J (resvA q m d r) rfl rfl (fun V hV => hV) ?_
    go_simp
    refine hK _ ?_
    clear hK K
    refine walk_float rfl rfl (fun K hK => ?_)
    refine gives_move _ rfl ?_
    go_simp
    refine hK _ ?_
    clear hK K
    have RD := Lib.hid (RW.out.below ((Below.refl _ W).drew))
    have XD := Lib.hid (show BoxA W.drew J rvT (resvA q m d r) from XW.out)
    have BD := Lib.hid (BW.out.drew)
    have O5 := Lib.hid (show W.drew.heap[w.heap.size]? = _ from OW.out)
    have D5 := Lib.hid (show W.drew.heap[D]? = _ from HD.out)
    clear RW XW BW OW HD
    refine walk_done rfl rfl (fun K hK => ?_)
    refine done_call3 _ _ _ _ _ rfl 20 rfl (.agg (resvA q m d r)) (.int .i64 who) (.int .i64 1) rfl rfl rfl (enters_of Try.func20 (by kernel_rfl) rfl) ?_
    refine (C1.out _ RD.out).mono ?_
    rintro e w6 ⟨rfl, b6⟩
    have X6 := Lib.hid (XD.out.keep (b6.block _ XD.out.lt))
    have R6 := Lib.hid (RD.out.below b6)
    have B6 := Lib.hid (BD.out.trans (b6.mono BD.out.size))
    have O6 := Lib.hid ((b6.block _ (Array.getElem?_eq_some_iff.1 O5.out).1).trans O5.out)
    have D6 := Lib.hid ((b6.block _ (Array.getElem?_eq_some_iff.1 D5.out).1).trans D5.out)
    clear b6
    refine ⟨_, rfl, X6.out, ?_⟩
    go_simp
    refine hK _ _ ?_
    clear hK K
    refine walk_done rfl rfl (fun K hK => ?_)
    refine done_call3 _ _ _ _ _ rfl 20 rfl (.agg (resvA q m d r)) (.int .i64 who) (.int .i64 2) rfl rfl rfl (enters_of Try.func20 (by kernel_rfl) rfl) ?_
    refine (C2.out _ R6.out).mono ?_
    rintro e w7 ⟨rfl, b7⟩
    have X7 := Lib.hid (X6.out.keep (b7.block _ X6.out.lt))
    have R7 := Lib.hid (R6.out.below b7)
    have B7 := Lib.hid (B6.out.trans (b7.mono B6.out.size))
    have O7 := Lib.hid ((b7.block _ (Array.getElem?_eq_some_iff.1 O6.out).1).trans O6.out)
    have D7 := Lib.hid ((b7.block _ (Array.getElem?_eq_some_iff.1 D6.out).1).trans D6.out)
    clear b7
    refine ⟨_, rfl, X7.out, ?_⟩
    go_simp
    refine hK _ _ ?_
    clear hK K
    refine walk_float rfl rfl (fun K hK => ?_)
    refine gives_assign _ rfl ?_
    go_simp
    refine hK _ ?_
    clear hK K
    refine walk_float rfl rfl (fun K hK => ?_)
    refine gives_assign _ rfl ?_
    go_simp
    refine hK _ ?_
    clear hK K
    refine walk_nil ?_
    have g1 : w7.cell? ⟨J, 1, none⟩ = some (.int .i64 r.h) := X7.out.cell 1
    have g5 : w7.cell? ⟨w.heap.size, 0, none⟩ = some (.bool false) := cell_of_row _ _ _ _ _ _ O7.out
    have g6 : w7.frozen? ⟨w.heap.size, 0, none⟩ = false := frozen_of_row _ _ _ _ _ O7.out
    clear C1 C2 X6 R6 B6 O6 D6 O5 D5 RD XD BD
    have HOD := Lib.hid (show w.heap.size ≠ D from by have := HWD.out; have := HDD.out; omega)
    by_cases hh : r.h = -1
    · obtain ⟨e1, e2⟩ := HN.out hh
      subst e1
      subst e2
      rw [hh] at g1
      clear hh HR HN
      go_wp2
      refine ⟨by simp, .inl ⟨_, _, rfl, run_takeDeferred ((Below.heap_setCell _ _ _ D (fun e => HOD.out e.symm)).trans D7.out), ?_⟩⟩
      have hc := fin_cell (v := .bool true) (o := .deferred none) O7.out HOD.out
      refine ⟨.bool true, ?_, rfl, below_turn _ (fin_below O7.out B7.out) (by have := HDD.out; have := HWD.out; omega)⟩
      simp [results, Try.f6, go_sem, hc]
    · have e1 : (r.h == -1) = false := by simp [hh]
      cases h1 : a1 with
      | true =>
        subst h1
        clear hh HR HN
        go_wp2_with (first
          | (with_reducible show wpList _ _ _ (⟨_, Op.load rvT _, _, _, _, _⟩ :: _) _ _
             refine wpList_boxA_loadw rowRv _ rfl rfl J (resvA q m d r) rfl rfl X7.out ?_)
          | (go_at_call 20
             have HC := HK.out.allowed who 3 HW.out (by unfold okI; decide) R7.out G0.out
             rw [allowed_other] at HC
             refine HC.mono ?_; clear HC; rintro e w8 ⟨rfl, b8⟩
             have B8 := Lib.hid (B7.out.trans (b8.mono B7.out.size))
             have O8 := Lib.hid ((b8.block _ (Array.getElem?_eq_some_iff.1 O7.out).1).trans O7.out)
             have D8 := Lib.hid ((b8.block _ (Array.getElem?_eq_some_iff.1 D7.out).1).trans D7.out)
             clear b8 g1 g5 g6 X7 R7 B7 O7 D7
             have g5 : w8.cell? ⟨w.heap.size, 0, none⟩ = some (.bool false) := cell_of_row _ _ _ _ _ _ O8.out
             have g6 : w8.frozen? ⟨w.heap.size, 0, none⟩ = false := frozen_of_row _ _ _ _ _ O8.out))
        refine ⟨by simp, .inl ⟨_, _, rfl, run_takeDeferred ((Below.heap_setCell _ _ _ D (fun e => HOD.out e.symm)).trans D8.out), ?_⟩⟩
        have hc := fin_cell (v := .bool true) (o := .deferred none) O8.out HOD.out
        refine ⟨.bool true, ?_, rfl, below_turn _ (fin_below O8.out B8.out) (by have := HDD.out; have := HWD.out; omega)⟩
        simp [results, Try.f6, go_sem, hc]
      | false =>
        obtain rfl : a2 = false := by
          cases h2 : a2 with
          | true => exact absurd (HR.out h2) (by rw [h1]; decide)
          | false => rfl
        subst h1
        clear hh HR HN
        go_wp2_with (first
          | (with_reducible show wpList _ _ _ (⟨_, Op.load rvT _, _, _, _, _⟩ :: _) _ _
             refine wpList_boxA_loadw rowRv _ rfl rfl J (resvA q m d r) rfl rfl X7.out ?_)
          | (go_at_call 20
             have HC := HK.out.allowed who 3 HW.out (by unfold okI; decide) R7.out G0.out
             rw [allowed_other] at HC
             refine HC.mono ?_; clear HC; rintro e w8 ⟨rfl, b8⟩
             have B8 := Lib.hid (B7.out.trans (b8.mono B7.out.size))
             have O8 := Lib.hid ((b8.block _ (Array.getElem?_eq_some_iff.1 O7.out).1).trans O7.out)
             have D8 := Lib.hid ((b8.block _ (Array.getElem?_eq_some_iff.1 D7.out).1).trans D7.out)
             clear b8 g1 g5 g6 X7 R7 B7 O7 D7
             have g5 : w8.cell? ⟨w.heap.size, 0, none⟩ = some (.bool false) := cell_of_row _ _ _ _ _ _ O8.out
             have g6 : w8.frozen? ⟨w.heap.size, 0, none⟩ = false := frozen_of_row _ _ _ _ _ O8.out))
        refine ⟨by simp, .inl ⟨_, _, rfl, run_takeDeferred ((Below.heap_setCell _ _ _ D (fun e => HOD.out e.symm)).trans D8.out), ?_⟩⟩
        have hc := fin_cell (v := .bool true) (o := .deferred none) O8.out HOD.out
        refine ⟨.bool true, ?_, rfl, below_turn _ (fin_below O8.out B8.out) (by have := HDD.out; have := HWD.out; omega)⟩
        simp [results, Try.f6, go_sem, hc]
  case round =>
    intro l i W hl hi hWs hI
    have HI := Lib.hid hI
    have HA := Lib.hid (allowed_holder (holders_hold hi))
    have HZ := Lib.hid (holders_ok R5.out.ok i)
    have HWS := Lib.hid hWs
    clear hI hi hWs
    generalize (holdersR r).getD i 0 = z at *
    gi_wp2
    refine ⟨Rec.refl _ _, fun V hVs hVk hVS => ?_⟩
    have hV := low_save HI.out hVS
    have XV := Lib.hid (X5.out.keep (hV.block _ X5.out.lt))
    have RV := Lib.hid (R5.out.below hV)
    have HV := Lib.hid hV
    have HVS := Lib.hid (show w5.heap.size + 2 ≤ V.heap.size from by have := HWS.out; omega)
    clear hV hVs hVk hVS HI HWS
    refine wpIn_block ?_
    refine wpIn_seq_k fun K hK => ?_
    refine region_round rfl (by rintro ⟨_, _, h⟩; exact h) ?_
    go_wp2_with (first
      | (with_reducible show wpList _ _ _ (⟨_, Op.load rvT _, _, _, _, _⟩ :: _) _ _
         refine wpList_boxA_loadw rowRv _ rfl rfl J (resvA q m d r) rfl rfl XV.out ?_)
      | (go_at_call 20
         have HC := HK.out.allowed z 1 HZ.out (by unfold okI; decide) RV.out G0.out
         rw [HA.out.1] at HC
         refine HC.mono ?_; clear HC; rintro e w6 ⟨rfl, b6⟩
         have X6 := Lib.hid (XV.out.keep (b6.block _ XV.out.lt))
         have R6 := Lib.hid (RV.out.below b6)
         have B6 := Lib.hid b6
         clear b6 XV RV)
      | (with_reducible show wpList _ _ _ (⟨_, Op.load rvT _, _, _, _, _⟩ :: _) _ _
         refine wpList_boxA_loadw rowRv _ rfl rfl J (resvA q m d r) rfl rfl X6.out ?_)
      | (go_at_call 20
         have HC := HK.out.allowed z 2 HZ.out (by unfold okI; decide) R6.out G0.out
         rw [HA.out.2] at HC
         refine HC.mono ?_; clear HC; rintro e w7 ⟨rfl, b7⟩
         have B7 := Lib.hid (B6.out.trans (b7.mono B6.out.size))
         clear b7 X6 R6 B6))
    gi_wp2
    exact ⟨⟨B7.out.size, B7.out.block _ (by have := HVS.out; omega), B7.out.block _ (by have := HVS.out; omega)⟩, HV.out.trans (B7.out.mono HV.out.size)⟩
theorem laidOut : laidOutB Try.prog = true := by kernel_rfl
set_option maxRecDepth 100000 in
theorem lifted (os : Os) (started : os.Started) (H : Type) (enc : TypeId × Value → H) :
    ReturnsInHanded {} Try.checked os 6 .any (Rows.resvFairSpec.pre6 enc Try.prog Try.f6 Rows.resvFairRow.domain false) (Rows.resvFairSpec.post enc Try.prog Try.f6 false true false false) := by
  refine returnsInHanded_of_change (C := Try.checked) own started (by kernel_rfl) Try.func6
    (ChangeSpec.witness6 (enc := enc) (C := Try.checked) false ⟨#[], #[.slice none 0 0, .int .i64 0], []⟩ 8 (by kernel_rfl) (by kernel_rfl) (by kernel_rfl) (by kernel_rfl)) ?_
  intro W base args ds gs before hval0 hW hcnd _
  have hval : ∀ (j : Nat) t v, Try.f6.params[j]? = some t → args[j]? = some v → Value.okWide Try.prog W .any base t v := hval0
  have hW' := hW
  obtain ⟨p, q, hA0, hV, rfl, hfz, hnd⟩ := hW
  have hA : DataW.TrodAll enc Try.prog W 0 (fun _ => true) true Try.f6.params.toList args.toList ds p := hA0
  rw [Try.params6] at hA hval
  obtain ⟨v0, vs0, d0, ds0, p0, q0, hargs, rfl, rfl, h0, r0⟩ := trodAll_cons hA
  obtain ⟨v1, vs1, d1, ds1, p1, q1, rfl, rfl, rfl, h1, r1⟩ := trodAll_cons r0
  obtain ⟨rfl, rfl, rfl⟩ := trodAll_nil r1
  obtain rfl : args = #[v0, v1] := by cases args; simp_all
  obtain ⟨rfl, rfl⟩ := trodVars_none hV
  have k0 := h0
  have lt0 : ∀ x ∈ p0, x.block < W.heap.size := by obtain ⟨m, hm⟩ := k0; exact DataW.trod_lt m _ _ _ hm
  obtain ⟨q0, l0, c0, rfl, w0, y0, m0⟩ := open_rops (hval 0 41 v0 rfl rfl) h0
  obtain ⟨a1, rfl, rfl, rfl, w1⟩ := open_int Try.underlying3 (hval 1 3 v1 rfl rfl) h1
  clear hA0 hval0
  refine (walk resvSpec q0 l0 c0 m0 w0 a1 (okI_wf w1) W y0).mono fun e W' ⟨he, bel⟩ => ?_
  subst he
  exact ⟨_, rfl, _, _, _, [], _, [], hW', trodAll_mk1 (shut_bool Try.underlying4 _), (trodAll_cons_mk (Below.trod laidOut (by kernel_rfl) (of_decide_eq_true (by kernel_rfl)) k0 bel lt0) (trodAll_cons_mk (shut_int Try.underlying3 w1) trodAll_mk0)), rfl, bel.frame _, fun h => by cases h⟩

theorem over : Rows.resvFairRow.holds Try.pinned (OpenSpec.ofChange Rows.resvFairSpec) :=
  OpenClaim.holds_of_wide 6 Try.f6 rfl rfl rfl rfl rfl rfl rfl ⟨rfl, rfl, rfl, rfl, rfl⟩ rfl rfl rfl rfl rfl (by kernel_rfl) Try.func6 (by kernel_rfl)
    (of_decide_eq_true (by kernel_rfl)) (by unfold Func.isWrapper; first | (rw [if_pos (by decide +kernel)]; kernel_rfl) | (rw [if_neg (by decide +kernel)]; exact ⟨rfl, rfl⟩))
    (fun os started H enc _ => lifted os started H enc)

theorem proved : Rows.ResvFairSaid := over
end resvFair
end Go.Proofs.Ytfnkdmdcjliebaa
