/- The contract of citadellaw10.puts: rows as puts. Condition: there are at most 1000. -/
import Derived.Test.YtdeojhcfbiekmaaDoorRdGives
import Derived.Test.YtdeojhcfbiekmaaDoorRdArgs
import Derived.Test.YtdeojhcfbiekmaaDoorPlCell
namespace Go.Proofs.YtdeojhcfbiekmaaDoor
open Go.ChangeShapes Go.WideShapes Go.ChangeAt Go.RowKit
set_option linter.unusedVariables false
def putR (r : RowOf) : PutOf := ⟨r.at', mk 128 (cellF r.b.n r.b.g)⟩
def putsL (l : List RowOf) : List PutOf := l.map putR
theorem putsL_len (l : List RowOf) : (putsL l).length = l.length := by simp [putsL]
theorem putR_ok {W : World} {r : RowOf} (h : RowOk W r) : (putR r).ok := isSec_mk fun i _ => by
  unfold cellF
  split
  · decide
  · exact h.lt _ (Nat.mod_lt _ (by omega))
theorem row_sec {W : World} {r : RowOf} (h : RowOk W r) : mk 128 (cellF r.b.n r.b.g) = mk 128 (natF (mk 128 (cellF r.b.n r.b.g))) := (show IsSec (mk 128 (cellF r.b.n r.b.g)) from putR_ok h).mk'.symm
theorem putR_is (r : RowOf) : putR r = ⟨r.at', mk 128 (cellF r.b.n r.b.g)⟩ := rfl
theorem putsL_next (l : List RowOf) {k : Nat} (h : k < l.length) : putsL (l.take (k + 1)) = putsL (l.take k) ++ [putR l[k]] := by
  unfold putsL; rw [List.take_add_one, List.getElem?_eq_getElem h, Option.toList_some, List.map_append, List.map_singleton]
theorem putsL_zero (l : List RowOf) : putsL (l.take 0) = [] := rfl
theorem putsL_ok {W : World} {q : Option Addr} {l : List RowOf} (h : RowsIn W q l) : ∀ p ∈ putsL l, p.ok := fun p hp => by
  obtain ⟨r, hr, rfl⟩ := List.mem_map.1 hp
  exact putR_ok (h.ok r hr)
theorem putsL_ats {W : World} {q : Option Addr} {l : List RowOf} (h : RowsIn W q l) : AtsOk (putsL l) := fun p hp => by
  obtain ⟨r, hr, rfl⟩ := List.mem_map.1 hp
  exact bounds_i64 (h.ok r hr).wf
def rowZ : Array Value := #[.int .i64 0, .slice none 0 0]
theorem rowZ_run (W : World) : (zeroValue 72).run Tryd.prog W = .ok (.agg rowZ) W := by
  have h : (Tryd.prog.info? 72).bind (·.zero) = some (.agg rowZ) := by kernel_rfl
  cases hq : Tryd.prog.info? 72 with
  | none => rw [hq] at h; simp at h
  | some i =>
    rw [hq] at h
    simp only [Option.bind_some] at h
    simp [zeroValue, typeInfo, hq, h]
theorem rowSize (r : RowOf) : (Tryd.prog.info? 72).map (·.size) = some (rowC r).length := by
  show _ = some 2
  kernel_rfl
theorem rowC_one (r : RowOf) : (rowC r).toArray.all (·.oneCell') = true := by simp [rowC, Value.oneCell']
theorem rowBox_new (W : World) (r : RowOf) : ((W.alloc (.cells rowZ 72)).setRow W.heap.size (rowC r).toArray).heap[W.heap.size]? = some (.cells (rowC r).toArray 72 (0, 0)) :=
  setRow_heap _ _ _ _ _ (0, 0) (heap_alloc_new W (.cells rowZ 72))
section
variable {ops : Array Oper} {rest : List Oper} {o : Oper} {a : Act} {w : World} {Q : Exit → Act → World → Prop}
theorem wpList_row_alloc (hw : Region.wanted o (yielded ops a.tmps) = true) (ho : o.op = .alloc 72) (h : wpList Tryd.prog ops Q rest (a.put o.dst (.pointer (some ⟨w.heap.size, 0, none⟩))) (w.alloc (.cells rowZ 72))) : wpList Tryd.prog ops Q (o :: rest) a w :=
  wanted_step hw fun K hK => by
    have e := rowZ_run w
    unfold Oper.wp execOp
    simp only [ho]
    simp [go_sem, e]
    exact hK _ _ h
theorem wpList_row_load (hgd : o.guard = none) (x : Operand) (ho : o.op = .load 72 x) (B off : Nat) (hx : a.eval x = .pointer (some ⟨B, off, none⟩)) (r : RowOf) (hc : w.rangeAt B off (rowC r)) (h : wpList Tryd.prog ops Q rest (a.put o.dst (.agg (rowC r).toArray)) w) : wpList Tryd.prog ops Q (o :: rest) a w :=
  wpList_load_mid hgd _ x ho B off hx (rowC r) _ hc Tryd.underlying72 rfl (rowSize r) h
theorem wpList_row_elem (hgd : o.guard = none) (x y : Operand) (ho : o.op = .indexAddr 23 x y) (B off n cap k : Nat) (hx : a.eval x = .slice (some ⟨B, off, none⟩) n cap) (hy : a.eval y = .int .i64 k) (hk : k < n) (h : wpList Tryd.prog ops Q rest (a.put o.dst (.pointer (some ⟨B, off + 2 * k, none⟩))) w) : wpList Tryd.prog ops Q (o :: rest) a w :=
  wpList_plain hgd fun K hK => by
    have h0 : (k : Int) < n := by omega
    have hi : (Tryd.prog.info? 72).map (·.size) = some 2 := by kernel_rfl
    cases hq : Tryd.prog.info? 72 with
    | none => simp [hq] at hi
    | some i =>
      have hs : i.size = 2 := by simpa [hq] using hi
      have hr : (execOp a.eval o).run Tryd.prog w = .ok (.value (.pointer (some ⟨B, off + 2 * k, none⟩))) w := by
        unfold execOp
        simp only [ho, hx, hy]
        simp [go_sem, Tryd.underlying23, h0, sizeOf, typeInfo, hq, hs, addr_add, Nat.mul_comm]
      unfold Oper.wp
      rw [hr]
      exact hK _ _ h
end
attribute [local irreducible] putC natF cellF putR mk
set_option maxRecDepth 100000 in
set_option maxHeartbeats 4000000 in
theorem puts_any (q : Option Addr) (cap : Nat) (l : List RowOf) (hn : l.length ≤ 1000) (w : World) (hp : RowsIn w q l) :
    Calls Tryd.prog 10 #[.slice q l.length cap] w fun e w' => ∃ v, e = .returned v ∧ OwnL 57 129 putC w' w.heap.size w'.heap.size v (putsL l) ∧ Below w.heap.size w w' := by
  have HP := Lib.hid hp
  have HN := Lib.hid hn
  have O0 := Lib.hid (OwnL.empty 57 129 putC w w.heap.size (Nat.le_refl _))
  have B0 := Lib.hid ((Below.refl _ w).alloc (Nat.le_refl _) (.cells #[] 57))
  have S0 := Lib.hid (show (w.alloc (.cells #[] 57)).heap.size = w.heap.size + 1 by simp)
  clear hp hn
  generalize hL : l.length = n at *
  go_enter Tryd.func10, Tryd.ntmps10
  go_wp2_with (refine wpList_list0 elemPut rfl rfl ?_)
  generalize hC0 : w.heap.size = C0 at *
  generalize w.alloc (.cells #[] 57) = w1 at *
  go_loopw [9, 3] (fun v9 v3 wr => ∃ k : Nat, k ≤ n ∧ v9 = .int .i64 k ∧ OwnL 57 129 putC wr C0 wr.heap.size v3 (putsL (l.take k)) ∧ Below C0 w wr) (fun v9 _ _ => n - (intOf v9).toNat)
  case atStart => exact ⟨0, Nat.zero_le _, rfl, by rw [putsL_zero, S0.out]; exact O0.out, B0.out⟩
  case round =>
    obtain ⟨k, hk, rfl, ho, hb⟩ := hrel
    by_cases hlt : k < n
    · have hkl : k < l.length := by omega
      have hrk := HP.out.ok _ (List.getElem_mem hkl)
      have hnx := putsL_next l hkl
      have hrow : ∃ B o, q = some ⟨B, o, none⟩ ∧ B < w.heap.size ∧ w.rangeAt B (o + 2 * k) (rowC l[k]) := by
        rcases HP.out.rows with he | ⟨B, o, h1, h2, h3⟩
        · rw [he] at hkl; exact absurd hkl (Nat.not_lt_zero _)
        · exact ⟨B, o, h1, h2, h3 k _ (List.getElem?_eq_getElem hkl)⟩
      obtain ⟨B, o, rfl, hB, hr⟩ := hrow
      generalize l[k] = r at *
      have HR := Lib.hid (rangeAt_below hr hb (by rw [← hC0]; exact hB))
      have HBY := Lib.hid (fun W (h : Below wr.heap.size wr W) => ((hrk.bytes.below (by rw [hC0]; exact hb)).below h))
      have HS := Lib.hid (row_sec hrk)
      have HPR := Lib.hid (putR_is r)
      have f1 : (k : Int) < (n : Int) := by omega
      have f2 : (0 : Int) ≤ k := by omega
      have f3 : IntKind.i64.wrap ((k : Int) + 1) = ((k + 1 : Nat) : Int) := by have := HN.out; rw [IntWalk.i64_in _ (by omega)]; omega
      have HLT := Lib.hid hlt
      have HO := Lib.hid ho
      have HB := Lib.hid hb
      have HNX := Lib.hid hnx
      have HLE := Lib.hid (show (putsL (l.take k)).length ≤ 1000 by rw [putsL_len, List.length_take]; have := HN.out; omega)
      have HC0 := Lib.hid (show C0 ≤ wr.heap.size by have := hb.size; omega)
      have RB := Lib.hid (rowBox_new wr r)
      have BO := Lib.hid (show Below wr.heap.size wr ((wr.alloc (.cells rowZ 72)).setRow wr.heap.size (rowC r).toArray) from below_setRow ((Below.refl _ wr).alloc (Nat.le_refl _) _) (Nat.le_refl _) _)
      clear hlt ho hb hnx hrk hB hr hkl B0 O0
      generalize putsL (l.take k) = m at *
      generalize putR r = c at *
      go_wp2_with (first
        | (refine wpList_row_elem rfl _ _ rfl B o n cap k rfl rfl HLT.out ?_)
        | (refine wpList_row_load rfl _ rfl B (o + 2 * k) rfl r HR.out ?_)
        | (refine wpList_row_alloc rfl rfl ?_)
        | (refine store_row_on rfl 72 _ _ rfl rfl wr.heap.size (rowC r).toArray rfl rfl 72 rowZ (heap_alloc_new _ _) (by rw [List.size_toArray]; exact rowSize r) rfl (rowC_one r) ?_
           generalize hW : (wr.alloc (.cells rowZ 72)).setRow wr.heap.size (rowC r).toArray = wb at *
           have HWO := Lib.hid hW))
      have O1 := Lib.hid (HO.out.below (Nat.le_refl _) BO.out)
      have OT := Lib.hid (show ∀ B, u3.ownBlock = some B → B < wr.heap.size from HO.out.blockTop)
      have B1 := Lib.hid (HB.out.trans (BO.out.mono HC0.out))
      have S1 := Lib.hid (show wr.heap.size < wb.heap.size from (Array.getElem?_eq_some_iff.1 RB.out).1)
      have BW := Lib.hid (HBY.out wb BO.out)
      have k0 : wb.drew.cell? ⟨wr.heap.size, 0, none⟩ = some (.int .i64 r.at') ∧ wb.drew.cell? ⟨wr.heap.size, 1, none⟩ = some (.slice r.b.p r.b.n r.b.c) :=
        ⟨cell_of_row wb.drew _ _ _ _ _ RB.out, cell_of_row wb.drew _ _ _ _ _ RB.out⟩
      refine wp_region_sched [(0, true), (1, true), (2, true), (3, true), (4, true), (5, false), (6, true), (7, false), (8, false), (9, true)] (fun W => W.cell? ⟨wr.heap.size, 0, none⟩ = some (.int .i64 r.at') ∧ W.cell? ⟨wr.heap.size, 1, none⟩ = some (.slice r.b.p r.b.n r.b.c)) (by kernel_rfl) (by kernel_rfl) k0 ?_
      iterate 5 (
        refine walk_float rfl rfl (fun K hK => ?_)
        first
          | (refine gives_move _ rfl ?_)
          | (refine gives_rowfield _ 0 rfl (by decide) wr.heap.size 0 rfl ?_)
          | (refine gives_rowfield _ 1 rfl (by decide) wr.heap.size 0 rfl ?_)
          | (refine gives_cell 3 _ rfl ⟨wr.heap.size, 0, none⟩ (.int .i64 r.at') rfl box_int (fun w h => h.1) ?_)
          | (refine gives_cell 22 _ rfl ⟨wr.heap.size, 1, none⟩ (.slice r.b.p r.b.n r.b.c) rfl box_bytes (fun w h => h.2) ?_)
        go_simp
        refine hK _ ?_
        clear hK K)
      refine walk_done rfl rfl (fun K hK => ?_)
      refine done_enter1 _ _ _ rfl 28 rfl (fun _ w => by simp [go_sem]) (.slice r.b.p r.b.n r.b.c) rfl _ (Cell_any r.b.p r.b.n r.b.c r.b.g wb.drew BW.out) (fun e w2 h2 => ?_)
      obtain ⟨rfl, hb2⟩ := h2
      have c2 : Below wb.heap.size wb w2 := ((Below.refl _ wb).drew).trans hb2
      have k2 : w2.cell? ⟨wr.heap.size, 0, none⟩ = some (.int .i64 r.at') ∧ w2.cell? ⟨wr.heap.size, 1, none⟩ = some (.slice r.b.p r.b.n r.b.c) :=
        ⟨(hb2.cell (p := ⟨wr.heap.size, 0, none⟩) S1.out).trans k0.1, (hb2.cell (p := ⟨wr.heap.size, 1, none⟩) S1.out).trans k0.2⟩
      refine ⟨_, rfl, k2, ?_⟩
      go_simp
      refine hK _ _ ?_
      clear hK K hb2 k0
      refine walk_float rfl rfl (fun K hK => ?_)
      refine gives_build2 _ _ rfl r.at' (cellF r.b.n r.b.g) (mk 128 (cellF r.b.n r.b.g)) HS.out rfl rfl ?_
      go_simp
      refine hK _ ?_
      clear hK K
      rw [← HPR.out]
      refine walk_done rfl rfl (fun K hK => ?_)
      refine done_put1 _ rfl c rfl ?_
      have c3 : Below w2.heap.size w2 (w2.alloc (.cells (putC c).toArray 57)) := (Below.refl _ w2).alloc (Nat.le_refl _) _
      have k3 : (w2.alloc (.cells (putC c).toArray 57)).cell? ⟨wr.heap.size, 0, none⟩ = some (.int .i64 r.at') ∧ (w2.alloc (.cells (putC c).toArray 57)).cell? ⟨wr.heap.size, 1, none⟩ = some (.slice r.b.p r.b.n r.b.c) :=
        ⟨(c3.cell (p := ⟨wr.heap.size, 0, none⟩) (show wr.heap.size < w2.heap.size from by have := S1.out; have := c2.size; omega)).trans k2.1, (c3.cell (p := ⟨wr.heap.size, 1, none⟩) (show wr.heap.size < w2.heap.size from by have := S1.out; have := c2.size; omega)).trans k2.2⟩
      refine ⟨k3, ?_⟩
      go_simp
      refine hK _ _ ?_
      clear hK K
      refine walk_done rfl rfl (fun K hK => ?_)
      have c4 := c2.trans (c3.mono c2.size)
      refine done_append_list elemPut _ _ rfl C0 wr.heap.size u3 m [c] (some ⟨w2.heap.size, 0, none⟩) 1 1 rfl rfl rfl (O1.out.below (Nat.le_of_lt S1.out) c4) (rows_one w2 c) (by have := HLE.out; simp; omega) (by decide) (by have := HC0.out; have := S1.out; have := c4.size; omega) (fun v5 w5 ho5 hg5 hr5 => ?_)
      have hne : some wr.heap.size ≠ u3.ownBlock := fun e => by have := OT.out _ e.symm; omega
      refine ⟨⟨hg5.cell k3.1 hne, hg5.cell k3.2 hne⟩, ?_⟩
      go_simp
      refine hK _ _ ?_
      clear hK K
      refine walk_float rfl rfl (fun K hK => ?_)
      refine gives_assign _ rfl ?_
      go_simp
      refine hK _ ?_
      clear hK K
      refine walk_nil ?_
      have O5 := Lib.hid ho5
      have B5 := Lib.hid (show Below C0 w w5 from (B1.out.trans (c4.mono (by have := HC0.out; have := S1.out; omega))).trans (below_own1 hg5 HO.out.block (by have := HC0.out; have := S1.out; have := c4.size; omega)))
      clear ho5 hg5 hr5 hne c4 c3 k3 c2 k2
      go_wp2
      go_roundw
      case rel => exact ⟨k + 1, HLT.out, by go_num, by rw [HNX.out]; exact O5.out, B5.out⟩
      case measure => have := HLT.out; simp [intOf]; omega
    · have f1 : ¬ (k : Int) < (n : Int) := by omega
      obtain rfl : k = n := by omega
      have HO := Lib.hid ho
      have HB := Lib.hid hb
      rw [List.take_of_length_le (Nat.le_of_eq hL)] at HO
      clear hlt hk ho hb
      go_wp2
      go_ret
      exact ⟨_, rfl, HO.out, HB.out⟩
end Go.Proofs.YtdeojhcfbiekmaaDoor
