/- The contract of the document's settle: a sector is made sure. Condition: the disk lies in memory; the sector is one. -/
import Derived.Test.YtbejfpdkfpgipaaPlRefB
import Derived.BigQuiet
namespace Go.Proofs.Ytbejfpdkfpgipaa
open Go.ChangeShapes Go.WideShapes Go.ChangeAt Go.RowKit
set_option linter.unusedVariables false
/-- One sector is made sure. -/
def Disk.sureOne (d : Disk) (k : Nat) : Disk := { d with sure := fun i => if i = k then d.now k else d.sure i, opn := fun x => if x = (k : Int) then none else d.opn x }
def Since.gone (R : Since) (k : Nat) : Since := ⟨fun i => if i = k then .slice none 0 0 else R.V i, fun i => if i = k then 0 else R.n i, R.G⟩
section
variable {o : Oper} {a : Act} {C : World → Prop} {K : Act → Prop}
theorem quiet_box (t : TypeId) (x : Operand) (ho : o.op = .load t x) (p : Addr) (v : Value) (hx : a.eval x = .pointer (some p)) (hu : ∀ w, (isAgg t).run Try.prog w = .ok false w) (hB : ∀ w, C w → w.cell? p = some v) (hk : K (a.put o.dst v)) : o.quiet Try.prog a C K :=
  quiet_value v (fun w hw => by
    have hc := hB w hw
    unfold execOp
    simp only [ho, hx]
    simp [go_sem, hc, hu]) hk
theorem quiet_nil_check (x : Operand) (ho : o.op = .nilCheck x) (p : Addr) (hx : a.eval x = .pointer (some p)) (hk : K (a.put o.dst (.pointer (some p)))) : o.quiet Try.prog a C K :=
  quiet_value _ (fun w _ => by
    unfold execOp
    simp only [ho, hx]
    simp [go_sem]) hk
theorem quiet_field (x : Operand) (k : Nat) (ho : o.op = .fieldAddr 56 x k) (hk7 : k < 7) (B : Nat) (hx : a.eval x = .pointer (some ⟨B, 0, none⟩)) (hk : K (a.put o.dst (.pointer (some ⟨B, k, none⟩)))) : o.quiet Try.prog a C K :=
  quiet_value _ (fun w _ => by
    unfold execOp
    simp only [ho, hx]
    rcases k with _ | _ | _ | _ | _ | _ | _ | k
    all_goals first | (exfalso; omega) | simp [go_sem]) hk
theorem box_secs (w : World) : (isAgg 53).run Try.prog w = .ok false w := by simp [go_sem]
theorem quiet_elem_sec (x y : Operand) (ho : o.op = .indexAddr 53 x y) (B n cap k : Nat) (hx : a.eval x = .slice (some ⟨B, 0, none⟩) n cap) (hy : a.eval y = .int .i64 k) (hk4 : k < n) (hk : K (a.put o.dst (.pointer (some ⟨B, 128 * k, none⟩)))) : o.quiet Try.prog a C K :=
  quiet_value _ (fun w _ => by
    have h0 : (k : Int) < n := by omega
    have hi := secInfo3
    cases hq : Try.prog.info? 40 with
    | none => simp [hq] at hi
    | some i =>
      have hs : i.size = 128 := by simpa [hq] using hi
      unfold execOp
      simp only [ho, hx, hy]
      simp [go_sem, Try.underlying53, h0, sizeOf, typeInfo, hq, hs, addr_add, Nat.mul_comm]) hk
end
section
variable {w : World} {r : RBlk} {base : Nat} {d : Disk} {L : Nat} {R : Since}
theorem row_set (V : Nat → Value) (ns k : Nat) (v : Value) : ((List.range ns).map V).toArray.setIfInBounds k v = ((List.range ns).map fun i => if i = k then v else V i).toArray := by
  refine Array.ext_getElem? fun j => ?_
  rw [Array.getElem?_setIfInBounds]
  by_cases hj : j < ns
  · by_cases e : k = j
    · subst e; simp [hj]
    · simp [hj, e, Ne.symm e]
  · by_cases e : k = j
    · subst e; simp [hj]
    · simp [hj, e]
/-- The sure sectors are written over. -/
theorem RefAt.sureSet (h : RefAt w r base d L R) {w' : World} {sure : Nat → List Int} (hs : SureAt w' r.sb d.ns sure) (hb : But r.sb w w') : RefAt w' r base { d with sure := sure } L R := by
  have oth : ∀ k, k < w.heap.size → k ≠ r.sb → w'.heap[k]? = w.heap[k]? := fun k hk hne => hb.same k hk hne
  exact ⟨(oth _ (h.fits (.inl rfl)) h.ne1).trans h.plat, h.left, hs, h.rows.keep (oth _ (h.fits (.inr (.inr (.inl rfl)))) h.ne4.symm) (fun k hk => oth k (h.rowLt hk).2 (fun e => by have := (h.rowLt hk).1; have := h.lt r.sb (.inr (.inl rfl)); omega)), (oth _ (h.fits (.inr (.inr (.inr rfl)))) h.ne5.symm).trans h.cnts, h.lt, h.ne1, h.ne2, h.ne3, h.ne4, h.ne5, h.ne6, h.wf, h.ns1, h.ns2, h.nc⟩
/-- What was written to a sector is forgotten. -/
theorem RefAt.forget (h : RefAt w r base d L R) (k : Nat) (hk : k < d.ns) : RefAt (w.setCell ⟨r.zb, k, none⟩ (.slice none 0 0)) r base { d with opn := fun x => if x = (k : Int) then none else d.opn x } L (R.gone k) := by
  have oth : ∀ j, j ≠ r.zb → (w.setCell ⟨r.zb, k, none⟩ (.slice none 0 0)).heap[j]? = w.heap[j]? := fun j hj => Below.heap_setCell _ _ _ j (fun e => hj e)
  have hz : ∀ j, R.own d.ns j → j ≠ r.zb := fun j hj e => by have := (h.rowLt hj).1; have := h.lt r.zb (.inr (.inr (.inl rfl))); omega
  refine ⟨(oth _ h.ne2).trans h.plat, h.left, h.sect.keep (oth _ h.ne4), ⟨?_, ?_, ?_, ?_, ?_⟩, (oth _ h.ne6.symm).trans h.cnts, h.lt, h.ne1, h.ne2, h.ne3, h.ne4, h.ne5, h.ne6, ?_, h.ns1, h.ns2, h.nc⟩
  · have := heap_setCell_same w r.zb k _ _ (.slice none 0 0) h.rows.tab
    rw [row_set] at this
    exact this
  · intro i hi
    by_cases e : i = k
    · subst e
      show World.ownsRow _ base 40 128 (if i = i then .slice none 0 0 else R.V i) (if i = i then 0 else R.n i) (bytesList ((if i = i then 0 else R.n i) * 128) (R.G i))
      rw [if_pos rfl, if_pos rfl]
      exact World.ownsRow_nil _ base _ _
    · show World.ownsRow _ base 40 128 (if i = k then .slice none 0 0 else R.V i) (if i = k then 0 else R.n i) (bytesList ((if i = k then 0 else R.n i) * 128) (R.G i))
      rw [if_neg e, if_neg e]
      exact ownsRow_keep (h.rows.row i hi) (fun g hg _ => oth g (hz g ⟨i, hi, hg⟩))
  · intro i j hi hj hij
    show (if i = k then Value.slice none 0 0 else R.V i).ownBlock = none ∨ (if i = k then Value.slice none 0 0 else R.V i).ownBlock ≠ (if j = k then Value.slice none 0 0 else R.V j).ownBlock
    by_cases e : i = k
    · rw [if_pos e]; exact .inl rfl
    · rw [if_neg e]
      by_cases e' : j = k
      · rw [if_pos e']
        cases hq : (R.V i).ownBlock with
        | none => exact .inl rfl
        | some g => exact .inr (by simp [Value.ownBlock])
      · rw [if_neg e']; exact h.rows.apart i j hi hj hij
  · intro i hi
    show (if i = k then 0 else R.n i) ≤ d.made
    split
    · exact Nat.zero_le _
    · exact h.rows.few i hi
  · intro i hi
    show (if (i : Int) = (k : Int) then none else d.opn i) = (R.gone k).last i
    by_cases e : i = k
    · subst e
      rw [if_pos rfl]
      unfold Since.last Since.gone
      simp
    · rw [if_neg (by omega), h.rows.opn i hi]
      unfold Since.last Since.gone
      simp [e]
  · intro x hx
    have hx2 : (if x = (k : Int) then none else d.opn x).isSome = true := hx
    split at hx2
    · simp at hx2
    · exact h.wf x hx2
theorem sureOne_is (d : Disk) (k : Nat) : ({ ({ d with sure := fun i => if i = k then d.now k else d.sure i } : Disk) with opn := fun x => if x = (k : Int) then none else d.opn x } : Disk) = d.sureOne k := rfl
attribute [local irreducible] mk
set_option maxRecDepth 100000 in
set_option maxHeartbeats 1000000 in
theorem rsettle_ok (h : RefAt w r base d L R) (i : Nat) (hi : i < d.ns) : Calls Try.prog 49 #[.pointer (some ⟨r.B, 0, none⟩), .int .i64 i] w fun e w' => e = .returned (.tuple #[]) ∧ RefAt w' r base (d.sureOne i) L (R.gone i) ∧ Keeps r.fix w w' := by
  obtain ⟨f, hf⟩ := ref_now_mk h hi
  have NW := Lib.hid (fun W (hb : Below w.heap.size w W) => rNow_ok (h.keep fun k hk => hb.block k (h.blkLt hk)) i hi)
  rw [hf] at NW
  have H := Lib.hid h
  have HI := Lib.hid hi
  have HF := Lib.hid hf
  have hns := h.ns2
  have c0 := h.c0
  have p1 : (i : Int) < (d.ns : Int) := by omega
  have p2 : (0 : Int) ≤ i := by omega
  have HK := Lib.hid (show 128 * i + 128 ≤ 128 * d.ns by omega)
  clear h hi hf hns
  go_enter Try.func49, Try.ntmps49
  go_wp2
  refine wp_region_class_tail 9 (fun W => Below w.heap.size w W) (by kernel_rfl) (by kernel_rfl) ((Below.refl _ _).drew) ?_
  simp only [List.take_succ_cons, List.take_zero, List.drop_succ_cons, List.drop_zero]
  iterate 9 (first
    | go_big_quiet_skip
    | (go_big_quiet_want
       first
         | (go_big_quiet_op; go_big_quiet_on)
         | ((first
             | (refine quiet_box 53 _ rfl ⟨r.B, 0, none⟩ (.slice (some ⟨r.sb, 0, none⟩) d.ns d.ns) rfl box_secs (fun w' hw => (hw.cell (p := ⟨r.B, 0, none⟩) (H.out.fits (.inl rfl))).trans c0) ?_)
             | (refine quiet_nil_check _ rfl ⟨r.B, 0, none⟩ rfl ?_)
             | (refine quiet_field _ 0 rfl (by omega) r.B rfl ?_)
             | (refine quiet_call2 _ _ _ _ rfl 53 rfl (.pointer (some ⟨r.B, 0, none⟩)) (.int .i64 i) (.agg (cellsOf .u8 (mk 128 f))) rfl rfl (fun _ w => by simp [go_sem]) (fun W hW => (NW.out W hW).mono fun e w' ⟨h1, h2⟩ => ⟨h1, hW.trans (h2.mono hW.size)⟩) ?_)
             | (refine quiet_elem_sec _ _ rfl r.sb d.ns d.ns i rfl rfl HI.out ?_)); go_simp; go_big_quiet_on)))
  refine wpQuiet_nil ?_
  intro wx hwx
  have hx : RefAt wx r base d L R := H.out.keep fun k hk => hwx.block k (H.out.blkLt hk)
  obtain ⟨F, hFF, hFs⟩ := hx.sect
  have h1 := hx.sureSet (hx.sect.store i HI.out f hFF hFs) (But.setRow r.sb wx (cellsOf .u8 (mk (128 * d.ns) (put F (128 * i) 128 f))))
  rw [← HF.out] at h1
  have k1 : (wx.setRow r.sb (cellsOf .u8 (mk (128 * d.ns) (put F (128 * i) 128 f)))).cell? ⟨r.B, 1, none⟩ = some (.slice (some ⟨r.zb, 0, none⟩) d.ns d.ns) := h1.c1
  have kf : (wx.setRow r.sb (cellsOf .u8 (mk (128 * d.ns) (put F (128 * i) 128 f)))).frozen? ⟨r.zb, i, none⟩ = false := frozen_of_row _ _ _ _ _ h1.rows.tab
  have kz := h1.slot HI.out
  have h2 := h1.forget i HI.out
  have HB := Lib.hid hFF
  have H2 := Lib.hid h2
  have HW := Lib.hid hwx
  have KK := Lib.hid ((((Keeps.of (S := r.fix) hwx).setRow (S := r.fix) (B := r.sb) (.inr (.inl rfl)) (cellsOf .u8 (mk (128 * d.ns) (put F (128 * i) 128 f))))).setCell (S := r.fix) (B := r.zb) (.inr (.inr (.inl rfl))) i (.slice none 0 0))
  clear hFF hFs h1 h2 hwx hx
  go_wp2_with (first
    | (refine wpList_store_part rfl 40 _ _ rfl rfl r.sb (128 * i) 128 (128 * d.ns) F f rfl rfl 40 HB.out HK.out secInfo3 ?_))
  go_end0
  exact ⟨rfl, sureOne_is d i ▸ H2.out, KK.out⟩
end
end Go.Proofs.Ytbejfpdkfpgipaa
