/- The contract of package platter's Tamper. Conditions: the disk lies in memory; the bytes lie in no block of the disk. -/
import Derived.Test.YtbejfpdkfpgipaaPlRead
namespace Go.Proofs.Ytbejfpdkfpgipaa
open Go.ChangeShapes Go.WideShapes Go.ChangeAt Go.RowKit
set_option linter.unusedVariables false
theorem BytesAt.keep {w w' : World} {p : Option Addr} {n : Nat} {g : Nat → Nat} (h : BytesAt w p n g) (hs : w.heap.size ≤ w'.heap.size) (hb : ∀ B o, p = some ⟨B, o, none⟩ → B < w.heap.size → w'.heap[B]? = w.heap[B]?) : BytesAt w' p n g := by
  rcases h with h | ⟨B, o, rfl, hB, hc⟩
  · exact .inl h
  · exact .inr ⟨B, o, rfl, by omega, fun j hj => (World.cell?_of_block (w := w) (w' := w') (a := ⟨B, o + j, none⟩) (hb B o rfl hB)).trans (hc j hj)⟩
theorem BytesAt.keeps {S : Nat → Prop} {w w' : World} {p : Option Addr} {n : Nat} {g : Nat → Nat} (h : BytesAt w p n g) (hk : Keeps S w w') (hS : ∀ B o, p = some ⟨B, o, none⟩ → n ≠ 0 → ¬ S B) : BytesAt w' p n g := by
  by_cases h0 : n = 0
  · exact .inl h0
  · exact h.keep hk.size fun B o e hB => hk.block B hB (hS B o e h0)
/-- A sector whose first bytes are others. -/
def tamL (n : Nat) (g : Nat → Nat) (l : List Int) : List Int := mk 128 fun j => if j < n then g j else (l.getD j 0).toNat
theorem tamL_mk (n : Nat) (g f : Nat → Nat) : tamL n g (mk 128 f) = mk 128 (put f 0 n g) := mk_ext fun j hj => by
  unfold put
  rw [mk_get hj]
  simp
def Disk.tampered (d : Disk) (i n : Nat) (g : Nat → Nat) : Disk := { d with sure := fun k => if k = i then tamL n g (d.sure k) else d.sure k, opn := fun x => if x = (i : Int) then (d.opn x).map (tamL n g) else d.opn x }
theorem SureAt.tamper {w' : World} {sb ns : Nat} {sure : Nat → List Int} {k n : Nat} {g : Nat → Nat} (hk : k < ns) (hn : n ≤ 128) {F : Nat → Nat} (hs : ∀ i, i < ns → sure i = mk 128 (fun j => F (128 * i + j)))
    (hF : IntBlk w' sb .u8 40 (mk (128 * ns) (put F (128 * k) n g))) : SureAt w' sb ns (fun i => if i = k then tamL n g (sure i) else sure i) := by
  refine ⟨_, hF, fun i hi => ?_⟩
  by_cases e : i = k
  · subst e
    simp only [if_true]
    rw [hs i hi, tamL_mk]
    exact mk_ext fun j hj => by
      unfold put
      by_cases h1 : j < n
      · rw [if_pos (by omega), if_pos (by omega)]; congr 1; omega
      · rw [if_neg (by omega), if_neg (by omega)]
  · simp only [if_neg e]
    rw [hs i hi]
    exact mk_ext fun j hj => by
      unfold put
      rw [if_neg]
      intro hh
      rcases Nat.lt_or_ge i k with h1 | h1
      · have : 128 * i + 128 ≤ 128 * k := by omega
        omega
      · have : 128 * k + 128 ≤ 128 * i := by omega
        omega
section
variable {ops : Array Oper} {rest : List Oper} {o : Oper} {a : Act} {w : World} {Q : Exit → Act → World → Prop}
theorem wpList_part_row (hgd : o.guard = none) (x : Operand) (ho : o.op = .slice 40 x none none none) (B off : Nat) (hx : a.eval x = .pointer (some ⟨B, off, none⟩))
    (h : wpList Try.prog ops Q rest (a.put o.dst (.slice (some ⟨B, off, none⟩) 128 128)) w) : wpList Try.prog ops Q (o :: rest) a w :=
  wpList_plain hgd fun K hK => by
    have hs := byteElem.run_size (P := Try.prog) w
    have hr : (Instr.sliceAt 40 (.pointer (some ⟨B, off, none⟩)) none none none).run Try.prog w = .ok (.slice (some ⟨B, off, none⟩) 128 128) w := by
      simp [go_sem, hs, addr_add, Program.elem]
    unfold Oper.wp execOp
    simp only [ho, hx]
    simp [hr]
    exact hK _ _ h
end
section
variable {w : World} {b : Blks} {d : Disk}
attribute [local irreducible] mk put
set_option maxRecDepth 100000 in
theorem Tamper_nil (w : World) (x : Int) (p : Option Addr) (n cap : Nat) : Calls Try.prog 23 #[.pointer none, .int .i64 x, .slice p n cap] w fun e w' => e = .returned (errV 1) ∧ w = w' := by
  have HH := Lib.hid (has_nil x w)
  unfold errV
  go_enter Try.func23, Try.ntmps23
  go_wp2_with (first
    | (go_at_call 44; refine (HH.out).mono ?_; rintro e w1 ⟨rfl, rfl⟩))
  go_ret
  exact ⟨rfl, rfl⟩
set_option maxRecDepth 100000 in
theorem Tamper_range (h : DiskAt w b d) (x : Int) (p : Option Addr) (n cap : Nat) (hx : hasB d.ns x = false ∨ 128 < n) : Calls Try.prog 23 #[.pointer (some ⟨b.B, 0, none⟩), .int .i64 x, .slice p n cap] w fun e w' => e = .returned (errV 1) ∧ w = w' := by
  have HH := Lib.hid (has_ok h x)
  unfold errV
  cases hq : hasB d.ns x with
  | false =>
    rw [hq] at HH
    clear h hx hq
    go_enter Try.func23, Try.ntmps23
    go_wp2_with (first
      | (go_at_call 44; refine (HH.out).mono ?_; rintro e w1 ⟨rfl, rfl⟩))
    go_ret
    exact ⟨rfl, rfl⟩
  | true =>
    rw [hq] at HH
    have hn : 128 < n := by rcases hx with h' | h'; (rw [hq] at h'; cases h'); exact h'
    have d1 : decide ((128 : Int) < (n : Int)) = true := by simp; omega
    have d2 : decide (128 < n) = true := by simp; omega
    clear h hx hq hn
    go_enter Try.func23, Try.ntmps23
    go_wp2_with (first
      | (go_at_call 44; refine (HH.out).mono ?_; rintro e w1 ⟨rfl, rfl⟩))
    go_ret
    exact ⟨rfl, rfl⟩
theorem disk_sure {w w' : World} {b : Blks} {d : Disk} (h : DiskAt w b d) {sure : Nat → List Int} (hs : SureAt w' b.sb d.ns sure) (hb : But b.sb w w') : DiskAt w' b { d with sure := sure } := by
  have oth : ∀ k, k < w.heap.size → k ≠ b.sb → w'.heap[k]? = w.heap[k]? := fun k hk hne => hb.same k hk hne
  exact ⟨(oth _ (h.lt (.inl rfl)) h.ne1).trans h.plat, hs, h.opn.keep (oth _ (h.lt (.inr (.inr (.inl rfl)))) h.neS), (oth _ (h.lt (.inr (.inr (.inr rfl)))) h.ne3.symm).trans h.cnts, h.ne1, h.ne2, h.ne3, h.wf, h.ns1, h.ns2, h.nc⟩
theorem ownsMap_tight {H : Type} {P : Program} {k : TypeId} {R : Value → Option (DataW H × List MemPlace)} {n mb : Nat} {D : DataW H} {w : World} (h : w.ownsMap P k R mb n D) : w.ownsMap P k R mb (Maps.size D) D := by
  obtain ⟨es, clock, h1, h2, h3, rfl⟩ := h
  exact ⟨es, clock, h1, h2, by simp [Maps.size, length_sorted], rfl⟩
theorem disk_same_put {w w' : World} {b : Blks} {d : Disk} (h : DiskAt w b d) {i : Nat} (g : Nat → Nat) {n : Nat} {D : DataW Value} (hr : Reads D d.opn) (hn : n ≤ d.made) (hm : w.ownsMap Try.prog 3 cellR b.mb n D) (hs : (d.opn i).isSome = true)
    (hm' : w'.ownsMap Try.prog 3 cellR b.mb (n + 1) (D.put (.int .i64 i) (.held (.agg (cellsOf .u8 (mk 128 g)))))) (ht : w.mapTurned w' b.mb) : DiskAt w' b { d with opn := setO d.opn i (some (mk 128 g)) } := by
  have oth : ∀ k, k < w.heap.size → k ≠ b.mb → w'.heap[k]? = w.heap[k]? := fun k hk hne => ht.grown.block k hk (fun e => hne (by cases e; rfl))
  have hsz : Maps.size (D.put (.int .i64 i) (.held (.agg (cellsOf .u8 (mk 128 g))))) = Maps.size D := by
    rw [Maps.size_put (hm.tidy intKey), hr.has, hs, if_pos rfl]
  exact ⟨(oth _ (h.lt (.inl rfl)) h.neB.symm).trans h.plat, h.sect.keep (oth _ (h.lt (.inr (.inl rfl))) h.neS.symm), ⟨_, _, by rw [hsz]; exact Nat.le_trans hm.size_le hn, ownsMap_tight hm', reads_put hr hm.isMap i g⟩, (oth _ (h.lt (.inr (.inr (.inr rfl)))) h.neC.symm).trans h.cnts, h.ne1, h.ne2, h.ne3,
    fun y hy => by
      have hy2 : (setO d.opn i (some (mk 128 g)) y).isSome = true := hy
      unfold setO at hy2
      by_cases e : y = (i : Int)
      · subst e; exact h.wf _ hs
      · rw [if_neg e] at hy2; exact h.wf y hy2, h.ns1, h.ns2, h.nc⟩
set_option maxRecDepth 100000 in
set_option maxHeartbeats 2000000 in
theorem Tamper_ok (h : DiskAt w b d) (i : Nat) (hi : i < d.ns) (p : Option Addr) (n cap : Nat) (hn : n ≤ 128) (g : Nat → Nat) (hp : BytesAt w p n g) (hne : ∀ D o, p = some ⟨D, o, none⟩ → n ≠ 0 → ¬ b.own D) (hm : d.made < 4611686018427387904) :
    Calls Try.prog 23 #[.pointer (some ⟨b.B, 0, none⟩), .int .i64 i, .slice p n cap] w fun e w' => e = .returned .nilIface ∧ DiskAt w' b (d.tampered i n g) ∧ Keeps b.own w w' := by
  have hns := h.ns2
  have HH := Lib.hid (has_ok h i)
  rw [show hasB d.ns (i : Int) = true by unfold hasB; simp; exact hi] at HH
  have HI := Lib.hid hi
  have HZ := Lib.hid (show -9223372036854775808 ≤ (i : Int) ∧ (i : Int) ≤ 9223372036854775807 by omega)
  have d1 : decide ((128 : Int) < (n : Int)) = false := by simp; omega
  have d2 : decide (128 < n) = false := by simp; omega
  have c4 := h.c4
  obtain ⟨F, hF, hFs⟩ := h.sect
  have HF := Lib.hid hF
  have HFS := Lib.hid hFs
  have HP := Lib.hid hp
  have HNE := Lib.hid hne
  have HN := Lib.hid hn
  have HD := Lib.hid h
  have HK := Lib.hid (show 128 * i + 128 ≤ 128 * d.ns by omega)
  have hnS := h.ne1
  clear h hi hns hF hFs hp hne hn
  cases hq : d.opn i with
  | none =>
    have HQ := Lib.hid hq
    have HE := Lib.hid (show d.tampered i n g = { d with sure := fun k => if k = i then tamL n g (d.sure k) else d.sure k } from by
      unfold Disk.tampered
      congr 1
      funext x
      by_cases e : x = (i : Int)
      · subst e; rw [if_pos rfl, hq]; rfl
      · rw [if_neg e])
    clear hq hm
    go_enter Try.func23, Try.ntmps23
    go_wp2_with (first
      | (go_at_call 44; refine (HH.out).mono ?_; rintro e w1 ⟨rfl, rfl⟩)
      | (refine wpList_elem_sec rfl _ _ rfl b.sb d.ns d.ns i rfl rfl HI.out ?_)
      | (refine wpList_part_row rfl _ rfl b.sb (128 * i) rfl ?_)
      | (refine wpList_copy_bytes rfl _ _ rfl b.sb (128 * i) 128 128 (128 * d.ns) F _ rfl p n cap (fun _ => rfl) g rfl 40 HF.out HN.out HK.out HP.out ?_
         intro v w2 hr2 hb2 hs2
         have S2 := SureAt.tamper HI.out HN.out HFS.out hr2
         have D2 := Lib.hid (disk_sure HD.out S2 hb2)
         have K2 := Lib.hid ((Keeps.refl b.own w).but hb2 (.inr (.inl rfl)))
         have c5 := D2.out.c5
         have O2 := Lib.hid D2.out.opn
         clear hr2 hb2 hs2 S2 c4)
      | (refine wpList_look_open rfl _ _ rfl b.mb _ _ rfl i rfl HZ.out O2.out ?_
         rw [HQ.out]
         simp only [Option.getD_none, Option.isSome_none])
      | (refine wpList_sec_alloc rfl rfl w2.heap.size rfl ?_)
      | (refine store_row_on rfl 40 _ _ rfl rfl w2.heap.size (cellsOf .u8 (mk 128 zeroK)) rfl rfl 40 (cellsOf .u8 (mk 128 zeroK)) (heap_alloc_new _ _) (secSize _) (sec_same _ _) (cellsOf_one _ _) ?_))
    go_ret
    rw [HE.out]
    have L := sec_laid w2 zeroK
    exact ⟨rfl, D2.out.below L.2, K2.out.trans (.of L.2)⟩
  | some l =>
    obtain ⟨f, rfl⟩ : ∃ f : Nat → Nat, l = mk 128 f := by
      obtain ⟨n, D, _, _, hr⟩ := HD.out.opn
      exact (hr.val i l hq).1
    have HQ := Lib.hid hq
    have HM := Lib.hid hm
    clear hq hm
    go_enter Try.func23, Try.ntmps23
    go_wp2_with (first
      | (go_at_call 44; refine (HH.out).mono ?_; rintro e w1 ⟨rfl, rfl⟩)
      | (refine wpList_elem_sec rfl _ _ rfl b.sb d.ns d.ns i rfl rfl HI.out ?_)
      | (refine wpList_part_row rfl _ rfl b.sb (128 * i) rfl ?_)
      | (refine wpList_copy_bytes rfl _ _ rfl b.sb (128 * i) 128 128 (128 * d.ns) F _ rfl p n cap (fun _ => rfl) g rfl 40 HF.out HN.out HK.out HP.out ?_
         intro v w2 hr2 hb2 hs2
         have S2 := SureAt.tamper HI.out HN.out HFS.out hr2
         have D2 := Lib.hid (disk_sure HD.out S2 hb2)
         have K2 := Lib.hid ((Keeps.refl b.own w).but hb2 (.inr (.inl rfl)))
         have c5 := D2.out.c5
         have O2 := Lib.hid D2.out.opn
         clear hr2 hb2 hs2 S2 c4)
      | (refine wpList_look_open rfl _ _ rfl b.mb _ _ rfl i rfl HZ.out O2.out ?_
         rw [HQ.out]
         simp only [Option.getD_some, Option.isSome_some])
      | (refine wpList_sec_alloc rfl rfl w2.heap.size rfl ?_)
      | (refine store_row_on rfl 40 _ _ rfl rfl w2.heap.size (cellsOf .u8 (mk 128 f)) rfl rfl 40 (cellsOf .u8 (mk 128 zeroK)) (heap_alloc_new _ _) (secSize _) (sec_same _ _) (cellsOf_one _ _) ?_
         have L3 := Lib.hid (sec_laid w2 f)
         generalize (w2.alloc (.cells (cellsOf .u8 (mk 128 zeroK)) 40)).setRow w2.heap.size (cellsOf .u8 (mk 128 f)) = w3 at *
         have P3 := Lib.hid ((HP.out.keeps K2.out HNE.out).below L3.out.2))
      | (refine wpList_part_row rfl _ rfl w2.heap.size 0 rfl ?_)
      | (refine wpList_copy_bytes rfl _ _ rfl w2.heap.size 0 128 128 128 f _ rfl p n cap (fun _ => rfl) g rfl 40 L3.out.1 HN.out (Nat.le_refl _) P3.out ?_
         intro v2 w4 hr4 hb4 hs4
         have NB := Lib.hid (show ∀ k, b.own k → k ≠ w2.heap.size from fun k hk e => absurd (D2.out.lt hk) (by rw [e]; exact Nat.lt_irrefl _))
         have K24 := Lib.hid ((Keeps.of L3.out.2 : Keeps (fun k => k = w2.heap.size) w2 w3).but hb4 rfl)
         have D4 := Lib.hid (D2.out.keeps K24.out NB.out)
         have K4 := Lib.hid (K2.out.trans (⟨K24.out.os, K24.out.tape, K24.out.output, K24.out.size, fun k hk _ => K24.out.block k hk (Nat.ne_of_lt hk)⟩ : Keeps b.own w2 w4))
         have R4 := Lib.hid hr4
         have c5' := D4.out.c5
         clear hr4 hb4 hs4 c5 L3 P3))
    obtain ⟨m, D, hm, hown, hr⟩ := D4.out.opn
    have HO := Lib.hid hown
    have HR := Lib.hid hr
    have HMM := Lib.hid (Nat.le_trans hm (Nat.le_refl d.made))
    have hmax : m < maxLen := by have := HM.out; have := HMM.out; unfold maxLen; omega
    have c5 := c5'
    clear hm hown hr c5'
    refine wp_region_still_tail 6 (by kernel_rfl) (by kernel_rfl) ?_
    simp only [List.take_succ_cons, List.take_zero, List.drop_succ_cons, List.drop_zero]
    change wpStill _ _ w4.drew (fun a' => wpList _ _ _ _ a' w4.drew) _ _
    iterate 5 still_step
    refine still_row rfl _ _ rfl w2.heap.size (cellsOf .u8 (mk 128 (put f 0 n g))) _ _ rfl R4.out _ secUnder rfl (secSize _) ?_
    refine wpStill_nil ?_
    refine wpList_mapUpdate_in _ rfl _ _ _ 86 rfl 3 40 intKey Try.underlying86 cellR b.mb m D rfl HO.out.drew hmax _ _ (.int .i64 i) rfl rfl (key_i64 _ HZ.out.1 HZ.out.2) _ [] (cellR_mk (put f 0 n g)) ?_
    intro w5 hown5 hturn5
    have Z := Lib.hid (disk_same_put (D4.out.drew) (put f 0 n g) HR.out HMM.out HO.out.drew (by show (d.opn i).isSome = true; rw [HQ.out]; rfl) hown5 hturn5)
    have K5 := Lib.hid ((K4.out.drew).grown hturn5.grown (fun k hk => .inr (.inr (.inl (by cases hk; rfl)))))
    have HE := Lib.hid (show d.tampered i n g = { d with sure := fun k => if k = i then tamL n g (d.sure k) else d.sure k, opn := setO d.opn i (some (mk 128 (put f 0 n g))) } from by
      unfold Disk.tampered setO
      congr 1
      funext x
      by_cases e : x = (i : Int)
      · subst e; rw [if_pos rfl, if_pos rfl, HQ.out, ← tamL_mk]; rfl
      · rw [if_neg e, if_neg e])
    clear hown5 hturn5
    go_wp2
    go_ret
    rw [HE.out]
    exact ⟨rfl, Z.out, K5.out⟩
end
end Go.Proofs.Ytbejfpdkfpgipaa
