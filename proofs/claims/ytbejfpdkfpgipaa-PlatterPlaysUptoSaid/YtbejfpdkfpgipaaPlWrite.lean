/- The contract of package platter's Write. Conditions: the disk lies in memory; less than 2^62 steps were made. -/
import Derived.Test.YtbejfpdkfpgipaaPlFuse
namespace Go.Proofs.Ytbejfpdkfpgipaa
open Go.ChangeShapes Go.WideShapes Go.ChangeAt Go.RowKit
set_option linter.unusedVariables false
theorem intKey : Go.Maps.Keyed Try.prog 3 := Go.Maps.int_keyed Try.underlying3
theorem wf_i64 (x : Int) (h1 : -9223372036854775808 ≤ x) (h2 : x ≤ 9223372036854775807) : (Lit.int .i64 x).wf = true := WalkArith.wf_i64 (by omega)
theorem key_i64 (x : Int) (h1 : -9223372036854775808 ≤ x) (h2 : x ≤ 9223372036854775807) : keyOf Try.prog 3 (.int .i64 x) = some (.int .i64 x) := Go.Maps.keyOf_int_mk Try.underlying3 (wf_i64 x h1 h2)
theorem still_row {P : Program} {ops : Array Oper} {w : World} {Q : Act → Prop} {a : Act} {o : Oper} {rest : List Oper} (hw : Region.wanted o (yielded ops a.tmps) = true) (ty : TypeId) (x : Operand) (ho : o.op = .load ty x) (B : Nat) (cs : Array Value) (t : TypeId) (fr : Nat × Nat) (hx : a.eval x = .pointer (some ⟨B, 0, none⟩)) (hB : w.heap[B]? = some (.cells cs t fr))
    (d : TypeDesc) (hu : P.underlying ty = some d) (hd : (match d with | .struct _ | .array _ _ => true | _ => false) = true) (hi : (P.info? ty).map (·.size) = some cs.size) (h : wpStill P ops w Q rest (a.put o.dst (.agg cs))) : wpStill P ops w Q (o :: rest) a :=
  wpStill_step fun K hK => by
    rw [if_pos hw]
    unfold Oper.still execOp
    simp only [ho, hx, Instr.loadAt, Instr.sureAddr, Sem.run_bind, Sem.run_pure, Result.andThen_ok, run_loadVar_row w B t ty cs fr d hB hu hd hi]
    exact ⟨rfl, hK _ h⟩
section
variable {w : World} {b : Blks} {d : Disk}
def Disk.wrote (d : Disk) (x : Int) (l : List Int) : Disk := { d.went with opn := setO d.opn x (some l) }
theorem disk_put {w : World} {b : Blks} {d d1 : Disk} (h : DiskAt w b d1) (x : Int) (g : Nat → Nat) (hx : 0 ≤ x ∧ x < d1.ns) (hd : d1 = d.went) {n : Nat} {D : DataW Value} (hr : Reads D d1.opn) (hn : n ≤ d.made) (hm : w.ownsMap Try.prog 3 cellR b.mb n D) {w' : World}
    (hm' : w'.ownsMap Try.prog 3 cellR b.mb (n + 1) (D.put (.int .i64 x) (.held (.agg (cellsOf .u8 (mk 128 g)))))) (ht : w.mapTurned w' b.mb) : DiskAt w' b (d.wrote x (mk 128 g)) := by
  have oth : ∀ k, k < w.heap.size → k ≠ b.mb → w'.heap[k]? = w.heap[k]? := fun k hk hne => ht.grown.block k hk (fun e => hne (by cases e; rfl))
  subst hd
  exact ⟨(oth _ (h.lt (.inl rfl)) h.neB.symm).trans h.plat, h.sect.keep (oth _ (h.lt (.inr (.inl rfl))) h.neS.symm), ⟨n + 1, _, by show n + 1 ≤ d.made + 1; omega, hm', reads_put hr hm.isMap x g⟩, (oth _ (h.lt (.inr (.inr (.inr rfl)))) h.neC.symm).trans h.cnts, h.ne1, h.ne2, h.ne3,
    fun y hy => by
      have hy2 : (setO d.opn x (some (mk 128 g)) y).isSome = true := hy
      unfold setO at hy2
      by_cases e : y = x
      · subst e; exact hx
      · rw [if_neg e] at hy2; exact h.wf y hy2, h.ns1, h.ns2, h.nc⟩
attribute [local irreducible] mk
set_option maxRecDepth 100000 in
set_option maxHeartbeats 1000000 in
theorem Write_range (h : DiskAt w b d) (x : Int) (hx : hasB d.ns x = false) (g : Nat → Nat) : Calls Try.prog 15 #[.pointer (some ⟨b.B, 0, none⟩), .int .i64 x, .agg (cellsOf .u8 (mk 128 g))] w fun e w' => e = .returned (errV 1) ∧ DiskAt w' b d ∧ Below w.heap.size w w' := by
  have HD := Lib.hid (h.alloc (.cells (cellsOf .u8 (mk 128 g)) 40))
  have HB := Lib.hid ((Below.refl _ w).alloc (Nat.le_refl _) (.cells (cellsOf .u8 (mk 128 g)) 40))
  have HH := Lib.hid (has_ok HD.out x)
  rw [hx] at HH
  unfold errV
  clear h hx
  go_enter Try.func15, Try.ntmps15
  go_wp2_with (first
    | (go_at_call 44; refine (HH.out).mono ?_; rintro e w1 ⟨rfl, rfl⟩))
  go_ret
  exact ⟨rfl, HD.out, HB.out⟩
set_option maxRecDepth 100000 in
set_option maxHeartbeats 1000000 in
theorem Write_down (h : DiskAt w b d) (x : Int) (hx : hasB d.ns x = true) (hg : d.gone = true) (g : Nat → Nat) : Calls Try.prog 15 #[.pointer (some ⟨b.B, 0, none⟩), .int .i64 x, .agg (cellsOf .u8 (mk 128 g))] w fun e w' => e = .returned (errV 5) ∧ DiskAt w' b d.fell ∧ Keeps b.own w w' := by
  have HD := Lib.hid (h.alloc (.cells (cellsOf .u8 (mk 128 g)) 40))
  have HK := Lib.hid ((Keeps.refl b.own w).alloc (.cells (cellsOf .u8 (mk 128 g)) 40))
  have HH := Lib.hid (has_ok HD.out x)
  rw [hx] at HH
  have HS := Lib.hid (step_down HD.out hg)
  unfold errV at HS ⊢
  clear h hx
  go_enter Try.func15, Try.ntmps15
  go_wp2_with (first
    | (go_at_call 44; refine (HH.out).mono ?_; rintro e w1 ⟨rfl, rfl⟩)
    | (go_at_call 45; refine (HS.out).mono ?_; rintro e w1 ⟨rfl, h1, h2, h3⟩))
  go_ret
  exact ⟨rfl, h1, HK.out.trans (h2.mono fun k _ e => .inl e)⟩
set_option maxRecDepth 100000 in
set_option maxHeartbeats 1000000 in
theorem Write_on (h : DiskAt w b d) (x : Int) (hx : hasB d.ns x = true) (hg : d.gone = false) (hm : d.made < 4611686018427387904) (hl : d.left < 9223372036854775808) (g : Nat → Nat) :
    Calls Try.prog 15 #[.pointer (some ⟨b.B, 0, none⟩), .int .i64 x, .agg (cellsOf .u8 (mk 128 g))] w fun e w' => e = .returned .nilIface ∧ DiskAt w' b (d.wrote x (mk 128 g)) ∧ Keeps b.own w w' := by
  have HD := Lib.hid (h.alloc (.cells (cellsOf .u8 (mk 128 g)) 40))
  have HK := Lib.hid ((Keeps.refl b.own w).alloc (.cells (cellsOf .u8 (mk 128 g)) 40))
  have HX := Lib.hid (IntBlk.new w .u8 40 (mk 128 g))
  have HH := Lib.hid (has_ok HD.out x)
  have hx2 : 0 ≤ x ∧ x < d.ns := by unfold hasB at hx; simpa using hx
  have hns := h.ns2
  have HNE := Lib.hid (show ¬ b.own w.heap.size from fun e => absurd (h.lt e) (Nat.lt_irrefl _))
  rw [hx] at HH
  have HS := Lib.hid (step_on HD.out hg hm hl)
  have HKY := Lib.hid (key_i64 x (by omega) (by omega))
  have HX2 := Lib.hid hx2
  have HM := Lib.hid hm
  clear h hx hm hl hg hx2 hns
  go_enter Try.func15, Try.ntmps15
  go_wp2_with (first
    | (go_at_call 44; refine (HH.out).mono ?_; rintro e w1 ⟨rfl, rfl⟩)
    | (go_at_call 45; refine (HS.out).mono ?_; rintro e w1 ⟨rfl, h1, h2, h3⟩))
  have Y := Lib.hid (h2.blk HX.out (fun e => HNE.out (.inl e)))
  have c5 := h1.c5
  have H1 := Lib.hid h1
  have H2 := Lib.hid (HK.out.trans (h2.mono fun k _ e => .inl e))
  obtain ⟨n, D, hn, hm, hr⟩ := HD.out.opn
  have HO := Lib.hid (ownsMap_keep hm (h2.block _ hm.lt HD.out.neB))
  have HR := Lib.hid hr
  have hn2 := hn
  have hmax : n < maxLen := by have := HM.out; unfold maxLen; omega
  clear h1 h2 hm hr HS HH h3
  refine wp_region_still_tail 6 (by kernel_rfl) (by kernel_rfl) ?_
  simp only [List.take_succ_cons, List.take_zero, List.drop_succ_cons, List.drop_zero]
  change wpStill _ _ w1.drew (fun a' => wpList _ _ _ _ a' w1.drew) _ _
  iterate 5 still_step
  refine still_row rfl _ _ rfl w.heap.size (cellsOf .u8 (mk 128 g)) _ _ rfl Y.out _ secUnder rfl (secSize g) ?_
  refine wpStill_nil ?_
  refine wpList_mapUpdate_in _ rfl _ _ _ 86 rfl 3 40 intKey Try.underlying86 cellR b.mb n D rfl HO.out.drew hmax _ _ (.int .i64 x) rfl rfl HKY.out _ [] (cellR_mk g) ?_
  intro w2 hown2 hturn2
  have Z := Lib.hid (disk_put (H1.out.drew) x g HX2.out rfl HR.out hn HO.out.drew hown2 hturn2)
  have K2 := Lib.hid ((H2.out.drew).grown hturn2.grown (fun k hk => .inr (.inr (.inl (by cases hk; rfl)))))
  clear hown2 hturn2
  go_wp2
  go_ret
  exact ⟨rfl, Z.out, K2.out⟩
end
end Go.Proofs.Ytbejfpdkfpgipaa
