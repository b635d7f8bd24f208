/- The contract of package platter's Crash. Conditions: the disk lies in memory; the list of what is kept is one of integers. -/
import Derived.Test.YtbejfpdkfpgipaaPlFlush
import Derived.Test.YtbejfpdkfpgipaaPlMisc
namespace Go.Proofs.Ytbejfpdkfpgipaa
open Go.ChangeShapes Go.WideShapes Go.ChangeAt Go.RowKit
set_option linter.unusedVariables false
/-- A list of integers that came in. -/
def IntsAt (w : World) (p : Option Addr) (l : List Int) : Prop := l = [] ∨ ∃ B o, p = some ⟨B, o, none⟩ ∧ B < w.heap.size ∧ ∀ j, j < l.length → w.cell? ⟨B, o + j, none⟩ = some (.int .i64 (l.getD j 0))
theorem IntsAt.keep {w w' : World} {p : Option Addr} {l : List Int} (h : IntsAt w p l) (hs : w.heap.size ≤ w'.heap.size) (hb : ∀ B o, p = some ⟨B, o, none⟩ → B < w.heap.size → w'.heap[B]? = w.heap[B]?) : IntsAt w' p l := by
  rcases h with h | ⟨B, o, rfl, hB, hc⟩
  · exact .inl h
  · exact .inr ⟨B, o, rfl, by omega, fun j hj => (World.cell?_of_block (w := w) (w' := w') (a := ⟨B, o + j, none⟩) (hb B o rfl hB)).trans (hc j hj)⟩
theorem IntsAt.below {w w' : World} {p : Option Addr} {l : List Int} (h : IntsAt w p l) (hb : Below w.heap.size w w') : IntsAt w' p l := h.keep hb.size fun B o _ hB => hb.block B hB
/-- A row of truths. -/
def BBlk (w : World) (B : Nat) (l : List Bool) : Prop := w.heap[B]? = some (.cells (l.map Value.bool).toArray 4 (0, 0))
theorem BBlk.cell {w : World} {B : Nat} {l : List Bool} (h : BBlk w B l) {i : Nat} (hi : i < l.length) : w.cell? ⟨B, i, none⟩ = some (.bool (l.getD i false)) := by
  rw [cell_of_row w B i _ _ (0, 0) h]
  simp [List.getD_eq_getElem?_getD, hi]
theorem BBlk.free {w : World} {B : Nat} {l : List Bool} (h : BBlk w B l) (i : Nat) : w.frozen? ⟨B, i, none⟩ = false := frozen_of_row w B i _ _ h
theorem BBlk.set {w : World} {B : Nat} {l : List Bool} (h : BBlk w B l) (i : Nat) (v : Bool) : BBlk (w.setCell ⟨B, i, none⟩ (.bool v)) B (l.set i v) := by
  have := heap_setCell_same w B i _ _ (.bool v) h
  unfold BBlk
  rw [this]
  simp [List.map_set]
theorem boolInfo3 : (Try.prog.info? 4).map (fun i => (i.zero, i.size, i.bytes)) = some (some (.bool false), 1, 1) := by kernel_rfl
theorem made_bools (m : Nat) : madeCells (Value.bool false).cells m = ((List.replicate m false).map Value.bool).toArray := by
  apply Array.ext
  · rw [size_madeCells]; simp
  · intro i h1 h2
    simp [madeCells, Value.cells, Nat.mod_one]
theorem run_make_bools (n : Nat) (hn : n ≤ 2048) (w : World) : (Instr.makeSlice 97 (.int .i64 n) (.int .i64 n)).run Try.prog w = .ok (.slice (some ⟨w.heap.size, 0, none⟩) n n) (w.alloc (.cells ((List.replicate n false).map Value.bool).toArray 4)) := by
  have hi := boolInfo3
  cases hq : Try.prog.info? 4 with
  | none => rw [hq] at hi; simp at hi
  | some i =>
    rw [hq] at hi
    simp only [Option.map_some, Option.some.injEq, Prod.mk.injEq] at hi
    have e := run_make (P := Try.prog) w 97 4 i _ Try.underlying97 hq hi.1 .i64 .i64 n n (by omega) (by omega) (by rw [hi.2.2]; omega) (by omega)
    rw [hi.2.1, Int.toNat_natCast, Nat.mul_one, made_bools] at e
    exact e
/-- What is marked of so many places after k of the list. -/
def keptL (n : Nat) (l : List Int) (k : Nat) : List Bool := (List.range n).map fun (i : Nat) => (l.take k).contains (i : Int)
theorem keptL_len (n : Nat) (l : List Int) (k : Nat) : (keptL n l k).length = n := by simp [keptL]
theorem keptL_zero (n : Nat) (l : List Int) : keptL n l 0 = List.replicate n false := by
  apply List.ext_getElem
  · simp [keptL]
  · intro i h1 h2; simp [keptL]
theorem take_step (l : List Int) {k : Nat} (hk : k < l.length) : l.take (k + 1) = l.take k ++ [l.getD k 0] := by
  rw [List.take_add_one, List.getD_eq_getElem?_getD]
  simp [hk]
theorem keptL_yes (n : Nat) (l : List Int) {k i : Nat} (hk : k < l.length) (hi : l.getD k 0 = (i : Int)) : (keptL n l k).set i true = keptL n l (k + 1) := by
  apply List.ext_getElem
  · simp [keptL]
  · intro j h1 h2
    have hj : j < n := by simpa [keptL] using h2
    rw [List.getElem_set]
    simp only [keptL, List.getElem_map, List.getElem_range]
    rw [take_step l hk, hi]
    by_cases e : i = j
    · subst e; simp
    · have e2 : ¬ ((j : Int) = (i : Int)) := by omega
      simp [e, e2]
theorem keptL_no (n : Nat) (l : List Int) {k : Nat} (hk : k < l.length) (hi : hasB n (l.getD k 0) = false) : keptL n l k = keptL n l (k + 1) := by
  apply List.ext_getElem
  · simp [keptL]
  · intro j h1 h2
    have hj : j < n := by simpa [keptL] using h2
    simp only [keptL, List.getElem_map, List.getElem_range]
    rw [take_step l hk]
    have e2 : ¬ ((j : Int) = l.getD k 0) := by
      intro e
      unfold hasB at hi
      rw [← e] at hi
      simp at hi
      omega
    simp only [List.contains_append]
    have : [l.getD k 0].contains (j : Int) = false := by simpa using e2
    rw [this, Bool.or_false]
theorem keptL_end (n : Nat) (l : List Int) {i : Nat} (hi : i < n) : (keptL n l l.length).getD i false = l.contains (i : Int) := by
  simp [keptL, List.getD_eq_getElem?_getD, hi]
section
variable {ops : Array Oper} {rest : List Oper} {o : Oper} {a : Act} {w : World} {Q : Exit → Act → World → Prop}
theorem wpList_make_bools (hgd : o.guard = none) (x y : Operand) (ho : o.op = .makeSlice 97 x y) (n : Nat) (hn : n ≤ 2048) (hx : a.eval x = .int .i64 n) (hy : a.eval y = .int .i64 n)
    (h : wpList Try.prog ops Q rest (a.put o.dst (.slice (some ⟨w.heap.size, 0, none⟩) n n)) (w.alloc (.cells ((List.replicate n false).map Value.bool).toArray 4))) : wpList Try.prog ops Q (o :: rest) a w :=
  wpList_plain hgd fun K hK => by
    have e := run_make_bools n hn w
    unfold Oper.wp execOp
    simp only [ho]
    simp only [hx, hy, e, Oper.upon, Sem.run_bind, Sem.run_pure, Result.andThen_ok]
    exact hK _ _ h
/-- 'clear(m)'. -/
theorem wpList_clear_own {H : Type} (hgd : o.guard = none) (m : Operand) (t k e : TypeId) (ho : o.op = .call { callee := .builtin .clear, args := #[m], argTypes := #[t] }) (ht : Try.prog.underlying t = some (.map k e)) (R : Value → Option (DataW H × List MemPlace)) (b n : Nat) (D : DataW H) (hm : a.eval m = .map (some b)) (hown : w.ownsMap Try.prog k R b n D)
    (h : ∀ w', w'.ownsMap Try.prog k R b 0 (.map [] : DataW H) → w.mapTurned w' b → wpList Try.prog ops Q rest (a.put o.dst (.tuple #[])) w') : wpList Try.prog ops Q (o :: rest) a w :=
  wpList_plain hgd fun K hK => by
    obtain ⟨es, clock, hb, F, hs, rfl⟩ := hown
    have hrun : (Builtin.clear_ #[t] o.type #[.map (some b)]).run Try.prog w = .ok (.tuple #[]) (ChangeMaps.setBlock w b (.map #[] clock)) := by
      simp [Builtin.clear_, run_underlying ht, MapKept.run_getObj_map hb, MapKept.run_setObj_map _ hb, Result.andThen, ChangeMaps.setBlock]
    have hst : MapKept.Stamped #[] clock := MapKept.stamped_empty clock
    unfold Oper.wp
    simp [execOp, ho, resolve, invoke, builtin, hm, hrun, Result.andThen]
    exact hK _ _ (h _ ⟨#[], clock, ChangeMaps.heap_setBlock_same hb _, ⟨by simp, hst, by simp⟩, Nat.le_refl _, rfl⟩ ⟨es, clock, #[], clock, hb, rfl⟩)
end
/-- What is left behind a crash. -/
def Disk.crashed (d : Disk) (l : List Int) : Disk := { d with sure := fun i => if l.contains (i : Int) then (d.opn i).getD (d.sure i) else d.sure i, opn := fun _ => none, armed := false, left := 0, down := false }
theorem crashed_is (d : Disk) (l : List Int) : ({ d.settled (fun x => l.contains x) with opn := fun _ => none } : Disk).mended = d.crashed l := rfl
theorem disk_cleared {w w' : World} {b : Blks} {d : Disk} (h : DiskAt w b d) (ho : w'.ownsMap Try.prog 3 cellR b.mb 0 (.map [])) (ht : w.mapTurned w' b.mb) : DiskAt w' b { d with opn := fun _ => none } := by
  have oth : ∀ k, k < w.heap.size → k ≠ b.mb → w'.heap[k]? = w.heap[k]? := fun k hk hne => ht.grown.block k hk (fun e => hne (by cases e; rfl))
  exact ⟨(oth _ (h.lt (.inl rfl)) h.neB.symm).trans h.plat, h.sect.keep (oth _ (h.lt (.inr (.inl rfl))) h.neS.symm), ⟨0, _, Nat.zero_le _, ho, reads_none⟩, (oth _ (h.lt (.inr (.inr (.inr rfl)))) h.neC.symm).trans h.cnts, h.ne1, h.ne2, h.ne3, fun x hx => (by cases hx), h.ns1, h.ns2, h.nc⟩
set_option maxRecDepth 100000 in
theorem Crash1_ok (n : Nat) (K : List Bool) (hK : K.length = n) (w : World) (D C : Nat) (hD : w.cell? ⟨D, 0, none⟩ = some (.slice (some ⟨C, 0, none⟩) n n)) (hC : BBlk w C K) (i : Nat) (hi : i < n) :
    Calls Try.prog 51 #[.int .i64 i, .pointer (some ⟨D, 0, none⟩)] w fun e w' => e = .returned (.bool (K.getD i false)) ∧ w = w' := by
  have cc := hC.cell (i := i) (by omega)
  have b1 : (i : Int) < n := by omega
  have b2 : (0 : Int) ≤ i := by omega
  generalize K.getD i false = v at *
  clear hC hK
  go_enter Try.func51, Try.ntmps51
  go_wp2_with fail
  go_ret
  exact ⟨rfl, rfl⟩
set_option maxRecDepth 100000 in
theorem Crash_nil (w : World) (p : Option Addr) (n cap : Nat) : Calls Try.prog 29 #[.pointer none, .slice p n cap] w fun e w' => e = .returned (.tuple #[]) ∧ w = w' := by
  go_enter Try.func29, Try.ntmps29
  go_wp2_with fail
  exact bodyPost_ret (results_none rfl _ _ _) rfl ⟨rfl, rfl⟩
set_option maxRecDepth 100000 in
set_option maxHeartbeats 2000000 in
theorem Crash_ok {w : World} {b : Blks} {d : Disk} (h : DiskAt w b d) (p : Option Addr) (l : List Int) (cap : Nat) (hl : IntsAt w p l) (hll : l.length ≤ 9223372036854775807) :
    Calls Try.prog 29 #[.pointer (some ⟨b.B, 0, none⟩), .slice p l.length cap] w fun e w' => e = .returned (.tuple #[]) ∧ DiskAt w' b (d.crashed l) ∧ Keeps b.own w w' := by
  have hns := h.ns2
  have H := Lib.hid h
  have HL := Lib.hid hl
  have SC := Lib.hid (Size_ok h)
  obtain ⟨n, hn⟩ : ∃ n, d.ns = n := ⟨_, rfl⟩
  rw [hn] at SC hns
  have HNS := Lib.hid hn
  have B1 := Lib.hid ((Below.refl _ w).alloc (Nat.le_refl _) (.cells ((List.replicate n false).map Value.bool).toArray 4))
  have S0 := Lib.hid (show BBlk (w.alloc (.cells ((List.replicate n false).map Value.bool).toArray 4)) w.heap.size (List.replicate n false) from heap_alloc_new _ _)
  have Z0 := Lib.hid (show (w.alloc (.cells ((List.replicate n false).map Value.bool).toArray 4)).heap.size = w.heap.size + 1 from by simp)
  clear h hl hn
  go_enter Try.func29, Try.ntmps29
  go_wp2_with (first
    | (go_at_call 42; refine (SC.out).mono ?_; rintro e w1 ⟨rfl, rfl⟩)
    | (refine wpList_make_bools rfl _ _ rfl n hns rfl rfl ?_
       generalize w.alloc (.cells ((List.replicate n false).map Value.bool).toArray 4) = W1 at *))
  obtain ⟨S, hS⟩ : ∃ S, w.heap.size = S := ⟨_, rfl⟩
  obtain ⟨X, hX⟩ : ∃ X, W1.heap.size = X := ⟨_, rfl⟩
  have X0 := Lib.hid (heap_alloc_new W1 (.cells #[.slice (some ⟨S, 0, none⟩) n n] 97))
  rw [hX] at X0
  have B2 := Lib.hid (B1.out.alloc B1.out.size (.cells #[.slice (some ⟨S, 0, none⟩) n n] 97))
  have S1 := Lib.hid (show BBlk (W1.alloc (.cells #[.slice (some ⟨S, 0, none⟩) n n] 97)) S (List.replicate n false) from by
    have := S0.out
    rw [hS] at this
    exact (Below.heap_alloc _ _ _ (by rw [Z0.out]; omega)).trans this)
  have SX := Lib.hid (show X = S + 1 from by rw [← hX, Z0.out, hS])
  have HS := Lib.hid hS
  clear S0 B1 Z0 SC
  rw [hS, hX]
  generalize W1.alloc (.cells #[.slice (some ⟨S, 0, none⟩) n n] 97) = W2 at *
  clear hS hX
  go_loopw [14] (fun v wr => ∃ k : Nat, k ≤ l.length ∧ v = .int .i64 k ∧ BBlk wr S (keptL n l k) ∧ wr.heap[X]? = some (.cells #[.slice (some ⟨S, 0, none⟩) n n] 97 (0, 0)) ∧ Below w.heap.size w wr) (fun v _ => l.length - (intOf v).toNat)
  case atStart => exact ⟨0, Nat.zero_le _, rfl, by rw [keptL_zero]; exact S1.out, X0.out, B2.out⟩
  case round =>
    obtain ⟨k, hk, rfl, hb, hx, hw⟩ := hrel
    have HB := Lib.hid hb
    have HX := Lib.hid hx
    have HW := Lib.hid hw
    have cx := box_cell hx
    have HD := Lib.hid (H.out.below hw)
    clear hb hx hw S1 X0 B2
    by_cases hlt : k < l.length
    · rcases HL.out with he | ⟨B, o, rfl, hB, hc⟩
      · rw [he] at hlt; exact absurd hlt (Nat.not_lt_zero _)
      have cl := (HW.out.cell (p := ⟨B, o + k, none⟩) hB).trans (hc k hlt)
      have HC := Lib.hid hc
      have HBB := Lib.hid hB
      have e1 : (k : Int) < (l.length : Int) := by omega
      have e2 : (0 : Int) ≤ k := by omega
      have e3 : IntKind.i64.wrap ((k : Int) + 1) = ((k + 1 : Nat) : Int) := by rw [IntWalk.i64_in _ (by omega)]; omega
      have YES := Lib.hid (fun (i : Nat) (hi : l.getD k 0 = (i : Int)) => keptL_yes n l hlt hi)
      have NO := Lib.hid (fun (hi : hasB n (l.getD k 0) = false) => keptL_no n l hlt hi)
      have HH := Lib.hid (has_ok HD.out (l.getD k 0))
      rw [HNS.out] at HH
      have HLT := Lib.hid hlt
      clear hc hB
      generalize l.getD k 0 = x at *
      cases hq : hasB n x with
      | false =>
        rw [hq] at HH
        have N1 := Lib.hid (NO.out hq)
        clear hq NO YES hlt
        go_wp2_with (first
          | (go_at_call 44; refine (HH.out).mono ?_; rintro e w3 ⟨rfl, rfl⟩))
        go_roundw
        case rel => exact ⟨k + 1, by have := HLT.out; omega, by go_num, by rw [← N1.out]; exact HB.out, HX.out, HW.out⟩
        case measure => have := HLT.out; simp [intOf]; omega
      | true =>
        rw [hq] at HH
        have hx2 : 0 ≤ x ∧ x < n := by unfold hasB at hq; simpa using hq
        obtain ⟨i, rfl⟩ : ∃ i : Nat, x = i := ⟨x.toNat, by omega⟩
        have hin : i < n := by omega
        have N1 := Lib.hid (YES.out i rfl)
        have b1 : (i : Int) < n := hx2.2
        have b2 : (0 : Int) ≤ i := hx2.1
        have cb := HB.out.cell (i := i) (by rw [keptL_len]; exact hin)
        have fb := HB.out.free i
        have BS := Lib.hid (HB.out.set i true)
        have HLW := Lib.hid (show w.heap.size ≤ S from Nat.le_of_eq HS.out)
        have HXS := Lib.hid (show S ≠ X from by rw [SX.out]; omega)
        clear hq NO YES hlt hx2 hin
        generalize (keptL n l k).getD i false = vv at *
        go_wp2_with (first
          | (go_at_call 44; refine (HH.out).mono ?_; rintro e w3 ⟨rfl, rfl⟩))
        go_roundw
        case rel => exact ⟨k + 1, by have := HLT.out; omega, by go_num, by rw [← N1.out]; exact BS.out, (Below.heap_setCell _ _ _ _ (fun e => HXS.out (by simpa using e.symm))).trans HX.out, HW.out.setCell (p := ⟨S, i, none⟩) HLW.out _⟩
        case measure => have := HLT.out; simp [intOf]; omega
    · have e1 : ¬ (k : Int) < (l.length : Int) := by omega
      obtain rfl : k = l.length := by omega
      have H1 := HD.out
      have neS : ∀ k, b.own k → k < w.heap.size := fun k hk => H.out.lt hk
      have NS := Lib.hid (show ¬ sbmb b S ∧ ¬ sbmb b X from ⟨fun e => by have := neS S (e.elim (fun e => .inr (.inl e)) (fun e => .inr (.inr (.inl e)))); have := HS.out; omega, fun e => by have := neS X (e.elim (fun e => .inr (.inl e)) (fun e => .inr (.inr (.inl e)))); have := HS.out; have := SX.out; omega⟩)
      have KL := Lib.hid (fun i (hi : i < n) => keptL_end n l hi)
      have KW := Lib.hid ((Keeps.of HW.out : Keeps b.own w wr))
      clear H1 neS
      go_wp2_with (first
        | (go_at_call 47
           refine (settle_ok HD.out 51 #[.pointer (some ⟨X, 0, none⟩)] (fun x => l.contains x) ?eg ?ask).mono ?_
           case eg => exact enters_of Try.func51 (by kernel_rfl) rfl
           case ask =>
             intro x W hx1 hx2 hK
             rw [HNS.out] at hx2
             obtain ⟨i, rfl⟩ : ∃ i : Nat, x = i := ⟨x.toNat, by omega⟩
             have hin : i < n := by omega
             have := Crash1_ok n (keptL n l l.length) (keptL_len n l _) W X S (box_cell (hK.cells HX.out NS.out.2)) (hK.cells HB.out NS.out.1) i hin
             rw [KL.out i hin] at this
             exact this
           rintro e w4 ⟨rfl, h4, h5⟩
           have H4 := Lib.hid h4
           have H5 := Lib.hid h5
           have c5 := h4.c5
           obtain ⟨n4, D4, _, hm4, _⟩ := h4.opn
           have M4 := Lib.hid hm4
           clear h4 h5 hm4)
        | (refine wpList_clear_own rfl _ 86 3 40 rfl Try.underlying86 cellR b.mb n4 D4 rfl M4.out ?_
           intro w5 ho5 ht5
           have H6 := Lib.hid (disk_cleared H4.out ho5 ht5)
           have K6 := Lib.hid (((KW.out).trans (H5.out.mono fun k _ e => e.elim (fun e => .inr (.inl e)) (fun e => .inr (.inr (.inl e))))).grown ht5.grown (fun k e => .inr (.inr (.inl (Option.some.inj e).symm))))
           clear ho5 ht5 c5 M4)
        | (go_at_call 52; refine (mend_ok H6.out).mono ?_; rintro e w7 ⟨rfl, h7, h8⟩))
      go_end0
      exact ⟨rfl, h7, K6.out.trans (h8.mono fun k _ e => .inl e)⟩
end Go.Proofs.Ytbejfpdkfpgipaa
