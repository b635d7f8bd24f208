/- The contract of package platter's settle: which open sectors are made sure. Conditions: the disk lies in memory; what is asked answers of each sector one and the same, and leaves the world as it was. -/
import Derived.Test.YtbejfpdkfpgipaaPlWrite
import Derived.Maps.RangeWalk
namespace Go.Proofs.Ytbejfpdkfpgipaa
open Go.ChangeShapes Go.WideShapes Go.ChangeAt Go.RowKit
set_option linter.unusedVariables false
theorem Keeps.grown' {S : Nat → Prop} {w w' w'' : World} {row : Option Nat} (h : Keeps S w w') (hg : w'.grownBy w'' row) (hr : ∀ k, row = some k → k < w.heap.size → S k) : Keeps S w w'' :=
  ⟨hg.os.trans h.os, hg.tape.trans h.tape, hg.output.trans h.output, Nat.le_trans h.size hg.size, fun i hi hn => (hg.block i (Nat.lt_of_lt_of_le hi h.size) (fun e => hn (hr i e.symm hi))).trans (h.block i hi hn)⟩
theorem Keeps.setRow' {S : Nat → Prop} {w w' : World} (h : Keeps S w w') {B : Nat} (hB : B < w.heap.size → S B) (cs : Array Value) : Keeps S w (w'.setRow B cs) :=
  ⟨h.os, h.tape, h.output, by simpa using h.size, fun k hk hn => (setRow_other _ B k cs (fun e => hn (e ▸ hB (e ▸ hk)))).trans (h.block k hk hn)⟩
/-- The sectors asked for are sure as they read. -/
def Disk.settled (d : Disk) (ask : Int → Bool) : Disk := { d with sure := fun i => if ask i then (d.opn i).getD (d.sure i) else d.sure i, opn := fun x => if ask x then none else d.opn x }
def opnL (d : Disk) (ask : Int → Bool) (left : Lit → Bool) : Int → Option (List Int) := fun x => if left (.int .i64 x) = false ∧ ask x = true then none else d.opn x
def sureL (d : Disk) (ask : Int → Bool) (left : Lit → Bool) : Nat → List Int := fun i => if left (.int .i64 i) = false ∧ ask i = true then (d.opn i).getD (d.sure i) else d.sure i
theorem same_int (x y : Int) : (Lit.int .i64 y).sameKey (.int .i64 x) = decide (y = x) := by
  by_cases h : y = x
  · subst h; simp [Lit.sameKey]
  · simp [Lit.sameKey, h]
theorem opnL_start (d : Disk) (ask : Int → Bool) {D : DataW Value} (hr : Reads D d.opn) : opnL d ask (Maps.has D) = d.opn := funext fun x => by
  unfold opnL
  split
  · rename_i h
    rw [hr.has] at h
    cases hq : d.opn x with
    | none => rfl
    | some l => rw [hq] at h; cases h.1
  · rfl
theorem sureL_start (d : Disk) (ask : Int → Bool) {D : DataW Value} (hr : Reads D d.opn) : sureL d ask (Maps.has D) = d.sure := funext fun i => by
  unfold sureL
  split
  · rename_i h
    rw [hr.has] at h
    cases hq : d.opn i with
    | none => rfl
    | some l => rw [hq] at h; cases h.1
  · rfl
theorem opnL_end (d : Disk) (ask : Int → Bool) {left : Lit → Bool} (h : ∀ kl, left kl = false) : opnL d ask left = (d.settled ask).opn := funext fun x => by
  simp [opnL, Disk.settled, h]
theorem sureL_end (d : Disk) (ask : Int → Bool) {left : Lit → Bool} (h : ∀ kl, left kl = false) : sureL d ask left = (d.settled ask).sure := funext fun i => by
  simp [sureL, Disk.settled, h]
def strike (left : Lit → Bool) (x : Int) : Lit → Bool := fun z => left z && !z.sameKey (.int .i64 x)
theorem strike_at (left : Lit → Bool) (x y : Int) : strike left x (.int .i64 y) = (left (.int .i64 y) && !decide (y = x)) := by
  unfold strike; rw [same_int]
theorem opnL_yes (d : Disk) {ask : Int → Bool} {left : Lit → Bool} {x : Int} (ha : ask x = true) : opnL d ask (strike left x) = setO (opnL d ask left) x none := funext fun y => by
  unfold opnL setO
  rw [strike_at]
  by_cases e : y = x
  · subst e; simp [ha]
  · simp [e]
theorem opnL_no (d : Disk) {ask : Int → Bool} {left : Lit → Bool} {x : Int} (ha : ask x = false) : opnL d ask (strike left x) = opnL d ask left := funext fun y => by
  unfold opnL
  rw [strike_at]
  by_cases e : y = x
  · subst e; simp [ha]
  · simp [e]
theorem sureL_no (d : Disk) {ask : Int → Bool} {left : Lit → Bool} {x : Int} (ha : ask x = false) : sureL d ask (strike left x) = sureL d ask left := funext fun i => by
  unfold sureL
  rw [strike_at]
  by_cases e : (i : Int) = x
  · subst e; simp [ha]
  · simp [e]
theorem sureL_yes (d : Disk) {ask : Int → Bool} {left : Lit → Bool} {k : Nat} {l : List Int} (ha : ask k = true) (hl : d.opn k = some l) : sureL d ask (strike left k) = fun i => if i = k then l else sureL d ask left i := funext fun i => by
  unfold sureL
  rw [strike_at]
  by_cases e : i = k
  · subst e; simp [ha, hl]
  · have e2 : ¬ ((i : Int) = (k : Int)) := by omega
    simp [e, e2]
theorem SureAt.store {w : World} {sb ns : Nat} {sure : Nat → List Int} (h : SureAt w sb ns sure) (k : Nat) (hk : k < ns) (g : Nat → Nat) {F : Nat → Nat} (hF : IntBlk w sb .u8 40 (mk (128 * ns) F)) (hs : ∀ i, i < ns → sure i = mk 128 (fun j => F (128 * i + j))) :
    SureAt (w.setRow sb (cellsOf .u8 (mk (128 * ns) (put F (128 * k) 128 g)))) sb ns (fun i => if i = k then mk 128 g else sure i) := by
  refine ⟨_, hF.setRow .u8 _, fun i hi => ?_⟩
  by_cases e : i = k
  · subst e
    simp only [if_true]
    exact mk_ext fun j hj => by unfold put; rw [if_pos (by omega), show 128 * i + j - 128 * i = j by omega]
  · simp only [if_neg e]
    rw [hs i hi]
    exact mk_ext fun j hj => by
      unfold put
      rw [if_neg]
      intro hh
      rcases Nat.lt_or_ge i k with h1 | h1
      · have : 128 * i + 128 ≤ 128 * k := by omega
        omega
      · have : 128 * k + 128 ≤ 128 * i := by omega
        omega
theorem still_elem {P : Program} {ops : Array Oper} {w : World} {Q : Act → Prop} {a : Act} {o : Oper} {rest : List Oper} (hw : Region.wanted o (yielded ops a.tmps) = true) (t e : TypeId) (sz : Nat) (x y : Operand) (ho : o.op = .indexAddr t x y) (ht : P.underlying t = some (.slice e)) (hi : (P.info? e).map (·.size) = some sz)
    (B off n cap k : Nat) (hx : a.eval x = .slice (some ⟨B, off, none⟩) n cap) (hy : a.eval y = .int .i64 k) (hk4 : k < n) (h : wpStill P ops w Q rest (a.put o.dst (.pointer (some ⟨B, off + k * sz, none⟩)))) : wpStill P ops w Q (o :: rest) a :=
  wpStill_step fun K hK => by
    rw [if_pos hw]
    have h0 : (k : Int) < n := by omega
    cases hq : P.info? e with
    | none => simp [hq] at hi
    | some i =>
      have hs : i.size = sz := by simpa [hq] using hi
      have hrun : (execOp a.eval o).run P w = .ok (.value (.pointer (some ⟨B, off + k * sz, none⟩))) w := by
        unfold execOp
        simp only [ho, hx, hy]
        simp [go_sem, ht, h0, sizeOf, typeInfo, hq, hs, addr_add]
      unfold Oper.still
      rw [hrun]
      exact ⟨rfl, hK _ h⟩
theorem grown_of_below {w w' : World} (h : Below w.heap.size w w') : w.grownBy w' none := ⟨h.os, h.tape, h.output, h.size, fun k hk _ => h.block k hk⟩
theorem secInfo3 : (Try.prog.info? 40).map (·.size) = some 128 := by kernel_rfl
def sbmb (b : Blks) (k : Nat) : Prop := k = b.sb ∨ k = b.mb
attribute [local irreducible] mk
set_option maxRecDepth 100000 in
set_option maxHeartbeats 2000000 in
theorem settle_ok {w : World} {b : Blks} {d : Disk} (h : DiskAt w b d) (g : FuncId) (lb : Array Value) (ask : Int → Bool) (eg : ∀ args W, (callFunc g args).run Try.prog W = .ok (.enter g args) W)
    (hg : ∀ (x : Int) (W : World), 0 ≤ x → x < d.ns → Keeps (sbmb b) w W → Calls Try.prog g (#[.int .i64 x] ++ lb) W fun e W' => e = .returned (.bool (ask x)) ∧ W = W') :
    Calls Try.prog 47 #[.pointer (some ⟨b.B, 0, none⟩), .func (.func g) #[] lb] w fun e w' => e = .returned (.tuple #[]) ∧ DiskAt w' b (d.settled ask) ∧ Keeps (sbmb b) w w' := by
  obtain ⟨n, D, hn, hm, hr⟩ := h.opn
  have c5 := h.c5
  have neB : ¬ sbmb b b.B := fun e => e.elim (fun e => h.ne1 e) (fun e => h.neB e.symm)
  have neC : ¬ sbmb b b.cb := fun e => e.elim (fun e => h.ne3 e.symm) (fun e => h.neC e.symm)
  have H := Lib.hid h
  have HO := Lib.hid hm
  have HR := Lib.hid hr
  have HG := Lib.hid hg
  have NB := Lib.hid neB
  have NC := Lib.hid neC
  have HN := Lib.hid hn
  clear h hm hr hg neB neC hn
  go_enter Try.func47, Try.ntmps47
  go_wp2_with (first
    | (at_range; refine wpList_range_own _ rfl _ 86 rfl 3 40 intKey Try.underlying86 cellR b.mb n D rfl HO.out ?_; intro w0 hrg0 hg0 hs0)
    | go_in)
  go_frame
  have K0 := Lib.hid ((Keeps.refl (sbmb b) w).grown' hg0 (fun k e => by cases e))
  have G0 := Lib.hid hg0
  have R0 := Lib.hid hrg0
  clear hg0 hs0 hrg0
  go_loopw [4] (fun _ wr => ∃ (left : Lit → Bool) (cnt : Nat) (D' : DataW Value), wr.ranges Try.prog 3 cellR b.mb w.heap.size n D' left cnt ∧ Reads D' (opnL d ask left) ∧ SureAt wr b.sb d.ns (sureL d ask left) ∧ Keeps (sbmb b) w wr ∧ (∀ x, left (.int .i64 x) = true → (d.opn x).isSome = true))
    (fun _ wr => wr.rangeLeft b.mb w.heap.size)
  case atStart =>
    refine ⟨_, _, D, R0.out, by rw [opnL_start d ask HR.out]; exact HR.out, ?_, K0.out, fun x hx => by rw [HR.out.has] at hx; exact hx⟩
    rw [sureL_start d ask HR.out]
    exact H.out.sect.keep (G0.out.block _ H.out.sect.lt (by simp))
  case round =>
    obtain ⟨left, cnt, D', hrg, hr', hs', hk', hl'⟩ := hrel
    go_wp2_with (first
      | (at_next; refine wpList_next_ranges _ rfl _ rfl 3 intKey cellR (Value.int .i64) (fun f : Nat → Nat => Value.agg (cellsOf .u8 (mk 128 f))) (fun key kl hk => by obtain ⟨x, rfl, _⟩ := Go.Maps.keyOf_int_inv Try.underlying3 hk; exact ⟨x, rfl⟩) (fun v y hv => by obtain ⟨f, rfl, _⟩ := cellR_inv hv; exact ⟨f, rfl⟩) b.mb w.heap.size n _ _ _ rfl hrg ?_ ?_)
      | go_in)
    · intro hc0 hl0
      have Z := Lib.hid (show DiskAt wr b (d.settled ask) from by
        rw [opnL_end d ask hl0] at hr'
        rw [sureL_end d ask hl0] at hs'
        have H0 := H.out
        exact ⟨hk'.cells H0.plat NB.out, hs', ⟨n, D', HN.out, hrg.owns, hr'⟩, hk'.blk H0.cnts NC.out, H0.ne1, H0.ne2, H0.ne3, fun x hx => H0.wf x (by
          simp only [Disk.settled] at hx
          split at hx
          · cases hx
          · exact hx), H0.ns1, H0.ns2, H0.nc⟩)
      go_wp2
      go_end0
      exact ⟨rfl, Z.out, hk'⟩
    · intro x f kl yd yp w1 cnt1 hkey hlk hv hat hrg1 hlt hg1 hs1 hen
      obtain ⟨x', ex, rfl, hwx⟩ := Go.Maps.keyOf_int_inv Try.underlying3 hkey
      obtain rfl : x = x' := by cases ex; rfl
      have hsome := hl' x hlk
      have hxb := H.out.wf x hsome
      obtain ⟨k, rfl⟩ : ∃ k : Nat, x = k := ⟨x.toNat, by omega⟩
      have hkn : k < d.ns := by omega
      have hopn : d.opn k = some (mk 128 f) := by
        cases hq : d.opn k with
        | none => rw [hq] at hsome; cases hsome
        | some l =>
          have e1 := (hr'.val k l (by unfold opnL; rw [if_neg (by simp [hlk])]; exact hq)).2 (.lit (.bool true))
          obtain ⟨_, _, e2⟩ := cellR_inv hv
          rw [hat] at e1
          have e3 : yd = DataW.held (Value.agg (cellsOf .u8 (mk 128 f))) := by cases e2; rfl
          rw [e3] at e1
          simp only [DataW.held.injEq, Value.agg.injEq] at e1
          rw [cellsOf_inj e1]
      have hk1 := hk'.grown' hg1 (fun j e hj => by cases e; exact absurd hj (Nat.lt_irrefl _))
      have hs1' : SureAt w1 b.sb d.ns (sureL d ask left) := hs'.keep (hg1.block _ hs'.lt (fun e => by
        have e2 : b.sb = w.heap.size := Option.some.inj e
        exact absurd H.out.sect.lt (by rw [e2]; exact Nat.lt_irrefl _)))
      have L := sec_laid w1 f
      have EN := Lib.hid hen
      have hsz := hk1.size
      clear hs1 hk' hs' hv hat hkey hg1 hsome hxb hwx
      have KX := Lib.hid (Int.natCast_nonneg k)
      go_wp2_with (first
        | (refine wpList_sec_alloc rfl rfl w1.heap.size rfl ?_)
        | (refine store_row_on rfl 40 _ _ rfl rfl w1.heap.size (cellsOf .u8 (mk 128 f)) rfl rfl 40 (cellsOf .u8 (mk 128 zeroK)) (heap_alloc_new _ _) (secSize _) (sec_same _ _) (cellsOf_one _ _) ?_))
      generalize hwA : (w1.alloc (.cells (cellsOf .u8 (mk 128 zeroK)) 40)).setRow w1.heap.size (cellsOf .u8 (mk 128 f)) = wA at L ⊢
      clear hwA EN
      obtain ⟨LA, LB⟩ := L
      have gA := grown_of_below LB
      have hkA := hk1.grown' gA (fun j e => by cases e)
      have hsA := hs1'.keep (LB.block _ hs1'.lt)
      have hrgA := hrg1.kept gA (by simp) (by simp)
      refine (HG.out k wA (by omega) (by omega) hkA).mono ?_
      rintro e w2 ⟨rfl, rfl⟩
      have c4A : wA.cell? ⟨b.B, 4, none⟩ = some (.slice (some ⟨b.sb, 0, none⟩) d.ns d.ns) := (cell_of_row _ _ _ _ _ _ (hkA.cells H.out.plat NB.out)).trans rfl
      have c5A : wA.cell? ⟨b.B, 5, none⟩ = some (.map (some b.mb)) := (cell_of_row _ _ _ _ _ _ (hkA.cells H.out.plat NB.out)).trans rfl
      have MEA := Lib.hid (show wA.rangeLeft b.mb w.heap.size < wr.rangeLeft b.mb w.heap.size from by rw [hrgA.left_eq, hrg.left_eq]; exact hlt)
      have REA := Lib.hid hrgA
      have hns2 := H.out.ns2
      have KYA := Lib.hid (key_i64 (k : Int) (by omega) (by omega))
      have HKA := Lib.hid hkA
      have HSA := Lib.hid hsA
      have HRA := Lib.hid hr'
      have HLA := Lib.hid hl'
      have LAA := Lib.hid LA
      have HOP := Lib.hid hopn
      have CLT := Lib.hid hlt
      have MEL := Lib.hid (show wr.rangeLeft b.mb w.heap.size = cnt from hrg.left_eq)
      clear hrg hrg1 hkA hsA hr' hl' LA LB gA hk1 hs1' hsz hopn hlt c5 hns2 hrgA
      cases hask : ask (k : Int) with
      | false =>
        go_wp2
        go_roundw
        case rel => exact ⟨strike left k, cnt1, D', REA.out, by rw [opnL_no d hask]; exact HRA.out, by rw [sureL_no d hask]; exact HSA.out, HKA.out, fun y hy => HLA.out y (by rw [strike_at] at hy; simp only [Bool.and_eq_true] at hy; exact hy.1)⟩
        case measure => exact MEA.out
      | true =>
        obtain ⟨F, hF, hFs⟩ := HSA.out
        have HF := Lib.hid hF
        have HFS := Lib.hid hFs
        have hkn2 := hkn
        clear hF hFs
        go_wp2_with fail
        refine wp_region_still_tail 7 (by kernel_rfl) (by kernel_rfl) ?_
        simp only [List.take_succ_cons, List.take_zero, List.drop_succ_cons, List.drop_zero]
        change wpStill _ _ wA.drew (fun a' => wpList _ _ _ _ a' wA.drew) _ _
        iterate 5 still_step
        refine still_row rfl _ _ rfl w1.heap.size (cellsOf .u8 (mk 128 f)) _ _ rfl LAA.out _ secUnder rfl (secSize f) ?_
        refine still_elem rfl 53 40 128 _ _ rfl Try.underlying53 secInfo3 b.sb 0 d.ns d.ns k rfl rfl hkn2 ?_
        refine wpStill_nil ?_
        refine wpList_store_part rfl 40 _ _ rfl rfl b.sb (0 + k * 128) 128 (128 * d.ns) F f rfl rfl 40 (IntBlk.drew HF.out) (by omega) secInfo3 ?_
        rw [show 0 + k * 128 = 128 * k by omega]
        have SB := Lib.hid (HSA.out.store k hkn2 f HF.out HFS.out)
        have hS1 : SureAt (wA.drew.setRow b.sb (cellsOf .u8 (mk (128 * d.ns) (put F (128 * k) 128 f)))) b.sb d.ns (fun i => if i = k then mk 128 f else sureL d ask left i) := SB.out.keep rfl
        have hK1 : Keeps (sbmb b) w (wA.drew.setRow b.sb (cellsOf .u8 (mk (128 * d.ns) (put F (128 * k) 128 f)))) := HKA.out.drew.setRow (.inl rfl) _
        have gS : wA.grownBy (wA.drew.setRow b.sb (cellsOf .u8 (mk (128 * d.ns) (put F (128 * k) 128 f)))) (some b.sb) := ⟨rfl, rfl, rfl, by simp, fun j hj hne => setRow_other _ _ _ _ (fun e => hne (by rw [e]))⟩
        generalize hwB : wA.drew.setRow b.sb (cellsOf .u8 (mk (128 * d.ns) (put F (128 * k) 128 f))) = wB at hS1 hK1 gS ⊢
        clear hwB SB HF HFS
        have neS := H.out.neS
        have ltS := H.out.sect.lt
        have hrgB := REA.out.kept gS (fun e => neS (Option.some.inj e)) (fun e => absurd ltS (by rw [← Option.some.inj e]; exact Nat.lt_irrefl _))
        have c5B : wB.cell? ⟨b.B, 5, none⟩ = some (.map (some b.mb)) := (cell_of_row _ _ _ _ _ _ (hK1.cells H.out.plat NB.out)).trans rfl
        have hltB : cnt1 < cnt := CLT.out
        clear gS c4A c5A LAA REA HSA HKA neS ltS
        go_wp2_with (first
          | (at_delete; refine wpList_delete_ranges _ rfl _ _ 86 3 rfl 40 intKey Try.underlying86 cellR b.mb w.heap.size n D' _ cnt1 rfl hrgB _ (.int .i64 k) rfl KYA.out ?_; intro w3 cnt3 hrg3 hle hturn; go_frame)
          | go_in)
        have hS3 := hS1.keep (hturn.grown.block _ hS1.lt (fun e => H.out.neS (Option.some.inj e).symm))
        have hK3 := hK1.grown hturn.grown (fun j e => .inr (Option.some.inj e).symm)
        have M3 := Lib.hid (show w3.rangeLeft b.mb w.heap.size < wr.rangeLeft b.mb w.heap.size from by rw [hrg3.left_eq, MEL.out]; omega)
        rw [Go.Maps.strike_twice] at hrg3
        go_roundw
        case rel => exact ⟨strike left k, cnt3, D'.del (.int .i64 k), hrg3, by rw [opnL_yes d hask]; exact reads_del HRA.out k, by rw [sureL_yes d hask HOP.out]; exact hS3, hK3, fun y hy => HLA.out y (by rw [strike_at] at hy; simp only [Bool.and_eq_true] at hy; exact hy.1)⟩
        case measure => exact M3.out
end Go.Proofs.Ytbejfpdkfpgipaa
