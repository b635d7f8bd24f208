/- TwProg: merged by merge.py out of WayC TwksC PlaceC EndC TextC SliceC TurnT HideC TurnB HideB DoneB. Conditions: as each part says. -/
import Derived.Test.YtklnnmlegagfoaaTwCipher
import Derived.Test.YtklnnmlegagfoaaTwBase
import Derived.OwnWalkIn
import Derived.TacticsInMore
import Derived.LoopNIn
import Derived.LoopIn
/- The contracts of package tweak's ways: hiding, showing, and a block turned with a way and a tweak. Conditions: the bytes are bytes; the way's round keys lie behind its pointer. -/
namespace Go.Proofs.Ytklnnmlegagfoaa
open Go.ChangeShapes Go.WideShapes Go.ChangeAt Go.RowKit

/-- A way as a value's cells. -/
def cipG (b : Bool) : FuncId := if b then 51 else 46
def wayS (b : Bool) (p : Option Addr) (n cap : Nat) : Array Value := #[.func (.func (cipG b)) #[] #[], .bool b, .slice p n cap]
theorem waySize (b : Bool) (p : Option Addr) (n cap : Nat) : (Try.prog.info? 75).map (·.size) = some (wayS b p n cap).size := by
  show _ = some 3
  kernel_rfl

theorem way_one (b : Bool) (p : Option Addr) (n cap : Nat) : (wayS b p n cap).all (·.oneCell') = true := by simp [wayS, Value.oneCell']

set_option maxRecDepth 100000 in
set_option maxHeartbeats 400000 in
theorem hiding_any (w : World) : Calls Try.prog 38 #[] w fun e w' => e = .returned (.agg (wayS false none 0 0)) ∧ Below w.heap.size w w' := by
  have HZ := Lib.hid (heap_alloc_new w (.cells #[.nilFunc, .bool false, .slice none 0 0] 75))
  have HB := Lib.hid ((Below.refl w.heap.size w).alloc (Nat.le_refl _) (.cells #[.nilFunc, .bool false, .slice none 0 0] 75))
  go_enter Try.func38, Try.ntmps38
  go_wp2_with (refine store_row_on rfl 75 _ _ rfl rfl w.heap.size (wayS false none 0 0) rfl rfl 75 #[.nilFunc, .bool false, .slice none 0 0] HZ.out (waySize _ _ _ _) rfl (way_one _ _ _ _) ?_)
  exact bodyPost_ret (results_cell_row rfl _ _ w.heap.size 75 (wayS false none 0 0) (0, 0) _ rfl (setRow_heap _ _ _ _ _ _ HZ.out) Try.underlying75 rfl (waySize _ _ _ _)) rfl ⟨rfl, below_setRow HB.out (Nat.le_refl _) _⟩
set_option maxRecDepth 100000 in
set_option maxHeartbeats 400000 in
theorem showing_any (w : World) : Calls Try.prog 39 #[] w fun e w' => e = .returned (.agg (wayS true none 0 0)) ∧ Below w.heap.size w w' := by
  have HZ := Lib.hid (heap_alloc_new w (.cells #[.nilFunc, .bool false, .slice none 0 0] 75))
  have HB := Lib.hid ((Below.refl w.heap.size w).alloc (Nat.le_refl _) (.cells #[.nilFunc, .bool false, .slice none 0 0] 75))
  go_enter Try.func39, Try.ntmps39
  go_wp2_with (refine store_row_on rfl 75 _ _ rfl rfl w.heap.size (wayS true none 0 0) rfl rfl 75 #[.nilFunc, .bool false, .slice none 0 0] HZ.out (waySize _ _ _ _) rfl (way_one _ _ _ _) ?_)
  exact bodyPost_ret (results_cell_row rfl _ _ w.heap.size 75 (wayS true none 0 0) (0, 0) _ rfl (setRow_heap _ _ _ _ _ _ HZ.out) Try.underlying75 rfl (waySize _ _ _ _)) rfl ⟨rfl, below_setRow HB.out (Nat.le_refl _) _⟩

section
variable {o : Oper} {a : Act} {C : World → Prop} {K : Act → Prop}
/-- A field's place, and what one cell holds, under any class of worlds. -/
theorem quiet_field (k : Nat) (x : Operand) (ho : o.op = .fieldAddr 75 x k) (hk3 : k < 3) (B : Nat) (hx : a.eval x = .pointer (some ⟨B, 0, none⟩)) (hk : K (a.put o.dst (.pointer (some ⟨B, k, none⟩)))) : o.quiet Try.prog a C K := by
  refine quiet_value _ (fun w _ => ?_) hk
  unfold execOp
  simp only [ho, hx]
  rcases (show k = 0 ∨ k = 1 ∨ k = 2 by omega) with rfl | rfl | rfl <;> simp [go_sem, Addr.add]
theorem quiet_lie (t : TypeId) (x : Operand) (ho : o.op = .load t x) (p : Addr) (v : Value) (hx : a.eval x = .pointer (some p)) (hu : ∀ w, (isAgg t).run Try.prog w = .ok false w) (hB : ∀ w, C w → w.cell? p = some v) (hk : K (a.put o.dst v)) : o.quiet Try.prog a C K := by
  refine quiet_value _ (fun w hw => ?_) hk
  have hc := hB w hw
  unfold execOp
  simp only [ho, hx]
  simp [go_sem, hc, hu]
end
theorem box_turn (w : World) : (isAgg 68).run Try.prog w = .ok false w := by simp [go_sem]
theorem box_keys (w : World) : (isAgg 44).run Try.prog w = .ok false w := by simp [go_sem]
theorem call_cip (b : Bool) (args : Array Value) (w : World) : (callFunc (cipG b) args).run Try.prog w = .ok (.enter (cipG b) args) w := by cases b <;> simp [go_sem, cipG]
theorem cip_any (b : Bool) (p : Option Addr) (n cap : Nat) (R : Nat → Nat → Nat) (f : Nat → Nat) (hR : ∀ i, i < n → IsKey (R i)) (hf : IsKey f) (hn : n < 4294967296) (w : World) (hp : KeysAt w p n R) :
    Calls Try.prog (cipG b) #[.slice p n cap, .agg (cellsOf .u8 (mk 16 f))] w fun e w' => e = .returned (.agg (cellsOf .u8 (mk 16 (cipB b R n f)))) ∧ Below w.heap.size w w' := by
  cases b
  · exact Encrypt_any p n cap R f hR hf hn w hp
  · exact Decrypt_any p n cap R f hR hf hn w hp
attribute [local irreducible] cipB cipG xorK

set_option maxRecDepth 100000 in
set_option maxHeartbeats 1000000 in
theorem wayBlock_any (b : Bool) (p : Option Addr) (n cap : Nat) (R : Nat → Nat → Nat) (t f : Nat → Nat) (hR : ∀ i, i < n → IsKey (R i)) (ht : IsKey t) (hf : IsKey f) (hn : n < 4294967296) (w : World) (hp : KeysAt w p n R) :
    Calls Try.prog 50 #[.agg (wayS b p n cap), .agg (cellsOf .u8 (mk 16 t)), .agg (cellsOf .u8 (mk 16 f))] w fun e w' => e = .returned (.agg (cellsOf .u8 (mk 16 (wB b R n t f)))) ∧ Below w.heap.size w w' := by
  go_enter Try.func50, Try.ntmps50
  go_wp2
  change Code.wp _ _ _ _ ((((w.alloc (.cells (wayS b p n cap) 75)).alloc (.cells (cellsOf .u8 (mk 16 t)) 25)).alloc (.cells (cellsOf .u8 (mk 16 f)) 25)).alloc (.cells (cellsOf .u8 (mk 16 zeroK)) 25))
  have BW := below_four w (.cells (wayS b p n cap) 75) (.cells (cellsOf .u8 (mk 16 t)) 25) (.cells (cellsOf .u8 (mk 16 f)) 25) (.cells (cellsOf .u8 (mk 16 zeroK)) 25)
  have BZ := blk_fourth w .u8 25 (mk 16 zeroK) (.cells (wayS b p n cap) 75) (.cells (cellsOf .u8 (mk 16 t)) 25) (.cells (cellsOf .u8 (mk 16 f)) 25)
  have BF := (blk_third w .u8 25 (mk 16 f) (.cells (wayS b p n cap) 75) (.cells (cellsOf .u8 (mk 16 t)) 25)).alloc (.cells (cellsOf .u8 (mk 16 zeroK)) 25)
  have BT := (blk_second w .u8 25 (mk 16 t) (.cells (wayS b p n cap) 75) (.cells (cellsOf .u8 (mk 16 f)) 25)).alloc (.cells (cellsOf .u8 (mk 16 zeroK)) 25)
  have BY := (below_three (w.alloc (.cells (wayS b p n cap) 75)) (.cells (cellsOf .u8 (mk 16 t)) 25) (.cells (cellsOf .u8 (mk 16 f)) 25) (.cells (cellsOf .u8 (mk 16 zeroK)) 25)).block w.heap.size (by simp)
  rw [heap_alloc_new] at BY
  generalize (((w.alloc (.cells (wayS b p n cap) 75)).alloc (.cells (cellsOf .u8 (mk 16 t)) 25)).alloc (.cells (cellsOf .u8 (mk 16 f)) 25)).alloc (.cells (cellsOf .u8 (mk 16 zeroK)) 25) = W0 at *
  have hlY := lt_of_block BY
  have C0 : ∀ k v, (wayS b p n cap)[k]? = some v → ∀ w', Below W0.heap.size W0 w' → w'.cell? ⟨w.heap.size, k, none⟩ = some v := fun k v hv w' h => by
    rw [h.cell (p := ⟨w.heap.size, k, none⟩) hlY, cell_of_row W0 w.heap.size k _ _ _ BY]; exact hv
  have C1 : ∀ w', Below W0.heap.size W0 w' → IntBlk w' (w.heap.size + 1) .u8 25 (mk 16 t) := fun w' h => BT.below h BT.lt
  have C2 : ∀ w', Below W0.heap.size W0 w' → IntBlk w' (w.heap.size + 1 + 1) .u8 25 (mk 16 f) := fun w' h => BF.below h BF.lt
  have K1 := class_of (W0 := W0) (Xor_any t f ht hf)
  have hx := xorK_key ht hf
  have K2 : ∀ w', Below W0.heap.size W0 w' → Calls Try.prog (cipG b) #[.slice p n cap, .agg (cellsOf .u8 (mk 16 (xorK t f)))] w' fun e w'' => e = .returned (.agg (cellsOf .u8 (mk 16 (cipB b R n (xorK t f))))) ∧ Below W0.heap.size W0 w'' :=
    fun w' h => (cip_any b p n cap R (xorK t f) hR hx hn w' ((hp.below BW).below h)).mono fun _ _ ⟨he, hb⟩ => ⟨he, h.trans (hb.mono h.size)⟩
  have K3 := class_of (W0 := W0) (Xor_any t (cipB b R n (xorK t f)) ht (cipB_key hR hx))
  have HC0 := Lib.hid C0; have HC1 := Lib.hid C1; have HC2 := Lib.hid C2; have HK1 := Lib.hid K1; have HK2 := Lib.hid K2; have HK3 := Lib.hid K3; have HW := Lib.hid BW
  have HZ := Lib.hid (fun (w' : World) (h : Below W0.heap.size W0 w') => BZ.below h BZ.lt)
  have HE := Lib.hid (show xorK t (cipB b R n (xorK t f)) = wB b R n t f from rfl)
  clear C0 C1 C2 K1 K2 K3 BW BZ BF BT BY hR ht hf hn hp hx hlY
  refine wp_region_class_tail 10 (fun w' => Below W0.heap.size W0 w') (by kernel_rfl) (by kernel_rfl) ((Below.refl _ _).drew) ?_
  simp only [List.take_succ_cons, List.take_zero, List.drop_succ_cons, List.drop_zero]
  iterate 10 (first
    | go_big_quiet_skip
    | (go_big_quiet_want
       first
         | (go_big_quiet_op; go_big_quiet_on)
         | ((first
             | (refine quiet_field 0 _ rfl (by omega) w.heap.size rfl ?_)
             | (refine quiet_field 2 _ rfl (by omega) w.heap.size rfl ?_)
             | (refine quiet_lie 68 _ rfl ⟨w.heap.size, 0, none⟩ (.func (.func (cipG b)) #[] #[]) rfl box_turn (HC0.out 0 _ rfl) ?_)
             | (refine quiet_lie 44 _ rfl ⟨w.heap.size, 2, none⟩ (.slice p n cap) rfl box_keys (HC0.out 2 _ rfl) ?_)
             | (refine quiet_load_row 25 _ rfl (w.heap.size + 1) .u8 (mk 16 t) rfl 16 5 keyUnder (keySize _) HC1.out ?_)
             | (refine quiet_load_row 25 _ rfl (w.heap.size + 1 + 1) .u8 (mk 16 f) rfl 16 5 keyUnder (keySize _) HC2.out ?_)
             | (refine quiet_call2 _ _ _ _ rfl 58 rfl (.agg (cellsOf .u8 (mk 16 t))) (.agg (cellsOf .u8 (mk 16 f))) (.agg (cellsOf .u8 (mk 16 (xorK t f)))) rfl rfl call_xor HK1.out ?_; clear HK1)
             | (refine quiet_call2 _ _ _ _ rfl (cipG b) rfl (.slice p n cap) (.agg (cellsOf .u8 (mk 16 (xorK t f)))) (.agg (cellsOf .u8 (mk 16 (cipB b R n (xorK t f))))) rfl rfl (call_cip b) HK2.out ?_; clear HK2)
             | (refine quiet_call2 _ _ _ _ rfl 58 rfl (.agg (cellsOf .u8 (mk 16 t))) (.agg (cellsOf .u8 (mk 16 (cipB b R n (xorK t f))))) (.agg (cellsOf .u8 (mk 16 (xorK t (cipB b R n (xorK t f)))))) rfl rfl call_xor HK3.out ?_; clear HK3)); go_simp; go_big_quiet_on)))
  refine wpQuiet_nil ?_
  rw [HE.out]
  intro wx hwx
  refine store_row_on rfl 25 _ _ rfl rfl (w.heap.size + 1 + 1 + 1) (cellsOf .u8 (mk 16 (wB b R n t f))) rfl rfl 25 (cellsOf .u8 (mk 16 zeroK)) (HZ.out wx hwx) (keySize _) (by rw [cellsOf_size, cellsOf_size, mk_len, mk_len]) (cellsOf_one _ _) ?_
  go_wp2
  exact bodyPost_ret (results_cell_row rfl _ _ (w.heap.size + 1 + 1 + 1) 25 (cellsOf .u8 (mk 16 (wB b R n t f))) (0, 0) _ rfl ((HZ.out wx hwx).setRow .u8 (mk 16 (wB b R n t f))) keyUnder rfl (keySize _)) rfl ⟨rfl, below_setRow (HW.out.trans (hwx.mono HW.out.size)) (by omega) _⟩
end Go.Proofs.Ytklnnmlegagfoaa

/- The iterator of package tweak's Tweaks: it hands yield the blocks' numbers and tweaks, without an end, as long as the caller goes with it. Condition: the caller's invariant bounds the rounds and keeps the first tweak's box. -/
namespace Go.Proofs.Ytklnnmlegagfoaa
open Go.ChangeShapes Go.WideShapes Go.ChangeAt Go.RowKit Go.Shelf
attribute [local go_sem] Oper.semAt_some

set_option maxRecDepth 100000 in
theorem Tweaks_any (t : Nat → Nat) (w : World) : Calls Try.prog 17 #[.agg (cellsOf .u8 (mk 16 t))] w fun e w' => e = .returned (.func (.func 34) #[] #[.pointer (some ⟨w.heap.size, 0, none⟩)]) ∧ w.alloc (.cells (cellsOf .u8 (mk 16 t)) 25) = w' := by
  go_enter Try.func17, Try.ntmps17
  go_wp2
  go_ret
  exact ⟨rfl, rfl⟩
section
variable {P : Program} {ops : Array Oper} {Q : Exit → Act → World → Prop} {l n : Nat}
theorem upon_fence {o : Oper} {a : Act} {K : Act → World → Prop} {r : Result Next} (h : o.upon P a K Q r) : o.uponIn Fence.wide n P a K Q r := by
  cases r with
  | ok x w' =>
    cases x with
    | value v => exact h
    | skip => exact h
    | defer d => exact h
    | enter f args => exact ⟨fun h => by simp [Fence.wide] at h, callsIn_wide.2 h⟩
    | row row args => exact ⟨fun h => by simp [Fence.wide] at h, fun c cs _ => let ⟨v, w'', r, s⟩ := h c cs; ⟨v, w'', r, stepsIn_wide.2 s⟩⟩
    | _ => exact h.elim
  | halt x w' => cases x <;> first | exact h | exact h.elim
theorem oper_fence {o : Oper} {a : Act} {w : World} {K : Act → World → Prop} (hd : noDefer o = true) (h : o.wp P a w K Q) : o.wpIn Fence.wide n P a w K Q :=
  ⟨fun _ _ => trivial, by rw [Oper.semAt_eq _ _ _ (noDefer_spec hd)]; exact upon_fence h⟩
theorem wpListIn_fence {F : Fence} {o : Oper} {rest : List Oper} {a a2 : Act} {w w2 : World} (hF : F = Fence.wide) (hg : o.guard = none) (hd : noDefer o = true) (h : wpList P ops (fun e a' w' => e = .normal ∧ a' = a2 ∧ w' = w2) [o] a w)
    (hk : wpListIn F n P ops Q rest a2 w2) : wpListIn F n P ops Q (o :: rest) a w := by
  subst hF
  refine wpListIn_plain hg fun K hK => ?_
  exact oper_fence hd (wp_of_list hg h (hK _ _ hk))
end
/-- What the iterator reads; the caller's round is one of M. -/
def TwR (M Bt : Nat) (t : Nat → Nat) (i : Nat) (V : World) : Prop := i < M ∧ IntBlk V Bt .u8 25 (mk 16 t)
attribute [local irreducible] twk dbl
set_option maxRecDepth 100000 in
set_option maxHeartbeats 1000000 in
theorem tweaks_gives (m M Bt : Nat) (t : Nat → Nat) (ht : IsKey t) (hM : M ≤ 1000000000000) :
    GivesIn Fence.wide m Try.prog 34 #[.pointer (some ⟨Bt, 0, none⟩)] (fun x : Nat => #[.int .i64 x, .agg (cellsOf .u8 (mk 16 (twk t x)))]) (fun _ i _ x => x = i) M (TwR M Bt t) := fun l J Jx W hR hJ hJx hY h0 => by
  refine callsIn_of_wp Try.func34 rfl trivial ?_ rfl
  simp only [Try.ntmps34, List.size_toArray, List.length_cons, List.length_nil, Nat.reduceAdd, Nat.reduceSub, Array.replicate_succ, Array.replicate_zero, List.push_toArray, List.append_toArray, List.nil_append, List.cons_append]
  have HT := Lib.hid (hR 0 W h0).2
  have HR := Lib.hid hR
  have HJ := Lib.hid hJ
  have HY := Lib.hid hY
  have H0 := Lib.hid h0
  clear hR hJ hJx hY h0
  have b0 : Below W.heap.size W ((W.alloc (.cells (cellsOf .u8 (mk 16 zeroK)) 25)).setRow W.heap.size (cellsOf .u8 (mk 16 t))) := below_setRow ((Below.refl _ W).alloc (Nat.le_refl _) _) (Nat.le_refl _) _
  have B0 := Lib.hid b0
  have K0 := Lib.hid ((IntBlk.new W .u8 25 (mk 16 zeroK)).setRow .u8 (mk 16 t))
  have J0 := Lib.hid (HJ.out 0 W _ H0.out b0)
  clear b0
  refine wpIn_wide.2 ?_
  go_wp2_with (first
    | (refine wpList_load_row rfl 25 _ rfl Bt rfl 25 (cellsOf .u8 (mk 16 t)) (0, 0) _ HT.out keyUnder rfl (keySize t) ?_)
    | (refine store_row_on rfl 25 _ _ rfl rfl W.heap.size (cellsOf .u8 (mk 16 t)) rfl rfl 25 (cellsOf .u8 (mk 16 zeroK)) (IntBlk.new W .u8 _ (mk 16 zeroK)) (keySize _) (by rw [cellsOf_size, cellsOf_size, mk_len, mk_len]) (cellsOf_one _ _) ?_))
  refine (wpIn_wide (n := m)).1 ?_
  clear H0 HT
  gi_loopw [4] (fun v wr => ∃ i : Nat, v = .int .i64 i ∧ W.heap.size ≤ wr.heap.size ∧ J i wr ∧ IntBlk wr W.heap.size .u8 25 (mk 16 (twk t i))) (fun v _ => M - (intOf v).toNat)
  case atStart => exact ⟨0, rfl, B0.out.size, J0.out, by rw [twk_zero]; exact K0.out⟩
  case round =>
    obtain ⟨i, rfl, hs, hj, hk⟩ := hrel
    clear J0 K0 B0
    have HS := Lib.hid hs; have HJ1 := Lib.hid hj; have HK := Lib.hid hk
    have hi := (HR.out i wr hj).1
    have kt := twk_key ht i
    have NX := Lib.hid (twk_step t i)
    obtain ⟨fn, tmps, assign, body, hy, hRr⟩ := HY.out i wr i hi hs hj rfl
    clear hs hj hk
    gi_wp2_with (refine wpListIn_fence rfl rfl rfl (wpList_load_row rfl 25 _ rfl W.heap.size rfl 25 (cellsOf .u8 (mk 16 (twk t i))) (0, 0) _ HK.out keyUnder rfl (keySize _) (wpList_nil ⟨rfl, rfl, rfl⟩)) ?_)
    refine ⟨(fun h => by cases h), hRr.mono ?_⟩
    rintro e W3 (⟨rfl, hj3, ha3⟩ | ⟨rfl, hx3, _⟩)
    · have H3 := Lib.hid hj3
      have hb3 := (ha3.same W.heap.size (Nat.le_refl _) HK.out.lt).trans HK.out
      have K3 := Lib.hid (show IntBlk W3 W.heap.size .u8 25 (mk 16 (twk t i)) from hb3)
      have S3 := Lib.hid (Nat.le_trans HS.out ha3.size)
      have q1 : IntKind.i64.wrap ((i : Int) + 1) = (i : Int) + 1 := IntWalk.i64_in _ (by omega)
      clear hRr hy hj3 ha3 hb3 HK HS HJ1
      gi_wp2_with (first
        | (refine wpListIn_fence rfl rfl rfl (wpList_load_row rfl 25 _ rfl W.heap.size rfl 25 (cellsOf .u8 (mk 16 (twk t i))) (0, 0) _ K3.out keyUnder rfl (keySize _) (wpList_nil ⟨rfl, rfl, rfl⟩)) ?_))
      refine ⟨trivial, (fun h => by cases h), (callsIn_wide.2 (Double_any (twk t i) kt W3)).mono ?_⟩
      rintro e W4 ⟨rfl, hb4⟩
      rw [NX.out]
      have J4 := Lib.hid (HJ.out _ _ _ H3.out (hb4.mono S3.out))
      have K4 := Lib.hid (K3.out.below hb4 K3.out.lt)
      have S4 := Lib.hid (Nat.le_trans S3.out hb4.size)
      have K5 := Lib.hid (K4.out.setRow .u8 (mk 16 (twk t (i + 1))))
      have J5 := Lib.hid (HJ.out _ _ _ J4.out (below_setRow (Below.refl _ W4) (Nat.le_refl W.heap.size) (cellsOf .u8 (mk 16 (twk t (i + 1))))))
      have S5 := Lib.hid (show W.heap.size ≤ (W4.setRow W.heap.size (cellsOf .u8 (mk 16 (twk t (i + 1))))).heap.size by simpa using S4.out)
      clear hb4 K3 H3 S3
      gi_wp2_with (first
        | (refine wpListIn_fence rfl rfl rfl (store_row_on rfl 25 _ _ rfl rfl W.heap.size (cellsOf .u8 (mk 16 (twk t (i + 1)))) rfl rfl 25 (cellsOf .u8 (mk 16 (twk t i))) K4.out (keySize _) (by rw [cellsOf_size, cellsOf_size, mk_len, mk_len]) (cellsOf_one _ _) (wpList_nil ⟨rfl, rfl, rfl⟩)) ?_))
      go_roundw
      case rel => exact ⟨i + 1, by go_num, S5.out, J5.out, K5.out⟩
      case measure => simp [intOf]; omega
    · gi_wp2
      go_end0
      exact ⟨⟨_, rfl⟩, .inr hx3⟩
end Go.Proofs.Ytklnnmlegagfoaa

/- The contract of package tweak's place: the block at the beginning of a text turned where it stands; nothing else is written that was there. Conditions: the text's memory is a row of bytes of its own, with at least 16 bytes from there on; the way's round keys lie behind its pointer. -/
namespace Go.Proofs.Ytklnnmlegagfoaa
open Go.ChangeShapes Go.WideShapes Go.ChangeAt Go.RowKit

/-- All that was there lies as it lay, but for block B. -/
structure But (B : Nat) (w w' : World) : Prop where
  low : Below (min B w.heap.size) w w'
  same : ∀ k, k < w.heap.size → k ≠ B → w'.heap[k]? = w.heap[k]?
theorem But.size {B : Nat} {w w' : World} (h : But B w w') : w.heap.size ≤ w'.heap.size := h.low.size
theorem But.of {B : Nat} {w w' : World} (h : Below w.heap.size w w') : But B w w' := ⟨h.mono (Nat.min_le_right _ _), fun k hk _ => h.block k hk⟩
theorem But.trans {B : Nat} {w w' w'' : World} (h : But B w w') (k : But B w' w'') : But B w w'' :=
  ⟨h.low.trans (k.low.mono (by have := h.size; omega)), fun i hi hb => (k.same i (Nat.lt_of_lt_of_le hi h.size) hb).trans (h.same i hi hb)⟩
theorem But.setRow (B : Nat) (w : World) (cs : Array Value) : But B w (w.setRow B cs) :=
  ⟨below_setRow (Below.refl _ w) (Nat.min_le_left _ _) cs, fun k _ hb => setRow_other w B k cs (fun e => hb e)⟩
theorem But.setCell (B i : Nat) (w : World) (v : Value) : But B w (w.setCell ⟨B, i, none⟩ v) :=
  ⟨(Below.refl _ w).setCell (p := ⟨B, i, none⟩) (Nat.min_le_left _ _) v, fun k _ hb => Below.heap_setCell _ _ _ k (fun e => hb e)⟩
theorem But.below {B M : Nat} {w w' : World} (h : But B w w') (hB : M ≤ B) (hw : M ≤ w.heap.size) : Below M w w' := h.low.mono (by omega)
theorem But.aft {B D : Nat} {w w' : World} (h : But B w w') (hB : B < D) : Aft D w w' := ⟨h.size, fun k hk hi => h.same k hi (by omega)⟩
theorem But.blk {B C : Nat} {w w' : World} {k : IntKind} {t : TypeId} {l : List Int} (h : But B w w') (hC : IntBlk w C k t l) (hne : C ≠ B) : IntBlk w' C k t l := (h.same C hC.lt hne).trans hC
/-- Round keys that don't lie in block B. -/
def KeysOff (B : Nat) (w : World) (p : Option Addr) (n : Nat) (R : Nat → Nat → Nat) : Prop := n = 0 ∨ ∃ C o, p = some ⟨C, o, none⟩ ∧ C < w.heap.size ∧ C ≠ B ∧ ∀ i, i < n → Cells w C (o + i * 16) 16 (R i)
theorem KeysOff.keys {B : Nat} {w : World} {p : Option Addr} {n : Nat} {R : Nat → Nat → Nat} (h : KeysOff B w p n R) : KeysAt w p n R := by
  rcases h with h | ⟨C, o, hp, hC, _, hc⟩
  · exact .inl h
  · exact .inr ⟨C, o, hp, hC, hc⟩
theorem KeysOff.but {B : Nat} {w w' : World} {p : Option Addr} {n : Nat} {R : Nat → Nat → Nat} (h : KeysOff B w p n R) (hb : But B w w') : KeysOff B w' p n R := by
  rcases h with h | ⟨C, o, hp, hC, hne, hc⟩
  · exact .inl h
  · exact .inr ⟨C, o, hp, Nat.lt_of_lt_of_le hC hb.size, hne, fun i hi j hj => by rw [World.cell?_of_block (hb.same C hC hne)]; exact hc i hi j hj⟩
theorem KeysOff.below {B : Nat} {w w' : World} {p : Option Addr} {n : Nat} {R : Nat → Nat → Nat} (h : KeysOff B w p n R) (hb : Below w.heap.size w w') : KeysOff B w' p n R := h.but (.of hb)
theorem bytesInfo1 : (Try.prog.info? 5).map (·.size) = some 1 := by kernel_rfl
theorem bytesUnder2 : Try.prog.underlying 22 = some (.slice 5) := Try.underlying22
theorem put_whole (N : Nat) (F g : Nat → Nat) : mk N (put F 0 N g) = mk N g := mk_ext fun j hj => by unfold put; rw [if_pos (by omega), Nat.sub_zero]
attribute [local irreducible] wB xorK

set_option maxRecDepth 100000 in
set_option maxHeartbeats 1000000 in
theorem place_any (b : Bool) (p : Option Addr) (n cap : Nat) (R : Nat → Nat → Nat) (t : Nat → Nat) (hR : ∀ i, i < n → IsKey (R i)) (ht : IsKey t) (hn : n < 4294967296) (B off len lcap N : Nat) (F : Nat → Nat) (ty : TypeId) (h16 : 16 ≤ len) (hoff : off + 16 ≤ N) (hF : ∀ j, j < 16 → F (off + j) < 256) (w : World)
    (hB : IntBlk w B .u8 ty (mk N F)) (hp : KeysOff B w p n R) :
    Calls Try.prog 66 #[.agg (wayS b p n cap), .slice (some ⟨B, off, none⟩) len lcap, .agg (cellsOf .u8 (mk 16 t))] w fun e w' => (∃ v, e = .returned v) ∧ IntBlk w' B .u8 ty (mk N (put F off 16 (wB b R n t (fun j => F (off + j))))) ∧ But B w w' := by
  go_enter Try.func66, Try.ntmps66
  have b3 := below_three w (.cells (wayS b p n cap) 75) (.cells (cellsOf .u8 (mk 16 t)) 25) (.cells (cellsOf .u8 (mk 16 zeroK)) 25)
  have hlB := hB.lt
  have W0 := Lib.hid ((below_two (w.alloc (.cells (wayS b p n cap) 75)) (.cells (cellsOf .u8 (mk 16 t)) 25) (.cells (cellsOf .u8 (mk 16 zeroK)) 25)).block w.heap.size (by simp) |>.trans (heap_alloc_new _ _))
  have T0 := Lib.hid (blk_second w .u8 25 (mk 16 t) (.cells (wayS b p n cap) 75) (.cells (cellsOf .u8 (mk 16 zeroK)) 25))
  have Z0 := Lib.hid (blk_third w .u8 25 (mk 16 zeroK) (.cells (wayS b p n cap) 75) (.cells (cellsOf .u8 (mk 16 t)) 25))
  have R0 := Lib.hid (hB.below b3 hlB)
  have P0 := Lib.hid hp
  have B3 := Lib.hid b3
  clear hB hp b3
  have HM := Lib.hid (show 16 = Nat.min len 16 from (Nat.min_eq_right h16).symm)
  have HM2 := Lib.hid (show 16 = Nat.min 16 len from (Nat.min_eq_left h16).symm)
  have HC := Lib.hid (R0.out.cells hoff)
  have hf : IsKey (fun j => F (off + j)) := hF
  have HO := Lib.hid hoff
  clear h16 hF hoff
  generalize hg : (fun j => F (off + j)) = g at *
  clear hg
  go_wp2_with (first
    | (refine wpList_copy_part rfl _ _ 22 22 rfl 5 bytesUnder2 bytesInfo1 (w.heap.size + 1 + 1) 0 16 16 B off len lcap 16 16 zeroK g rfl rfl 25 ?q1 ?q2 ?q3 ?q4 ?_
       case q1 => exact Z0.out
       case q2 => omega
       case q3 => exact HM.out
       case q4 => exact HC.out
       rw [put_whole]
       have z1 := Z0.out.setRow .u8 (mk 16 g)
       have d1 : Below w.heap.size w _ := below_setRow (g := w.heap.size + 1 + 1) B3.out (by omega) (cellsOf .u8 (mk 16 g))
       have w1 := (setRow_other _ (w.heap.size + 1 + 1) w.heap.size (cellsOf .u8 (mk 16 g)) (by omega)).trans W0.out
       have t1 := T0.out.otherRow (C := w.heap.size + 1 + 1) (by omega) (cellsOf .u8 (mk 16 g))
       have r1 := R0.out.otherRow (C := w.heap.size + 1 + 1) (by omega) (cellsOf .u8 (mk 16 g))
       have p1 := KeysOff.below P0.out d1
       change wpList _ _ _ _ _ (World.setRow (((w.alloc (.cells (wayS b p n cap) 75)).alloc (.cells (cellsOf .u8 (mk 16 t)) 25)).alloc (.cells (cellsOf .u8 (mk 16 zeroK)) 25)) _ _)
       generalize World.setRow (((w.alloc (.cells (wayS b p n cap) 75)).alloc (.cells (cellsOf .u8 (mk 16 t)) 25)).alloc (.cells (cellsOf .u8 (mk 16 zeroK)) 25)) _ _ = w3 at *
       have Z1 := Lib.hid z1; have D1 := Lib.hid d1; have W1 := Lib.hid w1; have T1 := Lib.hid t1; have R1 := Lib.hid r1; have P1 := Lib.hid p1
       have K1 := Lib.hid (wayBlock_any b p n cap R t g hR ht hf hn w3 p1.keys)
       clear z1 d1 w1 t1 r1 p1 Z0 T0 R0 P0 B3 W0 HC)
    | (refine wpList_load_row rfl 75 _ rfl w.heap.size rfl 75 (wayS b p n cap) (0, 0) _ W1.out Try.underlying75 rfl (waySize _ _ _ _) ?_)
    | (refine wpList_load_row rfl 25 _ rfl (w.heap.size + 1) rfl 25 (cellsOf .u8 (mk 16 t)) (0, 0) _ T1.out keyUnder rfl (keySize t) ?_)
    | (refine wpList_load_row rfl 25 _ rfl (w.heap.size + 1 + 1) rfl 25 (cellsOf .u8 (mk 16 g)) (0, 0) _ Z1.out keyUnder rfl (keySize g) ?_)
    | (go_at_call 50; refine K1.out.mono ?_; rintro e w4 ⟨rfl, hb4⟩
       have Z4 := Lib.hid (Z1.out.below hb4 Z1.out.lt)
       have R4 := Lib.hid (R1.out.below hb4 R1.out.lt)
       have D4 := Lib.hid (D1.out.trans (hb4.mono D1.out.size))
       clear hb4 K1 Z1 R1 D1 W1 T1 P1)
    | (refine store_row_on rfl 25 _ _ rfl rfl (w.heap.size + 1 + 1) (cellsOf .u8 (mk 16 (wB b R n t g))) rfl rfl 25 (cellsOf .u8 (mk 16 g)) Z4.out (keySize _) (by rw [cellsOf_size, cellsOf_size, mk_len, mk_len]) (cellsOf_one _ _) ?_
       have z5 := Z4.out.setRow .u8 (mk 16 (wB b R n t g))
       have d5 := below_setRow (g := w.heap.size + 1 + 1) D4.out (by omega) (cellsOf .u8 (mk 16 (wB b R n t g)))
       have r5 := R4.out.otherRow (C := w.heap.size + 1 + 1) (by omega) (cellsOf .u8 (mk 16 (wB b R n t g)))
       generalize World.setRow w4 _ _ = w5 at *
       have Z5 := Lib.hid z5; have D5 := Lib.hid d5; have R5 := Lib.hid r5
       have C5 := Lib.hid (z5.cells (o := 0) (n := 16) (by omega))
       clear z5 d5 r5 Z4 R4 D4)
    | (refine wpList_copy_part rfl _ _ 22 22 rfl 5 bytesUnder2 bytesInfo1 B off len lcap (w.heap.size + 1 + 1) 0 16 16 16 N F (wB b R n t g) rfl rfl ty ?q5 ?q6 ?q7 ?q8 ?_
       case q5 => exact R5.out
       case q6 => exact HO.out
       case q7 => exact HM2.out
       case q8 => exact fun j hj => by have := C5.out j hj; simp only [Nat.zero_add] at this ⊢; exact this)
    )
  have hR5 := R5.out.setRow .u8 (mk N (put F off 16 (wB b R n t g)))
  have hD5 := (But.of D5.out).trans (But.setRow B w5 (cellsOf .u8 (mk N (put F off 16 (wB b R n t g)))))
  go_end0
  exact ⟨⟨_, rfl⟩, hR5, hD5⟩
end Go.Proofs.Ytklnnmlegagfoaa

/- The contract of package tweak's end: a text's last whole block and the bytes left behind it turned where they stand. Conditions: as place's; at most 15 bytes are left. -/
namespace Go.Proofs.Ytklnnmlegagfoaa
open Go.ChangeShapes Go.WideShapes Go.ChangeAt Go.RowKit

/-- The first r bytes behind a block, and its own first r, exchanged. -/
def swK (off : Nat) (G : Nat → Nat) (k : Nat) : Nat → Nat := fun p => if off + 16 ≤ p ∧ p < off + 16 + k then G (p - 16) else if off ≤ p ∧ p < off + k then G (p + 16) else G p
theorem swK_zero (off : Nat) (G : Nat → Nat) (N : Nat) : mk N (swK off G 0) = mk N G := mk_ext fun p _ => by unfold swK; rw [if_neg (by omega), if_neg (by omega)]
theorem swK_left {off k : Nat} (G : Nat → Nat) : swK off G k (off + 16 + k) = G (off + 16 + k) := by unfold swK; rw [if_neg (by omega), if_neg (by omega)]
theorem swK_here {off k : Nat} (G : Nat → Nat) (h : k < 16) : swK off G k (off + k) = G (off + k) := by unfold swK; rw [if_neg (by omega), if_neg (by omega)]
theorem swK_step {off k N : Nat} (G : Nat → Nat) (h : k < 16) : ((mk N (swK off G k)).set (off + 16 + k) (G (off + k) : Nat)).set (off + k) (G (off + 16 + k) : Nat) = mk N (swK off G (k + 1)) := by
  rw [mk_set]
  refine mk_set_is (v := G (off + 16 + k)) rfl fun p _ => ?_
  unfold upd swK
  by_cases e : p = off + k
  · subst e; rw [if_pos rfl, if_neg (by omega), if_pos (by omega), show off + k + 16 = off + 16 + k by omega]
  · rw [if_neg e]
    by_cases e2 : p = off + 16 + k
    · subst e2; rw [if_pos rfl, if_pos (by omega), show off + 16 + k - 16 = off + k by omega]
    · rw [if_neg e2]
      by_cases c1 : off + 16 ≤ p ∧ p < off + 16 + k
      · rw [if_pos c1, if_pos (by omega)]
      · rw [if_neg c1]
        by_cases c2 : off ≤ p ∧ p < off + k
        · rw [if_pos c2, if_neg (by omega), if_pos (by omega)]
        · rw [if_neg c2, if_neg (by omega), if_neg (by omega)]
/-- What end makes of a row: C the block turned alone, D the block with the left bytes turned. -/
def endG (b : Bool) (R : Nat → Nat → Nat) (T : Nat) (t u : Nat → Nat) (off r : Nat) (F : Nat → Nat) : Nat → Nat :=
  let C := wB b R T (if b then u else t) (fun j => F (off + j))
  let D := wB b R T (if b then t else u) (mixB r (fun j => F (off + 16 + j)) C)
  fun p => if off ≤ p ∧ p < off + 16 then D (p - off) else if off + 16 ≤ p ∧ p < off + 16 + r then C (p - (off + 16)) else F p
theorem endG_is (b : Bool) (R : Nat → Nat → Nat) (T : Nat) (t u X Y : Nat → Nat) (off r N : Nat) (F : Nat → Nat) (hX : X = if b then u else t) (hY : Y = if b then t else u) (hN : off + 16 + r = N) (hr : r < 16) :
    mk N (put (swK off (put F off 16 (wB b R T X (fun j => F (off + j)))) r) off 16 (wB b R T Y (fun j => swK off (put F off 16 (wB b R T X (fun j => F (off + j)))) r (off + j)))) = mk N (endG b R T t u off r F) := mk_ext fun p hp => by
  subst hX hY
  have e : EqK (fun j => swK off (put F off 16 (wB b R T (if b then u else t) (fun j => F (off + j)))) r (off + j)) (mixB r (fun j => F (off + 16 + j)) (wB b R T (if b then u else t) (fun j => F (off + j)))) := fun j hj => by
    show swK off _ r (off + j) = if j < r then _ else _
    unfold swK
    by_cases h : j < r
    · rw [if_neg (by omega), if_pos (by omega), if_pos h]
      unfold put; rw [if_neg (by omega), show off + j + 16 = off + 16 + j by omega]
    · rw [if_neg (by omega), if_neg (by omega), if_neg h]
      unfold put; rw [if_pos (by omega), Nat.add_sub_cancel_left]
  show (if off ≤ p ∧ p < off + 16 then _ else _) = if off ≤ p ∧ p < off + 16 then _ else _
  by_cases h : off ≤ p ∧ p < off + 16
  · rw [if_pos h, if_pos h]; exact eq_wB b R T _ e (p - off) (by omega)
  · rw [if_neg h, if_neg h]
    unfold swK
    by_cases h2 : off + 16 ≤ p ∧ p < off + 16 + r
    · rw [if_pos h2, if_pos h2]; unfold put; rw [if_pos (by omega), show p - 16 - off = p - (off + 16) by omega]
    · rw [if_neg h2, if_neg h2, if_neg (by omega)]; unfold put; rw [if_neg (by omega)]
attribute [local irreducible] wB xorK swK put endG

set_option maxRecDepth 100000 in
set_option maxHeartbeats 1000000 in
theorem end_any (b : Bool) (p : Option Addr) (n cap : Nat) (R : Nat → Nat → Nat) (t u : Nat → Nat) (hR : ∀ i, i < n → IsKey (R i)) (ht : IsKey t) (hu : IsKey u) (hn : n < 4294967296) (B off r lcap N : Nat) (F : Nat → Nat) (ty : TypeId) (hr1 : 1 ≤ r) (hr : r < 16) (hcap : 16 + r ≤ lcap) (hoff : off + 16 + r = N) (hF : ∀ p, p < N → F p < 256) (w : World)
    (hB : IntBlk w B .u8 ty (mk N F)) (hp : KeysOff B w p n R) :
    Calls Try.prog 67 #[.agg (wayS b p n cap), .slice (some ⟨B, off, none⟩) (16 + r) lcap, .agg (cellsOf .u8 (mk 16 t)), .agg (cellsOf .u8 (mk 16 u))] w fun e w' => (∃ v, e = .returned v) ∧ IntBlk w' B .u8 ty (mk N (endG b R n t u off r F)) ∧ But B w w' := by
  go_enter Try.func67, Try.ntmps67
  have b3 := below_three w (.cells (wayS b p n cap) 75) (.cells (cellsOf .u8 (mk 16 t)) 25) (.cells (cellsOf .u8 (mk 16 u)) 25)
  have hlB := hB.lt
  have w0 := (below_two (w.alloc (.cells (wayS b p n cap) 75)) (.cells (cellsOf .u8 (mk 16 t)) 25) (.cells (cellsOf .u8 (mk 16 u)) 25)).block w.heap.size (by simp) |>.trans (heap_alloc_new _ _)
  have t0 := blk_second w .u8 25 (mk 16 t) (.cells (wayS b p n cap) 75) (.cells (cellsOf .u8 (mk 16 u)) 25)
  have u0 := blk_third w .u8 25 (mk 16 u) (.cells (wayS b p n cap) 75) (.cells (cellsOf .u8 (mk 16 t)) 25)
  have r0 := hB.below b3 hlB
  have p0 := hp.below b3
  clear hB
  have c1 : (((w.alloc (.cells (wayS b p n cap) 75)).alloc (.cells (cellsOf .u8 (mk 16 t)) 25)).alloc (.cells (cellsOf .u8 (mk 16 u)) 25)).cell? ⟨w.heap.size, 1, none⟩ = some (.bool b) := by rw [cell_of_row _ w.heap.size 1 _ _ _ w0]; rfl
  have hne : ¬ lcap = 16 := by omega
  have W0 := Lib.hid w0; have T0 := Lib.hid t0; have U0 := Lib.hid u0; have R0 := Lib.hid r0; have P0 := Lib.hid p0; have B0 := Lib.hid b3
  have HP := Lib.hid hp
  clear w0 t0 u0 r0 p0 b3 hp
  cases b
  case false =>
    go_wp2_with (first
    | (refine wpList_load_row rfl 75 _ rfl w.heap.size rfl 75 (wayS false p n cap) (0, 0) _ W0.out Try.underlying75 rfl (waySize _ _ _ _) ?_
       generalize (((w.alloc (.cells (wayS false p n cap) 75)).alloc (.cells (cellsOf .u8 (mk 16 t)) 25)).alloc (.cells (cellsOf .u8 (mk 16 u)) 25)) = w3 at *
       have WA := W0; have TA := T0; have UA := U0; have RA := R0; have PA := P0
       have BA := Lib.hid (But.of (B := B) B0.out)
       clear W0 T0 U0 R0 P0 B0 c1)
    | (refine wpList_load_row rfl 75 _ rfl w.heap.size rfl 75 (wayS false p n cap) (0, 0) _ WA.out Try.underlying75 rfl (waySize _ _ _ _) ?_)
    | (refine wpList_load_row rfl 25 _ rfl (w.heap.size + 1) rfl 25 (cellsOf .u8 (mk 16 t)) (0, 0) _ TA.out keyUnder rfl (keySize t) ?_)
    | (go_at_call 66
       refine (place_any false p n cap R t hR ht hn B off (16 + r) lcap N F ty (by omega) (by omega) (fun j hj => hF _ (by omega)) w3 RA.out PA.out).mono ?_
       rintro e w4 ⟨⟨v, rfl⟩, r4, b4⟩
       have RB := Lib.hid r4
       have WB := Lib.hid ((b4.same _ (lt_of_block WA.out) (by omega)).trans WA.out)
       have UB := Lib.hid (b4.blk UA.out (by omega))
       have BB := Lib.hid (BA.out.trans b4)
       have PB := Lib.hid (PA.out.but b4)
       clear r4 b4 RA WA TA UA BA PA))
    have HG := Lib.hid (endG_is false R n t u t u off r N F rfl rfl hoff hr)
    have hGl : ∀ j, j < 16 → swK off (put F off 16 (wB false R n t (fun j => F (off + j)))) r (off + j) < 256 := fun j hj => by
      have kk := wB_key (b := false) hR ht (f := fun j => F (off + j)) (fun j hj => hF _ (by omega))
      unfold swK
      by_cases h : j < r
      · rw [if_neg (by omega), if_pos (by omega)]; unfold put; rw [if_neg (by omega)]; exact hF _ (by omega)
      · rw [if_neg (by omega), if_neg (by omega)]; unfold put; rw [if_pos (by omega)]; exact kk _ (by omega)
    have hGb : ∀ p, p < N → put F off 16 (wB false R n t (fun j => F (off + j))) p < 256 := fun p hp => by
      have kk := wB_key (b := false) hR ht (f := fun j => F (off + j)) (fun j hj => hF _ (by omega))
      unfold put; split
      · exact kk _ (by omega)
      · exact hF _ hp
    have HL := Lib.hid hGl; have HGB := Lib.hid hGb
    clear hGl hGb hF
    generalize put F off 16 (wB false R n t (fun j => F (off + j))) = G at *
    go_loopw [23] (fun vk wr => ∃ k : Nat, k ≤ r ∧ vk = .int .i64 k ∧ IntBlk wr B .u8 ty (mk N (swK off G k)) ∧ But B w4 wr) (fun vk _ => r - (intOf vk).toNat)
    case atStart => exact ⟨0, by omega, rfl, by rw [swK_zero]; exact RB.out, ⟨Below.refl _ _, fun _ _ _ => rfl⟩⟩
    case round =>
      clear RB
      obtain ⟨k, hk, rfl, ha, hb⟩ := hrel
      have HA := Lib.hid ha; have HB := Lib.hid hb
      by_cases hkr : k < r
      · have c2 := ha.cell (i := off + 16 + k) (by rw [mk_len]; omega)
        rw [mk_get (by omega), swK_left] at c2
        have c3 := ha.cell (i := off + k) (by rw [mk_len]; omega)
        rw [mk_get (by omega), swK_here G (by omega)] at c3
        have f2 := ha.free (off + 16 + k)
        have f3 := ha.free (off + k)
        have e1 : (k : Int) < r := by omega
        have e2 : (k : Int) < 16 + r := by omega
        have e3 : (k : Int) < ((16 + r : Nat) : Int) := by omega
        have e4 : (0 : Int) ≤ k := by omega
        clear ha hb
        go_wp2
        go_roundw
        case rel => exact ⟨k + 1, by omega, by go_num, by rw [← swK_step G (by omega)]; exact (HA.out.set (off + 16 + k) _).set (off + k) _, HB.out.trans ((But.setCell B _ _ _).trans (But.setCell B _ _ _))⟩
        case measure => simp [intOf]; omega
      · have ek : k = r := by omega
        have e1 : decide ((k : Int) < (r : Int)) = false := by simp; omega
        have e2 : decide (k < r) = false := by simp; omega
        have e3 : ¬ k < r := by omega
        rw [ek] at HA
        have WC := Lib.hid ((hb.same _ (lt_of_block WB.out) (by omega)).trans WB.out)
        have UC := Lib.hid (hb.blk UB.out (by omega))
        have BC := Lib.hid (BB.out.trans hb)
        have PC := Lib.hid (PB.out.but hb)
        clear ha hb HB WB UB BB PB ek hkr
        go_wp2_with (first
        | (refine wpList_load_row rfl 75 _ rfl w.heap.size rfl 75 (wayS false p n cap) (0, 0) _ WC.out Try.underlying75 rfl (waySize _ _ _ _) ?_)
        | (refine wpList_load_row rfl 25 _ rfl (w.heap.size + 1 + 1) rfl 25 (cellsOf .u8 (mk 16 u)) (0, 0) _ UC.out keyUnder rfl (keySize u) ?_)
        | (go_at_call 66
           refine (place_any false p n cap R u hR hu hn B off (16 + r) lcap N (swK off G r) ty (by omega) (by omega) HL.out wr HA.out PC.out).mono ?_
           rintro e w5 ⟨⟨v5, rfl⟩, r5, b5⟩
           rw [HG.out] at r5
           have b6 := BC.out.trans b5))
        go_end0
        exact ⟨⟨_, rfl⟩, r5, b6⟩
  case true =>
    go_wp2_with (first
    | (refine wpList_load_row rfl 25 _ rfl (w.heap.size + 1 + 1) rfl 25 (cellsOf .u8 (mk 16 u)) (0, 0) _ U0.out keyUnder rfl (keySize u) ?_)
    | (refine wpList_load_row rfl 25 _ rfl (w.heap.size + 1) rfl 25 (cellsOf .u8 (mk 16 t)) (0, 0) _ T0.out keyUnder rfl (keySize t) ?_)
    | (refine store_row_on rfl 25 _ _ rfl rfl (w.heap.size + 1) (cellsOf .u8 (mk 16 u)) rfl rfl 25 (cellsOf .u8 (mk 16 t)) T0.out (keySize _) (by rw [cellsOf_size, cellsOf_size, mk_len, mk_len]) (cellsOf_one _ _) ?_
       have t1 := T0.out.setRow .u8 (mk 16 u)
       have u1 := U0.out.otherRow (C := w.heap.size + 1) (by omega) (cellsOf .u8 (mk 16 u))
       have r1 := R0.out.otherRow (C := w.heap.size + 1) (by omega) (cellsOf .u8 (mk 16 u))
       have w1 := (setRow_other _ (w.heap.size + 1) w.heap.size (cellsOf .u8 (mk 16 u)) (by omega)).trans W0.out
       have b1 := below_setRow (g := w.heap.size + 1) B0.out (by omega) (cellsOf .u8 (mk 16 u))
       generalize World.setRow (((w.alloc (.cells (wayS true p n cap) 75)).alloc (.cells (cellsOf .u8 (mk 16 t)) 25)).alloc (.cells (cellsOf .u8 (mk 16 u)) 25)) _ _ = w2 at *
       have T1 := Lib.hid t1; have U1 := Lib.hid u1; have R1 := Lib.hid r1; have W1 := Lib.hid w1; have B1 := Lib.hid b1
       clear t1 u1 r1 w1 b1 T0 U0 W0 R0 B0 P0 c1)
    | (refine store_row_on rfl 25 _ _ rfl rfl (w.heap.size + 1 + 1) (cellsOf .u8 (mk 16 t)) rfl rfl 25 (cellsOf .u8 (mk 16 u)) U1.out (keySize _) (by rw [cellsOf_size, cellsOf_size, mk_len, mk_len]) (cellsOf_one _ _) ?_
       have u2 := U1.out.setRow .u8 (mk 16 t)
       have t2 := T1.out.otherRow (C := w.heap.size + 1 + 1) (by omega) (cellsOf .u8 (mk 16 t))
       have r2 := R1.out.otherRow (C := w.heap.size + 1 + 1) (by omega) (cellsOf .u8 (mk 16 t))
       have w2 := (setRow_other _ (w.heap.size + 1 + 1) w.heap.size (cellsOf .u8 (mk 16 t)) (by omega)).trans W1.out
       have b2 := below_setRow (g := w.heap.size + 1 + 1) B1.out (by omega) (cellsOf .u8 (mk 16 t))
       generalize World.setRow _ _ _ = w3 at *
       have TA := Lib.hid t2; have UA := Lib.hid u2; have RA := Lib.hid r2; have WA := Lib.hid w2
       have BA := Lib.hid (But.of (B := B) b2)
       have PA := Lib.hid (HP.out.below b2)
       clear t2 u2 r2 w2 b2 T1 U1 R1 W1 B1)
    | (refine wpList_load_row rfl 75 _ rfl w.heap.size rfl 75 (wayS true p n cap) (0, 0) _ WA.out Try.underlying75 rfl (waySize _ _ _ _) ?_)
    | (refine wpList_load_row rfl 25 _ rfl (w.heap.size + 1) rfl 25 (cellsOf .u8 (mk 16 u)) (0, 0) _ TA.out keyUnder rfl (keySize u) ?_)
    | (go_at_call 66
       refine (place_any true p n cap R u hR hu hn B off (16 + r) lcap N F ty (by omega) (by omega) (fun j hj => hF _ (by omega)) w3 RA.out PA.out).mono ?_
       rintro e w4 ⟨⟨v, rfl⟩, r4, b4⟩
       have RB := Lib.hid r4
       have WB := Lib.hid ((b4.same _ (lt_of_block WA.out) (by omega)).trans WA.out)
       have UB := Lib.hid (b4.blk UA.out (by omega))
       have BB := Lib.hid (BA.out.trans b4)
       have PB := Lib.hid (PA.out.but b4)
       clear r4 b4 RA WA TA UA BA PA))
    have HG := Lib.hid (endG_is true R n t u u t off r N F rfl rfl hoff hr)
    have hGl : ∀ j, j < 16 → swK off (put F off 16 (wB true R n u (fun j => F (off + j)))) r (off + j) < 256 := fun j hj => by
      have kk := wB_key (b := true) hR hu (f := fun j => F (off + j)) (fun j hj => hF _ (by omega))
      unfold swK
      by_cases h : j < r
      · rw [if_neg (by omega), if_pos (by omega)]; unfold put; rw [if_neg (by omega)]; exact hF _ (by omega)
      · rw [if_neg (by omega), if_neg (by omega)]; unfold put; rw [if_pos (by omega)]; exact kk _ (by omega)
    have hGb : ∀ p, p < N → put F off 16 (wB true R n u (fun j => F (off + j))) p < 256 := fun p hp => by
      have kk := wB_key (b := true) hR hu (f := fun j => F (off + j)) (fun j hj => hF _ (by omega))
      unfold put; split
      · exact kk _ (by omega)
      · exact hF _ hp
    have HL := Lib.hid hGl; have HGB := Lib.hid hGb
    clear hGl hGb hF
    generalize put F off 16 (wB true R n u (fun j => F (off + j))) = G at *
    go_loopw [23] (fun vk wr => ∃ k : Nat, k ≤ r ∧ vk = .int .i64 k ∧ IntBlk wr B .u8 ty (mk N (swK off G k)) ∧ But B w4 wr) (fun vk _ => r - (intOf vk).toNat)
    case atStart => exact ⟨0, by omega, rfl, by rw [swK_zero]; exact RB.out, ⟨Below.refl _ _, fun _ _ _ => rfl⟩⟩
    case round =>
      clear RB
      obtain ⟨k, hk, rfl, ha, hb⟩ := hrel
      have HA := Lib.hid ha; have HB := Lib.hid hb
      by_cases hkr : k < r
      · have c2 := ha.cell (i := off + 16 + k) (by rw [mk_len]; omega)
        rw [mk_get (by omega), swK_left] at c2
        have c3 := ha.cell (i := off + k) (by rw [mk_len]; omega)
        rw [mk_get (by omega), swK_here G (by omega)] at c3
        have f2 := ha.free (off + 16 + k)
        have f3 := ha.free (off + k)
        have e1 : (k : Int) < r := by omega
        have e2 : (k : Int) < 16 + r := by omega
        have e3 : (k : Int) < ((16 + r : Nat) : Int) := by omega
        have e4 : (0 : Int) ≤ k := by omega
        clear ha hb
        go_wp2
        go_roundw
        case rel => exact ⟨k + 1, by omega, by go_num, by rw [← swK_step G (by omega)]; exact (HA.out.set (off + 16 + k) _).set (off + k) _, HB.out.trans ((But.setCell B _ _ _).trans (But.setCell B _ _ _))⟩
        case measure => simp [intOf]; omega
      · have ek : k = r := by omega
        have e1 : decide ((k : Int) < (r : Int)) = false := by simp; omega
        have e2 : decide (k < r) = false := by simp; omega
        have e3 : ¬ k < r := by omega
        rw [ek] at HA
        have WC := Lib.hid ((hb.same _ (lt_of_block WB.out) (by omega)).trans WB.out)
        have UC := Lib.hid (hb.blk UB.out (by omega))
        have BC := Lib.hid (BB.out.trans hb)
        have PC := Lib.hid (PB.out.but hb)
        clear ha hb HB WB UB BB PB ek hkr
        go_wp2_with (first
        | (refine wpList_load_row rfl 75 _ rfl w.heap.size rfl 75 (wayS true p n cap) (0, 0) _ WC.out Try.underlying75 rfl (waySize _ _ _ _) ?_)
        | (refine wpList_load_row rfl 25 _ rfl (w.heap.size + 1 + 1) rfl 25 (cellsOf .u8 (mk 16 t)) (0, 0) _ UC.out keyUnder rfl (keySize t) ?_)
        | (go_at_call 66
           refine (place_any true p n cap R t hR ht hn B off (16 + r) lcap N (swK off G r) ty (by omega) (by omega) HL.out wr HA.out PC.out).mono ?_
           rintro e w5 ⟨⟨v5, rfl⟩, r5, b5⟩
           rw [HG.out] at r5
           have b6 := BC.out.trans b5))
        go_end0
        exact ⟨⟨_, rfl⟩, r5, b6⟩
end Go.Proofs.Ytklnnmlegagfoaa

/- The contract of package tweak's text: a text turned, in memory of its own. Conditions: from 16 to 65536 bytes; the way's round keys lie behind its pointer. -/
namespace Go.Proofs.Ytklnnmlegagfoaa
open Go.ChangeShapes Go.WideShapes Go.ChangeAt Go.RowKit Go.Shelf
attribute [local go_sem] Oper.semAt_some

/-- How many blocks are turned alone. -/
def aloneN (N : Nat) : Nat := if N % 16 = 0 then N / 16 else N / 16 - 1
theorem endG_txt (b : Bool) (R : Nat → Nat → Nat) (T : Nat) (t : Nat → Nat) (N : Nat) (F : Nat → Nat) (h0 : N % 16 ≠ 0) (h16 : 16 ≤ N) :
    mk N (endG b R T (twk t (N / 16 - 1)) (twk t (N / 16)) (16 * (N / 16 - 1)) (N % 16) (hidW b R T t (N / 16 - 1) F)) = mk N (txtW b R T t N F) := mk_ext fun p hp => by
  have eC : EqK (wB b R T (if b then twk t (N / 16) else twk t (N / 16 - 1)) (fun j => hidW b R T t (N / 16 - 1) F (16 * (N / 16 - 1) + j))) (endC b R T t (N / 16) F) :=
    eq_wB b R T _ (fun j _ => hidW_far (by omega))
  have eD : EqK (wB b R T (if b then twk t (N / 16 - 1) else twk t (N / 16)) (mixB (N % 16) (fun j => hidW b R T t (N / 16 - 1) F (16 * (N / 16 - 1) + 16 + j)) (wB b R T (if b then twk t (N / 16) else twk t (N / 16 - 1)) (fun j => hidW b R T t (N / 16 - 1) F (16 * (N / 16 - 1) + j))))) (endD b R T t (N / 16) (N % 16) F) :=
    eq_wB b R T _ (fun j hj => by
      unfold mixB
      by_cases h : j < N % 16
      · rw [if_pos h, if_pos h]
        show hidW b R T t (N / 16 - 1) F (16 * (N / 16 - 1) + 16 + j) = F (16 * (N / 16) + j)
        rw [hidW_far (by omega), show 16 * (N / 16 - 1) + 16 + j = 16 * (N / 16) + j by omega]
      · rw [if_neg h, if_neg h]; exact eC j hj)
  unfold endG txtW
  rw [if_neg h0]
  by_cases h1 : p < 16 * (N / 16 - 1)
  · rw [if_pos h1, if_neg (by omega), if_neg (by omega)]
  · rw [if_neg h1]
    by_cases h2 : p < 16 * (N / 16)
    · rw [if_pos h2, if_pos (by omega)]; exact eD _ (by omega)
    · rw [if_neg h2, if_neg (by omega), if_pos (by omega), show p - (16 * (N / 16 - 1) + 16) = p - 16 * (N / 16) by omega]; exact eC _ (by omega)
theorem hidW_place (N : Nat) (b : Bool) (R : Nat → Nat → Nat) (T : Nat) (t : Nat → Nat) (i : Nat) (g : Nat → Nat) : mk N (put (hidW b R T t i g) (16 * i) 16 (wB b R T (twk t i) (fun j => hidW b R T t i g (16 * i + j)))) = mk N (hidW b R T t (i + 1) g) := by
  rw [← hidW_step]
  refine mk_ext fun p _ => ?_
  unfold put
  by_cases h : 16 * i ≤ p ∧ p < 16 * i + 16
  · rw [if_pos h, if_pos h]; exact eq_wB b R T _ (fun j _ => hidW_far (by omega)) _ (by omega)
  · rw [if_neg h, if_neg h]
theorem hidW_lt {b : Bool} {R : Nat → Nat → Nat} {T : Nat} {t : Nat → Nat} {N a : Nat} {F : Nat → Nat} (hR : ∀ i, i < T → IsKey (R i)) (ht : IsKey t) (hF : ∀ p, p < N → F p < 256) (ha : 16 * a ≤ N) : ∀ p, p < N → hidW b R T t a F p < 256 := fun p hp => by
  unfold hidW; split
  · exact wB_key hR (twk_key ht _) (blk_key hF (by omega)) _ (by omega)
  · exact hF p hp
/-- What before holds ahead of round i. -/
def befK (t : Nat → Nat) (i : Nat) : Nat → Nat := if i = 0 then zeroK else twk t (i - 1)
theorem KeysOff.here {D : Nat} {w V : World} {p : Option Addr} {n : Nat} {R : Nat → Nat → Nat} (h : KeysAt w p n R) (hb : Below w.heap.size w V) (hD : w.heap.size ≤ D) : KeysOff D V p n R := by
  rcases h with h | ⟨C, o, hp, hC, hc⟩
  · exact .inl h
  · exact .inr ⟨C, o, hp, Nat.lt_of_lt_of_le hC hb.size, by omega, fun i hi => (hc i hi).below hb hC⟩
/-- Ahead of round i: the text, its first blocks turned; and what the loop reads. -/
structure TxI (w : World) (S : Nat) (b : Bool) (p : Option Addr) (n cap : Nat) (R : Nat → Nat → Nat) (t : Nat → Nat) (N : Nat) (g : Nat → Nat) (m a : Nat) (i : Nat) (V : World) : Prop where
  le : i ≤ m
  way : V.heap[S]? = some (.cells (wayS b p n cap) 75 (0, 0))
  row : IntBlk V (S + 1 + 1) .u8 5 (mk N (hidW b R n t (min i a) g))
  head : V.heap[S + 3]? = some (.cells #[.slice (some ⟨S + 1 + 1, 0, none⟩) N N] 22 (0, 0))
  whole : IntBlk V (S + 4) .i64 3 [((m : Nat) : Int)]
  alone : IntBlk V (S + 4 + 1) .i64 3 [((a : Nat) : Int)]
  before : IntBlk V (S + 4 + 1 + 1) .u8 25 (mk 16 (befK t i))
  first : IntBlk V (S + 7) .u8 25 (mk 16 t)
  low : Below S w V
  big : S + 8 ≤ V.heap.size
theorem TxI.below {w : World} {S : Nat} {b : Bool} {p : Option Addr} {n cap : Nat} {R : Nat → Nat → Nat} {t : Nat → Nat} {N : Nat} {g : Nat → Nat} {m a i : Nat} {V V' : World} (h : TxI w S b p n cap R t N g m a i V) (hb : Below (S + 8) V V') : TxI w S b p n cap R t N g m a i V' :=
  ⟨h.le, (hb.block _ (by omega)).trans h.way, h.row.below hb (by omega), (hb.block _ (by omega)).trans h.head, h.whole.below hb (by omega), h.alone.below hb (by omega), h.before.below hb (by omega), h.first.below hb (by omega), h.low.trans (hb.mono (by omega)), Nat.le_trans h.big hb.size⟩
theorem befK_zero (t : Nat → Nat) : befK t 0 = zeroK := if_pos rfl
theorem befK_next (t : Nat → Nat) (i : Nat) : befK t (i + 1) = twk t i := if_neg (by omega)
theorem txI_start {w w4 : World} {b : Bool} {p : Option Addr} {n cap : Nat} {R : Nat → Nat → Nat} {t : Nat → Nat} {N : Nat} {g : Nat → Nat} {v1 v2 : Int} (s1 : w4.heap.size = w.heap.size + 4) (Z1 : IntBlk w4 (w.heap.size + 1 + 1) .u8 5 (mk N g)) (Y1 : w4.heap[w.heap.size]? = some (.cells (wayS b p n cap) 75 (0, 0)))
    (X1 : w4.heap[w.heap.size + 3]? = some (.cells #[.slice (some ⟨w.heap.size + 1 + 1, 0, none⟩) N N] 22 (0, 0))) (B1 : Below w.heap.size w w4) (h1 : v1 = ((N / 16 : Nat) : Int)) (h2 : v2 = ((aloneN N : Nat) : Int)) :
    TxI w w.heap.size b p n cap R t N g (N / 16) (aloneN N) 0 ((((w4.alloc (.cells #[.int .i64 v1] 3)).alloc (.cells #[.int .i64 v2] 3)).alloc (.cells (cellsOf .u8 (mk 16 zeroK)) 25)).alloc (.cells (cellsOf .u8 (mk 16 t)) 25)) := by
  subst h1 h2
  have bb := below_four w4 (.cells #[.int .i64 ((N / 16 : Nat) : Int)] 3) (.cells #[.int .i64 ((aloneN N : Nat) : Int)] 3) (.cells (cellsOf .u8 (mk 16 zeroK)) 25) (.cells (cellsOf .u8 (mk 16 t)) 25)
  refine ⟨Nat.zero_le _, ?way, ?row, ?head, ?whole, ?alone, ?before, ?first, ?low, ?big⟩
  case way => exact (bb.block _ (by omega)).trans Y1
  case row => rw [Nat.zero_min, hidW_zero]; exact Z1.below bb (by omega)
  case head => exact (bb.block _ (by omega)).trans X1
  case whole => rw [← s1]; exact (blk_first w4 .i64 _ [((N / 16 : Nat) : Int)] _ _).alloc _
  case alone => rw [← s1]; exact (blk_second w4 .i64 _ [((aloneN N : Nat) : Int)] _ _).alloc _
  case before => rw [← s1, befK_zero]; exact (blk_third w4 .u8 _ (mk 16 zeroK) _ _).alloc _
  case first => rw [show w.heap.size + 7 = w4.heap.size + 1 + 1 + 1 by omega]; exact blk_fourth w4 .u8 _ (mk 16 t) _ _ _
  case low => exact B1.trans (bb.mono (by omega))
  case big => simp; omega
theorem txI_next {w : World} {b : Bool} {p : Option Addr} {n cap : Nat} {R : Nat → Nat → Nat} {t : Nat → Nat} {N : Nat} {g : Nat → Nat} {m a i : Nat} {V V' : World} (h : TxI w w.heap.size b p n cap R t N g m a i V) (hi : i < m) (hb : But (w.heap.size + 1 + 1) V V') (hr : IntBlk V' (w.heap.size + 1 + 1) .u8 5 (mk N (hidW b R n t (min (i + 1) a) g))) :
    TxI w w.heap.size b p n cap R t N g m a (i + 1) (V'.setRow (w.heap.size + 4 + 1 + 1) (cellsOf .u8 (mk 16 (twk t i)))) := by
  have hbig := h.big
  refine ⟨hi, ?way, hr.otherRow (by omega) _, ?head, (hb.blk h.whole (by omega)).otherRow (by omega) _, (hb.blk h.alone (by omega)).otherRow (by omega) _, ?before, (hb.blk h.first (by omega)).otherRow (by omega) _, ?low, ?big⟩
  case way => exact (setRow_other V' _ _ _ (by omega)).trans ((hb.same _ (by omega) (by omega)).trans h.way)
  case head => exact (setRow_other V' _ _ _ (by omega)).trans ((hb.same _ (by omega) (by omega)).trans h.head)
  case before => rw [befK_next]; exact (hb.blk h.before (by omega)).setRow .u8 _
  case low => exact below_setRow (h.low.trans (hb.below (by omega) (by omega))) (by omega) _
  case big => have := hb.size; simp; omega
/-- The text is turned. -/
structure TxX (w : World) (S : Nat) (N : Nat) (G : Nat → Nat) (V : World) : Prop where
  row : IntBlk V (S + 1 + 1) .u8 5 (mk N G)
  head : V.heap[S + 3]? = some (.cells #[.slice (some ⟨S + 1 + 1, 0, none⟩) N N] 22 (0, 0))
  low : Below S w V
theorem TxX.below {w : World} {S : Nat} {N : Nat} {G : Nat → Nat} {V V' : World} (h : TxX w S N G V) (hb : Below (S + 8) V V') : TxX w S N G V' :=
  ⟨h.row.below hb (by omega), (hb.block _ (by omega)).trans h.head, h.low.trans (hb.mono (by omega))⟩
theorem txX_of {w : World} {b : Bool} {p : Option Addr} {n cap : Nat} {R : Nat → Nat → Nat} {t : Nat → Nat} {N : Nat} {g G : Nat → Nat} {m a i : Nat} {V V' : World} (h : TxI w w.heap.size b p n cap R t N g m a i V) (hb : But (w.heap.size + 1 + 1) V V') (hr : IntBlk V' (w.heap.size + 1 + 1) .u8 5 (mk N G)) : TxX w w.heap.size N G V' := by
  have hbig := h.big
  exact ⟨hr, (hb.same _ (by omega) (by omega)).trans h.head, h.low.trans (hb.below (by omega) (by omega))⟩
section
variable {o : Oper} {a : Act} {C : World → Prop} {K : Act → Prop}
theorem quiet_load_way (x : Operand) (ho : o.op = .load 75 x) (B : Nat) (b : Bool) (p : Option Addr) (n cap : Nat) (hx : a.eval x = .pointer (some ⟨B, 0, none⟩)) (hB : ∀ w, C w → w.heap[B]? = some (.cells (wayS b p n cap) 75 (0, 0)))
    (hk : K (a.put o.dst (.agg (wayS b p n cap)))) : o.quiet Try.prog a C K := by
  refine quiet_value _ (fun w hw => ?_) hk
  unfold execOp
  simp only [ho, hx, Instr.loadAt, Instr.sureAddr, Sem.run_bind, Sem.run_pure, Result.andThen_ok, run_loadVar_row w B 75 75 _ (0, 0) _ (hB w hw) Try.underlying75 rfl (waySize _ _ _ _)]
theorem quiet_int_times (x y : Operand) (ho : o.op = .binOp .mul 3 x y 3) (i j r : Int) (hx : a.eval x = .int .i64 i) (hy : a.eval y = .int .i64 j) (h : IntKind.i64.wrap (i * j) = r) (hk : K (a.put o.dst (.int .i64 r))) : o.quiet Try.prog a C K := by
  refine quiet_value _ (fun w _ => ?_) hk
  unfold execOp; simp only [ho, hx, hy]; simp [go_sem, h]
theorem quiet_from (x y : Operand) (ho : o.op = .slice 22 x (some y) none none) (B N k L : Nat) (hL : N - k = L) (z : Int) (hz : z = k) (hx : a.eval x = .slice (some ⟨B, 0, none⟩) N N) (hy : a.eval y = .int .i64 z) (hk1 : k < N) (hk : K (a.put o.dst (.slice (some ⟨B, k, none⟩) L L))) : o.quiet Try.prog a C K := by
  subst hz hL
  refine quiet_value _ (fun w _ => ?_) hk
  have e1 : (0 : Int) ≤ k := by omega
  have e2 : (k : Int) ≤ N := by omega
  have e3 : ¬ N = k := by omega
  have hs := byteElem.run_size (P := Try.prog) w
  have hr : (Instr.sliceAt 22 (.slice (some ⟨B, 0, none⟩) N N) (some (.int .i64 k)) none none).run Try.prog w = .ok (.slice (some ⟨B, k, none⟩) (N - k) (N - k)) w := by
    simp [go_sem, e1, e2, e3, hs, addr_add, Program.elem]
  unfold execOp
  simp only [ho, hx]
  simp [hy, hr]
end
theorem box_slice (w : World) : (isAgg 22).run Try.prog w = .ok false w := by simp [go_sem]
theorem box_int (w : World) : (isAgg 3).run Try.prog w = .ok false w := by simp [go_sem]
attribute [local irreducible] wB xorK swK put endG hidW txtW twk befK

set_option maxRecDepth 100000 in
set_option maxHeartbeats 16000000 in
theorem text_any (b : Bool) (p : Option Addr) (n cap : Nat) (R : Nat → Nat → Nat) (t : Nat → Nat) (hR : ∀ i, i < n → IsKey (R i)) (ht : IsKey t) (hn : n < 4294967296) (q : Option Addr) (N qcap : Nat) (g : Nat → Nat) (h16 : 16 ≤ N) (hN : N ≤ 65536) (hg : ∀ i, i < N → g i < 256) (w : World)
    (hp : KeysAt w p n R) (hq : BytesAt w q N g) :
    Calls Try.prog 53 #[.agg (wayS b p n cap), .agg (cellsOf .u8 (mk 16 t)), .slice q N qcap] w fun e w' => ∃ D, e = .returned (.slice (some ⟨D, 0, none⟩) N N) ∧ IntBlk w' D .u8 5 (mk N (txtW b R n t N g)) ∧ w.heap.size ≤ D ∧ Below w.heap.size w w' := by
  obtain ⟨Bq, oq, rfl, hlq, hcq⟩ : ∃ B o, q = some ⟨B, o, none⟩ ∧ B < w.heap.size ∧ Cells w B o N g := by
    rcases hq with h | h
    · omega
    · exact h
  refine (callsIn_wide (n := 3)).1 ?_
  refine callsIn_of_wp_marks Try.func53 rfl trivial ?_ rfl
  simp only [Try.ntmps53, List.size_toArray, List.length_cons, List.length_nil, Nat.reduceAdd, Nat.reduceSub, Array.replicate_succ, Array.replicate_zero, List.push_toArray, List.append_toArray, List.nil_append, List.cons_append]
  refine wpIn_wide.2 ?_
  have b3 := below_three w (.cells (wayS b p n cap) 75) (.cells (cellsOf .u8 (mk 16 t)) 25) (.cells (cellsOf .u8 (mk N zeroK)) 5)
  have w0 := (below_two (w.alloc (.cells (wayS b p n cap) 75)) (.cells (cellsOf .u8 (mk 16 t)) 25) (.cells (cellsOf .u8 (mk N zeroK)) 5)).block w.heap.size (by simp) |>.trans (heap_alloc_new _ _)
  have t0 := blk_second w .u8 25 (mk 16 t) (.cells (wayS b p n cap) 75) (.cells (cellsOf .u8 (mk N zeroK)) 5)
  have z0 := blk_third w .u8 5 (mk N zeroK) (.cells (wayS b p n cap) 75) (.cells (cellsOf .u8 (mk 16 t)) 25)
  have s0 : (((w.alloc (.cells (wayS b p n cap) 75)).alloc (.cells (cellsOf .u8 (mk 16 t)) 25)).alloc (.cells (cellsOf .u8 (mk N zeroK)) 5)).heap.size = w.heap.size + 3 := by simp
  have B0 := Lib.hid b3; have W0 := Lib.hid w0; have T0 := Lib.hid t0; have Z0 := Lib.hid z0
  have HCQ := Lib.hid hcq; have HP := Lib.hid hp
  clear b3 w0 t0 z0 hcq hp hq
  by_cases h0 : N % 16 = 0
  case' pos =>
    have hm : ((N : Int) % 16 != 0) = false := by simp; omega
    have hal : (N : Int) / 16 = ((aloneN N : Nat) : Int) := by unfold aloneN; rw [if_pos h0]; rfl
  case' neg =>
    have hm : ((N : Int) % 16 != 0) = true := by simp; omega
    have hal : (N : Int) / 16 - 1 = ((aloneN N : Nat) : Int) := by unfold aloneN; rw [if_neg h0]; omega
  all_goals
   have HAL := Lib.hid hal
   clear hal
   go_wp2
   go_step3
   go_wp2_with (first
     | (refine wpList_make_noughts rfl _ _ rfl N (by omega) rfl rfl ?_
        generalize (((w.alloc (.cells (wayS b p n cap) 75)).alloc (.cells (cellsOf .u8 (mk 16 t)) 25)).alloc (.cells (cellsOf .u8 (mk N zeroK)) 5)) = w3 at *)
     | (refine wpList_copy_part rfl _ _ 22 22 rfl 5 bytesUnder2 bytesInfo1 (w.heap.size + 1 + 1) 0 N N Bq oq N qcap N N zeroK g rfl rfl 5 ?q1 ?q2 ?q3 ?q4 ?_
        case q1 => exact Z0.out.alloc _
        case q2 => omega
        case q3 => exact (Nat.min_self N).symm
        case q4 => exact HCQ.out.below (B0.out.alloc (by omega) _) hlq
        rw [put_whole]
        have z1 := (Z0.out.alloc (.cells #[.slice (some ⟨w.heap.size + 1 + 1, 0, none⟩) N N] 22)).setRow .u8 (mk N g)
        have t1 := (T0.out.alloc (.cells #[.slice (some ⟨w.heap.size + 1 + 1, 0, none⟩) N N] 22)).otherRow (C := w.heap.size + 1 + 1) (by omega) (cellsOf .u8 (mk N g))
        have y1 := (setRow_other (w3.alloc (.cells #[.slice (some ⟨w.heap.size + 1 + 1, 0, none⟩) N N] 22)) (w.heap.size + 1 + 1) w.heap.size (cellsOf .u8 (mk N g)) (by omega)).trans ((heap_alloc_old w3 (.cells #[.slice (some ⟨w.heap.size + 1 + 1, 0, none⟩) N N] 22) (lt_of_block W0.out)).trans W0.out)
        have x1 := (setRow_other (w3.alloc (.cells #[.slice (some ⟨w.heap.size + 1 + 1, 0, none⟩) N N] 22)) (w.heap.size + 1 + 1) w3.heap.size (cellsOf .u8 (mk N g)) (by omega)).trans (heap_alloc_new w3 (.cells #[.slice (some ⟨w.heap.size + 1 + 1, 0, none⟩) N N] 22))
        have b1 := below_setRow (g := w.heap.size + 1 + 1) (B0.out.alloc (by omega) (.cells #[.slice (some ⟨w.heap.size + 1 + 1, 0, none⟩) N N] 22)) (by omega) (cellsOf .u8 (mk N g))
        have s1 : (World.setRow (w3.alloc (.cells #[.slice (some ⟨w.heap.size + 1 + 1, 0, none⟩) N N] 22)) (w.heap.size + 1 + 1) (cellsOf .u8 (mk N g))).heap.size = w.heap.size + 4 := by simp; omega
        rw [s0] at x1
        generalize World.setRow _ _ _ = w4 at *
        have Z1 := Lib.hid z1; have T1 := Lib.hid t1; have Y1 := Lib.hid y1; have X1 := Lib.hid x1; have B1 := Lib.hid b1
        clear z1 t1 y1 x1 b1 Z0 T0 W0 B0 s0)
     )
   go_step3
   go_wp2_with (first
     | (refine wpList_load_row rfl 25 _ rfl (w.heap.size + 1) rfl 25 (cellsOf .u8 (mk 16 t)) (0, 0) _ (((T1.out.alloc _).alloc _).alloc _) keyUnder rfl (keySize _) ?_)
     | (go_at_call 17; refine (Tweaks_any _ _).mono ?_; rintro e w5 ⟨rfl, hw5⟩))
   have hI0 : TxI w w.heap.size b p n cap R t N g (N / 16) (aloneN N) 0 w5 := by
     subst hw5
     exact txI_start s1 Z1.out Y1.out X1.out B1.out rfl HAL.out
   have hs5 : w5.heap.size = w.heap.size + 8 := by subst hw5; simp; omega
   have HI := Lib.hid hI0
   clear hI0 hw5 T1 Z1 Y1 X1 B1 s1
   refine (wpIn_wide (n := 3)).1 ?_
   refine range_till rfl (by omega) (gf := 34) (lb := #[.pointer (some ⟨w.heap.size + 7, 0, none⟩)]) rfl trivial (enters_of Try.func34 (by kernel_rfl) rfl)
     (fun x : Nat => #[.int .i64 x, .agg (cellsOf .u8 (mk 16 (twk t x)))]) (fun _ i _ x => x = i) (N / 16 + 1) (TwR (N / 16 + 1) (w.heap.size + 7) t) (fun _ => rfl)
     (TxI w w.heap.size b p n cap R t N g (N / 16) (aloneN N)) (fun c V => c = .exit 0 ∧ TxX w w.heap.size N (txtW b R n t N g) V) ?rd ?st ?stx HI.out (tweaks_gives _ (N / 16 + 1) (w.heap.size + 7) t ht (by omega)) ?round ?done ?stop
   case rd => exact fun i V h => ⟨by have := h.le; omega, h.first⟩
   case st => exact fun i V V' h hb => h.below (by rw [hs5] at hb; exact hb)
   case stx => exact fun c V V' h hb => ⟨h.1, h.2.below (by rw [hs5] at hb; exact hb)⟩
   case done => exact fun D V hD h hd => absurd h.le (by omega)
   case stop =>
     rintro D c V hD ⟨rfl, hx⟩ hd
     have ch := cell_of_one hx.head
     have HX := Lib.hid hx; have HD := Lib.hid hd
     clear hx hd HI
     gi_wp2
     go_wp2
     refine ⟨by simp, .inl ⟨_, _, rfl, run_takeDeferred HD.out, ?_⟩⟩
     refine ⟨.slice (some ⟨w.heap.size + 1 + 1, 0, none⟩) N N, ?_, w.heap.size + 1 + 1, rfl, (World.putObj_heap_other (by omega)).trans HX.out.row, by omega, below_turn _ HX.out.low (by omega)⟩
     simp [results, Try.f53, go_sem]
   case round =>
     rintro l i0 i U hl hi hus hI rfl
     clear HI
     have HU := Lib.hid hI
     clear hI
     gi_wp2_with (first
       | (refine wpListIn_of_list rfl rfl rfl (store_row_on rfl 25 _ _ rfl rfl U.heap.size (cellsOf .u8 (mk 16 (twk t i))) rfl rfl 25 (cellsOf .u8 (mk 16 zeroK)) (IntBlk.new U .u8 _ (mk 16 zeroK)) (keySize _) (by rw [cellsOf_size, cellsOf_size, mk_len, mk_len]) (cellsOf_one _ _) (wpList_nil ⟨rfl, rfl, rfl⟩)) ?_))
     have P1 : IntBlk ((U.alloc (.cells (cellsOf .u8 (mk 16 zeroK)) 25)).setRow U.heap.size (cellsOf .u8 (mk 16 (twk t i)))) U.heap.size .u8 25 (mk 16 (twk t i)) := (IntBlk.new U .u8 _ (mk 16 zeroK)).setRow .u8 _
     have P2 : Below U.heap.size U ((U.alloc (.cells (cellsOf .u8 (mk 16 zeroK)) 25)).setRow U.heap.size (cellsOf .u8 (mk 16 (twk t i)))) := below_setRow ((Below.refl _ _).alloc (Nat.le_refl _) _) (Nat.le_refl _) _
     refine ⟨Aft.of_below _ P2, fun V hVs hVk0 hVb0 => ?_⟩
     have hVk : ∀ k, k ≠ w5.heap.size + 1 → V.heap[k]? = ((U.alloc (.cells (cellsOf .u8 (mk 16 zeroK)) 25)).setRow U.heap.size (cellsOf .u8 (mk 16 (twk t i)))).heap[k]? := hVk0
     have hVb : Below w5.heap.size ((U.alloc (.cells (cellsOf .u8 (mk 16 zeroK)) 25)).setRow U.heap.size (cellsOf .u8 (mk 16 (twk t i)))) V := hVb0
     clear hVk0 hVb0 hVs
     rw [hs5] at hVk hVb hus hl
     have HV := Lib.hid (HU.out.below ((P2.mono (by omega)).trans hVb))
     have KV := Lib.hid (show IntBlk V U.heap.size .u8 25 (mk 16 (twk t i)) from (hVk _ (by omega)).trans P1)
     clear P1 P2 hVk hVb HU
     generalize U.heap.size = T at *
     have hi2 : i ≤ N / 16 := by omega
     have kt := twk_key ht i
     have hal2 : aloneN N ≤ N / 16 := by unfold aloneN; split <;> omega
     have c1 := cell_of_one HV.out.alone
     have c2 := cell_of_one HV.out.whole
     have c3 := cell_of_one HV.out.head
     by_cases hia : i < aloneN N
     · have d1 : decide ((i : Int) < ((aloneN N : Nat) : Int)) = true := by simp; omega
       have m1 : min i (aloneN N) = i := by omega
       have m2 : min (i + 1) (aloneN N) = i + 1 := by omega
       have e16 : IntKind.i64.wrap ((i : Int) * 16) = ((16 * i : Nat) : Int) := by rw [IntWalk.i64_in _ (by omega)]; omega
       have hlt : 16 * i < N := by omega
       have E16 := Lib.hid e16
       clear e16
       gi_wp2
       refine round_class_tail 6 (fun w' => Below V.heap.size V w') (by kernel_rfl) (by kernel_rfl) rfl (by rintro ⟨_, _, h⟩; exact h) ((Below.refl _ _).drew) ?_
       simp only [List.take_succ_cons, List.take_zero, List.drop_succ_cons, List.drop_zero]
       iterate 6 (first
         | go_big_quiet_skip
         | (go_big_quiet_want
            first
              | (go_big_quiet_op; go_big_quiet_on)
              | ((first
                  | (refine quiet_load_way _ rfl w.heap.size b p n cap rfl (fun w' h => (h.block _ (lt_of_block HV.out.way)).trans HV.out.way) ?_)
                  | (refine quiet_lie 22 _ rfl ⟨w.heap.size + 3, 0, none⟩ (.slice (some ⟨w.heap.size + 1 + 1, 0, none⟩) N N) rfl box_slice (fun w' h => (h.cell (p := ⟨w.heap.size + 3, 0, none⟩) (lt_of_block HV.out.head)).trans (cell_of_one HV.out.head)) ?_)
                  | (refine quiet_int_times _ _ rfl i 16 ((16 * i : Nat) : Int) rfl rfl E16.out ?_)
                  | (refine quiet_from _ _ rfl (w.heap.size + 1 + 1) N (16 * i) _ rfl _ rfl rfl rfl hlt ?_)
                  | (refine quiet_load_row 25 _ rfl T .u8 (mk 16 (twk t i)) rfl 16 5 keyUnder (keySize _) (fun w' h => KV.out.below h KV.out.lt) ?_)); go_simp; go_big_quiet_on)))
       refine wpQuiet_nil ?_
       intro wx hwx
       have hrow := HV.out.row
       rw [m1] at hrow
       have hrx := hrow.below hwx hrow.lt
       have hkx := KeysOff.here (D := w.heap.size + 1 + 1) HP.out (HV.out.low.trans (hwx.mono HV.out.low.size)) (by omega)
       have KX := Lib.hid (KV.out.below hwx KV.out.lt)
       have hTV := KV.out.lt
       have PC := Lib.hid (place_any b p n cap R (twk t i) hR kt hn (w.heap.size + 1 + 1) (16 * i) (N - 16 * i) (N - 16 * i) N (hidW b R n t i g) 5 (by omega) (by omega) (fun j hj => hidW_lt hR ht hg (by omega) _ (by omega)) wx hrx hkx)
       have BX := Lib.hid (But.of (B := w.heap.size + 1 + 1) hwx)
       clear hrow hrx hkx hwx KV
       go_wp2_with (first
         | (go_at_call 66
            refine PC.out.mono ?_
            rintro e w6 ⟨⟨v6, rfl⟩, r6, b6⟩
            rw [hidW_place] at r6
            have R6 := Lib.hid r6
            have K6 := Lib.hid (b6.blk KX.out (by omega))
            have B6 := Lib.hid (BX.out.trans b6)
            clear r6 b6 PC KX BX))
       refine region_round rfl (by rintro ⟨_, _, h⟩; exact h) ?_
       go_wp2_with (first
         | (refine wpList_load_row rfl 25 _ rfl T rfl 25 (cellsOf .u8 (mk 16 (twk t i))) (0, 0) _ K6.out keyUnder rfl (keySize _) ?_)
         | (refine store_row_on rfl 25 _ _ rfl rfl (w.heap.size + 4 + 1 + 1) (cellsOf .u8 (mk 16 (twk t i))) rfl rfl 25 (cellsOf .u8 (mk 16 (befK t i))) (B6.out.blk HV.out.before (by omega)) (keySize _) (by rw [cellsOf_size, cellsOf_size, mk_len, mk_len]) (cellsOf_one _ _) ?_))
       have hA := (B6.out.aft (D := w5.heap.size) (by omega)).trans (⟨by simp, fun k hk _ => setRow_other w6 _ k _ (by omega)⟩ : Aft w5.heap.size w6 (w6.setRow (w.heap.size + 4 + 1 + 1) (cellsOf .u8 (mk 16 (twk t i)))))
       exact ⟨hA, txI_next HV.out (by omega) B6.out (by rw [m2]; exact R6.out)⟩
     · have d1 : decide ((i : Int) < ((aloneN N : Nat) : Int)) = false := by simp; omega
       by_cases him : i = N / 16
       · have d2 : ((i : Int) == ((N / 16 : Nat) : Int)) = true := by simp; omega
         by_cases hal3 : aloneN N < N / 16
         · have d3 : decide (((aloneN N : Nat) : Int) < ((N / 16 : Nat) : Int)) = true := by simp; omega
           have d4 : decide (aloneN N < N / 16) = true := by simp; omega
           try exact absurd hal3 (by unfold aloneN; rw [if_pos h0]; omega)
           all_goals
             have hr0 : N % 16 ≠ 0 := by intro h; unfold aloneN at hal3; rw [if_pos h] at hal3; omega
             have ea : aloneN N = N / 16 - 1 := by unfold aloneN; rw [if_neg hr0]
             have m1 : min i (aloneN N) = N / 16 - 1 := by omega
             have hk15 : 16 * aloneN N < N := by omega
             have hL : N - 16 * aloneN N = 16 + N % 16 := by omega
             have e16 : IntKind.i64.wrap (((aloneN N : Nat) : Int) * 16) = ((16 * aloneN N : Nat) : Int) := by rw [IntWalk.i64_in _ (by omega)]; omega
             have E16 := Lib.hid e16; have HL := Lib.hid hL; have EA := Lib.hid ea; have HIM := Lib.hid him; have M1 := Lib.hid m1; have HR0 := Lib.hid hr0; have HK15 := Lib.hid hk15
             have eb : befK t i = twk t (aloneN N) := by
               have h := befK_next t (aloneN N)
               rw [show aloneN N + 1 = i by omega] at h; exact h
             have HBf := Lib.hid (show IntBlk V (w.heap.size + 4 + 1 + 1) .u8 25 (mk 16 (twk t (aloneN N))) by rw [← eb]; exact HV.out.before)
             clear e16 hL ea him m1 eb hr0 hk15
             gi_wp2
             refine round_class_tail 7 (fun w' => Below V.heap.size V w') (by kernel_rfl) (by kernel_rfl) rfl (by rintro ⟨_, _, h⟩; exact h) ((Below.refl _ _).drew) ?_
             simp only [List.take_succ_cons, List.take_zero, List.drop_succ_cons, List.drop_zero]
             iterate 7 (first
               | go_big_quiet_skip
               | (go_big_quiet_want
                  first
                    | (go_big_quiet_op; go_big_quiet_on)
                    | ((first
                        | (refine quiet_load_way _ rfl w.heap.size b p n cap rfl (fun w' h => (h.block _ (lt_of_block HV.out.way)).trans HV.out.way) ?_)
                        | (refine quiet_lie 22 _ rfl ⟨w.heap.size + 3, 0, none⟩ (.slice (some ⟨w.heap.size + 1 + 1, 0, none⟩) N N) rfl box_slice (fun w' h => (h.cell (p := ⟨w.heap.size + 3, 0, none⟩) (lt_of_block HV.out.head)).trans (cell_of_one HV.out.head)) ?_)
                        | (refine quiet_lie 3 _ rfl ⟨w.heap.size + 4 + 1, 0, none⟩ (.int .i64 ((aloneN N : Nat) : Int)) rfl box_int (fun w' h => (h.cell (p := ⟨w.heap.size + 4 + 1, 0, none⟩) (lt_of_block HV.out.alone)).trans (cell_of_one HV.out.alone)) ?_)
                        | (refine quiet_int_times _ _ rfl ((aloneN N : Nat) : Int) 16 ((16 * aloneN N : Nat) : Int) rfl rfl E16.out ?_)
                        | (refine quiet_from _ _ rfl (w.heap.size + 1 + 1) N (16 * aloneN N) (16 + N % 16) HL.out _ rfl rfl rfl HK15.out ?_)
                        | (refine quiet_load_row 25 _ rfl (w.heap.size + 4 + 1 + 1) .u8 (mk 16 (twk t (aloneN N))) rfl 16 5 keyUnder (keySize _) (fun w' h => HBf.out.below h HBf.out.lt) ?_)
                        | (refine quiet_load_row 25 _ rfl T .u8 (mk 16 (twk t i)) rfl 16 5 keyUnder (keySize _) (fun w' h => KV.out.below h KV.out.lt) ?_)); go_simp; go_big_quiet_on)))
             refine wpQuiet_nil ?_
             intro wx hwx
             have hrow := HV.out.row
             rw [M1.out] at hrow
             have hrx := hrow.below hwx hrow.lt
             have hkx := KeysOff.here (D := w.heap.size + 1 + 1) HP.out (HV.out.low.trans (hwx.mono HV.out.low.size)) (by omega)
             have eao := EA.out; have hro := HR0.out; have him := HIM.out
             have PC := Lib.hid (end_any b p n cap R (twk t (N / 16 - 1)) (twk t i) hR (twk_key ht _) kt hn (w.heap.size + 1 + 1) (16 * (N / 16 - 1)) (N % 16) (16 + N % 16) N (hidW b R n t (N / 16 - 1) g) 5 (by omega) (by omega) (by omega) (by omega) (hidW_lt hR ht hg (by omega)) wx hrx hkx)
             have BX := Lib.hid (But.of (B := w.heap.size + 1 + 1) hwx)
             rw [← eao] at PC
             have EG := Lib.hid (endG_txt b R n t N g hro h16)
             rw [← eao, ← him] at EG
             clear hrow hrx hkx hwx KV HBf eao him hro
             go_wp2_with (first
               | (go_at_call 67
                  refine PC.out.mono ?_
                  rintro e w6 ⟨⟨v6, rfl⟩, r6, b6⟩
                  rw [EG.out] at r6
                  have R6 := Lib.hid r6
                  have B6 := Lib.hid (BX.out.trans b6)
                  clear r6 b6 PC BX EG))
             gi_wp2
             exact ⟨B6.out.aft (by omega), rfl, txX_of HV.out B6.out R6.out⟩
         · have d3 : decide (((aloneN N : Nat) : Int) < ((N / 16 : Nat) : Int)) = false := by simp; omega
           have d4 : decide (aloneN N < N / 16) = false := by simp; omega
           have hr0 : N % 16 = 0 := by
             rcases Nat.decEq (N % 16) 0 with h | h
             · exact absurd (show aloneN N < N / 16 by unfold aloneN; rw [if_neg h]; omega) hal3
             · exact h
           have ea : min i (aloneN N) = N / 16 := by unfold aloneN; rw [if_pos hr0]; omega
           have hrow := HV.out.row
           rw [ea, ← txtW_whole hr0] at hrow
           have HX := Lib.hid (txX_of HV.out ⟨Below.refl _ _, fun _ _ _ => rfl⟩ hrow)
           clear hrow
           try exact absurd hr0 h0
           all_goals gi_wp2
           all_goals exact ⟨Aft.refl _ _, rfl, HX.out⟩
       · have d2 : ((i : Int) == ((N / 16 : Nat) : Int)) = false := by simp; omega
         have m2 : min (i + 1) (aloneN N) = min i (aloneN N) := by
           rcases Nat.decEq (N % 16) 0 with h | h
           · unfold aloneN at *; rw [if_neg h] at *; omega
           · unfold aloneN at *; rw [if_pos h] at *; omega
         have hnx := txI_next HV.out (by omega) (⟨Below.refl _ _, fun _ _ _ => rfl⟩ : But (w.heap.size + 1 + 1) V V) (by rw [m2]; exact HV.out.row)
         have HN := Lib.hid hnx
         have BF := Lib.hid HV.out.before
         clear hnx m2
         gi_wp2_with (first
           | (refine wpListIn_of_list rfl rfl rfl (wpList_load_row rfl 25 _ rfl T rfl 25 (cellsOf .u8 (mk 16 (twk t i))) (0, 0) _ KV.out keyUnder rfl (keySize _) (wpList_nil ⟨rfl, rfl, rfl⟩)) ?_)
           | (refine wpListIn_of_list rfl rfl rfl (store_row_on rfl 25 _ _ rfl rfl (w.heap.size + 4 + 1 + 1) (cellsOf .u8 (mk 16 (twk t i))) rfl rfl 25 (cellsOf .u8 (mk 16 (befK t i))) BF.out (keySize _) (by rw [cellsOf_size, cellsOf_size, mk_len, mk_len]) (cellsOf_one _ _) (wpList_nil ⟨rfl, rfl, rfl⟩)) ?_))
         exact ⟨⟨by simp, fun k hk _ => setRow_other V _ k _ (by omega)⟩, HN.out⟩
end Go.Proofs.Ytklnnmlegagfoaa

/- Laws for slices of bytes taken of others: a beginning, an end. No condition but the bounds. -/
namespace Go.Proofs.Ytklnnmlegagfoaa
open Go.ChangeShapes Go.WideShapes Go.ChangeAt Go.RowKit

theorem run_upto (p : Option Addr) (n cap k : Nat) (hk : k ≤ cap) (w : World) : (Instr.sliceAt 22 (.slice p n cap) none (some (.int .i64 k)) none).run Try.prog w = .ok (.slice p k cap) w := by
  have hs := byteElem.run_size (P := Try.prog) w
  have e1 : (0 : Int) ≤ k := by omega
  have e2 : (k : Int) ≤ cap := by omega
  simp [go_sem, e1, e2, hs, Program.elem]
theorem run_tail (p : Option Addr) (n cap k : Nat) (hk : k ≤ n) (hn : n ≤ cap) (w : World) : ∃ p', (Instr.sliceAt 22 (.slice p n cap) (some (.int .i64 k)) none none).run Try.prog w = .ok (.slice p' (n - k) (cap - k)) w ∧ ∀ V g, BytesAt V p n g → BytesAt V p' (n - k) (fun j => g (k + j)) := by
  have hs := byteElem.run_size (P := Try.prog) w
  have e1 : (0 : Int) ≤ k := by omega
  have e2 : (k : Int) ≤ n := by omega
  refine ⟨if cap = k then p else p.map (·.add k), by simp [go_sem, e1, e2, hs, Program.elem], fun V g h => ?_⟩
  by_cases e : n - k = 0
  · exact .inl e
  · rw [if_neg (by omega)]
    rcases h with h | ⟨B, o, rfl, hB, hc⟩
    · omega
    · refine .inr ⟨B, o + k, by simp [addr_add], hB, fun j hj => ?_⟩
      rw [Nat.add_assoc]; exact hc (k + j) (by omega)
theorem BytesAt.upto {w : World} {p : Option Addr} {n k : Nat} {g : Nat → Nat} (h : BytesAt w p n g) (hk : k ≤ n) : BytesAt w p k g := by
  rcases h with h | ⟨B, o, hp, hB, hc⟩
  · exact .inl (by omega)
  · exact .inr ⟨B, o, hp, hB, fun j hj => hc j (by omega)⟩
section
variable {ops : Array Oper} {rest : List Oper} {o : Oper} {a : Act} {w : World} {Q : Exit → Act → World → Prop}
theorem wpList_upto (hgd : o.guard = none) (x y : Operand) (ho : o.op = .slice 22 x none (some y) none) (p : Option Addr) (n cap k : Nat) (z : Int) (hz : z = k) (hx : a.eval x = .slice p n cap) (hy : a.eval y = .int .i64 z) (hk : k ≤ cap)
    (h : wpList Try.prog ops Q rest (a.put o.dst (.slice p k cap)) w) : wpList Try.prog ops Q (o :: rest) a w := by
  subst hz
  refine wpList_plain hgd fun K hK => ?_
  have hr := run_upto p n cap k hk w
  unfold Oper.wp execOp
  simp only [ho, hx]
  simp [hy, hr]
  exact hK _ _ h
theorem wpList_tail (hgd : o.guard = none) (x y : Operand) (ho : o.op = .slice 22 x (some y) none none) (p : Option Addr) (n cap k : Nat) (z : Int) (hz : z = k) (hx : a.eval x = .slice p n cap) (hy : a.eval y = .int .i64 z) (hk : k ≤ n) (hn : n ≤ cap)
    (h : ∀ p', (∀ V g, BytesAt V p n g → BytesAt V p' (n - k) (fun j => g (k + j))) → wpList Try.prog ops Q rest (a.put o.dst (.slice p' (n - k) (cap - k))) w) : wpList Try.prog ops Q (o :: rest) a w := by
  subst hz
  obtain ⟨p', hr, hp⟩ := run_tail p n cap k hk hn w
  refine wpList_plain hgd fun K hK => ?_
  unfold Oper.wp execOp
  simp only [ho, hx]
  simp [hy, hr]
  exact hK _ _ (h p' hp)
end
end Go.Proofs.Ytklnnmlegagfoaa

/- The contracts of package tweak's turnText, Hide and Show. Conditions: the bytes are bytes; lengths are what a machine holds. -/
namespace Go.Proofs.Ytklnnmlegagfoaa
open Go.ChangeShapes Go.WideShapes Go.ChangeAt Go.RowKit

theorem cells_setCell {w : World} {B i : Nat} {cs : Array Value} {t : TypeId} {fr : Nat × Nat} (h : w.heap[B]? = some (.cells cs t fr)) (v : Value) : (w.setCell ⟨B, i, none⟩ v).heap[B]? = some (.cells (cs.setIfInBounds i v) t fr) := by
  have hlt := lt_of_block h
  have h' : w.heap[B] = .cells cs t fr := by simpa [Array.getElem?_eq_getElem hlt] using h
  show (w.heap.modify B _)[B]? = _
  rw [Array.getElem?_eq_getElem (by simpa using hlt), Array.getElem_modify_self, h']
  simp
attribute [local irreducible] txtW twF rkS wB

set_option maxRecDepth 100000 in
set_option maxHeartbeats 1000000 in
theorem turnText_rounds (b : Bool) (p : Option Addr) (n cap : Nat) (z : Int) (q : Option Addr) (tn tcap : Nat) (hn : n < 9223372036854775808) (hcap : n ≤ cap) (h16 : n / 2 ≠ 16) (h32 : n / 2 ≠ 32) (w : World) :
    Calls Try.prog 43 #[.agg (wayS b none 0 0), .slice p n cap, .int .i64 z, .slice q tn tcap] w fun e w' => e = .returned (.tuple #[.slice none 0 0, .iface 34 (.int .i64 3)]) ∧ Below w.heap.size w w' := by
  have hh : n / 2 ≤ cap := by omega
  go_enter Try.func43, Try.ntmps43
  go_wp2_with (first
    | (refine wpList_upto rfl _ _ rfl p n cap (n / 2) _ rfl rfl rfl hh ?_)
    | (go_at_call 49; refine (Rounds_bad p (n / 2) cap h16 h32 _).mono ?_; rintro e w1 ⟨rfl, rfl⟩))
  go_ret2
  exact ⟨rfl, (Below.refl _ w).alloc (Nat.le_refl _) _⟩

set_option maxRecDepth 100000 in
set_option maxHeartbeats 2000000 in
theorem turnText_odd (b : Bool) (p : Option Addr) (n cap N : Nat) (g : Nat → Nat) (z : Int) (q : Option Addr) (tn tcap : Nat) (hn : n / 2 = 4 * N) (hN : N = 4 ∨ N = 8) (hodd : n ≠ 8 * N) (hcap : n ≤ cap) (hg : ∀ i, i < n → g i < 256) (w : World) (hp : BytesAt w p n g) :
    Calls Try.prog 43 #[.agg (wayS b none 0 0), .slice p n cap, .int .i64 z, .slice q tn tcap] w fun e w' => e = .returned (.tuple #[.slice none 0 0, .iface 34 (.int .i64 3)]) ∧ Below w.heap.size w w' := by
  have hh : n / 2 ≤ cap := by omega
  have hh2 : n / 2 ≤ n := by omega
  have h16 : n - n / 2 ≠ 16 := by omega
  have h32 : n - n / 2 ≠ 32 := by omega
  have hnb : n < 9223372036854775808 := by omega
  have b0 := (Below.refl _ w).alloc (Nat.le_refl _) (.cells (wayS b none 0 0) 75)
  have RC := Lib.hid (Rounds_ok p (n / 2) cap N g hn hN hh (fun i hi => hg i (by omega)) _ ((hp.upto hh2).below b0))
  have B0 := Lib.hid b0
  clear hn hodd b0 hp
  go_enter Try.func43, Try.ntmps43
  go_wp2_with (first
    | (refine wpList_upto rfl _ _ rfl p n cap (n / 2) _ rfl rfl rfl hh ?_)
    | (refine wpList_tail rfl _ _ rfl p n cap (n / 2) _ rfl rfl rfl hh2 hcap ?_; intro p2 hp2)
    | (go_at_call 49; refine RC.out.mono ?_; rintro e w1 ⟨D, rfl, hk, hb⟩
       have B1 := Lib.hid (B0.out.trans (hb.mono B0.out.size))
       clear hk hb RC B0)
    | (go_at_call 12; refine (Tweak_bad p2 (n - n / 2) (cap - n / 2) z h16 h32 _).mono ?_; rintro e w2 ⟨rfl, hb2⟩
       have B2 := Lib.hid (B1.out.trans (hb2.mono B1.out.size))
       clear hb2 B1)
    | (refine store_row_on rfl 25 _ _ rfl rfl w2.heap.size (cellsOf .u8 (mk 16 zeroK)) rfl rfl 25 (cellsOf .u8 (mk 16 zeroK)) (IntBlk.new w2 .u8 _ (mk 16 zeroK)) (keySize _) rfl (cellsOf_one _ _) ?_))
  have B3 := below_setRow (g := w2.heap.size) (B2.out.alloc B2.out.size (.cells (cellsOf .u8 (mk 16 zeroK)) 25)) B2.out.size (cellsOf .u8 (mk 16 zeroK))
  go_ret2
  exact ⟨rfl, B3⟩

set_option maxRecDepth 100000 in
set_option maxHeartbeats 2000000 in
theorem turnText_form (b : Bool) (p : Option Addr) (n cap N : Nat) (g : Nat → Nat) (z : Int) (q : Option Addr) (tn tcap : Nat) (hn : n = 8 * N) (hN : N = 4 ∨ N = 8) (hcap : n ≤ cap) (hg : ∀ i, i < n → g i < 256) (ht : tn < 16 ∨ 65536 < tn) (w : World) (hp : BytesAt w p n g) :
    Calls Try.prog 43 #[.agg (wayS b none 0 0), .slice p n cap, .int .i64 z, .slice q tn tcap] w fun e w' => e = .returned (.tuple #[.slice none 0 0, .iface 34 (.int .i64 2)]) ∧ Below w.heap.size w w' := by
  have hh : n / 2 ≤ cap := by omega
  have hh2 : n / 2 ≤ n := by omega
  have h4 : n / 2 = 4 * N := by omega
  have h5 : n - n / 2 = 4 * N := by omega
  have hnb : n < 9223372036854775808 := by omega
  have b0 := (Below.refl _ w).alloc (Nat.le_refl _) (.cells (wayS b none 0 0) 75)
  have RC := Lib.hid (Rounds_ok p (n / 2) cap N g h4 hN hh (fun i hi => hg i (by omega)) _ ((hp.upto hh2).below b0))
  have HP := Lib.hid hp
  have TC := Lib.hid (fun (p2 : Option Addr) (w1 : World) (h : BytesAt w1 p2 (n - n / 2) (fun j => g (n / 2 + j))) => Tweak_ok p2 (n - n / 2) (cap - n / 2) N (fun j => g (n / 2 + j)) z h5 hN (by omega) (fun i hi => hg _ (by omega)) w1 h)
  have B0 := Lib.hid b0
  clear hn hN h4 h5 b0 hp hg
  rcases (show decide ((tn : Int) < 16) = true ∨ (decide ((tn : Int) < 16) = false ∧ decide ((65536 : Int) < (tn : Int)) = true) by simp; omega) with d1 | ⟨d1, d2⟩
  all_goals
    clear ht
    go_enter Try.func43, Try.ntmps43
    go_wp2_with (first
      | (refine wpList_upto rfl _ _ rfl p n cap (n / 2) _ rfl rfl rfl hh ?_)
      | (refine wpList_tail rfl _ _ rfl p n cap (n / 2) _ rfl rfl rfl hh2 hcap ?_; intro p2 hp2)
      | (go_at_call 49; refine RC.out.mono ?_; rintro e w1 ⟨D, rfl, hk, hb⟩
         have B1 := Lib.hid (B0.out.trans (hb.mono B0.out.size))
         clear hk hb RC B0)
      | (go_at_call 12; refine (TC.out p2 w1 (hp2 _ _ (HP.out.below B1.out))).mono ?_; rintro e w2 ⟨rfl, hb2⟩
         have B2 := Lib.hid (B1.out.trans (hb2.mono B1.out.size))
         clear hb2 B1 TC)
      | (refine store_row_on rfl 25 _ _ rfl rfl w2.heap.size (cellsOf .u8 (mk 16 (twF N (fun j => g (n / 2 + j)) z))) rfl rfl 25 (cellsOf .u8 (mk 16 zeroK)) (IntBlk.new w2 .u8 _ (mk 16 zeroK)) (keySize _) (by rw [cellsOf_size, cellsOf_size, mk_len, mk_len]) (cellsOf_one _ _) ?_))
    have B3 := below_setRow (g := w2.heap.size) (B2.out.alloc B2.out.size (.cells (cellsOf .u8 (mk 16 zeroK)) 25)) B2.out.size (cellsOf .u8 (mk 16 (twF N (fun j => g (n / 2 + j)) z)))
    go_ret2
    exact ⟨rfl, B3⟩

theorem keysOff_way {S : Nat} {w : World} {b : Bool} {q p : Option Addr} {m c n : Nat} {t : TypeId} {fr : Nat × Nat} {R : Nat → Nat → Nat} (h : KeysAt w p n R) (hy : w.heap[S]? = some (.cells (wayS b q m c) t fr)) : KeysOff S w p n R := by
  rcases h with h | ⟨C, o, hp, hC, hc⟩
  · exact .inl h
  · by_cases h0 : n = 0
    · exact .inl h0
    · refine .inr ⟨C, o, hp, hC, fun e => ?_, hc⟩
      subst e
      have h1 := hc 0 (by omega) 0 (by omega)
      rw [cell_of_row w C _ _ t fr hy] at h1
      unfold wayS at h1
      rcases (show o + 0 * 16 + 0 = 0 ∨ o + 0 * 16 + 0 = 1 ∨ o + 0 * 16 + 0 = 2 ∨ 3 ≤ o + 0 * 16 + 0 by omega) with e | e | e | e
      · rw [e] at h1; simp at h1
      · rw [e] at h1; simp at h1
      · rw [e] at h1; simp at h1
      · rw [Array.getElem?_eq_none (by simpa using e)] at h1; cases h1
theorem way_set (b : Bool) (p : Option Addr) (n cap : Nat) : (wayS b none 0 0).setIfInBounds 2 (.slice p n cap) = wayS b p n cap := rfl
set_option maxRecDepth 100000 in
set_option maxHeartbeats 2000000 in
theorem turnText_ok (b : Bool) (p : Option Addr) (n cap N : Nat) (g : Nat → Nat) (z : Int) (q : Option Addr) (tn tcap : Nat) (G : Nat → Nat) (hn : n = 8 * N) (hN : N = 4 ∨ N = 8) (hcap : n ≤ cap) (hg : ∀ i, i < n → g i < 256) (ht1 : 16 ≤ tn) (ht2 : tn ≤ 65536) (hG : ∀ i, i < tn → G i < 256) (w : World) (hp : BytesAt w p n g) (hq : BytesAt w q tn G) :
    Calls Try.prog 43 #[.agg (wayS b none 0 0), .slice p n cap, .int .i64 z, .slice q tn tcap] w fun e w' => ∃ D, e = .returned (.tuple #[.slice (some ⟨D, 0, none⟩) tn tn, .nilIface]) ∧ IntBlk w' D .u8 5 (mk tn (txtW b (rkS N g) (N + 7) (twF N (fun j => g (n / 2 + j)) z) tn G)) ∧ w.heap.size ≤ D ∧ Below w.heap.size w w' := by
  have hh : n / 2 ≤ cap := by omega
  have hh2 : n / 2 ≤ n := by omega
  have h4 : n / 2 = 4 * N := by omega
  have h5 : n - n / 2 = 4 * N := by omega
  have hnb : n < 9223372036854775808 := by omega
  have b0 := (Below.refl _ w).alloc (Nat.le_refl _) (.cells (wayS b none 0 0) 75)
  have RC := Lib.hid (Rounds_ok p (n / 2) cap N g h4 hN hh (fun i hi => hg i (by omega)) _ ((hp.upto hh2).below b0))
  have HP := Lib.hid hp
  have HQ := Lib.hid hq
  have TC := Lib.hid (fun (p2 : Option Addr) (w1 : World) (h : BytesAt w1 p2 (n - n / 2) (fun j => g (n / 2 + j))) => Tweak_ok p2 (n - n / 2) (cap - n / 2) N (fun j => g (n / 2 + j)) z h5 hN (by omega) (fun i hi => hg _ (by omega)) w1 h)
  have B0 := Lib.hid b0
  have Y0 := Lib.hid (heap_alloc_new w (.cells (wayS b none 0 0) 75))
  have kt : IsKey (twF N (fun j => g (n / 2 + j)) z) := twF_key z (fun i hi => hg _ (by omega))
  have hr : ∀ i, i < N + 7 → IsKey (rkS N g i) := fun i _ => rkS_key (fun i hi => hg i (by omega)) i
  have hT : N + 7 < 4294967296 := by omega
  have XC := Lib.hid (fun (D : Nat) (w1 : World) (hk : KeysAt w1 (some ⟨D, 0, none⟩) (N + 7) (rkS N g)) (h : BytesAt w1 q tn G) => text_any b (some ⟨D, 0, none⟩) (N + 7) (N + 7) (rkS N g) (twF N (fun j => g (n / 2 + j)) z) hr kt hT q tn tcap G ht1 ht2 hG w1 hk h)
  have d1 : decide ((tn : Int) < 16) = false := by simp; omega
  have d2 : decide ((65536 : Int) < (tn : Int)) = false := by simp; omega
  clear hn hN h4 h5 b0 hp hq hg hG kt hr hT ht1 ht2
  generalize twF N (fun j => g (n / 2 + j)) z = t at *
  generalize rkS N g = R at *
  generalize N + 7 = T at *
  go_enter Try.func43, Try.ntmps43
  go_wp2_with (first
    | (refine wpList_upto rfl _ _ rfl p n cap (n / 2) _ rfl rfl rfl hh ?_)
    | (refine wpList_tail rfl _ _ rfl p n cap (n / 2) _ rfl rfl rfl hh2 hcap ?_; intro p2 hp2)
    | (go_at_call 49; refine RC.out.mono ?_; rintro e w1 ⟨D, rfl, hk, hb⟩
       have B1 := Lib.hid (B0.out.trans (hb.mono B0.out.size))
       have K1 := Lib.hid hk
       have Y1 := Lib.hid ((hb.block _ (lt_of_block Y0.out)).trans Y0.out)
       clear hk hb RC B0 Y0)
    | (go_at_call 12; refine (TC.out p2 w1 (hp2 _ _ (HP.out.below B1.out))).mono ?_; rintro e w2 ⟨rfl, hb2⟩
       have B2 := Lib.hid (B1.out.trans (hb2.mono B1.out.size))
       have K2 := Lib.hid (K1.out.below hb2)
       have Y2 := Lib.hid ((hb2.block _ (lt_of_block Y1.out)).trans Y1.out)
       clear hb2 B1 K1 Y1 TC hp2 HP)
    | (refine store_row_on rfl 25 _ _ rfl rfl w2.heap.size (cellsOf .u8 (mk 16 t)) rfl rfl 25 (cellsOf .u8 (mk 16 zeroK)) (IntBlk.new w2 .u8 _ (mk 16 zeroK)) (keySize _) (by rw [cellsOf_size, cellsOf_size, mk_len, mk_len]) (cellsOf_one _ _) ?_
       have z3 := (IntBlk.new w2 .u8 25 (mk 16 zeroK)).setRow .u8 (mk 16 t)
       have e3 : Below w2.heap.size w2 ((w2.alloc (.cells (cellsOf .u8 (mk 16 zeroK)) 25)).setRow w2.heap.size (cellsOf .u8 (mk 16 t))) := below_setRow ((Below.refl _ w2).alloc (Nat.le_refl _) _) (Nat.le_refl _) _
       change wpList _ _ _ _ _ ((w2.alloc (.cells (cellsOf .u8 (mk 16 zeroK)) 25)).setRow w2.heap.size (cellsOf .u8 (mk 16 t)))
       generalize (w2.alloc (.cells (cellsOf .u8 (mk 16 zeroK)) 25)).setRow w2.heap.size (cellsOf .u8 (mk 16 t)) = w3 at *
       have Z3 := Lib.hid z3
       have hSw := lt_of_block Y2.out
       have B2s := Lib.hid hSw
       have B3 := Lib.hid (B2.out.trans (e3.mono B2.out.size))
       have K3 := Lib.hid (K2.out.below e3)
       have y3 := (e3.block _ hSw).trans Y2.out
       have Y3 := Lib.hid y3
       have cf := (cell_of_row w3 w.heap.size 2 _ _ _ y3)
       have ff := frozen_of_row w3 w.heap.size 2 _ _ y3
       clear z3 e3 y3 B2 K2 Y2 hSw)
    | (refine wpList_load_row rfl 75 _ rfl w.heap.size rfl 75 (wayS b (some ⟨D, 0, none⟩) T T) (0, 0) _ (by rw [← way_set]; exact cells_setCell Y3.out _) Try.underlying75 rfl (waySize _ _ _ _) ?_
       have z4 := Z3.out.other (a := ⟨w.heap.size, 2, none⟩) (by have := B2s.out; show w.heap.size ≠ w2.heap.size; omega) (.slice (some ⟨D, 0, none⟩) T T)
       have b4 := B3.out.setCell (p := ⟨w.heap.size, 2, none⟩) (Nat.le_refl _) (.slice (some ⟨D, 0, none⟩) T T)
       have k4 := ((keysOff_way K3.out Y3.out).but (But.setCell w.heap.size 2 w3 (.slice (some ⟨D, 0, none⟩) T T))).keys
       generalize w3.setCell ⟨w.heap.size, 2, none⟩ (.slice (some ⟨D, 0, none⟩) T T) = w4 at *
       have Z4 := Lib.hid z4; have B4 := Lib.hid b4
       have XD := Lib.hid (XC.out D w4 k4 (HQ.out.below b4))
       clear z4 b4 k4 XC Z3 B3 K3 Y3 HQ)
    | (refine wpList_load_row rfl 25 _ rfl w2.heap.size rfl 25 (cellsOf .u8 (mk 16 t)) (0, 0) _ Z4.out keyUnder rfl (keySize _) ?_)
    | (go_at_call 53; refine XD.out.mono ?_; rintro e w5 ⟨E, rfl, hr5, he5, hb5⟩
       have hw5 := B4.out.trans (hb5.mono B4.out.size)
       have hs4 := B4.out.size
       clear XD Z4 B4))
  go_ret2
  exact ⟨E, rfl, hr5, Nat.le_trans hs4 he5, hw5⟩
end Go.Proofs.Ytklnnmlegagfoaa

/- The contracts of package tweak's Hide and Show: a text turned, or an error. Conditions: the bytes are bytes; lengths are what a machine holds. -/
namespace Go.Proofs.Ytklnnmlegagfoaa
open Go.ChangeShapes Go.WideShapes Go.ChangeAt Go.RowKit
attribute [local irreducible] txtW twF rkS wB wayS

set_option maxRecDepth 100000 in
set_option maxHeartbeats 400000 in
theorem Hide_via (p : Option Addr) (n cap : Nat) (z : Int) (q : Option Addr) (tn tcap : Nat) (v2 : Value) (S : Value → World → World → Prop) (w : World)
    (hc : ∀ W, Below w.heap.size w W → Calls Try.prog 43 #[.agg (wayS false none 0 0), .slice p n cap, .int .i64 z, .slice q tn tcap] W fun e w' => ∃ v1, e = .returned (.tuple #[v1, v2]) ∧ S v1 W w' ∧ Below W.heap.size W w') :
    Calls Try.prog 24 #[.slice p n cap, .int .i64 z, .slice q tn tcap] w fun e w' => ∃ v1 W, e = .returned (.tuple #[v1, v2]) ∧ S v1 W w' ∧ Below w.heap.size w W ∧ Below w.heap.size w w' := by
  have HC := Lib.hid hc
  clear hc
  go_enter Try.func24, Try.ntmps24
  go_wp2_with (first
    | (go_at_call 38; refine (hiding_any _).mono ?_; rintro e w1 ⟨rfl, hb⟩
       have B1 := Lib.hid hb
       clear hb)
    | (go_at_call 43; refine (HC.out w1 B1.out).mono ?_; rintro e w2 ⟨v1, rfl, hs, hb2⟩
       have B2 := Lib.hid (B1.out.trans (hb2.mono B1.out.size))
       have S2 := Lib.hid hs
       clear hb2 hs))
  go_ret2
  exact ⟨v1, w1, rfl, S2.out, B1.out, B2.out⟩
/-- The key is none. -/
theorem Hide_key (p : Option Addr) (n cap : Nat) (g : Nat → Nat) (z : Int) (q : Option Addr) (tn tcap : Nat) (hn : n < 9223372036854775808) (hcap : n ≤ cap) (h32 : n ≠ 32) (h64 : n ≠ 64) (hg : ∀ i, i < n → g i < 256) (w : World) (hp : BytesAt w p n g) :
    Calls Try.prog 24 #[.slice p n cap, .int .i64 z, .slice q tn tcap] w fun e w' => e = .returned (.tuple #[.slice none 0 0, .iface 34 (.int .i64 3)]) ∧ Below w.heap.size w w' := by
  refine (Hide_via p n cap z q tn tcap (.iface 34 (.int .i64 3)) (fun v1 _ _ => v1 = .slice none 0 0) w (fun W h => ?_)).mono (fun e w' ⟨v1, W, he, hv, _, hb⟩ => ⟨by rw [he, hv], hb⟩)
  rcases (show (n / 2 ≠ 16 ∧ n / 2 ≠ 32) ∨ n / 2 = 4 * 4 ∨ n / 2 = 4 * 8 by omega) with hx | hx | hx
  · exact (turnText_rounds false p n cap z q tn tcap hn hcap hx.1 hx.2 W).mono fun e w' ⟨he, hb⟩ => ⟨_, he, rfl, hb⟩
  · exact (turnText_odd false p n cap 4 g z q tn tcap hx (.inl rfl) (by omega) hcap hg W (hp.below h)).mono fun e w' ⟨he, hb⟩ => ⟨_, he, rfl, hb⟩
  · exact (turnText_odd false p n cap 8 g z q tn tcap hx (.inr rfl) (by omega) hcap hg W (hp.below h)).mono fun e w' ⟨he, hb⟩ => ⟨_, he, rfl, hb⟩
/-- The text has a length that none has. -/
theorem Hide_form (p : Option Addr) (n cap N : Nat) (g : Nat → Nat) (z : Int) (q : Option Addr) (tn tcap : Nat) (hn : n = 8 * N) (hN : N = 4 ∨ N = 8) (hcap : n ≤ cap) (hg : ∀ i, i < n → g i < 256) (ht : tn < 16 ∨ 65536 < tn) (w : World) (hp : BytesAt w p n g) :
    Calls Try.prog 24 #[.slice p n cap, .int .i64 z, .slice q tn tcap] w fun e w' => e = .returned (.tuple #[.slice none 0 0, .iface 34 (.int .i64 2)]) ∧ Below w.heap.size w w' :=
  (Hide_via p n cap z q tn tcap (.iface 34 (.int .i64 2)) (fun v1 _ _ => v1 = .slice none 0 0) w (fun W h => (turnText_form false p n cap N g z q tn tcap hn hN hcap hg ht W (hp.below h)).mono fun e w' ⟨he, hb⟩ => ⟨_, he, rfl, hb⟩)).mono (fun e w' ⟨v1, W, he, hv, _, hb⟩ => ⟨by rw [he, hv], hb⟩)
theorem Hide_ok (p : Option Addr) (n cap N : Nat) (g : Nat → Nat) (z : Int) (q : Option Addr) (tn tcap : Nat) (G : Nat → Nat) (hn : n = 8 * N) (hN : N = 4 ∨ N = 8) (hcap : n ≤ cap) (hg : ∀ i, i < n → g i < 256) (ht1 : 16 ≤ tn) (ht2 : tn ≤ 65536) (hG : ∀ i, i < tn → G i < 256) (w : World) (hp : BytesAt w p n g) (hq : BytesAt w q tn G) :
    Calls Try.prog 24 #[.slice p n cap, .int .i64 z, .slice q tn tcap] w fun e w' => ∃ D, e = .returned (.tuple #[.slice (some ⟨D, 0, none⟩) tn tn, .nilIface]) ∧ IntBlk w' D .u8 5 (mk tn (txtW false (rkS N g) (N + 7) (twF N (fun j => g (n / 2 + j)) z) tn G)) ∧ w.heap.size ≤ D ∧ Below w.heap.size w w' :=
  (Hide_via p n cap z q tn tcap .nilIface (fun v1 W w' => ∃ D, v1 = .slice (some ⟨D, 0, none⟩) tn tn ∧ IntBlk w' D .u8 5 (mk tn (txtW false (rkS N g) (N + 7) (twF N (fun j => g (n / 2 + j)) z) tn G)) ∧ W.heap.size ≤ D) w
    (fun W h => (turnText_ok false p n cap N g z q tn tcap G hn hN hcap hg ht1 ht2 hG W (hp.below h) (hq.below h)).mono fun e w' ⟨D, he, hr, hs, hb⟩ => ⟨_, he, ⟨D, rfl, hr, hs⟩, hb⟩)).mono
    (fun e w' ⟨v1, W, he, ⟨D, hv, hr, hs⟩, hW, hb⟩ => ⟨D, by rw [he, hv], hr, Nat.le_trans hW.size hs, hb⟩)

set_option maxRecDepth 100000 in
set_option maxHeartbeats 400000 in
theorem Show_via (p : Option Addr) (n cap : Nat) (z : Int) (q : Option Addr) (tn tcap : Nat) (v2 : Value) (S : Value → World → World → Prop) (w : World)
    (hc : ∀ W, Below w.heap.size w W → Calls Try.prog 43 #[.agg (wayS true none 0 0), .slice p n cap, .int .i64 z, .slice q tn tcap] W fun e w' => ∃ v1, e = .returned (.tuple #[v1, v2]) ∧ S v1 W w' ∧ Below W.heap.size W w') :
    Calls Try.prog 29 #[.slice p n cap, .int .i64 z, .slice q tn tcap] w fun e w' => ∃ v1 W, e = .returned (.tuple #[v1, v2]) ∧ S v1 W w' ∧ Below w.heap.size w W ∧ Below w.heap.size w w' := by
  have HC := Lib.hid hc
  clear hc
  go_enter Try.func29, Try.ntmps29
  go_wp2_with (first
    | (go_at_call 39; refine (showing_any _).mono ?_; rintro e w1 ⟨rfl, hb⟩
       have B1 := Lib.hid hb
       clear hb)
    | (go_at_call 43; refine (HC.out w1 B1.out).mono ?_; rintro e w2 ⟨v1, rfl, hs, hb2⟩
       have B2 := Lib.hid (B1.out.trans (hb2.mono B1.out.size))
       have S2 := Lib.hid hs
       clear hb2 hs))
  go_ret2
  exact ⟨v1, w1, rfl, S2.out, B1.out, B2.out⟩
/-- The key is none. -/
theorem Show_key (p : Option Addr) (n cap : Nat) (g : Nat → Nat) (z : Int) (q : Option Addr) (tn tcap : Nat) (hn : n < 9223372036854775808) (hcap : n ≤ cap) (h32 : n ≠ 32) (h64 : n ≠ 64) (hg : ∀ i, i < n → g i < 256) (w : World) (hp : BytesAt w p n g) :
    Calls Try.prog 29 #[.slice p n cap, .int .i64 z, .slice q tn tcap] w fun e w' => e = .returned (.tuple #[.slice none 0 0, .iface 34 (.int .i64 3)]) ∧ Below w.heap.size w w' := by
  refine (Show_via p n cap z q tn tcap (.iface 34 (.int .i64 3)) (fun v1 _ _ => v1 = .slice none 0 0) w (fun W h => ?_)).mono (fun e w' ⟨v1, W, he, hv, _, hb⟩ => ⟨by rw [he, hv], hb⟩)
  rcases (show (n / 2 ≠ 16 ∧ n / 2 ≠ 32) ∨ n / 2 = 4 * 4 ∨ n / 2 = 4 * 8 by omega) with hx | hx | hx
  · exact (turnText_rounds true p n cap z q tn tcap hn hcap hx.1 hx.2 W).mono fun e w' ⟨he, hb⟩ => ⟨_, he, rfl, hb⟩
  · exact (turnText_odd true p n cap 4 g z q tn tcap hx (.inl rfl) (by omega) hcap hg W (hp.below h)).mono fun e w' ⟨he, hb⟩ => ⟨_, he, rfl, hb⟩
  · exact (turnText_odd true p n cap 8 g z q tn tcap hx (.inr rfl) (by omega) hcap hg W (hp.below h)).mono fun e w' ⟨he, hb⟩ => ⟨_, he, rfl, hb⟩
/-- The text has a length that none has. -/
theorem Show_form (p : Option Addr) (n cap N : Nat) (g : Nat → Nat) (z : Int) (q : Option Addr) (tn tcap : Nat) (hn : n = 8 * N) (hN : N = 4 ∨ N = 8) (hcap : n ≤ cap) (hg : ∀ i, i < n → g i < 256) (ht : tn < 16 ∨ 65536 < tn) (w : World) (hp : BytesAt w p n g) :
    Calls Try.prog 29 #[.slice p n cap, .int .i64 z, .slice q tn tcap] w fun e w' => e = .returned (.tuple #[.slice none 0 0, .iface 34 (.int .i64 2)]) ∧ Below w.heap.size w w' :=
  (Show_via p n cap z q tn tcap (.iface 34 (.int .i64 2)) (fun v1 _ _ => v1 = .slice none 0 0) w (fun W h => (turnText_form true p n cap N g z q tn tcap hn hN hcap hg ht W (hp.below h)).mono fun e w' ⟨he, hb⟩ => ⟨_, he, rfl, hb⟩)).mono (fun e w' ⟨v1, W, he, hv, _, hb⟩ => ⟨by rw [he, hv], hb⟩)
theorem Show_ok (p : Option Addr) (n cap N : Nat) (g : Nat → Nat) (z : Int) (q : Option Addr) (tn tcap : Nat) (G : Nat → Nat) (hn : n = 8 * N) (hN : N = 4 ∨ N = 8) (hcap : n ≤ cap) (hg : ∀ i, i < n → g i < 256) (ht1 : 16 ≤ tn) (ht2 : tn ≤ 65536) (hG : ∀ i, i < tn → G i < 256) (w : World) (hp : BytesAt w p n g) (hq : BytesAt w q tn G) :
    Calls Try.prog 29 #[.slice p n cap, .int .i64 z, .slice q tn tcap] w fun e w' => ∃ D, e = .returned (.tuple #[.slice (some ⟨D, 0, none⟩) tn tn, .nilIface]) ∧ IntBlk w' D .u8 5 (mk tn (txtW true (rkS N g) (N + 7) (twF N (fun j => g (n / 2 + j)) z) tn G)) ∧ w.heap.size ≤ D ∧ Below w.heap.size w w' :=
  (Show_via p n cap z q tn tcap .nilIface (fun v1 W w' => ∃ D, v1 = .slice (some ⟨D, 0, none⟩) tn tn ∧ IntBlk w' D .u8 5 (mk tn (txtW true (rkS N g) (N + 7) (twF N (fun j => g (n / 2 + j)) z) tn G)) ∧ W.heap.size ≤ D) w
    (fun W h => (turnText_ok true p n cap N g z q tn tcap G hn hN hcap hg ht1 ht2 hG W (hp.below h) (hq.below h)).mono fun e w' ⟨D, he, hr, hs, hb⟩ => ⟨_, he, ⟨D, rfl, hr, hs⟩, hb⟩)).mono
    (fun e w' ⟨v1, W, he, ⟨D, hv, hr, hs⟩, hW, hb⟩ => ⟨D, by rw [he, hv], hr, Nat.le_trans hW.size hs, hb⟩)

end Go.Proofs.Ytklnnmlegagfoaa

/- The contract of package tweak's turnBlock. Conditions: the bytes are bytes. -/
namespace Go.Proofs.Ytklnnmlegagfoaa
open Go.ChangeShapes Go.WideShapes Go.ChangeAt Go.RowKit
attribute [local irreducible] txtW twF rkS wB

set_option maxRecDepth 100000 in
set_option maxHeartbeats 400000 in
theorem turnBlock_bad (b : Bool) (p : Option Addr) (n cap : Nat) (t f : Nat → Nat) (h16 : n ≠ 16) (h32 : n ≠ 32) (w : World) :
    Calls Try.prog 37 #[.agg (wayS b none 0 0), .slice p n cap, .agg (cellsOf .u8 (mk 16 t)), .agg (cellsOf .u8 (mk 16 f))] w fun e w' => e = .returned (.tuple #[.agg (cellsOf .u8 (mk 16 zeroK)), .iface 34 (.int .i64 3)]) ∧ Below w.heap.size w w' := by
  have HZ := Lib.hid (blk_fourth w .u8 25 (mk 16 zeroK) (.cells (wayS b none 0 0) 75) (.cells (cellsOf .u8 (mk 16 t)) 25) (.cells (cellsOf .u8 (mk 16 f)) 25))
  have HL := Lib.hid (below_four w (.cells (wayS b none 0 0) 75) (.cells (cellsOf .u8 (mk 16 t)) 25) (.cells (cellsOf .u8 (mk 16 f)) 25) (.cells (cellsOf .u8 (mk 16 zeroK)) 25))
  go_enter Try.func37, Try.ntmps37
  go_wp2_with (first
    | (go_at_call 49; refine (Rounds_bad p n cap h16 h32 _).mono ?_; rintro e w1 ⟨rfl, rfl⟩)
    | (refine store_row_on rfl 25 _ _ rfl rfl (w.heap.size + 1 + 1 + 1) (cellsOf .u8 (mk 16 zeroK)) rfl rfl 25 (cellsOf .u8 (mk 16 zeroK)) HZ.out (keySize _) rfl (cellsOf_one _ _) ?_))
  exact bodyPost_ret (results_cell_row_tmp rfl _ _ (w.heap.size + 1 + 1 + 1) 25 (cellsOf .u8 (mk 16 zeroK)) (0, 0) _ rfl (HZ.out.setRow .u8 (mk 16 zeroK)) keyUnder rfl (keySize _)) rfl ⟨rfl, below_setRow HL.out (by omega) _⟩

set_option maxRecDepth 100000 in
set_option maxHeartbeats 1000000 in
theorem turnBlock_ok (b : Bool) (p : Option Addr) (n cap N : Nat) (g t f : Nat → Nat) (hn : n = 4 * N) (hN : N = 4 ∨ N = 8) (hcap : n ≤ cap) (hg : ∀ i, i < n → g i < 256) (ht : IsKey t) (hf : IsKey f) (w : World) (hp : BytesAt w p n g) :
    Calls Try.prog 37 #[.agg (wayS b none 0 0), .slice p n cap, .agg (cellsOf .u8 (mk 16 t)), .agg (cellsOf .u8 (mk 16 f))] w fun e w' => e = .returned (.tuple #[.agg (cellsOf .u8 (mk 16 (wB b (rkS N g) (N + 7) t f))), .nilIface]) ∧ Below w.heap.size w w' := by
  have b0 := below_four w (.cells (wayS b none 0 0) 75) (.cells (cellsOf .u8 (mk 16 t)) 25) (.cells (cellsOf .u8 (mk 16 f)) 25) (.cells (cellsOf .u8 (mk 16 zeroK)) 25)
  have Z0 := Lib.hid (blk_fourth w .u8 25 (mk 16 zeroK) (.cells (wayS b none 0 0) 75) (.cells (cellsOf .u8 (mk 16 t)) 25) (.cells (cellsOf .u8 (mk 16 f)) 25))
  have F0 := Lib.hid ((blk_third w .u8 25 (mk 16 f) (.cells (wayS b none 0 0) 75) (.cells (cellsOf .u8 (mk 16 t)) 25)).alloc (.cells (cellsOf .u8 (mk 16 zeroK)) 25))
  have T0 := Lib.hid ((blk_second w .u8 25 (mk 16 t) (.cells (wayS b none 0 0) 75) (.cells (cellsOf .u8 (mk 16 f)) 25)).alloc (.cells (cellsOf .u8 (mk 16 zeroK)) 25))
  have y0 := (below_three (w.alloc (.cells (wayS b none 0 0) 75)) (.cells (cellsOf .u8 (mk 16 t)) 25) (.cells (cellsOf .u8 (mk 16 f)) 25) (.cells (cellsOf .u8 (mk 16 zeroK)) 25)).block w.heap.size (by simp)
  rw [heap_alloc_new] at y0
  have Y0 := Lib.hid y0
  have RC := Lib.hid (Rounds_ok p n cap N g hn hN hcap hg _ (hp.below b0))
  have B0 := Lib.hid b0
  have hr : ∀ i, i < N + 7 → IsKey (rkS N g i) := fun i _ => rkS_key (fun i hi => hg i (by omega)) i
  have hT : N + 7 < 4294967296 := by omega
  have XC := Lib.hid (fun (D : Nat) (w1 : World) (hk : KeysAt w1 (some ⟨D, 0, none⟩) (N + 7) (rkS N g)) => wayBlock_any b (some ⟨D, 0, none⟩) (N + 7) (N + 7) (rkS N g) t f hr ht hf hT w1 hk)
  clear hn hN hg b0 y0 hp hr hT ht hf
  generalize rkS N g = R at *
  generalize N + 7 = T at *
  go_enter Try.func37, Try.ntmps37
  go_wp2_with (first
    | (go_at_call 49; refine RC.out.mono ?_; rintro e w1 ⟨D, rfl, hk, hb⟩
       have y1 := (hb.block _ (lt_of_block Y0.out)).trans Y0.out
       have K1 := Lib.hid (keysOff_way hk y1)
       have Y1 := Lib.hid y1
       have B1 := Lib.hid (B0.out.trans (hb.mono B0.out.size))
       have Z1 := Lib.hid (Z0.out.below hb Z0.out.lt)
       have F1 := Lib.hid (F0.out.below hb F0.out.lt)
       have T1 := Lib.hid (T0.out.below hb T0.out.lt)
       have cf := (cell_of_row w1 w.heap.size 2 _ _ _ y1)
       have ff := frozen_of_row w1 w.heap.size 2 _ _ y1
       clear hk hb RC B0 Y0 Z0 F0 T0 y1)
    | (refine wpList_load_row rfl 75 _ rfl w.heap.size rfl 75 (wayS b (some ⟨D, 0, none⟩) T T) (0, 0) _ (by rw [← way_set]; exact cells_setCell Y1.out _) Try.underlying75 rfl (waySize _ _ _ _) ?_
       have z4 := Z1.out.other (a := ⟨w.heap.size, 2, none⟩) (by show w.heap.size ≠ _; omega) (.slice (some ⟨D, 0, none⟩) T T)
       have f4 := F1.out.other (a := ⟨w.heap.size, 2, none⟩) (by show w.heap.size ≠ _; omega) (.slice (some ⟨D, 0, none⟩) T T)
       have t4 := T1.out.other (a := ⟨w.heap.size, 2, none⟩) (by show w.heap.size ≠ _; omega) (.slice (some ⟨D, 0, none⟩) T T)
       have b4 := B1.out.setCell (p := ⟨w.heap.size, 2, none⟩) (Nat.le_refl _) (.slice (some ⟨D, 0, none⟩) T T)
       have k4 := (K1.out.but (But.setCell w.heap.size 2 w1 (.slice (some ⟨D, 0, none⟩) T T))).keys
       generalize w1.setCell ⟨w.heap.size, 2, none⟩ (.slice (some ⟨D, 0, none⟩) T T) = w4 at *
       have Z4 := Lib.hid z4; have F4 := Lib.hid f4; have T4 := Lib.hid t4; have B4 := Lib.hid b4
       have XD := Lib.hid (XC.out D w4 k4)
       clear z4 f4 t4 b4 k4 XC Z1 F1 T1 B1 K1 Y1)
    | (refine wpList_load_row rfl 25 _ rfl (w.heap.size + 1) rfl 25 (cellsOf .u8 (mk 16 t)) (0, 0) _ T4.out keyUnder rfl (keySize _) ?_)
    | (refine wpList_load_row rfl 25 _ rfl (w.heap.size + 1 + 1) rfl 25 (cellsOf .u8 (mk 16 f)) (0, 0) _ F4.out keyUnder rfl (keySize _) ?_)
    | (go_at_call 50; refine XD.out.mono ?_; rintro e w5 ⟨rfl, hb5⟩
       have Z5 := Lib.hid (Z4.out.below hb5 Z4.out.lt)
       have B5 := Lib.hid (B4.out.trans (hb5.mono B4.out.size))
       clear hb5 XD Z4 B4 F4 T4)
    | (refine store_row_on rfl 25 _ _ rfl rfl (w.heap.size + 1 + 1 + 1) (cellsOf .u8 (mk 16 (wB b R T t f))) rfl rfl 25 (cellsOf .u8 (mk 16 zeroK)) Z5.out (keySize _) (by rw [cellsOf_size, cellsOf_size, mk_len, mk_len]) (cellsOf_one _ _) ?_))
  exact bodyPost_ret (results_cell_row_tmp rfl _ _ (w.heap.size + 1 + 1 + 1) 25 (cellsOf .u8 (mk 16 (wB b R T t f))) (0, 0) _ rfl (Z5.out.setRow .u8 (mk 16 (wB b R T t f))) keyUnder rfl (keySize _)) rfl ⟨rfl, below_setRow B5.out (by omega) _⟩
end Go.Proofs.Ytklnnmlegagfoaa

/- The contracts of package tweak's HideBlock and ShowBlock. Conditions: the bytes are bytes. -/
namespace Go.Proofs.Ytklnnmlegagfoaa
open Go.ChangeShapes Go.WideShapes Go.ChangeAt Go.RowKit
attribute [local irreducible] txtW twF rkS wB wayS

section
variable {o : Oper} {a : Act} {C : World → Prop} {K : Act → Prop}
theorem quiet_take (x : Operand) (i : Nat) (ho : o.op = .extract x i) (vs : Array Value) (v : Value) (hx : a.eval x = .tuple vs) (hv : vs[i]? = some v) (hk : K (a.put o.dst v)) : o.quiet Try.prog a C K := by
  refine quiet_value _ (fun w _ => ?_) hk
  unfold execOp
  simp only [ho, hx]
  simp [go_sem, hv]
theorem quiet_callN (x : Operand) (ts : Array TypeId) (ho : o.op = .call { callee := .value x, args := #[], argTypes := ts }) (g : FuncId) (hx : a.eval x = .func (.func g) #[] #[])
    (r : Value) (hf : ∀ (args : Array Value) (w : World), (callFunc g args).run Try.prog w = .ok (.enter g args) w)
    (hc : ∀ w, C w → Calls Try.prog g #[] w fun e w' => e = .returned r ∧ C w') (hk : K (a.put o.dst r)) : o.quiet Try.prog a C K :=
  quiet_calls x #[] ts ho g _ _ hx (by simp) (fun w => hf _ w) hc hk
theorem quiet_call4 (x y1 y2 y3 y4 : Operand) (ts : Array TypeId) (ho : o.op = .call { callee := .value x, args := #[y1, y2, y3, y4], argTypes := ts }) (g : FuncId) (hx : a.eval x = .func (.func g) #[] #[])
    (u1 u2 u3 u4 r : Value) (h1 : a.eval y1 = u1) (h2 : a.eval y2 = u2) (h3 : a.eval y3 = u3) (h4 : a.eval y4 = u4) (hf : ∀ (args : Array Value) (w : World), (callFunc g args).run Try.prog w = .ok (.enter g args) w)
    (hc : ∀ w, C w → Calls Try.prog g #[u1, u2, u3, u4] w fun e w' => e = .returned r ∧ C w') (hk : K (a.put o.dst r)) : o.quiet Try.prog a C K :=
  quiet_calls x #[y1, y2, y3, y4] ts ho g _ _ hx (by simp only [List.map_toArray, List.map_cons, List.map_nil, h1, h2, h3, h4]) (fun w => hf _ w) hc hk
end
theorem call_hiding (args : Array Value) (w : World) : (callFunc 38 args).run Try.prog w = .ok (.enter 38 args) w := by simp [go_sem]
theorem call_showing (args : Array Value) (w : World) : (callFunc 39 args).run Try.prog w = .ok (.enter 39 args) w := by simp [go_sem]
theorem call_turnBlock (args : Array Value) (w : World) : (callFunc 37 args).run Try.prog w = .ok (.enter 37 args) w := by simp [go_sem]

set_option maxRecDepth 100000 in
set_option maxHeartbeats 1000000 in
theorem HideBlock_via (p : Option Addr) (n cap : Nat) (t f r : Nat → Nat) (v : Value) (w : World)
    (hc : ∀ W, Below w.heap.size w W → Calls Try.prog 37 #[.agg (wayS false none 0 0), .slice p n cap, .agg (cellsOf .u8 (mk 16 t)), .agg (cellsOf .u8 (mk 16 f))] W fun e w' => e = .returned (.tuple #[.agg (cellsOf .u8 (mk 16 r)), v]) ∧ Below W.heap.size W w') :
    Calls Try.prog 19 #[.slice p n cap, .agg (cellsOf .u8 (mk 16 t)), .agg (cellsOf .u8 (mk 16 f))] w fun e w' => e = .returned (.tuple #[.agg (cellsOf .u8 (mk 16 r)), v]) ∧ Below w.heap.size w w' := by
  have BZ := blk_third w .u8 25 (mk 16 zeroK) (.cells (cellsOf .u8 (mk 16 t)) 25) (.cells (cellsOf .u8 (mk 16 f)) 25)
  have BF := blk_second w .u8 25 (mk 16 f) (.cells (cellsOf .u8 (mk 16 t)) 25) (.cells (cellsOf .u8 (mk 16 zeroK)) 25)
  have BT := blk_first w .u8 25 (mk 16 t) (.cells (cellsOf .u8 (mk 16 f)) 25) (.cells (cellsOf .u8 (mk 16 zeroK)) 25)
  have BW := below_three w (.cells (cellsOf .u8 (mk 16 t)) 25) (.cells (cellsOf .u8 (mk 16 f)) 25) (.cells (cellsOf .u8 (mk 16 zeroK)) 25)
  go_enter Try.func19, Try.ntmps19
  go_wp2
  change Code.wp _ _ _ _ (((w.alloc (.cells (cellsOf .u8 (mk 16 t)) 25)).alloc (.cells (cellsOf .u8 (mk 16 f)) 25)).alloc (.cells (cellsOf .u8 (mk 16 zeroK)) 25))
  generalize ((w.alloc (.cells (cellsOf .u8 (mk 16 t)) 25)).alloc (.cells (cellsOf .u8 (mk 16 f)) 25)).alloc (.cells (cellsOf .u8 (mk 16 zeroK)) 25) = W0 at *
  have HT := Lib.hid (fun (w' : World) (h : Below W0.heap.size W0 w') => BT.below h BT.lt)
  have HF := Lib.hid (fun (w' : World) (h : Below W0.heap.size W0 w') => BF.below h BF.lt)
  have HZ := Lib.hid (fun (w' : World) (h : Below W0.heap.size W0 w') => BZ.below h BZ.lt)
  have K1 := Lib.hid (class_of (W0 := W0) hiding_any)
  have K2 := Lib.hid (show ∀ w', Below W0.heap.size W0 w' → Calls Try.prog 37 #[.agg (wayS false none 0 0), .slice p n cap, .agg (cellsOf .u8 (mk 16 t)), .agg (cellsOf .u8 (mk 16 f))] w' fun e w'' => e = .returned (.tuple #[.agg (cellsOf .u8 (mk 16 r)), v]) ∧ Below W0.heap.size W0 w'' from fun w' h => (hc w' (BW.trans (h.mono BW.size))).mono fun _ _ ⟨he, hb⟩ => ⟨he, h.trans (hb.mono h.size)⟩)
  have HW := Lib.hid BW
  clear BW BZ BF BT hc
  refine wp_region_class_tail 7 (fun w' => Below W0.heap.size W0 w') (by kernel_rfl) (by kernel_rfl) ((Below.refl _ _).drew) ?_
  simp only [List.take_succ_cons, List.take_zero, List.drop_succ_cons, List.drop_zero]
  iterate 7 (first
    | go_big_quiet_skip
    | (go_big_quiet_want
       first
         | (go_big_quiet_op; go_big_quiet_on)
         | ((first
             | (refine quiet_load_row 25 _ rfl w.heap.size .u8 (mk 16 t) rfl 16 5 keyUnder (keySize _) HT.out ?_)
             | (refine quiet_load_row 25 _ rfl (w.heap.size + 1) .u8 (mk 16 f) rfl 16 5 keyUnder (keySize _) HF.out ?_)
             | (refine quiet_callN _ _ rfl 38 rfl (.agg (wayS false none 0 0)) call_hiding K1.out ?_; clear K1)
             | (refine quiet_call4 _ _ _ _ _ _ rfl 37 rfl (.agg (wayS false none 0 0)) (.slice p n cap) (.agg (cellsOf .u8 (mk 16 t))) (.agg (cellsOf .u8 (mk 16 f))) (.tuple #[.agg (cellsOf .u8 (mk 16 r)), v]) rfl rfl rfl rfl call_turnBlock K2.out ?_; clear K2)
             | (refine quiet_take _ 0 rfl #[.agg (cellsOf .u8 (mk 16 r)), v] (.agg (cellsOf .u8 (mk 16 r))) rfl rfl ?_)
             | (refine quiet_take _ 1 rfl #[.agg (cellsOf .u8 (mk 16 r)), v] v rfl rfl ?_)); go_simp; go_big_quiet_on)))
  refine wpQuiet_nil ?_
  intro wx hwx
  go_wp2_with (refine store_row_on rfl 25 _ _ rfl rfl (w.heap.size + 1 + 1) (cellsOf .u8 (mk 16 r)) rfl rfl 25 (cellsOf .u8 (mk 16 zeroK)) (HZ.out wx hwx) (keySize _) (by rw [cellsOf_size, cellsOf_size, mk_len, mk_len]) (cellsOf_one _ _) ?_)
  exact bodyPost_ret (results_cell_row_tmp rfl _ _ (w.heap.size + 1 + 1) 25 (cellsOf .u8 (mk 16 r)) (0, 0) _ rfl ((HZ.out wx hwx).setRow .u8 (mk 16 r)) keyUnder rfl (keySize _)) rfl ⟨rfl, below_setRow (HW.out.trans (hwx.mono HW.out.size)) (by omega) _⟩
theorem HideBlock_bad (p : Option Addr) (n cap : Nat) (t f : Nat → Nat) (h16 : n ≠ 16) (h32 : n ≠ 32) (w : World) :
    Calls Try.prog 19 #[.slice p n cap, .agg (cellsOf .u8 (mk 16 t)), .agg (cellsOf .u8 (mk 16 f))] w fun e w' => e = .returned (.tuple #[.agg (cellsOf .u8 (mk 16 zeroK)), .iface 34 (.int .i64 3)]) ∧ Below w.heap.size w w' :=
  HideBlock_via p n cap t f zeroK _ w fun W _ => turnBlock_bad false p n cap t f h16 h32 W
theorem HideBlock_ok (p : Option Addr) (n cap N : Nat) (g t f : Nat → Nat) (hn : n = 4 * N) (hN : N = 4 ∨ N = 8) (hcap : n ≤ cap) (hg : ∀ i, i < n → g i < 256) (ht : IsKey t) (hf : IsKey f) (w : World) (hp : BytesAt w p n g) :
    Calls Try.prog 19 #[.slice p n cap, .agg (cellsOf .u8 (mk 16 t)), .agg (cellsOf .u8 (mk 16 f))] w fun e w' => e = .returned (.tuple #[.agg (cellsOf .u8 (mk 16 (wB false (rkS N g) (N + 7) t f))), .nilIface]) ∧ Below w.heap.size w w' :=
  HideBlock_via p n cap t f _ _ w fun W h => turnBlock_ok false p n cap N g t f hn hN hcap hg ht hf W (hp.below h)

set_option maxRecDepth 100000 in
set_option maxHeartbeats 1000000 in
theorem ShowBlock_via (p : Option Addr) (n cap : Nat) (t f r : Nat → Nat) (v : Value) (w : World)
    (hc : ∀ W, Below w.heap.size w W → Calls Try.prog 37 #[.agg (wayS true none 0 0), .slice p n cap, .agg (cellsOf .u8 (mk 16 t)), .agg (cellsOf .u8 (mk 16 f))] W fun e w' => e = .returned (.tuple #[.agg (cellsOf .u8 (mk 16 r)), v]) ∧ Below W.heap.size W w') :
    Calls Try.prog 20 #[.slice p n cap, .agg (cellsOf .u8 (mk 16 t)), .agg (cellsOf .u8 (mk 16 f))] w fun e w' => e = .returned (.tuple #[.agg (cellsOf .u8 (mk 16 r)), v]) ∧ Below w.heap.size w w' := by
  have BZ := blk_third w .u8 25 (mk 16 zeroK) (.cells (cellsOf .u8 (mk 16 t)) 25) (.cells (cellsOf .u8 (mk 16 f)) 25)
  have BF := blk_second w .u8 25 (mk 16 f) (.cells (cellsOf .u8 (mk 16 t)) 25) (.cells (cellsOf .u8 (mk 16 zeroK)) 25)
  have BT := blk_first w .u8 25 (mk 16 t) (.cells (cellsOf .u8 (mk 16 f)) 25) (.cells (cellsOf .u8 (mk 16 zeroK)) 25)
  have BW := below_three w (.cells (cellsOf .u8 (mk 16 t)) 25) (.cells (cellsOf .u8 (mk 16 f)) 25) (.cells (cellsOf .u8 (mk 16 zeroK)) 25)
  go_enter Try.func20, Try.ntmps20
  go_wp2
  change Code.wp _ _ _ _ (((w.alloc (.cells (cellsOf .u8 (mk 16 t)) 25)).alloc (.cells (cellsOf .u8 (mk 16 f)) 25)).alloc (.cells (cellsOf .u8 (mk 16 zeroK)) 25))
  generalize ((w.alloc (.cells (cellsOf .u8 (mk 16 t)) 25)).alloc (.cells (cellsOf .u8 (mk 16 f)) 25)).alloc (.cells (cellsOf .u8 (mk 16 zeroK)) 25) = W0 at *
  have HT := Lib.hid (fun (w' : World) (h : Below W0.heap.size W0 w') => BT.below h BT.lt)
  have HF := Lib.hid (fun (w' : World) (h : Below W0.heap.size W0 w') => BF.below h BF.lt)
  have HZ := Lib.hid (fun (w' : World) (h : Below W0.heap.size W0 w') => BZ.below h BZ.lt)
  have K1 := Lib.hid (class_of (W0 := W0) showing_any)
  have K2 := Lib.hid (show ∀ w', Below W0.heap.size W0 w' → Calls Try.prog 37 #[.agg (wayS true none 0 0), .slice p n cap, .agg (cellsOf .u8 (mk 16 t)), .agg (cellsOf .u8 (mk 16 f))] w' fun e w'' => e = .returned (.tuple #[.agg (cellsOf .u8 (mk 16 r)), v]) ∧ Below W0.heap.size W0 w'' from fun w' h => (hc w' (BW.trans (h.mono BW.size))).mono fun _ _ ⟨he, hb⟩ => ⟨he, h.trans (hb.mono h.size)⟩)
  have HW := Lib.hid BW
  clear BW BZ BF BT hc
  refine wp_region_class_tail 7 (fun w' => Below W0.heap.size W0 w') (by kernel_rfl) (by kernel_rfl) ((Below.refl _ _).drew) ?_
  simp only [List.take_succ_cons, List.take_zero, List.drop_succ_cons, List.drop_zero]
  iterate 7 (first
    | go_big_quiet_skip
    | (go_big_quiet_want
       first
         | (go_big_quiet_op; go_big_quiet_on)
         | ((first
             | (refine quiet_load_row 25 _ rfl w.heap.size .u8 (mk 16 t) rfl 16 5 keyUnder (keySize _) HT.out ?_)
             | (refine quiet_load_row 25 _ rfl (w.heap.size + 1) .u8 (mk 16 f) rfl 16 5 keyUnder (keySize _) HF.out ?_)
             | (refine quiet_callN _ _ rfl 39 rfl (.agg (wayS true none 0 0)) call_showing K1.out ?_; clear K1)
             | (refine quiet_call4 _ _ _ _ _ _ rfl 37 rfl (.agg (wayS true none 0 0)) (.slice p n cap) (.agg (cellsOf .u8 (mk 16 t))) (.agg (cellsOf .u8 (mk 16 f))) (.tuple #[.agg (cellsOf .u8 (mk 16 r)), v]) rfl rfl rfl rfl call_turnBlock K2.out ?_; clear K2)
             | (refine quiet_take _ 0 rfl #[.agg (cellsOf .u8 (mk 16 r)), v] (.agg (cellsOf .u8 (mk 16 r))) rfl rfl ?_)
             | (refine quiet_take _ 1 rfl #[.agg (cellsOf .u8 (mk 16 r)), v] v rfl rfl ?_)); go_simp; go_big_quiet_on)))
  refine wpQuiet_nil ?_
  intro wx hwx
  go_wp2_with (refine store_row_on rfl 25 _ _ rfl rfl (w.heap.size + 1 + 1) (cellsOf .u8 (mk 16 r)) rfl rfl 25 (cellsOf .u8 (mk 16 zeroK)) (HZ.out wx hwx) (keySize _) (by rw [cellsOf_size, cellsOf_size, mk_len, mk_len]) (cellsOf_one _ _) ?_)
  exact bodyPost_ret (results_cell_row_tmp rfl _ _ (w.heap.size + 1 + 1) 25 (cellsOf .u8 (mk 16 r)) (0, 0) _ rfl ((HZ.out wx hwx).setRow .u8 (mk 16 r)) keyUnder rfl (keySize _)) rfl ⟨rfl, below_setRow (HW.out.trans (hwx.mono HW.out.size)) (by omega) _⟩
theorem ShowBlock_bad (p : Option Addr) (n cap : Nat) (t f : Nat → Nat) (h16 : n ≠ 16) (h32 : n ≠ 32) (w : World) :
    Calls Try.prog 20 #[.slice p n cap, .agg (cellsOf .u8 (mk 16 t)), .agg (cellsOf .u8 (mk 16 f))] w fun e w' => e = .returned (.tuple #[.agg (cellsOf .u8 (mk 16 zeroK)), .iface 34 (.int .i64 3)]) ∧ Below w.heap.size w w' :=
  ShowBlock_via p n cap t f zeroK _ w fun W _ => turnBlock_bad true p n cap t f h16 h32 W
theorem ShowBlock_ok (p : Option Addr) (n cap N : Nat) (g t f : Nat → Nat) (hn : n = 4 * N) (hN : N = 4 ∨ N = 8) (hcap : n ≤ cap) (hg : ∀ i, i < n → g i < 256) (ht : IsKey t) (hf : IsKey f) (w : World) (hp : BytesAt w p n g) :
    Calls Try.prog 20 #[.slice p n cap, .agg (cellsOf .u8 (mk 16 t)), .agg (cellsOf .u8 (mk 16 f))] w fun e w' => e = .returned (.tuple #[.agg (cellsOf .u8 (mk 16 (wB true (rkS N g) (N + 7) t f))), .nilIface]) ∧ Below w.heap.size w w' :=
  ShowBlock_via p n cap t f _ _ w fun W h => turnBlock_ok true p n cap N g t f hn hN hcap hg ht hf W (hp.below h)

end Go.Proofs.Ytklnnmlegagfoaa

/- Appends of bytes in regions walked by one order, and slices of slices there. Conditions: as each says. -/
namespace Go.Proofs.Ytklnnmlegagfoaa
open Go.ChangeShapes Go.WideShapes Go.ChangeAt Go.RowKit
set_option linter.unusedVariables false

theorem append_own_run {base top k : Nat} {v : Value} {F f : Nat → Nat} (w : World) (ty : TypeId) (hv : OwnS 5 1 w base top v k F) (p : Option Addr) (n cap : Nat) (hp : BytesAt w p n f) (hf : ∀ j, j < n → f j = F (k + j)) (hk : k + n ≤ 100000) (hbase : base ≤ w.heap.size) :
    ∃ v' w', (Builtin.append_ #[22, 22] ty #[v, .slice p n cap]).run Try.prog w = .ok v' w' ∧ OwnS 5 1 w' base w'.heap.size v' (k + n) F ∧ Below base w w' := by
  have hi := byteInfo
  have hz := byteZero1
  have hb := byteBytes1
  cases hq : Try.prog.info? 5 with
  | none => rw [hq] at hi; simp at hi
  | some i =>
    rw [hq] at hi hb hz
    have hsz : i.size = 1 := by simpa using hi
    have hzz : i.zero = some (.int .u8 0) := by simpa using hz
    have hby : i.bytes = 1 := by simpa using hb
    by_cases h0 : n = 0
    · subst h0
      have hsrc : Src Try.prog i.size 22 (.slice p 0 cap) 0 [] w := by
        cases p with
        | none => exact Src.ofNil w bytesUnder cap
        | some ad => exact Src.ofSlice w bytesUnder ad 0 cap [] (by simp) (fun j u hu => by simp at hu) (fun u hu => by cases hu)
      have hrow := hv.owns
      obtain ⟨q, c, rfl, hc⟩ : ∃ q c, v = .slice q k c ∧ k ≤ c := by
        rcases hv with ⟨h1, h2⟩ | ⟨B, c, cur, h1, _, _, _, h5, _⟩
        · subst h2; exact ⟨none, 0, h1, Nat.le_refl _⟩
        · exact ⟨_, c, h1, h5⟩
      exact ⟨_, w, run_append_nothing (P := Try.prog) w 22 22 ty 5 i bytesUnder hq q k c hc (.slice p 0 cap) hsrc, OwnS.of_owns hrow, Below.refl _ _⟩
    · rcases hp with hp | ⟨B, off, rfl, hB, hc⟩
      · exact absurd hp h0
      · obtain ⟨v', w', hrun, r1, r2, _⟩ := run_append_own (P := Try.prog) w base 22 ty 5 i (.int .u8 0) 1 1 bytesUnder hq hzz hsz hby rfl (by omega)
          v k (bytesList (k * 1) F) hv.owns ⟨B, off, none⟩ n cap (bytesList n f) (by rw [bytesList_len, Nat.mul_one]) (fun j u hj => by
            obtain ⟨hj1, rfl⟩ := bytesList_get hj
            rw [addr_add]; exact hc j hj1) bytesList_one (by simp only [maxLen]; omega) (by omega) hbase
        rw [bytesList_more (k * 1) n F f (fun j hj => by rw [Nat.mul_one]; exact hf j hj), show k * 1 + n = (k + n) * 1 by omega] at r1
        exact ⟨v', w', hrun, OwnS.of_owns r1, below_own r2 hv.block hbase⟩
theorem done_append {o : Oper} {a : Act} {w : World} {K : Value → World → Prop} (s x : Operand) (t tn : TypeId) (ho : o.op = .call { callee := .builtin .append, args := #[s, x], argTypes := #[t, tn] }) (vs vx : Value) (hs : a.eval s = vs) (hx : a.eval x = vx)
    (v' : Value) (w' : World) (hr : (Builtin.append_ #[t, tn] o.type #[vs, vx]).run Try.prog w = .ok v' w') (h : K v' w') : doneAt Try.prog o a w K := by
  unfold doneAt execOp
  simp only [ho, resolve, invoke, builtin, Sem.run_bind, Sem.run_pure, Result.andThen_ok, List.map_toArray, List.map_cons, List.map_nil, hs, hx, hr]
  exact h
theorem done_build0 {o : Oper} {a : Act} {w : World} {K : Value → World → Prop} (ho : o.op = .buildSlice 22 0 #[]) (h : K (.slice (some ⟨w.heap.size, 0, none⟩) 0 0) (w.alloc (.cells (cellsOf .u8 []) 5))) : doneAt Try.prog o a w K := by
  have e : (Instr.buildSlice 22 0 #[]).run Try.prog w = .ok (.slice (some ⟨w.heap.size, 0, none⟩) 0 0) (w.alloc (.cells (cellsOf .u8 []) 5)) := by simp [go_sem, cellsOf]
  unfold doneAt execOp
  simp only [ho]
  simp [e]
  exact h
theorem gives_upto {o : Oper} {a : Act} {C : World → Prop} {K : Act → Prop} (x y : Operand) (ho : o.op = .slice 22 x none (some y) none) (p : Option Addr) (n cap k : Nat) (z : Int) (hz : z = k) (hx : a.eval x = .slice p n cap) (hy : a.eval y = .int .i64 z) (hk1 : k ≤ cap)
    (hk : K (a.put o.dst (.slice p k cap))) : ∃ v, Gives Try.prog C o a v ∧ K (a.put o.dst v) := by
  subst hz
  refine ⟨_, fun w _ => ?_, hk⟩
  have hr := run_upto p n cap k hk1 w
  unfold execOp
  simp only [ho, hx]
  simp [hy, hr]
theorem run_key_row (B : Nat) (w : World) : (Instr.sliceAt 25 (.pointer (some ⟨B, 0, none⟩)) none none none).run Try.prog w = .ok (.slice (some ⟨B, 0, none⟩) 16 16) w := by
  have hs := byteElem.run_size (P := Try.prog) w
  simp [go_sem, hs, addr_add, Program.elem]
theorem gives_key_row {o : Oper} {a : Act} {C : World → Prop} {K : Act → Prop} (x : Operand) (ho : o.op = .slice 25 x none none none) (B : Nat) (hx : a.eval x = .pointer (some ⟨B, 0, none⟩)) (hk : K (a.put o.dst (.slice (some ⟨B, 0, none⟩) 16 16))) : ∃ v, Gives Try.prog C o a v ∧ K (a.put o.dst v) := by
  refine ⟨_, fun w _ => ?_, hk⟩
  have hr := run_key_row B w
  unfold execOp
  simp only [ho, hx]
  simp [hr]
theorem run_key_upto (B k : Nat) (hk : k ≤ 16) (w : World) : (Instr.sliceAt 25 (.pointer (some ⟨B, 0, none⟩)) none (some (.int .i64 k)) none).run Try.prog w = .ok (.slice (some ⟨B, 0, none⟩) k 16) w := by
  have hs := byteElem.run_size (P := Try.prog) w
  have e1 : (0 : Int) ≤ k := by omega
  have e2 : (k : Int) ≤ 16 := by omega
  simp [go_sem, hs, e1, e2, addr_add, Program.elem]
theorem wpList_key_upto {ops : Array Oper} {rest : List Oper} {o : Oper} {a : Act} {w : World} {Q : Exit → Act → World → Prop} (hgd : o.guard = none) (x y : Operand) (ho : o.op = .slice 25 x none (some y) none) (B k : Nat) (z : Int) (hz : z = k) (hx : a.eval x = .pointer (some ⟨B, 0, none⟩)) (hy : a.eval y = .int .i64 z) (hk : k ≤ 16)
    (h : wpList Try.prog ops Q rest (a.put o.dst (.slice (some ⟨B, 0, none⟩) k 16)) w) : wpList Try.prog ops Q (o :: rest) a w := by
  subst hz
  refine wpList_plain hgd fun K hK => ?_
  have hr := run_key_upto B k hk w
  unfold Oper.wp execOp
  simp only [ho, hx]
  simp [hy, hr]
  exact hK _ _ h
end Go.Proofs.Ytklnnmlegagfoaa
