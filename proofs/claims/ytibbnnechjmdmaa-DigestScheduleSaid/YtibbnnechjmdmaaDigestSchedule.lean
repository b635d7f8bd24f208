/- Package digest's Schedule answers what the document's does, with any piece: the statement DigestSchedule. No condition. -/
import Derived.Test.YtibbnnechjmdmaaSchC
import Derived.Test.YtibbnnechjmdmaaRefSch
import Derived.Test.YtibbnnechjmdmaaQuietA
import Derived.Great.BuildSlice
namespace Go.Proofs.Ytibbnnechjmdmaa.digestSchedule
open Go.ChangeShapes Go.WideShapes Go.ChangeAt Go.RowKit
set_option linter.unusedVariables false

theorem own : ownKnob Try.prog.godebug = none := by kernel_rfl
def one3 : Nat → Nat := fun j => if j = 3 then 1 else 0
theorem one3_lt : ∀ j, j < 64 → one3 j < 256 := fun j _ => by unfold one3; split <;> omega
theorem one3_sched : schT one3 64 0 = 1 ∧ schT one3 64 16 = 1 := by
  have b0 : beW one3 0 = 1 := by decide +kernel
  have z : ∀ k, k < 16 → 1 ≤ k → beW one3 k = 0 := by decide +kernel
  have f : ∀ k, k < 16 → ∀ m, k < m → schT one3 m k = beW one3 k := fun k hk m hm => by rw [schT_at one3 hm]; unfold nextW; rw [if_pos hk]
  refine ⟨by rw [f 0 (by omega) 64 (by omega), b0], ?_⟩
  rw [schT_at one3 (show 16 < 64 by omega)]
  unfold nextW
  rw [if_neg (by omega), f 14 (by omega) 16 (by omega), f 9 (by omega) 16 (by omega), f 1 (by omega) 16 (by omega), f 0 (by omega) 16 (by omega), z 14 (by omega) (by omega), z 9 (by omega) (by omega), z 1 (by omega) (by omega), b0]
  decide +kernel
theorem sched_eq (f g : Nat → Nat) (w : World) : (Op.equalIn 10000 28 (.agg (cellsOf .u32 (mk 64 f))) (.agg (cellsOf .u32 (mk 64 g)))).run Try.prog w = .ok (mk 64 f == mk 64 g) w :=
  run_equalIn_ints w 9998 (mk 64 f) (mk 64 g) (by rw [mk_len]; exact schedUnder) wdElem (by rw [mk_len, mk_len])
theorem quiet_sched_eql {o : Oper} {a : Act} {C : World → Prop} {K : Act → Prop} (x y : Operand) (ho : o.op = .binOp .eql 28 x y 28) (f g : Nat → Nat) (hx : a.eval x = .agg (cellsOf .u32 (mk 64 f))) (hy : a.eval y = .agg (cellsOf .u32 (mk 64 g))) (h : (mk 64 f == mk 64 g) = true) (hk : K (a.put o.dst (.bool true))) : o.quiet Try.prog a C K := by
  refine quiet_value (.bool true) (fun w _ => ?_) hk
  have e := sched_eq f g w
  unfold execOp
  simp only [ho, hx, hy]
  simp [go_sem, e, h]
attribute [local irreducible] schT inG

set_option maxRecDepth 100000 in
set_option maxHeartbeats 2000000 in
theorem walk (p : Option Addr) (n cap : Nat) (g : Nat → Nat) (hg : ∀ i, i < n → g i < 256) (hcap : n ≤ cap) (hmax : cap ≤ maxLen) (w : World) (hp : BytesAt w p n g) :
    Calls Try.prog 4 #[.slice p n cap] w fun e w' => e = .returned (.bool true) ∧ Below w.heap.size w w' := by
  have HZ := Lib.hid (IntBlk.new w .u8 26 (mk 64 zeroK))
  have hz2 : IntBlk ((w.alloc (.cells (cellsOf .u8 (mk 64 zeroK)) 26)).setRow w.heap.size (cellsOf .u8 (mk 64 zeroK))) w.heap.size .u8 26 (mk 64 zeroK) := HZ.out.setRow .u8 _
  have hl2 : Below w.heap.size w ((w.alloc (.cells (cellsOf .u8 (mk 64 zeroK)) 26)).setRow w.heap.size (cellsOf .u8 (mk 64 zeroK))) := below_setRow ((Below.refl _ w).alloc (Nat.le_refl _) _) (Nat.le_refl _) _
  have HZ2 := Lib.hid hz2
  have HP := Lib.hid (hp.below hl2)
  have HL2 := Lib.hid hl2
  have hpf : ∀ i, i < 64 → inG n 64 g zeroK i < 256 := inG_lt hg (fun i _ => by show (0 : Nat) < 256; omega)
  clear hz2 hl2 hp
  go_enter Try.func4, Try.ntmps4
  go_wp2_with (first
    | (refine wpList_buildTo rfl 26 _ rfl (some 5) rfl (cellsOf .u8 (mk 64 zeroK)) (by kernel_rfl) ?_)
    | (refine wpList_buildTo rfl 26 _ rfl (some 9) rfl (cellsOf .u8 (mk 64 one3)) (by kernel_rfl) ?_)
    | (refine store_row_on rfl 26 _ _ rfl rfl w.heap.size (cellsOf .u8 (mk 64 zeroK)) rfl rfl 26 (cellsOf .u8 (mk 64 zeroK)) HZ.out (pieceSize _) rfl (cellsOf_one _ _) ?_)
    | (refine wpList_copy_in rfl _ _ rfl w.heap.size 26 64 zeroK g p n cap rfl rfl HZ2.out HP.out ?_; intro w1 hb1 hl1
       have HB1 := Lib.hid hb1; have HL1 := Lib.hid (HL2.out.trans hl1)
       clear hb1 hl1 HZ2 HP HL2 HZ)
    | (go_at_call 9; refine (Schedule_any one3 one3_lt _).mono ?_; rintro e w2 ⟨rfl, hl2⟩
       have HB2 := Lib.hid (HB1.out.below hl2 HB1.out.lt)
       have HL3 := Lib.hid (HL1.out.trans (hl2.mono HL1.out.size))
       have hlt2 := HB2.out.lt
       clear hl2 HB1 HL1)
    | (refine store_row_on rfl 28 _ _ rfl rfl w2.heap.size (cellsOf .u32 (mk 64 (schT one3 64))) rfl rfl 28 (cellsOf .u32 (mk 64 zeroK)) (IntBlk.new w2 .u32 _ (mk 64 zeroK)) (schedSize _) (by rw [cellsOf_size, cellsOf_size, mk_len, mk_len]) (cellsOf_one _ _) ?_))
  have E1 : IntBlk ((w2.alloc (.cells (cellsOf .u32 (mk 64 zeroK)) 28)).setRow w2.heap.size (cellsOf .u32 (mk 64 (schT one3 64)))) w.heap.size .u8 26 (mk 64 (inG n 64 g zeroK)) := (HB2.out.alloc _).otherRow (by omega) _
  have E2 : IntBlk ((w2.alloc (.cells (cellsOf .u32 (mk 64 zeroK)) 28)).setRow w2.heap.size (cellsOf .u32 (mk 64 (schT one3 64)))) w2.heap.size .u32 28 (mk 64 (schT one3 64)) := (IntBlk.new w2 .u32 _ (mk 64 zeroK)).setRow .u32 _
  have E3 : Below w.heap.size w ((w2.alloc (.cells (cellsOf .u32 (mk 64 zeroK)) 28)).setRow w2.heap.size (cellsOf .u32 (mk 64 (schT one3 64)))) := below_setRow (HL3.out.alloc (by omega) _) (by omega) _
  change Code.wp _ _ _ _ ((w2.alloc (.cells (cellsOf .u32 (mk 64 zeroK)) 28)).setRow w2.heap.size (cellsOf .u32 (mk 64 (schT one3 64))))
  generalize ((w2.alloc (.cells (cellsOf .u32 (mk 64 zeroK)) 28)).setRow w2.heap.size (cellsOf .u32 (mk 64 (schT one3 64)))) = V at *
  have K1 := Lib.hid (fun W (h : Below V.heap.size V W) => E1.below h E1.lt)
  have K0 := Lib.hid (fun W (h : Below V.heap.size V W) => (show W.cell? ⟨w2.heap.size, 0, none⟩ = some (.int .u32 1) by
    have := (E2.below h E2.lt).cell (i := 0) (by rw [mk_len]; omega)
    rw [mk_get (by omega), one3_sched.1] at this; exact this))
  have K16 := Lib.hid (fun W (h : Below V.heap.size V W) => (show W.cell? ⟨w2.heap.size, 16, none⟩ = some (.int .u32 1) by
    have := (E2.below h E2.lt).cell (i := 16) (by rw [mk_len]; omega)
    rw [mk_get (by omega), one3_sched.2] at this; exact this))
  have K4 := Lib.hid (class_of (W0 := V) (fun W => Schedule_any (inG n 64 g zeroK) hpf W))
  have K5 := Lib.hid (fun W (h : Below V.heap.size V W) => (refSchedule_any w.heap.size 0 64 (inG n 64 g zeroK) hpf W (E1.below h E1.lt).lt (fun j hj => by
      have := (E1.below h E1.lt).cell (i := j) (by rw [mk_len]; exact hj)
      rw [mk_get hj] at this; rw [Nat.zero_add]; exact this)).mono fun e w' (hr : _ ∧ Below W.heap.size W w') => And.intro hr.1 (h.trans (hr.2.mono h.size)))
  have HE3 := Lib.hid E3
  clear E1 E2 E3 HB2 HL3
  go_wp2
  refine wp_region_class (fun w' => Below V.heap.size V w') (by kernel_rfl) (by kernel_rfl) ((Below.refl _ _).drew) ?_
  iterate 16 (first
    | go_big_quiet_skip
    | (go_big_quiet_want
       first
         | (go_big_quiet_op; go_big_quiet_on)
         | ((first
             | (refine quiet_pick _ _ _ rfl rfl rfl ?_)
             | (refine quiet_at 28 64 _ _ rfl schedUnder wdElem w2.heap.size 0 0 rfl rfl rfl (by omega) ?_)
             | (refine quiet_at 28 64 _ _ rfl schedUnder wdElem w2.heap.size 16 16 rfl rfl rfl (by omega) ?_)
             | (refine quiet_u32 _ rfl w2.heap.size 0 _ rfl K0.out ?_)
             | (refine quiet_u32 _ rfl w2.heap.size 16 _ rfl K16.out ?_)
             | (refine quiet_u32_eql _ _ rfl 1 1 true rfl rfl rfl ?_)
             | (refine quiet_whole _ rfl w.heap.size rfl ?_)
             | (refine quiet_load_row 26 _ rfl w.heap.size .u8 (mk 64 (inG n 64 g zeroK)) rfl 64 5 pieceUnder (pieceSize _) K1.out ?_)
             | (refine quiet_sched_eql _ _ rfl (schT (inG n 64 g zeroK) 64) (schT (inG n 64 g zeroK) 64) rfl rfl (by simp) ?_)
             | (refine quiet_call1 _ _ _ rfl 9 rfl (.agg (cellsOf .u8 (mk 64 (inG n 64 g zeroK)))) (.agg (cellsOf .u32 (mk 64 (schT (inG n 64 g zeroK) 64)))) rfl (fun _ w => by simp [go_sem]) K4.out ?_)
             | (refine quiet_call1 _ _ _ rfl 10 rfl (.slice (some ⟨w.heap.size, 0, none⟩) 64 64) (.agg (cellsOf .u32 (mk 64 (schT (inG n 64 g zeroK) 64)))) rfl (fun _ w => by simp [go_sem]) K5.out ?_)); go_simp; go_big_quiet_on)))
  refine wpQuiet_nil ?_
  intro wx hwx
  go_wp2
  go_ret
  exact ⟨rfl, HE3.out.trans (hwx.mono HE3.out.size)⟩

theorem laidOut : laidOutB Try.prog = true := by kernel_rfl
set_option maxRecDepth 100000 in
theorem lifted (os : Os) (started : os.Started) (H : Type) (enc : TypeId × Value → H) :
    ReturnsInHanded {} Try.checked os 4 .any (Rows.digestScheduleSpec.pre6 enc Try.prog Try.f4 Rows.digestScheduleRow.domain false) (Rows.digestScheduleSpec.post enc Try.prog Try.f4 false true false false) := by
  refine returnsInHanded_of_change (C := Try.checked) own started (by kernel_rfl) Try.func4
    (ChangeSpec.witness6 (enc := enc) (C := Try.checked) false ⟨#[], #[.slice none 0 0], []⟩ 8 (by kernel_rfl) (by kernel_rfl) (by kernel_rfl) (by kernel_rfl)) ?_
  intro W base args ds gs before hval0 hW hcnd _
  have hval : ∀ (j : Nat) t v, Try.f4.params[j]? = some t → args[j]? = some v → Value.okWide Try.prog W .any base t v := hval0
  have hW' := hW
  obtain ⟨p, q, hA0, hV, rfl, hfz, hnd⟩ := hW
  have hA : DataW.TrodAll enc Try.prog W 0 (fun _ => true) true Try.f4.params.toList args.toList ds p := hA0
  rw [Try.params4] at hA hval
  obtain ⟨v0, vs0, d0, ds0, p0, q0, hargs, rfl, rfl, h0, r0⟩ := trodAll_cons hA
  obtain ⟨rfl, rfl, rfl⟩ := trodAll_nil r0
  obtain rfl : args = #[v0] := by cases args; simp_all
  obtain ⟨rfl, rfl⟩ := trodVars_none hV
  have k0 := h0
  have lt0 : ∀ x ∈ p0, x.block < W.heap.size := by obtain ⟨m, hm⟩ := k0; exact DataW.trod_lt m _ _ _ hm
  obtain ⟨q0, n0, c0, a0, rfl, w0, y0, l0, m0⟩ := open_byteslice (hval 0 22 v0 rfl rfl) h0
  clear hA0 hval0
  refine (walk q0 n0 c0 a0 w0 l0 m0 W y0).mono fun e W' ⟨he, bel⟩ => ?_
  subst he
  exact ⟨_, rfl, _, _, _, [], _, [], hW', trodAll_mk1 (shut_bool Try.underlying4 _), (trodAll_cons_mk (Below.trod laidOut (by kernel_rfl) (of_decide_eq_true (by kernel_rfl)) k0 bel lt0) trodAll_mk0), rfl, bel.frame _, fun h => by cases h⟩

theorem over : Rows.digestScheduleRow.holds Try.pinned (OpenSpec.ofChange Rows.digestScheduleSpec) :=
  OpenClaim.holds_of_wide 4 Try.f4 rfl rfl rfl rfl rfl rfl rfl ⟨rfl, rfl, rfl, rfl, rfl⟩ rfl rfl rfl rfl rfl (by kernel_rfl) Try.func4 (by kernel_rfl)
    (of_decide_eq_true (by kernel_rfl)) (by unfold Func.isWrapper; first | (rw [if_pos (by decide +kernel)]; kernel_rfl) | (rw [if_neg (by decide +kernel)]; exact ⟨rfl, rfl⟩))
    (fun os started H enc _ => lifted os started H enc)

theorem proved : Rows.DigestScheduleSaid := over
end Go.Proofs.Ytibbnnechjmdmaa.digestSchedule
