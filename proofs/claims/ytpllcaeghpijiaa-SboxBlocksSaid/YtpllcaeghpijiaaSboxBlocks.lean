/- Package sbox substitutes blocks byte by byte, there and back: the statement SboxBlocks. No condition. -/
import Derived.Test.YtpllcaeghpijiaaQuietB
import Derived.Test.YtpllcaeghpijiaaOpen
import Derived.Deep.QuietTactic
namespace Go.Proofs.Ytpllcaeghpijiaa.sboxBlocks
open Go.ChangeShapes Go.WideShapes Go.ChangeAt Go.RowKit
set_option linter.unusedVariables false

theorem own : ownKnob Try.prog.godebug = none := by kernel_rfl
theorem sub0 : subI 0 = 99 := by decide +kernel
theorem back_all {f : Nat → Nat} (hf : ∀ i, i < 16 → f i < 256) : mk 16 (fun i => backN (subN (f i))) = mk 16 f := mk_ext fun i hi => back_sub (hf i hi)
theorem all_back {f : Nat → Nat} (hf : ∀ i, i < 16 → f i < 256) : mk 16 (fun i => subN (backN (f i))) = mk 16 f := mk_ext fun i hi => sub_back (hf i hi)
attribute [local irreducible] subN backN subI backI

set_option maxRecDepth 100000 in
set_option maxHeartbeats 2000000 in
theorem walk (f : Nat → Nat) (hf : ∀ i, i < 16 → f i < 256) (w : World) :
    Calls Try.prog 8 #[.agg (cellsOf .u8 (mk 16 f))] w fun e w' => e = .returned (.bool true) ∧ Below w.heap.size w w' := by
  have L1 := back_all hf
  have L2 := all_back hf
  have t1 : (subI 0 == 99) = true := by rw [sub0]; rfl
  have H := Lib.hid (And.intro L1 L2)
  clear L1 L2
  have hs : ∀ i, i < 16 → subN (f i) < 256 := fun i hi => subN_lt (hf i hi)
  have hk : ∀ i, i < 16 → backN (f i) < 256 := fun i hi => backN_lt (hf i hi)
  go_enter Try.func8, Try.ntmps8
  go_wp2_with (refine wpList_load_row rfl 33 _ rfl w.heap.size rfl 33 (cellsOf .u8 (mk 16 f)) (0, 0) _ (IntBlk.new w .u8 33 (mk 16 f)) keyUnder rfl (keySize _) ?_)
  refine (SubAll_any f hf _).mono ?_
  rintro e w1 ⟨rfl, hb⟩
  have B1 := (IntBlk.new w .u8 33 (mk 16 f)).below hb (by simp)
  have L1 : Below w.heap.size w w1 := ((Below.refl _ _).alloc (Nat.le_refl _) _).trans (hb.mono (by simp))
  clear hb
  have hst : w.heap.size < w1.heap.size := B1.lt
  have HA := Lib.hid ((B1.alloc (.cells (cellsOf .u8 (mk 16 zeroK)) 33)).otherRow (C := w1.heap.size) (by omega) (cellsOf .u8 (mk 16 (fun i => subN (f i)))))
  have HT := Lib.hid ((IntBlk.new w1 .u8 33 (mk 16 zeroK)).setRow .u8 (mk 16 (fun i => subN (f i))))
  have HW := Lib.hid (below_setRow (L1.alloc L1.size (.cells (cellsOf .u8 (mk 16 zeroK)) 33)) (g := w1.heap.size) (by omega) (cellsOf .u8 (mk 16 (fun i => subN (f i)))))
  clear B1 L1
  go_wp2_with (first
    | (refine store_row_on rfl 33 _ _ rfl rfl w1.heap.size (cellsOf .u8 (mk 16 (fun i => subN (f i)))) rfl rfl 33 (cellsOf .u8 (mk 16 zeroK)) (IntBlk.new w1 .u8 _ (mk 16 zeroK)) (keySize _) (by rw [cellsOf_size, cellsOf_size, mk_len, mk_len]) (cellsOf_one _ _) ?_)
    | (refine wpList_load_row rfl 33 _ rfl w.heap.size rfl 33 (cellsOf .u8 (mk 16 f)) (0, 0) _ HA.out keyUnder rfl (keySize _) ?_))
  generalize w1.heap.size = T at *
  go_loopw [9] (fun v9 wr => ∃ k : Nat, k ≤ 16 ∧ v9 = .int .i64 k ∧ IntBlk wr w.heap.size .u8 33 (mk 16 f) ∧ IntBlk wr T .u8 33 (mk 16 (fun i => subN (f i))) ∧ Below w.heap.size w wr) (fun v9 _ => 16 - (intOf v9).toNat)
  case atStart => exact ⟨0, by omega, rfl, HA.out, HT.out, HW.out⟩
  case round =>
    obtain ⟨k, hk', rfl, hz, hd, hb⟩ := hrel
    have HZ := Lib.hid hz
    have HD := Lib.hid hd
    have HB := Lib.hid hb
    clear HA HT HW
    by_cases hlt : k < 16
    · have hx := hf k hlt
      have cd := hd.cell (i := k) (by rw [mk_len]; exact hlt)
      rw [mk_get hlt] at cd
      have ki := key_index f hlt
      have e1 : (k : Int) < 16 := by omega
      have e2 : (0 : Int) ≤ k := by omega
      have ts : ((subN (f k) : Nat) : Int) = subI (f k) := (subI_nat _).symm
      have t2 : (((subN (f k) : Nat) : Int) != subI (f k)) = false := by rw [ts]; simp
      clear hz hd hb ts
      go_wp2
      go_quiet ((go_at_call 9; refine Calls.quiet_of_same ((Sub_any _ (by omega) (by omega) _).mono fun _ _ ⟨he, hw⟩ => ⟨he, hw.symm⟩)))
      go_wp2
      go_roundw
      case rel => exact ⟨k + 1, by omega, by go_num, HZ.out, HD.out, HB.out.trans ⟨rfl, rfl, rfl, Nat.le_refl _, fun _ _ => rfl⟩⟩
      case measure => simp [intOf]; omega
    · obtain rfl : k = 16 := by omega
      have hd1 : decide (((16 : Nat) : Int) < 16) = false := rfl
      clear hz hd hb
      have BA : ∀ w', Below wr.heap.size wr w' → IntBlk w' w.heap.size .u8 33 (mk 16 f) := fun w' h => HZ.out.below h HZ.out.lt
      have BB : ∀ w', Below wr.heap.size wr w' → IntBlk w' T .u8 33 (mk 16 (fun i => subN (f i))) := fun w' h => HD.out.below h HD.out.lt
      have BS : w.heap.size ≤ wr.heap.size := HB.out.size
      have HA := Lib.hid BA
      have HC := Lib.hid BB
      clear BA BB HZ HD
      go_wp2
      refine wp_region_class (fun w' => Below wr.heap.size wr w') (by kernel_rfl) (by kernel_rfl) ((Below.refl _ _).drew) ?_
      iterate 16 (first
        | go_big_quiet_skip
        | (go_big_quiet_want
           first
             | (go_big_quiet_op; go_big_quiet_on)
             | ((first
                 | (refine quiet_load _ rfl w.heap.size f rfl HA.out ?_)
                 | (refine quiet_load _ rfl T (fun i => subN (f i)) rfl HC.out ?_)
                 | (refine quiet_pick _ _ _ rfl rfl rfl ?_)
                 | (refine quiet_byte _ _ _ rfl 9 rfl _ rfl _ call_sub (class_sub (by omega) (by omega)) ?_)
                 | (refine quiet_key _ _ _ rfl 17 rfl _ rfl _ call_suball (class_suball (by assumption)) ?_)
                 | (refine quiet_key _ _ _ rfl 18 rfl _ rfl _ call_backall (class_backall (by assumption)) ?_)
                 | (refine quiet_byte_eql _ _ rfl _ _ rfl rfl t1 ?_)
                 | (refine quiet_eql _ _ rfl _ _ rfl rfl (by first | exact H.out.1 | exact H.out.2) ?_)); go_simp; go_big_quiet_on)))
      refine wpQuiet_nil ?_
      intro w3 hw3
      have H1 := Lib.hid (HB.out.trans (hw3.mono BS)); clear hw3
      go_wp2
      go_ret
      exact ⟨rfl, H1.out⟩

theorem laidOut : laidOutB Try.prog = true := by kernel_rfl
set_option maxRecDepth 100000 in
theorem lifted (os : Os) (started : os.Started) (H : Type) (enc : TypeId × Value → H) :
    ReturnsInHanded {} Try.checked os 8 .any (Rows.sboxBlocksSpec.pre6 enc Try.prog Try.f8 Rows.sboxBlocksRow.domain false) (Rows.sboxBlocksSpec.post enc Try.prog Try.f8 false true false false) := by
  refine returnsInHanded_of_change (C := Try.checked) own started (by kernel_rfl) Try.func8
    (ChangeSpec.witness6 (enc := enc) (C := Try.checked) false ⟨#[], #[.agg #[.int .u8 0, .int .u8 0, .int .u8 0, .int .u8 0, .int .u8 0, .int .u8 0, .int .u8 0, .int .u8 0, .int .u8 0, .int .u8 0, .int .u8 0, .int .u8 0, .int .u8 0, .int .u8 0, .int .u8 0, .int .u8 0]], []⟩ 8 (by kernel_rfl) (by kernel_rfl) (by kernel_rfl) (by kernel_rfl)) ?_
  intro W base args ds gs before hval0 hW hcnd _
  have hval : ∀ (j : Nat) t v, Try.f8.params[j]? = some t → args[j]? = some v → Value.okWide Try.prog W .any base t v := hval0
  have hW' := hW
  obtain ⟨p, q, hA0, hV, rfl, hfz, hnd⟩ := hW
  have hA : DataW.TrodAll enc Try.prog W 0 (fun _ => true) true Try.f8.params.toList args.toList ds p := hA0
  rw [Try.params8] at hA hval
  obtain ⟨v0, vs0, d0, ds0, p0, q0, hargs, rfl, rfl, h0, r0⟩ := trodAll_cons hA
  obtain ⟨rfl, rfl, rfl⟩ := trodAll_nil r0
  obtain rfl : args = #[v0] := by cases args; simp_all
  obtain ⟨rfl, rfl⟩ := trodVars_none hV
  have k0 := h0
  have lt0 : ∀ x ∈ p0, x.block < W.heap.size := by obtain ⟨m, hm⟩ := k0; exact DataW.trod_lt m _ _ _ hm
  obtain ⟨a0, w0, rfl⟩ := open_bytes Try.underlying33 Try.underlying5 (by kernel_rfl) (by kernel_rfl) (hval 0 33 v0 rfl rfl) h0
  clear hA0 hval0
  refine (walk a0 w0 W).mono fun e W' ⟨he, bel⟩ => ?_
  subst he
  exact ⟨_, rfl, _, _, _, [], _, [], hW', trodAll_mk1 (shut_bool Try.underlying4 _), (trodAll_cons_mk (Below.trod laidOut (by kernel_rfl) (of_decide_eq_true (by kernel_rfl)) k0 bel lt0) trodAll_mk0), rfl, bel.frame _, fun h => by cases h⟩

theorem over : Rows.sboxBlocksRow.holds Try.pinned (OpenSpec.ofChange Rows.sboxBlocksSpec) :=
  OpenClaim.holds_of_wide 8 Try.f8 rfl rfl rfl rfl rfl rfl rfl ⟨rfl, rfl, rfl, rfl, rfl⟩ rfl rfl rfl rfl rfl (by kernel_rfl) Try.func8 (by kernel_rfl)
    (of_decide_eq_true (by kernel_rfl)) (by unfold Func.isWrapper; first | (rw [if_pos (by decide +kernel)]; kernel_rfl) | (rw [if_neg (by decide +kernel)]; exact ⟨rfl, rfl⟩))
    (fun os started H enc _ => lifted os started H enc)

theorem proved : Rows.SboxBlocksSaid := over
end Go.Proofs.Ytpllcaeghpijiaa.sboxBlocks
