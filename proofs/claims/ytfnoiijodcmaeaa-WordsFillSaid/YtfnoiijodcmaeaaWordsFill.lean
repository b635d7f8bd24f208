/- Which sector begins with bytes: the statement WordsFill. No condition. -/
import Derived.Test.YtfnoiijodcmaeaaWdFill
namespace Go.Proofs.Ytfnoiijodcmaeaa.wordsFill
open Go.ChangeShapes Go.WideShapes Go.ChangeAt Go.RowKit
set_option linter.unusedVariables false

theorem own : ownKnob Try.prog.godebug = none := by kernel_rfl
theorem five_is : mk 128 (extF 1 (fun _ => 5)) = mk 128 fiveK := mk_ext fun j _ => by
  unfold extF fiveK
  by_cases h : j = 0
  · rw [if_pos (by omega), if_pos h]
  · rw [if_neg (by omega), if_neg h]
theorem five_any (w : World) : Calls Try.prog 27 #[.slice (some ⟨w.heap.size, 0, none⟩) 1 1] (w.alloc (.cells #[.int .u8 5] 5)) fun e w' => e = .returned (.tuple #[.agg (cellsOf .u8 (mk 128 fiveK)), .nilIface]) ∧ Below w.heap.size w w' := by
  have h : IntBlk (w.alloc (.cells #[.int .u8 5] 5)) w.heap.size .u8 5 (mk 1 (fun _ => 5)) := IntBlk.new w .u8 _ [5]
  refine (Fill_ok (some ⟨w.heap.size, 0, none⟩) 1 1 (fun _ => 5) (by omega) _ h.bytesAt).mono ?_
  rintro e w' ⟨he, hb⟩
  rw [five_is] at he
  exact ⟨he, ((Below.refl _ w).alloc (Nat.le_refl _) _).trans (hb.mono (by simp))⟩
attribute [local irreducible] mk extF put fiveK
set_option maxRecDepth 100000 in
set_option maxHeartbeats 4000000 in
theorem walk (q : Option Addr) (n cap : Nat) (g : Nat → Nat) (hg : ∀ i, i < n → g i < 256) (hcap : n ≤ cap) (hn : n ≤ 140737488351232) (w : World) (hq : BytesAt w q n g) :
    Calls Try.prog 8 #[.slice q n cap] w fun e w' => e = .returned (.bool true) ∧ Below w.heap.size w w' := by
  have OC := Lib.hid (five_any w)
  have HQ := Lib.hid (fun (W : World) (hb : Below w.heap.size w W) => hq.below hb)
  clear hq hg hcap hn
  by_cases hl : 128 < n
  case pos =>
    have d1 : decide ((128 : Int) < (n : Int)) = true := by simp; omega
    have d2 : decide (128 < n) = true := by simp; omega
    have FC := Lib.hid (fun (W : World) (_ : BytesAt W q n g) => Fill_range q n cap hl W)
    clear hl
    go_enter Try.func8, Try.ntmps8
    go_wp2_with (first
      | (go_at_call 27; change Calls _ _ _ (w.alloc (.cells #[.int .u8 5] 5)) _; refine OC.out.mono ?_; rintro e w1 ⟨rfl, hb1⟩
         have B1 := Lib.hid hb1
         clear OC hb1)
      | (refine wpList_sec_alloc rfl rfl w1.heap.size rfl ?_)
      | (refine store_row_on rfl 55 _ _ rfl rfl w1.heap.size (cellsOf .u8 (mk 128 fiveK)) rfl rfl 55 (cellsOf .u8 (mk 128 zeroK)) (IntBlk.new w1 .u8 _ (mk 128 zeroK)) (secSize _) (sec_same _ _) (cellsOf_one _ _) ?_
         have s2 := sec_laid w1 fiveK
         change wpList _ _ _ _ _ ((w1.alloc (.cells (cellsOf .u8 (mk 128 zeroK)) 55)).setRow w1.heap.size (cellsOf .u8 (mk 128 fiveK)))
         generalize (w1.alloc (.cells (cellsOf .u8 (mk 128 zeroK)) 55)).setRow w1.heap.size (cellsOf .u8 (mk 128 fiveK)) = w2 at *
         have R2 := Lib.hid s2.1
         have B2 := Lib.hid (B1.out.trans (s2.2.mono B1.out.size))
         clear s2 B1)
      | (refine wpList_sec_load rfl (.tmp 3) rfl w1.heap.size fiveK rfl R2.out ?_)
      | (refine wpList_sec_build5 rfl rfl ?_)
      | (refine wpList_sec_neq rfl _ _ rfl fiveK fiveK rfl rfl rfl ?_)
      | (go_at_call 27; refine (FC.out _ (HQ.out _ B2.out)).mono ?_; rintro e w3 ⟨rfl, hb3⟩
         have B3 := Lib.hid (B2.out.trans (hb3.mono B2.out.size))
         clear FC hb3 R2 B2)
      | (refine wpList_sec_alloc rfl rfl w3.heap.size rfl ?_)
      | (refine store_row_on rfl 55 _ _ rfl rfl w3.heap.size (cellsOf .u8 (mk 128 zeroK)) rfl rfl 55 (cellsOf .u8 (mk 128 zeroK)) (IntBlk.new w3 .u8 _ (mk 128 zeroK)) (secSize _) (sec_same _ _) (cellsOf_one _ _) ?_
         have s4 := sec_laid w3 zeroK
         change wpList _ _ _ _ _ ((w3.alloc (.cells (cellsOf .u8 (mk 128 zeroK)) 55)).setRow w3.heap.size (cellsOf .u8 (mk 128 zeroK)))
         generalize (w3.alloc (.cells (cellsOf .u8 (mk 128 zeroK)) 55)).setRow w3.heap.size (cellsOf .u8 (mk 128 zeroK)) = w4 at *
         have R4 := Lib.hid s4.1
         have B4 := Lib.hid (B3.out.trans (s4.2.mono B3.out.size))
         clear s4 B3)
      | (go_at_call 19; refine (Is_err 1 rfl _).mono ?_; rintro e w5 ⟨rfl, rfl⟩)
      | (refine wpList_sec_load rfl (.tmp 5) rfl w3.heap.size zeroK rfl R4.out ?_)
      | (refine wpList_sec_build0 rfl rfl ?_)
      | (refine wpList_sec_eql rfl _ _ rfl zeroK zeroK rfl rfl rfl ?_))
    go_ret
    exact ⟨rfl, B4.out⟩
  case neg =>
    have d1 : decide ((128 : Int) < (n : Int)) = false := by simp; omega
    have d2 : decide (128 < n) = false := by simp; omega
    have HN := Lib.hid (show n ≤ 128 by omega)
    have FC := Lib.hid (fun (W : World) (hW : BytesAt W q n g) => Fill_ok q n cap g (by omega) W hW)
    have HE := Lib.hid (extF_put n 128 g)
    clear hl
    go_enter Try.func8, Try.ntmps8
    go_wp2_with (first
      | (go_at_call 27; change Calls _ _ _ (w.alloc (.cells #[.int .u8 5] 5)) _; refine OC.out.mono ?_; rintro e w1 ⟨rfl, hb1⟩
         have B1 := Lib.hid hb1
         clear OC hb1)
      | (refine wpList_sec_alloc rfl rfl w1.heap.size rfl ?_)
      | (refine store_row_on rfl 55 _ _ rfl rfl w1.heap.size (cellsOf .u8 (mk 128 fiveK)) rfl rfl 55 (cellsOf .u8 (mk 128 zeroK)) (IntBlk.new w1 .u8 _ (mk 128 zeroK)) (secSize _) (sec_same _ _) (cellsOf_one _ _) ?_
         have s2 := sec_laid w1 fiveK
         change wpList _ _ _ _ _ ((w1.alloc (.cells (cellsOf .u8 (mk 128 zeroK)) 55)).setRow w1.heap.size (cellsOf .u8 (mk 128 fiveK)))
         generalize (w1.alloc (.cells (cellsOf .u8 (mk 128 zeroK)) 55)).setRow w1.heap.size (cellsOf .u8 (mk 128 fiveK)) = w2 at *
         have R2 := Lib.hid s2.1
         have B2 := Lib.hid (B1.out.trans (s2.2.mono B1.out.size))
         clear s2 B1)
      | (refine wpList_sec_load rfl (.tmp 3) rfl w1.heap.size fiveK rfl R2.out ?_)
      | (refine wpList_sec_build5 rfl rfl ?_)
      | (refine wpList_sec_neq rfl _ _ rfl fiveK fiveK rfl rfl rfl ?_)
      | (go_at_call 27; refine (FC.out _ (HQ.out _ B2.out)).mono ?_; rintro e w3 ⟨rfl, hb3⟩
         have B3 := Lib.hid (B2.out.trans (hb3.mono B2.out.size))
         clear FC hb3 R2 B2)
      | (refine wpList_sec_alloc rfl rfl w3.heap.size rfl ?_)
      | (refine store_row_on rfl 55 _ _ rfl rfl w3.heap.size (cellsOf .u8 (mk 128 (extF n g))) rfl rfl 55 (cellsOf .u8 (mk 128 zeroK)) (IntBlk.new w3 .u8 _ (mk 128 zeroK)) (secSize _) (sec_same _ _) (cellsOf_one _ _) ?_
         have s4 := sec_laid w3 (extF n g)
         change wpList _ _ _ _ _ ((w3.alloc (.cells (cellsOf .u8 (mk 128 zeroK)) 55)).setRow w3.heap.size (cellsOf .u8 (mk 128 (extF n g))))
         generalize (w3.alloc (.cells (cellsOf .u8 (mk 128 zeroK)) 55)).setRow w3.heap.size (cellsOf .u8 (mk 128 (extF n g))) = w4 at *
         have R4 := Lib.hid s4.1
         have B4 := Lib.hid (B3.out.trans (s4.2.mono B3.out.size))
         clear s4 B3)
      | (refine wpList_sec_build0 rfl rfl ?_)
      | (refine wpList_sec_alloc rfl rfl w4.heap.size rfl ?_)
      | (refine store_row_on rfl 55 _ _ rfl rfl w4.heap.size (cellsOf .u8 (mk 128 zeroK)) rfl rfl 55 (cellsOf .u8 (mk 128 zeroK)) (IntBlk.new w4 .u8 _ (mk 128 zeroK)) (secSize _) (sec_same _ _) (cellsOf_one _ _) ?_
         have s6 := sec_laid w4 zeroK
         change wpList _ _ _ _ _ ((w4.alloc (.cells (cellsOf .u8 (mk 128 zeroK)) 55)).setRow w4.heap.size (cellsOf .u8 (mk 128 zeroK)))
         generalize (w4.alloc (.cells (cellsOf .u8 (mk 128 zeroK)) 55)).setRow w4.heap.size (cellsOf .u8 (mk 128 zeroK)) = w6 at *
         have X6 := Lib.hid s6.1
         have R6 := Lib.hid (R4.out.below s6.2 R4.out.lt)
         have N6 := Lib.hid (Nat.ne_of_lt R4.out.lt)
         have B6 := Lib.hid (B4.out.trans (s6.2.mono B4.out.size))
         have T6 := Lib.hid B4.out.size
         clear s6 B4 R4)
      | (refine wpList_sec_row rfl _ rfl w4.heap.size rfl ?_)
      | (refine wpList_copy_bytes rfl _ _ rfl w4.heap.size 0 128 128 128 zeroK _ rfl q n cap (fun _ => rfl) g rfl 55 X6.out HN.out (by omega) (HQ.out _ B6.out) ?_
         intro v w7 hr7 hb7 hs7
         rw [HE.out] at hr7
         have X7 := Lib.hid hr7
         have R7 := Lib.hid (hb7.blk R6.out N6.out)
         have B7 := Lib.hid (B6.out.trans (hb7.below T6.out B6.out.size))
         clear hr7 hb7 hs7 X6 R6 B6 HE)
      | (refine wpList_sec_load rfl (.tmp 5) rfl w3.heap.size (extF n g) rfl R7.out ?_)
      | (refine wpList_sec_load rfl (.tmp 7) rfl w4.heap.size (extF n g) rfl X7.out ?_)
      | (refine wpList_sec_eql rfl _ _ rfl (extF n g) (extF n g) rfl rfl rfl ?_))
    go_ret
    exact ⟨rfl, B7.out⟩

theorem laidOut : laidOutB Try.prog = true := by kernel_rfl
set_option maxRecDepth 100000 in
theorem lifted (os : Os) (started : os.Started) (H : Type) (enc : TypeId × Value → H) :
    ReturnsInHanded {} Try.checked os 8 .any (Rows.wordsFillSpec.pre6 enc Try.prog Try.f8 Rows.wordsFillRow.domain false) (Rows.wordsFillSpec.post enc Try.prog Try.f8 false true false false) := by
  refine returnsInHanded_of_change_sized (C := Try.checked) own started (by kernel_rfl) Try.func8
    (ChangeSpec.witness6 (enc := enc) (C := Try.checked) false ⟨#[], #[.slice none 0 0], []⟩ 8 (by kernel_rfl) (by kernel_rfl) (by kernel_rfl) (by kernel_rfl)) ?_
  intro W base args ds gs before hval0 hW hcnd hsz _
  have hval : ∀ (j : Nat) t v, Try.f8.params[j]? = some t → args[j]? = some v → Value.okWide Try.prog W .any base t v := hval0
  have hW' := hW
  obtain ⟨p, q, hA0, hV, rfl, hfz, hnd⟩ := hW
  have hA : DataW.TrodAll enc Try.prog W 0 (fun _ => true) true Try.f8.params.toList args.toList ds p := hA0
  rw [Try.params8] at hA hval
  obtain ⟨v0, vs0, d0, ds0, p0, q0, hargs, rfl, rfl, h0, r0⟩ := trodAll_cons hA
  obtain ⟨rfl, rfl, rfl⟩ := trodAll_nil r0
  obtain rfl : args = #[v0] := by cases args; simp_all
  obtain ⟨rfl, rfl⟩ := trodVars_none hV
  have k0 := h0
  have lt0 : ∀ x ∈ p0, x.block < W.heap.size := by obtain ⟨m, hm⟩ := k0; exact DataW.trod_lt m _ _ _ hm
  obtain ⟨q0, n0, c0, a0, rfl, w0, y0, l0, m0⟩ := open_byteslice (hval 0 22 v0 rfl rfl) h0
  have z0 := open_size k0 hsz (j := 0) (by rw [Try.params8]; rfl) rfl
  clear hA0 hval0
  refine (walk q0 n0 c0 a0 w0 l0 z0 W y0).mono fun e W' ⟨he, bel⟩ => ?_
  subst he
  exact ⟨_, rfl, _, _, _, [], _, [], hW', trodAll_mk1 (shut_bool Try.underlying4 _), (trodAll_cons_mk (Below.trod laidOut (by kernel_rfl) (of_decide_eq_true (by kernel_rfl)) k0 bel lt0) trodAll_mk0), rfl, bel.frame _, fun h => by cases h⟩

theorem over : Rows.wordsFillRow.holds Try.pinned (OpenSpec.ofChange Rows.wordsFillSpec) :=
  OpenClaim.holds_of_wide 8 Try.f8 rfl rfl rfl rfl rfl rfl rfl ⟨rfl, rfl, rfl, rfl, rfl⟩ rfl rfl rfl rfl rfl (by kernel_rfl) Try.func8 (by kernel_rfl)
    (of_decide_eq_true (by kernel_rfl)) (by unfold Func.isWrapper; first | (rw [if_pos (by decide +kernel)]; kernel_rfl) | (rw [if_neg (by decide +kernel)]; exact ⟨rfl, rfl⟩))
    (fun os started H enc _ => lifted os started H enc)

theorem proved : Rows.WordsFillSaid := over
end Go.Proofs.Ytfnoiijodcmaeaa.wordsFill
