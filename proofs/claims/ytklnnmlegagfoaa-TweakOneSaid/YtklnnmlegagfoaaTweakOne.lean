/- Package tweak's HideBlock and ShowBlock are the document's: the statement TweakOne. No condition. -/
import Derived.Test.YtklnnmlegagfoaaSameC
namespace Go.Proofs.Ytklnnmlegagfoaa.tweakOne
open Go.ChangeShapes Go.WideShapes Go.ChangeAt Go.RowKit
set_option linter.unusedVariables false

theorem own : ownKnob Try.prog.godebug = none := by kernel_rfl
theorem quiet_nil_eql {o : Oper} {a : Act} {C : World → Prop} {K : Act → Prop} (x : Operand) (ho : o.op = .binOp .eql 27 x (.const .nilIface) 27) (hx : a.eval x = .nilIface) (hk : K (a.put o.dst (.bool true))) : o.quiet Try.prog a C K := by
  refine quiet_value (.bool true) (fun w _ => ?_) hk
  unfold execOp
  simp only [ho, hx]
  simp [go_sem, Act.eval]
theorem call_refBlock (args : Array Value) (w : World) : (callFunc 22 args).run Try.prog w = .ok (.enter 22 args) w := by simp [go_sem]
attribute [local irreducible] encK rkS wB xorK

set_option maxRecDepth 100000 in
set_option maxHeartbeats 4000000 in
theorem walk (p : Option Addr) (n cap : Nat) (g t f : Nat → Nat) (hg : ∀ i, i < n → g i < 256) (hcap : n ≤ cap) (hmax : cap ≤ maxLen) (ht : IsKey t) (hf : IsKey f) (w : World) (hp : BytesAt w p n g) :
    Calls Try.prog 5 #[.slice p n cap, .agg (cellsOf .u8 (mk 16 t)), .agg (cellsOf .u8 (mk 16 f))] w fun e w' => e = .returned (.bool true) ∧ Below w.heap.size w w' := by
  have b0 := below_two w (.cells (cellsOf .u8 (mk 16 t)) 25) (.cells (cellsOf .u8 (mk 16 f)) 25)
  have B0 := Lib.hid b0
  have T0 := Lib.hid ((IntBlk.new w .u8 25 (mk 16 t)).alloc (.cells (cellsOf .u8 (mk 16 f)) 25))
  have F0 := Lib.hid (blk_two w .u8 25 (mk 16 f) (.cells (cellsOf .u8 (mk 16 t)) 25))
  have AL := Lib.hid (alive_any ((w.alloc (.cells (cellsOf .u8 (mk 16 t)) 25)).alloc (.cells (cellsOf .u8 (mk 16 f)) 25)))
  have P0 := Lib.hid (hp.below b0)
  clear b0 hp
  by_cases hbig : 4096 < n
  · have d1 : decide ((4096 : Int) < (n : Int)) = true := by simp; omega
    have d2 : decide (4096 < n) = true := by simp; omega
    go_enter Try.func5, Try.ntmps5
    go_wp2_with (first
      | (go_at_call 16; refine AL.out.mono ?_; rintro e w1 ⟨rfl, hb1⟩))
    go_ret
    exact ⟨rfl, B0.out.trans (hb1.mono B0.out.size)⟩
  · have d1 : decide ((4096 : Int) < (n : Int)) = false := by simp; omega
    have d2 : decide (4096 < n) = false := by simp; omega
    clear hbig
    rcases (show (n ≠ 16 ∧ n ≠ 32) ∨ n = 4 * 4 ∨ n = 4 * 8 by omega) with hx | hx
    · obtain ⟨h16, h32⟩ := hx
      have HC := Lib.hid (fun (W : World) => HideBlock_bad p n cap t f h16 h32 W)
      have SC := Lib.hid (fun (W : World) => ShowBlock_bad p n cap t f h16 h32 W)
      go_enter Try.func5, Try.ntmps5
      go_wp2_with (first
        | (go_at_call 16; refine AL.out.mono ?_; rintro e w1 ⟨rfl, hb1⟩
           have B1 := Lib.hid (B0.out.trans (hb1.mono B0.out.size)); have T1 := Lib.hid (T0.out.below hb1 T0.out.lt); have F1 := Lib.hid (F0.out.below hb1 F0.out.lt); have P1 := Lib.hid (P0.out.below hb1)
           clear hb1 AL B0 T0 F0 P0)
        | (refine wpList_load_row rfl 25 _ rfl w.heap.size rfl 25 (cellsOf .u8 (mk 16 t)) (0, 0) _ T1.out keyUnder rfl (keySize _) ?_)
        | (refine wpList_load_row rfl 25 _ rfl (w.heap.size + 1) rfl 25 (cellsOf .u8 (mk 16 f)) (0, 0) _ F1.out keyUnder rfl (keySize _) ?_)
        | (go_at_call 19; refine (HC.out w1).mono ?_; rintro e w2 ⟨rfl, hb⟩
           have B2 := Lib.hid (B1.out.trans (hb.mono B1.out.size)); have T2 := Lib.hid (T1.out.below hb T1.out.lt); have F2 := Lib.hid (F1.out.below hb F1.out.lt); have P2 := Lib.hid (P1.out.below hb)
           clear hb B1 T1 F1 P1 HC)
        | (refine store_row_on rfl 25 _ _ rfl rfl w2.heap.size (cellsOf .u8 (mk 16 (zeroK))) rfl rfl 25 (cellsOf .u8 (mk 16 zeroK)) (IntBlk.new w2 .u8 _ (mk 16 zeroK)) (keySize _) rfl (cellsOf_one _ _) ?_
           have h3 := (IntBlk.new w2 .u8 25 (mk 16 zeroK)).setRow .u8 (mk 16 (zeroK))
           have e3 : Below w2.heap.size w2 ((w2.alloc (.cells (cellsOf .u8 (mk 16 zeroK)) 25)).setRow w2.heap.size (cellsOf .u8 (mk 16 (zeroK)))) := below_setRow ((Below.refl _ w2).alloc (Nat.le_refl _) _) (Nat.le_refl _) _
           change wpList _ _ _ _ _ ((w2.alloc (.cells (cellsOf .u8 (mk 16 zeroK)) 25)).setRow w2.heap.size (cellsOf .u8 (mk 16 (zeroK))))
           generalize (w2.alloc (.cells (cellsOf .u8 (mk 16 zeroK)) 25)).setRow w2.heap.size (cellsOf .u8 (mk 16 (zeroK))) = w3 at *
           have H3 := Lib.hid h3
           have B3 := Lib.hid (B2.out.trans (e3.mono B2.out.size)); have T3 := Lib.hid (T2.out.below e3 T2.out.lt); have F3 := Lib.hid (F2.out.below e3 F2.out.lt); have P3 := Lib.hid (P2.out.below e3)
           clear h3 e3 B2 T2 F2 P2)
        | (refine wpList_load_row rfl 25 _ rfl w.heap.size rfl 25 (cellsOf .u8 (mk 16 t)) (0, 0) _ T3.out keyUnder rfl (keySize _) ?_)
        | (refine wpList_load_row rfl 25 _ rfl (w.heap.size + 1) rfl 25 (cellsOf .u8 (mk 16 f)) (0, 0) _ F3.out keyUnder rfl (keySize _) ?_)
        | (go_at_call 20; refine (SC.out w3).mono ?_; rintro e w4 ⟨rfl, hb⟩
           have B4 := Lib.hid (B3.out.trans (hb.mono B3.out.size)); have T4 := Lib.hid (T3.out.below hb T3.out.lt); have F4 := Lib.hid (F3.out.below hb F3.out.lt); have P4 := Lib.hid (P3.out.below hb); have H4 := Lib.hid (H3.out.below hb H3.out.lt)
           clear hb B3 T3 F3 P3 H3 SC)
        | (refine store_row_on rfl 25 _ _ rfl rfl w4.heap.size (cellsOf .u8 (mk 16 (zeroK))) rfl rfl 25 (cellsOf .u8 (mk 16 zeroK)) (IntBlk.new w4 .u8 _ (mk 16 zeroK)) (keySize _) rfl (cellsOf_one _ _) ?_
           have s5 := (IntBlk.new w4 .u8 25 (mk 16 zeroK)).setRow .u8 (mk 16 (zeroK))
           have e5 : Below w4.heap.size w4 ((w4.alloc (.cells (cellsOf .u8 (mk 16 zeroK)) 25)).setRow w4.heap.size (cellsOf .u8 (mk 16 (zeroK)))) := below_setRow ((Below.refl _ w4).alloc (Nat.le_refl _) _) (Nat.le_refl _) _
           change wpList _ _ _ _ _ ((w4.alloc (.cells (cellsOf .u8 (mk 16 zeroK)) 25)).setRow w4.heap.size (cellsOf .u8 (mk 16 (zeroK))))
           generalize (w4.alloc (.cells (cellsOf .u8 (mk 16 zeroK)) 25)).setRow w4.heap.size (cellsOf .u8 (mk 16 (zeroK))) = w5 at *
           have S5 := Lib.hid s5
           have B5 := Lib.hid (B4.out.trans (e5.mono B4.out.size)); have T5 := Lib.hid (T4.out.below e5 T4.out.lt); have F5 := Lib.hid (F4.out.below e5 F4.out.lt); have P5 := Lib.hid (P4.out.below e5); have H5 := Lib.hid (H4.out.below e5 H4.out.lt)
           clear s5 e5 B4 T4 F4 P4 H4)
        | (go_at_call 21; refine (refRounds_bad p n cap h16 h32 w5).mono ?_; rintro e w6 ⟨rfl, rfl⟩)
        | (go_at_call 15; refine (Is_key _).mono ?_; rintro e w10 ⟨rfl, rfl⟩)
        | (refine wpList_load_want rfl _ rfl w2.heap.size zeroK rfl H5.out ?_)
        | (refine wpList_load_want rfl _ rfl w4.heap.size zeroK rfl S5.out ?_)
        | (refine wpList_zero_want rfl rfl ?_)
        | (refine wpList_eql_is rfl _ _ rfl zeroK zeroK true (same_key _) rfl rfl ?_))
      go_ret
      exact ⟨rfl, B5.out⟩
    · obtain ⟨N, hN, hnN⟩ : ∃ N, (N = 4 ∨ N = 8) ∧ n = 4 * N := by
        rcases hx with hx | hx
        · exact ⟨4, .inl rfl, hx⟩
        · exact ⟨8, .inr rfl, hx⟩
      have HC := Lib.hid (fun (W : World) (h : BytesAt W p n g) => HideBlock_ok p n cap N g t f hnN hN hcap hg ht hf W h)
      have SC := Lib.hid (fun (W : World) (h : BytesAt W p n g) => ShowBlock_ok p n cap N g t f hnN hN hcap hg ht hf W h)
      have RC := Lib.hid (fun (W : World) (h : BytesAt W p n g) => refRounds_ok p n cap N g hnN hN hg W h)
      have hr : ∀ i, i < N + 7 → IsKey (rkS N g i) := fun i _ => rkS_key (fun i hi => hg i (by omega)) i
      have hT : N + 7 < 4294967296 := by omega
      have ks := wB_key (b := true) hr ht hf
      have hbk := (wB_back (b := true) hr ht hf).mk
      simp only [Bool.not_true] at hbk
      have HBK := Lib.hid hbk
      have R1 := Lib.hid (fun (q : Option Addr) (c : Nat) (W : World) (h : KeysAt W q (N + 7) (rkS N g)) => refBlock_any q (N + 7) c (rkS N g) t f hr ht hf hT W h)
      have R2 := Lib.hid (fun (q : Option Addr) (c : Nat) (W : World) (h : KeysAt W q (N + 7) (rkS N g)) => refBlock_any q (N + 7) c (rkS N g) t (wB true (rkS N g) (N + 7) t f) hr ht ks hT W h)
      clear hx hnN hN hr hT ks hbk hg
      generalize rkS N g = R at *
      generalize N + 7 = T at *
      go_enter Try.func5, Try.ntmps5
      go_wp2_with (first
        | (go_at_call 16; refine AL.out.mono ?_; rintro e w1 ⟨rfl, hb1⟩
           have B1 := Lib.hid (B0.out.trans (hb1.mono B0.out.size)); have T1 := Lib.hid (T0.out.below hb1 T0.out.lt); have F1 := Lib.hid (F0.out.below hb1 F0.out.lt); have P1 := Lib.hid (P0.out.below hb1)
           clear hb1 AL B0 T0 F0 P0)
        | (refine wpList_load_row rfl 25 _ rfl w.heap.size rfl 25 (cellsOf .u8 (mk 16 t)) (0, 0) _ T1.out keyUnder rfl (keySize _) ?_)
        | (refine wpList_load_row rfl 25 _ rfl (w.heap.size + 1) rfl 25 (cellsOf .u8 (mk 16 f)) (0, 0) _ F1.out keyUnder rfl (keySize _) ?_)
        | (go_at_call 19; refine (HC.out w1 P1.out).mono ?_; rintro e w2 ⟨rfl, hb⟩
           have B2 := Lib.hid (B1.out.trans (hb.mono B1.out.size)); have T2 := Lib.hid (T1.out.below hb T1.out.lt); have F2 := Lib.hid (F1.out.below hb F1.out.lt); have P2 := Lib.hid (P1.out.below hb)
           clear hb B1 T1 F1 P1 HC)
        | (refine store_row_on rfl 25 _ _ rfl rfl w2.heap.size (cellsOf .u8 (mk 16 (wB false R T t f))) rfl rfl 25 (cellsOf .u8 (mk 16 zeroK)) (IntBlk.new w2 .u8 _ (mk 16 zeroK)) (keySize _) (by rw [cellsOf_size, cellsOf_size, mk_len, mk_len]) (cellsOf_one _ _) ?_
           have h3 := (IntBlk.new w2 .u8 25 (mk 16 zeroK)).setRow .u8 (mk 16 (wB false R T t f))
           have e3 : Below w2.heap.size w2 ((w2.alloc (.cells (cellsOf .u8 (mk 16 zeroK)) 25)).setRow w2.heap.size (cellsOf .u8 (mk 16 (wB false R T t f)))) := below_setRow ((Below.refl _ w2).alloc (Nat.le_refl _) _) (Nat.le_refl _) _
           change wpList _ _ _ _ _ ((w2.alloc (.cells (cellsOf .u8 (mk 16 zeroK)) 25)).setRow w2.heap.size (cellsOf .u8 (mk 16 (wB false R T t f))))
           generalize (w2.alloc (.cells (cellsOf .u8 (mk 16 zeroK)) 25)).setRow w2.heap.size (cellsOf .u8 (mk 16 (wB false R T t f))) = w3 at *
           have H3 := Lib.hid h3
           have B3 := Lib.hid (B2.out.trans (e3.mono B2.out.size)); have T3 := Lib.hid (T2.out.below e3 T2.out.lt); have F3 := Lib.hid (F2.out.below e3 F2.out.lt); have P3 := Lib.hid (P2.out.below e3)
           clear h3 e3 B2 T2 F2 P2)
        | (refine wpList_load_row rfl 25 _ rfl w.heap.size rfl 25 (cellsOf .u8 (mk 16 t)) (0, 0) _ T3.out keyUnder rfl (keySize _) ?_)
        | (refine wpList_load_row rfl 25 _ rfl (w.heap.size + 1) rfl 25 (cellsOf .u8 (mk 16 f)) (0, 0) _ F3.out keyUnder rfl (keySize _) ?_)
        | (go_at_call 20; refine (SC.out w3 P3.out).mono ?_; rintro e w4 ⟨rfl, hb⟩
           have B4 := Lib.hid (B3.out.trans (hb.mono B3.out.size)); have T4 := Lib.hid (T3.out.below hb T3.out.lt); have F4 := Lib.hid (F3.out.below hb F3.out.lt); have P4 := Lib.hid (P3.out.below hb); have H4 := Lib.hid (H3.out.below hb H3.out.lt)
           clear hb B3 T3 F3 P3 H3 SC)
        | (refine store_row_on rfl 25 _ _ rfl rfl w4.heap.size (cellsOf .u8 (mk 16 (wB true R T t f))) rfl rfl 25 (cellsOf .u8 (mk 16 zeroK)) (IntBlk.new w4 .u8 _ (mk 16 zeroK)) (keySize _) (by rw [cellsOf_size, cellsOf_size, mk_len, mk_len]) (cellsOf_one _ _) ?_
           have s5 := (IntBlk.new w4 .u8 25 (mk 16 zeroK)).setRow .u8 (mk 16 (wB true R T t f))
           have e5 : Below w4.heap.size w4 ((w4.alloc (.cells (cellsOf .u8 (mk 16 zeroK)) 25)).setRow w4.heap.size (cellsOf .u8 (mk 16 (wB true R T t f)))) := below_setRow ((Below.refl _ w4).alloc (Nat.le_refl _) _) (Nat.le_refl _) _
           change wpList _ _ _ _ _ ((w4.alloc (.cells (cellsOf .u8 (mk 16 zeroK)) 25)).setRow w4.heap.size (cellsOf .u8 (mk 16 (wB true R T t f))))
           generalize (w4.alloc (.cells (cellsOf .u8 (mk 16 zeroK)) 25)).setRow w4.heap.size (cellsOf .u8 (mk 16 (wB true R T t f))) = w5 at *
           have S5 := Lib.hid s5
           have B5 := Lib.hid (B4.out.trans (e5.mono B4.out.size)); have T5 := Lib.hid (T4.out.below e5 T4.out.lt); have F5 := Lib.hid (F4.out.below e5 F4.out.lt); have P5 := Lib.hid (P4.out.below e5); have H5 := Lib.hid (H4.out.below e5 H4.out.lt)
           clear s5 e5 B4 T4 F4 P4 H4)
        | (go_at_call 21; refine (RC.out w5 P5.out).mono ?_; rintro e w6 ⟨q, c, rfl, hk, hb⟩
           have B6 := Lib.hid (B5.out.trans (hb.mono B5.out.size)); have T6 := T5.out.below hb T5.out.lt; have F6 := F5.out.below hb F5.out.lt; have H6 := H5.out.below hb H5.out.lt; have S6 := S5.out.below hb S5.out.lt
           have HT := Lib.hid (fun (w' : World) (h : Below w6.heap.size w6 w') => T6.below h T6.lt)
           have HF := Lib.hid (fun (w' : World) (h : Below w6.heap.size w6 w') => F6.below h F6.lt)
           have HH := Lib.hid (fun (w' : World) (h : Below w6.heap.size w6 w') => H6.below h H6.lt)
           have HS := Lib.hid (fun (w' : World) (h : Below w6.heap.size w6 w') => S6.below h S6.lt)
           have K1 := Lib.hid (fun (w' : World) (h : Below w6.heap.size w6 w') => (R1.out q c w' (hk.below h)).mono (fun e w'' (hh : e = .returned (.agg (cellsOf .u8 (mk 16 (wB false R T t f)))) ∧ Below w'.heap.size w' w'') => (⟨hh.1, h.trans (hh.2.mono h.size)⟩ : e = .returned (.agg (cellsOf .u8 (mk 16 (wB false R T t f)))) ∧ Below w6.heap.size w6 w'')))
           have K2 := Lib.hid (fun (w' : World) (h : Below w6.heap.size w6 w') => (R2.out q c w' (hk.below h)).mono (fun e w'' (hh : e = .returned (.agg (cellsOf .u8 (mk 16 (wB false R T t (wB true R T t f))))) ∧ Below w'.heap.size w' w'') => (⟨hh.1, h.trans (hh.2.mono h.size)⟩ : e = .returned (.agg (cellsOf .u8 (mk 16 (wB false R T t (wB true R T t f))))) ∧ Below w6.heap.size w6 w'')))
           clear hk hb B5 T5 F5 H5 S5 P5 T6 F6 H6 S6 R1 R2 RC))
      refine wp_region_class_tail 22 (fun w' => Below w6.heap.size w6 w') (by kernel_rfl) (by kernel_rfl) ((Below.refl _ _).drew) ?_
      simp only [List.take_succ_cons, List.take_zero, List.drop_succ_cons, List.drop_zero]
      iterate 22 (first
        | go_big_quiet_skip
        | (go_big_quiet_want
           first
             | (go_big_quiet_op; go_big_quiet_on)
             | ((first
                 | (refine quiet_nil_eql _ rfl rfl ?_)
                 | (refine quiet_pick _ _ _ rfl rfl rfl ?_)
                 | (refine quiet_load_row 25 _ rfl w2.heap.size .u8 (mk 16 (wB false R T t f)) rfl 16 5 keyUnder (keySize _) HH.out ?_)
                 | (refine quiet_load_row 25 _ rfl w4.heap.size .u8 (mk 16 (wB true R T t f)) rfl 16 5 keyUnder (keySize _) HS.out ?_)
                 | (refine quiet_load_row 25 _ rfl w.heap.size .u8 (mk 16 t) rfl 16 5 keyUnder (keySize _) HT.out ?_)
                 | (refine quiet_load_row 25 _ rfl (w.heap.size + 1) .u8 (mk 16 f) rfl 16 5 keyUnder (keySize _) HF.out ?_)
                 | (refine quiet_eql _ _ rfl (wB false R T t f) (wB false R T t f) rfl rfl rfl ?_)
                 | (refine quiet_eql _ _ rfl (wB false R T t (wB true R T t f)) f rfl rfl HBK.out ?_)
                 | (refine quiet_call3 _ _ _ _ _ rfl 22 rfl (.slice q T c) (.agg (cellsOf .u8 (mk 16 t))) (.agg (cellsOf .u8 (mk 16 f))) (.agg (cellsOf .u8 (mk 16 (wB false R T t f)))) rfl rfl rfl call_refBlock K1.out ?_; clear K1)
                 | (refine quiet_call3 _ _ _ _ _ rfl 22 rfl (.slice q T c) (.agg (cellsOf .u8 (mk 16 t))) (.agg (cellsOf .u8 (mk 16 (wB true R T t f)))) (.agg (cellsOf .u8 (mk 16 (wB false R T t (wB true R T t f))))) rfl rfl rfl call_refBlock K2.out ?_; clear K2)); go_simp; go_big_quiet_on)))
      refine wpQuiet_nil ?_
      intro wx hwx
      go_wp2
      go_ret
      exact ⟨rfl, B6.out.trans (hwx.mono B6.out.size)⟩

theorem laidOut : laidOutB Try.prog = true := by kernel_rfl
set_option maxRecDepth 100000 in
theorem lifted (os : Os) (started : os.Started) (H : Type) (enc : TypeId × Value → H) :
    ReturnsInHanded {} Try.checked os 5 .any (Rows.tweakOneSpec.pre6 enc Try.prog Try.f5 Rows.tweakOneRow.domain false) (Rows.tweakOneSpec.post enc Try.prog Try.f5 false true false false) := by
  refine returnsInHanded_of_change (C := Try.checked) own started (by kernel_rfl) Try.func5
    (ChangeSpec.witness6 (enc := enc) (C := Try.checked) false ⟨#[], #[.slice none 0 0, .agg #[.int .u8 0, .int .u8 0, .int .u8 0, .int .u8 0, .int .u8 0, .int .u8 0, .int .u8 0, .int .u8 0, .int .u8 0, .int .u8 0, .int .u8 0, .int .u8 0, .int .u8 0, .int .u8 0, .int .u8 0, .int .u8 0], .agg #[.int .u8 0, .int .u8 0, .int .u8 0, .int .u8 0, .int .u8 0, .int .u8 0, .int .u8 0, .int .u8 0, .int .u8 0, .int .u8 0, .int .u8 0, .int .u8 0, .int .u8 0, .int .u8 0, .int .u8 0, .int .u8 0]], []⟩ 8 (by kernel_rfl) (by kernel_rfl) (by kernel_rfl) (by kernel_rfl)) ?_
  intro W base args ds gs before hval0 hW hcnd _
  have hval : ∀ (j : Nat) t v, Try.f5.params[j]? = some t → args[j]? = some v → Value.okWide Try.prog W .any base t v := hval0
  have hW' := hW
  obtain ⟨p, q, hA0, hV, rfl, hfz, hnd⟩ := hW
  have hA : DataW.TrodAll enc Try.prog W 0 (fun _ => true) true Try.f5.params.toList args.toList ds p := hA0
  rw [Try.params5] at hA hval
  obtain ⟨v0, vs0, d0, ds0, p0, q0, hargs, rfl, rfl, h0, r0⟩ := trodAll_cons hA
  obtain ⟨v1, vs1, d1, ds1, p1, q1, rfl, rfl, rfl, h1, r1⟩ := trodAll_cons r0
  obtain ⟨v2, vs2, d2, ds2, p2, q2, rfl, rfl, rfl, h2, r2⟩ := trodAll_cons r1
  obtain ⟨rfl, rfl, rfl⟩ := trodAll_nil r2
  obtain rfl : args = #[v0, v1, v2] := by cases args; simp_all
  obtain ⟨rfl, rfl⟩ := trodVars_none hV
  have k0 := h0
  have lt0 : ∀ x ∈ p0, x.block < W.heap.size := by obtain ⟨m, hm⟩ := k0; exact DataW.trod_lt m _ _ _ hm
  obtain ⟨q0, n0, c0, a0, rfl, w0, y0, l0, m0⟩ := open_byteslice (hval 0 22 v0 rfl rfl) h0
  have k1 := h1
  have lt1 : ∀ x ∈ p1, x.block < W.heap.size := by obtain ⟨m, hm⟩ := k1; exact DataW.trod_lt m _ _ _ hm
  obtain ⟨a1, w1, rfl⟩ := open_bytes Try.underlying25 Try.underlying5 (by kernel_rfl) (by kernel_rfl) (hval 1 25 v1 rfl rfl) h1
  have k2 := h2
  have lt2 : ∀ x ∈ p2, x.block < W.heap.size := by obtain ⟨m, hm⟩ := k2; exact DataW.trod_lt m _ _ _ hm
  obtain ⟨a2, w2, rfl⟩ := open_bytes Try.underlying25 Try.underlying5 (by kernel_rfl) (by kernel_rfl) (hval 2 25 v2 rfl rfl) h2
  clear hA0 hval0
  refine (walk q0 n0 c0 a0 a1 a2 w0 l0 m0 w1 w2 W y0).mono fun e W' ⟨he, bel⟩ => ?_
  subst he
  exact ⟨_, rfl, _, _, _, [], _, [], hW', trodAll_mk1 (shut_bool Try.underlying4 _), (trodAll_cons_mk (Below.trod laidOut (by kernel_rfl) (of_decide_eq_true (by kernel_rfl)) k0 bel lt0) (trodAll_cons_mk (Below.trod laidOut (by kernel_rfl) (of_decide_eq_true (by kernel_rfl)) k1 bel lt1) (trodAll_cons_mk (Below.trod laidOut (by kernel_rfl) (of_decide_eq_true (by kernel_rfl)) k2 bel lt2) trodAll_mk0))), rfl, bel.frame _, fun h => by cases h⟩

theorem over : Rows.tweakOneRow.holds Try.pinned (OpenSpec.ofChange Rows.tweakOneSpec) :=
  OpenClaim.holds_of_wide 5 Try.f5 rfl rfl rfl rfl rfl rfl rfl ⟨rfl, rfl, rfl, rfl, rfl⟩ rfl rfl rfl rfl rfl (by kernel_rfl) Try.func5 (by kernel_rfl)
    (of_decide_eq_true (by kernel_rfl)) (by unfold Func.isWrapper; first | (rw [if_pos (by decide +kernel)]; kernel_rfl) | (rw [if_neg (by decide +kernel)]; exact ⟨rfl, rfl⟩))
    (fun os started H enc _ => lifted os started H enc)

theorem proved : Rows.TweakOneSaid := over
end Go.Proofs.Ytklnnmlegagfoaa.tweakOne
