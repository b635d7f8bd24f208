/- Package tweak's tweak of every number with every key is the document's: the statement TweakNumbers. No condition. -/
import Derived.Test.YtklnnmlegagfoaaLawS
namespace Go.Proofs.Ytklnnmlegagfoaa.tweakNumbers
open Go.ChangeShapes Go.WideShapes Go.ChangeAt Go.RowKit
set_option linter.unusedVariables false

theorem own : ownKnob Try.prog.godebug = none := by kernel_rfl
attribute [local irreducible] encK rkS twF numK wB txtW twk markF

set_option maxRecDepth 100000 in
set_option maxHeartbeats 4000000 in
theorem walk (p : Option Addr) (n cap : Nat) (g : Nat → Nat) (z : Int) (hg : ∀ i, i < n → g i < 256) (hcap : n ≤ cap) (hmax : cap ≤ maxLen) (hz : (Lit.int .i64 z).wf = true) (w : World) (hp : BytesAt w p n g) :
    Calls Try.prog 3 #[.slice p n cap, .int .i64 z] w fun e w' => e = .returned (.bool true) ∧ Below w.heap.size w w' := by
  by_cases hbig : 4096 < n
  · have d1 : decide ((4096 : Int) < (n : Int)) = true := by simp; omega
    have d2 : decide (4096 < n) = true := by simp; omega
    go_enter Try.func3, Try.ntmps3
    go_wp2
    go_ret
    exact ⟨rfl, Below.refl _ _⟩
  · have d1 : decide ((4096 : Int) < (n : Int)) = false := by simp; omega
    have d2 : decide (4096 < n) = false := by simp; omega
    have HP := Lib.hid hp
    clear hp
    have hn64 : n ≤ 65536 := by omega
    clear hbig
    rcases (show (n ≠ 16 ∧ n ≠ 32) ∨ n = 4 * 4 ∨ n = 4 * 8 by omega) with hx | hx
    · obtain ⟨h16, h32⟩ := hx
      have TC := Lib.hid (fun (D m : Nat) (W : World) => Tweak_bad (some ⟨D, 0, none⟩) n m z h16 h32 W)
      go_enter Try.func3, Try.ntmps3
      go_wp2_with (first
        | (go_at_call 11; refine (Copy_any p n cap g hn64 _ HP.out).mono ?_; rintro e w1 ⟨D, m, hm, rfl, hd, hb⟩
           have M1 := Lib.hid hm
           have B1 := Lib.hid hb; have D1 := Lib.hid hd
           have L1 := Lib.hid (hd.low hm)
           have P1 := Lib.hid (HP.out.below hb)
           have q1 : n ≤ m := by omega
           have Q1 := Lib.hid q1
           have ONE := Lib.hid (fun (A : Nat) (W : World) (hA : IntBlk W A .u8 5 (mk 16 zeroK)) => Tweak_ok (some ⟨A, 0, none⟩) 16 16 4 zeroK 0 rfl (.inl rfl) (by omega) (fun i _ => by unfold zeroK; omega) W hA.bytesAt)
           clear hm hd hb q1 HP)
        | (go_at_call 12; refine (TC.out D m w1).mono ?_; rintro e w2 ⟨rfl, hb⟩
           have B2 := Lib.hid (B1.out.trans (hb.mono B1.out.size)); have D2 := Lib.hid (D1.out.below hb); have P2 := Lib.hid (P1.out.below hb)
           clear hb B1 D1 L1 P1 TC)
        | (refine store_row_on rfl 25 _ _ rfl rfl w2.heap.size (cellsOf .u8 (mk 16 (zeroK))) rfl rfl 25 (cellsOf .u8 (mk 16 zeroK)) (IntBlk.new w2 .u8 _ (mk 16 zeroK)) (keySize _) rfl (cellsOf_one _ _) ?_
           have t3 := (IntBlk.new w2 .u8 25 (mk 16 zeroK)).setRow .u8 (mk 16 (zeroK))
           have e3 : Below w2.heap.size w2 ((w2.alloc (.cells (cellsOf .u8 (mk 16 zeroK)) 25)).setRow w2.heap.size (cellsOf .u8 (mk 16 (zeroK)))) := below_setRow ((Below.refl _ w2).alloc (Nat.le_refl _) _) (Nat.le_refl _) _
           change wpList _ _ _ _ _ ((w2.alloc (.cells (cellsOf .u8 (mk 16 zeroK)) 25)).setRow w2.heap.size (cellsOf .u8 (mk 16 (zeroK))))
           generalize (w2.alloc (.cells (cellsOf .u8 (mk 16 zeroK)) 25)).setRow w2.heap.size (cellsOf .u8 (mk 16 (zeroK))) = w3 at *
           have T3 := Lib.hid t3; have B3 := Lib.hid (B2.out.trans (e3.mono B2.out.size)); have D3 := Lib.hid (D2.out.below e3); have P3 := Lib.hid (P2.out.below e3)
           clear t3 e3 B2 D2 P2)
        | (go_at_call 13; refine (refTweak_bad p n cap z 0 h16 h32 w3).mono ?_; rintro e w4 ⟨rfl, hb⟩
           have T4 := Lib.hid (T3.out.below hb T3.out.lt); have B4 := Lib.hid (B3.out.trans (hb.mono B3.out.size)); have D4 := Lib.hid (D3.out.below hb); have P4 := Lib.hid (P3.out.below hb)
           clear hb T3 B3 D3 P3)
        | (refine store_row_on rfl 25 _ _ rfl rfl w4.heap.size (cellsOf .u8 (mk 16 (zeroK))) rfl rfl 25 (cellsOf .u8 (mk 16 zeroK)) (IntBlk.new w4 .u8 _ (mk 16 zeroK)) (keySize _) rfl (cellsOf_one _ _) ?_
           have u5 := (IntBlk.new w4 .u8 25 (mk 16 zeroK)).setRow .u8 (mk 16 (zeroK))
           have e5 : Below w4.heap.size w4 ((w4.alloc (.cells (cellsOf .u8 (mk 16 zeroK)) 25)).setRow w4.heap.size (cellsOf .u8 (mk 16 (zeroK)))) := below_setRow ((Below.refl _ w4).alloc (Nat.le_refl _) _) (Nat.le_refl _) _
           change wpList _ _ _ _ _ ((w4.alloc (.cells (cellsOf .u8 (mk 16 zeroK)) 25)).setRow w4.heap.size (cellsOf .u8 (mk 16 (zeroK))))
           generalize (w4.alloc (.cells (cellsOf .u8 (mk 16 zeroK)) 25)).setRow w4.heap.size (cellsOf .u8 (mk 16 (zeroK))) = w5 at *
           have T5 := Lib.hid (T4.out.below e5 T4.out.lt); have U5 := Lib.hid u5; have B5 := Lib.hid (B4.out.trans (e5.mono B4.out.size)); have D5 := Lib.hid (D4.out.below e5); have P5 := Lib.hid (P4.out.below e5)
           clear u5 e5 T4 B4 D4 P4)
        | (refine wpList_make_noughts rfl _ _ rfl 16 (by omega) rfl rfl ?_
           have n6 := IntBlk.new w5 .u8 5 (mk 16 zeroK)
           have e6 : Below w5.heap.size w5 (w5.alloc (.cells (cellsOf .u8 (mk 16 zeroK)) 5)) := (Below.refl _ w5).alloc (Nat.le_refl _) _
           generalize w5.alloc (.cells (cellsOf .u8 (mk 16 zeroK)) 5) = w6 at *
           have N6 := Lib.hid n6
           have T6 := Lib.hid (T5.out.below e6 T5.out.lt); have U6 := Lib.hid (U5.out.below e6 U5.out.lt); have B6 := Lib.hid (B5.out.trans (e6.mono B5.out.size)); have D6 := Lib.hid (D5.out.below e6); have P6 := Lib.hid (P5.out.below e6)
           clear n6 e6 T5 U5 B5 D5 P5)
        | (go_at_call 12; refine (ONE.out w5.heap.size w6 N6.out).mono ?_; rintro e w7 ⟨rfl, hb⟩
           have T7 := Lib.hid (T6.out.below hb T6.out.lt); have U7 := Lib.hid (U6.out.below hb U6.out.lt); have B7 := Lib.hid (B6.out.trans (hb.mono B6.out.size)); have D7 := Lib.hid (D6.out.below hb); have P7 := Lib.hid (P6.out.below hb)
           clear hb N6 T6 U6 B6 D6 P6 ONE)
        | (refine store_row_on rfl 25 _ _ rfl rfl w7.heap.size (cellsOf .u8 (mk 16 (twF 4 zeroK 0))) rfl rfl 25 (cellsOf .u8 (mk 16 zeroK)) (IntBlk.new w7 .u8 _ (mk 16 zeroK)) (keySize _) (by rw [cellsOf_size, cellsOf_size, mk_len, mk_len]) (cellsOf_one _ _) ?_
           have o8 := (IntBlk.new w7 .u8 25 (mk 16 zeroK)).setRow .u8 (mk 16 (twF 4 zeroK 0))
           have e8 : Below w7.heap.size w7 ((w7.alloc (.cells (cellsOf .u8 (mk 16 zeroK)) 25)).setRow w7.heap.size (cellsOf .u8 (mk 16 (twF 4 zeroK 0)))) := below_setRow ((Below.refl _ w7).alloc (Nat.le_refl _) _) (Nat.le_refl _) _
           change wpList _ _ _ _ _ ((w7.alloc (.cells (cellsOf .u8 (mk 16 zeroK)) 25)).setRow w7.heap.size (cellsOf .u8 (mk 16 (twF 4 zeroK 0))))
           generalize (w7.alloc (.cells (cellsOf .u8 (mk 16 zeroK)) 25)).setRow w7.heap.size (cellsOf .u8 (mk 16 (twF 4 zeroK 0))) = w8 at *
           have O8 := Lib.hid o8
           have T8 := Lib.hid (T7.out.below e8 T7.out.lt); have U8 := Lib.hid (U7.out.below e8 U7.out.lt); have B8 := Lib.hid (B7.out.trans (e8.mono B7.out.size)); have D8 := Lib.hid (D7.out.below e8); have P8 := Lib.hid (P7.out.below e8)
           clear o8 e8 T7 U7 B7 D7 P7)
        | (refine wpList_load_want rfl _ rfl w7.heap.size (twF 4 zeroK 0) rfl O8.out ?_)
        | (refine wpList_zero_want rfl rfl ?_)
        | (refine wpList_eql_is rfl _ _ rfl (twF 4 zeroK 0) zeroK false one_not_zero rfl rfl ?_)
        | (refine wpList_load_want rfl _ rfl w2.heap.size (zeroK) rfl T8.out ?_)
        | (refine wpList_load_want rfl _ rfl w4.heap.size (zeroK) rfl U8.out ?_)
        | (refine wpList_eql_is rfl _ _ rfl (zeroK) (zeroK) true (same_key _) rfl rfl ?_)
        | (go_at_call 14; refine (Kept_any p n cap m D g hn64 M1.out w8 P8.out D8.out).mono ?_; rintro e w9 ⟨rfl, rfl⟩)
        | (go_at_call 15; refine (Is_key _).mono ?_; rintro e w10 ⟨rfl, rfl⟩))
      go_ret
      exact ⟨rfl, B8.out⟩
    · obtain ⟨N, hN, hnN⟩ : ∃ N, (N = 4 ∨ N = 8) ∧ n = 4 * N := by
        rcases hx with hx | hx
        · exact ⟨4, .inl rfl, hx⟩
        · exact ⟨8, .inr rfl, hx⟩
      have TC := Lib.hid (fun (D m : Nat) (W : World) (hm : n ≤ m) (h : BytesAt W (some ⟨D, 0, none⟩) n g) => Tweak_ok (some ⟨D, 0, none⟩) n m N g z hnN hN hm hg W h)
      have RC := Lib.hid (fun (W : World) (h : BytesAt W p n g) => refTweak_ok p n cap N g z 0 hnN hN hg (by omega) W h)
      have RZ := Lib.hid (fun W h => by have := RC.out W h; rwa [twk_zero] at this : ∀ (W : World) (h : BytesAt W p n g), Calls Try.prog 13 #[.slice p n cap, .int .i64 z, .int .i64 (0 : Nat)] W fun e w' => e = .returned (.tuple #[.agg (cellsOf .u8 (mk 16 (twF N g z))), .bool true]) ∧ Below W.heap.size W w')
      clear hx hnN hN RC
      go_enter Try.func3, Try.ntmps3
      go_wp2_with (first
        | (go_at_call 11; refine (Copy_any p n cap g hn64 _ HP.out).mono ?_; rintro e w1 ⟨D, m, hm, rfl, hd, hb⟩
           have M1 := Lib.hid hm
           have B1 := Lib.hid hb; have D1 := Lib.hid hd
           have L1 := Lib.hid (hd.low hm)
           have P1 := Lib.hid (HP.out.below hb)
           have q1 : n ≤ m := by omega
           have Q1 := Lib.hid q1
           have ONE := Lib.hid (fun (A : Nat) (W : World) (hA : IntBlk W A .u8 5 (mk 16 zeroK)) => Tweak_ok (some ⟨A, 0, none⟩) 16 16 4 zeroK 0 rfl (.inl rfl) (by omega) (fun i _ => by unfold zeroK; omega) W hA.bytesAt)
           clear hm hd hb q1 HP)
        | (go_at_call 12; refine (TC.out D m w1 Q1.out L1.out).mono ?_; rintro e w2 ⟨rfl, hb⟩
           have B2 := Lib.hid (B1.out.trans (hb.mono B1.out.size)); have D2 := Lib.hid (D1.out.below hb); have P2 := Lib.hid (P1.out.below hb)
           clear hb B1 D1 L1 P1 TC)
        | (refine store_row_on rfl 25 _ _ rfl rfl w2.heap.size (cellsOf .u8 (mk 16 (twF N g z))) rfl rfl 25 (cellsOf .u8 (mk 16 zeroK)) (IntBlk.new w2 .u8 _ (mk 16 zeroK)) (keySize _) (by rw [cellsOf_size, cellsOf_size, mk_len, mk_len]) (cellsOf_one _ _) ?_
           have t3 := (IntBlk.new w2 .u8 25 (mk 16 zeroK)).setRow .u8 (mk 16 (twF N g z))
           have e3 : Below w2.heap.size w2 ((w2.alloc (.cells (cellsOf .u8 (mk 16 zeroK)) 25)).setRow w2.heap.size (cellsOf .u8 (mk 16 (twF N g z)))) := below_setRow ((Below.refl _ w2).alloc (Nat.le_refl _) _) (Nat.le_refl _) _
           change wpList _ _ _ _ _ ((w2.alloc (.cells (cellsOf .u8 (mk 16 zeroK)) 25)).setRow w2.heap.size (cellsOf .u8 (mk 16 (twF N g z))))
           generalize (w2.alloc (.cells (cellsOf .u8 (mk 16 zeroK)) 25)).setRow w2.heap.size (cellsOf .u8 (mk 16 (twF N g z))) = w3 at *
           have T3 := Lib.hid t3; have B3 := Lib.hid (B2.out.trans (e3.mono B2.out.size)); have D3 := Lib.hid (D2.out.below e3); have P3 := Lib.hid (P2.out.below e3)
           clear t3 e3 B2 D2 P2)
        | (go_at_call 13; refine (RZ.out w3 P3.out).mono ?_; rintro e w4 ⟨rfl, hb⟩
           have T4 := Lib.hid (T3.out.below hb T3.out.lt); have B4 := Lib.hid (B3.out.trans (hb.mono B3.out.size)); have D4 := Lib.hid (D3.out.below hb); have P4 := Lib.hid (P3.out.below hb)
           clear hb T3 B3 D3 P3)
        | (refine store_row_on rfl 25 _ _ rfl rfl w4.heap.size (cellsOf .u8 (mk 16 (twF N g z))) rfl rfl 25 (cellsOf .u8 (mk 16 zeroK)) (IntBlk.new w4 .u8 _ (mk 16 zeroK)) (keySize _) (by rw [cellsOf_size, cellsOf_size, mk_len, mk_len]) (cellsOf_one _ _) ?_
           have u5 := (IntBlk.new w4 .u8 25 (mk 16 zeroK)).setRow .u8 (mk 16 (twF N g z))
           have e5 : Below w4.heap.size w4 ((w4.alloc (.cells (cellsOf .u8 (mk 16 zeroK)) 25)).setRow w4.heap.size (cellsOf .u8 (mk 16 (twF N g z)))) := below_setRow ((Below.refl _ w4).alloc (Nat.le_refl _) _) (Nat.le_refl _) _
           change wpList _ _ _ _ _ ((w4.alloc (.cells (cellsOf .u8 (mk 16 zeroK)) 25)).setRow w4.heap.size (cellsOf .u8 (mk 16 (twF N g z))))
           generalize (w4.alloc (.cells (cellsOf .u8 (mk 16 zeroK)) 25)).setRow w4.heap.size (cellsOf .u8 (mk 16 (twF N g z))) = w5 at *
           have T5 := Lib.hid (T4.out.below e5 T4.out.lt); have U5 := Lib.hid u5; have B5 := Lib.hid (B4.out.trans (e5.mono B4.out.size)); have D5 := Lib.hid (D4.out.below e5); have P5 := Lib.hid (P4.out.below e5)
           clear u5 e5 T4 B4 D4 P4)
        | (refine wpList_make_noughts rfl _ _ rfl 16 (by omega) rfl rfl ?_
           have n6 := IntBlk.new w5 .u8 5 (mk 16 zeroK)
           have e6 : Below w5.heap.size w5 (w5.alloc (.cells (cellsOf .u8 (mk 16 zeroK)) 5)) := (Below.refl _ w5).alloc (Nat.le_refl _) _
           generalize w5.alloc (.cells (cellsOf .u8 (mk 16 zeroK)) 5) = w6 at *
           have N6 := Lib.hid n6
           have T6 := Lib.hid (T5.out.below e6 T5.out.lt); have U6 := Lib.hid (U5.out.below e6 U5.out.lt); have B6 := Lib.hid (B5.out.trans (e6.mono B5.out.size)); have D6 := Lib.hid (D5.out.below e6); have P6 := Lib.hid (P5.out.below e6)
           clear n6 e6 T5 U5 B5 D5 P5)
        | (go_at_call 12; refine (ONE.out w5.heap.size w6 N6.out).mono ?_; rintro e w7 ⟨rfl, hb⟩
           have T7 := Lib.hid (T6.out.below hb T6.out.lt); have U7 := Lib.hid (U6.out.below hb U6.out.lt); have B7 := Lib.hid (B6.out.trans (hb.mono B6.out.size)); have D7 := Lib.hid (D6.out.below hb); have P7 := Lib.hid (P6.out.below hb)
           clear hb N6 T6 U6 B6 D6 P6 ONE)
        | (refine store_row_on rfl 25 _ _ rfl rfl w7.heap.size (cellsOf .u8 (mk 16 (twF 4 zeroK 0))) rfl rfl 25 (cellsOf .u8 (mk 16 zeroK)) (IntBlk.new w7 .u8 _ (mk 16 zeroK)) (keySize _) (by rw [cellsOf_size, cellsOf_size, mk_len, mk_len]) (cellsOf_one _ _) ?_
           have o8 := (IntBlk.new w7 .u8 25 (mk 16 zeroK)).setRow .u8 (mk 16 (twF 4 zeroK 0))
           have e8 : Below w7.heap.size w7 ((w7.alloc (.cells (cellsOf .u8 (mk 16 zeroK)) 25)).setRow w7.heap.size (cellsOf .u8 (mk 16 (twF 4 zeroK 0)))) := below_setRow ((Below.refl _ w7).alloc (Nat.le_refl _) _) (Nat.le_refl _) _
           change wpList _ _ _ _ _ ((w7.alloc (.cells (cellsOf .u8 (mk 16 zeroK)) 25)).setRow w7.heap.size (cellsOf .u8 (mk 16 (twF 4 zeroK 0))))
           generalize (w7.alloc (.cells (cellsOf .u8 (mk 16 zeroK)) 25)).setRow w7.heap.size (cellsOf .u8 (mk 16 (twF 4 zeroK 0))) = w8 at *
           have O8 := Lib.hid o8
           have T8 := Lib.hid (T7.out.below e8 T7.out.lt); have U8 := Lib.hid (U7.out.below e8 U7.out.lt); have B8 := Lib.hid (B7.out.trans (e8.mono B7.out.size)); have D8 := Lib.hid (D7.out.below e8); have P8 := Lib.hid (P7.out.below e8)
           clear o8 e8 T7 U7 B7 D7 P7)
        | (refine wpList_load_want rfl _ rfl w7.heap.size (twF 4 zeroK 0) rfl O8.out ?_)
        | (refine wpList_zero_want rfl rfl ?_)
        | (refine wpList_eql_is rfl _ _ rfl (twF 4 zeroK 0) zeroK false one_not_zero rfl rfl ?_)
        | (refine wpList_load_want rfl _ rfl w2.heap.size (twF N g z) rfl T8.out ?_)
        | (refine wpList_load_want rfl _ rfl w4.heap.size (twF N g z) rfl U8.out ?_)
        | (refine wpList_eql_is rfl _ _ rfl (twF N g z) (twF N g z) true (same_key _) rfl rfl ?_)
        | (go_at_call 14; refine (Kept_any p n cap m D g hn64 M1.out w8 P8.out D8.out).mono ?_; rintro e w9 ⟨rfl, rfl⟩)
        | (go_at_call 15; refine (Is_key _).mono ?_; rintro e w10 ⟨rfl, rfl⟩))
      go_ret
      exact ⟨rfl, B8.out⟩

theorem laidOut : laidOutB Try.prog = true := by kernel_rfl
set_option maxRecDepth 100000 in
theorem lifted (os : Os) (started : os.Started) (H : Type) (enc : TypeId × Value → H) :
    ReturnsInHanded {} Try.checked os 3 .any (Rows.tweakNumbersSpec.pre6 enc Try.prog Try.f3 Rows.tweakNumbersRow.domain false) (Rows.tweakNumbersSpec.post enc Try.prog Try.f3 false true false false) := by
  refine returnsInHanded_of_change (C := Try.checked) own started (by kernel_rfl) Try.func3
    (ChangeSpec.witness6 (enc := enc) (C := Try.checked) false ⟨#[], #[.slice none 0 0, .int .i64 0], []⟩ 8 (by kernel_rfl) (by kernel_rfl) (by kernel_rfl) (by kernel_rfl)) ?_
  intro W base args ds gs before hval0 hW hcnd _
  have hval : ∀ (j : Nat) t v, Try.f3.params[j]? = some t → args[j]? = some v → Value.okWide Try.prog W .any base t v := hval0
  have hW' := hW
  obtain ⟨p, q, hA0, hV, rfl, hfz, hnd⟩ := hW
  have hA : DataW.TrodAll enc Try.prog W 0 (fun _ => true) true Try.f3.params.toList args.toList ds p := hA0
  rw [Try.params3] at hA hval
  obtain ⟨v0, vs0, d0, ds0, p0, q0, hargs, rfl, rfl, h0, r0⟩ := trodAll_cons hA
  obtain ⟨v1, vs1, d1, ds1, p1, q1, rfl, rfl, rfl, h1, r1⟩ := trodAll_cons r0
  obtain ⟨rfl, rfl, rfl⟩ := trodAll_nil r1
  obtain rfl : args = #[v0, v1] := by cases args; simp_all
  obtain ⟨rfl, rfl⟩ := trodVars_none hV
  have k0 := h0
  have lt0 : ∀ x ∈ p0, x.block < W.heap.size := by obtain ⟨m, hm⟩ := k0; exact DataW.trod_lt m _ _ _ hm
  obtain ⟨q0, n0, c0, a0, rfl, w0, y0, l0, m0⟩ := open_byteslice (hval 0 22 v0 rfl rfl) h0
  obtain ⟨a1, rfl, rfl, rfl, w1⟩ := open_int Try.underlying3 (hval 1 3 v1 rfl rfl) h1
  clear hA0 hval0
  refine (walk q0 n0 c0 a0 a1 w0 l0 m0 w1 W y0).mono fun e W' ⟨he, bel⟩ => ?_
  subst he
  exact ⟨_, rfl, _, _, _, [], _, [], hW', trodAll_mk1 (shut_bool Try.underlying4 _), (trodAll_cons_mk (Below.trod laidOut (by kernel_rfl) (of_decide_eq_true (by kernel_rfl)) k0 bel lt0) (trodAll_cons_mk (shut_int Try.underlying3 w1) trodAll_mk0)), rfl, bel.frame _, fun h => by cases h⟩

theorem over : Rows.tweakNumbersRow.holds Try.pinned (OpenSpec.ofChange Rows.tweakNumbersSpec) :=
  OpenClaim.holds_of_wide 3 Try.f3 rfl rfl rfl rfl rfl rfl rfl ⟨rfl, rfl, rfl, rfl, rfl⟩ rfl rfl rfl rfl rfl (by kernel_rfl) Try.func3 (by kernel_rfl)
    (of_decide_eq_true (by kernel_rfl)) (by unfold Func.isWrapper; first | (rw [if_pos (by decide +kernel)]; kernel_rfl) | (rw [if_neg (by decide +kernel)]; exact ⟨rfl, rfl⟩))
    (fun os started H enc _ => lifted os started H enc)

theorem proved : Rows.TweakNumbersSaid := over
end Go.Proofs.Ytklnnmlegagfoaa.tweakNumbers
