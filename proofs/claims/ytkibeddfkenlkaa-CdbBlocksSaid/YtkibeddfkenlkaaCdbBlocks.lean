/- CdbBlocks: which blocks a command has, as many as are asked for. No condition but the arguments' own forms. -/
import Derived.Test.YtkibeddfkenlkaaCbBlS
import Derived.Test.YtkibeddfkenlkaaCbOpen
namespace Go.Proofs.Ytkibeddfkenlkaa
open Go.ChangeShapes Go.WideShapes Go.ChangeAt Go.RowKit
namespace cdbBlocks
set_option linter.unusedVariables false
set_option linter.unusedSimpArgs false
theorem own : ownKnob Try.prog.godebug = none := by kernel_rfl
attribute [local irreducible] cmA allC bytC lenC bytesN numsC cat mk zeroK checkN goodC exC extF manyC
attribute [local go_sem] Oper.semAt_some
set_option maxRecDepth 100000 in
set_option maxHeartbeats 16000000 in
theorem walk {w : World} (q : Option Addr) (n c : Nat) (g : Nat → Nat) (x : CmdOf) (hok : x.ok) (hg : ∀ i, i < n → g i < 256) (hq : BytesAt w q n g) (hnc : n ≤ c) (hc : c ≤ maxLen) (a : Int) (ha : okI a) : Calls Try.prog 7 #[.agg (cmA q n c x), .int .i64 a] w fun e w' => e = .returned (.bool true) ∧ Below w.heap.size w w' := by
  obtain ⟨u, hu⟩ : ∃ u : Nat, IntKind.u64.wrap a = (u : Int) := by
    rw [IntKind.wrap_u64]; exact ⟨(a % 18446744073709551616).toNat, by omega⟩
  obtain ⟨mo, hmo, hmo1, hmo0⟩ : ∃ mo : Nat, mo = 1 + u % 20 ∧ mo ≤ 20 ∧ 1 ≤ mo := ⟨_, rfl, by omega, by omega⟩
  have Q1 := Lib.hid (show IntKind.i64.wrap ((u : Int) % 20) = (u : Int) % 20 from IntWalk.i64_in _ (by omega))
  have Q2 := Lib.hid (show IntKind.i64.wrap (1 + (u : Int) % 20) = 1 + (u : Int) % 20 from IntWalk.i64_in _ (by omega))
  have MO := Lib.hid (show 1 + (u : Int) % 20 = (mo : Int) by omega)
  have MO1 := Lib.hid hmo1
  have MO0 := Lib.hid hmo0
  have HU := Lib.hid hu
  have HQ := Lib.hid (fun (W : World) (hb : Below w.heap.size w W) => hq.below hb)
  have HNC := Lib.hid hnc
  have EX := Lib.hid (fun W => Encode_ex W)
  have XB := Lib.hid (fun W => Blocks_any (w := W) (q := none) (n := 0) (c := 0) (g := zeroK) (x := exC) (.inl rfl) 384 (by decide +kernel))
  obtain ⟨be, hbe⟩ : ∃ be : Int, be = exC.b := ⟨_, rfl⟩
  have BE := Lib.hid (show be = exC.b ∧ -1000000 ≤ be ∧ be ≤ 1000000 from ⟨hbe, by rw [hbe]; decide +kernel⟩)
  clear hbe hu hmo hmo1 hmo0 hok hg hq hnc hc ha
  refine (callsIn_wide (n := 4)).1 ?_
  refine callsIn_of_wp_marks Try.func7 rfl trivial ?_ rfl
  simp only [Try.ntmps7, List.size_toArray, List.length_cons, List.length_nil, Nat.reduceAdd, Nat.reduceSub, Array.replicate_succ, Array.replicate_zero, List.push_toArray, List.append_toArray, List.nil_append, List.cons_append]
  refine wpIn_wide.2 ?_
  by_cases hl : (16384 : Int) < (n : Int)
  · have f1 : decide ((16384 : Int) < (n : Int)) = true := by simp [hl]
    have f2 : decide (16384 < n) = true := by simp; omega
    clear hl HQ XB
    go_wp2_with (first
      | (with_reducible show wpList _ _ _ (⟨some 2, Op.box cmT _, _, _, _, none⟩ :: _) _ _
         refine wpList_boxA_of rfl _ rfl (cmA q n c x) rfl ?_
         intro w1 x1 l1 s1
         have P1 := Lib.hid (show LwB w [bxO w.heap.size cmT (cmA q n c x)] w1 from (LwB.none w).add l1 x1 (Nat.le_refl _))
         clear x1 l1 s1)
      | (with_reducible show wpList _ _ _ (⟨some 3, Op.box 3 _, _, _, _, none⟩ :: _) _ _
         refine wpList_one_of rfl _ rfl (.int .i64 a) rfl rfl ?_
         intro w2 x2 l2 s2
         have P2 := Lib.hid (show LwB w [bxO w1.heap.size 3 #[.int .i64 a], bxO w.heap.size cmT (cmA q n c x)] w2 from P1.out.add l2 x2 (Nat.le_refl _))
         clear x2 l2 s2 P1
         generalize w1.heap.size = J1 at *)
      | (with_reducible show wpList _ _ _ (⟨some 4, Op.alloc 4, _, _, _, _⟩ :: _) _ _
         refine wpList_one_new oneBool rfl rfl _ rfl ?_
         intro w3 x3 l3 s3
         have P3 := Lib.hid (show LwB w [bxO w2.heap.size 4 #[.bool false], bxO J1 3 #[.int .i64 a], bxO w.heap.size cmT (cmA q n c x)] w3 from P2.out.add l3 x3 (Nat.le_refl _))
         clear x3 l3 s3 P2
         generalize w2.heap.size = J2 at *)
      | (go_at_call 9
         refine (example_any _).mono ?_; rintro e w4 ⟨rfl, l4⟩
         replace P3 := Lib.hid (P3.out.mono l4)
         clear l4)
      | (go_at_call 8
         refine (EX.out _).mono ?_; rintro e w5 ⟨D1, C1, rfl, b5, l5⟩
         replace P3 := Lib.hid (P3.out.mono l5)
         clear b5 l5 EX)
      | (with_reducible show wpList _ _ _ (⟨some 25, Op.load cmT _, _, _, _, _⟩ :: _) _ _
         refine wpList_boxA_loadw rowCm _ rfl rfl w.heap.size (cmA q n c x) (cmA_size _ _ _ _) rfl (P3.out.bx (i := 2) rfl) ?_)
      | (go_at_call 10
         refine large_any.mono ?_; rintro e w6 ⟨rfl, l6⟩
         have P6 := Lib.hid (P3.out.mono l6)
         clear l6 P3)

      | (with_reducible show wpList _ _ _ (⟨_, Op.store 4 _ _, _, _, _, none⟩ :: _) _ _
         refine wpList_bool_put rfl _ _ rfl rfl J2 true false rfl rfl (P6.out.bx (i := 0) rfl) ?_
         intro w7 x7 k7 s7
         have P7 := Lib.hid (show LwB w [bxO J2 4 #[.bool true], bxO J1 3 #[.int .i64 a], bxO w.heap.size cmT (cmA q n c x)] w7 from P6.out.put 0 rfl x7 k7)
         clear x7 k7 s7 P6))
    have hc : w7.cell? ⟨J2, 0, none⟩ = some (.bool true) := (P7.out.bx (i := 0) rfl).cell 0
    refine ⟨.bool true, ?_, rfl, P7.out.low⟩
    simp [results, Try.f7, go_sem, hc]
  have f1 : decide ((16384 : Int) < (n : Int)) = false := by simpa using hl
  have f2 : decide (16384 < n) = false := by simp; omega
  clear hl
  go_wp2_with (first
  | (with_reducible show wpList _ _ _ (⟨some 2, Op.box cmT _, _, _, _, none⟩ :: _) _ _
     refine wpList_boxA_of rfl _ rfl (cmA q n c x) rfl ?_
     intro w1 x1 l1 s1
     have P1 := Lib.hid (show LwB w [bxO w.heap.size cmT (cmA q n c x)] w1 from (LwB.none w).add l1 x1 (Nat.le_refl _))
     clear x1 l1 s1)
  | (with_reducible show wpList _ _ _ (⟨some 3, Op.box 3 _, _, _, _, none⟩ :: _) _ _
     refine wpList_one_of rfl _ rfl (.int .i64 a) rfl rfl ?_
     intro w2 x2 l2 s2
     have P2 := Lib.hid (show LwB w [bxO w1.heap.size 3 #[.int .i64 a], bxO w.heap.size cmT (cmA q n c x)] w2 from P1.out.add l2 x2 (Nat.le_refl _))
     clear x2 l2 s2 P1
     generalize w1.heap.size = J1 at *)
  | (with_reducible show wpList _ _ _ (⟨some 4, Op.alloc 4, _, _, _, _⟩ :: _) _ _
     refine wpList_one_new oneBool rfl rfl _ rfl ?_
     intro w3 x3 l3 s3
     have P3 := Lib.hid (show LwB w [bxO w2.heap.size 4 #[.bool false], bxO J1 3 #[.int .i64 a], bxO w.heap.size cmT (cmA q n c x)] w3 from P2.out.add l3 x3 (Nat.le_refl _))
     clear x3 l3 s3 P2
     generalize w2.heap.size = J2 at *)
  | (go_at_call 9
     refine (example_any _).mono ?_; rintro e w4 ⟨rfl, l4⟩
     replace P3 := Lib.hid (P3.out.mono l4)
     clear l4)
  | (go_at_call 8
     refine (EX.out _).mono ?_; rintro e w5 ⟨D1, C1, rfl, b5, l5⟩
     replace P3 := Lib.hid (P3.out.mono l5)
     clear b5 l5 EX)
  | (with_reducible show wpList _ _ _ (⟨some 25, Op.load cmT _, _, _, _, _⟩ :: _) _ _
     refine wpList_boxA_loadw rowCm _ rfl rfl w.heap.size (cmA q n c x) (cmA_size _ _ _ _) rfl (P3.out.bx (i := 2) rfl) ?_)
  | (go_at_call 10
     refine large_any.mono ?_; rintro e w6 ⟨rfl, l6⟩
     have P6 := Lib.hid (P3.out.mono l6)
     clear l6 P3)
  | (with_reducible show wpList _ _ _ (⟨some 7, Op.alloc 3, _, _, _, _⟩ :: _) _ _
     refine wpList_one_new oneInt rfl rfl _ rfl ?_
     intro w7 x7 l7 s7
     have P7 := Lib.hid (show LwB w [bxO w6.heap.size 3 #[.int .i64 0], bxO J2 4 #[.bool false], bxO J1 3 #[.int .i64 a], bxO w.heap.size cmT (cmA q n c x)] w7 from P6.out.add l7 x7 (Nat.le_refl _))
     clear x7 l7 s7 P6
     generalize w6.heap.size = TB at *)
  | (with_reducible show wpList _ _ _ (⟨_, Op.store 3 (.tmp 7) _, _, _, _, none⟩ :: _) _ _
     refine wpList_int_put rfl _ _ rfl rfl TB 0 0 rfl rfl (P7.out.bx (i := 0) rfl) ?_
     intro w8 x8 k8 s8
     have P3 := Lib.hid (show LwB w [bxO TB 3 #[.int .i64 0], bxO J2 4 #[.bool false], bxO J1 3 #[.int .i64 a], bxO w.heap.size cmT (cmA q n c x)] w8 from P7.out.put 0 rfl x8 k8)
     clear x8 k8 s8 P7)
  | (go_at_call 25
     refine (XB.out _).mono ?_; rintro e w5 ⟨B4, B3, p, rfl, h4, h3, hr, l4, l3, l5⟩
     have S5 := Lib.hid (LoS.of (TBl B4 B3 p) (P3.out.mono l5))
     have HT := Lib.hid (fun k hk => (tbl_in h4 h3 hr l4 l3 k hk).1)
     have HTO := Lib.hid (show ¬ TBl B4 B3 p TB from fun hk => by have := (tbl_in h4 h3 hr l4 l3 TB hk).2; have := P3.out.lt (i := 0) rfl; simp only [bxO] at this; omega)
     have GV := Lib.hid (blocks_gives (M := 3) h4 h3 hr rfl (by omega) (fun _ => by rw [← BE.out.1]; exact BE.out.2))
     have W5 := Lib.hid (S5.out.b.low.size)
     clear h4 h3 hr l4 l3 l5 P3 XB))
  rw [← BE.out.1] at GV
  refine (wpIn_wide (n := 3)).1 ?_
  refine range_free_brk rfl (by omega) (gf := 37) (lb := #[.pointer (some ⟨B4, 0, none⟩), .pointer (some ⟨B3, 0, none⟩)]) rfl trivial (enters_of Try.func37 (by kernel_rfl) rfl)
    (fun z : Int × (Nat → Nat) => #[.int .i64 z.1, .agg (cellsOf .u8 (mk 128 z.2))]) (fun i => (be + (i : Int), fun j => extF 0 zeroK (128 * i + j))) 3 (BlR w5 B4 B3 p) (fun _ => rfl)
    (fun i V => LoS w w5 (TBl B4 B3 p) [bxO TB 3 #[.int .i64 ((i : Nat) : Int)], bxO J2 4 #[.bool false], bxO J1 3 #[.int .i64 a], bxO w.heap.size cmT (cmA q n c x)] V ∧ i ≤ 3) (fun V => False) ?rd ?st ?stx ⟨S5.out, by omega⟩ GV.out ?round ?done
  case rd => exact fun i V h => h.1.it
  case st => exact fun i V V' h hs => ⟨h.1.save HT.out W5.out hs, h.2⟩
  case stx => exact fun V V' h hs => h.elim
  case round =>
    intro l i W hl hi hWs hI
    have HI := Lib.hid hI.1
    have HLI := Lib.hid hi
    have HWS := Lib.hid hWs
    clear hI hi hWs S5 GV hl
    generalize be + (i : Int) = zb at *
    generalize (fun j => extF 0 zeroK (128 * i + j)) = fb at *
    gi_wp2
    refine ⟨Rec.refl _ _, fun V hVs hVk hVS => ?_⟩
    have qv := HI.out.save HT.out W5.out hVS
    have HV2 := Lib.hid (show w5.heap.size + 2 ≤ V.heap.size from by have := HWS.out; omega)
    clear hVs hVk hVS HI HWS
    have c1 : V.cell? ⟨TB, 0, none⟩ = some (.int .i64 (i : Int)) := (qv.b.bx (i := 0) rfl).cell 0
    have f3 : V.frozen? ⟨TB, 0, none⟩ = false := (qv.b.bx (i := 0) rfl).free 0
    have q1 : IntKind.i64.wrap ((i : Int) + 1) = (i : Int) + 1 := IntWalk.i64_in _ (by have := HLI.out; omega)
    have d1 : decide ((3 : Int) < (i : Int) + 1) = false := by have := HLI.out; simp; omega
    have d2 : decide (3 < i + 1) = false := by have := HLI.out; simp; omega
    have hk : Keeps (fun j => j = TB) V (V.setCell ⟨TB, 0, none⟩ (.int .i64 ((i : Int) + 1))) := (Keeps.refl (fun j => j = TB) V).setCell rfl 0 _
    have hz : (V.setCell ⟨TB, 0, none⟩ (.int .i64 ((i : Int) + 1))).heap.size = V.heap.size := by simp [World.setCell]
    have qw : LoS w w5 (TBl B4 B3 p) [bxO TB 3 #[.int .i64 ((i : Int) + 1)], bxO J2 4 #[.bool false], bxO J1 3 #[.int .i64 a], bxO w.heap.size cmT (cmA q n c x)] (V.setCell ⟨TB, 0, none⟩ (.int .i64 ((i : Int) + 1))) := qv.put HT.out 0 rfl HTO.out ((qv.b.bx (i := 0) rfl).set 0 (.int .i64 ((i : Int) + 1))) hk hz
    have c5 : (V.setCell ⟨TB, 0, none⟩ (.int .i64 ((i : Int) + 1))).cell? ⟨TB, 0, none⟩ = some (.int .i64 ((i : Int) + 1)) := (qw.b.bx (i := 0) rfl).cell 0
    have HR := Lib.hid (rec_put (w5 := w5) hk hz (qv.top (i := 0) rfl) HV2.out)
    have QW := Lib.hid qw
    clear qv qw hk hz
    gi_wp2
    exact ⟨HR.out, QW.out, HLI.out⟩
  case done =>
    intro D W hD hI hd
    replace hI := (hI.elim id False.elim).1
    have P9 := Lib.hid (hI.mark W5.out hD hd)
    have g1 : W.cell? ⟨J1, 0, none⟩ = some (.int .i64 a) := (hI.b.bx (i := 2) rfl).cell 0
    have hu := HU.out
    have q1 := Q1.out
    have q2 := Q2.out
    clear hI hD hd S5 GV W5 HT HTO BE Q1 Q2 HU f1 f2
    by_cases hch : ¬ checkN x n = 0
    · have fc : (checkN x n == 0) = false := by simp [hch]
      have HM := Lib.hid (show (0 : Int) = (manyC x n : Nat) ∧ manyC x n ≤ 16 by rw [many_none (fun h => hch h.2)]; exact ⟨rfl, by omega⟩)
      generalize hM : manyC x n = M at *
      have HMM := Lib.hid hM
      clear hM hch
      go_wp2_with (first
        | (with_reducible show wpList _ _ _ (⟨_, Op.store 3 (.tmp 3) _, _, _, _, none⟩ :: _) _ _
           refine wpList_int_put rfl _ _ rfl rfl J1 a (1 + (u : Int) % 20) rfl rfl (P9.out.bx (i := 3) rfl) ?_
           rw [MO.out]
           intro w10 x10 k10 s10
           have P10 := Lib.hid (show LwB w [mkO D, bxO TB 3 #[.int .i64 ((3 : Nat) : Int)], bxO J2 4 #[.bool false], bxO J1 3 #[.int .i64 (mo : Int)], bxO w.heap.size cmT (cmA q n c x)] w10 from P9.out.put 3 rfl x10 k10)
           clear x10 k10 s10 P9 g1 hu q1 q2)
        | (with_reducible show wpList _ _ _ (⟨some 8, Op.alloc 3, _, _, _, _⟩ :: _) _ _
           refine wpList_one_new oneInt rfl rfl _ rfl ?_
           intro w11 x11 l11 s11
           have P11 := Lib.hid (show LwB w [bxO w10.heap.size 3 #[.int .i64 0], mkO D, bxO TB 3 #[.int .i64 ((3 : Nat) : Int)], bxO J2 4 #[.bool false], bxO J1 3 #[.int .i64 (mo : Int)], bxO w.heap.size cmT (cmA q n c x)] w11 from P10.out.add l11 x11 (Nat.le_refl _))
           clear x11 l11 s11 P10
           generalize w10.heap.size = MB at *)
        | (with_reducible show wpList _ _ _ (⟨_, Op.store 3 (.tmp 8) (.const _), _, _, _, none⟩ :: _) _ _
           refine wpList_int_put rfl _ _ rfl rfl MB 0 0 rfl rfl (P11.out.bx (i := 0) rfl) ?_
           intro w12 x12 k12 s12
           have P12 := Lib.hid (show LwB w [bxO MB 3 #[.int .i64 0], mkO D, bxO TB 3 #[.int .i64 ((3 : Nat) : Int)], bxO J2 4 #[.bool false], bxO J1 3 #[.int .i64 (mo : Int)], bxO w.heap.size cmT (cmA q n c x)] w12 from P11.out.put 0 rfl x12 k12)
           clear x12 k12 s12 P11)
        | (with_reducible show wpList _ _ _ (⟨some 40, Op.load cmT _, _, _, _, _⟩ :: _) _ _
           refine wpList_boxA_loadw rowCm _ rfl rfl w.heap.size (cmA q n c x) (cmA_size _ _ _ _) rfl (P12.out.bx (i := 5) rfl) ?_)
        | (go_at_call 24
           refine refCheck_any.mono ?_; rintro e w13 ⟨rfl, l13⟩
           have P13 := Lib.hid (P12.out.mono l13)
           obtain ⟨c0, c1, c2, c3, c4, c10⟩ := boxCm (P13.out.bx (i := 5) rfl)
           clear l13 P12)
        | (with_reducible show wpList _ _ _ (⟨some 9, Op.alloc 3, _, _, _, _⟩ :: _) _ _
           refine wpList_one_new oneInt rfl rfl _ rfl ?_
           intro w15 x15 l15 s15
           have P15 := Lib.hid (show LwB w [bxO w13.heap.size 3 #[.int .i64 0], bxO MB 3 #[.int .i64 0], mkO D, bxO TB 3 #[.int .i64 ((3 : Nat) : Int)], bxO J2 4 #[.bool false], bxO J1 3 #[.int .i64 (mo : Int)], bxO w.heap.size cmT (cmA q n c x)] w15 from P13.out.add l15 x15 (Nat.le_refl _))
           clear x15 l15 s15 P13
           generalize w13.heap.size = KB at *)
        | (with_reducible show wpList _ _ _ (⟨_, Op.store 3 (.tmp 9) _, _, _, _, none⟩ :: _) _ _
           refine wpList_int_put rfl _ _ rfl rfl KB 0 0 rfl rfl (P15.out.bx (i := 0) rfl) ?_
           intro w16 x16 k16 s16
           have P16 := Lib.hid (show LwB w [bxO KB 3 #[.int .i64 0], bxO MB 3 #[.int .i64 0], mkO D, bxO TB 3 #[.int .i64 ((3 : Nat) : Int)], bxO J2 4 #[.bool false], bxO J1 3 #[.int .i64 (mo : Int)], bxO w.heap.size cmT (cmA q n c x)] w16 from P15.out.put 0 rfl x16 k16)
           clear x16 k16 s16 P15)
        | (with_reducible show wpList _ _ _ (⟨some 55, Op.load cmT _, _, _, _, _⟩ :: _) _ _
           refine wpList_boxA_loadw rowCm _ rfl rfl w.heap.size (cmA q n c x) (cmA_size _ _ _ _) rfl (P16.out.bx (i := 6) rfl) ?_)
        | (go_at_call 25
           refine (Blocks_any (c := c) (HQ.out _ P16.out.low) (128 * M) (by rw [HMM.out])).mono ?_; rintro e w8 ⟨B8, B7, p8, rfl, h4, h3, hr, l4, l3, l5⟩
           have HV0 := HM.out.1
           have S8 := Lib.hid (show LoS w w8 (TBl B8 B7 p8) [bxO KB 3 #[.int .i64 0], bxO MB 3 #[.int .i64 ((M : Nat) : Int)], mkO D, bxO TB 3 #[.int .i64 ((3 : Nat) : Int)], bxO J2 4 #[.bool false], bxO J1 3 #[.int .i64 (mo : Int)], bxO w.heap.size cmT (cmA q n c x)] w8 from by
             have h := LoS.of (TBl B8 B7 p8) (P16.out.mono l5)
             rw [← HV0]; exact h)
           have HT := Lib.hid (fun k hk => (tbl_in h4 h3 hr l4 l3 k hk).1)
           have HTO := Lib.hid (show ¬ TBl B8 B7 p8 KB from fun hk => by have := (tbl_in h4 h3 hr l4 l3 KB hk).2; have := P16.out.lt (i := 0) rfl; simp only [bxO] at this; omega)
           have HM16 := Lib.hid HM.out.2
           have HBB := Lib.hid (show 0 < M → 0 ≤ x.b ∧ x.b ≤ 16 ∧ (x.k = 2 → n = 128 * M) ∧ (x.k ≠ 2 → n = 0) from fun h0 => by
             obtain ⟨ha, hb⟩ := many_pos (x := x) (n := n) (by rw [HMM.out]; exact h0)
             obtain ⟨m1, m2, m3, m4, m5, m6, m7⟩ := many_some ha hb
             rw [HMM.out] at m1
             refine ⟨m4, by omega, fun h2 => by have := m6 h2; omega, fun h2 => m7 (by simp only [Bool.or_eq_true, beq_iff_eq] at ha; omega)⟩)
           have GV := Lib.hid (blocks_gives (M := M) h4 h3 hr rfl (by have := HM.out.2; omega) (fun h0 => by have := HBB.out h0; omega))
           have W8 := Lib.hid (S8.out.b.low.size)
           clear h4 h3 hr l4 l3 l5 P16 HV0 HM HMM fc c0 c1 c2 c3 c4 c10))
      refine (wpIn_wide (n := 3)).1 ?_
      refine range_free_brk rfl (by omega) (gf := 37) (lb := #[.pointer (some ⟨B8, 0, none⟩), .pointer (some ⟨B7, 0, none⟩)]) rfl trivial (enters_of Try.func37 (by kernel_rfl) rfl)
        (fun z : Int × (Nat → Nat) => #[.int .i64 z.1, .agg (cellsOf .u8 (mk 128 z.2))]) (fun i => (x.b + (i : Int), fun j => extF n g (128 * i + j))) M (BlR w8 B8 B7 p8) (fun _ => rfl)
        (fun i V => LoS w w8 (TBl B8 B7 p8) [bxO KB 3 #[.int .i64 ((i : Nat) : Int)], bxO MB 3 #[.int .i64 ((M : Nat) : Int)], mkO D, bxO TB 3 #[.int .i64 ((3 : Nat) : Int)], bxO J2 4 #[.bool false], bxO J1 3 #[.int .i64 (mo : Int)], bxO w.heap.size cmT (cmA q n c x)] V ∧ i < mo ∧ i ≤ M) (fun V => LoS w w8 (TBl B8 B7 p8) [bxO KB 3 #[.int .i64 ((mo : Nat) : Int)], bxO MB 3 #[.int .i64 ((M : Nat) : Int)], mkO D, bxO TB 3 #[.int .i64 ((3 : Nat) : Int)], bxO J2 4 #[.bool false], bxO J1 3 #[.int .i64 (mo : Int)], bxO w.heap.size cmT (cmA q n c x)] V ∧ mo ≤ M) ?rd2 ?st2 ?stx2 ⟨S8.out, MO0.out, Nat.zero_le _⟩ GV.out ?round2 ?done2
      case rd2 => exact fun i V h => h.1.it
      case st2 => exact fun i V V' h hs => ⟨h.1.save HT.out W8.out hs, h.2⟩
      case stx2 => exact fun V V' h hs => ⟨h.1.save HT.out W8.out hs, h.2⟩
      case round2 =>
        intro l i W hl hi hWs hI
        have HI := Lib.hid hI.1
        have HMI := Lib.hid hI.2
        have HLI := Lib.hid hi
        have HWS := Lib.hid hWs
        clear hI hi hWs S8 GV hl
        have HB2 := Lib.hid (HBB.out (by have := HLI.out; omega))
        generalize hzb : x.b + (i : Int) = zb at *
        have q3 : IntKind.i64.wrap (x.b + (i : Int)) = zb := by rw [← hzb]; exact IntWalk.i64_in _ (by have := HB2.out; have := HM16.out; have := HLI.out; omega)
        clear hzb
        generalize hfb : (fun j => extF n g (128 * i + j)) = fb at *
        have HFB := Lib.hid hfb
        clear hfb
        gi_wp2_with (first
          | (refine wpListIn_round (by rintro ⟨_, _, h⟩; exact h) _ _ _ rfl ?_
             go_wp2_with (first
               | (with_reducible show wpList _ _ _ (⟨some 11, Op.alloc 56, _, _, _, _⟩ :: _) _ _
                  obtain ⟨J8, hJ8⟩ : ∃ J, W.heap.size = J := ⟨_, rfl⟩
                  refine wpList_boxA_new rowSec rfl rfl J8 hJ8 ?_
                  intro v1 x1 l1 s1
                  have S1 := Lib.hid (show LwB W [bxO J8 56 (cellsOf .u8 (mk 128 zeroK))] v1 from (LwB.none W).add l1 x1 (Nat.le_of_eq hJ8))
                  clear x1 l1 s1 hJ8)
               | (with_reducible show wpList _ _ _ (⟨_, Op.store 56 (.tmp 11) _, _, _, _, none⟩ :: _) _ _
                  refine wpList_boxA_put rowSec rfl _ _ rfl rfl J8 (cellsOf .u8 (mk 128 fb)) (cellsOf .u8 (mk 128 zeroK)) (sec_size _) (sec_one _) (sec_size _) rfl rfl (S1.out.bx (i := 0) rfl) ?_
                  intro v2 x2 k2' s2
                  have S2 := Lib.hid (show LwB W [bxO J8 56 (cellsOf .u8 (mk 128 fb))] v2 from S1.out.put 0 rfl x2 k2')
                  clear x2 k2' s2 S1))))
        refine ⟨rec_low S2.out.low HWS.out, fun V hVs hVk hVS => ?_⟩
        have HV := Lib.hid ((HI.out.mono HT.out S2.out.low).save HT.out W8.out hVS)
        have X8 := Lib.hid (show BoxA V J8 56 (cellsOf .u8 (mk 128 fb)) from (S2.out.bx (i := 0) rfl).keep (hVk J8 (by have h2 := (S2.out.box (i := 0) rfl).2; simp only [bxO] at h2; have := HWS.out; omega)))
        have HV2 := Lib.hid (show w8.heap.size + 2 ≤ V.heap.size from by have := HWS.out; have := S2.out.low.size; omega)
        have e0 : V.cell? ⟨KB, 0, none⟩ = some (.int .i64 (i : Int)) := (HV.out.b.bx (i := 0) rfl).cell 0
        have e1 : V.cell? ⟨MB, 0, none⟩ = some (.int .i64 (M : Int)) := (HV.out.b.bx (i := 1) rfl).cell 0
        obtain ⟨c0, c1, c2, c3, c4, c10⟩ := boxCm (HV.out.b.bx (i := 6) rfl)
        clear hVs hVk hVS HI HWS S2
        have q1 : IntKind.i64.wrap ((i : Int) + 1) = (i : Int) + 1 := IntWalk.i64_in _ (by have := HLI.out; have := HM16.out; omega)
        have M1 := Lib.hid (show IntKind.i64.wrap (128 * (i : Int)) = 128 * (i : Int) from IntWalk.i64_in _ (by have := HLI.out; have := HM16.out; omega))
        have M2 := Lib.hid (show IntKind.i64.wrap (128 * (i : Int) + 128) = 128 * (i : Int) + 128 from IntWalk.i64_in _ (by have := HLI.out; have := HM16.out; omega))
        have d1 : decide ((M : Int) ≤ (i : Int)) = false := by have := HLI.out; simp; omega
        have d2 : decide (M ≤ i) = false := by have := HLI.out; simp; omega
        by_cases hk2 : x.k = 2
        · by_cases hbr : i + 1 = mo
          · have k2 : (x.k == 2) = true := by simp [hk2]
            have d5 : ((i : Int) + 1 == (mo : Int)) = true := by simp; omega
            have HN := Lib.hid (show 128 * i + 128 ≤ n by have := HBB.out (by have := HLI.out; omega); have := this.2.2.1 hk2; have := HLI.out; omega)
            have HE := Lib.hid (show mk 128 fb = mk 128 (fun j => g (128 * i + j)) by rw [← HFB.out]; exact mk_ext fun j hj => by have := HN.out; unfold extF; rw [if_pos (by omega)])
            have HBK := Lib.hid (show i + 1 = mo from hbr)
            clear hk2 hbr
            gi_wp2_with (first
              | (with_reducible show Code.wpIn _ _ _ (Code.region _ _ true) _ _ _
                 refine round_sched [(0, true), (1, true), (2, true), (3, true), (4, true), (5, true), (6, true), (7, true), (8, true), (9, false)] (fun V => BoxA V w.heap.size cmT (cmA q n c x) ∧ BoxA V KB 3 #[.int .i64 (i : Int)]) (by kernel_rfl) (by kernel_rfl) (by kernel_rfl) (by rintro ⟨_, _, h⟩; exact h) ⟨V4.out.b.bx (i := 6) rfl, V4.out.b.bx (i := 0) rfl⟩ ?_
                 refine walk_float rfl rfl (fun K hK => ?_)
                 refine gives_sec_row _ rfl J9 rfl ?_
                 go_simp
                 refine hK _ ?_
                 clear hK K
                 refine walk_float rfl rfl (fun K hK => ?_)
                 refine gives_cmfield4 _ rfl w.heap.size rfl ?_
                 go_simp
                 refine hK _ ?_
                 clear hK K
                 refine walk_float rfl rfl (fun K hK => ?_)
                 refine gives_cell 22 _ rfl ⟨w.heap.size, 4, none⟩ (.slice q n c) rfl box_bytes (fun V hV => (boxCm hV.1).2.2.2.2.1) ?_
                 go_simp
                 refine hK _ ?_
                 clear hK K
                 refine walk_float rfl rfl (fun K hK => ?_)
                 refine gives_cell 3 _ rfl ⟨KB, 0, none⟩ (.int .i64 (i : Int)) rfl box_int (fun V hV => hV.2.cell 0) ?_
                 go_simp
                 refine hK _ ?_
                 clear hK K
                 refine walk_float rfl rfl (fun K hK => ?_)
                 refine gives_mul128 _ _ rfl 128 (i : Int) (128 * (i : Int)) rfl rfl M1.out ?_
                 go_simp
                 refine hK _ ?_
                 clear hK K
                 refine walk_float rfl rfl (fun K hK => ?_)
                 refine gives_cell 3 _ rfl ⟨KB, 0, none⟩ (.int .i64 (i : Int)) rfl box_int (fun V hV => hV.2.cell 0) ?_
                 go_simp
                 refine hK _ ?_
                 clear hK K
                 refine walk_float rfl rfl (fun K hK => ?_)
                 refine gives_mul128 _ _ rfl 128 (i : Int) (128 * (i : Int)) rfl rfl M1.out ?_
                 go_simp
                 refine hK _ ?_
                 clear hK K
                 refine walk_float rfl rfl (fun K hK => ?_)
                 refine gives_add128 _ _ rfl (128 * (i : Int)) 128 (128 * (i : Int) + 128) rfl rfl M2.out ?_
                 go_simp
                 refine hK _ ?_
                 clear hK K
                 refine walk_float rfl rfl (fun K hK => ?_)
                 refine gives_cut128 _ _ _ rfl q n c i rfl rfl rfl HN.out HNC.out ?_
                 intro p9 hp9
                 have HP9 := Lib.hid hp9
                 clear hp9
                 go_simp
                 refine hK _ ?_
                 clear hK K
                 refine walk_done rfl rfl (fun K hK => ?_)
                 refine done_sec_copy _ _ rfl J9 zeroK (fun j => g (128 * i + j)) p9 _ rfl rfl (S4.out.drew.bx (i := 0) rfl) (HP9.out _ _ (HQ.out _ V4.out.b.low.drew)) ?_
                 intro vv v5 x5 k5 s5
                 have S5 := Lib.hid (show LwB V [bxO J9 56 (cellsOf .u8 (mk 128 (fun j => g (128 * i + j))))] v5 from S4.out.drew.put 0 rfl x5 k5)
                 have V5 := Lib.hid (HV.out.mono HT.out S5.out.low)
                 clear x5 k5 s5 S4 V4 c0 c1 c2 c3 c4 c10
                 refine ⟨⟨V5.out.b.bx (i := 6) rfl, V5.out.b.bx (i := 0) rfl⟩, ?_⟩
                 go_simp
                 refine hK _ _ ?_
                 clear hK K
                 refine walk_nil ?_)
              | (refine wpListIn_round (by rintro ⟨_, _, h⟩; exact h) _ _ _ rfl ?_
                 go_wp2_with (first
                   | (with_reducible show wpList _ _ _ (⟨_, Op.build 56 _, _, _, _, _⟩ :: _) _ _
                      refine wpList_sec_build0 rfl rfl ?_)
                   | (with_reducible show wpList _ _ _ (⟨some 12, Op.alloc 56, _, _, _, _⟩ :: _) _ _
                      obtain ⟨J9, hJ9⟩ : ∃ J, V.heap.size = J := ⟨_, rfl⟩
                      refine wpList_boxA_new rowSec rfl rfl J9 hJ9 ?_
                      intro v3 x3 l3 s3
                      have S3 := Lib.hid (show LwB V [bxO J9 56 (cellsOf .u8 (mk 128 zeroK))] v3 from (LwB.none V).add l3 x3 (Nat.le_of_eq hJ9))
                      clear x3 l3 s3 hJ9 e0 e1 c0 c1 c2 c3 c4 c10)
                   | (with_reducible show wpList _ _ _ (⟨_, Op.store 56 (.tmp 12) _, _, _, _, none⟩ :: _) _ _
                      refine wpList_boxA_put rowSec rfl _ _ rfl rfl J9 (cellsOf .u8 (mk 128 zeroK)) (cellsOf .u8 (mk 128 zeroK)) (sec_size _) (sec_one _) (sec_size _) rfl rfl (S3.out.bx (i := 0) rfl) ?_
                      intro v4 x4 k4 s4
                      have S4 := Lib.hid (show LwB V [bxO J9 56 (cellsOf .u8 (mk 128 zeroK))] v4 from S3.out.put 0 rfl x4 k4)
                      have V4 := Lib.hid (HV.out.mono HT.out S4.out.low)
                      obtain ⟨c0, c1, c2, c3, c4, c10⟩ := boxCm (V4.out.b.bx (i := 6) rfl)
                      clear x4 k4 s4 S3)
                   | (with_reducible show wpList _ _ _ (⟨some 84, Op.load 56 _, _, _, _, _⟩ :: _) _ _
                      refine wpList_boxA_loadw rowSec _ rfl rfl J8 (cellsOf .u8 (mk 128 fb)) (sec_size _) rfl (X8.out.keep (S5.out.low.block _ X8.out.lt)) ?_)
                   | (with_reducible show wpList _ _ _ (⟨some 85, Op.load 56 _, _, _, _, _⟩ :: _) _ _
                      refine wpList_boxA_loadw rowSec _ rfl rfl J9 (cellsOf .u8 (mk 128 (fun j => g (128 * i + j)))) (sec_size _) rfl (S5.out.bx (i := 0) rfl) ?_)
                   | (with_reducible show wpList _ _ _ (⟨some 86, _, _, _, _, _⟩ :: _) _ _
                      refine wpList_sec_neq rfl _ _ rfl fb (fun j => g (128 * i + j)) rfl rfl HE.out ?_
                      have e0 : v5.cell? ⟨KB, 0, none⟩ = some (.int .i64 (i : Int)) := (V5.out.b.bx (i := 0) rfl).cell 0)
                   | (with_reducible show wpList _ _ _ (⟨_, Op.store 3 (.tmp 9) _, _, _, _, none⟩ :: _) _ _
                      refine wpList_int_put rfl _ _ rfl rfl KB (i : Int) ((i : Int) + 1) rfl rfl (V5.out.b.bx (i := 0) rfl) ?_
                      intro v6 x6 k6 s6
                      have V6 := Lib.hid (show LoS w w8 (TBl B8 B7 p8) [bxO KB 3 #[.int .i64 ((i : Int) + 1)], bxO MB 3 #[.int .i64 ((M : Nat) : Int)], mkO D, bxO TB 3 #[.int .i64 ((3 : Nat) : Int)], bxO J2 4 #[.bool false], bxO J1 3 #[.int .i64 (mo : Int)], bxO w.heap.size cmT (cmA q n c x)] v6 from V5.out.put HT.out 0 rfl HTO.out x6 k6 s6)
                      have R6 := Lib.hid ((rec_low (w5 := w8) S5.out.low HV2.out).trans (rec_put (w5 := w8) k6 s6 (V5.out.top (i := 0) rfl) (Nat.le_trans HV2.out S5.out.low.size)))
                      have e6 : v6.cell? ⟨KB, 0, none⟩ = some (.int .i64 ((i : Int) + 1)) := (V6.out.b.bx (i := 0) rfl).cell 0
                      have e7 : v6.cell? ⟨J1, 0, none⟩ = some (.int .i64 (mo : Int)) := (V6.out.b.bx (i := 5) rfl).cell 0
                      clear x6 k6 s6 V5 S5 e0))))
            have e8 : (i : Int) + 1 = (mo : Int) := by have := HBK.out; omega
            exact ⟨R6.out, rfl, by have h := V6.out; rw [e8] at h; exact h, by have := HBK.out; have := HLI.out; omega⟩
          · have k2 : (x.k == 2) = true := by simp [hk2]
            have d5 : ((i : Int) + 1 == (mo : Int)) = false := beq_eq_false_iff_ne.2 (by omega)
            have HN := Lib.hid (show 128 * i + 128 ≤ n by have := HBB.out (by have := HLI.out; omega); have := this.2.2.1 hk2; have := HLI.out; omega)
            have HE := Lib.hid (show mk 128 fb = mk 128 (fun j => g (128 * i + j)) by rw [← HFB.out]; exact mk_ext fun j hj => by have := HN.out; unfold extF; rw [if_pos (by omega)])
            have HBK := Lib.hid (show i + 1 < mo by have := HMI.out; omega)
            clear hk2 hbr
            gi_wp2_with (first
              | (with_reducible show Code.wpIn _ _ _ (Code.region _ _ true) _ _ _
                 refine round_sched [(0, true), (1, true), (2, true), (3, true), (4, true), (5, true), (6, true), (7, true), (8, true), (9, false)] (fun V => BoxA V w.heap.size cmT (cmA q n c x) ∧ BoxA V KB 3 #[.int .i64 (i : Int)]) (by kernel_rfl) (by kernel_rfl) (by kernel_rfl) (by rintro ⟨_, _, h⟩; exact h) ⟨V4.out.b.bx (i := 6) rfl, V4.out.b.bx (i := 0) rfl⟩ ?_
                 refine walk_float rfl rfl (fun K hK => ?_)
                 refine gives_sec_row _ rfl J9 rfl ?_
                 go_simp
                 refine hK _ ?_
                 clear hK K
                 refine walk_float rfl rfl (fun K hK => ?_)
                 refine gives_cmfield4 _ rfl w.heap.size rfl ?_
                 go_simp
                 refine hK _ ?_
                 clear hK K
                 refine walk_float rfl rfl (fun K hK => ?_)
                 refine gives_cell 22 _ rfl ⟨w.heap.size, 4, none⟩ (.slice q n c) rfl box_bytes (fun V hV => (boxCm hV.1).2.2.2.2.1) ?_
                 go_simp
                 refine hK _ ?_
                 clear hK K
                 refine walk_float rfl rfl (fun K hK => ?_)
                 refine gives_cell 3 _ rfl ⟨KB, 0, none⟩ (.int .i64 (i : Int)) rfl box_int (fun V hV => hV.2.cell 0) ?_
                 go_simp
                 refine hK _ ?_
                 clear hK K
                 refine walk_float rfl rfl (fun K hK => ?_)
                 refine gives_mul128 _ _ rfl 128 (i : Int) (128 * (i : Int)) rfl rfl M1.out ?_
                 go_simp
                 refine hK _ ?_
                 clear hK K
                 refine walk_float rfl rfl (fun K hK => ?_)
                 refine gives_cell 3 _ rfl ⟨KB, 0, none⟩ (.int .i64 (i : Int)) rfl box_int (fun V hV => hV.2.cell 0) ?_
                 go_simp
                 refine hK _ ?_
                 clear hK K
                 refine walk_float rfl rfl (fun K hK => ?_)
                 refine gives_mul128 _ _ rfl 128 (i : Int) (128 * (i : Int)) rfl rfl M1.out ?_
                 go_simp
                 refine hK _ ?_
                 clear hK K
                 refine walk_float rfl rfl (fun K hK => ?_)
                 refine gives_add128 _ _ rfl (128 * (i : Int)) 128 (128 * (i : Int) + 128) rfl rfl M2.out ?_
                 go_simp
                 refine hK _ ?_
                 clear hK K
                 refine walk_float rfl rfl (fun K hK => ?_)
                 refine gives_cut128 _ _ _ rfl q n c i rfl rfl rfl HN.out HNC.out ?_
                 intro p9 hp9
                 have HP9 := Lib.hid hp9
                 clear hp9
                 go_simp
                 refine hK _ ?_
                 clear hK K
                 refine walk_done rfl rfl (fun K hK => ?_)
                 refine done_sec_copy _ _ rfl J9 zeroK (fun j => g (128 * i + j)) p9 _ rfl rfl (S4.out.drew.bx (i := 0) rfl) (HP9.out _ _ (HQ.out _ V4.out.b.low.drew)) ?_
                 intro vv v5 x5 k5 s5
                 have S5 := Lib.hid (show LwB V [bxO J9 56 (cellsOf .u8 (mk 128 (fun j => g (128 * i + j))))] v5 from S4.out.drew.put 0 rfl x5 k5)
                 have V5 := Lib.hid (HV.out.mono HT.out S5.out.low)
                 clear x5 k5 s5 S4 V4 c0 c1 c2 c3 c4 c10
                 refine ⟨⟨V5.out.b.bx (i := 6) rfl, V5.out.b.bx (i := 0) rfl⟩, ?_⟩
                 go_simp
                 refine hK _ _ ?_
                 clear hK K
                 refine walk_nil ?_)
              | (refine wpListIn_round (by rintro ⟨_, _, h⟩; exact h) _ _ _ rfl ?_
                 go_wp2_with (first
                   | (with_reducible show wpList _ _ _ (⟨_, Op.build 56 _, _, _, _, _⟩ :: _) _ _
                      refine wpList_sec_build0 rfl rfl ?_)
                   | (with_reducible show wpList _ _ _ (⟨some 12, Op.alloc 56, _, _, _, _⟩ :: _) _ _
                      obtain ⟨J9, hJ9⟩ : ∃ J, V.heap.size = J := ⟨_, rfl⟩
                      refine wpList_boxA_new rowSec rfl rfl J9 hJ9 ?_
                      intro v3 x3 l3 s3
                      have S3 := Lib.hid (show LwB V [bxO J9 56 (cellsOf .u8 (mk 128 zeroK))] v3 from (LwB.none V).add l3 x3 (Nat.le_of_eq hJ9))
                      clear x3 l3 s3 hJ9 e0 e1 c0 c1 c2 c3 c4 c10)
                   | (with_reducible show wpList _ _ _ (⟨_, Op.store 56 (.tmp 12) _, _, _, _, none⟩ :: _) _ _
                      refine wpList_boxA_put rowSec rfl _ _ rfl rfl J9 (cellsOf .u8 (mk 128 zeroK)) (cellsOf .u8 (mk 128 zeroK)) (sec_size _) (sec_one _) (sec_size _) rfl rfl (S3.out.bx (i := 0) rfl) ?_
                      intro v4 x4 k4 s4
                      have S4 := Lib.hid (show LwB V [bxO J9 56 (cellsOf .u8 (mk 128 zeroK))] v4 from S3.out.put 0 rfl x4 k4)
                      have V4 := Lib.hid (HV.out.mono HT.out S4.out.low)
                      obtain ⟨c0, c1, c2, c3, c4, c10⟩ := boxCm (V4.out.b.bx (i := 6) rfl)
                      clear x4 k4 s4 S3)
                   | (with_reducible show wpList _ _ _ (⟨some 84, Op.load 56 _, _, _, _, _⟩ :: _) _ _
                      refine wpList_boxA_loadw rowSec _ rfl rfl J8 (cellsOf .u8 (mk 128 fb)) (sec_size _) rfl (X8.out.keep (S5.out.low.block _ X8.out.lt)) ?_)
                   | (with_reducible show wpList _ _ _ (⟨some 85, Op.load 56 _, _, _, _, _⟩ :: _) _ _
                      refine wpList_boxA_loadw rowSec _ rfl rfl J9 (cellsOf .u8 (mk 128 (fun j => g (128 * i + j)))) (sec_size _) rfl (S5.out.bx (i := 0) rfl) ?_)
                   | (with_reducible show wpList _ _ _ (⟨some 86, _, _, _, _, _⟩ :: _) _ _
                      refine wpList_sec_neq rfl _ _ rfl fb (fun j => g (128 * i + j)) rfl rfl HE.out ?_
                      have e0 : v5.cell? ⟨KB, 0, none⟩ = some (.int .i64 (i : Int)) := (V5.out.b.bx (i := 0) rfl).cell 0)
                   | (with_reducible show wpList _ _ _ (⟨_, Op.store 3 (.tmp 9) _, _, _, _, none⟩ :: _) _ _
                      refine wpList_int_put rfl _ _ rfl rfl KB (i : Int) ((i : Int) + 1) rfl rfl (V5.out.b.bx (i := 0) rfl) ?_
                      intro v6 x6 k6 s6
                      have V6 := Lib.hid (show LoS w w8 (TBl B8 B7 p8) [bxO KB 3 #[.int .i64 ((i : Int) + 1)], bxO MB 3 #[.int .i64 ((M : Nat) : Int)], mkO D, bxO TB 3 #[.int .i64 ((3 : Nat) : Int)], bxO J2 4 #[.bool false], bxO J1 3 #[.int .i64 (mo : Int)], bxO w.heap.size cmT (cmA q n c x)] v6 from V5.out.put HT.out 0 rfl HTO.out x6 k6 s6)
                      have R6 := Lib.hid ((rec_low (w5 := w8) S5.out.low HV2.out).trans (rec_put (w5 := w8) k6 s6 (V5.out.top (i := 0) rfl) (Nat.le_trans HV2.out S5.out.low.size)))
                      have e6 : v6.cell? ⟨KB, 0, none⟩ = some (.int .i64 ((i : Int) + 1)) := (V6.out.b.bx (i := 0) rfl).cell 0
                      have e7 : v6.cell? ⟨J1, 0, none⟩ = some (.int .i64 (mo : Int)) := (V6.out.b.bx (i := 5) rfl).cell 0
                      clear x6 k6 s6 V5 S5 e0))))
            exact ⟨R6.out, V6.out, HBK.out, HLI.out⟩
        · by_cases hbr : i + 1 = mo
          · have k2 : (x.k == 2) = false := by simp [hk2]
            have d5 : ((i : Int) + 1 == (mo : Int)) = true := by simp; omega
            have HE := Lib.hid (show mk 128 fb = mk 128 zeroK by rw [← HFB.out]; exact mk_ext fun j hj => by have := (HBB.out (by have := HLI.out; omega)).2.2.2 hk2; unfold extF zeroK; rw [if_neg (by omega)])
            have HBK := Lib.hid (show i + 1 = mo from hbr)
            clear hk2 hbr
            gi_wp2_with (first
              | (refine wpListIn_round (by rintro ⟨_, _, h⟩; exact h) _ _ _ rfl ?_
                 go_wp2_with (first
                   | (with_reducible show wpList _ _ _ (⟨_, Op.build 56 _, _, _, _, _⟩ :: _) _ _
                      refine wpList_sec_build0 rfl rfl ?_)
                   | (with_reducible show wpList _ _ _ (⟨some 12, Op.alloc 56, _, _, _, _⟩ :: _) _ _
                      obtain ⟨J9, hJ9⟩ : ∃ J, V.heap.size = J := ⟨_, rfl⟩
                      refine wpList_boxA_new rowSec rfl rfl J9 hJ9 ?_
                      intro v3 x3 l3 s3
                      have S3 := Lib.hid (show LwB V [bxO J9 56 (cellsOf .u8 (mk 128 zeroK))] v3 from (LwB.none V).add l3 x3 (Nat.le_of_eq hJ9))
                      clear x3 l3 s3 hJ9 e0 e1 c0 c1 c2 c3 c4 c10)
                   | (with_reducible show wpList _ _ _ (⟨_, Op.store 56 (.tmp 12) _, _, _, _, none⟩ :: _) _ _
                      refine wpList_boxA_put rowSec rfl _ _ rfl rfl J9 (cellsOf .u8 (mk 128 zeroK)) (cellsOf .u8 (mk 128 zeroK)) (sec_size _) (sec_one _) (sec_size _) rfl rfl (S3.out.bx (i := 0) rfl) ?_
                      intro v4 x4 k4 s4
                      have S4 := Lib.hid (show LwB V [bxO J9 56 (cellsOf .u8 (mk 128 zeroK))] v4 from S3.out.put 0 rfl x4 k4)
                      have V4 := Lib.hid (HV.out.mono HT.out S4.out.low)
                      obtain ⟨c0, c1, c2, c3, c4, c10⟩ := boxCm (V4.out.b.bx (i := 6) rfl)
                      clear x4 k4 s4 S3)
                   | (with_reducible show wpList _ _ _ (⟨some 84, Op.load 56 _, _, _, _, _⟩ :: _) _ _
                      refine wpList_boxA_loadw rowSec _ rfl rfl J8 (cellsOf .u8 (mk 128 fb)) (sec_size _) rfl (X8.out.keep (S4.out.low.block _ X8.out.lt)) ?_)
                   | (with_reducible show wpList _ _ _ (⟨some 85, Op.load 56 _, _, _, _, _⟩ :: _) _ _
                      refine wpList_boxA_loadw rowSec _ rfl rfl J9 (cellsOf .u8 (mk 128 zeroK)) (sec_size _) rfl (S4.out.bx (i := 0) rfl) ?_)
                   | (with_reducible show wpList _ _ _ (⟨some 86, _, _, _, _, _⟩ :: _) _ _
                      refine wpList_sec_neq rfl _ _ rfl fb zeroK rfl rfl HE.out ?_
                      have e0 : v4.cell? ⟨KB, 0, none⟩ = some (.int .i64 (i : Int)) := (V4.out.b.bx (i := 0) rfl).cell 0)
                   | (with_reducible show wpList _ _ _ (⟨_, Op.store 3 (.tmp 9) _, _, _, _, none⟩ :: _) _ _
                      refine wpList_int_put rfl _ _ rfl rfl KB (i : Int) ((i : Int) + 1) rfl rfl (V4.out.b.bx (i := 0) rfl) ?_
                      intro v6 x6 k6 s6
                      have V6 := Lib.hid (show LoS w w8 (TBl B8 B7 p8) [bxO KB 3 #[.int .i64 ((i : Int) + 1)], bxO MB 3 #[.int .i64 ((M : Nat) : Int)], mkO D, bxO TB 3 #[.int .i64 ((3 : Nat) : Int)], bxO J2 4 #[.bool false], bxO J1 3 #[.int .i64 (mo : Int)], bxO w.heap.size cmT (cmA q n c x)] v6 from V4.out.put HT.out 0 rfl HTO.out x6 k6 s6)
                      have R6 := Lib.hid ((rec_low (w5 := w8) S4.out.low HV2.out).trans (rec_put (w5 := w8) k6 s6 (V4.out.top (i := 0) rfl) (Nat.le_trans HV2.out S4.out.low.size)))
                      have e6 : v6.cell? ⟨KB, 0, none⟩ = some (.int .i64 ((i : Int) + 1)) := (V6.out.b.bx (i := 0) rfl).cell 0
                      have e7 : v6.cell? ⟨J1, 0, none⟩ = some (.int .i64 (mo : Int)) := (V6.out.b.bx (i := 5) rfl).cell 0
                      clear x6 k6 s6 V4 S4 e0))))
            have e8 : (i : Int) + 1 = (mo : Int) := by have := HBK.out; omega
            exact ⟨R6.out, rfl, by have h := V6.out; rw [e8] at h; exact h, by have := HBK.out; have := HLI.out; omega⟩
          · have k2 : (x.k == 2) = false := by simp [hk2]
            have d5 : ((i : Int) + 1 == (mo : Int)) = false := beq_eq_false_iff_ne.2 (by omega)
            have HE := Lib.hid (show mk 128 fb = mk 128 zeroK by rw [← HFB.out]; exact mk_ext fun j hj => by have := (HBB.out (by have := HLI.out; omega)).2.2.2 hk2; unfold extF zeroK; rw [if_neg (by omega)])
            have HBK := Lib.hid (show i + 1 < mo by have := HMI.out; omega)
            clear hk2 hbr
            gi_wp2_with (first
              | (refine wpListIn_round (by rintro ⟨_, _, h⟩; exact h) _ _ _ rfl ?_
                 go_wp2_with (first
                   | (with_reducible show wpList _ _ _ (⟨_, Op.build 56 _, _, _, _, _⟩ :: _) _ _
                      refine wpList_sec_build0 rfl rfl ?_)
                   | (with_reducible show wpList _ _ _ (⟨some 12, Op.alloc 56, _, _, _, _⟩ :: _) _ _
                      obtain ⟨J9, hJ9⟩ : ∃ J, V.heap.size = J := ⟨_, rfl⟩
                      refine wpList_boxA_new rowSec rfl rfl J9 hJ9 ?_
                      intro v3 x3 l3 s3
                      have S3 := Lib.hid (show LwB V [bxO J9 56 (cellsOf .u8 (mk 128 zeroK))] v3 from (LwB.none V).add l3 x3 (Nat.le_of_eq hJ9))
                      clear x3 l3 s3 hJ9 e0 e1 c0 c1 c2 c3 c4 c10)
                   | (with_reducible show wpList _ _ _ (⟨_, Op.store 56 (.tmp 12) _, _, _, _, none⟩ :: _) _ _
                      refine wpList_boxA_put rowSec rfl _ _ rfl rfl J9 (cellsOf .u8 (mk 128 zeroK)) (cellsOf .u8 (mk 128 zeroK)) (sec_size _) (sec_one _) (sec_size _) rfl rfl (S3.out.bx (i := 0) rfl) ?_
                      intro v4 x4 k4 s4
                      have S4 := Lib.hid (show LwB V [bxO J9 56 (cellsOf .u8 (mk 128 zeroK))] v4 from S3.out.put 0 rfl x4 k4)
                      have V4 := Lib.hid (HV.out.mono HT.out S4.out.low)
                      obtain ⟨c0, c1, c2, c3, c4, c10⟩ := boxCm (V4.out.b.bx (i := 6) rfl)
                      clear x4 k4 s4 S3)
                   | (with_reducible show wpList _ _ _ (⟨some 84, Op.load 56 _, _, _, _, _⟩ :: _) _ _
                      refine wpList_boxA_loadw rowSec _ rfl rfl J8 (cellsOf .u8 (mk 128 fb)) (sec_size _) rfl (X8.out.keep (S4.out.low.block _ X8.out.lt)) ?_)
                   | (with_reducible show wpList _ _ _ (⟨some 85, Op.load 56 _, _, _, _, _⟩ :: _) _ _
                      refine wpList_boxA_loadw rowSec _ rfl rfl J9 (cellsOf .u8 (mk 128 zeroK)) (sec_size _) rfl (S4.out.bx (i := 0) rfl) ?_)
                   | (with_reducible show wpList _ _ _ (⟨some 86, _, _, _, _, _⟩ :: _) _ _
                      refine wpList_sec_neq rfl _ _ rfl fb zeroK rfl rfl HE.out ?_
                      have e0 : v4.cell? ⟨KB, 0, none⟩ = some (.int .i64 (i : Int)) := (V4.out.b.bx (i := 0) rfl).cell 0)
                   | (with_reducible show wpList _ _ _ (⟨_, Op.store 3 (.tmp 9) _, _, _, _, none⟩ :: _) _ _
                      refine wpList_int_put rfl _ _ rfl rfl KB (i : Int) ((i : Int) + 1) rfl rfl (V4.out.b.bx (i := 0) rfl) ?_
                      intro v6 x6 k6 s6
                      have V6 := Lib.hid (show LoS w w8 (TBl B8 B7 p8) [bxO KB 3 #[.int .i64 ((i : Int) + 1)], bxO MB 3 #[.int .i64 ((M : Nat) : Int)], mkO D, bxO TB 3 #[.int .i64 ((3 : Nat) : Int)], bxO J2 4 #[.bool false], bxO J1 3 #[.int .i64 (mo : Int)], bxO w.heap.size cmT (cmA q n c x)] v6 from V4.out.put HT.out 0 rfl HTO.out x6 k6 s6)
                      have R6 := Lib.hid ((rec_low (w5 := w8) S4.out.low HV2.out).trans (rec_put (w5 := w8) k6 s6 (V4.out.top (i := 0) rfl) (Nat.le_trans HV2.out S4.out.low.size)))
                      have e6 : v6.cell? ⟨KB, 0, none⟩ = some (.int .i64 ((i : Int) + 1)) := (V6.out.b.bx (i := 0) rfl).cell 0
                      have e7 : v6.cell? ⟨J1, 0, none⟩ = some (.int .i64 (mo : Int)) := (V6.out.b.bx (i := 5) rfl).cell 0
                      clear x6 k6 s6 V4 S4 e0))))
            exact ⟨R6.out, V6.out, HBK.out, HLI.out⟩
      case done2 =>
        intro D2 W hD2 hI hd2
        obtain ⟨k, hk, hI⟩ : ∃ k : Nat, k = min mo M ∧ LoS w w8 (TBl B8 B7 p8) [bxO KB 3 #[.int .i64 ((k : Nat) : Int)], bxO MB 3 #[.int .i64 ((M : Nat) : Int)], mkO D, bxO TB 3 #[.int .i64 ((3 : Nat) : Int)], bxO J2 4 #[.bool false], bxO J1 3 #[.int .i64 (mo : Int)], bxO w.heap.size cmT (cmA q n c x)] W := by
          rcases hI with ⟨hI, h1, _⟩ | ⟨hI, h1⟩
          · exact ⟨M, by omega, hI⟩
          · exact ⟨mo, by omega, hI⟩
        have P2 := Lib.hid (hI.mark W8.out hD2 hd2)
        have g1 : W.cell? ⟨TB, 0, none⟩ = some (.int .i64 ((3 : Nat) : Int)) := (hI.b.bx (i := 3) rfl).cell 0
        have g2 : W.cell? ⟨KB, 0, none⟩ = some (.int .i64 (k : Int)) := (hI.b.bx (i := 0) rfl).cell 0
        have g3 : W.cell? ⟨MB, 0, none⟩ = some (.int .i64 (M : Int)) := (hI.b.bx (i := 1) rfl).cell 0
        have g4 : W.cell? ⟨J1, 0, none⟩ = some (.int .i64 (mo : Int)) := (hI.b.bx (i := 5) rfl).cell 0
        have m1 : min (mo : Int) (M : Int) = (k : Int) := by omega
        clear hI hk hD2 hd2 S8 GV HT HTO HBB HM16
        go_wp2_with (first
          | (with_reducible show wpList _ _ _ (⟨_, Op.store 4 _ _, _, _, _, none⟩ :: _) _ _
             refine wpList_bool_put rfl _ _ rfl rfl J2 true false rfl (by first | rfl | (simp; done)) (P2.out.bx (i := 5) rfl) ?_
             intro Z xz kz sz
             have PZ := Lib.hid (show LwB w (mkO D2 :: [bxO KB 3 #[.int .i64 (k : Int)], bxO MB 3 #[.int .i64 (M : Int)], mkO D, bxO TB 3 #[.int .i64 ((3 : Nat) : Int)], bxO J2 4 #[.bool true], bxO J1 3 #[.int .i64 (mo : Int)], bxO w.heap.size cmT (cmA q n c x)]) Z from P2.out.put 5 rfl xz kz)
             clear xz kz sz P2 g1 g2 g3 g4))
        have hd2 := PZ.out.mark (i := 0) rfl
        have hd1 := PZ.out.mark (i := 3) rfl
        have hr : Z.heap[J2]? = some (.cells #[.bool true] 4 (0, 0)) := PZ.out.bx (i := 5) rfl
        have hne : D ≠ D2 := PZ.out.ne (i := 3) (j := 0) rfl rfl (by omega)
        have hb2 : w.heap.size ≤ D2 := (PZ.out.box (i := 0) rfl).2
        have hb1 : w.heap.size ≤ D := (PZ.out.box (i := 3) rfl).2
        refine ⟨by simp, .inl ⟨_, _, rfl, run_takeDeferred hd2, ?_⟩⟩
        have hd3 : (Z.putObj D2 (.deferred none)).heap[D]? = some (.deferred (some [])) := (World.putObj_heap_other hne).trans hd1
        refine ⟨by simp, .inl ⟨_, _, rfl, run_takeDeferred hd3, ?_⟩⟩
        have r1 := cells_turn (o' := .deferred none) hr hd2 rfl
        have r2 := cells_turn (o' := .deferred none) r1 hd3 rfl
        have hc := BoxA.cell (T := 4) (A := #[.bool true]) r2 0
        simp only [List.getElem?_toArray, List.getElem?_cons_zero] at hc
        refine ⟨.bool true, ?_, rfl, below_turn _ (below_turn _ PZ.out.low hb2) hb1⟩
        simp [results, Try.f7, go_sem, hc]
    replace hch := Decidable.not_not.1 hch
    by_cases hk1 : x.k = 1
    · have fc : (checkN x n == 0) = true := by simp [hch]
      have k1 : (x.k == 1) = true := by simp [hk1]
      have k2 : (x.k == 2) = false := by simp [hk1]
      have HM := Lib.hid (show x.m = ((manyC x n : Nat) : Int) ∧ manyC x n ≤ 16 by have := many_some (x := x) (n := n) (by simp [hk1]) hch; omega)
      generalize hM : manyC x n = M at *
      have HMM := Lib.hid hM
      clear hM hch hk1
      go_wp2_with (first
        | (with_reducible show wpList _ _ _ (⟨_, Op.store 3 (.tmp 3) _, _, _, _, none⟩ :: _) _ _
           refine wpList_int_put rfl _ _ rfl rfl J1 a (1 + (u : Int) % 20) rfl rfl (P9.out.bx (i := 3) rfl) ?_
           rw [MO.out]
           intro w10 x10 k10 s10
           have P10 := Lib.hid (show LwB w [mkO D, bxO TB 3 #[.int .i64 ((3 : Nat) : Int)], bxO J2 4 #[.bool false], bxO J1 3 #[.int .i64 (mo : Int)], bxO w.heap.size cmT (cmA q n c x)] w10 from P9.out.put 3 rfl x10 k10)
           clear x10 k10 s10 P9 g1 hu q1 q2)
        | (with_reducible show wpList _ _ _ (⟨some 8, Op.alloc 3, _, _, _, _⟩ :: _) _ _
           refine wpList_one_new oneInt rfl rfl _ rfl ?_
           intro w11 x11 l11 s11
           have P11 := Lib.hid (show LwB w [bxO w10.heap.size 3 #[.int .i64 0], mkO D, bxO TB 3 #[.int .i64 ((3 : Nat) : Int)], bxO J2 4 #[.bool false], bxO J1 3 #[.int .i64 (mo : Int)], bxO w.heap.size cmT (cmA q n c x)] w11 from P10.out.add l11 x11 (Nat.le_refl _))
           clear x11 l11 s11 P10
           generalize w10.heap.size = MB at *)
        | (with_reducible show wpList _ _ _ (⟨_, Op.store 3 (.tmp 8) (.const _), _, _, _, none⟩ :: _) _ _
           refine wpList_int_put rfl _ _ rfl rfl MB 0 0 rfl rfl (P11.out.bx (i := 0) rfl) ?_
           intro w12 x12 k12 s12
           have P12 := Lib.hid (show LwB w [bxO MB 3 #[.int .i64 0], mkO D, bxO TB 3 #[.int .i64 ((3 : Nat) : Int)], bxO J2 4 #[.bool false], bxO J1 3 #[.int .i64 (mo : Int)], bxO w.heap.size cmT (cmA q n c x)] w12 from P11.out.put 0 rfl x12 k12)
           clear x12 k12 s12 P11)
        | (with_reducible show wpList _ _ _ (⟨some 40, Op.load cmT _, _, _, _, _⟩ :: _) _ _
           refine wpList_boxA_loadw rowCm _ rfl rfl w.heap.size (cmA q n c x) (cmA_size _ _ _ _) rfl (P12.out.bx (i := 5) rfl) ?_)
        | (go_at_call 24
           refine refCheck_any.mono ?_; rintro e w13 ⟨rfl, l13⟩
           have P13 := Lib.hid (P12.out.mono l13)
           obtain ⟨c0, c1, c2, c3, c4, c10⟩ := boxCm (P13.out.bx (i := 5) rfl)
           clear l13 P12)
        | (with_reducible show wpList _ _ _ (⟨_, Op.store 3 (.tmp 8) (.tmp _), _, _, _, none⟩ :: _) _ _
           refine wpList_int_put rfl _ _ rfl rfl MB 0 x.m rfl rfl (P13.out.bx (i := 0) rfl) ?_
           intro w14 x14 k14 s14
           have P14 := Lib.hid (show LwB w [bxO MB 3 #[.int .i64 x.m], mkO D, bxO TB 3 #[.int .i64 ((3 : Nat) : Int)], bxO J2 4 #[.bool false], bxO J1 3 #[.int .i64 (mo : Int)], bxO w.heap.size cmT (cmA q n c x)] w14 from P13.out.put 0 rfl x14 k14)
           clear x14 k14 s14 P13 c0 c1 c2 c3 c4 c10)
        | (with_reducible show wpList _ _ _ (⟨some 9, Op.alloc 3, _, _, _, _⟩ :: _) _ _
           refine wpList_one_new oneInt rfl rfl _ rfl ?_
           intro w15 x15 l15 s15
           have P15 := Lib.hid (show LwB w [bxO w14.heap.size 3 #[.int .i64 0], bxO MB 3 #[.int .i64 x.m], mkO D, bxO TB 3 #[.int .i64 ((3 : Nat) : Int)], bxO J2 4 #[.bool false], bxO J1 3 #[.int .i64 (mo : Int)], bxO w.heap.size cmT (cmA q n c x)] w15 from P14.out.add l15 x15 (Nat.le_refl _))
           clear x15 l15 s15 P14
           generalize w14.heap.size = KB at *)
        | (with_reducible show wpList _ _ _ (⟨_, Op.store 3 (.tmp 9) _, _, _, _, none⟩ :: _) _ _
           refine wpList_int_put rfl _ _ rfl rfl KB 0 0 rfl rfl (P15.out.bx (i := 0) rfl) ?_
           intro w16 x16 k16 s16
           have P16 := Lib.hid (show LwB w [bxO KB 3 #[.int .i64 0], bxO MB 3 #[.int .i64 x.m], mkO D, bxO TB 3 #[.int .i64 ((3 : Nat) : Int)], bxO J2 4 #[.bool false], bxO J1 3 #[.int .i64 (mo : Int)], bxO w.heap.size cmT (cmA q n c x)] w16 from P15.out.put 0 rfl x16 k16)
           clear x16 k16 s16 P15)
        | (with_reducible show wpList _ _ _ (⟨some 55, Op.load cmT _, _, _, _, _⟩ :: _) _ _
           refine wpList_boxA_loadw rowCm _ rfl rfl w.heap.size (cmA q n c x) (cmA_size _ _ _ _) rfl (P16.out.bx (i := 6) rfl) ?_)
        | (go_at_call 25
           refine (Blocks_any (c := c) (HQ.out _ P16.out.low) (128 * M) (by rw [HMM.out])).mono ?_; rintro e w8 ⟨B8, B7, p8, rfl, h4, h3, hr, l4, l3, l5⟩
           have HV0 := HM.out.1
           have S8 := Lib.hid (show LoS w w8 (TBl B8 B7 p8) [bxO KB 3 #[.int .i64 0], bxO MB 3 #[.int .i64 ((M : Nat) : Int)], mkO D, bxO TB 3 #[.int .i64 ((3 : Nat) : Int)], bxO J2 4 #[.bool false], bxO J1 3 #[.int .i64 (mo : Int)], bxO w.heap.size cmT (cmA q n c x)] w8 from by
             have h := LoS.of (TBl B8 B7 p8) (P16.out.mono l5)
             rw [← HV0]; exact h)
           have HT := Lib.hid (fun k hk => (tbl_in h4 h3 hr l4 l3 k hk).1)
           have HTO := Lib.hid (show ¬ TBl B8 B7 p8 KB from fun hk => by have := (tbl_in h4 h3 hr l4 l3 KB hk).2; have := P16.out.lt (i := 0) rfl; simp only [bxO] at this; omega)
           have HM16 := Lib.hid HM.out.2
           have HBB := Lib.hid (show 0 < M → 0 ≤ x.b ∧ x.b ≤ 16 ∧ (x.k = 2 → n = 128 * M) ∧ (x.k ≠ 2 → n = 0) from fun h0 => by
             obtain ⟨ha, hb⟩ := many_pos (x := x) (n := n) (by rw [HMM.out]; exact h0)
             obtain ⟨m1, m2, m3, m4, m5, m6, m7⟩ := many_some ha hb
             rw [HMM.out] at m1
             refine ⟨m4, by omega, fun h2 => by have := m6 h2; omega, fun h2 => m7 (by simp only [Bool.or_eq_true, beq_iff_eq] at ha; omega)⟩)
           have GV := Lib.hid (blocks_gives (M := M) h4 h3 hr rfl (by have := HM.out.2; omega) (fun h0 => by have := HBB.out h0; omega))
           have W8 := Lib.hid (S8.out.b.low.size)
           clear h4 h3 hr l4 l3 l5 P16 HV0 HM HMM fc k1 k2))
      refine (wpIn_wide (n := 3)).1 ?_
      refine range_free_brk rfl (by omega) (gf := 37) (lb := #[.pointer (some ⟨B8, 0, none⟩), .pointer (some ⟨B7, 0, none⟩)]) rfl trivial (enters_of Try.func37 (by kernel_rfl) rfl)
        (fun z : Int × (Nat → Nat) => #[.int .i64 z.1, .agg (cellsOf .u8 (mk 128 z.2))]) (fun i => (x.b + (i : Int), fun j => extF n g (128 * i + j))) M (BlR w8 B8 B7 p8) (fun _ => rfl)
        (fun i V => LoS w w8 (TBl B8 B7 p8) [bxO KB 3 #[.int .i64 ((i : Nat) : Int)], bxO MB 3 #[.int .i64 ((M : Nat) : Int)], mkO D, bxO TB 3 #[.int .i64 ((3 : Nat) : Int)], bxO J2 4 #[.bool false], bxO J1 3 #[.int .i64 (mo : Int)], bxO w.heap.size cmT (cmA q n c x)] V ∧ i < mo ∧ i ≤ M) (fun V => LoS w w8 (TBl B8 B7 p8) [bxO KB 3 #[.int .i64 ((mo : Nat) : Int)], bxO MB 3 #[.int .i64 ((M : Nat) : Int)], mkO D, bxO TB 3 #[.int .i64 ((3 : Nat) : Int)], bxO J2 4 #[.bool false], bxO J1 3 #[.int .i64 (mo : Int)], bxO w.heap.size cmT (cmA q n c x)] V ∧ mo ≤ M) ?rd2 ?st2 ?stx2 ⟨S8.out, MO0.out, Nat.zero_le _⟩ GV.out ?round2 ?done2
      case rd2 => exact fun i V h => h.1.it
      case st2 => exact fun i V V' h hs => ⟨h.1.save HT.out W8.out hs, h.2⟩
      case stx2 => exact fun V V' h hs => ⟨h.1.save HT.out W8.out hs, h.2⟩
      case round2 =>
        intro l i W hl hi hWs hI
        have HI := Lib.hid hI.1
        have HMI := Lib.hid hI.2
        have HLI := Lib.hid hi
        have HWS := Lib.hid hWs
        clear hI hi hWs S8 GV hl
        have HB2 := Lib.hid (HBB.out (by have := HLI.out; omega))
        generalize hzb : x.b + (i : Int) = zb at *
        have q3 : IntKind.i64.wrap (x.b + (i : Int)) = zb := by rw [← hzb]; exact IntWalk.i64_in _ (by have := HB2.out; have := HM16.out; have := HLI.out; omega)
        clear hzb
        generalize hfb : (fun j => extF n g (128 * i + j)) = fb at *
        have HFB := Lib.hid hfb
        clear hfb
        gi_wp2_with (first
          | (refine wpListIn_round (by rintro ⟨_, _, h⟩; exact h) _ _ _ rfl ?_
             go_wp2_with (first
               | (with_reducible show wpList _ _ _ (⟨some 11, Op.alloc 56, _, _, _, _⟩ :: _) _ _
                  obtain ⟨J8, hJ8⟩ : ∃ J, W.heap.size = J := ⟨_, rfl⟩
                  refine wpList_boxA_new rowSec rfl rfl J8 hJ8 ?_
                  intro v1 x1 l1 s1
                  have S1 := Lib.hid (show LwB W [bxO J8 56 (cellsOf .u8 (mk 128 zeroK))] v1 from (LwB.none W).add l1 x1 (Nat.le_of_eq hJ8))
                  clear x1 l1 s1 hJ8)
               | (with_reducible show wpList _ _ _ (⟨_, Op.store 56 (.tmp 11) _, _, _, _, none⟩ :: _) _ _
                  refine wpList_boxA_put rowSec rfl _ _ rfl rfl J8 (cellsOf .u8 (mk 128 fb)) (cellsOf .u8 (mk 128 zeroK)) (sec_size _) (sec_one _) (sec_size _) rfl rfl (S1.out.bx (i := 0) rfl) ?_
                  intro v2 x2 k2' s2
                  have S2 := Lib.hid (show LwB W [bxO J8 56 (cellsOf .u8 (mk 128 fb))] v2 from S1.out.put 0 rfl x2 k2')
                  clear x2 k2' s2 S1))))
        refine ⟨rec_low S2.out.low HWS.out, fun V hVs hVk hVS => ?_⟩
        have HV := Lib.hid ((HI.out.mono HT.out S2.out.low).save HT.out W8.out hVS)
        have X8 := Lib.hid (show BoxA V J8 56 (cellsOf .u8 (mk 128 fb)) from (S2.out.bx (i := 0) rfl).keep (hVk J8 (by have h2 := (S2.out.box (i := 0) rfl).2; simp only [bxO] at h2; have := HWS.out; omega)))
        have HV2 := Lib.hid (show w8.heap.size + 2 ≤ V.heap.size from by have := HWS.out; have := S2.out.low.size; omega)
        have e0 : V.cell? ⟨KB, 0, none⟩ = some (.int .i64 (i : Int)) := (HV.out.b.bx (i := 0) rfl).cell 0
        have e1 : V.cell? ⟨MB, 0, none⟩ = some (.int .i64 (M : Int)) := (HV.out.b.bx (i := 1) rfl).cell 0
        obtain ⟨c0, c1, c2, c3, c4, c10⟩ := boxCm (HV.out.b.bx (i := 6) rfl)
        clear hVs hVk hVS HI HWS S2
        have q1 : IntKind.i64.wrap ((i : Int) + 1) = (i : Int) + 1 := IntWalk.i64_in _ (by have := HLI.out; have := HM16.out; omega)
        have M1 := Lib.hid (show IntKind.i64.wrap (128 * (i : Int)) = 128 * (i : Int) from IntWalk.i64_in _ (by have := HLI.out; have := HM16.out; omega))
        have M2 := Lib.hid (show IntKind.i64.wrap (128 * (i : Int) + 128) = 128 * (i : Int) + 128 from IntWalk.i64_in _ (by have := HLI.out; have := HM16.out; omega))
        have d1 : decide ((M : Int) ≤ (i : Int)) = false := by have := HLI.out; simp; omega
        have d2 : decide (M ≤ i) = false := by have := HLI.out; simp; omega
        by_cases hk2 : x.k = 2
        · by_cases hbr : i + 1 = mo
          · have k2 : (x.k == 2) = true := by simp [hk2]
            have d5 : ((i : Int) + 1 == (mo : Int)) = true := by simp; omega
            have HN := Lib.hid (show 128 * i + 128 ≤ n by have := HBB.out (by have := HLI.out; omega); have := this.2.2.1 hk2; have := HLI.out; omega)
            have HE := Lib.hid (show mk 128 fb = mk 128 (fun j => g (128 * i + j)) by rw [← HFB.out]; exact mk_ext fun j hj => by have := HN.out; unfold extF; rw [if_pos (by omega)])
            have HBK := Lib.hid (show i + 1 = mo from hbr)
            clear hk2 hbr
            gi_wp2_with (first
              | (with_reducible show Code.wpIn _ _ _ (Code.region _ _ true) _ _ _
                 refine round_sched [(0, true), (1, true), (2, true), (3, true), (4, true), (5, true), (6, true), (7, true), (8, true), (9, false)] (fun V => BoxA V w.heap.size cmT (cmA q n c x) ∧ BoxA V KB 3 #[.int .i64 (i : Int)]) (by kernel_rfl) (by kernel_rfl) (by kernel_rfl) (by rintro ⟨_, _, h⟩; exact h) ⟨V4.out.b.bx (i := 6) rfl, V4.out.b.bx (i := 0) rfl⟩ ?_
                 refine walk_float rfl rfl (fun K hK => ?_)
                 refine gives_sec_row _ rfl J9 rfl ?_
                 go_simp
                 refine hK _ ?_
                 clear hK K
                 refine walk_float rfl rfl (fun K hK => ?_)
                 refine gives_cmfield4 _ rfl w.heap.size rfl ?_
                 go_simp
                 refine hK _ ?_
                 clear hK K
                 refine walk_float rfl rfl (fun K hK => ?_)
                 refine gives_cell 22 _ rfl ⟨w.heap.size, 4, none⟩ (.slice q n c) rfl box_bytes (fun V hV => (boxCm hV.1).2.2.2.2.1) ?_
                 go_simp
                 refine hK _ ?_
                 clear hK K
                 refine walk_float rfl rfl (fun K hK => ?_)
                 refine gives_cell 3 _ rfl ⟨KB, 0, none⟩ (.int .i64 (i : Int)) rfl box_int (fun V hV => hV.2.cell 0) ?_
                 go_simp
                 refine hK _ ?_
                 clear hK K
                 refine walk_float rfl rfl (fun K hK => ?_)
                 refine gives_mul128 _ _ rfl 128 (i : Int) (128 * (i : Int)) rfl rfl M1.out ?_
                 go_simp
                 refine hK _ ?_
                 clear hK K
                 refine walk_float rfl rfl (fun K hK => ?_)
                 refine gives_cell 3 _ rfl ⟨KB, 0, none⟩ (.int .i64 (i : Int)) rfl box_int (fun V hV => hV.2.cell 0) ?_
                 go_simp
                 refine hK _ ?_
                 clear hK K
                 refine walk_float rfl rfl (fun K hK => ?_)
                 refine gives_mul128 _ _ rfl 128 (i : Int) (128 * (i : Int)) rfl rfl M1.out ?_
                 go_simp
                 refine hK _ ?_
                 clear hK K
                 refine walk_float rfl rfl (fun K hK => ?_)
                 refine gives_add128 _ _ rfl (128 * (i : Int)) 128 (128 * (i : Int) + 128) rfl rfl M2.out ?_
                 go_simp
                 refine hK _ ?_
                 clear hK K
                 refine walk_float rfl rfl (fun K hK => ?_)
                 refine gives_cut128 _ _ _ rfl q n c i rfl rfl rfl HN.out HNC.out ?_
                 intro p9 hp9
                 have HP9 := Lib.hid hp9
                 clear hp9
                 go_simp
                 refine hK _ ?_
                 clear hK K
                 refine walk_done rfl rfl (fun K hK => ?_)
                 refine done_sec_copy _ _ rfl J9 zeroK (fun j => g (128 * i + j)) p9 _ rfl rfl (S4.out.drew.bx (i := 0) rfl) (HP9.out _ _ (HQ.out _ V4.out.b.low.drew)) ?_
                 intro vv v5 x5 k5 s5
                 have S5 := Lib.hid (show LwB V [bxO J9 56 (cellsOf .u8 (mk 128 (fun j => g (128 * i + j))))] v5 from S4.out.drew.put 0 rfl x5 k5)
                 have V5 := Lib.hid (HV.out.mono HT.out S5.out.low)
                 clear x5 k5 s5 S4 V4 c0 c1 c2 c3 c4 c10
                 refine ⟨⟨V5.out.b.bx (i := 6) rfl, V5.out.b.bx (i := 0) rfl⟩, ?_⟩
                 go_simp
                 refine hK _ _ ?_
                 clear hK K
                 refine walk_nil ?_)
              | (refine wpListIn_round (by rintro ⟨_, _, h⟩; exact h) _ _ _ rfl ?_
                 go_wp2_with (first
                   | (with_reducible show wpList _ _ _ (⟨_, Op.build 56 _, _, _, _, _⟩ :: _) _ _
                      refine wpList_sec_build0 rfl rfl ?_)
                   | (with_reducible show wpList _ _ _ (⟨some 12, Op.alloc 56, _, _, _, _⟩ :: _) _ _
                      obtain ⟨J9, hJ9⟩ : ∃ J, V.heap.size = J := ⟨_, rfl⟩
                      refine wpList_boxA_new rowSec rfl rfl J9 hJ9 ?_
                      intro v3 x3 l3 s3
                      have S3 := Lib.hid (show LwB V [bxO J9 56 (cellsOf .u8 (mk 128 zeroK))] v3 from (LwB.none V).add l3 x3 (Nat.le_of_eq hJ9))
                      clear x3 l3 s3 hJ9 e0 e1 c0 c1 c2 c3 c4 c10)
                   | (with_reducible show wpList _ _ _ (⟨_, Op.store 56 (.tmp 12) _, _, _, _, none⟩ :: _) _ _
                      refine wpList_boxA_put rowSec rfl _ _ rfl rfl J9 (cellsOf .u8 (mk 128 zeroK)) (cellsOf .u8 (mk 128 zeroK)) (sec_size _) (sec_one _) (sec_size _) rfl rfl (S3.out.bx (i := 0) rfl) ?_
                      intro v4 x4 k4 s4
                      have S4 := Lib.hid (show LwB V [bxO J9 56 (cellsOf .u8 (mk 128 zeroK))] v4 from S3.out.put 0 rfl x4 k4)
                      have V4 := Lib.hid (HV.out.mono HT.out S4.out.low)
                      obtain ⟨c0, c1, c2, c3, c4, c10⟩ := boxCm (V4.out.b.bx (i := 6) rfl)
                      clear x4 k4 s4 S3)
                   | (with_reducible show wpList _ _ _ (⟨some 84, Op.load 56 _, _, _, _, _⟩ :: _) _ _
                      refine wpList_boxA_loadw rowSec _ rfl rfl J8 (cellsOf .u8 (mk 128 fb)) (sec_size _) rfl (X8.out.keep (S5.out.low.block _ X8.out.lt)) ?_)
                   | (with_reducible show wpList _ _ _ (⟨some 85, Op.load 56 _, _, _, _, _⟩ :: _) _ _
                      refine wpList_boxA_loadw rowSec _ rfl rfl J9 (cellsOf .u8 (mk 128 (fun j => g (128 * i + j)))) (sec_size _) rfl (S5.out.bx (i := 0) rfl) ?_)
                   | (with_reducible show wpList _ _ _ (⟨some 86, _, _, _, _, _⟩ :: _) _ _
                      refine wpList_sec_neq rfl _ _ rfl fb (fun j => g (128 * i + j)) rfl rfl HE.out ?_
                      have e0 : v5.cell? ⟨KB, 0, none⟩ = some (.int .i64 (i : Int)) := (V5.out.b.bx (i := 0) rfl).cell 0)
                   | (with_reducible show wpList _ _ _ (⟨_, Op.store 3 (.tmp 9) _, _, _, _, none⟩ :: _) _ _
                      refine wpList_int_put rfl _ _ rfl rfl KB (i : Int) ((i : Int) + 1) rfl rfl (V5.out.b.bx (i := 0) rfl) ?_
                      intro v6 x6 k6 s6
                      have V6 := Lib.hid (show LoS w w8 (TBl B8 B7 p8) [bxO KB 3 #[.int .i64 ((i : Int) + 1)], bxO MB 3 #[.int .i64 ((M : Nat) : Int)], mkO D, bxO TB 3 #[.int .i64 ((3 : Nat) : Int)], bxO J2 4 #[.bool false], bxO J1 3 #[.int .i64 (mo : Int)], bxO w.heap.size cmT (cmA q n c x)] v6 from V5.out.put HT.out 0 rfl HTO.out x6 k6 s6)
                      have R6 := Lib.hid ((rec_low (w5 := w8) S5.out.low HV2.out).trans (rec_put (w5 := w8) k6 s6 (V5.out.top (i := 0) rfl) (Nat.le_trans HV2.out S5.out.low.size)))
                      have e6 : v6.cell? ⟨KB, 0, none⟩ = some (.int .i64 ((i : Int) + 1)) := (V6.out.b.bx (i := 0) rfl).cell 0
                      have e7 : v6.cell? ⟨J1, 0, none⟩ = some (.int .i64 (mo : Int)) := (V6.out.b.bx (i := 5) rfl).cell 0
                      clear x6 k6 s6 V5 S5 e0))))
            have e8 : (i : Int) + 1 = (mo : Int) := by have := HBK.out; omega
            exact ⟨R6.out, rfl, by have h := V6.out; rw [e8] at h; exact h, by have := HBK.out; have := HLI.out; omega⟩
          · have k2 : (x.k == 2) = true := by simp [hk2]
            have d5 : ((i : Int) + 1 == (mo : Int)) = false := beq_eq_false_iff_ne.2 (by omega)
            have HN := Lib.hid (show 128 * i + 128 ≤ n by have := HBB.out (by have := HLI.out; omega); have := this.2.2.1 hk2; have := HLI.out; omega)
            have HE := Lib.hid (show mk 128 fb = mk 128 (fun j => g (128 * i + j)) by rw [← HFB.out]; exact mk_ext fun j hj => by have := HN.out; unfold extF; rw [if_pos (by omega)])
            have HBK := Lib.hid (show i + 1 < mo by have := HMI.out; omega)
            clear hk2 hbr
            gi_wp2_with (first
              | (with_reducible show Code.wpIn _ _ _ (Code.region _ _ true) _ _ _
                 refine round_sched [(0, true), (1, true), (2, true), (3, true), (4, true), (5, true), (6, true), (7, true), (8, true), (9, false)] (fun V => BoxA V w.heap.size cmT (cmA q n c x) ∧ BoxA V KB 3 #[.int .i64 (i : Int)]) (by kernel_rfl) (by kernel_rfl) (by kernel_rfl) (by rintro ⟨_, _, h⟩; exact h) ⟨V4.out.b.bx (i := 6) rfl, V4.out.b.bx (i := 0) rfl⟩ ?_
                 refine walk_float rfl rfl (fun K hK => ?_)
                 refine gives_sec_row _ rfl J9 rfl ?_
                 go_simp
                 refine hK _ ?_
                 clear hK K
                 refine walk_float rfl rfl (fun K hK => ?_)
                 refine gives_cmfield4 _ rfl w.heap.size rfl ?_
                 go_simp
                 refine hK _ ?_
                 clear hK K
                 refine walk_float rfl rfl (fun K hK => ?_)
                 refine gives_cell 22 _ rfl ⟨w.heap.size, 4, none⟩ (.slice q n c) rfl box_bytes (fun V hV => (boxCm hV.1).2.2.2.2.1) ?_
                 go_simp
                 refine hK _ ?_
                 clear hK K
                 refine walk_float rfl rfl (fun K hK => ?_)
                 refine gives_cell 3 _ rfl ⟨KB, 0, none⟩ (.int .i64 (i : Int)) rfl box_int (fun V hV => hV.2.cell 0) ?_
                 go_simp
                 refine hK _ ?_
                 clear hK K
                 refine walk_float rfl rfl (fun K hK => ?_)
                 refine gives_mul128 _ _ rfl 128 (i : Int) (128 * (i : Int)) rfl rfl M1.out ?_
                 go_simp
                 refine hK _ ?_
                 clear hK K
                 refine walk_float rfl rfl (fun K hK => ?_)
                 refine gives_cell 3 _ rfl ⟨KB, 0, none⟩ (.int .i64 (i : Int)) rfl box_int (fun V hV => hV.2.cell 0) ?_
                 go_simp
                 refine hK _ ?_
                 clear hK K
                 refine walk_float rfl rfl (fun K hK => ?_)
                 refine gives_mul128 _ _ rfl 128 (i : Int) (128 * (i : Int)) rfl rfl M1.out ?_
                 go_simp
                 refine hK _ ?_
                 clear hK K
                 refine walk_float rfl rfl (fun K hK => ?_)
                 refine gives_add128 _ _ rfl (128 * (i : Int)) 128 (128 * (i : Int) + 128) rfl rfl M2.out ?_
                 go_simp
                 refine hK _ ?_
                 clear hK K
                 refine walk_float rfl rfl (fun K hK => ?_)
                 refine gives_cut128 _ _ _ rfl q n c i rfl rfl rfl HN.out HNC.out ?_
                 intro p9 hp9
                 have HP9 := Lib.hid hp9
                 clear hp9
                 go_simp
                 refine hK _ ?_
                 clear hK K
                 refine walk_done rfl rfl (fun K hK => ?_)
                 refine done_sec_copy _ _ rfl J9 zeroK (fun j => g (128 * i + j)) p9 _ rfl rfl (S4.out.drew.bx (i := 0) rfl) (HP9.out _ _ (HQ.out _ V4.out.b.low.drew)) ?_
                 intro vv v5 x5 k5 s5
                 have S5 := Lib.hid (show LwB V [bxO J9 56 (cellsOf .u8 (mk 128 (fun j => g (128 * i + j))))] v5 from S4.out.drew.put 0 rfl x5 k5)
                 have V5 := Lib.hid (HV.out.mono HT.out S5.out.low)
                 clear x5 k5 s5 S4 V4 c0 c1 c2 c3 c4 c10
                 refine ⟨⟨V5.out.b.bx (i := 6) rfl, V5.out.b.bx (i := 0) rfl⟩, ?_⟩
                 go_simp
                 refine hK _ _ ?_
                 clear hK K
                 refine walk_nil ?_)
              | (refine wpListIn_round (by rintro ⟨_, _, h⟩; exact h) _ _ _ rfl ?_
                 go_wp2_with (first
                   | (with_reducible show wpList _ _ _ (⟨_, Op.build 56 _, _, _, _, _⟩ :: _) _ _
                      refine wpList_sec_build0 rfl rfl ?_)
                   | (with_reducible show wpList _ _ _ (⟨some 12, Op.alloc 56, _, _, _, _⟩ :: _) _ _
                      obtain ⟨J9, hJ9⟩ : ∃ J, V.heap.size = J := ⟨_, rfl⟩
                      refine wpList_boxA_new rowSec rfl rfl J9 hJ9 ?_
                      intro v3 x3 l3 s3
                      have S3 := Lib.hid (show LwB V [bxO J9 56 (cellsOf .u8 (mk 128 zeroK))] v3 from (LwB.none V).add l3 x3 (Nat.le_of_eq hJ9))
                      clear x3 l3 s3 hJ9 e0 e1 c0 c1 c2 c3 c4 c10)
                   | (with_reducible show wpList _ _ _ (⟨_, Op.store 56 (.tmp 12) _, _, _, _, none⟩ :: _) _ _
                      refine wpList_boxA_put rowSec rfl _ _ rfl rfl J9 (cellsOf .u8 (mk 128 zeroK)) (cellsOf .u8 (mk 128 zeroK)) (sec_size _) (sec_one _) (sec_size _) rfl rfl (S3.out.bx (i := 0) rfl) ?_
                      intro v4 x4 k4 s4
                      have S4 := Lib.hid (show LwB V [bxO J9 56 (cellsOf .u8 (mk 128 zeroK))] v4 from S3.out.put 0 rfl x4 k4)
                      have V4 := Lib.hid (HV.out.mono HT.out S4.out.low)
                      obtain ⟨c0, c1, c2, c3, c4, c10⟩ := boxCm (V4.out.b.bx (i := 6) rfl)
                      clear x4 k4 s4 S3)
                   | (with_reducible show wpList _ _ _ (⟨some 84, Op.load 56 _, _, _, _, _⟩ :: _) _ _
                      refine wpList_boxA_loadw rowSec _ rfl rfl J8 (cellsOf .u8 (mk 128 fb)) (sec_size _) rfl (X8.out.keep (S5.out.low.block _ X8.out.lt)) ?_)
                   | (with_reducible show wpList _ _ _ (⟨some 85, Op.load 56 _, _, _, _, _⟩ :: _) _ _
                      refine wpList_boxA_loadw rowSec _ rfl rfl J9 (cellsOf .u8 (mk 128 (fun j => g (128 * i + j)))) (sec_size _) rfl (S5.out.bx (i := 0) rfl) ?_)
                   | (with_reducible show wpList _ _ _ (⟨some 86, _, _, _, _, _⟩ :: _) _ _
                      refine wpList_sec_neq rfl _ _ rfl fb (fun j => g (128 * i + j)) rfl rfl HE.out ?_
                      have e0 : v5.cell? ⟨KB, 0, none⟩ = some (.int .i64 (i : Int)) := (V5.out.b.bx (i := 0) rfl).cell 0)
                   | (with_reducible show wpList _ _ _ (⟨_, Op.store 3 (.tmp 9) _, _, _, _, none⟩ :: _) _ _
                      refine wpList_int_put rfl _ _ rfl rfl KB (i : Int) ((i : Int) + 1) rfl rfl (V5.out.b.bx (i := 0) rfl) ?_
                      intro v6 x6 k6 s6
                      have V6 := Lib.hid (show LoS w w8 (TBl B8 B7 p8) [bxO KB 3 #[.int .i64 ((i : Int) + 1)], bxO MB 3 #[.int .i64 ((M : Nat) : Int)], mkO D, bxO TB 3 #[.int .i64 ((3 : Nat) : Int)], bxO J2 4 #[.bool false], bxO J1 3 #[.int .i64 (mo : Int)], bxO w.heap.size cmT (cmA q n c x)] v6 from V5.out.put HT.out 0 rfl HTO.out x6 k6 s6)
                      have R6 := Lib.hid ((rec_low (w5 := w8) S5.out.low HV2.out).trans (rec_put (w5 := w8) k6 s6 (V5.out.top (i := 0) rfl) (Nat.le_trans HV2.out S5.out.low.size)))
                      have e6 : v6.cell? ⟨KB, 0, none⟩ = some (.int .i64 ((i : Int) + 1)) := (V6.out.b.bx (i := 0) rfl).cell 0
                      have e7 : v6.cell? ⟨J1, 0, none⟩ = some (.int .i64 (mo : Int)) := (V6.out.b.bx (i := 5) rfl).cell 0
                      clear x6 k6 s6 V5 S5 e0))))
            exact ⟨R6.out, V6.out, HBK.out, HLI.out⟩
        · by_cases hbr : i + 1 = mo
          · have k2 : (x.k == 2) = false := by simp [hk2]
            have d5 : ((i : Int) + 1 == (mo : Int)) = true := by simp; omega
            have HE := Lib.hid (show mk 128 fb = mk 128 zeroK by rw [← HFB.out]; exact mk_ext fun j hj => by have := (HBB.out (by have := HLI.out; omega)).2.2.2 hk2; unfold extF zeroK; rw [if_neg (by omega)])
            have HBK := Lib.hid (show i + 1 = mo from hbr)
            clear hk2 hbr
            gi_wp2_with (first
              | (refine wpListIn_round (by rintro ⟨_, _, h⟩; exact h) _ _ _ rfl ?_
                 go_wp2_with (first
                   | (with_reducible show wpList _ _ _ (⟨_, Op.build 56 _, _, _, _, _⟩ :: _) _ _
                      refine wpList_sec_build0 rfl rfl ?_)
                   | (with_reducible show wpList _ _ _ (⟨some 12, Op.alloc 56, _, _, _, _⟩ :: _) _ _
                      obtain ⟨J9, hJ9⟩ : ∃ J, V.heap.size = J := ⟨_, rfl⟩
                      refine wpList_boxA_new rowSec rfl rfl J9 hJ9 ?_
                      intro v3 x3 l3 s3
                      have S3 := Lib.hid (show LwB V [bxO J9 56 (cellsOf .u8 (mk 128 zeroK))] v3 from (LwB.none V).add l3 x3 (Nat.le_of_eq hJ9))
                      clear x3 l3 s3 hJ9 e0 e1 c0 c1 c2 c3 c4 c10)
                   | (with_reducible show wpList _ _ _ (⟨_, Op.store 56 (.tmp 12) _, _, _, _, none⟩ :: _) _ _
                      refine wpList_boxA_put rowSec rfl _ _ rfl rfl J9 (cellsOf .u8 (mk 128 zeroK)) (cellsOf .u8 (mk 128 zeroK)) (sec_size _) (sec_one _) (sec_size _) rfl rfl (S3.out.bx (i := 0) rfl) ?_
                      intro v4 x4 k4 s4
                      have S4 := Lib.hid (show LwB V [bxO J9 56 (cellsOf .u8 (mk 128 zeroK))] v4 from S3.out.put 0 rfl x4 k4)
                      have V4 := Lib.hid (HV.out.mono HT.out S4.out.low)
                      obtain ⟨c0, c1, c2, c3, c4, c10⟩ := boxCm (V4.out.b.bx (i := 6) rfl)
                      clear x4 k4 s4 S3)
                   | (with_reducible show wpList _ _ _ (⟨some 84, Op.load 56 _, _, _, _, _⟩ :: _) _ _
                      refine wpList_boxA_loadw rowSec _ rfl rfl J8 (cellsOf .u8 (mk 128 fb)) (sec_size _) rfl (X8.out.keep (S4.out.low.block _ X8.out.lt)) ?_)
                   | (with_reducible show wpList _ _ _ (⟨some 85, Op.load 56 _, _, _, _, _⟩ :: _) _ _
                      refine wpList_boxA_loadw rowSec _ rfl rfl J9 (cellsOf .u8 (mk 128 zeroK)) (sec_size _) rfl (S4.out.bx (i := 0) rfl) ?_)
                   | (with_reducible show wpList _ _ _ (⟨some 86, _, _, _, _, _⟩ :: _) _ _
                      refine wpList_sec_neq rfl _ _ rfl fb zeroK rfl rfl HE.out ?_
                      have e0 : v4.cell? ⟨KB, 0, none⟩ = some (.int .i64 (i : Int)) := (V4.out.b.bx (i := 0) rfl).cell 0)
                   | (with_reducible show wpList _ _ _ (⟨_, Op.store 3 (.tmp 9) _, _, _, _, none⟩ :: _) _ _
                      refine wpList_int_put rfl _ _ rfl rfl KB (i : Int) ((i : Int) + 1) rfl rfl (V4.out.b.bx (i := 0) rfl) ?_
                      intro v6 x6 k6 s6
                      have V6 := Lib.hid (show LoS w w8 (TBl B8 B7 p8) [bxO KB 3 #[.int .i64 ((i : Int) + 1)], bxO MB 3 #[.int .i64 ((M : Nat) : Int)], mkO D, bxO TB 3 #[.int .i64 ((3 : Nat) : Int)], bxO J2 4 #[.bool false], bxO J1 3 #[.int .i64 (mo : Int)], bxO w.heap.size cmT (cmA q n c x)] v6 from V4.out.put HT.out 0 rfl HTO.out x6 k6 s6)
                      have R6 := Lib.hid ((rec_low (w5 := w8) S4.out.low HV2.out).trans (rec_put (w5 := w8) k6 s6 (V4.out.top (i := 0) rfl) (Nat.le_trans HV2.out S4.out.low.size)))
                      have e6 : v6.cell? ⟨KB, 0, none⟩ = some (.int .i64 ((i : Int) + 1)) := (V6.out.b.bx (i := 0) rfl).cell 0
                      have e7 : v6.cell? ⟨J1, 0, none⟩ = some (.int .i64 (mo : Int)) := (V6.out.b.bx (i := 5) rfl).cell 0
                      clear x6 k6 s6 V4 S4 e0))))
            have e8 : (i : Int) + 1 = (mo : Int) := by have := HBK.out; omega
            exact ⟨R6.out, rfl, by have h := V6.out; rw [e8] at h; exact h, by have := HBK.out; have := HLI.out; omega⟩
          · have k2 : (x.k == 2) = false := by simp [hk2]
            have d5 : ((i : Int) + 1 == (mo : Int)) = false := beq_eq_false_iff_ne.2 (by omega)
            have HE := Lib.hid (show mk 128 fb = mk 128 zeroK by rw [← HFB.out]; exact mk_ext fun j hj => by have := (HBB.out (by have := HLI.out; omega)).2.2.2 hk2; unfold extF zeroK; rw [if_neg (by omega)])
            have HBK := Lib.hid (show i + 1 < mo by have := HMI.out; omega)
            clear hk2 hbr
            gi_wp2_with (first
              | (refine wpListIn_round (by rintro ⟨_, _, h⟩; exact h) _ _ _ rfl ?_
                 go_wp2_with (first
                   | (with_reducible show wpList _ _ _ (⟨_, Op.build 56 _, _, _, _, _⟩ :: _) _ _
                      refine wpList_sec_build0 rfl rfl ?_)
                   | (with_reducible show wpList _ _ _ (⟨some 12, Op.alloc 56, _, _, _, _⟩ :: _) _ _
                      obtain ⟨J9, hJ9⟩ : ∃ J, V.heap.size = J := ⟨_, rfl⟩
                      refine wpList_boxA_new rowSec rfl rfl J9 hJ9 ?_
                      intro v3 x3 l3 s3
                      have S3 := Lib.hid (show LwB V [bxO J9 56 (cellsOf .u8 (mk 128 zeroK))] v3 from (LwB.none V).add l3 x3 (Nat.le_of_eq hJ9))
                      clear x3 l3 s3 hJ9 e0 e1 c0 c1 c2 c3 c4 c10)
                   | (with_reducible show wpList _ _ _ (⟨_, Op.store 56 (.tmp 12) _, _, _, _, none⟩ :: _) _ _
                      refine wpList_boxA_put rowSec rfl _ _ rfl rfl J9 (cellsOf .u8 (mk 128 zeroK)) (cellsOf .u8 (mk 128 zeroK)) (sec_size _) (sec_one _) (sec_size _) rfl rfl (S3.out.bx (i := 0) rfl) ?_
                      intro v4 x4 k4 s4
                      have S4 := Lib.hid (show LwB V [bxO J9 56 (cellsOf .u8 (mk 128 zeroK))] v4 from S3.out.put 0 rfl x4 k4)
                      have V4 := Lib.hid (HV.out.mono HT.out S4.out.low)
                      obtain ⟨c0, c1, c2, c3, c4, c10⟩ := boxCm (V4.out.b.bx (i := 6) rfl)
                      clear x4 k4 s4 S3)
                   | (with_reducible show wpList _ _ _ (⟨some 84, Op.load 56 _, _, _, _, _⟩ :: _) _ _
                      refine wpList_boxA_loadw rowSec _ rfl rfl J8 (cellsOf .u8 (mk 128 fb)) (sec_size _) rfl (X8.out.keep (S4.out.low.block _ X8.out.lt)) ?_)
                   | (with_reducible show wpList _ _ _ (⟨some 85, Op.load 56 _, _, _, _, _⟩ :: _) _ _
                      refine wpList_boxA_loadw rowSec _ rfl rfl J9 (cellsOf .u8 (mk 128 zeroK)) (sec_size _) rfl (S4.out.bx (i := 0) rfl) ?_)
                   | (with_reducible show wpList _ _ _ (⟨some 86, _, _, _, _, _⟩ :: _) _ _
                      refine wpList_sec_neq rfl _ _ rfl fb zeroK rfl rfl HE.out ?_
                      have e0 : v4.cell? ⟨KB, 0, none⟩ = some (.int .i64 (i : Int)) := (V4.out.b.bx (i := 0) rfl).cell 0)
                   | (with_reducible show wpList _ _ _ (⟨_, Op.store 3 (.tmp 9) _, _, _, _, none⟩ :: _) _ _
                      refine wpList_int_put rfl _ _ rfl rfl KB (i : Int) ((i : Int) + 1) rfl rfl (V4.out.b.bx (i := 0) rfl) ?_
                      intro v6 x6 k6 s6
                      have V6 := Lib.hid (show LoS w w8 (TBl B8 B7 p8) [bxO KB 3 #[.int .i64 ((i : Int) + 1)], bxO MB 3 #[.int .i64 ((M : Nat) : Int)], mkO D, bxO TB 3 #[.int .i64 ((3 : Nat) : Int)], bxO J2 4 #[.bool false], bxO J1 3 #[.int .i64 (mo : Int)], bxO w.heap.size cmT (cmA q n c x)] v6 from V4.out.put HT.out 0 rfl HTO.out x6 k6 s6)
                      have R6 := Lib.hid ((rec_low (w5 := w8) S4.out.low HV2.out).trans (rec_put (w5 := w8) k6 s6 (V4.out.top (i := 0) rfl) (Nat.le_trans HV2.out S4.out.low.size)))
                      have e6 : v6.cell? ⟨KB, 0, none⟩ = some (.int .i64 ((i : Int) + 1)) := (V6.out.b.bx (i := 0) rfl).cell 0
                      have e7 : v6.cell? ⟨J1, 0, none⟩ = some (.int .i64 (mo : Int)) := (V6.out.b.bx (i := 5) rfl).cell 0
                      clear x6 k6 s6 V4 S4 e0))))
            exact ⟨R6.out, V6.out, HBK.out, HLI.out⟩
      case done2 =>
        intro D2 W hD2 hI hd2
        obtain ⟨k, hk, hI⟩ : ∃ k : Nat, k = min mo M ∧ LoS w w8 (TBl B8 B7 p8) [bxO KB 3 #[.int .i64 ((k : Nat) : Int)], bxO MB 3 #[.int .i64 ((M : Nat) : Int)], mkO D, bxO TB 3 #[.int .i64 ((3 : Nat) : Int)], bxO J2 4 #[.bool false], bxO J1 3 #[.int .i64 (mo : Int)], bxO w.heap.size cmT (cmA q n c x)] W := by
          rcases hI with ⟨hI, h1, _⟩ | ⟨hI, h1⟩
          · exact ⟨M, by omega, hI⟩
          · exact ⟨mo, by omega, hI⟩
        have P2 := Lib.hid (hI.mark W8.out hD2 hd2)
        have g1 : W.cell? ⟨TB, 0, none⟩ = some (.int .i64 ((3 : Nat) : Int)) := (hI.b.bx (i := 3) rfl).cell 0
        have g2 : W.cell? ⟨KB, 0, none⟩ = some (.int .i64 (k : Int)) := (hI.b.bx (i := 0) rfl).cell 0
        have g3 : W.cell? ⟨MB, 0, none⟩ = some (.int .i64 (M : Int)) := (hI.b.bx (i := 1) rfl).cell 0
        have g4 : W.cell? ⟨J1, 0, none⟩ = some (.int .i64 (mo : Int)) := (hI.b.bx (i := 5) rfl).cell 0
        have m1 : min (mo : Int) (M : Int) = (k : Int) := by omega
        clear hI hk hD2 hd2 S8 GV HT HTO HBB HM16
        go_wp2_with (first
          | (with_reducible show wpList _ _ _ (⟨_, Op.store 4 _ _, _, _, _, none⟩ :: _) _ _
             refine wpList_bool_put rfl _ _ rfl rfl J2 true false rfl (by first | rfl | (simp; done)) (P2.out.bx (i := 5) rfl) ?_
             intro Z xz kz sz
             have PZ := Lib.hid (show LwB w (mkO D2 :: [bxO KB 3 #[.int .i64 (k : Int)], bxO MB 3 #[.int .i64 (M : Int)], mkO D, bxO TB 3 #[.int .i64 ((3 : Nat) : Int)], bxO J2 4 #[.bool true], bxO J1 3 #[.int .i64 (mo : Int)], bxO w.heap.size cmT (cmA q n c x)]) Z from P2.out.put 5 rfl xz kz)
             clear xz kz sz P2 g1 g2 g3 g4))
        have hd2 := PZ.out.mark (i := 0) rfl
        have hd1 := PZ.out.mark (i := 3) rfl
        have hr : Z.heap[J2]? = some (.cells #[.bool true] 4 (0, 0)) := PZ.out.bx (i := 5) rfl
        have hne : D ≠ D2 := PZ.out.ne (i := 3) (j := 0) rfl rfl (by omega)
        have hb2 : w.heap.size ≤ D2 := (PZ.out.box (i := 0) rfl).2
        have hb1 : w.heap.size ≤ D := (PZ.out.box (i := 3) rfl).2
        refine ⟨by simp, .inl ⟨_, _, rfl, run_takeDeferred hd2, ?_⟩⟩
        have hd3 : (Z.putObj D2 (.deferred none)).heap[D]? = some (.deferred (some [])) := (World.putObj_heap_other hne).trans hd1
        refine ⟨by simp, .inl ⟨_, _, rfl, run_takeDeferred hd3, ?_⟩⟩
        have r1 := cells_turn (o' := .deferred none) hr hd2 rfl
        have r2 := cells_turn (o' := .deferred none) r1 hd3 rfl
        have hc := BoxA.cell (T := 4) (A := #[.bool true]) r2 0
        simp only [List.getElem?_toArray, List.getElem?_cons_zero] at hc
        refine ⟨.bool true, ?_, rfl, below_turn _ (below_turn _ PZ.out.low hb2) hb1⟩
        simp [results, Try.f7, go_sem, hc]
    by_cases hk2 : x.k = 2
    · clear hk1
      have fc : (checkN x n == 0) = true := by simp [hch]
      have k1 : (x.k == 1) = false := by simp [hk2]
      have k2 : (x.k == 2) = true := by simp [hk2]
      have HM := Lib.hid (show x.m = ((manyC x n : Nat) : Int) ∧ manyC x n ≤ 16 by have := many_some (x := x) (n := n) (by simp [hk2]) hch; omega)
      generalize hM : manyC x n = M at *
      have HMM := Lib.hid hM
      clear hM hch hk2
      go_wp2_with (first
        | (with_reducible show wpList _ _ _ (⟨_, Op.store 3 (.tmp 3) _, _, _, _, none⟩ :: _) _ _
           refine wpList_int_put rfl _ _ rfl rfl J1 a (1 + (u : Int) % 20) rfl rfl (P9.out.bx (i := 3) rfl) ?_
           rw [MO.out]
           intro w10 x10 k10 s10
           have P10 := Lib.hid (show LwB w [mkO D, bxO TB 3 #[.int .i64 ((3 : Nat) : Int)], bxO J2 4 #[.bool false], bxO J1 3 #[.int .i64 (mo : Int)], bxO w.heap.size cmT (cmA q n c x)] w10 from P9.out.put 3 rfl x10 k10)
           clear x10 k10 s10 P9 g1 hu q1 q2)
        | (with_reducible show wpList _ _ _ (⟨some 8, Op.alloc 3, _, _, _, _⟩ :: _) _ _
           refine wpList_one_new oneInt rfl rfl _ rfl ?_
           intro w11 x11 l11 s11
           have P11 := Lib.hid (show LwB w [bxO w10.heap.size 3 #[.int .i64 0], mkO D, bxO TB 3 #[.int .i64 ((3 : Nat) : Int)], bxO J2 4 #[.bool false], bxO J1 3 #[.int .i64 (mo : Int)], bxO w.heap.size cmT (cmA q n c x)] w11 from P10.out.add l11 x11 (Nat.le_refl _))
           clear x11 l11 s11 P10
           generalize w10.heap.size = MB at *)
        | (with_reducible show wpList _ _ _ (⟨_, Op.store 3 (.tmp 8) (.const _), _, _, _, none⟩ :: _) _ _
           refine wpList_int_put rfl _ _ rfl rfl MB 0 0 rfl rfl (P11.out.bx (i := 0) rfl) ?_
           intro w12 x12 k12 s12
           have P12 := Lib.hid (show LwB w [bxO MB 3 #[.int .i64 0], mkO D, bxO TB 3 #[.int .i64 ((3 : Nat) : Int)], bxO J2 4 #[.bool false], bxO J1 3 #[.int .i64 (mo : Int)], bxO w.heap.size cmT (cmA q n c x)] w12 from P11.out.put 0 rfl x12 k12)
           clear x12 k12 s12 P11)
        | (with_reducible show wpList _ _ _ (⟨some 40, Op.load cmT _, _, _, _, _⟩ :: _) _ _
           refine wpList_boxA_loadw rowCm _ rfl rfl w.heap.size (cmA q n c x) (cmA_size _ _ _ _) rfl (P12.out.bx (i := 5) rfl) ?_)
        | (go_at_call 24
           refine refCheck_any.mono ?_; rintro e w13 ⟨rfl, l13⟩
           have P13 := Lib.hid (P12.out.mono l13)
           obtain ⟨c0, c1, c2, c3, c4, c10⟩ := boxCm (P13.out.bx (i := 5) rfl)
           clear l13 P12)
        | (with_reducible show wpList _ _ _ (⟨_, Op.store 3 (.tmp 8) (.tmp _), _, _, _, none⟩ :: _) _ _
           refine wpList_int_put rfl _ _ rfl rfl MB 0 x.m rfl rfl (P13.out.bx (i := 0) rfl) ?_
           intro w14 x14 k14 s14
           have P14 := Lib.hid (show LwB w [bxO MB 3 #[.int .i64 x.m], mkO D, bxO TB 3 #[.int .i64 ((3 : Nat) : Int)], bxO J2 4 #[.bool false], bxO J1 3 #[.int .i64 (mo : Int)], bxO w.heap.size cmT (cmA q n c x)] w14 from P13.out.put 0 rfl x14 k14)
           clear x14 k14 s14 P13 c0 c1 c2 c3 c4 c10)
        | (with_reducible show wpList _ _ _ (⟨some 9, Op.alloc 3, _, _, _, _⟩ :: _) _ _
           refine wpList_one_new oneInt rfl rfl _ rfl ?_
           intro w15 x15 l15 s15
           have P15 := Lib.hid (show LwB w [bxO w14.heap.size 3 #[.int .i64 0], bxO MB 3 #[.int .i64 x.m], mkO D, bxO TB 3 #[.int .i64 ((3 : Nat) : Int)], bxO J2 4 #[.bool false], bxO J1 3 #[.int .i64 (mo : Int)], bxO w.heap.size cmT (cmA q n c x)] w15 from P14.out.add l15 x15 (Nat.le_refl _))
           clear x15 l15 s15 P14
           generalize w14.heap.size = KB at *)
        | (with_reducible show wpList _ _ _ (⟨_, Op.store 3 (.tmp 9) _, _, _, _, none⟩ :: _) _ _
           refine wpList_int_put rfl _ _ rfl rfl KB 0 0 rfl rfl (P15.out.bx (i := 0) rfl) ?_
           intro w16 x16 k16 s16
           have P16 := Lib.hid (show LwB w [bxO KB 3 #[.int .i64 0], bxO MB 3 #[.int .i64 x.m], mkO D, bxO TB 3 #[.int .i64 ((3 : Nat) : Int)], bxO J2 4 #[.bool false], bxO J1 3 #[.int .i64 (mo : Int)], bxO w.heap.size cmT (cmA q n c x)] w16 from P15.out.put 0 rfl x16 k16)
           clear x16 k16 s16 P15)
        | (with_reducible show wpList _ _ _ (⟨some 55, Op.load cmT _, _, _, _, _⟩ :: _) _ _
           refine wpList_boxA_loadw rowCm _ rfl rfl w.heap.size (cmA q n c x) (cmA_size _ _ _ _) rfl (P16.out.bx (i := 6) rfl) ?_)
        | (go_at_call 25
           refine (Blocks_any (c := c) (HQ.out _ P16.out.low) (128 * M) (by rw [HMM.out])).mono ?_; rintro e w8 ⟨B8, B7, p8, rfl, h4, h3, hr, l4, l3, l5⟩
           have HV0 := HM.out.1
           have S8 := Lib.hid (show LoS w w8 (TBl B8 B7 p8) [bxO KB 3 #[.int .i64 0], bxO MB 3 #[.int .i64 ((M : Nat) : Int)], mkO D, bxO TB 3 #[.int .i64 ((3 : Nat) : Int)], bxO J2 4 #[.bool false], bxO J1 3 #[.int .i64 (mo : Int)], bxO w.heap.size cmT (cmA q n c x)] w8 from by
             have h := LoS.of (TBl B8 B7 p8) (P16.out.mono l5)
             rw [← HV0]; exact h)
           have HT := Lib.hid (fun k hk => (tbl_in h4 h3 hr l4 l3 k hk).1)
           have HTO := Lib.hid (show ¬ TBl B8 B7 p8 KB from fun hk => by have := (tbl_in h4 h3 hr l4 l3 KB hk).2; have := P16.out.lt (i := 0) rfl; simp only [bxO] at this; omega)
           have HM16 := Lib.hid HM.out.2
           have HBB := Lib.hid (show 0 < M → 0 ≤ x.b ∧ x.b ≤ 16 ∧ (x.k = 2 → n = 128 * M) ∧ (x.k ≠ 2 → n = 0) from fun h0 => by
             obtain ⟨ha, hb⟩ := many_pos (x := x) (n := n) (by rw [HMM.out]; exact h0)
             obtain ⟨m1, m2, m3, m4, m5, m6, m7⟩ := many_some ha hb
             rw [HMM.out] at m1
             refine ⟨m4, by omega, fun h2 => by have := m6 h2; omega, fun h2 => m7 (by simp only [Bool.or_eq_true, beq_iff_eq] at ha; omega)⟩)
           have GV := Lib.hid (blocks_gives (M := M) h4 h3 hr rfl (by have := HM.out.2; omega) (fun h0 => by have := HBB.out h0; omega))
           have W8 := Lib.hid (S8.out.b.low.size)
           clear h4 h3 hr l4 l3 l5 P16 HV0 HM HMM fc k1 k2))
      refine (wpIn_wide (n := 3)).1 ?_
      refine range_free_brk rfl (by omega) (gf := 37) (lb := #[.pointer (some ⟨B8, 0, none⟩), .pointer (some ⟨B7, 0, none⟩)]) rfl trivial (enters_of Try.func37 (by kernel_rfl) rfl)
        (fun z : Int × (Nat → Nat) => #[.int .i64 z.1, .agg (cellsOf .u8 (mk 128 z.2))]) (fun i => (x.b + (i : Int), fun j => extF n g (128 * i + j))) M (BlR w8 B8 B7 p8) (fun _ => rfl)
        (fun i V => LoS w w8 (TBl B8 B7 p8) [bxO KB 3 #[.int .i64 ((i : Nat) : Int)], bxO MB 3 #[.int .i64 ((M : Nat) : Int)], mkO D, bxO TB 3 #[.int .i64 ((3 : Nat) : Int)], bxO J2 4 #[.bool false], bxO J1 3 #[.int .i64 (mo : Int)], bxO w.heap.size cmT (cmA q n c x)] V ∧ i < mo ∧ i ≤ M) (fun V => LoS w w8 (TBl B8 B7 p8) [bxO KB 3 #[.int .i64 ((mo : Nat) : Int)], bxO MB 3 #[.int .i64 ((M : Nat) : Int)], mkO D, bxO TB 3 #[.int .i64 ((3 : Nat) : Int)], bxO J2 4 #[.bool false], bxO J1 3 #[.int .i64 (mo : Int)], bxO w.heap.size cmT (cmA q n c x)] V ∧ mo ≤ M) ?rd2 ?st2 ?stx2 ⟨S8.out, MO0.out, Nat.zero_le _⟩ GV.out ?round2 ?done2
      case rd2 => exact fun i V h => h.1.it
      case st2 => exact fun i V V' h hs => ⟨h.1.save HT.out W8.out hs, h.2⟩
      case stx2 => exact fun V V' h hs => ⟨h.1.save HT.out W8.out hs, h.2⟩
      case round2 =>
        intro l i W hl hi hWs hI
        have HI := Lib.hid hI.1
        have HMI := Lib.hid hI.2
        have HLI := Lib.hid hi
        have HWS := Lib.hid hWs
        clear hI hi hWs S8 GV hl
        have HB2 := Lib.hid (HBB.out (by have := HLI.out; omega))
        generalize hzb : x.b + (i : Int) = zb at *
        have q3 : IntKind.i64.wrap (x.b + (i : Int)) = zb := by rw [← hzb]; exact IntWalk.i64_in _ (by have := HB2.out; have := HM16.out; have := HLI.out; omega)
        clear hzb
        generalize hfb : (fun j => extF n g (128 * i + j)) = fb at *
        have HFB := Lib.hid hfb
        clear hfb
        gi_wp2_with (first
          | (refine wpListIn_round (by rintro ⟨_, _, h⟩; exact h) _ _ _ rfl ?_
             go_wp2_with (first
               | (with_reducible show wpList _ _ _ (⟨some 11, Op.alloc 56, _, _, _, _⟩ :: _) _ _
                  obtain ⟨J8, hJ8⟩ : ∃ J, W.heap.size = J := ⟨_, rfl⟩
                  refine wpList_boxA_new rowSec rfl rfl J8 hJ8 ?_
                  intro v1 x1 l1 s1
                  have S1 := Lib.hid (show LwB W [bxO J8 56 (cellsOf .u8 (mk 128 zeroK))] v1 from (LwB.none W).add l1 x1 (Nat.le_of_eq hJ8))
                  clear x1 l1 s1 hJ8)
               | (with_reducible show wpList _ _ _ (⟨_, Op.store 56 (.tmp 11) _, _, _, _, none⟩ :: _) _ _
                  refine wpList_boxA_put rowSec rfl _ _ rfl rfl J8 (cellsOf .u8 (mk 128 fb)) (cellsOf .u8 (mk 128 zeroK)) (sec_size _) (sec_one _) (sec_size _) rfl rfl (S1.out.bx (i := 0) rfl) ?_
                  intro v2 x2 k2' s2
                  have S2 := Lib.hid (show LwB W [bxO J8 56 (cellsOf .u8 (mk 128 fb))] v2 from S1.out.put 0 rfl x2 k2')
                  clear x2 k2' s2 S1))))
        refine ⟨rec_low S2.out.low HWS.out, fun V hVs hVk hVS => ?_⟩
        have HV := Lib.hid ((HI.out.mono HT.out S2.out.low).save HT.out W8.out hVS)
        have X8 := Lib.hid (show BoxA V J8 56 (cellsOf .u8 (mk 128 fb)) from (S2.out.bx (i := 0) rfl).keep (hVk J8 (by have h2 := (S2.out.box (i := 0) rfl).2; simp only [bxO] at h2; have := HWS.out; omega)))
        have HV2 := Lib.hid (show w8.heap.size + 2 ≤ V.heap.size from by have := HWS.out; have := S2.out.low.size; omega)
        have e0 : V.cell? ⟨KB, 0, none⟩ = some (.int .i64 (i : Int)) := (HV.out.b.bx (i := 0) rfl).cell 0
        have e1 : V.cell? ⟨MB, 0, none⟩ = some (.int .i64 (M : Int)) := (HV.out.b.bx (i := 1) rfl).cell 0
        obtain ⟨c0, c1, c2, c3, c4, c10⟩ := boxCm (HV.out.b.bx (i := 6) rfl)
        clear hVs hVk hVS HI HWS S2
        have q1 : IntKind.i64.wrap ((i : Int) + 1) = (i : Int) + 1 := IntWalk.i64_in _ (by have := HLI.out; have := HM16.out; omega)
        have M1 := Lib.hid (show IntKind.i64.wrap (128 * (i : Int)) = 128 * (i : Int) from IntWalk.i64_in _ (by have := HLI.out; have := HM16.out; omega))
        have M2 := Lib.hid (show IntKind.i64.wrap (128 * (i : Int) + 128) = 128 * (i : Int) + 128 from IntWalk.i64_in _ (by have := HLI.out; have := HM16.out; omega))
        have d1 : decide ((M : Int) ≤ (i : Int)) = false := by have := HLI.out; simp; omega
        have d2 : decide (M ≤ i) = false := by have := HLI.out; simp; omega
        by_cases hk2 : x.k = 2
        · by_cases hbr : i + 1 = mo
          · have k2 : (x.k == 2) = true := by simp [hk2]
            have d5 : ((i : Int) + 1 == (mo : Int)) = true := by simp; omega
            have HN := Lib.hid (show 128 * i + 128 ≤ n by have := HBB.out (by have := HLI.out; omega); have := this.2.2.1 hk2; have := HLI.out; omega)
            have HE := Lib.hid (show mk 128 fb = mk 128 (fun j => g (128 * i + j)) by rw [← HFB.out]; exact mk_ext fun j hj => by have := HN.out; unfold extF; rw [if_pos (by omega)])
            have HBK := Lib.hid (show i + 1 = mo from hbr)
            clear hk2 hbr
            gi_wp2_with (first
              | (with_reducible show Code.wpIn _ _ _ (Code.region _ _ true) _ _ _
                 refine round_sched [(0, true), (1, true), (2, true), (3, true), (4, true), (5, true), (6, true), (7, true), (8, true), (9, false)] (fun V => BoxA V w.heap.size cmT (cmA q n c x) ∧ BoxA V KB 3 #[.int .i64 (i : Int)]) (by kernel_rfl) (by kernel_rfl) (by kernel_rfl) (by rintro ⟨_, _, h⟩; exact h) ⟨V4.out.b.bx (i := 6) rfl, V4.out.b.bx (i := 0) rfl⟩ ?_
                 refine walk_float rfl rfl (fun K hK => ?_)
                 refine gives_sec_row _ rfl J9 rfl ?_
                 go_simp
                 refine hK _ ?_
                 clear hK K
                 refine walk_float rfl rfl (fun K hK => ?_)
                 refine gives_cmfield4 _ rfl w.heap.size rfl ?_
                 go_simp
                 refine hK _ ?_
                 clear hK K
                 refine walk_float rfl rfl (fun K hK => ?_)
                 refine gives_cell 22 _ rfl ⟨w.heap.size, 4, none⟩ (.slice q n c) rfl box_bytes (fun V hV => (boxCm hV.1).2.2.2.2.1) ?_
                 go_simp
                 refine hK _ ?_
                 clear hK K
                 refine walk_float rfl rfl (fun K hK => ?_)
                 refine gives_cell 3 _ rfl ⟨KB, 0, none⟩ (.int .i64 (i : Int)) rfl box_int (fun V hV => hV.2.cell 0) ?_
                 go_simp
                 refine hK _ ?_
                 clear hK K
                 refine walk_float rfl rfl (fun K hK => ?_)
                 refine gives_mul128 _ _ rfl 128 (i : Int) (128 * (i : Int)) rfl rfl M1.out ?_
                 go_simp
                 refine hK _ ?_
                 clear hK K
                 refine walk_float rfl rfl (fun K hK => ?_)
                 refine gives_cell 3 _ rfl ⟨KB, 0, none⟩ (.int .i64 (i : Int)) rfl box_int (fun V hV => hV.2.cell 0) ?_
                 go_simp
                 refine hK _ ?_
                 clear hK K
                 refine walk_float rfl rfl (fun K hK => ?_)
                 refine gives_mul128 _ _ rfl 128 (i : Int) (128 * (i : Int)) rfl rfl M1.out ?_
                 go_simp
                 refine hK _ ?_
                 clear hK K
                 refine walk_float rfl rfl (fun K hK => ?_)
                 refine gives_add128 _ _ rfl (128 * (i : Int)) 128 (128 * (i : Int) + 128) rfl rfl M2.out ?_
                 go_simp
                 refine hK _ ?_
                 clear hK K
                 refine walk_float rfl rfl (fun K hK => ?_)
                 refine gives_cut128 _ _ _ rfl q n c i rfl rfl rfl HN.out HNC.out ?_
                 intro p9 hp9
                 have HP9 := Lib.hid hp9
                 clear hp9
                 go_simp
                 refine hK _ ?_
                 clear hK K
                 refine walk_done rfl rfl (fun K hK => ?_)
                 refine done_sec_copy _ _ rfl J9 zeroK (fun j => g (128 * i + j)) p9 _ rfl rfl (S4.out.drew.bx (i := 0) rfl) (HP9.out _ _ (HQ.out _ V4.out.b.low.drew)) ?_
                 intro vv v5 x5 k5 s5
                 have S5 := Lib.hid (show LwB V [bxO J9 56 (cellsOf .u8 (mk 128 (fun j => g (128 * i + j))))] v5 from S4.out.drew.put 0 rfl x5 k5)
                 have V5 := Lib.hid (HV.out.mono HT.out S5.out.low)
                 clear x5 k5 s5 S4 V4 c0 c1 c2 c3 c4 c10
                 refine ⟨⟨V5.out.b.bx (i := 6) rfl, V5.out.b.bx (i := 0) rfl⟩, ?_⟩
                 go_simp
                 refine hK _ _ ?_
                 clear hK K
                 refine walk_nil ?_)
              | (refine wpListIn_round (by rintro ⟨_, _, h⟩; exact h) _ _ _ rfl ?_
                 go_wp2_with (first
                   | (with_reducible show wpList _ _ _ (⟨_, Op.build 56 _, _, _, _, _⟩ :: _) _ _
                      refine wpList_sec_build0 rfl rfl ?_)
                   | (with_reducible show wpList _ _ _ (⟨some 12, Op.alloc 56, _, _, _, _⟩ :: _) _ _
                      obtain ⟨J9, hJ9⟩ : ∃ J, V.heap.size = J := ⟨_, rfl⟩
                      refine wpList_boxA_new rowSec rfl rfl J9 hJ9 ?_
                      intro v3 x3 l3 s3
                      have S3 := Lib.hid (show LwB V [bxO J9 56 (cellsOf .u8 (mk 128 zeroK))] v3 from (LwB.none V).add l3 x3 (Nat.le_of_eq hJ9))
                      clear x3 l3 s3 hJ9 e0 e1 c0 c1 c2 c3 c4 c10)
                   | (with_reducible show wpList _ _ _ (⟨_, Op.store 56 (.tmp 12) _, _, _, _, none⟩ :: _) _ _
                      refine wpList_boxA_put rowSec rfl _ _ rfl rfl J9 (cellsOf .u8 (mk 128 zeroK)) (cellsOf .u8 (mk 128 zeroK)) (sec_size _) (sec_one _) (sec_size _) rfl rfl (S3.out.bx (i := 0) rfl) ?_
                      intro v4 x4 k4 s4
                      have S4 := Lib.hid (show LwB V [bxO J9 56 (cellsOf .u8 (mk 128 zeroK))] v4 from S3.out.put 0 rfl x4 k4)
                      have V4 := Lib.hid (HV.out.mono HT.out S4.out.low)
                      obtain ⟨c0, c1, c2, c3, c4, c10⟩ := boxCm (V4.out.b.bx (i := 6) rfl)
                      clear x4 k4 s4 S3)
                   | (with_reducible show wpList _ _ _ (⟨some 84, Op.load 56 _, _, _, _, _⟩ :: _) _ _
                      refine wpList_boxA_loadw rowSec _ rfl rfl J8 (cellsOf .u8 (mk 128 fb)) (sec_size _) rfl (X8.out.keep (S5.out.low.block _ X8.out.lt)) ?_)
                   | (with_reducible show wpList _ _ _ (⟨some 85, Op.load 56 _, _, _, _, _⟩ :: _) _ _
                      refine wpList_boxA_loadw rowSec _ rfl rfl J9 (cellsOf .u8 (mk 128 (fun j => g (128 * i + j)))) (sec_size _) rfl (S5.out.bx (i := 0) rfl) ?_)
                   | (with_reducible show wpList _ _ _ (⟨some 86, _, _, _, _, _⟩ :: _) _ _
                      refine wpList_sec_neq rfl _ _ rfl fb (fun j => g (128 * i + j)) rfl rfl HE.out ?_
                      have e0 : v5.cell? ⟨KB, 0, none⟩ = some (.int .i64 (i : Int)) := (V5.out.b.bx (i := 0) rfl).cell 0)
                   | (with_reducible show wpList _ _ _ (⟨_, Op.store 3 (.tmp 9) _, _, _, _, none⟩ :: _) _ _
                      refine wpList_int_put rfl _ _ rfl rfl KB (i : Int) ((i : Int) + 1) rfl rfl (V5.out.b.bx (i := 0) rfl) ?_
                      intro v6 x6 k6 s6
                      have V6 := Lib.hid (show LoS w w8 (TBl B8 B7 p8) [bxO KB 3 #[.int .i64 ((i : Int) + 1)], bxO MB 3 #[.int .i64 ((M : Nat) : Int)], mkO D, bxO TB 3 #[.int .i64 ((3 : Nat) : Int)], bxO J2 4 #[.bool false], bxO J1 3 #[.int .i64 (mo : Int)], bxO w.heap.size cmT (cmA q n c x)] v6 from V5.out.put HT.out 0 rfl HTO.out x6 k6 s6)
                      have R6 := Lib.hid ((rec_low (w5 := w8) S5.out.low HV2.out).trans (rec_put (w5 := w8) k6 s6 (V5.out.top (i := 0) rfl) (Nat.le_trans HV2.out S5.out.low.size)))
                      have e6 : v6.cell? ⟨KB, 0, none⟩ = some (.int .i64 ((i : Int) + 1)) := (V6.out.b.bx (i := 0) rfl).cell 0
                      have e7 : v6.cell? ⟨J1, 0, none⟩ = some (.int .i64 (mo : Int)) := (V6.out.b.bx (i := 5) rfl).cell 0
                      clear x6 k6 s6 V5 S5 e0))))
            have e8 : (i : Int) + 1 = (mo : Int) := by have := HBK.out; omega
            exact ⟨R6.out, rfl, by have h := V6.out; rw [e8] at h; exact h, by have := HBK.out; have := HLI.out; omega⟩
          · have k2 : (x.k == 2) = true := by simp [hk2]
            have d5 : ((i : Int) + 1 == (mo : Int)) = false := beq_eq_false_iff_ne.2 (by omega)
            have HN := Lib.hid (show 128 * i + 128 ≤ n by have := HBB.out (by have := HLI.out; omega); have := this.2.2.1 hk2; have := HLI.out; omega)
            have HE := Lib.hid (show mk 128 fb = mk 128 (fun j => g (128 * i + j)) by rw [← HFB.out]; exact mk_ext fun j hj => by have := HN.out; unfold extF; rw [if_pos (by omega)])
            have HBK := Lib.hid (show i + 1 < mo by have := HMI.out; omega)
            clear hk2 hbr
            gi_wp2_with (first
              | (with_reducible show Code.wpIn _ _ _ (Code.region _ _ true) _ _ _
                 refine round_sched [(0, true), (1, true), (2, true), (3, true), (4, true), (5, true), (6, true), (7, true), (8, true), (9, false)] (fun V => BoxA V w.heap.size cmT (cmA q n c x) ∧ BoxA V KB 3 #[.int .i64 (i : Int)]) (by kernel_rfl) (by kernel_rfl) (by kernel_rfl) (by rintro ⟨_, _, h⟩; exact h) ⟨V4.out.b.bx (i := 6) rfl, V4.out.b.bx (i := 0) rfl⟩ ?_
                 refine walk_float rfl rfl (fun K hK => ?_)
                 refine gives_sec_row _ rfl J9 rfl ?_
                 go_simp
                 refine hK _ ?_
                 clear hK K
                 refine walk_float rfl rfl (fun K hK => ?_)
                 refine gives_cmfield4 _ rfl w.heap.size rfl ?_
                 go_simp
                 refine hK _ ?_
                 clear hK K
                 refine walk_float rfl rfl (fun K hK => ?_)
                 refine gives_cell 22 _ rfl ⟨w.heap.size, 4, none⟩ (.slice q n c) rfl box_bytes (fun V hV => (boxCm hV.1).2.2.2.2.1) ?_
                 go_simp
                 refine hK _ ?_
                 clear hK K
                 refine walk_float rfl rfl (fun K hK => ?_)
                 refine gives_cell 3 _ rfl ⟨KB, 0, none⟩ (.int .i64 (i : Int)) rfl box_int (fun V hV => hV.2.cell 0) ?_
                 go_simp
                 refine hK _ ?_
                 clear hK K
                 refine walk_float rfl rfl (fun K hK => ?_)
                 refine gives_mul128 _ _ rfl 128 (i : Int) (128 * (i : Int)) rfl rfl M1.out ?_
                 go_simp
                 refine hK _ ?_
                 clear hK K
                 refine walk_float rfl rfl (fun K hK => ?_)
                 refine gives_cell 3 _ rfl ⟨KB, 0, none⟩ (.int .i64 (i : Int)) rfl box_int (fun V hV => hV.2.cell 0) ?_
                 go_simp
                 refine hK _ ?_
                 clear hK K
                 refine walk_float rfl rfl (fun K hK => ?_)
                 refine gives_mul128 _ _ rfl 128 (i : Int) (128 * (i : Int)) rfl rfl M1.out ?_
                 go_simp
                 refine hK _ ?_
                 clear hK K
                 refine walk_float rfl rfl (fun K hK => ?_)
                 refine gives_add128 _ _ rfl (128 * (i : Int)) 128 (128 * (i : Int) + 128) rfl rfl M2.out ?_
                 go_simp
                 refine hK _ ?_
                 clear hK K
                 refine walk_float rfl rfl (fun K hK => ?_)
                 refine gives_cut128 _ _ _ rfl q n c i rfl rfl rfl HN.out HNC.out ?_
                 intro p9 hp9
                 have HP9 := Lib.hid hp9
                 clear hp9
                 go_simp
                 refine hK _ ?_
                 clear hK K
                 refine walk_done rfl rfl (fun K hK => ?_)
                 refine done_sec_copy _ _ rfl J9 zeroK (fun j => g (128 * i + j)) p9 _ rfl rfl (S4.out.drew.bx (i := 0) rfl) (HP9.out _ _ (HQ.out _ V4.out.b.low.drew)) ?_
                 intro vv v5 x5 k5 s5
                 have S5 := Lib.hid (show LwB V [bxO J9 56 (cellsOf .u8 (mk 128 (fun j => g (128 * i + j))))] v5 from S4.out.drew.put 0 rfl x5 k5)
                 have V5 := Lib.hid (HV.out.mono HT.out S5.out.low)
                 clear x5 k5 s5 S4 V4 c0 c1 c2 c3 c4 c10
                 refine ⟨⟨V5.out.b.bx (i := 6) rfl, V5.out.b.bx (i := 0) rfl⟩, ?_⟩
                 go_simp
                 refine hK _ _ ?_
                 clear hK K
                 refine walk_nil ?_)
              | (refine wpListIn_round (by rintro ⟨_, _, h⟩; exact h) _ _ _ rfl ?_
                 go_wp2_with (first
                   | (with_reducible show wpList _ _ _ (⟨_, Op.build 56 _, _, _, _, _⟩ :: _) _ _
                      refine wpList_sec_build0 rfl rfl ?_)
                   | (with_reducible show wpList _ _ _ (⟨some 12, Op.alloc 56, _, _, _, _⟩ :: _) _ _
                      obtain ⟨J9, hJ9⟩ : ∃ J, V.heap.size = J := ⟨_, rfl⟩
                      refine wpList_boxA_new rowSec rfl rfl J9 hJ9 ?_
                      intro v3 x3 l3 s3
                      have S3 := Lib.hid (show LwB V [bxO J9 56 (cellsOf .u8 (mk 128 zeroK))] v3 from (LwB.none V).add l3 x3 (Nat.le_of_eq hJ9))
                      clear x3 l3 s3 hJ9 e0 e1 c0 c1 c2 c3 c4 c10)
                   | (with_reducible show wpList _ _ _ (⟨_, Op.store 56 (.tmp 12) _, _, _, _, none⟩ :: _) _ _
                      refine wpList_boxA_put rowSec rfl _ _ rfl rfl J9 (cellsOf .u8 (mk 128 zeroK)) (cellsOf .u8 (mk 128 zeroK)) (sec_size _) (sec_one _) (sec_size _) rfl rfl (S3.out.bx (i := 0) rfl) ?_
                      intro v4 x4 k4 s4
                      have S4 := Lib.hid (show LwB V [bxO J9 56 (cellsOf .u8 (mk 128 zeroK))] v4 from S3.out.put 0 rfl x4 k4)
                      have V4 := Lib.hid (HV.out.mono HT.out S4.out.low)
                      obtain ⟨c0, c1, c2, c3, c4, c10⟩ := boxCm (V4.out.b.bx (i := 6) rfl)
                      clear x4 k4 s4 S3)
                   | (with_reducible show wpList _ _ _ (⟨some 84, Op.load 56 _, _, _, _, _⟩ :: _) _ _
                      refine wpList_boxA_loadw rowSec _ rfl rfl J8 (cellsOf .u8 (mk 128 fb)) (sec_size _) rfl (X8.out.keep (S5.out.low.block _ X8.out.lt)) ?_)
                   | (with_reducible show wpList _ _ _ (⟨some 85, Op.load 56 _, _, _, _, _⟩ :: _) _ _
                      refine wpList_boxA_loadw rowSec _ rfl rfl J9 (cellsOf .u8 (mk 128 (fun j => g (128 * i + j)))) (sec_size _) rfl (S5.out.bx (i := 0) rfl) ?_)
                   | (with_reducible show wpList _ _ _ (⟨some 86, _, _, _, _, _⟩ :: _) _ _
                      refine wpList_sec_neq rfl _ _ rfl fb (fun j => g (128 * i + j)) rfl rfl HE.out ?_
                      have e0 : v5.cell? ⟨KB, 0, none⟩ = some (.int .i64 (i : Int)) := (V5.out.b.bx (i := 0) rfl).cell 0)
                   | (with_reducible show wpList _ _ _ (⟨_, Op.store 3 (.tmp 9) _, _, _, _, none⟩ :: _) _ _
                      refine wpList_int_put rfl _ _ rfl rfl KB (i : Int) ((i : Int) + 1) rfl rfl (V5.out.b.bx (i := 0) rfl) ?_
                      intro v6 x6 k6 s6
                      have V6 := Lib.hid (show LoS w w8 (TBl B8 B7 p8) [bxO KB 3 #[.int .i64 ((i : Int) + 1)], bxO MB 3 #[.int .i64 ((M : Nat) : Int)], mkO D, bxO TB 3 #[.int .i64 ((3 : Nat) : Int)], bxO J2 4 #[.bool false], bxO J1 3 #[.int .i64 (mo : Int)], bxO w.heap.size cmT (cmA q n c x)] v6 from V5.out.put HT.out 0 rfl HTO.out x6 k6 s6)
                      have R6 := Lib.hid ((rec_low (w5 := w8) S5.out.low HV2.out).trans (rec_put (w5 := w8) k6 s6 (V5.out.top (i := 0) rfl) (Nat.le_trans HV2.out S5.out.low.size)))
                      have e6 : v6.cell? ⟨KB, 0, none⟩ = some (.int .i64 ((i : Int) + 1)) := (V6.out.b.bx (i := 0) rfl).cell 0
                      have e7 : v6.cell? ⟨J1, 0, none⟩ = some (.int .i64 (mo : Int)) := (V6.out.b.bx (i := 5) rfl).cell 0
                      clear x6 k6 s6 V5 S5 e0))))
            exact ⟨R6.out, V6.out, HBK.out, HLI.out⟩
        · by_cases hbr : i + 1 = mo
          · have k2 : (x.k == 2) = false := by simp [hk2]
            have d5 : ((i : Int) + 1 == (mo : Int)) = true := by simp; omega
            have HE := Lib.hid (show mk 128 fb = mk 128 zeroK by rw [← HFB.out]; exact mk_ext fun j hj => by have := (HBB.out (by have := HLI.out; omega)).2.2.2 hk2; unfold extF zeroK; rw [if_neg (by omega)])
            have HBK := Lib.hid (show i + 1 = mo from hbr)
            clear hk2 hbr
            gi_wp2_with (first
              | (refine wpListIn_round (by rintro ⟨_, _, h⟩; exact h) _ _ _ rfl ?_
                 go_wp2_with (first
                   | (with_reducible show wpList _ _ _ (⟨_, Op.build 56 _, _, _, _, _⟩ :: _) _ _
                      refine wpList_sec_build0 rfl rfl ?_)
                   | (with_reducible show wpList _ _ _ (⟨some 12, Op.alloc 56, _, _, _, _⟩ :: _) _ _
                      obtain ⟨J9, hJ9⟩ : ∃ J, V.heap.size = J := ⟨_, rfl⟩
                      refine wpList_boxA_new rowSec rfl rfl J9 hJ9 ?_
                      intro v3 x3 l3 s3
                      have S3 := Lib.hid (show LwB V [bxO J9 56 (cellsOf .u8 (mk 128 zeroK))] v3 from (LwB.none V).add l3 x3 (Nat.le_of_eq hJ9))
                      clear x3 l3 s3 hJ9 e0 e1 c0 c1 c2 c3 c4 c10)
                   | (with_reducible show wpList _ _ _ (⟨_, Op.store 56 (.tmp 12) _, _, _, _, none⟩ :: _) _ _
                      refine wpList_boxA_put rowSec rfl _ _ rfl rfl J9 (cellsOf .u8 (mk 128 zeroK)) (cellsOf .u8 (mk 128 zeroK)) (sec_size _) (sec_one _) (sec_size _) rfl rfl (S3.out.bx (i := 0) rfl) ?_
                      intro v4 x4 k4 s4
                      have S4 := Lib.hid (show LwB V [bxO J9 56 (cellsOf .u8 (mk 128 zeroK))] v4 from S3.out.put 0 rfl x4 k4)
                      have V4 := Lib.hid (HV.out.mono HT.out S4.out.low)
                      obtain ⟨c0, c1, c2, c3, c4, c10⟩ := boxCm (V4.out.b.bx (i := 6) rfl)
                      clear x4 k4 s4 S3)
                   | (with_reducible show wpList _ _ _ (⟨some 84, Op.load 56 _, _, _, _, _⟩ :: _) _ _
                      refine wpList_boxA_loadw rowSec _ rfl rfl J8 (cellsOf .u8 (mk 128 fb)) (sec_size _) rfl (X8.out.keep (S4.out.low.block _ X8.out.lt)) ?_)
                   | (with_reducible show wpList _ _ _ (⟨some 85, Op.load 56 _, _, _, _, _⟩ :: _) _ _
                      refine wpList_boxA_loadw rowSec _ rfl rfl J9 (cellsOf .u8 (mk 128 zeroK)) (sec_size _) rfl (S4.out.bx (i := 0) rfl) ?_)
                   | (with_reducible show wpList _ _ _ (⟨some 86, _, _, _, _, _⟩ :: _) _ _
                      refine wpList_sec_neq rfl _ _ rfl fb zeroK rfl rfl HE.out ?_
                      have e0 : v4.cell? ⟨KB, 0, none⟩ = some (.int .i64 (i : Int)) := (V4.out.b.bx (i := 0) rfl).cell 0)
                   | (with_reducible show wpList _ _ _ (⟨_, Op.store 3 (.tmp 9) _, _, _, _, none⟩ :: _) _ _
                      refine wpList_int_put rfl _ _ rfl rfl KB (i : Int) ((i : Int) + 1) rfl rfl (V4.out.b.bx (i := 0) rfl) ?_
                      intro v6 x6 k6 s6
                      have V6 := Lib.hid (show LoS w w8 (TBl B8 B7 p8) [bxO KB 3 #[.int .i64 ((i : Int) + 1)], bxO MB 3 #[.int .i64 ((M : Nat) : Int)], mkO D, bxO TB 3 #[.int .i64 ((3 : Nat) : Int)], bxO J2 4 #[.bool false], bxO J1 3 #[.int .i64 (mo : Int)], bxO w.heap.size cmT (cmA q n c x)] v6 from V4.out.put HT.out 0 rfl HTO.out x6 k6 s6)
                      have R6 := Lib.hid ((rec_low (w5 := w8) S4.out.low HV2.out).trans (rec_put (w5 := w8) k6 s6 (V4.out.top (i := 0) rfl) (Nat.le_trans HV2.out S4.out.low.size)))
                      have e6 : v6.cell? ⟨KB, 0, none⟩ = some (.int .i64 ((i : Int) + 1)) := (V6.out.b.bx (i := 0) rfl).cell 0
                      have e7 : v6.cell? ⟨J1, 0, none⟩ = some (.int .i64 (mo : Int)) := (V6.out.b.bx (i := 5) rfl).cell 0
                      clear x6 k6 s6 V4 S4 e0))))
            have e8 : (i : Int) + 1 = (mo : Int) := by have := HBK.out; omega
            exact ⟨R6.out, rfl, by have h := V6.out; rw [e8] at h; exact h, by have := HBK.out; have := HLI.out; omega⟩
          · have k2 : (x.k == 2) = false := by simp [hk2]
            have d5 : ((i : Int) + 1 == (mo : Int)) = false := beq_eq_false_iff_ne.2 (by omega)
            have HE := Lib.hid (show mk 128 fb = mk 128 zeroK by rw [← HFB.out]; exact mk_ext fun j hj => by have := (HBB.out (by have := HLI.out; omega)).2.2.2 hk2; unfold extF zeroK; rw [if_neg (by omega)])
            have HBK := Lib.hid (show i + 1 < mo by have := HMI.out; omega)
            clear hk2 hbr
            gi_wp2_with (first
              | (refine wpListIn_round (by rintro ⟨_, _, h⟩; exact h) _ _ _ rfl ?_
                 go_wp2_with (first
                   | (with_reducible show wpList _ _ _ (⟨_, Op.build 56 _, _, _, _, _⟩ :: _) _ _
                      refine wpList_sec_build0 rfl rfl ?_)
                   | (with_reducible show wpList _ _ _ (⟨some 12, Op.alloc 56, _, _, _, _⟩ :: _) _ _
                      obtain ⟨J9, hJ9⟩ : ∃ J, V.heap.size = J := ⟨_, rfl⟩
                      refine wpList_boxA_new rowSec rfl rfl J9 hJ9 ?_
                      intro v3 x3 l3 s3
                      have S3 := Lib.hid (show LwB V [bxO J9 56 (cellsOf .u8 (mk 128 zeroK))] v3 from (LwB.none V).add l3 x3 (Nat.le_of_eq hJ9))
                      clear x3 l3 s3 hJ9 e0 e1 c0 c1 c2 c3 c4 c10)
                   | (with_reducible show wpList _ _ _ (⟨_, Op.store 56 (.tmp 12) _, _, _, _, none⟩ :: _) _ _
                      refine wpList_boxA_put rowSec rfl _ _ rfl rfl J9 (cellsOf .u8 (mk 128 zeroK)) (cellsOf .u8 (mk 128 zeroK)) (sec_size _) (sec_one _) (sec_size _) rfl rfl (S3.out.bx (i := 0) rfl) ?_
                      intro v4 x4 k4 s4
                      have S4 := Lib.hid (show LwB V [bxO J9 56 (cellsOf .u8 (mk 128 zeroK))] v4 from S3.out.put 0 rfl x4 k4)
                      have V4 := Lib.hid (HV.out.mono HT.out S4.out.low)
                      obtain ⟨c0, c1, c2, c3, c4, c10⟩ := boxCm (V4.out.b.bx (i := 6) rfl)
                      clear x4 k4 s4 S3)
                   | (with_reducible show wpList _ _ _ (⟨some 84, Op.load 56 _, _, _, _, _⟩ :: _) _ _
                      refine wpList_boxA_loadw rowSec _ rfl rfl J8 (cellsOf .u8 (mk 128 fb)) (sec_size _) rfl (X8.out.keep (S4.out.low.block _ X8.out.lt)) ?_)
                   | (with_reducible show wpList _ _ _ (⟨some 85, Op.load 56 _, _, _, _, _⟩ :: _) _ _
                      refine wpList_boxA_loadw rowSec _ rfl rfl J9 (cellsOf .u8 (mk 128 zeroK)) (sec_size _) rfl (S4.out.bx (i := 0) rfl) ?_)
                   | (with_reducible show wpList _ _ _ (⟨some 86, _, _, _, _, _⟩ :: _) _ _
                      refine wpList_sec_neq rfl _ _ rfl fb zeroK rfl rfl HE.out ?_
                      have e0 : v4.cell? ⟨KB, 0, none⟩ = some (.int .i64 (i : Int)) := (V4.out.b.bx (i := 0) rfl).cell 0)
                   | (with_reducible show wpList _ _ _ (⟨_, Op.store 3 (.tmp 9) _, _, _, _, none⟩ :: _) _ _
                      refine wpList_int_put rfl _ _ rfl rfl KB (i : Int) ((i : Int) + 1) rfl rfl (V4.out.b.bx (i := 0) rfl) ?_
                      intro v6 x6 k6 s6
                      have V6 := Lib.hid (show LoS w w8 (TBl B8 B7 p8) [bxO KB 3 #[.int .i64 ((i : Int) + 1)], bxO MB 3 #[.int .i64 ((M : Nat) : Int)], mkO D, bxO TB 3 #[.int .i64 ((3 : Nat) : Int)], bxO J2 4 #[.bool false], bxO J1 3 #[.int .i64 (mo : Int)], bxO w.heap.size cmT (cmA q n c x)] v6 from V4.out.put HT.out 0 rfl HTO.out x6 k6 s6)
                      have R6 := Lib.hid ((rec_low (w5 := w8) S4.out.low HV2.out).trans (rec_put (w5 := w8) k6 s6 (V4.out.top (i := 0) rfl) (Nat.le_trans HV2.out S4.out.low.size)))
                      have e6 : v6.cell? ⟨KB, 0, none⟩ = some (.int .i64 ((i : Int) + 1)) := (V6.out.b.bx (i := 0) rfl).cell 0
                      have e7 : v6.cell? ⟨J1, 0, none⟩ = some (.int .i64 (mo : Int)) := (V6.out.b.bx (i := 5) rfl).cell 0
                      clear x6 k6 s6 V4 S4 e0))))
            exact ⟨R6.out, V6.out, HBK.out, HLI.out⟩
      case done2 =>
        intro D2 W hD2 hI hd2
        obtain ⟨k, hk, hI⟩ : ∃ k : Nat, k = min mo M ∧ LoS w w8 (TBl B8 B7 p8) [bxO KB 3 #[.int .i64 ((k : Nat) : Int)], bxO MB 3 #[.int .i64 ((M : Nat) : Int)], mkO D, bxO TB 3 #[.int .i64 ((3 : Nat) : Int)], bxO J2 4 #[.bool false], bxO J1 3 #[.int .i64 (mo : Int)], bxO w.heap.size cmT (cmA q n c x)] W := by
          rcases hI with ⟨hI, h1, _⟩ | ⟨hI, h1⟩
          · exact ⟨M, by omega, hI⟩
          · exact ⟨mo, by omega, hI⟩
        have P2 := Lib.hid (hI.mark W8.out hD2 hd2)
        have g1 : W.cell? ⟨TB, 0, none⟩ = some (.int .i64 ((3 : Nat) : Int)) := (hI.b.bx (i := 3) rfl).cell 0
        have g2 : W.cell? ⟨KB, 0, none⟩ = some (.int .i64 (k : Int)) := (hI.b.bx (i := 0) rfl).cell 0
        have g3 : W.cell? ⟨MB, 0, none⟩ = some (.int .i64 (M : Int)) := (hI.b.bx (i := 1) rfl).cell 0
        have g4 : W.cell? ⟨J1, 0, none⟩ = some (.int .i64 (mo : Int)) := (hI.b.bx (i := 5) rfl).cell 0
        have m1 : min (mo : Int) (M : Int) = (k : Int) := by omega
        clear hI hk hD2 hd2 S8 GV HT HTO HBB HM16
        go_wp2_with (first
          | (with_reducible show wpList _ _ _ (⟨_, Op.store 4 _ _, _, _, _, none⟩ :: _) _ _
             refine wpList_bool_put rfl _ _ rfl rfl J2 true false rfl (by first | rfl | (simp; done)) (P2.out.bx (i := 5) rfl) ?_
             intro Z xz kz sz
             have PZ := Lib.hid (show LwB w (mkO D2 :: [bxO KB 3 #[.int .i64 (k : Int)], bxO MB 3 #[.int .i64 (M : Int)], mkO D, bxO TB 3 #[.int .i64 ((3 : Nat) : Int)], bxO J2 4 #[.bool true], bxO J1 3 #[.int .i64 (mo : Int)], bxO w.heap.size cmT (cmA q n c x)]) Z from P2.out.put 5 rfl xz kz)
             clear xz kz sz P2 g1 g2 g3 g4))
        have hd2 := PZ.out.mark (i := 0) rfl
        have hd1 := PZ.out.mark (i := 3) rfl
        have hr : Z.heap[J2]? = some (.cells #[.bool true] 4 (0, 0)) := PZ.out.bx (i := 5) rfl
        have hne : D ≠ D2 := PZ.out.ne (i := 3) (j := 0) rfl rfl (by omega)
        have hb2 : w.heap.size ≤ D2 := (PZ.out.box (i := 0) rfl).2
        have hb1 : w.heap.size ≤ D := (PZ.out.box (i := 3) rfl).2
        refine ⟨by simp, .inl ⟨_, _, rfl, run_takeDeferred hd2, ?_⟩⟩
        have hd3 : (Z.putObj D2 (.deferred none)).heap[D]? = some (.deferred (some [])) := (World.putObj_heap_other hne).trans hd1
        refine ⟨by simp, .inl ⟨_, _, rfl, run_takeDeferred hd3, ?_⟩⟩
        have r1 := cells_turn (o' := .deferred none) hr hd2 rfl
        have r2 := cells_turn (o' := .deferred none) r1 hd3 rfl
        have hc := BoxA.cell (T := 4) (A := #[.bool true]) r2 0
        simp only [List.getElem?_toArray, List.getElem?_cons_zero] at hc
        refine ⟨.bool true, ?_, rfl, below_turn _ (below_turn _ PZ.out.low hb2) hb1⟩
        simp [results, Try.f7, go_sem, hc]
    have fc : (checkN x n == 0) = true := by simp [hch]
    have k1 : (x.k == 1) = false := by simp [hk1]
    have k2 : (x.k == 2) = false := by simp [hk2]
    have HM := Lib.hid (show (0 : Int) = (manyC x n : Nat) ∧ manyC x n ≤ 16 by rw [many_none (fun h => by simp [hk1, hk2] at h)]; exact ⟨rfl, by omega⟩)
    generalize hM : manyC x n = M at *
    have HMM := Lib.hid hM
    clear hM hch hk1 hk2
    go_wp2_with (first
      | (with_reducible show wpList _ _ _ (⟨_, Op.store 3 (.tmp 3) _, _, _, _, none⟩ :: _) _ _
         refine wpList_int_put rfl _ _ rfl rfl J1 a (1 + (u : Int) % 20) rfl rfl (P9.out.bx (i := 3) rfl) ?_
         rw [MO.out]
         intro w10 x10 k10 s10
         have P10 := Lib.hid (show LwB w [mkO D, bxO TB 3 #[.int .i64 ((3 : Nat) : Int)], bxO J2 4 #[.bool false], bxO J1 3 #[.int .i64 (mo : Int)], bxO w.heap.size cmT (cmA q n c x)] w10 from P9.out.put 3 rfl x10 k10)
         clear x10 k10 s10 P9 g1 hu q1 q2)
      | (with_reducible show wpList _ _ _ (⟨some 8, Op.alloc 3, _, _, _, _⟩ :: _) _ _
         refine wpList_one_new oneInt rfl rfl _ rfl ?_
         intro w11 x11 l11 s11
         have P11 := Lib.hid (show LwB w [bxO w10.heap.size 3 #[.int .i64 0], mkO D, bxO TB 3 #[.int .i64 ((3 : Nat) : Int)], bxO J2 4 #[.bool false], bxO J1 3 #[.int .i64 (mo : Int)], bxO w.heap.size cmT (cmA q n c x)] w11 from P10.out.add l11 x11 (Nat.le_refl _))
         clear x11 l11 s11 P10
         generalize w10.heap.size = MB at *)
      | (with_reducible show wpList _ _ _ (⟨_, Op.store 3 (.tmp 8) (.const _), _, _, _, none⟩ :: _) _ _
         refine wpList_int_put rfl _ _ rfl rfl MB 0 0 rfl rfl (P11.out.bx (i := 0) rfl) ?_
         intro w12 x12 k12 s12
         have P12 := Lib.hid (show LwB w [bxO MB 3 #[.int .i64 0], mkO D, bxO TB 3 #[.int .i64 ((3 : Nat) : Int)], bxO J2 4 #[.bool false], bxO J1 3 #[.int .i64 (mo : Int)], bxO w.heap.size cmT (cmA q n c x)] w12 from P11.out.put 0 rfl x12 k12)
         clear x12 k12 s12 P11)
      | (with_reducible show wpList _ _ _ (⟨some 40, Op.load cmT _, _, _, _, _⟩ :: _) _ _
         refine wpList_boxA_loadw rowCm _ rfl rfl w.heap.size (cmA q n c x) (cmA_size _ _ _ _) rfl (P12.out.bx (i := 5) rfl) ?_)
      | (go_at_call 24
         refine refCheck_any.mono ?_; rintro e w13 ⟨rfl, l13⟩
         have P13 := Lib.hid (P12.out.mono l13)
         obtain ⟨c0, c1, c2, c3, c4, c10⟩ := boxCm (P13.out.bx (i := 5) rfl)
         clear l13 P12)
      | (with_reducible show wpList _ _ _ (⟨some 9, Op.alloc 3, _, _, _, _⟩ :: _) _ _
         refine wpList_one_new oneInt rfl rfl _ rfl ?_
         intro w15 x15 l15 s15
         have P15 := Lib.hid (show LwB w [bxO w13.heap.size 3 #[.int .i64 0], bxO MB 3 #[.int .i64 0], mkO D, bxO TB 3 #[.int .i64 ((3 : Nat) : Int)], bxO J2 4 #[.bool false], bxO J1 3 #[.int .i64 (mo : Int)], bxO w.heap.size cmT (cmA q n c x)] w15 from P13.out.add l15 x15 (Nat.le_refl _))
         clear x15 l15 s15 P13
         generalize w13.heap.size = KB at *)
      | (with_reducible show wpList _ _ _ (⟨_, Op.store 3 (.tmp 9) _, _, _, _, none⟩ :: _) _ _
         refine wpList_int_put rfl _ _ rfl rfl KB 0 0 rfl rfl (P15.out.bx (i := 0) rfl) ?_
         intro w16 x16 k16 s16
         have P16 := Lib.hid (show LwB w [bxO KB 3 #[.int .i64 0], bxO MB 3 #[.int .i64 0], mkO D, bxO TB 3 #[.int .i64 ((3 : Nat) : Int)], bxO J2 4 #[.bool false], bxO J1 3 #[.int .i64 (mo : Int)], bxO w.heap.size cmT (cmA q n c x)] w16 from P15.out.put 0 rfl x16 k16)
         clear x16 k16 s16 P15)
      | (with_reducible show wpList _ _ _ (⟨some 55, Op.load cmT _, _, _, _, _⟩ :: _) _ _
         refine wpList_boxA_loadw rowCm _ rfl rfl w.heap.size (cmA q n c x) (cmA_size _ _ _ _) rfl (P16.out.bx (i := 6) rfl) ?_)
      | (go_at_call 25
         refine (Blocks_any (c := c) (HQ.out _ P16.out.low) (128 * M) (by rw [HMM.out])).mono ?_; rintro e w8 ⟨B8, B7, p8, rfl, h4, h3, hr, l4, l3, l5⟩
         have HV0 := HM.out.1
         have S8 := Lib.hid (show LoS w w8 (TBl B8 B7 p8) [bxO KB 3 #[.int .i64 0], bxO MB 3 #[.int .i64 ((M : Nat) : Int)], mkO D, bxO TB 3 #[.int .i64 ((3 : Nat) : Int)], bxO J2 4 #[.bool false], bxO J1 3 #[.int .i64 (mo : Int)], bxO w.heap.size cmT (cmA q n c x)] w8 from by
           have h := LoS.of (TBl B8 B7 p8) (P16.out.mono l5)
           rw [← HV0]; exact h)
         have HT := Lib.hid (fun k hk => (tbl_in h4 h3 hr l4 l3 k hk).1)
         have HTO := Lib.hid (show ¬ TBl B8 B7 p8 KB from fun hk => by have := (tbl_in h4 h3 hr l4 l3 KB hk).2; have := P16.out.lt (i := 0) rfl; simp only [bxO] at this; omega)
         have HM16 := Lib.hid HM.out.2
         have HBB := Lib.hid (show 0 < M → 0 ≤ x.b ∧ x.b ≤ 16 ∧ (x.k = 2 → n = 128 * M) ∧ (x.k ≠ 2 → n = 0) from fun h0 => by
           obtain ⟨ha, hb⟩ := many_pos (x := x) (n := n) (by rw [HMM.out]; exact h0)
           obtain ⟨m1, m2, m3, m4, m5, m6, m7⟩ := many_some ha hb
           rw [HMM.out] at m1
           refine ⟨m4, by omega, fun h2 => by have := m6 h2; omega, fun h2 => m7 (by simp only [Bool.or_eq_true, beq_iff_eq] at ha; omega)⟩)
         have GV := Lib.hid (blocks_gives (M := M) h4 h3 hr rfl (by have := HM.out.2; omega) (fun h0 => by have := HBB.out h0; omega))
         have W8 := Lib.hid (S8.out.b.low.size)
         clear h4 h3 hr l4 l3 l5 P16 HV0 HM HMM fc k1 k2 c0 c1 c2 c3 c4 c10))
    refine (wpIn_wide (n := 3)).1 ?_
    refine range_free_brk rfl (by omega) (gf := 37) (lb := #[.pointer (some ⟨B8, 0, none⟩), .pointer (some ⟨B7, 0, none⟩)]) rfl trivial (enters_of Try.func37 (by kernel_rfl) rfl)
      (fun z : Int × (Nat → Nat) => #[.int .i64 z.1, .agg (cellsOf .u8 (mk 128 z.2))]) (fun i => (x.b + (i : Int), fun j => extF n g (128 * i + j))) M (BlR w8 B8 B7 p8) (fun _ => rfl)
      (fun i V => LoS w w8 (TBl B8 B7 p8) [bxO KB 3 #[.int .i64 ((i : Nat) : Int)], bxO MB 3 #[.int .i64 ((M : Nat) : Int)], mkO D, bxO TB 3 #[.int .i64 ((3 : Nat) : Int)], bxO J2 4 #[.bool false], bxO J1 3 #[.int .i64 (mo : Int)], bxO w.heap.size cmT (cmA q n c x)] V ∧ i < mo ∧ i ≤ M) (fun V => LoS w w8 (TBl B8 B7 p8) [bxO KB 3 #[.int .i64 ((mo : Nat) : Int)], bxO MB 3 #[.int .i64 ((M : Nat) : Int)], mkO D, bxO TB 3 #[.int .i64 ((3 : Nat) : Int)], bxO J2 4 #[.bool false], bxO J1 3 #[.int .i64 (mo : Int)], bxO w.heap.size cmT (cmA q n c x)] V ∧ mo ≤ M) ?rd2 ?st2 ?stx2 ⟨S8.out, MO0.out, Nat.zero_le _⟩ GV.out ?round2 ?done2
    case rd2 => exact fun i V h => h.1.it
    case st2 => exact fun i V V' h hs => ⟨h.1.save HT.out W8.out hs, h.2⟩
    case stx2 => exact fun V V' h hs => ⟨h.1.save HT.out W8.out hs, h.2⟩
    case round2 =>
      intro l i W hl hi hWs hI
      have HI := Lib.hid hI.1
      have HMI := Lib.hid hI.2
      have HLI := Lib.hid hi
      have HWS := Lib.hid hWs
      clear hI hi hWs S8 GV hl
      have HB2 := Lib.hid (HBB.out (by have := HLI.out; omega))
      generalize hzb : x.b + (i : Int) = zb at *
      have q3 : IntKind.i64.wrap (x.b + (i : Int)) = zb := by rw [← hzb]; exact IntWalk.i64_in _ (by have := HB2.out; have := HM16.out; have := HLI.out; omega)
      clear hzb
      generalize hfb : (fun j => extF n g (128 * i + j)) = fb at *
      have HFB := Lib.hid hfb
      clear hfb
      gi_wp2_with (first
        | (refine wpListIn_round (by rintro ⟨_, _, h⟩; exact h) _ _ _ rfl ?_
           go_wp2_with (first
             | (with_reducible show wpList _ _ _ (⟨some 11, Op.alloc 56, _, _, _, _⟩ :: _) _ _
                obtain ⟨J8, hJ8⟩ : ∃ J, W.heap.size = J := ⟨_, rfl⟩
                refine wpList_boxA_new rowSec rfl rfl J8 hJ8 ?_
                intro v1 x1 l1 s1
                have S1 := Lib.hid (show LwB W [bxO J8 56 (cellsOf .u8 (mk 128 zeroK))] v1 from (LwB.none W).add l1 x1 (Nat.le_of_eq hJ8))
                clear x1 l1 s1 hJ8)
             | (with_reducible show wpList _ _ _ (⟨_, Op.store 56 (.tmp 11) _, _, _, _, none⟩ :: _) _ _
                refine wpList_boxA_put rowSec rfl _ _ rfl rfl J8 (cellsOf .u8 (mk 128 fb)) (cellsOf .u8 (mk 128 zeroK)) (sec_size _) (sec_one _) (sec_size _) rfl rfl (S1.out.bx (i := 0) rfl) ?_
                intro v2 x2 k2' s2
                have S2 := Lib.hid (show LwB W [bxO J8 56 (cellsOf .u8 (mk 128 fb))] v2 from S1.out.put 0 rfl x2 k2')
                clear x2 k2' s2 S1))))
      refine ⟨rec_low S2.out.low HWS.out, fun V hVs hVk hVS => ?_⟩
      have HV := Lib.hid ((HI.out.mono HT.out S2.out.low).save HT.out W8.out hVS)
      have X8 := Lib.hid (show BoxA V J8 56 (cellsOf .u8 (mk 128 fb)) from (S2.out.bx (i := 0) rfl).keep (hVk J8 (by have h2 := (S2.out.box (i := 0) rfl).2; simp only [bxO] at h2; have := HWS.out; omega)))
      have HV2 := Lib.hid (show w8.heap.size + 2 ≤ V.heap.size from by have := HWS.out; have := S2.out.low.size; omega)
      have e0 : V.cell? ⟨KB, 0, none⟩ = some (.int .i64 (i : Int)) := (HV.out.b.bx (i := 0) rfl).cell 0
      have e1 : V.cell? ⟨MB, 0, none⟩ = some (.int .i64 (M : Int)) := (HV.out.b.bx (i := 1) rfl).cell 0
      obtain ⟨c0, c1, c2, c3, c4, c10⟩ := boxCm (HV.out.b.bx (i := 6) rfl)
      clear hVs hVk hVS HI HWS S2
      have q1 : IntKind.i64.wrap ((i : Int) + 1) = (i : Int) + 1 := IntWalk.i64_in _ (by have := HLI.out; have := HM16.out; omega)
      have M1 := Lib.hid (show IntKind.i64.wrap (128 * (i : Int)) = 128 * (i : Int) from IntWalk.i64_in _ (by have := HLI.out; have := HM16.out; omega))
      have M2 := Lib.hid (show IntKind.i64.wrap (128 * (i : Int) + 128) = 128 * (i : Int) + 128 from IntWalk.i64_in _ (by have := HLI.out; have := HM16.out; omega))
      have d1 : decide ((M : Int) ≤ (i : Int)) = false := by have := HLI.out; simp; omega
      have d2 : decide (M ≤ i) = false := by have := HLI.out; simp; omega
      by_cases hk2 : x.k = 2
      · by_cases hbr : i + 1 = mo
        · have k2 : (x.k == 2) = true := by simp [hk2]
          have d5 : ((i : Int) + 1 == (mo : Int)) = true := by simp; omega
          have HN := Lib.hid (show 128 * i + 128 ≤ n by have := HBB.out (by have := HLI.out; omega); have := this.2.2.1 hk2; have := HLI.out; omega)
          have HE := Lib.hid (show mk 128 fb = mk 128 (fun j => g (128 * i + j)) by rw [← HFB.out]; exact mk_ext fun j hj => by have := HN.out; unfold extF; rw [if_pos (by omega)])
          have HBK := Lib.hid (show i + 1 = mo from hbr)
          clear hk2 hbr
          gi_wp2_with (first
            | (with_reducible show Code.wpIn _ _ _ (Code.region _ _ true) _ _ _
               refine round_sched [(0, true), (1, true), (2, true), (3, true), (4, true), (5, true), (6, true), (7, true), (8, true), (9, false)] (fun V => BoxA V w.heap.size cmT (cmA q n c x) ∧ BoxA V KB 3 #[.int .i64 (i : Int)]) (by kernel_rfl) (by kernel_rfl) (by kernel_rfl) (by rintro ⟨_, _, h⟩; exact h) ⟨V4.out.b.bx (i := 6) rfl, V4.out.b.bx (i := 0) rfl⟩ ?_
               refine walk_float rfl rfl (fun K hK => ?_)
               refine gives_sec_row _ rfl J9 rfl ?_
               go_simp
               refine hK _ ?_
               clear hK K
               refine walk_float rfl rfl (fun K hK => ?_)
               refine gives_cmfield4 _ rfl w.heap.size rfl ?_
               go_simp
               refine hK _ ?_
               clear hK K
               refine walk_float rfl rfl (fun K hK => ?_)
               refine gives_cell 22 _ rfl ⟨w.heap.size, 4, none⟩ (.slice q n c) rfl box_bytes (fun V hV => (boxCm hV.1).2.2.2.2.1) ?_
               go_simp
               refine hK _ ?_
               clear hK K
               refine walk_float rfl rfl (fun K hK => ?_)
               refine gives_cell 3 _ rfl ⟨KB, 0, none⟩ (.int .i64 (i : Int)) rfl box_int (fun V hV => hV.2.cell 0) ?_
               go_simp
               refine hK _ ?_
               clear hK K
               refine walk_float rfl rfl (fun K hK => ?_)
               refine gives_mul128 _ _ rfl 128 (i : Int) (128 * (i : Int)) rfl rfl M1.out ?_
               go_simp
               refine hK _ ?_
               clear hK K
               refine walk_float rfl rfl (fun K hK => ?_)
               refine gives_cell 3 _ rfl ⟨KB, 0, none⟩ (.int .i64 (i : Int)) rfl box_int (fun V hV => hV.2.cell 0) ?_
               go_simp
               refine hK _ ?_
               clear hK K
               refine walk_float rfl rfl (fun K hK => ?_)
               refine gives_mul128 _ _ rfl 128 (i : Int) (128 * (i : Int)) rfl rfl M1.out ?_
               go_simp
               refine hK _ ?_
               clear hK K
               refine walk_float rfl rfl (fun K hK => ?_)
               refine gives_add128 _ _ rfl (128 * (i : Int)) 128 (128 * (i : Int) + 128) rfl rfl M2.out ?_
               go_simp
               refine hK _ ?_
               clear hK K
               refine walk_float rfl rfl (fun K hK => ?_)
               refine gives_cut128 _ _ _ rfl q n c i rfl rfl rfl HN.out HNC.out ?_
               intro p9 hp9
               have HP9 := Lib.hid hp9
               clear hp9
               go_simp
               refine hK _ ?_
               clear hK K
               refine walk_done rfl rfl (fun K hK => ?_)
               refine done_sec_copy _ _ rfl J9 zeroK (fun j => g (128 * i + j)) p9 _ rfl rfl (S4.out.drew.bx (i := 0) rfl) (HP9.out _ _ (HQ.out _ V4.out.b.low.drew)) ?_
               intro vv v5 x5 k5 s5
               have S5 := Lib.hid (show LwB V [bxO J9 56 (cellsOf .u8 (mk 128 (fun j => g (128 * i + j))))] v5 from S4.out.drew.put 0 rfl x5 k5)
               have V5 := Lib.hid (HV.out.mono HT.out S5.out.low)
               clear x5 k5 s5 S4 V4 c0 c1 c2 c3 c4 c10
               refine ⟨⟨V5.out.b.bx (i := 6) rfl, V5.out.b.bx (i := 0) rfl⟩, ?_⟩
               go_simp
               refine hK _ _ ?_
               clear hK K
               refine walk_nil ?_)
            | (refine wpListIn_round (by rintro ⟨_, _, h⟩; exact h) _ _ _ rfl ?_
               go_wp2_with (first
                 | (with_reducible show wpList _ _ _ (⟨_, Op.build 56 _, _, _, _, _⟩ :: _) _ _
                    refine wpList_sec_build0 rfl rfl ?_)
                 | (with_reducible show wpList _ _ _ (⟨some 12, Op.alloc 56, _, _, _, _⟩ :: _) _ _
                    obtain ⟨J9, hJ9⟩ : ∃ J, V.heap.size = J := ⟨_, rfl⟩
                    refine wpList_boxA_new rowSec rfl rfl J9 hJ9 ?_
                    intro v3 x3 l3 s3
                    have S3 := Lib.hid (show LwB V [bxO J9 56 (cellsOf .u8 (mk 128 zeroK))] v3 from (LwB.none V).add l3 x3 (Nat.le_of_eq hJ9))
                    clear x3 l3 s3 hJ9 e0 e1 c0 c1 c2 c3 c4 c10)
                 | (with_reducible show wpList _ _ _ (⟨_, Op.store 56 (.tmp 12) _, _, _, _, none⟩ :: _) _ _
                    refine wpList_boxA_put rowSec rfl _ _ rfl rfl J9 (cellsOf .u8 (mk 128 zeroK)) (cellsOf .u8 (mk 128 zeroK)) (sec_size _) (sec_one _) (sec_size _) rfl rfl (S3.out.bx (i := 0) rfl) ?_
                    intro v4 x4 k4 s4
                    have S4 := Lib.hid (show LwB V [bxO J9 56 (cellsOf .u8 (mk 128 zeroK))] v4 from S3.out.put 0 rfl x4 k4)
                    have V4 := Lib.hid (HV.out.mono HT.out S4.out.low)
                    obtain ⟨c0, c1, c2, c3, c4, c10⟩ := boxCm (V4.out.b.bx (i := 6) rfl)
                    clear x4 k4 s4 S3)
                 | (with_reducible show wpList _ _ _ (⟨some 84, Op.load 56 _, _, _, _, _⟩ :: _) _ _
                    refine wpList_boxA_loadw rowSec _ rfl rfl J8 (cellsOf .u8 (mk 128 fb)) (sec_size _) rfl (X8.out.keep (S5.out.low.block _ X8.out.lt)) ?_)
                 | (with_reducible show wpList _ _ _ (⟨some 85, Op.load 56 _, _, _, _, _⟩ :: _) _ _
                    refine wpList_boxA_loadw rowSec _ rfl rfl J9 (cellsOf .u8 (mk 128 (fun j => g (128 * i + j)))) (sec_size _) rfl (S5.out.bx (i := 0) rfl) ?_)
                 | (with_reducible show wpList _ _ _ (⟨some 86, _, _, _, _, _⟩ :: _) _ _
                    refine wpList_sec_neq rfl _ _ rfl fb (fun j => g (128 * i + j)) rfl rfl HE.out ?_
                    have e0 : v5.cell? ⟨KB, 0, none⟩ = some (.int .i64 (i : Int)) := (V5.out.b.bx (i := 0) rfl).cell 0)
                 | (with_reducible show wpList _ _ _ (⟨_, Op.store 3 (.tmp 9) _, _, _, _, none⟩ :: _) _ _
                    refine wpList_int_put rfl _ _ rfl rfl KB (i : Int) ((i : Int) + 1) rfl rfl (V5.out.b.bx (i := 0) rfl) ?_
                    intro v6 x6 k6 s6
                    have V6 := Lib.hid (show LoS w w8 (TBl B8 B7 p8) [bxO KB 3 #[.int .i64 ((i : Int) + 1)], bxO MB 3 #[.int .i64 ((M : Nat) : Int)], mkO D, bxO TB 3 #[.int .i64 ((3 : Nat) : Int)], bxO J2 4 #[.bool false], bxO J1 3 #[.int .i64 (mo : Int)], bxO w.heap.size cmT (cmA q n c x)] v6 from V5.out.put HT.out 0 rfl HTO.out x6 k6 s6)
                    have R6 := Lib.hid ((rec_low (w5 := w8) S5.out.low HV2.out).trans (rec_put (w5 := w8) k6 s6 (V5.out.top (i := 0) rfl) (Nat.le_trans HV2.out S5.out.low.size)))
                    have e6 : v6.cell? ⟨KB, 0, none⟩ = some (.int .i64 ((i : Int) + 1)) := (V6.out.b.bx (i := 0) rfl).cell 0
                    have e7 : v6.cell? ⟨J1, 0, none⟩ = some (.int .i64 (mo : Int)) := (V6.out.b.bx (i := 5) rfl).cell 0
                    clear x6 k6 s6 V5 S5 e0))))
          have e8 : (i : Int) + 1 = (mo : Int) := by have := HBK.out; omega
          exact ⟨R6.out, rfl, by have h := V6.out; rw [e8] at h; exact h, by have := HBK.out; have := HLI.out; omega⟩
        · have k2 : (x.k == 2) = true := by simp [hk2]
          have d5 : ((i : Int) + 1 == (mo : Int)) = false := beq_eq_false_iff_ne.2 (by omega)
          have HN := Lib.hid (show 128 * i + 128 ≤ n by have := HBB.out (by have := HLI.out; omega); have := this.2.2.1 hk2; have := HLI.out; omega)
          have HE := Lib.hid (show mk 128 fb = mk 128 (fun j => g (128 * i + j)) by rw [← HFB.out]; exact mk_ext fun j hj => by have := HN.out; unfold extF; rw [if_pos (by omega)])
          have HBK := Lib.hid (show i + 1 < mo by have := HMI.out; omega)
          clear hk2 hbr
          gi_wp2_with (first
            | (with_reducible show Code.wpIn _ _ _ (Code.region _ _ true) _ _ _
               refine round_sched [(0, true), (1, true), (2, true), (3, true), (4, true), (5, true), (6, true), (7, true), (8, true), (9, false)] (fun V => BoxA V w.heap.size cmT (cmA q n c x) ∧ BoxA V KB 3 #[.int .i64 (i : Int)]) (by kernel_rfl) (by kernel_rfl) (by kernel_rfl) (by rintro ⟨_, _, h⟩; exact h) ⟨V4.out.b.bx (i := 6) rfl, V4.out.b.bx (i := 0) rfl⟩ ?_
               refine walk_float rfl rfl (fun K hK => ?_)
               refine gives_sec_row _ rfl J9 rfl ?_
               go_simp
               refine hK _ ?_
               clear hK K
               refine walk_float rfl rfl (fun K hK => ?_)
               refine gives_cmfield4 _ rfl w.heap.size rfl ?_
               go_simp
               refine hK _ ?_
               clear hK K
               refine walk_float rfl rfl (fun K hK => ?_)
               refine gives_cell 22 _ rfl ⟨w.heap.size, 4, none⟩ (.slice q n c) rfl box_bytes (fun V hV => (boxCm hV.1).2.2.2.2.1) ?_
               go_simp
               refine hK _ ?_
               clear hK K
               refine walk_float rfl rfl (fun K hK => ?_)
               refine gives_cell 3 _ rfl ⟨KB, 0, none⟩ (.int .i64 (i : Int)) rfl box_int (fun V hV => hV.2.cell 0) ?_
               go_simp
               refine hK _ ?_
               clear hK K
               refine walk_float rfl rfl (fun K hK => ?_)
               refine gives_mul128 _ _ rfl 128 (i : Int) (128 * (i : Int)) rfl rfl M1.out ?_
               go_simp
               refine hK _ ?_
               clear hK K
               refine walk_float rfl rfl (fun K hK => ?_)
               refine gives_cell 3 _ rfl ⟨KB, 0, none⟩ (.int .i64 (i : Int)) rfl box_int (fun V hV => hV.2.cell 0) ?_
               go_simp
               refine hK _ ?_
               clear hK K
               refine walk_float rfl rfl (fun K hK => ?_)
               refine gives_mul128 _ _ rfl 128 (i : Int) (128 * (i : Int)) rfl rfl M1.out ?_
               go_simp
               refine hK _ ?_
               clear hK K
               refine walk_float rfl rfl (fun K hK => ?_)
               refine gives_add128 _ _ rfl (128 * (i : Int)) 128 (128 * (i : Int) + 128) rfl rfl M2.out ?_
               go_simp
               refine hK _ ?_
               clear hK K
               refine walk_float rfl rfl (fun K hK => ?_)
               refine gives_cut128 _ _ _ rfl q n c i rfl rfl rfl HN.out HNC.out ?_
               intro p9 hp9
               have HP9 := Lib.hid hp9
               clear hp9
               go_simp
               refine hK _ ?_
               clear hK K
               refine walk_done rfl rfl (fun K hK => ?_)
               refine done_sec_copy _ _ rfl J9 zeroK (fun j => g (128 * i + j)) p9 _ rfl rfl (S4.out.drew.bx (i := 0) rfl) (HP9.out _ _ (HQ.out _ V4.out.b.low.drew)) ?_
               intro vv v5 x5 k5 s5
               have S5 := Lib.hid (show LwB V [bxO J9 56 (cellsOf .u8 (mk 128 (fun j => g (128 * i + j))))] v5 from S4.out.drew.put 0 rfl x5 k5)
               have V5 := Lib.hid (HV.out.mono HT.out S5.out.low)
               clear x5 k5 s5 S4 V4 c0 c1 c2 c3 c4 c10
               refine ⟨⟨V5.out.b.bx (i := 6) rfl, V5.out.b.bx (i := 0) rfl⟩, ?_⟩
               go_simp
               refine hK _ _ ?_
               clear hK K
               refine walk_nil ?_)
            | (refine wpListIn_round (by rintro ⟨_, _, h⟩; exact h) _ _ _ rfl ?_
               go_wp2_with (first
                 | (with_reducible show wpList _ _ _ (⟨_, Op.build 56 _, _, _, _, _⟩ :: _) _ _
                    refine wpList_sec_build0 rfl rfl ?_)
                 | (with_reducible show wpList _ _ _ (⟨some 12, Op.alloc 56, _, _, _, _⟩ :: _) _ _
                    obtain ⟨J9, hJ9⟩ : ∃ J, V.heap.size = J := ⟨_, rfl⟩
                    refine wpList_boxA_new rowSec rfl rfl J9 hJ9 ?_
                    intro v3 x3 l3 s3
                    have S3 := Lib.hid (show LwB V [bxO J9 56 (cellsOf .u8 (mk 128 zeroK))] v3 from (LwB.none V).add l3 x3 (Nat.le_of_eq hJ9))
                    clear x3 l3 s3 hJ9 e0 e1 c0 c1 c2 c3 c4 c10)
                 | (with_reducible show wpList _ _ _ (⟨_, Op.store 56 (.tmp 12) _, _, _, _, none⟩ :: _) _ _
                    refine wpList_boxA_put rowSec rfl _ _ rfl rfl J9 (cellsOf .u8 (mk 128 zeroK)) (cellsOf .u8 (mk 128 zeroK)) (sec_size _) (sec_one _) (sec_size _) rfl rfl (S3.out.bx (i := 0) rfl) ?_
                    intro v4 x4 k4 s4
                    have S4 := Lib.hid (show LwB V [bxO J9 56 (cellsOf .u8 (mk 128 zeroK))] v4 from S3.out.put 0 rfl x4 k4)
                    have V4 := Lib.hid (HV.out.mono HT.out S4.out.low)
                    obtain ⟨c0, c1, c2, c3, c4, c10⟩ := boxCm (V4.out.b.bx (i := 6) rfl)
                    clear x4 k4 s4 S3)
                 | (with_reducible show wpList _ _ _ (⟨some 84, Op.load 56 _, _, _, _, _⟩ :: _) _ _
                    refine wpList_boxA_loadw rowSec _ rfl rfl J8 (cellsOf .u8 (mk 128 fb)) (sec_size _) rfl (X8.out.keep (S5.out.low.block _ X8.out.lt)) ?_)
                 | (with_reducible show wpList _ _ _ (⟨some 85, Op.load 56 _, _, _, _, _⟩ :: _) _ _
                    refine wpList_boxA_loadw rowSec _ rfl rfl J9 (cellsOf .u8 (mk 128 (fun j => g (128 * i + j)))) (sec_size _) rfl (S5.out.bx (i := 0) rfl) ?_)
                 | (with_reducible show wpList _ _ _ (⟨some 86, _, _, _, _, _⟩ :: _) _ _
                    refine wpList_sec_neq rfl _ _ rfl fb (fun j => g (128 * i + j)) rfl rfl HE.out ?_
                    have e0 : v5.cell? ⟨KB, 0, none⟩ = some (.int .i64 (i : Int)) := (V5.out.b.bx (i := 0) rfl).cell 0)
                 | (with_reducible show wpList _ _ _ (⟨_, Op.store 3 (.tmp 9) _, _, _, _, none⟩ :: _) _ _
                    refine wpList_int_put rfl _ _ rfl rfl KB (i : Int) ((i : Int) + 1) rfl rfl (V5.out.b.bx (i := 0) rfl) ?_
                    intro v6 x6 k6 s6
                    have V6 := Lib.hid (show LoS w w8 (TBl B8 B7 p8) [bxO KB 3 #[.int .i64 ((i : Int) + 1)], bxO MB 3 #[.int .i64 ((M : Nat) : Int)], mkO D, bxO TB 3 #[.int .i64 ((3 : Nat) : Int)], bxO J2 4 #[.bool false], bxO J1 3 #[.int .i64 (mo : Int)], bxO w.heap.size cmT (cmA q n c x)] v6 from V5.out.put HT.out 0 rfl HTO.out x6 k6 s6)
                    have R6 := Lib.hid ((rec_low (w5 := w8) S5.out.low HV2.out).trans (rec_put (w5 := w8) k6 s6 (V5.out.top (i := 0) rfl) (Nat.le_trans HV2.out S5.out.low.size)))
                    have e6 : v6.cell? ⟨KB, 0, none⟩ = some (.int .i64 ((i : Int) + 1)) := (V6.out.b.bx (i := 0) rfl).cell 0
                    have e7 : v6.cell? ⟨J1, 0, none⟩ = some (.int .i64 (mo : Int)) := (V6.out.b.bx (i := 5) rfl).cell 0
                    clear x6 k6 s6 V5 S5 e0))))
          exact ⟨R6.out, V6.out, HBK.out, HLI.out⟩
      · by_cases hbr : i + 1 = mo
        · have k2 : (x.k == 2) = false := by simp [hk2]
          have d5 : ((i : Int) + 1 == (mo : Int)) = true := by simp; omega
          have HE := Lib.hid (show mk 128 fb = mk 128 zeroK by rw [← HFB.out]; exact mk_ext fun j hj => by have := (HBB.out (by have := HLI.out; omega)).2.2.2 hk2; unfold extF zeroK; rw [if_neg (by omega)])
          have HBK := Lib.hid (show i + 1 = mo from hbr)
          clear hk2 hbr
          gi_wp2_with (first
            | (refine wpListIn_round (by rintro ⟨_, _, h⟩; exact h) _ _ _ rfl ?_
               go_wp2_with (first
                 | (with_reducible show wpList _ _ _ (⟨_, Op.build 56 _, _, _, _, _⟩ :: _) _ _
                    refine wpList_sec_build0 rfl rfl ?_)
                 | (with_reducible show wpList _ _ _ (⟨some 12, Op.alloc 56, _, _, _, _⟩ :: _) _ _
                    obtain ⟨J9, hJ9⟩ : ∃ J, V.heap.size = J := ⟨_, rfl⟩
                    refine wpList_boxA_new rowSec rfl rfl J9 hJ9 ?_
                    intro v3 x3 l3 s3
                    have S3 := Lib.hid (show LwB V [bxO J9 56 (cellsOf .u8 (mk 128 zeroK))] v3 from (LwB.none V).add l3 x3 (Nat.le_of_eq hJ9))
                    clear x3 l3 s3 hJ9 e0 e1 c0 c1 c2 c3 c4 c10)
                 | (with_reducible show wpList _ _ _ (⟨_, Op.store 56 (.tmp 12) _, _, _, _, none⟩ :: _) _ _
                    refine wpList_boxA_put rowSec rfl _ _ rfl rfl J9 (cellsOf .u8 (mk 128 zeroK)) (cellsOf .u8 (mk 128 zeroK)) (sec_size _) (sec_one _) (sec_size _) rfl rfl (S3.out.bx (i := 0) rfl) ?_
                    intro v4 x4 k4 s4
                    have S4 := Lib.hid (show LwB V [bxO J9 56 (cellsOf .u8 (mk 128 zeroK))] v4 from S3.out.put 0 rfl x4 k4)
                    have V4 := Lib.hid (HV.out.mono HT.out S4.out.low)
                    obtain ⟨c0, c1, c2, c3, c4, c10⟩ := boxCm (V4.out.b.bx (i := 6) rfl)
                    clear x4 k4 s4 S3)
                 | (with_reducible show wpList _ _ _ (⟨some 84, Op.load 56 _, _, _, _, _⟩ :: _) _ _
                    refine wpList_boxA_loadw rowSec _ rfl rfl J8 (cellsOf .u8 (mk 128 fb)) (sec_size _) rfl (X8.out.keep (S4.out.low.block _ X8.out.lt)) ?_)
                 | (with_reducible show wpList _ _ _ (⟨some 85, Op.load 56 _, _, _, _, _⟩ :: _) _ _
                    refine wpList_boxA_loadw rowSec _ rfl rfl J9 (cellsOf .u8 (mk 128 zeroK)) (sec_size _) rfl (S4.out.bx (i := 0) rfl) ?_)
                 | (with_reducible show wpList _ _ _ (⟨some 86, _, _, _, _, _⟩ :: _) _ _
                    refine wpList_sec_neq rfl _ _ rfl fb zeroK rfl rfl HE.out ?_
                    have e0 : v4.cell? ⟨KB, 0, none⟩ = some (.int .i64 (i : Int)) := (V4.out.b.bx (i := 0) rfl).cell 0)
                 | (with_reducible show wpList _ _ _ (⟨_, Op.store 3 (.tmp 9) _, _, _, _, none⟩ :: _) _ _
                    refine wpList_int_put rfl _ _ rfl rfl KB (i : Int) ((i : Int) + 1) rfl rfl (V4.out.b.bx (i := 0) rfl) ?_
                    intro v6 x6 k6 s6
                    have V6 := Lib.hid (show LoS w w8 (TBl B8 B7 p8) [bxO KB 3 #[.int .i64 ((i : Int) + 1)], bxO MB 3 #[.int .i64 ((M : Nat) : Int)], mkO D, bxO TB 3 #[.int .i64 ((3 : Nat) : Int)], bxO J2 4 #[.bool false], bxO J1 3 #[.int .i64 (mo : Int)], bxO w.heap.size cmT (cmA q n c x)] v6 from V4.out.put HT.out 0 rfl HTO.out x6 k6 s6)
                    have R6 := Lib.hid ((rec_low (w5 := w8) S4.out.low HV2.out).trans (rec_put (w5 := w8) k6 s6 (V4.out.top (i := 0) rfl) (Nat.le_trans HV2.out S4.out.low.size)))
                    have e6 : v6.cell? ⟨KB, 0, none⟩ = some (.int .i64 ((i : Int) + 1)) := (V6.out.b.bx (i := 0) rfl).cell 0
                    have e7 : v6.cell? ⟨J1, 0, none⟩ = some (.int .i64 (mo : Int)) := (V6.out.b.bx (i := 5) rfl).cell 0
                    clear x6 k6 s6 V4 S4 e0))))
          have e8 : (i : Int) + 1 = (mo : Int) := by have := HBK.out; omega
          exact ⟨R6.out, rfl, by have h := V6.out; rw [e8] at h; exact h, by have := HBK.out; have := HLI.out; omega⟩
        · have k2 : (x.k == 2) = false := by simp [hk2]
          have d5 : ((i : Int) + 1 == (mo : Int)) = false := beq_eq_false_iff_ne.2 (by omega)
          have HE := Lib.hid (show mk 128 fb = mk 128 zeroK by rw [← HFB.out]; exact mk_ext fun j hj => by have := (HBB.out (by have := HLI.out; omega)).2.2.2 hk2; unfold extF zeroK; rw [if_neg (by omega)])
          have HBK := Lib.hid (show i + 1 < mo by have := HMI.out; omega)
          clear hk2 hbr
          gi_wp2_with (first
            | (refine wpListIn_round (by rintro ⟨_, _, h⟩; exact h) _ _ _ rfl ?_
               go_wp2_with (first
                 | (with_reducible show wpList _ _ _ (⟨_, Op.build 56 _, _, _, _, _⟩ :: _) _ _
                    refine wpList_sec_build0 rfl rfl ?_)
                 | (with_reducible show wpList _ _ _ (⟨some 12, Op.alloc 56, _, _, _, _⟩ :: _) _ _
                    obtain ⟨J9, hJ9⟩ : ∃ J, V.heap.size = J := ⟨_, rfl⟩
                    refine wpList_boxA_new rowSec rfl rfl J9 hJ9 ?_
                    intro v3 x3 l3 s3
                    have S3 := Lib.hid (show LwB V [bxO J9 56 (cellsOf .u8 (mk 128 zeroK))] v3 from (LwB.none V).add l3 x3 (Nat.le_of_eq hJ9))
                    clear x3 l3 s3 hJ9 e0 e1 c0 c1 c2 c3 c4 c10)
                 | (with_reducible show wpList _ _ _ (⟨_, Op.store 56 (.tmp 12) _, _, _, _, none⟩ :: _) _ _
                    refine wpList_boxA_put rowSec rfl _ _ rfl rfl J9 (cellsOf .u8 (mk 128 zeroK)) (cellsOf .u8 (mk 128 zeroK)) (sec_size _) (sec_one _) (sec_size _) rfl rfl (S3.out.bx (i := 0) rfl) ?_
                    intro v4 x4 k4 s4
                    have S4 := Lib.hid (show LwB V [bxO J9 56 (cellsOf .u8 (mk 128 zeroK))] v4 from S3.out.put 0 rfl x4 k4)
                    have V4 := Lib.hid (HV.out.mono HT.out S4.out.low)
                    obtain ⟨c0, c1, c2, c3, c4, c10⟩ := boxCm (V4.out.b.bx (i := 6) rfl)
                    clear x4 k4 s4 S3)
                 | (with_reducible show wpList _ _ _ (⟨some 84, Op.load 56 _, _, _, _, _⟩ :: _) _ _
                    refine wpList_boxA_loadw rowSec _ rfl rfl J8 (cellsOf .u8 (mk 128 fb)) (sec_size _) rfl (X8.out.keep (S4.out.low.block _ X8.out.lt)) ?_)
                 | (with_reducible show wpList _ _ _ (⟨some 85, Op.load 56 _, _, _, _, _⟩ :: _) _ _
                    refine wpList_boxA_loadw rowSec _ rfl rfl J9 (cellsOf .u8 (mk 128 zeroK)) (sec_size _) rfl (S4.out.bx (i := 0) rfl) ?_)
                 | (with_reducible show wpList _ _ _ (⟨some 86, _, _, _, _, _⟩ :: _) _ _
                    refine wpList_sec_neq rfl _ _ rfl fb zeroK rfl rfl HE.out ?_
                    have e0 : v4.cell? ⟨KB, 0, none⟩ = some (.int .i64 (i : Int)) := (V4.out.b.bx (i := 0) rfl).cell 0)
                 | (with_reducible show wpList _ _ _ (⟨_, Op.store 3 (.tmp 9) _, _, _, _, none⟩ :: _) _ _
                    refine wpList_int_put rfl _ _ rfl rfl KB (i : Int) ((i : Int) + 1) rfl rfl (V4.out.b.bx (i := 0) rfl) ?_
                    intro v6 x6 k6 s6
                    have V6 := Lib.hid (show LoS w w8 (TBl B8 B7 p8) [bxO KB 3 #[.int .i64 ((i : Int) + 1)], bxO MB 3 #[.int .i64 ((M : Nat) : Int)], mkO D, bxO TB 3 #[.int .i64 ((3 : Nat) : Int)], bxO J2 4 #[.bool false], bxO J1 3 #[.int .i64 (mo : Int)], bxO w.heap.size cmT (cmA q n c x)] v6 from V4.out.put HT.out 0 rfl HTO.out x6 k6 s6)
                    have R6 := Lib.hid ((rec_low (w5 := w8) S4.out.low HV2.out).trans (rec_put (w5 := w8) k6 s6 (V4.out.top (i := 0) rfl) (Nat.le_trans HV2.out S4.out.low.size)))
                    have e6 : v6.cell? ⟨KB, 0, none⟩ = some (.int .i64 ((i : Int) + 1)) := (V6.out.b.bx (i := 0) rfl).cell 0
                    have e7 : v6.cell? ⟨J1, 0, none⟩ = some (.int .i64 (mo : Int)) := (V6.out.b.bx (i := 5) rfl).cell 0
                    clear x6 k6 s6 V4 S4 e0))))
          exact ⟨R6.out, V6.out, HBK.out, HLI.out⟩
    case done2 =>
      intro D2 W hD2 hI hd2
      obtain ⟨k, hk, hI⟩ : ∃ k : Nat, k = min mo M ∧ LoS w w8 (TBl B8 B7 p8) [bxO KB 3 #[.int .i64 ((k : Nat) : Int)], bxO MB 3 #[.int .i64 ((M : Nat) : Int)], mkO D, bxO TB 3 #[.int .i64 ((3 : Nat) : Int)], bxO J2 4 #[.bool false], bxO J1 3 #[.int .i64 (mo : Int)], bxO w.heap.size cmT (cmA q n c x)] W := by
        rcases hI with ⟨hI, h1, _⟩ | ⟨hI, h1⟩
        · exact ⟨M, by omega, hI⟩
        · exact ⟨mo, by omega, hI⟩
      have P2 := Lib.hid (hI.mark W8.out hD2 hd2)
      have g1 : W.cell? ⟨TB, 0, none⟩ = some (.int .i64 ((3 : Nat) : Int)) := (hI.b.bx (i := 3) rfl).cell 0
      have g2 : W.cell? ⟨KB, 0, none⟩ = some (.int .i64 (k : Int)) := (hI.b.bx (i := 0) rfl).cell 0
      have g3 : W.cell? ⟨MB, 0, none⟩ = some (.int .i64 (M : Int)) := (hI.b.bx (i := 1) rfl).cell 0
      have g4 : W.cell? ⟨J1, 0, none⟩ = some (.int .i64 (mo : Int)) := (hI.b.bx (i := 5) rfl).cell 0
      have m1 : min (mo : Int) (M : Int) = (k : Int) := by omega
      clear hI hk hD2 hd2 S8 GV HT HTO HBB HM16
      go_wp2_with (first
        | (with_reducible show wpList _ _ _ (⟨_, Op.store 4 _ _, _, _, _, none⟩ :: _) _ _
           refine wpList_bool_put rfl _ _ rfl rfl J2 true false rfl (by first | rfl | (simp; done)) (P2.out.bx (i := 5) rfl) ?_
           intro Z xz kz sz
           have PZ := Lib.hid (show LwB w (mkO D2 :: [bxO KB 3 #[.int .i64 (k : Int)], bxO MB 3 #[.int .i64 (M : Int)], mkO D, bxO TB 3 #[.int .i64 ((3 : Nat) : Int)], bxO J2 4 #[.bool true], bxO J1 3 #[.int .i64 (mo : Int)], bxO w.heap.size cmT (cmA q n c x)]) Z from P2.out.put 5 rfl xz kz)
           clear xz kz sz P2 g1 g2 g3 g4))
      have hd2 := PZ.out.mark (i := 0) rfl
      have hd1 := PZ.out.mark (i := 3) rfl
      have hr : Z.heap[J2]? = some (.cells #[.bool true] 4 (0, 0)) := PZ.out.bx (i := 5) rfl
      have hne : D ≠ D2 := PZ.out.ne (i := 3) (j := 0) rfl rfl (by omega)
      have hb2 : w.heap.size ≤ D2 := (PZ.out.box (i := 0) rfl).2
      have hb1 : w.heap.size ≤ D := (PZ.out.box (i := 3) rfl).2
      refine ⟨by simp, .inl ⟨_, _, rfl, run_takeDeferred hd2, ?_⟩⟩
      have hd3 : (Z.putObj D2 (.deferred none)).heap[D]? = some (.deferred (some [])) := (World.putObj_heap_other hne).trans hd1
      refine ⟨by simp, .inl ⟨_, _, rfl, run_takeDeferred hd3, ?_⟩⟩
      have r1 := cells_turn (o' := .deferred none) hr hd2 rfl
      have r2 := cells_turn (o' := .deferred none) r1 hd3 rfl
      have hc := BoxA.cell (T := 4) (A := #[.bool true]) r2 0
      simp only [List.getElem?_toArray, List.getElem?_cons_zero] at hc
      refine ⟨.bool true, ?_, rfl, below_turn _ (below_turn _ PZ.out.low hb2) hb1⟩
      simp [results, Try.f7, go_sem, hc]
theorem laidOut : laidOutB Try.prog = true := by kernel_rfl
set_option maxRecDepth 100000 in
theorem lifted (os : Os) (started : os.Started) (H : Type) (enc : TypeId × Value → H) :
    ReturnsInHanded {} Try.checked os 7 .any (Rows.cdbBlocksSpec.pre6 enc Try.prog Try.f7 Rows.cdbBlocksRow.domain false) (Rows.cdbBlocksSpec.post enc Try.prog Try.f7 false true false false) := by
  refine returnsInHanded_of_change (C := Try.checked) own started (by kernel_rfl) Try.func7
    (ChangeSpec.witness6 (enc := enc) (C := Try.checked) false ⟨#[], #[.agg #[.int .i64 0, .int .i64 0, .int .i64 0, .int .i64 0, .slice none 0 0, .int .i64 0, .int .i64 0, .int .i64 0, .int .i64 0, .int .i64 0, .bool false], .int .i64 0], []⟩ 8 (by kernel_rfl) (by kernel_rfl) (by kernel_rfl) (by kernel_rfl)) ?_
  intro W base args ds gs before hval0 hW hcnd _
  have hval : ∀ (j : Nat) t v, Try.f7.params[j]? = some t → args[j]? = some v → Value.okWide Try.prog W .any base t v := hval0
  have hW' := hW
  obtain ⟨p, q, hA0, hV, rfl, hfz, hnd⟩ := hW
  have hA : DataW.TrodAll enc Try.prog W 0 (fun _ => true) true Try.f7.params.toList args.toList ds p := hA0
  rw [Try.params7] at hA hval
  obtain ⟨v0, vs0, d0, ds0, p0, q0, hargs, rfl, rfl, h0, r0⟩ := trodAll_cons hA
  obtain ⟨v1, vs1, d1, ds1, p1, q1, rfl, rfl, rfl, h1, r1⟩ := trodAll_cons r0
  obtain ⟨rfl, rfl, rfl⟩ := trodAll_nil r1
  obtain rfl : args = #[v0, v1] := by cases args; simp_all
  obtain ⟨rfl, rfl⟩ := trodVars_none hV
  have k0 := h0
  have lt0 : ∀ x ∈ p0, x.block < W.heap.size := by obtain ⟨m, hm⟩ := k0; exact DataW.trod_lt m _ _ _ hm
  obtain ⟨q0, n0, c0, g0, x0, rfl, w0, u0, y0, b0, m0⟩ := open_cmd (hval 0 26 v0 rfl rfl) h0
  obtain ⟨a1, rfl, rfl, rfl, w1⟩ := open_int Try.underlying3 (hval 1 3 v1 rfl rfl) h1
  clear hA0 hval0
  refine (walk q0 n0 c0 g0 x0 w0 u0 y0 b0 m0 a1 (okI_wf w1)).mono fun e W' ⟨he, bel⟩ => ?_
  subst he
  exact ⟨_, rfl, _, _, _, [], _, [], hW', trodAll_mk1 (shut_bool Try.underlying4 _), (trodAll_cons_mk (Below.trod laidOut (by kernel_rfl) (of_decide_eq_true (by kernel_rfl)) k0 bel lt0) (trodAll_cons_mk (shut_int Try.underlying3 w1) trodAll_mk0)), rfl, bel.frame _, fun h => by cases h⟩

theorem over : Rows.cdbBlocksRow.holds Try.pinned (OpenSpec.ofChange Rows.cdbBlocksSpec) :=
  OpenClaim.holds_of_wide 7 Try.f7 rfl rfl rfl rfl rfl rfl rfl ⟨rfl, rfl, rfl, rfl, rfl⟩ rfl rfl rfl rfl rfl (by kernel_rfl) Try.func7 (by kernel_rfl)
    (of_decide_eq_true (by kernel_rfl)) (by unfold Func.isWrapper; first | (rw [if_pos (by decide +kernel)]; kernel_rfl) | (rw [if_neg (by decide +kernel)]; exact ⟨rfl, rfl⟩))
    (fun os started H enc _ => lifted os started H enc)

theorem proved : Rows.CdbBlocksSaid := over
end cdbBlocks
end Go.Proofs.Ytkibeddfkenlkaa
