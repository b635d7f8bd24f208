/- The contract of bound: no tree verifies another leaf under a root, unless nodes of unlike children have the same tag, or a tag is noughts: the statement TreeBinds, tied to the program's text, where what it reads is of bounded bulk. -/
import Derived.Test.YtbdldnhpgpjnoaaDoorTrBd
import Derived.WalkMore
import Derived.Deep.DeepHandedRow
namespace Go.Proofs.YtbdldnhpgpjnoaaDoor.treeBinds
open Go.ChangeShapes Go.WideShapes Go.ChangeAt Go.RowKit Go.Shelf
attribute [local go_sem] Oper.semAt_some
set_option linter.unusedVariables false
theorem own : ownKnob Tryd.prog.godebug = none := by kernel_rfl
attribute [local irreducible] pn lvF nought sumVal sumC sumsL sumOf leavesL treeL updT tagAt climbF nodeN sameSum pairS
set_option maxRecDepth 100000 in
set_option maxHeartbeats 16000000 in
theorem bound_any (q0 : Option Addr) (n0 c0 : Nat) (a0 : Nat → Nat) (q1 : Option Addr) (n1 c1 : Nat) (a1 : Nat → Nat) (q2 : Option Addr) (n2 c2 : Nat) (a2 : Nat → Nat) (z : Int) (b : Nat) (w : World) (hT : TabAt w) (y0 : BytesIn w q0 n0 c0 a0) (y1 : BytesIn w q1 n1 c1 a1) (y2 : BytesIn w q2 n2 c2 a2) (hb : b < 256) (hn1 : n1 ≤ 1048576) (hn2 : n2 ≤ 1048576) :
    Calls Tryd.prog 25 #[.slice q0 n0 c0, .slice q1 n1 c1, .slice q2 n2 c2, .int .i64 z, .int .u8 b] w fun e w' => e = .returned (.bool true) ∧ Below w.heap.size w w' := by
  by_cases hn : n0 ≤ 1000
  case neg =>
    have d1 : (1000 : Int) < (n0 : Int) := by omega
    have d3 : decide (1000 < n0) = true := decide_eq_true (by omega)
    clear y0 y1 y2 hT hb hn1 hn2
    refine (callsIn_wide (n := 3)).1 ?_
    refine callsIn_of_wp_marks Tryd.func25 rfl trivial ?_ rfl
    simp only [Tryd.ntmps25, List.size_toArray, List.length_cons, List.length_nil, Nat.reduceAdd, Nat.reduceSub, Array.replicate_succ, Array.replicate_zero, List.push_toArray, List.append_toArray, List.nil_append, List.cons_append]
    refine wpIn_wide.2 ?_
    go_wp2_with (first
      | (refine wpList_box_bytes rfl _ rfl q0 n0 c0 rfl w.heap.size rfl ?_; intro w1 hx hb hs
         have K1 := Lib.hid hx; have L1 := Lib.hid hb; have S1 := Lib.hid hs; clear hx hb hs)
      | (refine wpList_alloc_bool rfl rfl (w.heap.size + 1) S1.out ?_; intro w2 hx hb hs
         have K2 := Lib.hid (K1.out.belowM hb (by omega)); have R2 := Lib.hid hx; have L2 := Lib.hid (L1.out.trans (hb.mono (by omega)))
         have kc := K2.out.cell
         clear hx hb hs K1 L1)
      | (refine wpList_store_bool rfl _ _ rfl rfl (w.heap.size + 1) rfl true rfl _ _ R2.out ?_; intro w3 hx hb hs
         have R3 := Lib.hid hx; have L3 := Lib.hid (L2.out.trans (hb.below (by omega) L2.out.size)); clear hx hb hs K2 R2 L2 kc))
    have rc := R3.out.cell
    refine ⟨.bool true, ?_, rfl, L3.out⟩
    simp [results, Tryd.f25, go_sem, rc]
  case pos =>
  have d1 : ¬ ((1000 : Int) < (n0 : Int)) := by omega
  have d3 : decide (1000 < n0) = false := decide_eq_false (by omega)
  obtain ⟨u, k, hu, hk16, hk⟩ := block_num z
  have hk3 : IntKind.i64.wrap (k : Int) = (k : Int) := IntWalk.i64_in _ (by omega)
  have KL := Lib.hid hk
  have HN0 := Lib.hid (show n0 ≤ 80000 by omega)
  have LN := Lib.hid (leavesL_len n1 a1)
  have LM := Lib.hid (leavesL_sum y1.lt)
  have HK := Lib.hid (fun (V : World) (h : Below w.heap.size w V) => (⟨y0.lt, y0.cap, (y0.below h).at', hT.on h⟩ : KeyAt V q0 n0 c0 a0))
  have SU := Lib.hid (fun (V : World) (h : Below w.heap.size w V) => sums_any q1 n1 c1 a1 y1.lt (by omega) V (y1.below h).at')
  have ST := Lib.hid (fun (V : World) (h : Below w.heap.size w V) => sums_any q2 n2 c2 a2 y2.lt (by omega) V (y2.below h).at')
  have Y2 := Lib.hid (fun (V : World) (h : Below w.heap.size w V) => (y2.below h).at')
  have A2 := Lib.hid y2.lt
  have SL := Lib.hid (sumsL_len n1 a1)
  have TL2 := Lib.hid (sumsL_len n2 a2)
  have TM2 := Lib.hid (sumsL_sum y2.lt)
  have SN := Lib.hid hn1
  have SN2 := Lib.hid hn2
  have SO := Lib.hid (fun (V : World) => sums_any (some ⟨V.heap.size, 0, none⟩) 1 1 (fun _ => b) (fun _ _ => hb) (by decide) (V.alloc (.cells #[.int .u8 b] 5)) (one_bytes V b))
  have LV := Lib.hid (fun (V : World) base top v h => leaves_at (w := V) (base := base) (top := top) (v := v) (n := n1) (g := a1) h)
  have OS := Lib.hid (show IsSum (sumOf b) from sumOf_sum hb)
  clear hT y0 y1 y2 hb hn1 hn2 hn
  generalize leavesL n1 a1 = L at *
  generalize hO : sumOf b = o at *
  have OE := Lib.hid hO
  clear hO
  have BA := Lib.hid (fun (V : World) (h : Below w.heap.size w V) pp c hr => Build_any q0 n0 c0 a0 HN0.out pp c L LN.out LM.out V (HK.out V h) hr)
  have TN := Lib.hid (treeL_len n0 a0 L)
  have TM := Lib.hid (treeL_sum (n := n0) (g := a0) LN.out LM.out)
  have BR := Lib.hid (built_root (n := n0) (g := a0) (m := L) hk)
  generalize treeL n0 a0 L = T at *
  generalize sumsL n2 a2 = X at *
  clear hk
  generalize hS : w.heap.size = S at *
  have HS := Lib.hid hS
  clear hS
  refine (callsIn_wide (n := 3)).1 ?_
  refine callsIn_of_wp_marks Tryd.func25 rfl trivial ?_ rfl
  simp only [Tryd.ntmps25, List.size_toArray, List.length_cons, List.length_nil, Nat.reduceAdd, Nat.reduceSub, Array.replicate_succ, Array.replicate_zero, List.push_toArray, List.append_toArray, List.nil_append, List.cons_append]
  refine wpIn_wide.2 ?_
  go_wp2_with (first
    | (refine wpList_box_bytes rfl _ rfl q0 n0 c0 rfl S HS.out ?_; intro w1 hx hb hs
       have K1 := Lib.hid hx; have B1 := Lib.hid hb; have S1 := Lib.hid hs; clear hx hb hs)
    | (refine wpList_alloc_bool rfl rfl (S + 1) S1.out ?_; intro w2 hx hb hs
       have K2 := Lib.hid (K1.out.belowM hb (by omega)); have R2 := Lib.hid hx; have B2 := Lib.hid (B1.out.trans (hb.mono (by omega))); have S2 := Lib.hid (show w2.heap.size = S + 2 from hs)
       have k2 := K2.out.cell
       clear hx hb hs K1 B1 S1)
    | (go_at_call 18; refine (SU.out _ B2.out).mono ?_; rintro e w3 ⟨Bs, cs, rfl, ho, hb⟩
       have K3 := Lib.hid (K2.out.below hb); have R3 := Lib.hid (R2.out.below hb); have B3 := Lib.hid (B2.out.trans (hb.mono (HS.out ▸ B2.out.size)))
       have O3 := Lib.hid ho; have SZ3 := Lib.hid hb.size; clear ho hb SU k2 K2 R2 B2)
    | (refine wpList_append_nils rfl _ _ rfl _ _ n1 cs Bs _ 16 rfl rfl O3.out (by rw [SL.out]; have := SN.out; omega) SZ3.out ?_
       intro v4 w4 ho hb
       obtain ⟨Bl, cl, rfl, hcl, hB1, -, hs⟩ := LV.out w4 _ _ _ ho
       have CL := Lib.hid hcl; have L4 := Lib.hid hs
       have K4 := Lib.hid (K3.out.belowM hb (by have := S2.out; omega)); have R4 := Lib.hid (R3.out.belowM hb (by have := S2.out; omega)); have B4 := Lib.hid (B3.out.trans (hb.mono (by have := S2.out; omega)))
       have FAR := Lib.hid (show S + 2 ≤ Bl by have := S2.out; omega)
       have k4 := K4.out.cell
       clear ho hb hcl hB1 hs O3 B3 SZ3 K3 R3 S2)
    | (refine wpList_sums_upto rfl _ _ rfl Bl (n1 + 16) cl 16 rfl rfl CL.out ?_)
    | (go_at_call 15; refine (BA.out w4 B4.out _ _ L4.out.at).mono ?_; rintro e w5 ⟨rfl, ht, hb⟩
       have K5 := Lib.hid (K4.out.below hb); have R5 := Lib.hid (R4.out.below hb); have L5 := Lib.hid (L4.out.below hb); have B5 := Lib.hid (B4.out.trans (hb.mono (HS.out ▸ B4.out.size))); have T5 := Lib.hid ht
       have FAR5 := Lib.hid (show S + 2 ≤ Bl ∧ Bl < w4.heap.size from ⟨FAR.out, L4.out.lt⟩)
       clear ht hb BA k4 K4 R4 L4 B4 FAR
       generalize w4.heap.size = Bt at *
       have FAR := FAR5
       clear FAR5)
    | (refine wpList_alloc_sums rfl rfl w5.heap.size rfl ?_; intro w6 hx hb hs
       have K6 := Lib.hid (K5.out.below hb); have R6 := Lib.hid (R5.out.below hb); have L6 := Lib.hid (L5.out.below hb); have T6 := Lib.hid (T5.out.below hb); have B6 := Lib.hid (B5.out.trans (hb.mono (HS.out ▸ B5.out.size))); have X6 := Lib.hid hx
       have FAR5 := Lib.hid (show S + 2 ≤ Bl ∧ Bl < Bt ∧ Bt < w5.heap.size from ⟨FAR.out.1, FAR.out.2, T5.out.lt⟩)
       have SZ := Lib.hid hs
       clear hx hb hs K5 R5 L5 T5 B5 FAR
       generalize w5.heap.size = TX at *
       have FAR := FAR5
       clear FAR5)
    | (refine wpList_store_sums rfl _ _ rfl rfl TX rfl (some ⟨Bt, 0, none⟩) 32 32 rfl _ _ X6.out ?_; intro w7 hx hb hs
       have K7 := Lib.hid (K6.out.but hb (by have := FAR.out; omega)); have R7 := Lib.hid (R6.out.but hb (by have := FAR.out; omega)); have L7 := Lib.hid (L6.out.but hb (by have := FAR.out; omega)); have T7 := Lib.hid (T6.out.but hb (by have := FAR.out; omega)); have B7 := Lib.hid (B6.out.trans (hb.below (by have := FAR.out; omega) (HS.out ▸ B6.out.size))); have X7 := Lib.hid hx
       have x7 := X7.out.cell
       clear hx hb hs K6 R6 L6 T6 B6 X6 SZ)
    | (refine wpList_alloc_int rfl rfl w7.heap.size rfl ?_; intro w8 hx hb hs
       have K8 := Lib.hid (K7.out.below hb); have R8 := Lib.hid (R7.out.below hb); have X8 := Lib.hid (X7.out.below hb); have L8 := Lib.hid (L7.out.below hb); have T8 := Lib.hid (T7.out.below hb); have B8 := Lib.hid (B7.out.trans (hb.mono (HS.out ▸ B7.out.size))); have N8 := Lib.hid hx
       have FAR5 := Lib.hid (show S + 2 ≤ Bl ∧ Bl < Bt ∧ Bt < TX ∧ TX < w7.heap.size from ⟨FAR.out.1, FAR.out.2.1, FAR.out.2.2, X7.out.lt⟩)
       clear hx hb hs K7 R7 X7 L7 T7 B7 FAR x7
       generalize w7.heap.size = NX at *
       have FAR := FAR5
       clear FAR5)
    | (refine wpList_store_int rfl _ _ rfl rfl NX rfl (k : Int) rfl _ _ N8.out ?_; intro w9 hx hb hs
       have K9 := Lib.hid (K8.out.but hb (by have := FAR.out; omega)); have R9 := Lib.hid (R8.out.but hb (by have := FAR.out; omega)); have X9 := Lib.hid (X8.out.but hb (by have := FAR.out; omega)); have L9 := Lib.hid (L8.out.but hb (by have := FAR.out; omega)); have T9 := Lib.hid (T8.out.but hb (by have := FAR.out; omega)); have B9 := Lib.hid (B8.out.trans (hb.below (by have := FAR.out; omega) (HS.out ▸ B8.out.size))); have N9 := Lib.hid hx
       clear hx hb hs K8 R8 X8 L8 T8 B8 N8)
    | (go_at_call 18; refine (SO.out w9).mono ?_; rintro e w10 ⟨Bo, co, e10, ho, hb1⟩
       cases e10
       obtain ⟨B', c', e10, hs⟩ := sums_one ho
       rw [OE.out] at hs
       cases e10
       have hb : Below w9.heap.size w9 w10 := ((Below.refl _ w9).alloc (Nat.le_refl _) _).trans (hb1.mono (by simp))
       have K10 := Lib.hid (K9.out.below hb); have R10 := Lib.hid (R9.out.below hb); have X10 := Lib.hid (X9.out.below hb); have N10 := Lib.hid (N9.out.below hb); have L10 := Lib.hid (L9.out.below hb); have T10 := Lib.hid (T9.out.below hb); have B10 := Lib.hid (B9.out.trans (hb.mono (HS.out ▸ B9.out.size))); have Q10 := Lib.hid hs
       clear ho hb hb1 hs SO K9 R9 X9 N9 L9 T9 B9)
    | (refine wpList_sum_elem0 rfl _ _ rfl Bo 1 co 0 rfl rfl (by decide) ?_)
    | (refine wpList_sum_load rfl _ rfl Bo 0 rfl o Q10.out.one ?_)
    | (refine wpList_sum_alloc rfl rfl w10.heap.size rfl ?_; intro w11 hx hb hs
       have K11 := Lib.hid (K10.out.below hb); have R11 := Lib.hid (R10.out.below hb); have X11 := Lib.hid (X10.out.below hb); have N11 := Lib.hid (N10.out.below hb); have L11 := Lib.hid (L10.out.below hb); have T11 := Lib.hid (T10.out.below hb); have B11 := Lib.hid (B10.out.trans (hb.mono (HS.out ▸ B10.out.size))); have P11 := Lib.hid hx
       have FAR5 := Lib.hid (show S + 2 ≤ Bl ∧ Bl < Bt ∧ Bt < TX ∧ TX < NX ∧ NX < w10.heap.size from ⟨FAR.out.1, FAR.out.2.1, FAR.out.2.2.1, FAR.out.2.2.2, N10.out.lt⟩)
       clear hx hb hs K10 R10 X10 N10 L10 T10 B10 Q10 FAR
       generalize w10.heap.size = OX at *
       have FAR := FAR5
       clear FAR5)
    | (refine wpList_sum_store rfl _ _ rfl rfl OX 0 rfl o rfl [nought] P11.out (by simp) ?_; intro w12 hx hb hs
       have K12 := Lib.hid (K11.out.but hb (by have := FAR.out; omega)); have R12 := Lib.hid (R11.out.but hb (by have := FAR.out; omega)); have X12 := Lib.hid (X11.out.but hb (by have := FAR.out; omega)); have N12 := Lib.hid (N11.out.but hb (by have := FAR.out; omega)); have L12 := Lib.hid (L11.out.but hb (by have := FAR.out; omega)); have T12 := Lib.hid (T11.out.but hb (by have := FAR.out; omega)); have B12 := Lib.hid (B11.out.trans (hb.below (by have := FAR.out; omega) (HS.out ▸ B11.out.size))); have P12 := Lib.hid (show SumsB w12 OX [o] from hx)
       have x12 := X12.out.cell
       clear hx hb hs K11 R11 X11 N11 L11 T11 B11 P11)
    | (refine wpList_list0 elemSum rfl rfl ?_
       have O13 := Lib.hid (OwnL.empty 27 32 sumC w12 w12.heap.size (Nat.le_refl _))
       have hb : Below w12.heap.size w12 (w12.alloc (.cells #[] 27)) := (Below.refl _ _).alloc (Nat.le_refl _) _
       have S13 := Lib.hid (show (w12.alloc (.cells #[] 27)).heap.size = w12.heap.size + 1 from World.size_alloc _ _)
       generalize w12.alloc (.cells #[] 27) = w13 at *
       have K13 := Lib.hid (K12.out.below hb); have R13 := Lib.hid (R12.out.below hb); have X13 := Lib.hid (X12.out.below hb); have N13 := Lib.hid (N12.out.below hb); have L13 := Lib.hid (L12.out.below hb); have T13 := Lib.hid (T12.out.below hb); have P13 := Lib.hid (P12.out.below hb); have B13 := Lib.hid (B12.out.trans (hb.mono (HS.out ▸ B12.out.size)))
       have x13 := X13.out.cell
       have PL := Lib.hid P12.out.lt
       clear hb K12 R12 X12 N12 L12 T12 P12 B12 x12)
    | (refine wpList_grow elemSum rfl _ _ rfl w12.heap.size w13.heap.size _ [] T (some ⟨Bt, 0, none⟩) 32 32 rfl rfl TN.out.symm (S13.out ▸ O13.out) T13.out.at (by rw [TN.out]; decide) (by decide) (by rw [S13.out]; omega) ?_
       intro v14 w14 ho hb
       rw [List.nil_append] at ho
       obtain ⟨Bu, cu, rfl, hB1, -, hs⟩ := own_sums32 ho TN.out
       have SZ := Lib.hid (show OX < w12.heap.size from PL.out)
       have K14 := Lib.hid (K13.out.belowM hb (by have := FAR.out; have := SZ.out; omega)); have R14 := Lib.hid (R13.out.belowM hb (by have := FAR.out; have := SZ.out; omega)); have X14 := Lib.hid (X13.out.belowM hb (by have := FAR.out; have := SZ.out; omega)); have N14 := Lib.hid (N13.out.belowM hb (by have := FAR.out; have := SZ.out; omega)); have L14 := Lib.hid (L13.out.belowM hb (by have := FAR.out; have := SZ.out; omega)); have T14 := Lib.hid (T13.out.belowM hb (by have := FAR.out; have := SZ.out; omega)); have P14 := Lib.hid (P13.out.belowM hb (by have := FAR.out; have := SZ.out; omega)); have B14 := Lib.hid (B13.out.trans (hb.mono (by have := FAR.out; have := SZ.out; omega))); have U14 := Lib.hid hs
       have FAR5 := Lib.hid (show S + 2 ≤ Bl ∧ Bl < Bt ∧ Bt < TX ∧ TX < NX ∧ NX < OX ∧ OX < Bu from ⟨FAR.out.1, FAR.out.2.1, FAR.out.2.2.1, FAR.out.2.2.2.1, FAR.out.2.2.2.2, by have := SZ.out; omega⟩)
       clear ho hb hB1 hs O13 S13 x13 PL SZ K13 R13 X13 N13 L13 T13 P13 B13 FAR
       have FAR := FAR5
       clear FAR5)
    | (refine wpList_alloc_sums rfl rfl w14.heap.size rfl ?_; intro w15 hx hb hs
       have K15 := Lib.hid (K14.out.below hb); have R15 := Lib.hid (R14.out.below hb); have X15 := Lib.hid (X14.out.below hb); have N15 := Lib.hid (N14.out.below hb); have L15 := Lib.hid (L14.out.below hb); have T15 := Lib.hid (T14.out.below hb); have P15 := Lib.hid (P14.out.below hb); have U15 := Lib.hid (U14.out.below hb); have B15 := Lib.hid (B14.out.trans (hb.mono (HS.out ▸ B14.out.size))); have Y15 := Lib.hid hx
       have FAR5 := Lib.hid (show S + 2 ≤ Bl ∧ Bl < Bt ∧ Bt < TX ∧ TX < NX ∧ NX < OX ∧ OX < Bu ∧ Bu < w14.heap.size from ⟨FAR.out.1, FAR.out.2.1, FAR.out.2.2.1, FAR.out.2.2.2.1, FAR.out.2.2.2.2.1, FAR.out.2.2.2.2.2, U14.out.lt⟩)
       clear hx hb hs K14 R14 X14 N14 L14 T14 P14 U14 B14 FAR
       generalize w14.heap.size = UX at *
       have FAR := FAR5
       clear FAR5)
    | (refine wpList_store_sums rfl _ _ rfl rfl UX rfl (some ⟨Bu, 0, none⟩) 32 cu rfl _ _ Y15.out ?_; intro w16 hx hb hs
       have K16 := Lib.hid (K15.out.but hb (by have := FAR.out; omega)); have R16 := Lib.hid (R15.out.but hb (by have := FAR.out; omega)); have X16 := Lib.hid (X15.out.but hb (by have := FAR.out; omega)); have N16 := Lib.hid (N15.out.but hb (by have := FAR.out; omega)); have L16 := Lib.hid (L15.out.but hb (by have := FAR.out; omega)); have T16 := Lib.hid (T15.out.but hb (by have := FAR.out; omega)); have P16 := Lib.hid (P15.out.but hb (by have := FAR.out; omega)); have U16 := Lib.hid (U15.out.but hb (by have := FAR.out; omega)); have B16 := Lib.hid (B15.out.trans (hb.below (by have := FAR.out; omega) (HS.out ▸ B15.out.size)))
       have D16 := Lib.hid (show Bd w q0 n0 c0 TX NX OX UX Bl Bt Bu cu k o L T T w16 from ⟨HS.out.symm ▸ K16.out, HS.out.symm ▸ R16.out, X16.out, N16.out, P16.out, hx, L16.out, T16.out, U16.out, HS.out.symm ▸ B16.out, by rw [HS.out]; have := FAR.out; have := hx.lt; omega⟩)
       clear hx hb hs K15 R15 X15 N15 L15 T15 P15 U15 B15 Y15 K16 R16 X16 N16 L16 T16 P16 U16 B16)
    | (go_at_call 18; refine (ST.out w16 (HS.out ▸ D16.out.low)).mono ?_; rintro e w17 ⟨Bs, cs, rfl, ho, hb⟩
       have D17 := Lib.hid (D16.out.on hb)
       have T17 := Lib.hid (show n2 = 0 ∨ (UX < Bs ∧ SumsB w17 Bs X) from (own_sumsAny ho).elim (fun h => .inl (TL2.out ▸ h)) fun h => .inr ⟨Nat.lt_of_lt_of_le D16.out.far.2.2.2.2.2.2.2 h.1, h.2⟩)
       clear ho hb D16 ST))
  go_loopw [60] (fun v60 wr => ∃ (i : Nat) (U : List (List Int)), i ≤ n2 ∧ v60 = .int .i64 i ∧ U.length = 32 ∧ (∀ t ∈ U, IsSum t) ∧ Bd w q0 n0 c0 TX NX OX UX Bl Bt Bu cu k o L T U wr ∧ (n2 = 0 ∨ (UX < Bs ∧ SumsB wr Bs X))) (fun v60 _ => n2 - (intOf v60).toNat)
  case atStart => exact ⟨0, T, Nat.zero_le _, rfl, TN.out, TM.out, D17.out, T17.out⟩
  case round =>
    obtain ⟨i, U, hi, rfl, hU, hUM, hd, hx⟩ := hrel
    have D := Lib.hid hd; have XS := Lib.hid hx; have UN := Lib.hid hU; have UM := Lib.hid hUM
    clear hd hx hU hUM D17 T17
    by_cases hlt : i < n2
    · have f1 : (i : Int) < (n2 : Int) := by omega
      have f2 : (0 : Int) ≤ i := by omega
      have HLT := Lib.hid hlt
      have f3 : IntKind.i64.wrap ((i : Int) + 1) = ((i + 1 : Nat) : Int) := by have := SN2.out; rw [IntWalk.i64_in _ (by omega)]; omega
      obtain ⟨hUX, hsx⟩ : UX < Bs ∧ SumsB wr Bs X := XS.out.resolve_left (by omega)
      have SX := Lib.hid hsx; have HUX := Lib.hid hUX
      obtain ⟨Bq, oq, rfl, -, -⟩ := (Y2.out wr (HS.out ▸ D.out.low)).resolve_left (by omega)
      have TMX := Lib.hid (tagAt_sum TM2.out (i := i) (by rw [TL2.out]; exact hlt))
      have AV := Lib.hid (A2.out i hlt)
      have YC := Lib.hid (fun (V : World) (h : Below S w V) => show V.cell? ⟨Bq, oq + i, none⟩ = some (.int .u8 (a2 i : Nat)) from by
        obtain ⟨B', o', e, -, hc⟩ := (Y2.out V h).resolve_left (by omega)
        cases e
        exact hc i hlt)
      have SXR := Lib.hid (show wr.rangeAt Bs (32 * i) (sumC (tagAt X i)) from hsx.tag (by rw [TL2.out]; exact hlt))
      generalize tagAt X i = s at *
      clear hlt hsx hUX XS
      generalize a2 i = v at *
      by_cases h32 : i < 32
      · have g1 : decide ((i : Int) < 32) = true := decide_eq_true (by omega)
        have g2 : decide (i < 32) = true := decide_eq_true h32
        have H32 := Lib.hid h32
        by_cases hp : 0 < v
        · have g3 : decide ((0 : Int) < (v : Int)) = true := decide_eq_true (by omega)
          have g4 : decide (0 < v) = true := decide_eq_true hp
          clear h32 hp
          go_wp2_with (first
                  | (refine wpList_sum_elem0 rfl _ _ rfl Bs n2 cs i rfl rfl HLT.out ?_)
                  | (refine wpList_sum_load rfl _ rfl Bs (32 * i) rfl s SXR.out ?_)
                  | (refine wpList_sum_alloc rfl rfl wr.heap.size rfl ?_; intro w20 hx hb hs
                     have D20 := Lib.hid (D.out.on hb); have SX20 := Lib.hid (SX.out.below hb); have P20 := Lib.hid hx; have FQ := Lib.hid (show UX < wr.heap.size ∧ Bs < wr.heap.size from ⟨D.out.far.2.2.2.2.2.2.2, SX.out.lt⟩)
                     clear hx hb hs D SX SXR
                     generalize wr.heap.size = PX at *)
                  | (refine wpList_sum_store rfl _ _ rfl rfl PX 0 rfl s rfl [nought] P20.out (by simp) ?_; intro w21 hx hb hs
                     have D21 := Lib.hid (D20.out.but hb FQ.out.1); have SX21 := Lib.hid (SX20.out.but hb (by have := FQ.out; omega)); have P21 := Lib.hid (show SumsB w21 PX [s] from hx)
                     have ux := D21.out.ux.cell
                     have cs21 := YC.out w21 (HS.out ▸ D21.out.low)
                     clear hx hb hs D20 SX20 P20 YC)
                  | (refine wpList_sum_load rfl _ rfl PX 0 rfl s P21.out.one ?_)
                  | (refine wpList_sum_elem0 rfl _ _ rfl Bu 32 cu i rfl rfl H32.out ?_)
                  | (refine wpList_sum_store rfl _ _ rfl rfl Bu i rfl s rfl U D21.out.u (by rw [UN.out]; exact H32.out) ?_; intro w22 hx hb hs
                     have D22 := Lib.hid (D21.out.put hx hb); have SX22 := Lib.hid (SX21.out.but hb (by have := HUX.out; have := D21.out.far; omega))
                     clear hx hb hs D21 SX21 P21 ux cs21))
          go_roundw
          case rel => exact ⟨i + 1, U.set i s, HLT.out, by go_num, by rw [List.length_set]; exact UN.out, leaves_set_sum UM.out TMX.out i, D22.out, .inr ⟨HUX.out, SX22.out⟩⟩
          case measure => have := HLT.out; simp [intOf]; omega
        · have g3 : decide ((0 : Int) < (v : Int)) = false := decide_eq_false (by omega)
          have g4 : decide (0 < v) = false := decide_eq_false hp
          clear h32 hp
          go_wp2_with (first
                  | (refine wpList_sum_elem0 rfl _ _ rfl Bs n2 cs i rfl rfl HLT.out ?_)
                  | (refine wpList_sum_load rfl _ rfl Bs (32 * i) rfl s SXR.out ?_)
                  | (refine wpList_sum_alloc rfl rfl wr.heap.size rfl ?_; intro w20 hx hb hs
                     have D20 := Lib.hid (D.out.on hb); have SX20 := Lib.hid (SX.out.below hb); have P20 := Lib.hid hx; have FQ := Lib.hid (show UX < wr.heap.size ∧ Bs < wr.heap.size from ⟨D.out.far.2.2.2.2.2.2.2, SX.out.lt⟩)
                     clear hx hb hs D SX SXR
                     generalize wr.heap.size = PX at *)
                  | (refine wpList_sum_store rfl _ _ rfl rfl PX 0 rfl s rfl [nought] P20.out (by simp) ?_; intro w21 hx hb hs
                     have D21 := Lib.hid (D20.out.but hb FQ.out.1); have SX21 := Lib.hid (SX20.out.but hb (by have := FQ.out; omega)); have P21 := Lib.hid (show SumsB w21 PX [s] from hx)
                     have ux := D21.out.ux.cell
                     have cs21 := YC.out w21 (HS.out ▸ D21.out.low)
                     clear hx hb hs D20 SX20 P20 YC))
          go_roundw
          case rel => exact ⟨i + 1, U, HLT.out, by go_num, UN.out, UM.out, D21.out, .inr ⟨HUX.out, SX21.out⟩⟩
          case measure => have := HLT.out; simp [intOf]; omega
      · have g1 : decide ((i : Int) < 32) = false := decide_eq_false (by omega)
        have g2 : decide (i < 32) = false := decide_eq_false h32
        clear h32
        go_wp2_with (first
                | (refine wpList_sum_elem0 rfl _ _ rfl Bs n2 cs i rfl rfl HLT.out ?_)
                | (refine wpList_sum_load rfl _ rfl Bs (32 * i) rfl s SXR.out ?_)
                | (refine wpList_sum_alloc rfl rfl wr.heap.size rfl ?_; intro w20 hx hb hs
                   have D20 := Lib.hid (D.out.on hb); have SX20 := Lib.hid (SX.out.below hb); have P20 := Lib.hid hx; have FQ := Lib.hid (show UX < wr.heap.size ∧ Bs < wr.heap.size from ⟨D.out.far.2.2.2.2.2.2.2, SX.out.lt⟩)
                   clear hx hb hs D SX SXR
                   generalize wr.heap.size = PX at *)
                | (refine wpList_sum_store rfl _ _ rfl rfl PX 0 rfl s rfl [nought] P20.out (by simp) ?_; intro w21 hx hb hs
                   have D21 := Lib.hid (D20.out.but hb FQ.out.1); have SX21 := Lib.hid (SX20.out.but hb (by have := FQ.out; omega)); have P21 := Lib.hid (show SumsB w21 PX [s] from hx)
                   have ux := D21.out.ux.cell
                   have cs21 := YC.out w21 (HS.out ▸ D21.out.low)
                   clear hx hb hs D20 SX20 P20 YC))
        go_roundw
        case rel => exact ⟨i + 1, U, HLT.out, by go_num, UN.out, UM.out, D21.out, .inr ⟨HUX.out, SX21.out⟩⟩
        case measure => have := HLT.out; simp [intOf]; omega
    · obtain rfl : i = n2 := by omega
      have f1 : ¬ ((i : Nat) : Int) < ((i : Nat) : Int) := by omega
      clear hlt XS Y2 A2
      have NA := Lib.hid (fun (V : World) (h : Below S w V) (j : Nat) (x y : List Int) (hx : IsSum x) (hy : IsSum y) => show Calls Tryd.prog 28 #[.slice q0 n0 c0, .int .i64 j, sumVal x, sumVal y] V fun e w' => e = .returned (sumVal (nodeN n0 a0 j x y)) ∧ Below V.heap.size V w' from by
        have h1 := Node_any q0 n0 c0 a0 HN0.out (j : Int) x y hx hy V (HK.out V h)
        unfold nodeN
        exact h1)
      have VA := Lib.hid (fun (V : World) (h : Below S w V) pp c hr => Verify_any q0 n0 c0 a0 HN0.out pp c U UN.out UM.out (tagAt T 1) (tagAt_sum TM.out (by rw [TN.out]; decide)) k KL.out o OS.out V (HK.out V h) hr)
      have LKS := Lib.hid (show IsSum (tagAt L k) from tagAt_sum LM.out (by rw [LN.out]; exact KL.out))
      go_wp2
      have D25 := Lib.hid (D.out.on (show Below wr.heap.size wr wr.drew from (Below.refl _ _).drew))
      clear D
      by_cases ho : o = tagAt L k
      case pos =>
        have EQ := Lib.hid (show sameSum o (tagAt L k) = true by rw [← ho]; exact sameSum_self o)
        clear ho
        refine wp_region_sched [(0, true), (1, true), (2, true), (3, true), (4, true), (5, true), (6, true), (7, true), (8, true), (9, true), (10, true), (11, true), (12, true), (13, true), (14, false), (15, true), (16, true)] (fun W => Bd w q0 n0 c0 TX NX OX UX Bl Bt Bu cu k o L T U W) (by kernel_rfl) (by kernel_rfl) (D25.out) ?_
        refine walk_float rfl rfl (fun K' hK => ?_)
        refine gives_sum_mid _ rfl OX 0 rfl o (fun W h => h.ox.one) ?_
        go_simp
        refine hK _ ?_
        clear hK K'
        refine walk_float rfl rfl (fun K' hK => ?_)
        refine gives_move _ rfl ?_
        go_simp
        refine hK _ ?_
        clear hK K'
        refine walk_float rfl rfl (fun K' hK => ?_)
        refine gives_cell _ _ rfl ⟨NX, 0, none⟩ _ rfl box_int (fun W h => h.nx.cell) ?_
        go_simp
        refine hK _ ?_
        clear hK K'
        refine walk_float rfl rfl (fun K' hK => ?_)
        refine gives_sum_elem _ _ rfl Bl 0 16 cl k rfl rfl KL.out ?_
        go_simp
        refine hK _ ?_
        clear hK K'
        refine walk_float rfl rfl (fun K' hK => ?_)
        refine gives_sum_mid _ rfl Bl (32 * k) rfl (tagAt L k) (fun W h => h.l.tag (k := k) (by rw [LN.out]; exact KL.out)) ?_
        go_simp
        refine hK _ ?_
        clear hK K'
        refine walk_float rfl rfl (fun K' hK => ?_)
        refine gives_sum_eql2 _ _ rfl o (tagAt L k) rfl rfl true EQ.out ?_
        go_simp
        refine hK _ ?_
        clear hK K'
        refine walk_float rfl rfl (fun K' hK => ?_)
        refine gives_move _ rfl ?_
        go_simp
        refine hK _ ?_
        clear hK K'
        refine walk_off rfl rfl ?_
        go_simp
        refine walk_off rfl rfl ?_
        go_simp
        refine walk_off rfl rfl ?_
        go_simp
        refine walk_off rfl rfl ?_
        go_simp
        refine walk_off rfl rfl ?_
        go_simp
        refine walk_off rfl rfl ?_
        go_simp
        refine walk_off rfl rfl ?_
        go_simp
        refine walk_off' rfl rfl ?_
        go_simp
        refine walk_off rfl rfl ?_
        go_simp
        refine walk_float rfl rfl (fun K' hK => ?_)
        refine gives_pickT _ _ _ rfl rfl (.bool true) rfl ?_
        go_simp
        refine hK _ ?_
        clear hK K'
        refine walk_nil ?_
        go_wp2_with (first
          | (refine wpList_store_bool rfl _ _ rfl rfl (S + 1) rfl true rfl _ _ (HS.out ▸ D25.out.rb) ?_; intro w40 hx hb hs
             have R40 := Lib.hid hx; have B40 := Lib.hid ((HS.out ▸ D25.out.low : Below S w _).trans (hb.below (by omega) (HS.out ▸ D25.out.low.size))); clear hx hb hs))
        have rc := R40.out.cell
        refine ⟨.bool true, ?_, rfl, B40.out⟩
        simp [results, Tryd.f25, go_sem, rc]
      case neg =>
        have EQ := Lib.hid (show sameSum o (tagAt L k) = false from same_not OS.out LKS.out ho)
        have HNE := Lib.hid ho
        obtain ⟨v, hv⟩ : ∃ v : Bool, decide (climbF (nodeN n0 a0) (tagAt U) k o 4 = tagAt T 1) = v := ⟨_, rfl⟩
        have HV := Lib.hid hv
        clear ho hv
        refine wp_region_sched [(0, true), (1, true), (2, true), (3, true), (4, true), (5, true), (6, true), (7, true), (8, true), (9, true), (10, true), (11, true), (12, true), (13, true), (14, false), (15, true), (16, true)] (fun W => Bd w q0 n0 c0 TX NX OX UX Bl Bt Bu cu k o L T U W) (by kernel_rfl) (by kernel_rfl) (D25.out) ?_
        refine walk_float rfl rfl (fun K' hK => ?_)
        refine gives_sum_mid _ rfl OX 0 rfl o (fun W h => h.ox.one) ?_
        go_simp
        refine hK _ ?_
        clear hK K'
        refine walk_float rfl rfl (fun K' hK => ?_)
        refine gives_move _ rfl ?_
        go_simp
        refine hK _ ?_
        clear hK K'
        refine walk_float rfl rfl (fun K' hK => ?_)
        refine gives_cell _ _ rfl ⟨NX, 0, none⟩ _ rfl box_int (fun W h => h.nx.cell) ?_
        go_simp
        refine hK _ ?_
        clear hK K'
        refine walk_float rfl rfl (fun K' hK => ?_)
        refine gives_sum_elem _ _ rfl Bl 0 16 cl k rfl rfl KL.out ?_
        go_simp
        refine hK _ ?_
        clear hK K'
        refine walk_float rfl rfl (fun K' hK => ?_)
        refine gives_sum_mid _ rfl Bl (32 * k) rfl (tagAt L k) (fun W h => h.l.tag (k := k) (by rw [LN.out]; exact KL.out)) ?_
        go_simp
        refine hK _ ?_
        clear hK K'
        refine walk_float rfl rfl (fun K' hK => ?_)
        refine gives_sum_eql2 _ _ rfl o (tagAt L k) rfl rfl false EQ.out ?_
        go_simp
        refine hK _ ?_
        clear hK K'
        refine walk_float rfl rfl (fun K' hK => ?_)
        refine gives_move _ rfl ?_
        go_simp
        refine hK _ ?_
        clear hK K'
        refine walk_float rfl rfl (fun K' hK => ?_)
        refine gives_cell _ _ rfl ⟨S, 0, none⟩ _ rfl box_bytes (fun W h => HS.out ▸ h.kb.cell) ?_
        go_simp
        refine hK _ ?_
        clear hK K'
        refine walk_float rfl rfl (fun K' hK => ?_)
        refine gives_cell _ _ rfl ⟨UX, 0, none⟩ _ rfl box_sums (fun W h => h.ux.cell) ?_
        go_simp
        refine hK _ ?_
        clear hK K'
        refine walk_float rfl rfl (fun K' hK => ?_)
        refine gives_cell _ _ rfl ⟨TX, 0, none⟩ _ rfl box_sums (fun W h => h.tx.cell) ?_
        go_simp
        refine hK _ ?_
        clear hK K'
        refine walk_float rfl rfl (fun K' hK => ?_)
        refine gives_sum_elem _ _ rfl Bt 0 32 32 1 rfl rfl (by decide) ?_
        go_simp
        refine hK _ ?_
        clear hK K'
        refine walk_float rfl rfl (fun K' hK => ?_)
        refine gives_sum_mid _ rfl Bt 32 rfl (tagAt T 1) (fun W h => h.t.tag (k := 1) (by rw [TN.out]; decide)) ?_
        go_simp
        refine hK _ ?_
        clear hK K'
        refine walk_float rfl rfl (fun K' hK => ?_)
        refine gives_cell _ _ rfl ⟨NX, 0, none⟩ _ rfl box_int (fun W h => h.nx.cell) ?_
        go_simp
        refine hK _ ?_
        clear hK K'
        refine walk_float rfl rfl (fun K' hK => ?_)
        refine gives_sum_mid _ rfl OX 0 rfl o (fun W h => h.ox.one) ?_
        go_simp
        refine hK _ ?_
        clear hK K'
        refine walk_done rfl rfl (fun K' hK => ?_)
        refine done_five _ _ _ _ _ _ _ rfl 23 rfl (.slice q0 n0 c0) (.slice (some ⟨Bu, 0, none⟩) 32 cu) (sumVal (tagAt T 1)) (.int .i64 k) (sumVal o) rfl rfl rfl rfl rfl (fun _ w => by simp [go_sem]) ((VA.out wr.drew (HS.out ▸ D25.out.low) _ _ D25.out.u.at).mono ?_)
        rintro e w26 ⟨rfl, hb⟩
        rw [HV.out]
        have D26 := Lib.hid (D25.out.on hb); clear hb D25 VA
        refine ⟨_, rfl, D26.out, ?_⟩
        go_simp
        refine hK _ _ ?_
        clear hK K'
        cases v
        case false =>
          refine walk_float rfl rfl (fun K' hK => ?_)
          refine gives_not2 _ _ rfl false true rfl rfl ?_
          go_simp
          refine hK _ ?_
          clear hK K'
          refine walk_float rfl rfl (fun K' hK => ?_)
          refine gives_pickF _ _ _ rfl rfl (.bool true) rfl ?_
          go_simp
          refine hK _ ?_
          clear hK K'
          refine walk_nil ?_
          go_wp2_with (first
            | (refine wpList_store_bool rfl _ _ rfl rfl (S + 1) rfl true rfl _ _ (HS.out ▸ D26.out.rb) ?_; intro w40 hx hb hs
               have R40 := Lib.hid hx; have B40 := Lib.hid ((HS.out ▸ D26.out.low : Below S w _).trans (hb.below (by omega) (HS.out ▸ D26.out.low.size))); clear hx hb hs))
          have rc := R40.out.cell
          refine ⟨.bool true, ?_, rfl, B40.out⟩
          simp [results, Tryd.f25, go_sem, rc]
        case true =>
          refine walk_float rfl rfl (fun K' hK => ?_)
          refine gives_not2 _ _ rfl true false rfl rfl ?_
          go_simp
          refine hK _ ?_
          clear hK K'
          refine walk_float rfl rfl (fun K' hK => ?_)
          refine gives_pickF _ _ _ rfl rfl (.bool false) rfl ?_
          go_simp
          refine hK _ ?_
          clear hK K'
          refine walk_nil ?_
          go_wp2
          have D27 := Lib.hid (D26.out.on (show Below w26.heap.size w26 w26.drew from (Below.refl _ _).drew))
          clear D26
          refine wp_region_tree (.float 0 (.float 1 (.float 2 (.float 3 (.float 4 (.two 5 (.one 6 (.one 7 (.one 8 .over))) 6 (.one 5 (.one 7 (.one 8 .over))))))))) (fun W => Bd w q0 n0 c0 TX NX OX UX Bl Bt Bu cu k o L T U W) (by kernel_rfl) (by kernel_rfl) D27.out ?_
          refine tree_float rfl rfl (fun K' hK => ?_)
          refine gives_move _ rfl ?_
          go_simp
          refine hK _ ?_
          clear hK K'
          refine tree_float rfl rfl (fun K' hK => ?_)
          refine gives_cell _ _ rfl ⟨NX, 0, none⟩ _ rfl box_int (fun W h => h.nx.cell) ?_
          go_simp
          refine hK _ ?_
          clear hK K'
          refine tree_float rfl rfl (fun K' hK => ?_)
          refine gives_sum_elem _ _ rfl Bl 0 16 cl k rfl rfl KL.out ?_
          go_simp
          refine hK _ ?_
          clear hK K'
          refine tree_float rfl rfl (fun K' hK => ?_)
          refine gives_sum_mid _ rfl Bl (32 * k) rfl (tagAt L k) (fun W h => h.l.tag (k := k) (by rw [LN.out]; exact KL.out)) ?_
          go_simp
          refine hK _ ?_
          clear hK K'
          refine tree_float rfl rfl (fun K' hK => ?_)
          refine gives_sum_mid _ rfl OX 0 rfl o (fun W h => h.ox.one) ?_
          go_simp
          refine hK _ ?_
          clear hK K'
          refine tree_two ?_ ?_
          · skip
            refine tree_one rfl rfl (fun K' hK => ?_)
            refine done_sum_alloc rfl w26.drew.heap.size rfl ?_
            intro w28 hx hb hs
            have D28 := Lib.hid (D27.out.on hb); have WA28 := Lib.hid hx; have F28 := Lib.hid (show UX < w26.drew.heap.size from D27.out.far.2.2.2.2.2.2.2)
            clear hx hb hs D27
            generalize w26.drew.heap.size = WAX at *
            refine ⟨D28.out, ?_⟩
            go_simp
            refine hK _ _ ?_
            clear hK K'
            refine tree_one rfl rfl (fun K' hK => ?_)
            refine done_sum_alloc rfl w28.heap.size rfl ?_
            intro w29 hx hb hs
            have D29 := Lib.hid (D28.out.on hb); have WA29 := Lib.hid (WA28.out.below hb); have WB29 := Lib.hid hx; have F29 := Lib.hid (show UX < WAX ∧ UX < w28.heap.size ∧ WAX ≠ w28.heap.size from ⟨F28.out, D28.out.far.2.2.2.2.2.2.2, Nat.ne_of_lt WA28.out.lt⟩)
            clear hx hb hs D28 WA28 F28
            generalize w28.heap.size = WBX at *
            refine ⟨D29.out, ?_⟩
            go_simp
            refine hK _ _ ?_
            clear hK K'
            have F30 := Lib.hid (show UX < WAX ∧ UX < WBX ∧ WAX ≠ WBX from by have := F29.out; omega)
            clear F29
            refine tree_one rfl rfl (fun K' hK => ?_)
            refine done_sum_store _ _ rfl WAX 0 rfl (tagAt L k) rfl [nought] WA29.out (by simp) ?_
            intro w30 hx hb hs
            have D30 := Lib.hid (D29.out.but hb F30.out.1); have WA30 := Lib.hid (show SumsB w30 WAX [tagAt L k] from hx); have WB30 := Lib.hid (WB29.out.but hb (by have := F30.out; omega))
            clear hx hb hs D29 WA29 WB29
            refine ⟨D30.out, ?_⟩
            go_simp
            refine hK _ _ ?_
            clear hK K'
            refine tree_one rfl rfl (fun K' hK => ?_)
            refine done_sum_store _ _ rfl WBX 0 rfl o rfl [nought] WB30.out (by simp) ?_
            intro w31 hx hb hs
            have D31 := Lib.hid (D30.out.but hb F30.out.2.1); have WB31 := Lib.hid (show SumsB w31 WBX [o] from hx); have WA31 := Lib.hid (WA30.out.but hb (by have := F30.out; omega))
            clear hx hb hs D30 WA30 WB30
            refine ⟨D31.out, ?_⟩
            go_simp
            refine hK _ _ ?_
            clear hK K'
            refine tree_over ?_
            have nxc := D31.out.nx.cell
            go_wp2_with (first
              | (go_at_call 17; refine (Path_any _ w31).mono ?_; rintro e w32 ⟨rfl, hw⟩
                 have hb : Below w31.heap.size w31 w32 := hw ▸ (Below.refl _ _).alloc (Nat.le_refl _) _
                 have D32 := Lib.hid (D31.out.on hb); have WA32 := Lib.hid (WA31.out.below hb); have WB32 := Lib.hid (WB31.out.below hb)
                 have SB32 := Lib.hid (show Bx w32 w31.heap.size 3 (.int .i64 k) from hw ▸ Bx.new _ _ _)
                 have S32 := Lib.hid (show w32.heap.size = w31.heap.size + 1 from by rw [← hw, World.size_alloc])
                 have F32 := Lib.hid (show WAX < w31.heap.size ∧ WBX < w31.heap.size from ⟨WA31.out.lt, WB31.out.lt⟩)
                 clear hw hb D31 WA31 WB31 nxc
                 generalize w31.heap.size = SB at *))
            have s8 := S32.out
            clear S32
            have PG := Lib.hid (fun m => path_gives m SB k KL.out)
            have W0 := Lib.hid (show climbF (nodeN n0 a0) (tagAt T) k (tagAt L k) 0 = tagAt L k from climbF_zero _ _ _ _)
            have V0 := Lib.hid (show climbF (nodeN n0 a0) (tagAt U) k o 0 = o from climbF_zero _ _ _ _)
            have W4 := Lib.hid (show climbF (nodeN n0 a0) (tagAt T) k (tagAt L k) 4 = tagAt T 1 from BR.out)
            have V4 := Lib.hid (show climbF (nodeN n0 a0) (tagAt U) k o 4 = tagAt T 1 from of_decide_eq_true HV.out)
            have WS := Lib.hid (fun j => climb_sum (N := nodeN n0 a0) (T := tagAt T) (b := k) (nodeN_sum n0 a0) LKS.out j)
            have VS := Lib.hid (fun j => climb_sum (N := nodeN n0 a0) (T := tagAt U) (b := k) (nodeN_sum n0 a0) OS.out j)
            have WN := Lib.hid (fun j => climbF_next (nodeN n0 a0) (tagAt T) k (tagAt L k) j)
            have VN := Lib.hid (fun j => climbF_next (nodeN n0 a0) (tagAt U) k o j)
            have PN := Lib.hid (fun j => pn_next k j)
            have PA := Lib.hid (fun j (hj : j < 5) => pn_all k KL.out j hj)
            have PZ := Lib.hid (pn_zero k)
            have LP := Lib.hid (fun j (hj : j < 4) => lv_path k KL.out j hj)
            have LD := Lib.hid (fun j (hj : j < 4) => lv_side k KL.out j hj)
            have TAG := Lib.hid (fun j (hj : j < 32) => tagAt_sum TM.out (i := j) (by rw [TN.out]; exact hj))
            have UAG := Lib.hid (fun j (hj : j < 32) => tagAt_sum UM.out (i := j) (by rw [UN.out]; exact hj))
            refine (wpIn_wide (n := 3)).1 ?_
            refine range_ends rfl (by omega) (gf := 30) (lb := #[.pointer (some ⟨SB, 0, none⟩)]) rfl trivial (enters_of Tryd.func30 (by kernel_rfl) rfl)
              (ptE k) (fun _ i _ x => x = i) 5 (PtR SB k) (fun _ => rfl)
              (fun j V => Bd w q0 n0 c0 TX NX OX UX Bl Bt Bu cu k o L T U V ∧ SumsB V WAX [climbF (nodeN n0 a0) (tagAt T) k (tagAt L k) (j - 1)] ∧ SumsB V WBX [climbF (nodeN n0 a0) (tagAt U) k o (j - 1)] ∧ Bx V SB 3 (.int .i64 k) ∧ climbF (nodeN n0 a0) (tagAt U) k o (j - 1) ≠ climbF (nodeN n0 a0) (tagAt T) k (tagAt L k) (j - 1))
              (fun c V => c = .ret ∧ Below S w V ∧ Bx V (S + 1) 4 (.bool true)) ?rd ?st ?stx ⟨D32.out, by rw [W0.out]; exact WA32.out, by rw [V0.out]; exact WB32.out, SB32.out, by rw [W0.out, V0.out]; exact HNE.out⟩ (PG.out _) ?round ?done ?stop
            case rd => exact fun i V h => h.2.2.2.1.cell
            case st =>
              rintro j V V' ⟨h1, h2, h3, h4, h5⟩ hb
              rw [s8] at hb
              have hf := F32.out
              exact ⟨h1.belowM hb (by have := F30.out; omega), h2.belowM hb (by omega), h3.belowM hb (by omega), h4.belowM hb (by omega), h5⟩
            case stx =>
              rintro c V V' ⟨h1, h2, h3⟩ hb
              rw [s8] at hb
              have hf := F32.out; have hd := D32.out.far; have hs := HS.out
              exact ⟨h1, h2.trans (hb.mono (by have := F30.out; omega)), h3.belowM hb (by have := F30.out; omega)⟩
            case done =>
              rintro D' V hD ⟨_, _, _, _, h5⟩ hd
              exact absurd (by rw [V4.out, W4.out]) h5
            case stop =>
              rintro D' c V hD ⟨rfl, h2, h3⟩ hd
              rw [s8] at hD
              have hf := F32.out; have hdf := D32.out.far; have hs := HS.out; have hff := F30.out
              have hlt : S + 1 < D' := by omega
              have r1 := cells_turn (o' := .deferred none) h3 hd rfl
              have rc := cell_of_one r1
              have RC := Lib.hid rc; have HDD := Lib.hid hd; have H2 := Lib.hid h2; have HLD := Lib.hid (show S ≤ D' by omega)
              clear rc r1 hd h2 h3 hlt hf hdf hs hff hD
              gi_wp2
              refine ⟨by simp, .inl ⟨_, _, rfl, run_takeDeferred HDD.out, ?_⟩⟩
              have rc := RC.out
              refine ⟨.bool true, ?_, rfl, below_turn _ H2.out HLD.out⟩
              simp [results, Tryd.f25, go_sem, rc]
            case round =>
              rintro l' i0 j W hl hj hus ⟨h1, h2, h3, h4, h5⟩ rfl
              rw [s8] at hus hl
              have HD := Lib.hid h1; have HA := Lib.hid h2; have HB := Lib.hid h3; have HSB := Lib.hid h4; have HNQ := Lib.hid h5; have HJ := Lib.hid hj
              clear h1 h2 h3 h4 h5 D32 WA32 WB32 SB32 hj
              rcases j with _ | j
              · have e0 := PZ.out
                unfold ptE
                rw [e0]
                have g1 : decide ((16 : Int) ≤ ((16 + k : Nat) : Int)) = true := decide_eq_true (by omega)
                have g2 : decide (16 ≤ 16 + k) = true := decide_eq_true (by omega)
                gi_wp2
                refine ⟨Aft.refl _ _, fun V hVs hVk hVb => ?_⟩
                try rw [s8] at hVb
                have hf := F32.out; have hff := F30.out
                have D1 := Lib.hid (HD.out.belowM hVb (by omega)); have A1 := Lib.hid (HA.out.belowM hVb (by omega)); have B1 := Lib.hid (HB.out.belowM hVb (by omega)); have S1 := Lib.hid (HSB.out.belowM hVb (by omega))
                clear hVs hVk hVb hf hff
                gi_wp2
                all_goals exact ⟨Aft.refl _ _, D1.out, A1.out, B1.out, S1.out, HNQ.out⟩
              · have H4 := Lib.hid (show j < 4 by have := HJ.out; omega)
                have H6 := Lib.hid (show pn k (j + 1) < 16 ∧ 1 ≤ pn k (j + 1) from ⟨(PA.out (j + 1) (by have := H4.out; omega)).2.2.2.1 (by omega), (PA.out (j + 1) (by have := H4.out; omega)).1⟩)
                have HPN := Lib.hid (PN.out j)
                have HLP := Lib.hid (LP.out j H4.out)
                have HLD := Lib.hid (LD.out j H4.out)
                have HWN := Lib.hid (WN.out j)
                have HVN := Lib.hid (VN.out j)
                have HWS := Lib.hid (WS.out j)
                have HVS := Lib.hid (VS.out j)
                unfold ptE
                rw [Nat.add_sub_cancel] at HA HB HNQ
                generalize climbF (nodeN n0 a0) (tagAt T) k (tagAt L k) j = was at *
                generalize climbF (nodeN n0 a0) (tagAt U) k o j = now at *
                obtain ⟨c, hc⟩ : ∃ c, pn k j = c := ⟨_, rfl⟩
                obtain ⟨i, hi⟩ : ∃ i, pn k (j + 1) = i := ⟨_, rfl⟩
                have HC := Lib.hid (show c / 2 = i by rw [← hi, HPN.out, hc])
                have HI := Lib.hid (show i < 16 ∧ 1 ≤ i from hi ▸ H6.out)
                obtain ⟨lv, hlv⟩ : ∃ lv, lvF i = lv := ⟨_, rfl⟩
                have HLI := Lib.hid hlv
                have HLJ := Lib.hid (show 3 - lv = j ∧ lv ≤ 3 by have h1 : lvF i = 3 - j := hi ▸ HLP.out; have := H4.out; omega)
                obtain ⟨kk, hkk⟩ : ∃ kk, k / 2 ^ j = kk := ⟨_, rfl⟩
                have HKK := Lib.hid hkk
                have HSD := Lib.hid (show kk % 2 = c % 2 by rw [← hkk]; exact hc ▸ HLD.out)
                have HKL := Lib.hid (show kk < 16 by rw [← hkk]; exact Nat.lt_of_le_of_lt (Nat.div_le_self _ _) KL.out)
                obtain ⟨x, y, hk1, hk2, hx, hy⟩ := par_kids (nodeN n0 a0) (tagAt T) c was
                obtain ⟨x', y', hk1', hk2', hx', hy'⟩ := par_kids (nodeN n0 a0) (tagAt U) c now
                have HK1 := Lib.hid (show [tagAt T (2 * i), tagAt T (2 * i + 1)].set (c % 2) was = [x, y] by rw [← HC.out]; exact hk1)
                have HK1' := Lib.hid (show [tagAt U (2 * i), tagAt U (2 * i + 1)].set (c % 2) now = [x', y'] by rw [← HC.out]; exact hk1')
                have HW := Lib.hid (show climbF (nodeN n0 a0) (tagAt T) k (tagAt L k) (j + 1) = nodeN n0 a0 i x y by rw [HWN.out, hc, hk2, HC.out])
                have HV' := Lib.hid (show climbF (nodeN n0 a0) (tagAt U) k o (j + 1) = nodeN n0 a0 i x' y' by rw [HVN.out, hc, hk2', HC.out])
                have HAP := Lib.hid (show ¬ (x = x' ∧ y = y') from fun h => HNQ.out (by
                  rcases Nat.mod_two_eq_zero_or_one c with e | e
                  · rw [← hx e, ← hx' e]; exact h.1.symm
                  · rw [← hy e, ← hy' e]; exact h.2.symm))
                have SXY := Lib.hid (show ∀ t ∈ [x, y], IsSum t from by
                  rw [← HK1.out]
                  exact leaves_set_sum (fun t ht => by
                    have hi2 := HI.out
                    rcases List.mem_cons.1 ht with e | ht
                    · rw [e]; exact TAG.out _ (by omega)
                    · rw [List.mem_singleton.1 ht]; exact TAG.out _ (by omega)) HWS.out _)
                have SXY' := Lib.hid (show ∀ t ∈ [x', y'], IsSum t from by
                  rw [← HK1'.out]
                  exact leaves_set_sum (fun t ht => by
                    have hi2 := HI.out
                    rcases List.mem_cons.1 ht with e | ht
                    · rw [e]; exact UAG.out _ (by omega)
                    · rw [List.mem_singleton.1 ht]; exact UAG.out _ (by omega)) HVS.out _)
                obtain ⟨sd, hsd⟩ : ∃ sd, c % 2 = sd := ⟨_, rfl⟩
                rw [hsd] at HK1 HK1' HSD
                have SD := Lib.hid (show sd < 2 by omega)
                rw [hi]
                clear hsd hlv hkk hc hi hk1 hk2 hx hy hk1' hk2' hx' hy' H6 HPN HLP HLD HWN HVN
                have g1 : decide ((16 : Int) ≤ (i : Int)) = false := decide_eq_false (by have := HI.out; omega)
                have g2 : decide (16 ≤ i) = false := decide_eq_false (by have := HI.out; omega)
                obtain ⟨e0, he0⟩ : ∃ e0, 2 * i = e0 := ⟨_, rfl⟩
                obtain ⟨e1, he1⟩ : ∃ e1, e0 + 1 = e1 := ⟨_, rfl⟩
                have HE0 := Lib.hid he0; have HE1 := Lib.hid he1
                have HE := Lib.hid (show e0 < 32 ∧ e1 < 32 ∧ i < 1000 ∧ e0 < 1000 by have := HI.out; omega)
                rw [he0, he1] at HK1 HK1'
                clear he0 he1
                gi_wp2
                refine ⟨Aft.refl _ _, fun V hVs hVk hVb => ?_⟩
                try rw [s8] at hVb
                have hf := F32.out; have hff := F30.out
                have D1 := Lib.hid (HD.out.belowM hVb (by omega)); have A1 := Lib.hid (HA.out.belowM hVb (by omega)); have B1 := Lib.hid (HB.out.belowM hVb (by omega)); have S1 := Lib.hid (HSB.out.belowM hVb (by omega))
                have VZ := Lib.hid (show SB + 1 ≤ V.heap.size by have := S1.out.lt; omega)
                clear hVs hVk hVb hf hff HD HA HB HSB hus
                gi_wp2
                have AF1 := Lib.hid (Aft.refl (SB + 1) V)
                have VD := Lib.hid (show V.heap.size ≤ V.drew.heap.size from (show Below V.heap.size V V.drew from (Below.refl _ _).drew).size)
                have hb : Below V.heap.size V V.drew := (Below.refl _ _).drew
                have D2 := Lib.hid (D1.out.on hb); have A2 := Lib.hid (A1.out.below hb); have B2 := Lib.hid (B1.out.below hb); have S2 := Lib.hid (S1.out.below hb); have AF2 := Lib.hid (aft_below AF1.out hb)
                clear hb D1 A1 B1 S1 AF1
                refine roundIn_tree (.float 0 (.float 1 (.float 2 (.float 3 (.float 4 (.float 5 (.float 6 (.float 7 (.float 8 (.float 9 (.float 10 (.float 11 (.float 12 (.float 13 (.float 14 (.float 15 (.float 16 (.float 17 (.float 18 (.float 19 (.float 20 (.float 21 (.float 22 (.float 23 (.two 24 (.one 25 (.one 26 (.one 27 .over))) 25 (.one 24 (.one 26 (.one 27 .over)))))))))))))))))))))))))))) (fun W => Bd w q0 n0 c0 TX NX OX UX Bl Bt Bu cu k o L T U W) (by kernel_rfl) (by kernel_rfl) rfl (by rintro ⟨_, _, h⟩; exact h) D2.out ?_
                refine tree_float rfl rfl (fun K' hK => ?_)
                refine gives_cell _ _ rfl ⟨TX, 0, none⟩ _ rfl box_sums (fun W h => h.tx.cell) ?_
                go_simp
                refine hK _ ?_
                clear hK K'
                refine tree_float rfl rfl (fun K' hK => ?_)
                refine gives_move _ rfl ?_
                go_simp
                refine hK _ ?_
                clear hK K'
                refine tree_float rfl rfl (fun K' hK => ?_)
                refine gives_twice _ rfl i rfl HE.out.2.2.1 e0 HE0.out ?_
                go_simp
                refine hK _ ?_
                clear hK K'
                refine tree_float rfl rfl (fun K' hK => ?_)
                refine gives_sum_elem _ _ rfl Bt 0 32 32 e0 rfl rfl HE.out.1 ?_
                go_simp
                refine hK _ ?_
                clear hK K'
                refine tree_float rfl rfl (fun K' hK => ?_)
                refine gives_sum_mid _ rfl Bt (32 * e0) rfl (tagAt T e0) (fun W h => h.t.tag (k := e0) (by rw [TN.out]; exact HE.out.1)) ?_
                go_simp
                refine hK _ ?_
                clear hK K'
                refine tree_float rfl rfl (fun K' hK => ?_)
                refine gives_cell _ _ rfl ⟨TX, 0, none⟩ _ rfl box_sums (fun W h => h.tx.cell) ?_
                go_simp
                refine hK _ ?_
                clear hK K'
                refine tree_float rfl rfl (fun K' hK => ?_)
                refine gives_move _ rfl ?_
                go_simp
                refine hK _ ?_
                clear hK K'
                refine tree_float rfl rfl (fun K' hK => ?_)
                refine gives_twice _ rfl i rfl HE.out.2.2.1 e0 HE0.out ?_
                go_simp
                refine hK _ ?_
                clear hK K'
                refine tree_float rfl rfl (fun K' hK => ?_)
                refine gives_more _ rfl e0 rfl HE.out.2.2.2 e1 HE1.out ?_
                go_simp
                refine hK _ ?_
                clear hK K'
                refine tree_float rfl rfl (fun K' hK => ?_)
                refine gives_sum_elem _ _ rfl Bt 0 32 32 e1 rfl rfl HE.out.2.1 ?_
                go_simp
                refine hK _ ?_
                clear hK K'
                refine tree_float rfl rfl (fun K' hK => ?_)
                refine gives_sum_mid _ rfl Bt (32 * e1) rfl (tagAt T e1) (fun W h => h.t.tag (k := e1) (by rw [TN.out]; exact HE.out.2.1)) ?_
                go_simp
                refine hK _ ?_
                clear hK K'
                refine tree_float rfl rfl (fun K' hK => ?_)
                refine gives_pair_build _ _ rfl (tagAt T e0) (tagAt T e1) rfl rfl ?_
                go_simp
                refine hK _ ?_
                clear hK K'
                refine tree_float rfl rfl (fun K' hK => ?_)
                refine gives_cell _ _ rfl ⟨UX, 0, none⟩ _ rfl box_sums (fun W h => h.ux.cell) ?_
                go_simp
                refine hK _ ?_
                clear hK K'
                refine tree_float rfl rfl (fun K' hK => ?_)
                refine gives_move _ rfl ?_
                go_simp
                refine hK _ ?_
                clear hK K'
                refine tree_float rfl rfl (fun K' hK => ?_)
                refine gives_twice _ rfl i rfl HE.out.2.2.1 e0 HE0.out ?_
                go_simp
                refine hK _ ?_
                clear hK K'
                refine tree_float rfl rfl (fun K' hK => ?_)
                refine gives_sum_elem _ _ rfl Bu 0 32 cu e0 rfl rfl HE.out.1 ?_
                go_simp
                refine hK _ ?_
                clear hK K'
                refine tree_float rfl rfl (fun K' hK => ?_)
                refine gives_sum_mid _ rfl Bu (32 * e0) rfl (tagAt U e0) (fun W h => h.u.tag (k := e0) (by rw [UN.out]; exact HE.out.1)) ?_
                go_simp
                refine hK _ ?_
                clear hK K'
                refine tree_float rfl rfl (fun K' hK => ?_)
                refine gives_cell _ _ rfl ⟨UX, 0, none⟩ _ rfl box_sums (fun W h => h.ux.cell) ?_
                go_simp
                refine hK _ ?_
                clear hK K'
                refine tree_float rfl rfl (fun K' hK => ?_)
                refine gives_move _ rfl ?_
                go_simp
                refine hK _ ?_
                clear hK K'
                refine tree_float rfl rfl (fun K' hK => ?_)
                refine gives_twice _ rfl i rfl HE.out.2.2.1 e0 HE0.out ?_
                go_simp
                refine hK _ ?_
                clear hK K'
                refine tree_float rfl rfl (fun K' hK => ?_)
                refine gives_more _ rfl e0 rfl HE.out.2.2.2 e1 HE1.out ?_
                go_simp
                refine hK _ ?_
                clear hK K'
                refine tree_float rfl rfl (fun K' hK => ?_)
                refine gives_sum_elem _ _ rfl Bu 0 32 cu e1 rfl rfl HE.out.2.1 ?_
                go_simp
                refine hK _ ?_
                clear hK K'
                refine tree_float rfl rfl (fun K' hK => ?_)
                refine gives_sum_mid _ rfl Bu (32 * e1) rfl (tagAt U e1) (fun W h => h.u.tag (k := e1) (by rw [UN.out]; exact HE.out.2.1)) ?_
                go_simp
                refine hK _ ?_
                clear hK K'
                refine tree_float rfl rfl (fun K' hK => ?_)
                refine gives_pair_build _ _ rfl (tagAt U e0) (tagAt U e1) rfl rfl ?_
                go_simp
                refine hK _ ?_
                clear hK K'
                refine tree_two ?_ ?_
                · skip
                  refine tree_one rfl rfl (fun K' hK => ?_)
                  refine done_pair_alloc rfl V.drew.heap.size rfl ?_
                  intro w41 hx hb hs
                  have D41 := Lib.hid (D2.out.on hb); have A41 := Lib.hid (A2.out.below hb); have B41 := Lib.hid (B2.out.below hb); have S41 := Lib.hid (S2.out.below hb); have AF41 := Lib.hid (aft_below AF2.out hb)
                  have PA41 := Lib.hid hx; have F41 := Lib.hid (show V.heap.size ≤ V.drew.heap.size from VD.out)
                  clear hx hs VD
                  clear hb D2 A2 B2 S2 AF2
                  generalize V.drew.heap.size = AX at *
                  refine ⟨D41.out, ?_⟩
                  go_simp
                  refine hK _ _ ?_
                  clear hK K'
                  refine tree_one rfl rfl (fun K' hK => ?_)
                  refine done_pair_alloc rfl w41.heap.size rfl ?_
                  intro w42 hx hb hs
                  have D42 := Lib.hid (D41.out.on hb); have A42 := Lib.hid (A41.out.below hb); have B42 := Lib.hid (B41.out.below hb); have S42 := Lib.hid (S41.out.below hb); have AF42 := Lib.hid (aft_below AF41.out hb); have PA42 := Lib.hid (PA41.out.below hb)
                  have PB42 := Lib.hid hx; have F42 := Lib.hid (show V.heap.size ≤ AX ∧ AX < w41.heap.size from ⟨F41.out, PA41.out.lt⟩)
                  clear hx hs F41
                  clear hb D41 A41 B41 S41 AF41 PA41
                  generalize w41.heap.size = BX at *
                  refine ⟨D42.out, ?_⟩
                  go_simp
                  refine hK _ _ ?_
                  clear hK K'
                  have F40 := Lib.hid (show V.heap.size ≤ AX ∧ V.heap.size ≤ BX ∧ AX ≠ BX from by have := F42.out; omega)
                  clear F42
                  refine tree_one rfl rfl (fun K' hK => ?_)
                  refine done_pair_store _ _ rfl AX rfl (tagAt T e0) (tagAt T e1) rfl nought nought PA42.out ?_
                  intro w43 hx hb hs
                  have D43 := Lib.hid (D42.out.but hb (by have h1 := F40.out; have h2 := F30.out; have h3 := F32.out; have h4 := VZ.out; omega)); have A43 := Lib.hid (A42.out.but hb (by have h1 := F40.out; have h2 := F30.out; have h3 := F32.out; have h4 := VZ.out; omega)); have B43 := Lib.hid (B42.out.but hb (by have h1 := F40.out; have h2 := F30.out; have h3 := F32.out; have h4 := VZ.out; omega)); have S43 := Lib.hid (S42.out.but hb (by have h1 := F40.out; have h2 := F30.out; have h3 := F32.out; have h4 := VZ.out; omega)); have AF43 := Lib.hid (aft_but AF42.out hb (by have h1 := F40.out; have h2 := F30.out; have h3 := F32.out; have h4 := VZ.out; omega)); have PB43 := Lib.hid (PB42.out.but hb (by have h1 := F40.out; have h2 := F30.out; have h3 := F32.out; have h4 := VZ.out; omega))
                  have PA43 := Lib.hid hx
                  clear hx hs
                  clear hb D42 A42 B42 S42 AF42 PA42 PB42
                  refine ⟨D43.out, ?_⟩
                  go_simp
                  refine hK _ _ ?_
                  clear hK K'
                  refine tree_one rfl rfl (fun K' hK => ?_)
                  refine done_pair_store _ _ rfl BX rfl (tagAt U e0) (tagAt U e1) rfl nought nought PB43.out ?_
                  intro w44 hx hb hs
                  have D44 := Lib.hid (D43.out.but hb (by have h1 := F40.out; have h2 := F30.out; have h3 := F32.out; have h4 := VZ.out; omega)); have A44 := Lib.hid (A43.out.but hb (by have h1 := F40.out; have h2 := F30.out; have h3 := F32.out; have h4 := VZ.out; omega)); have B44 := Lib.hid (B43.out.but hb (by have h1 := F40.out; have h2 := F30.out; have h3 := F32.out; have h4 := VZ.out; omega)); have S44 := Lib.hid (S43.out.but hb (by have h1 := F40.out; have h2 := F30.out; have h3 := F32.out; have h4 := VZ.out; omega)); have AF44 := Lib.hid (aft_but AF43.out hb (by have h1 := F40.out; have h2 := F30.out; have h3 := F32.out; have h4 := VZ.out; omega)); have PA44 := Lib.hid (PA43.out.but hb (by have h1 := F40.out; have h2 := F30.out; have h3 := F32.out; have h4 := VZ.out; omega))
                  have PB44 := Lib.hid hx
                  clear hx hs
                  clear hb D43 A43 B43 S43 AF43 PA43 PB43
                  refine ⟨D44.out, ?_⟩
                  go_simp
                  refine hK _ _ ?_
                  clear hK K'
                  refine tree_over ?_
                  gi_wp2
                  have hb : Below w44.heap.size w44 w44.drew := (Below.refl _ _).drew
                  have D45 := Lib.hid (D44.out.on hb); have A45 := Lib.hid (A44.out.below hb); have B45 := Lib.hid (B44.out.below hb); have S45 := Lib.hid (S44.out.below hb); have AF45 := Lib.hid (aft_below AF44.out hb); have PA45 := Lib.hid (PA44.out.below hb); have PB45 := Lib.hid (PB44.out.below hb)
                  clear hb D44 A44 B44 S44 AF44 PA44 PB44
                  refine roundIn_sched [(0, true), (1, true), (2, false), (3, true), (4, true), (5, true), (6, true), (7, true)] (fun W => Bd w q0 n0 c0 TX NX OX UX Bl Bt Bu cu k o L T U W) (by kernel_rfl) (by kernel_rfl) rfl (by rintro ⟨_, _, h⟩; exact h) (D45.out) ?_
                  refine walk_float rfl rfl (fun K' hK => ?_)
                  refine gives_cell _ _ rfl ⟨NX, 0, none⟩ _ rfl box_int (fun W h => h.nx.cell) ?_
                  go_simp
                  refine hK _ ?_
                  clear hK K'
                  refine walk_float rfl rfl (fun K' hK => ?_)
                  refine gives_move _ rfl ?_
                  go_simp
                  refine hK _ ?_
                  clear hK K'
                  refine walk_done rfl rfl (fun K' hK => ?_)
                  refine done_one _ _ _ rfl 39 rfl (.int .i64 i) rfl (fun _ w => by simp [go_sem]) ((level_any i HI.out.2 HI.out.1 w44.drew).mono ?_)
                  rintro e w46 ⟨rfl, hb⟩
                  rw [HLI.out]
                  have D46 := Lib.hid (D45.out.on hb); have A46 := Lib.hid (A45.out.below hb); have B46 := Lib.hid (B45.out.below hb); have S46 := Lib.hid (S45.out.below hb); have AF46 := Lib.hid (aft_below AF45.out hb); have PA46 := Lib.hid (PA45.out.below hb); have PB46 := Lib.hid (PB45.out.below hb)
                  clear hb D45 A45 B45 S45 AF45 PA45 PB45
                  refine ⟨_, rfl, D46.out, ?_⟩
                  go_simp
                  refine hK _ _ ?_
                  clear hK K'
                  refine walk_float rfl rfl (fun K' hK => ?_)
                  refine gives_three _ rfl lv rfl HLJ.out.2 j HLJ.out.1 ?_
                  go_simp
                  refine hK _ ?_
                  clear hK K'
                  refine walk_float rfl rfl (fun K' hK => ?_)
                  refine gives_unsign _ rfl j rfl (by have := H4.out; omega) ?_
                  go_simp
                  refine hK _ ?_
                  clear hK K'
                  refine walk_float rfl rfl (fun K' hK => ?_)
                  refine gives_shift _ _ rfl k j KL.out H4.out rfl rfl kk HKK.out ?_
                  go_simp
                  refine hK _ ?_
                  clear hK K'
                  refine walk_float rfl rfl (fun K' hK => ?_)
                  refine gives_low _ rfl kk HKL.out rfl sd HSD.out ?_
                  go_simp
                  refine hK _ ?_
                  clear hK K'
                  refine walk_float rfl rfl (fun K' hK => ?_)
                  refine gives_assign _ rfl ?_
                  go_simp
                  refine hK _ ?_
                  clear hK K'
                  refine walk_nil ?_
                  gi_wp2
                  have hb : Below w46.heap.size w46 w46.drew := (Below.refl _ _).drew
                  have D47 := Lib.hid (D46.out.on hb); have A47 := Lib.hid (A46.out.below hb); have B47 := Lib.hid (B46.out.below hb); have S47 := Lib.hid (S46.out.below hb); have AF47 := Lib.hid (aft_below AF46.out hb); have PA47 := Lib.hid (PA46.out.below hb); have PB47 := Lib.hid (PB46.out.below hb)
                  clear hb D46 A46 B46 S46 AF46 PA46 PB46
                  refine roundIn_sched [(0, true), (1, true), (2, true), (3, true), (4, true), (5, false), (6, true), (7, false)] (fun W => SumsB W WAX [was] ∧ SumsB W WBX [now]) (by kernel_rfl) (by kernel_rfl) rfl (by rintro ⟨_, _, h⟩; exact h) (⟨A47.out, B47.out⟩) ?_
                  refine walk_float rfl rfl (fun K' hK => ?_)
                  refine gives_move _ rfl ?_
                  go_simp
                  refine hK _ ?_
                  clear hK K'
                  refine walk_float rfl rfl (fun K' hK => ?_)
                  refine gives_move _ rfl ?_
                  go_simp
                  refine hK _ ?_
                  clear hK K'
                  refine walk_float rfl rfl (fun K' hK => ?_)
                  refine gives_sum_mid _ rfl WAX 0 rfl was (fun W h => h.1.one) ?_
                  go_simp
                  refine hK _ ?_
                  clear hK K'
                  refine walk_float rfl rfl (fun K' hK => ?_)
                  refine gives_sum_mid _ rfl WBX 0 rfl now (fun W h => h.2.one) ?_
                  go_simp
                  refine hK _ ?_
                  clear hK K'
                  refine walk_float rfl rfl (fun K' hK => ?_)
                  refine gives_pair_addr _ _ rfl AX sd rfl rfl SD.out ?_
                  go_simp
                  refine hK _ ?_
                  clear hK K'
                  refine walk_done rfl rfl (fun K' hK => ?_)
                  refine done_sum_store _ _ rfl AX sd rfl was rfl [tagAt T e0, tagAt T e1] PA47.out SD.out ?_
                  intro w48 hx hb hs
                  rw [HK1.out] at hx
                  have D48 := Lib.hid (D47.out.but hb (by have h1 := F40.out; have h2 := F30.out; have h3 := F32.out; have h4 := VZ.out; omega)); have A48 := Lib.hid (A47.out.but hb (by have h1 := F40.out; have h2 := F30.out; have h3 := F32.out; have h4 := VZ.out; omega)); have B48 := Lib.hid (B47.out.but hb (by have h1 := F40.out; have h2 := F30.out; have h3 := F32.out; have h4 := VZ.out; omega)); have S48 := Lib.hid (S47.out.but hb (by have h1 := F40.out; have h2 := F30.out; have h3 := F32.out; have h4 := VZ.out; omega)); have AF48 := Lib.hid (aft_but AF47.out hb (by have h1 := F40.out; have h2 := F30.out; have h3 := F32.out; have h4 := VZ.out; omega)); have PB48 := Lib.hid (PB47.out.but hb (by have h1 := F40.out; have h2 := F30.out; have h3 := F32.out; have h4 := VZ.out; omega))
                  have PA48 := Lib.hid hx
                  clear hx hs
                  clear hb D47 A47 B47 S47 AF47 PA47 PB47
                  refine ⟨⟨A48.out, B48.out⟩, ?_⟩
                  go_simp
                  refine hK _ _ ?_
                  clear hK K'
                  refine walk_float rfl rfl (fun K' hK => ?_)
                  refine gives_pair_addr _ _ rfl BX sd rfl rfl SD.out ?_
                  go_simp
                  refine hK _ ?_
                  clear hK K'
                  refine walk_done rfl rfl (fun K' hK => ?_)
                  refine done_sum_store _ _ rfl BX sd rfl now rfl [tagAt U e0, tagAt U e1] PB48.out SD.out ?_
                  intro w49 hx hb hs
                  rw [HK1'.out] at hx
                  have D49 := Lib.hid (D48.out.but hb (by have h1 := F40.out; have h2 := F30.out; have h3 := F32.out; have h4 := VZ.out; omega)); have A49 := Lib.hid (A48.out.but hb (by have h1 := F40.out; have h2 := F30.out; have h3 := F32.out; have h4 := VZ.out; omega)); have B49 := Lib.hid (B48.out.but hb (by have h1 := F40.out; have h2 := F30.out; have h3 := F32.out; have h4 := VZ.out; omega)); have S49 := Lib.hid (S48.out.but hb (by have h1 := F40.out; have h2 := F30.out; have h3 := F32.out; have h4 := VZ.out; omega)); have AF49 := Lib.hid (aft_but AF48.out hb (by have h1 := F40.out; have h2 := F30.out; have h3 := F32.out; have h4 := VZ.out; omega)); have PA49 := Lib.hid (PA48.out.but hb (by have h1 := F40.out; have h2 := F30.out; have h3 := F32.out; have h4 := VZ.out; omega))
                  have PB49 := Lib.hid hx
                  clear hx hs
                  clear hb D48 A48 B48 S48 AF48 PA48 PB48
                  refine ⟨⟨A49.out, B49.out⟩, ?_⟩
                  go_simp
                  refine hK _ _ ?_
                  clear hK K'
                  refine walk_nil ?_
                  gi_wp2
                  have hb : Below w49.heap.size w49 w49.drew := (Below.refl _ _).drew
                  have D50 := Lib.hid (D49.out.on hb); have A50 := Lib.hid (A49.out.below hb); have B50 := Lib.hid (B49.out.below hb); have S50 := Lib.hid (S49.out.below hb); have AF50 := Lib.hid (aft_below AF49.out hb); have PA50 := Lib.hid (PA49.out.below hb); have PB50 := Lib.hid (PB49.out.below hb)
                  clear hb D49 A49 B49 S49 AF49 PA49 PB49
                  refine roundIn_sched [(0, true), (1, true), (2, true), (3, true), (4, true), (5, true), (7, true), (8, true), (9, true), (10, true), (11, true), (12, true), (6, false), (13, false), (14, false), (15, false)] (fun W => Bd w q0 n0 c0 TX NX OX UX Bl Bt Bu cu k o L T U W ∧ SumsB W AX [x, y] ∧ SumsB W BX [x', y']) (by kernel_rfl) (by kernel_rfl) rfl (by rintro ⟨_, _, h⟩; exact h) (⟨D50.out, PA50.out, PB50.out⟩) ?_
                  refine walk_float rfl rfl (fun K' hK => ?_)
                  refine gives_cell _ _ rfl ⟨S, 0, none⟩ _ rfl box_bytes (fun W h => HS.out ▸ h.1.kb.cell) ?_
                  go_simp
                  refine hK _ ?_
                  clear hK K'
                  refine walk_float rfl rfl (fun K' hK => ?_)
                  refine gives_move _ rfl ?_
                  go_simp
                  refine hK _ ?_
                  clear hK K'
                  refine walk_float rfl rfl (fun K' hK => ?_)
                  refine gives_pair_addr _ _ rfl AX 0 rfl rfl (by decide) ?_
                  go_simp
                  refine hK _ ?_
                  clear hK K'
                  refine walk_float rfl rfl (fun K' hK => ?_)
                  refine gives_sum_mid _ rfl AX 0 rfl x (fun W h => h.2.1.rows 0 x rfl) ?_
                  go_simp
                  refine hK _ ?_
                  clear hK K'
                  refine walk_float rfl rfl (fun K' hK => ?_)
                  refine gives_pair_addr _ _ rfl AX 1 rfl rfl (by decide) ?_
                  go_simp
                  refine hK _ ?_
                  clear hK K'
                  refine walk_float rfl rfl (fun K' hK => ?_)
                  refine gives_sum_mid _ rfl AX 32 rfl y (fun W h => h.2.1.rows 1 y rfl) ?_
                  go_simp
                  refine hK _ ?_
                  clear hK K'
                  refine walk_float rfl rfl (fun K' hK => ?_)
                  refine gives_cell _ _ rfl ⟨S, 0, none⟩ _ rfl box_bytes (fun W h => HS.out ▸ h.1.kb.cell) ?_
                  go_simp
                  refine hK _ ?_
                  clear hK K'
                  refine walk_float rfl rfl (fun K' hK => ?_)
                  refine gives_move _ rfl ?_
                  go_simp
                  refine hK _ ?_
                  clear hK K'
                  refine walk_float rfl rfl (fun K' hK => ?_)
                  refine gives_pair_addr _ _ rfl BX 0 rfl rfl (by decide) ?_
                  go_simp
                  refine hK _ ?_
                  clear hK K'
                  refine walk_float rfl rfl (fun K' hK => ?_)
                  refine gives_sum_mid _ rfl BX 0 rfl x' (fun W h => h.2.2.rows 0 x' rfl) ?_
                  go_simp
                  refine hK _ ?_
                  clear hK K'
                  refine walk_float rfl rfl (fun K' hK => ?_)
                  refine gives_pair_addr _ _ rfl BX 1 rfl rfl (by decide) ?_
                  go_simp
                  refine hK _ ?_
                  clear hK K'
                  refine walk_float rfl rfl (fun K' hK => ?_)
                  refine gives_sum_mid _ rfl BX 32 rfl y' (fun W h => h.2.2.rows 1 y' rfl) ?_
                  go_simp
                  refine hK _ ?_
                  clear hK K'
                  refine walk_done rfl rfl (fun K' hK => ?_)
                  refine done_four _ _ _ _ _ _ rfl 28 rfl (.slice q0 n0 c0) (.int .i64 i) (sumVal x) (sumVal y) rfl rfl rfl rfl (fun _ w => by simp [go_sem]) ((NA.out w49.drew (HS.out ▸ D50.out.low) i x y (SXY.out x (by simp)) (SXY.out y (by simp))).mono ?_)
                  rintro e w51 ⟨rfl, hb⟩
                  have D51 := Lib.hid (D50.out.on hb); have A51 := Lib.hid (A50.out.below hb); have B51 := Lib.hid (B50.out.below hb); have S51 := Lib.hid (S50.out.below hb); have AF51 := Lib.hid (aft_below AF50.out hb); have PA51 := Lib.hid (PA50.out.below hb); have PB51 := Lib.hid (PB50.out.below hb)
                  clear hb D50 A50 B50 S50 AF50 PA50 PB50
                  refine ⟨_, rfl, ⟨D51.out, PA51.out, PB51.out⟩, ?_⟩
                  go_simp
                  refine hK _ _ ?_
                  clear hK K'
                  refine walk_done rfl rfl (fun K' hK => ?_)
                  refine done_four _ _ _ _ _ _ rfl 28 rfl (.slice q0 n0 c0) (.int .i64 i) (sumVal x') (sumVal y') rfl rfl rfl rfl (fun _ w => by simp [go_sem]) ((NA.out w51 (HS.out ▸ D51.out.low) i x' y' (SXY'.out x' (by simp)) (SXY'.out y' (by simp))).mono ?_)
                  rintro e w52 ⟨rfl, hb⟩
                  have D52 := Lib.hid (D51.out.on hb); have A52 := Lib.hid (A51.out.below hb); have B52 := Lib.hid (B51.out.below hb); have S52 := Lib.hid (S51.out.below hb); have AF52 := Lib.hid (aft_below AF51.out hb); have PA52 := Lib.hid (PA51.out.below hb); have PB52 := Lib.hid (PB51.out.below hb)
                  clear hb D51 A51 B51 S51 AF51 PA51 PB51
                  refine ⟨_, rfl, ⟨D52.out, PA52.out, PB52.out⟩, ?_⟩
                  go_simp
                  refine hK _ _ ?_
                  clear hK K'
                  refine walk_done rfl rfl (fun K' hK => ?_)
                  refine done_sum_store _ _ rfl WAX 0 rfl (nodeN n0 a0 i x y) rfl [was] A52.out (by simp) ?_
                  intro w53 hx hb hs
                  have D53 := Lib.hid (D52.out.but hb (by have h1 := F40.out; have h2 := F30.out; have h3 := F32.out; have h4 := VZ.out; omega)); have B53 := Lib.hid (B52.out.but hb (by have h1 := F40.out; have h2 := F30.out; have h3 := F32.out; have h4 := VZ.out; omega)); have S53 := Lib.hid (S52.out.but hb (by have h1 := F40.out; have h2 := F30.out; have h3 := F32.out; have h4 := VZ.out; omega)); have AF53 := Lib.hid (aft_but AF52.out hb (by have h1 := F40.out; have h2 := F30.out; have h3 := F32.out; have h4 := VZ.out; omega)); have PA53 := Lib.hid (PA52.out.but hb (by have h1 := F40.out; have h2 := F30.out; have h3 := F32.out; have h4 := VZ.out; omega)); have PB53 := Lib.hid (PB52.out.but hb (by have h1 := F40.out; have h2 := F30.out; have h3 := F32.out; have h4 := VZ.out; omega))
                  have A53 := Lib.hid (show SumsB w53 WAX [nodeN n0 a0 i x y] from hx)
                  clear hx hs
                  clear hb D52 A52 B52 S52 AF52 PA52 PB52
                  refine ⟨⟨D53.out, PA53.out, PB53.out⟩, ?_⟩
                  go_simp
                  refine hK _ _ ?_
                  clear hK K'
                  refine walk_done rfl rfl (fun K' hK => ?_)
                  refine done_sum_store _ _ rfl WBX 0 rfl (nodeN n0 a0 i x' y') rfl [now] B53.out (by simp) ?_
                  intro w54 hx hb hs
                  have D54 := Lib.hid (D53.out.but hb (by have h1 := F40.out; have h2 := F30.out; have h3 := F32.out; have h4 := VZ.out; omega)); have A54 := Lib.hid (A53.out.but hb (by have h1 := F40.out; have h2 := F30.out; have h3 := F32.out; have h4 := VZ.out; omega)); have S54 := Lib.hid (S53.out.but hb (by have h1 := F40.out; have h2 := F30.out; have h3 := F32.out; have h4 := VZ.out; omega)); have AF54 := Lib.hid (aft_but AF53.out hb (by have h1 := F40.out; have h2 := F30.out; have h3 := F32.out; have h4 := VZ.out; omega)); have PA54 := Lib.hid (PA53.out.but hb (by have h1 := F40.out; have h2 := F30.out; have h3 := F32.out; have h4 := VZ.out; omega)); have PB54 := Lib.hid (PB53.out.but hb (by have h1 := F40.out; have h2 := F30.out; have h3 := F32.out; have h4 := VZ.out; omega))
                  have B54 := Lib.hid (show SumsB w54 WBX [nodeN n0 a0 i x' y'] from hx)
                  clear hx hs
                  clear hb D53 A53 B53 S53 AF53 PA53 PB53
                  refine ⟨⟨D54.out, PA54.out, PB54.out⟩, ?_⟩
                  go_simp
                  refine hK _ _ ?_
                  clear hK K'
                  refine walk_nil ?_
                  have NS := Lib.hid (show IsSum (nodeN n0 a0 i x y) ∧ IsSum (nodeN n0 a0 i x' y') from ⟨nodeN_sum _ _ _ _ _, nodeN_sum _ _ _ _ _⟩)
                  rw [← HW.out] at NS A54
                  rw [← HV'.out] at NS B54
                  have HPF := Lib.hid (pair_apart (SXY.out x (by simp)) (SXY.out y (by simp)) (SXY'.out x' (by simp)) (SXY'.out y' (by simp)) HAP.out)
                  generalize hX1 : climbF (nodeN n0 a0) (tagAt T) k (tagAt L k) (j + 1) = X1 at *
                  generalize hX2 : climbF (nodeN n0 a0) (tagAt U) k o (j + 1) = X2 at *
                  have EX1 := Lib.hid hX1; have EX2 := Lib.hid hX2
                  have RB54 := Lib.hid (show Bx w54 (S + 1) 4 (.bool false) from HS.out ▸ D54.out.rb)
                  have AFW := Lib.hid (show Aft w32.heap.size V w54 by rw [s8]; exact AF54.out)
                  obtain ⟨P1, hP1⟩ : ∃ P, pairS x y = P := ⟨_, rfl⟩
                  obtain ⟨P2, hP2⟩ : ∃ P, pairS x' y' = P := ⟨_, rfl⟩
                  have LD1 := Lib.hid (fun (o : Oper) (a : Act) q ho hx => show (execOp a.eval o).run Tryd.prog w54 = .ok (.value P1) w54 from hP1 ▸ exec_pair_load q ho AX hx x y PA54.out)
                  have LD2 := Lib.hid (fun (o : Oper) (a : Act) q ho hx => show (execOp a.eval o).run Tryd.prog w54 = .ok (.value P2) w54 from hP2 ▸ exec_pair_load q ho BX hx x' y' PB54.out)
                  have NQ := Lib.hid (fun (o : Oper) (a : Act) q r ho (hx : a.eval q = P1) (hy : a.eval r = P2) => exec_pair_neq (o := o) (w := w54) q r ho x y x' y' (hx.trans hP1.symm) (hy.trans hP2.symm) HPF.out)
                  clear hP1 hP2
                  have LW54 := Lib.hid (show Below S w w54 from HS.out ▸ D54.out.low)
                  clear hX1 hX2
                  by_cases hq : X1 = X2
                  · have EQ := Lib.hid (show sameSum X1 X2 = true by rw [hq]; exact sameSum_self _)
                    clear hq
                    gi_wp2_with (first
                      | (refine sumIn_load rfl rfl rfl _ rfl WAX 0 rfl X1 A54.out.one ?_; go_simp)
                      | (refine sumIn_load rfl rfl rfl _ rfl WBX 0 rfl X2 B54.out.one ?_; go_simp)
                      | (refine sumIn_eql rfl rfl rfl _ _ rfl X1 X2 rfl rfl true EQ.out ?_; go_simp)
                      | (refine givesIn rfl rfl rfl (LD1.out _ _ _ rfl rfl) ?_; go_simp)
                      | (refine givesIn rfl rfl rfl (LD2.out _ _ _ rfl rfl) ?_; go_simp)
                      | (refine givesIn rfl rfl rfl (NQ.out _ _ _ _ rfl rfl rfl) ?_; go_simp)
                      | (refine boolIn_store rfl rfl rfl _ _ rfl rfl (S + 1) rfl true rfl 4 (.bool false) RB54.out ?_; intro w55 hx hb hs
                         have R55 := Lib.hid hx
                         have L55 := Lib.hid (LW54.out.trans (hb.below (by omega) (HS.out ▸ LW54.out.size)))
                         have AF55 := Lib.hid (aft_but AFW.out hb (by rw [s8]; have h1 := D54.out.far; have h2 := F30.out; have h3 := F32.out; have h4 := HS.out; omega))
                         clear hx hb hs))
                    exact ⟨AF55.out, rfl, L55.out, R55.out⟩
                  · have EQ := Lib.hid (show sameSum X1 X2 = false from same_not NS.out.1 NS.out.2 hq)
                    have HQ := Lib.hid hq
                    clear hq
                    gi_wp2_with (first
                      | (refine sumIn_load rfl rfl rfl _ rfl WAX 0 rfl X1 A54.out.one ?_)
                      | (refine sumIn_load rfl rfl rfl _ rfl WBX 0 rfl X2 B54.out.one ?_)
                      | (refine sumIn_eql rfl rfl rfl _ _ rfl X1 X2 rfl rfl false EQ.out ?_))
                    exact ⟨AFW.out, D54.out, by rw [Nat.add_sub_cancel, EX1.out]; exact A54.out, by rw [Nat.add_sub_cancel, EX2.out]; exact B54.out, S54.out, by rw [Nat.add_sub_cancel, EX1.out, EX2.out]; exact fun h => HQ.out h.symm⟩
                · skip
                  refine tree_one rfl rfl (fun K' hK => ?_)
                  refine done_pair_alloc rfl V.drew.heap.size rfl ?_
                  intro w41 hx hb hs
                  have D41 := Lib.hid (D2.out.on hb); have A41 := Lib.hid (A2.out.below hb); have B41 := Lib.hid (B2.out.below hb); have S41 := Lib.hid (S2.out.below hb); have AF41 := Lib.hid (aft_below AF2.out hb)
                  have PB41 := Lib.hid hx; have F41 := Lib.hid (show V.heap.size ≤ V.drew.heap.size from VD.out)
                  clear hx hs VD
                  clear hb D2 A2 B2 S2 AF2
                  generalize V.drew.heap.size = BX at *
                  refine ⟨D41.out, ?_⟩
                  go_simp
                  refine hK _ _ ?_
                  clear hK K'
                  refine tree_one rfl rfl (fun K' hK => ?_)
                  refine done_pair_alloc rfl w41.heap.size rfl ?_
                  intro w42 hx hb hs
                  have D42 := Lib.hid (D41.out.on hb); have A42 := Lib.hid (A41.out.below hb); have B42 := Lib.hid (B41.out.below hb); have S42 := Lib.hid (S41.out.below hb); have AF42 := Lib.hid (aft_below AF41.out hb); have PB42 := Lib.hid (PB41.out.below hb)
                  have PA42 := Lib.hid hx; have F42 := Lib.hid (show V.heap.size ≤ BX ∧ BX < w41.heap.size from ⟨F41.out, PB41.out.lt⟩)
                  clear hx hs F41
                  clear hb D41 A41 B41 S41 AF41 PB41
                  generalize w41.heap.size = AX at *
                  refine ⟨D42.out, ?_⟩
                  go_simp
                  refine hK _ _ ?_
                  clear hK K'
                  have F40 := Lib.hid (show V.heap.size ≤ AX ∧ V.heap.size ≤ BX ∧ AX ≠ BX from by have := F42.out; omega)
                  clear F42
                  refine tree_one rfl rfl (fun K' hK => ?_)
                  refine done_pair_store _ _ rfl AX rfl (tagAt T e0) (tagAt T e1) rfl nought nought PA42.out ?_
                  intro w43 hx hb hs
                  have D43 := Lib.hid (D42.out.but hb (by have h1 := F40.out; have h2 := F30.out; have h3 := F32.out; have h4 := VZ.out; omega)); have A43 := Lib.hid (A42.out.but hb (by have h1 := F40.out; have h2 := F30.out; have h3 := F32.out; have h4 := VZ.out; omega)); have B43 := Lib.hid (B42.out.but hb (by have h1 := F40.out; have h2 := F30.out; have h3 := F32.out; have h4 := VZ.out; omega)); have S43 := Lib.hid (S42.out.but hb (by have h1 := F40.out; have h2 := F30.out; have h3 := F32.out; have h4 := VZ.out; omega)); have AF43 := Lib.hid (aft_but AF42.out hb (by have h1 := F40.out; have h2 := F30.out; have h3 := F32.out; have h4 := VZ.out; omega)); have PB43 := Lib.hid (PB42.out.but hb (by have h1 := F40.out; have h2 := F30.out; have h3 := F32.out; have h4 := VZ.out; omega))
                  have PA43 := Lib.hid hx
                  clear hx hs
                  clear hb D42 A42 B42 S42 AF42 PA42 PB42
                  refine ⟨D43.out, ?_⟩
                  go_simp
                  refine hK _ _ ?_
                  clear hK K'
                  refine tree_one rfl rfl (fun K' hK => ?_)
                  refine done_pair_store _ _ rfl BX rfl (tagAt U e0) (tagAt U e1) rfl nought nought PB43.out ?_
                  intro w44 hx hb hs
                  have D44 := Lib.hid (D43.out.but hb (by have h1 := F40.out; have h2 := F30.out; have h3 := F32.out; have h4 := VZ.out; omega)); have A44 := Lib.hid (A43.out.but hb (by have h1 := F40.out; have h2 := F30.out; have h3 := F32.out; have h4 := VZ.out; omega)); have B44 := Lib.hid (B43.out.but hb (by have h1 := F40.out; have h2 := F30.out; have h3 := F32.out; have h4 := VZ.out; omega)); have S44 := Lib.hid (S43.out.but hb (by have h1 := F40.out; have h2 := F30.out; have h3 := F32.out; have h4 := VZ.out; omega)); have AF44 := Lib.hid (aft_but AF43.out hb (by have h1 := F40.out; have h2 := F30.out; have h3 := F32.out; have h4 := VZ.out; omega)); have PA44 := Lib.hid (PA43.out.but hb (by have h1 := F40.out; have h2 := F30.out; have h3 := F32.out; have h4 := VZ.out; omega))
                  have PB44 := Lib.hid hx
                  clear hx hs
                  clear hb D43 A43 B43 S43 AF43 PA43 PB43
                  refine ⟨D44.out, ?_⟩
                  go_simp
                  refine hK _ _ ?_
                  clear hK K'
                  refine tree_over ?_
                  gi_wp2
                  have hb : Below w44.heap.size w44 w44.drew := (Below.refl _ _).drew
                  have D45 := Lib.hid (D44.out.on hb); have A45 := Lib.hid (A44.out.below hb); have B45 := Lib.hid (B44.out.below hb); have S45 := Lib.hid (S44.out.below hb); have AF45 := Lib.hid (aft_below AF44.out hb); have PA45 := Lib.hid (PA44.out.below hb); have PB45 := Lib.hid (PB44.out.below hb)
                  clear hb D44 A44 B44 S44 AF44 PA44 PB44
                  refine roundIn_sched [(0, true), (1, true), (2, false), (3, true), (4, true), (5, true), (6, true), (7, true)] (fun W => Bd w q0 n0 c0 TX NX OX UX Bl Bt Bu cu k o L T U W) (by kernel_rfl) (by kernel_rfl) rfl (by rintro ⟨_, _, h⟩; exact h) (D45.out) ?_
                  refine walk_float rfl rfl (fun K' hK => ?_)
                  refine gives_cell _ _ rfl ⟨NX, 0, none⟩ _ rfl box_int (fun W h => h.nx.cell) ?_
                  go_simp
                  refine hK _ ?_
                  clear hK K'
                  refine walk_float rfl rfl (fun K' hK => ?_)
                  refine gives_move _ rfl ?_
                  go_simp
                  refine hK _ ?_
                  clear hK K'
                  refine walk_done rfl rfl (fun K' hK => ?_)
                  refine done_one _ _ _ rfl 39 rfl (.int .i64 i) rfl (fun _ w => by simp [go_sem]) ((level_any i HI.out.2 HI.out.1 w44.drew).mono ?_)
                  rintro e w46 ⟨rfl, hb⟩
                  rw [HLI.out]
                  have D46 := Lib.hid (D45.out.on hb); have A46 := Lib.hid (A45.out.below hb); have B46 := Lib.hid (B45.out.below hb); have S46 := Lib.hid (S45.out.below hb); have AF46 := Lib.hid (aft_below AF45.out hb); have PA46 := Lib.hid (PA45.out.below hb); have PB46 := Lib.hid (PB45.out.below hb)
                  clear hb D45 A45 B45 S45 AF45 PA45 PB45
                  refine ⟨_, rfl, D46.out, ?_⟩
                  go_simp
                  refine hK _ _ ?_
                  clear hK K'
                  refine walk_float rfl rfl (fun K' hK => ?_)
                  refine gives_three _ rfl lv rfl HLJ.out.2 j HLJ.out.1 ?_
                  go_simp
                  refine hK _ ?_
                  clear hK K'
                  refine walk_float rfl rfl (fun K' hK => ?_)
                  refine gives_unsign _ rfl j rfl (by have := H4.out; omega) ?_
                  go_simp
                  refine hK _ ?_
                  clear hK K'
                  refine walk_float rfl rfl (fun K' hK => ?_)
                  refine gives_shift _ _ rfl k j KL.out H4.out rfl rfl kk HKK.out ?_
                  go_simp
                  refine hK _ ?_
                  clear hK K'
                  refine walk_float rfl rfl (fun K' hK => ?_)
                  refine gives_low _ rfl kk HKL.out rfl sd HSD.out ?_
                  go_simp
                  refine hK _ ?_
                  clear hK K'
                  refine walk_float rfl rfl (fun K' hK => ?_)
                  refine gives_assign _ rfl ?_
                  go_simp
                  refine hK _ ?_
                  clear hK K'
                  refine walk_nil ?_
                  gi_wp2
                  have hb : Below w46.heap.size w46 w46.drew := (Below.refl _ _).drew
                  have D47 := Lib.hid (D46.out.on hb); have A47 := Lib.hid (A46.out.below hb); have B47 := Lib.hid (B46.out.below hb); have S47 := Lib.hid (S46.out.below hb); have AF47 := Lib.hid (aft_below AF46.out hb); have PA47 := Lib.hid (PA46.out.below hb); have PB47 := Lib.hid (PB46.out.below hb)
                  clear hb D46 A46 B46 S46 AF46 PA46 PB46
                  refine roundIn_sched [(0, true), (1, true), (2, true), (3, true), (4, true), (5, false), (6, true), (7, false)] (fun W => SumsB W WAX [was] ∧ SumsB W WBX [now]) (by kernel_rfl) (by kernel_rfl) rfl (by rintro ⟨_, _, h⟩; exact h) (⟨A47.out, B47.out⟩) ?_
                  refine walk_float rfl rfl (fun K' hK => ?_)
                  refine gives_move _ rfl ?_
                  go_simp
                  refine hK _ ?_
                  clear hK K'
                  refine walk_float rfl rfl (fun K' hK => ?_)
                  refine gives_move _ rfl ?_
                  go_simp
                  refine hK _ ?_
                  clear hK K'
                  refine walk_float rfl rfl (fun K' hK => ?_)
                  refine gives_sum_mid _ rfl WAX 0 rfl was (fun W h => h.1.one) ?_
                  go_simp
                  refine hK _ ?_
                  clear hK K'
                  refine walk_float rfl rfl (fun K' hK => ?_)
                  refine gives_sum_mid _ rfl WBX 0 rfl now (fun W h => h.2.one) ?_
                  go_simp
                  refine hK _ ?_
                  clear hK K'
                  refine walk_float rfl rfl (fun K' hK => ?_)
                  refine gives_pair_addr _ _ rfl AX sd rfl rfl SD.out ?_
                  go_simp
                  refine hK _ ?_
                  clear hK K'
                  refine walk_done rfl rfl (fun K' hK => ?_)
                  refine done_sum_store _ _ rfl AX sd rfl was rfl [tagAt T e0, tagAt T e1] PA47.out SD.out ?_
                  intro w48 hx hb hs
                  rw [HK1.out] at hx
                  have D48 := Lib.hid (D47.out.but hb (by have h1 := F40.out; have h2 := F30.out; have h3 := F32.out; have h4 := VZ.out; omega)); have A48 := Lib.hid (A47.out.but hb (by have h1 := F40.out; have h2 := F30.out; have h3 := F32.out; have h4 := VZ.out; omega)); have B48 := Lib.hid (B47.out.but hb (by have h1 := F40.out; have h2 := F30.out; have h3 := F32.out; have h4 := VZ.out; omega)); have S48 := Lib.hid (S47.out.but hb (by have h1 := F40.out; have h2 := F30.out; have h3 := F32.out; have h4 := VZ.out; omega)); have AF48 := Lib.hid (aft_but AF47.out hb (by have h1 := F40.out; have h2 := F30.out; have h3 := F32.out; have h4 := VZ.out; omega)); have PB48 := Lib.hid (PB47.out.but hb (by have h1 := F40.out; have h2 := F30.out; have h3 := F32.out; have h4 := VZ.out; omega))
                  have PA48 := Lib.hid hx
                  clear hx hs
                  clear hb D47 A47 B47 S47 AF47 PA47 PB47
                  refine ⟨⟨A48.out, B48.out⟩, ?_⟩
                  go_simp
                  refine hK _ _ ?_
                  clear hK K'
                  refine walk_float rfl rfl (fun K' hK => ?_)
                  refine gives_pair_addr _ _ rfl BX sd rfl rfl SD.out ?_
                  go_simp
                  refine hK _ ?_
                  clear hK K'
                  refine walk_done rfl rfl (fun K' hK => ?_)
                  refine done_sum_store _ _ rfl BX sd rfl now rfl [tagAt U e0, tagAt U e1] PB48.out SD.out ?_
                  intro w49 hx hb hs
                  rw [HK1'.out] at hx
                  have D49 := Lib.hid (D48.out.but hb (by have h1 := F40.out; have h2 := F30.out; have h3 := F32.out; have h4 := VZ.out; omega)); have A49 := Lib.hid (A48.out.but hb (by have h1 := F40.out; have h2 := F30.out; have h3 := F32.out; have h4 := VZ.out; omega)); have B49 := Lib.hid (B48.out.but hb (by have h1 := F40.out; have h2 := F30.out; have h3 := F32.out; have h4 := VZ.out; omega)); have S49 := Lib.hid (S48.out.but hb (by have h1 := F40.out; have h2 := F30.out; have h3 := F32.out; have h4 := VZ.out; omega)); have AF49 := Lib.hid (aft_but AF48.out hb (by have h1 := F40.out; have h2 := F30.out; have h3 := F32.out; have h4 := VZ.out; omega)); have PA49 := Lib.hid (PA48.out.but hb (by have h1 := F40.out; have h2 := F30.out; have h3 := F32.out; have h4 := VZ.out; omega))
                  have PB49 := Lib.hid hx
                  clear hx hs
                  clear hb D48 A48 B48 S48 AF48 PA48 PB48
                  refine ⟨⟨A49.out, B49.out⟩, ?_⟩
                  go_simp
                  refine hK _ _ ?_
                  clear hK K'
                  refine walk_nil ?_
                  gi_wp2
                  have hb : Below w49.heap.size w49 w49.drew := (Below.refl _ _).drew
                  have D50 := Lib.hid (D49.out.on hb); have A50 := Lib.hid (A49.out.below hb); have B50 := Lib.hid (B49.out.below hb); have S50 := Lib.hid (S49.out.below hb); have AF50 := Lib.hid (aft_below AF49.out hb); have PA50 := Lib.hid (PA49.out.below hb); have PB50 := Lib.hid (PB49.out.below hb)
                  clear hb D49 A49 B49 S49 AF49 PA49 PB49
                  refine roundIn_sched [(0, true), (1, true), (2, true), (3, true), (4, true), (5, true), (7, true), (8, true), (9, true), (10, true), (11, true), (12, true), (6, false), (13, false), (14, false), (15, false)] (fun W => Bd w q0 n0 c0 TX NX OX UX Bl Bt Bu cu k o L T U W ∧ SumsB W AX [x, y] ∧ SumsB W BX [x', y']) (by kernel_rfl) (by kernel_rfl) rfl (by rintro ⟨_, _, h⟩; exact h) (⟨D50.out, PA50.out, PB50.out⟩) ?_
                  refine walk_float rfl rfl (fun K' hK => ?_)
                  refine gives_cell _ _ rfl ⟨S, 0, none⟩ _ rfl box_bytes (fun W h => HS.out ▸ h.1.kb.cell) ?_
                  go_simp
                  refine hK _ ?_
                  clear hK K'
                  refine walk_float rfl rfl (fun K' hK => ?_)
                  refine gives_move _ rfl ?_
                  go_simp
                  refine hK _ ?_
                  clear hK K'
                  refine walk_float rfl rfl (fun K' hK => ?_)
                  refine gives_pair_addr _ _ rfl AX 0 rfl rfl (by decide) ?_
                  go_simp
                  refine hK _ ?_
                  clear hK K'
                  refine walk_float rfl rfl (fun K' hK => ?_)
                  refine gives_sum_mid _ rfl AX 0 rfl x (fun W h => h.2.1.rows 0 x rfl) ?_
                  go_simp
                  refine hK _ ?_
                  clear hK K'
                  refine walk_float rfl rfl (fun K' hK => ?_)
                  refine gives_pair_addr _ _ rfl AX 1 rfl rfl (by decide) ?_
                  go_simp
                  refine hK _ ?_
                  clear hK K'
                  refine walk_float rfl rfl (fun K' hK => ?_)
                  refine gives_sum_mid _ rfl AX 32 rfl y (fun W h => h.2.1.rows 1 y rfl) ?_
                  go_simp
                  refine hK _ ?_
                  clear hK K'
                  refine walk_float rfl rfl (fun K' hK => ?_)
                  refine gives_cell _ _ rfl ⟨S, 0, none⟩ _ rfl box_bytes (fun W h => HS.out ▸ h.1.kb.cell) ?_
                  go_simp
                  refine hK _ ?_
                  clear hK K'
                  refine walk_float rfl rfl (fun K' hK => ?_)
                  refine gives_move _ rfl ?_
                  go_simp
                  refine hK _ ?_
                  clear hK K'
                  refine walk_float rfl rfl (fun K' hK => ?_)
                  refine gives_pair_addr _ _ rfl BX 0 rfl rfl (by decide) ?_
                  go_simp
                  refine hK _ ?_
                  clear hK K'
                  refine walk_float rfl rfl (fun K' hK => ?_)
                  refine gives_sum_mid _ rfl BX 0 rfl x' (fun W h => h.2.2.rows 0 x' rfl) ?_
                  go_simp
                  refine hK _ ?_
                  clear hK K'
                  refine walk_float rfl rfl (fun K' hK => ?_)
                  refine gives_pair_addr _ _ rfl BX 1 rfl rfl (by decide) ?_
                  go_simp
                  refine hK _ ?_
                  clear hK K'
                  refine walk_float rfl rfl (fun K' hK => ?_)
                  refine gives_sum_mid _ rfl BX 32 rfl y' (fun W h => h.2.2.rows 1 y' rfl) ?_
                  go_simp
                  refine hK _ ?_
                  clear hK K'
                  refine walk_done rfl rfl (fun K' hK => ?_)
                  refine done_four _ _ _ _ _ _ rfl 28 rfl (.slice q0 n0 c0) (.int .i64 i) (sumVal x) (sumVal y) rfl rfl rfl rfl (fun _ w => by simp [go_sem]) ((NA.out w49.drew (HS.out ▸ D50.out.low) i x y (SXY.out x (by simp)) (SXY.out y (by simp))).mono ?_)
                  rintro e w51 ⟨rfl, hb⟩
                  have D51 := Lib.hid (D50.out.on hb); have A51 := Lib.hid (A50.out.below hb); have B51 := Lib.hid (B50.out.below hb); have S51 := Lib.hid (S50.out.below hb); have AF51 := Lib.hid (aft_below AF50.out hb); have PA51 := Lib.hid (PA50.out.below hb); have PB51 := Lib.hid (PB50.out.below hb)
                  clear hb D50 A50 B50 S50 AF50 PA50 PB50
                  refine ⟨_, rfl, ⟨D51.out, PA51.out, PB51.out⟩, ?_⟩
                  go_simp
                  refine hK _ _ ?_
                  clear hK K'
                  refine walk_done rfl rfl (fun K' hK => ?_)
                  refine done_four _ _ _ _ _ _ rfl 28 rfl (.slice q0 n0 c0) (.int .i64 i) (sumVal x') (sumVal y') rfl rfl rfl rfl (fun _ w => by simp [go_sem]) ((NA.out w51 (HS.out ▸ D51.out.low) i x' y' (SXY'.out x' (by simp)) (SXY'.out y' (by simp))).mono ?_)
                  rintro e w52 ⟨rfl, hb⟩
                  have D52 := Lib.hid (D51.out.on hb); have A52 := Lib.hid (A51.out.below hb); have B52 := Lib.hid (B51.out.below hb); have S52 := Lib.hid (S51.out.below hb); have AF52 := Lib.hid (aft_below AF51.out hb); have PA52 := Lib.hid (PA51.out.below hb); have PB52 := Lib.hid (PB51.out.below hb)
                  clear hb D51 A51 B51 S51 AF51 PA51 PB51
                  refine ⟨_, rfl, ⟨D52.out, PA52.out, PB52.out⟩, ?_⟩
                  go_simp
                  refine hK _ _ ?_
                  clear hK K'
                  refine walk_done rfl rfl (fun K' hK => ?_)
                  refine done_sum_store _ _ rfl WAX 0 rfl (nodeN n0 a0 i x y) rfl [was] A52.out (by simp) ?_
                  intro w53 hx hb hs
                  have D53 := Lib.hid (D52.out.but hb (by have h1 := F40.out; have h2 := F30.out; have h3 := F32.out; have h4 := VZ.out; omega)); have B53 := Lib.hid (B52.out.but hb (by have h1 := F40.out; have h2 := F30.out; have h3 := F32.out; have h4 := VZ.out; omega)); have S53 := Lib.hid (S52.out.but hb (by have h1 := F40.out; have h2 := F30.out; have h3 := F32.out; have h4 := VZ.out; omega)); have AF53 := Lib.hid (aft_but AF52.out hb (by have h1 := F40.out; have h2 := F30.out; have h3 := F32.out; have h4 := VZ.out; omega)); have PA53 := Lib.hid (PA52.out.but hb (by have h1 := F40.out; have h2 := F30.out; have h3 := F32.out; have h4 := VZ.out; omega)); have PB53 := Lib.hid (PB52.out.but hb (by have h1 := F40.out; have h2 := F30.out; have h3 := F32.out; have h4 := VZ.out; omega))
                  have A53 := Lib.hid (show SumsB w53 WAX [nodeN n0 a0 i x y] from hx)
                  clear hx hs
                  clear hb D52 A52 B52 S52 AF52 PA52 PB52
                  refine ⟨⟨D53.out, PA53.out, PB53.out⟩, ?_⟩
                  go_simp
                  refine hK _ _ ?_
                  clear hK K'
                  refine walk_done rfl rfl (fun K' hK => ?_)
                  refine done_sum_store _ _ rfl WBX 0 rfl (nodeN n0 a0 i x' y') rfl [now] B53.out (by simp) ?_
                  intro w54 hx hb hs
                  have D54 := Lib.hid (D53.out.but hb (by have h1 := F40.out; have h2 := F30.out; have h3 := F32.out; have h4 := VZ.out; omega)); have A54 := Lib.hid (A53.out.but hb (by have h1 := F40.out; have h2 := F30.out; have h3 := F32.out; have h4 := VZ.out; omega)); have S54 := Lib.hid (S53.out.but hb (by have h1 := F40.out; have h2 := F30.out; have h3 := F32.out; have h4 := VZ.out; omega)); have AF54 := Lib.hid (aft_but AF53.out hb (by have h1 := F40.out; have h2 := F30.out; have h3 := F32.out; have h4 := VZ.out; omega)); have PA54 := Lib.hid (PA53.out.but hb (by have h1 := F40.out; have h2 := F30.out; have h3 := F32.out; have h4 := VZ.out; omega)); have PB54 := Lib.hid (PB53.out.but hb (by have h1 := F40.out; have h2 := F30.out; have h3 := F32.out; have h4 := VZ.out; omega))
                  have B54 := Lib.hid (show SumsB w54 WBX [nodeN n0 a0 i x' y'] from hx)
                  clear hx hs
                  clear hb D53 A53 B53 S53 AF53 PA53 PB53
                  refine ⟨⟨D54.out, PA54.out, PB54.out⟩, ?_⟩
                  go_simp
                  refine hK _ _ ?_
                  clear hK K'
                  refine walk_nil ?_
                  have NS := Lib.hid (show IsSum (nodeN n0 a0 i x y) ∧ IsSum (nodeN n0 a0 i x' y') from ⟨nodeN_sum _ _ _ _ _, nodeN_sum _ _ _ _ _⟩)
                  rw [← HW.out] at NS A54
                  rw [← HV'.out] at NS B54
                  have HPF := Lib.hid (pair_apart (SXY.out x (by simp)) (SXY.out y (by simp)) (SXY'.out x' (by simp)) (SXY'.out y' (by simp)) HAP.out)
                  generalize hX1 : climbF (nodeN n0 a0) (tagAt T) k (tagAt L k) (j + 1) = X1 at *
                  generalize hX2 : climbF (nodeN n0 a0) (tagAt U) k o (j + 1) = X2 at *
                  have EX1 := Lib.hid hX1; have EX2 := Lib.hid hX2
                  have RB54 := Lib.hid (show Bx w54 (S + 1) 4 (.bool false) from HS.out ▸ D54.out.rb)
                  have AFW := Lib.hid (show Aft w32.heap.size V w54 by rw [s8]; exact AF54.out)
                  obtain ⟨P1, hP1⟩ : ∃ P, pairS x y = P := ⟨_, rfl⟩
                  obtain ⟨P2, hP2⟩ : ∃ P, pairS x' y' = P := ⟨_, rfl⟩
                  have LD1 := Lib.hid (fun (o : Oper) (a : Act) q ho hx => show (execOp a.eval o).run Tryd.prog w54 = .ok (.value P1) w54 from hP1 ▸ exec_pair_load q ho AX hx x y PA54.out)
                  have LD2 := Lib.hid (fun (o : Oper) (a : Act) q ho hx => show (execOp a.eval o).run Tryd.prog w54 = .ok (.value P2) w54 from hP2 ▸ exec_pair_load q ho BX hx x' y' PB54.out)
                  have NQ := Lib.hid (fun (o : Oper) (a : Act) q r ho (hx : a.eval q = P1) (hy : a.eval r = P2) => exec_pair_neq (o := o) (w := w54) q r ho x y x' y' (hx.trans hP1.symm) (hy.trans hP2.symm) HPF.out)
                  clear hP1 hP2
                  have LW54 := Lib.hid (show Below S w w54 from HS.out ▸ D54.out.low)
                  clear hX1 hX2
                  by_cases hq : X1 = X2
                  · have EQ := Lib.hid (show sameSum X1 X2 = true by rw [hq]; exact sameSum_self _)
                    clear hq
                    gi_wp2_with (first
                      | (refine sumIn_load rfl rfl rfl _ rfl WAX 0 rfl X1 A54.out.one ?_; go_simp)
                      | (refine sumIn_load rfl rfl rfl _ rfl WBX 0 rfl X2 B54.out.one ?_; go_simp)
                      | (refine sumIn_eql rfl rfl rfl _ _ rfl X1 X2 rfl rfl true EQ.out ?_; go_simp)
                      | (refine givesIn rfl rfl rfl (LD1.out _ _ _ rfl rfl) ?_; go_simp)
                      | (refine givesIn rfl rfl rfl (LD2.out _ _ _ rfl rfl) ?_; go_simp)
                      | (refine givesIn rfl rfl rfl (NQ.out _ _ _ _ rfl rfl rfl) ?_; go_simp)
                      | (refine boolIn_store rfl rfl rfl _ _ rfl rfl (S + 1) rfl true rfl 4 (.bool false) RB54.out ?_; intro w55 hx hb hs
                         have R55 := Lib.hid hx
                         have L55 := Lib.hid (LW54.out.trans (hb.below (by omega) (HS.out ▸ LW54.out.size)))
                         have AF55 := Lib.hid (aft_but AFW.out hb (by rw [s8]; have h1 := D54.out.far; have h2 := F30.out; have h3 := F32.out; have h4 := HS.out; omega))
                         clear hx hb hs))
                    exact ⟨AF55.out, rfl, L55.out, R55.out⟩
                  · have EQ := Lib.hid (show sameSum X1 X2 = false from same_not NS.out.1 NS.out.2 hq)
                    have HQ := Lib.hid hq
                    clear hq
                    gi_wp2_with (first
                      | (refine sumIn_load rfl rfl rfl _ rfl WAX 0 rfl X1 A54.out.one ?_)
                      | (refine sumIn_load rfl rfl rfl _ rfl WBX 0 rfl X2 B54.out.one ?_)
                      | (refine sumIn_eql rfl rfl rfl _ _ rfl X1 X2 rfl rfl false EQ.out ?_))
                    exact ⟨AFW.out, D54.out, by rw [Nat.add_sub_cancel, EX1.out]; exact A54.out, by rw [Nat.add_sub_cancel, EX2.out]; exact B54.out, S54.out, by rw [Nat.add_sub_cancel, EX1.out, EX2.out]; exact fun h => HQ.out h.symm⟩
          · skip
            refine tree_one rfl rfl (fun K' hK => ?_)
            refine done_sum_alloc rfl w26.drew.heap.size rfl ?_
            intro w28 hx hb hs
            have D28 := Lib.hid (D27.out.on hb); have WB28 := Lib.hid hx; have F28 := Lib.hid (show UX < w26.drew.heap.size from D27.out.far.2.2.2.2.2.2.2)
            clear hx hb hs D27
            generalize w26.drew.heap.size = WBX at *
            refine ⟨D28.out, ?_⟩
            go_simp
            refine hK _ _ ?_
            clear hK K'
            refine tree_one rfl rfl (fun K' hK => ?_)
            refine done_sum_alloc rfl w28.heap.size rfl ?_
            intro w29 hx hb hs
            have D29 := Lib.hid (D28.out.on hb); have WB29 := Lib.hid (WB28.out.below hb); have WA29 := Lib.hid hx; have F29 := Lib.hid (show UX < WBX ∧ UX < w28.heap.size ∧ WBX ≠ w28.heap.size from ⟨F28.out, D28.out.far.2.2.2.2.2.2.2, Nat.ne_of_lt WB28.out.lt⟩)
            clear hx hb hs D28 WB28 F28
            generalize w28.heap.size = WAX at *
            refine ⟨D29.out, ?_⟩
            go_simp
            refine hK _ _ ?_
            clear hK K'
            have F30 := Lib.hid (show UX < WAX ∧ UX < WBX ∧ WAX ≠ WBX from by have := F29.out; omega)
            clear F29
            refine tree_one rfl rfl (fun K' hK => ?_)
            refine done_sum_store _ _ rfl WAX 0 rfl (tagAt L k) rfl [nought] WA29.out (by simp) ?_
            intro w30 hx hb hs
            have D30 := Lib.hid (D29.out.but hb F30.out.1); have WA30 := Lib.hid (show SumsB w30 WAX [tagAt L k] from hx); have WB30 := Lib.hid (WB29.out.but hb (by have := F30.out; omega))
            clear hx hb hs D29 WA29 WB29
            refine ⟨D30.out, ?_⟩
            go_simp
            refine hK _ _ ?_
            clear hK K'
            refine tree_one rfl rfl (fun K' hK => ?_)
            refine done_sum_store _ _ rfl WBX 0 rfl o rfl [nought] WB30.out (by simp) ?_
            intro w31 hx hb hs
            have D31 := Lib.hid (D30.out.but hb F30.out.2.1); have WB31 := Lib.hid (show SumsB w31 WBX [o] from hx); have WA31 := Lib.hid (WA30.out.but hb (by have := F30.out; omega))
            clear hx hb hs D30 WA30 WB30
            refine ⟨D31.out, ?_⟩
            go_simp
            refine hK _ _ ?_
            clear hK K'
            refine tree_over ?_
            have nxc := D31.out.nx.cell
            go_wp2_with (first
              | (go_at_call 17; refine (Path_any _ w31).mono ?_; rintro e w32 ⟨rfl, hw⟩
                 have hb : Below w31.heap.size w31 w32 := hw ▸ (Below.refl _ _).alloc (Nat.le_refl _) _
                 have D32 := Lib.hid (D31.out.on hb); have WA32 := Lib.hid (WA31.out.below hb); have WB32 := Lib.hid (WB31.out.below hb)
                 have SB32 := Lib.hid (show Bx w32 w31.heap.size 3 (.int .i64 k) from hw ▸ Bx.new _ _ _)
                 have S32 := Lib.hid (show w32.heap.size = w31.heap.size + 1 from by rw [← hw, World.size_alloc])
                 have F32 := Lib.hid (show WAX < w31.heap.size ∧ WBX < w31.heap.size from ⟨WA31.out.lt, WB31.out.lt⟩)
                 clear hw hb D31 WA31 WB31 nxc
                 generalize w31.heap.size = SB at *))
            have s8 := S32.out
            clear S32
            have PG := Lib.hid (fun m => path_gives m SB k KL.out)
            have W0 := Lib.hid (show climbF (nodeN n0 a0) (tagAt T) k (tagAt L k) 0 = tagAt L k from climbF_zero _ _ _ _)
            have V0 := Lib.hid (show climbF (nodeN n0 a0) (tagAt U) k o 0 = o from climbF_zero _ _ _ _)
            have W4 := Lib.hid (show climbF (nodeN n0 a0) (tagAt T) k (tagAt L k) 4 = tagAt T 1 from BR.out)
            have V4 := Lib.hid (show climbF (nodeN n0 a0) (tagAt U) k o 4 = tagAt T 1 from of_decide_eq_true HV.out)
            have WS := Lib.hid (fun j => climb_sum (N := nodeN n0 a0) (T := tagAt T) (b := k) (nodeN_sum n0 a0) LKS.out j)
            have VS := Lib.hid (fun j => climb_sum (N := nodeN n0 a0) (T := tagAt U) (b := k) (nodeN_sum n0 a0) OS.out j)
            have WN := Lib.hid (fun j => climbF_next (nodeN n0 a0) (tagAt T) k (tagAt L k) j)
            have VN := Lib.hid (fun j => climbF_next (nodeN n0 a0) (tagAt U) k o j)
            have PN := Lib.hid (fun j => pn_next k j)
            have PA := Lib.hid (fun j (hj : j < 5) => pn_all k KL.out j hj)
            have PZ := Lib.hid (pn_zero k)
            have LP := Lib.hid (fun j (hj : j < 4) => lv_path k KL.out j hj)
            have LD := Lib.hid (fun j (hj : j < 4) => lv_side k KL.out j hj)
            have TAG := Lib.hid (fun j (hj : j < 32) => tagAt_sum TM.out (i := j) (by rw [TN.out]; exact hj))
            have UAG := Lib.hid (fun j (hj : j < 32) => tagAt_sum UM.out (i := j) (by rw [UN.out]; exact hj))
            refine (wpIn_wide (n := 3)).1 ?_
            refine range_ends rfl (by omega) (gf := 30) (lb := #[.pointer (some ⟨SB, 0, none⟩)]) rfl trivial (enters_of Tryd.func30 (by kernel_rfl) rfl)
              (ptE k) (fun _ i _ x => x = i) 5 (PtR SB k) (fun _ => rfl)
              (fun j V => Bd w q0 n0 c0 TX NX OX UX Bl Bt Bu cu k o L T U V ∧ SumsB V WAX [climbF (nodeN n0 a0) (tagAt T) k (tagAt L k) (j - 1)] ∧ SumsB V WBX [climbF (nodeN n0 a0) (tagAt U) k o (j - 1)] ∧ Bx V SB 3 (.int .i64 k) ∧ climbF (nodeN n0 a0) (tagAt U) k o (j - 1) ≠ climbF (nodeN n0 a0) (tagAt T) k (tagAt L k) (j - 1))
              (fun c V => c = .ret ∧ Below S w V ∧ Bx V (S + 1) 4 (.bool true)) ?rd ?st ?stx ⟨D32.out, by rw [W0.out]; exact WA32.out, by rw [V0.out]; exact WB32.out, SB32.out, by rw [W0.out, V0.out]; exact HNE.out⟩ (PG.out _) ?round ?done ?stop
            case rd => exact fun i V h => h.2.2.2.1.cell
            case st =>
              rintro j V V' ⟨h1, h2, h3, h4, h5⟩ hb
              rw [s8] at hb
              have hf := F32.out
              exact ⟨h1.belowM hb (by have := F30.out; omega), h2.belowM hb (by omega), h3.belowM hb (by omega), h4.belowM hb (by omega), h5⟩
            case stx =>
              rintro c V V' ⟨h1, h2, h3⟩ hb
              rw [s8] at hb
              have hf := F32.out; have hd := D32.out.far; have hs := HS.out
              exact ⟨h1, h2.trans (hb.mono (by have := F30.out; omega)), h3.belowM hb (by have := F30.out; omega)⟩
            case done =>
              rintro D' V hD ⟨_, _, _, _, h5⟩ hd
              exact absurd (by rw [V4.out, W4.out]) h5
            case stop =>
              rintro D' c V hD ⟨rfl, h2, h3⟩ hd
              rw [s8] at hD
              have hf := F32.out; have hdf := D32.out.far; have hs := HS.out; have hff := F30.out
              have hlt : S + 1 < D' := by omega
              have r1 := cells_turn (o' := .deferred none) h3 hd rfl
              have rc := cell_of_one r1
              have RC := Lib.hid rc; have HDD := Lib.hid hd; have H2 := Lib.hid h2; have HLD := Lib.hid (show S ≤ D' by omega)
              clear rc r1 hd h2 h3 hlt hf hdf hs hff hD
              gi_wp2
              refine ⟨by simp, .inl ⟨_, _, rfl, run_takeDeferred HDD.out, ?_⟩⟩
              have rc := RC.out
              refine ⟨.bool true, ?_, rfl, below_turn _ H2.out HLD.out⟩
              simp [results, Tryd.f25, go_sem, rc]
            case round =>
              rintro l' i0 j W hl hj hus ⟨h1, h2, h3, h4, h5⟩ rfl
              rw [s8] at hus hl
              have HD := Lib.hid h1; have HA := Lib.hid h2; have HB := Lib.hid h3; have HSB := Lib.hid h4; have HNQ := Lib.hid h5; have HJ := Lib.hid hj
              clear h1 h2 h3 h4 h5 D32 WA32 WB32 SB32 hj
              rcases j with _ | j
              · have e0 := PZ.out
                unfold ptE
                rw [e0]
                have g1 : decide ((16 : Int) ≤ ((16 + k : Nat) : Int)) = true := decide_eq_true (by omega)
                have g2 : decide (16 ≤ 16 + k) = true := decide_eq_true (by omega)
                gi_wp2
                refine ⟨Aft.refl _ _, fun V hVs hVk hVb => ?_⟩
                try rw [s8] at hVb
                have hf := F32.out; have hff := F30.out
                have D1 := Lib.hid (HD.out.belowM hVb (by omega)); have A1 := Lib.hid (HA.out.belowM hVb (by omega)); have B1 := Lib.hid (HB.out.belowM hVb (by omega)); have S1 := Lib.hid (HSB.out.belowM hVb (by omega))
                clear hVs hVk hVb hf hff
                gi_wp2
                all_goals exact ⟨Aft.refl _ _, D1.out, A1.out, B1.out, S1.out, HNQ.out⟩
              · have H4 := Lib.hid (show j < 4 by have := HJ.out; omega)
                have H6 := Lib.hid (show pn k (j + 1) < 16 ∧ 1 ≤ pn k (j + 1) from ⟨(PA.out (j + 1) (by have := H4.out; omega)).2.2.2.1 (by omega), (PA.out (j + 1) (by have := H4.out; omega)).1⟩)
                have HPN := Lib.hid (PN.out j)
                have HLP := Lib.hid (LP.out j H4.out)
                have HLD := Lib.hid (LD.out j H4.out)
                have HWN := Lib.hid (WN.out j)
                have HVN := Lib.hid (VN.out j)
                have HWS := Lib.hid (WS.out j)
                have HVS := Lib.hid (VS.out j)
                unfold ptE
                rw [Nat.add_sub_cancel] at HA HB HNQ
                generalize climbF (nodeN n0 a0) (tagAt T) k (tagAt L k) j = was at *
                generalize climbF (nodeN n0 a0) (tagAt U) k o j = now at *
                obtain ⟨c, hc⟩ : ∃ c, pn k j = c := ⟨_, rfl⟩
                obtain ⟨i, hi⟩ : ∃ i, pn k (j + 1) = i := ⟨_, rfl⟩
                have HC := Lib.hid (show c / 2 = i by rw [← hi, HPN.out, hc])
                have HI := Lib.hid (show i < 16 ∧ 1 ≤ i from hi ▸ H6.out)
                obtain ⟨lv, hlv⟩ : ∃ lv, lvF i = lv := ⟨_, rfl⟩
                have HLI := Lib.hid hlv
                have HLJ := Lib.hid (show 3 - lv = j ∧ lv ≤ 3 by have h1 : lvF i = 3 - j := hi ▸ HLP.out; have := H4.out; omega)
                obtain ⟨kk, hkk⟩ : ∃ kk, k / 2 ^ j = kk := ⟨_, rfl⟩
                have HKK := Lib.hid hkk
                have HSD := Lib.hid (show kk % 2 = c % 2 by rw [← hkk]; exact hc ▸ HLD.out)
                have HKL := Lib.hid (show kk < 16 by rw [← hkk]; exact Nat.lt_of_le_of_lt (Nat.div_le_self _ _) KL.out)
                obtain ⟨x, y, hk1, hk2, hx, hy⟩ := par_kids (nodeN n0 a0) (tagAt T) c was
                obtain ⟨x', y', hk1', hk2', hx', hy'⟩ := par_kids (nodeN n0 a0) (tagAt U) c now
                have HK1 := Lib.hid (show [tagAt T (2 * i), tagAt T (2 * i + 1)].set (c % 2) was = [x, y] by rw [← HC.out]; exact hk1)
                have HK1' := Lib.hid (show [tagAt U (2 * i), tagAt U (2 * i + 1)].set (c % 2) now = [x', y'] by rw [← HC.out]; exact hk1')
                have HW := Lib.hid (show climbF (nodeN n0 a0) (tagAt T) k (tagAt L k) (j + 1) = nodeN n0 a0 i x y by rw [HWN.out, hc, hk2, HC.out])
                have HV' := Lib.hid (show climbF (nodeN n0 a0) (tagAt U) k o (j + 1) = nodeN n0 a0 i x' y' by rw [HVN.out, hc, hk2', HC.out])
                have HAP := Lib.hid (show ¬ (x = x' ∧ y = y') from fun h => HNQ.out (by
                  rcases Nat.mod_two_eq_zero_or_one c with e | e
                  · rw [← hx e, ← hx' e]; exact h.1.symm
                  · rw [← hy e, ← hy' e]; exact h.2.symm))
                have SXY := Lib.hid (show ∀ t ∈ [x, y], IsSum t from by
                  rw [← HK1.out]
                  exact leaves_set_sum (fun t ht => by
                    have hi2 := HI.out
                    rcases List.mem_cons.1 ht with e | ht
                    · rw [e]; exact TAG.out _ (by omega)
                    · rw [List.mem_singleton.1 ht]; exact TAG.out _ (by omega)) HWS.out _)
                have SXY' := Lib.hid (show ∀ t ∈ [x', y'], IsSum t from by
                  rw [← HK1'.out]
                  exact leaves_set_sum (fun t ht => by
                    have hi2 := HI.out
                    rcases List.mem_cons.1 ht with e | ht
                    · rw [e]; exact UAG.out _ (by omega)
                    · rw [List.mem_singleton.1 ht]; exact UAG.out _ (by omega)) HVS.out _)
                obtain ⟨sd, hsd⟩ : ∃ sd, c % 2 = sd := ⟨_, rfl⟩
                rw [hsd] at HK1 HK1' HSD
                have SD := Lib.hid (show sd < 2 by omega)
                rw [hi]
                clear hsd hlv hkk hc hi hk1 hk2 hx hy hk1' hk2' hx' hy' H6 HPN HLP HLD HWN HVN
                have g1 : decide ((16 : Int) ≤ (i : Int)) = false := decide_eq_false (by have := HI.out; omega)
                have g2 : decide (16 ≤ i) = false := decide_eq_false (by have := HI.out; omega)
                obtain ⟨e0, he0⟩ : ∃ e0, 2 * i = e0 := ⟨_, rfl⟩
                obtain ⟨e1, he1⟩ : ∃ e1, e0 + 1 = e1 := ⟨_, rfl⟩
                have HE0 := Lib.hid he0; have HE1 := Lib.hid he1
                have HE := Lib.hid (show e0 < 32 ∧ e1 < 32 ∧ i < 1000 ∧ e0 < 1000 by have := HI.out; omega)
                rw [he0, he1] at HK1 HK1'
                clear he0 he1
                gi_wp2
                refine ⟨Aft.refl _ _, fun V hVs hVk hVb => ?_⟩
                try rw [s8] at hVb
                have hf := F32.out; have hff := F30.out
                have D1 := Lib.hid (HD.out.belowM hVb (by omega)); have A1 := Lib.hid (HA.out.belowM hVb (by omega)); have B1 := Lib.hid (HB.out.belowM hVb (by omega)); have S1 := Lib.hid (HSB.out.belowM hVb (by omega))
                have VZ := Lib.hid (show SB + 1 ≤ V.heap.size by have := S1.out.lt; omega)
                clear hVs hVk hVb hf hff HD HA HB HSB hus
                gi_wp2
                have AF1 := Lib.hid (Aft.refl (SB + 1) V)
                have VD := Lib.hid (show V.heap.size ≤ V.drew.heap.size from (show Below V.heap.size V V.drew from (Below.refl _ _).drew).size)
                have hb : Below V.heap.size V V.drew := (Below.refl _ _).drew
                have D2 := Lib.hid (D1.out.on hb); have A2 := Lib.hid (A1.out.below hb); have B2 := Lib.hid (B1.out.below hb); have S2 := Lib.hid (S1.out.below hb); have AF2 := Lib.hid (aft_below AF1.out hb)
                clear hb D1 A1 B1 S1 AF1
                refine roundIn_tree (.float 0 (.float 1 (.float 2 (.float 3 (.float 4 (.float 5 (.float 6 (.float 7 (.float 8 (.float 9 (.float 10 (.float 11 (.float 12 (.float 13 (.float 14 (.float 15 (.float 16 (.float 17 (.float 18 (.float 19 (.float 20 (.float 21 (.float 22 (.float 23 (.two 24 (.one 25 (.one 26 (.one 27 .over))) 25 (.one 24 (.one 26 (.one 27 .over)))))))))))))))))))))))))))) (fun W => Bd w q0 n0 c0 TX NX OX UX Bl Bt Bu cu k o L T U W) (by kernel_rfl) (by kernel_rfl) rfl (by rintro ⟨_, _, h⟩; exact h) D2.out ?_
                refine tree_float rfl rfl (fun K' hK => ?_)
                refine gives_cell _ _ rfl ⟨TX, 0, none⟩ _ rfl box_sums (fun W h => h.tx.cell) ?_
                go_simp
                refine hK _ ?_
                clear hK K'
                refine tree_float rfl rfl (fun K' hK => ?_)
                refine gives_move _ rfl ?_
                go_simp
                refine hK _ ?_
                clear hK K'
                refine tree_float rfl rfl (fun K' hK => ?_)
                refine gives_twice _ rfl i rfl HE.out.2.2.1 e0 HE0.out ?_
                go_simp
                refine hK _ ?_
                clear hK K'
                refine tree_float rfl rfl (fun K' hK => ?_)
                refine gives_sum_elem _ _ rfl Bt 0 32 32 e0 rfl rfl HE.out.1 ?_
                go_simp
                refine hK _ ?_
                clear hK K'
                refine tree_float rfl rfl (fun K' hK => ?_)
                refine gives_sum_mid _ rfl Bt (32 * e0) rfl (tagAt T e0) (fun W h => h.t.tag (k := e0) (by rw [TN.out]; exact HE.out.1)) ?_
                go_simp
                refine hK _ ?_
                clear hK K'
                refine tree_float rfl rfl (fun K' hK => ?_)
                refine gives_cell _ _ rfl ⟨TX, 0, none⟩ _ rfl box_sums (fun W h => h.tx.cell) ?_
                go_simp
                refine hK _ ?_
                clear hK K'
                refine tree_float rfl rfl (fun K' hK => ?_)
                refine gives_move _ rfl ?_
                go_simp
                refine hK _ ?_
                clear hK K'
                refine tree_float rfl rfl (fun K' hK => ?_)
                refine gives_twice _ rfl i rfl HE.out.2.2.1 e0 HE0.out ?_
                go_simp
                refine hK _ ?_
                clear hK K'
                refine tree_float rfl rfl (fun K' hK => ?_)
                refine gives_more _ rfl e0 rfl HE.out.2.2.2 e1 HE1.out ?_
                go_simp
                refine hK _ ?_
                clear hK K'
                refine tree_float rfl rfl (fun K' hK => ?_)
                refine gives_sum_elem _ _ rfl Bt 0 32 32 e1 rfl rfl HE.out.2.1 ?_
                go_simp
                refine hK _ ?_
                clear hK K'
                refine tree_float rfl rfl (fun K' hK => ?_)
                refine gives_sum_mid _ rfl Bt (32 * e1) rfl (tagAt T e1) (fun W h => h.t.tag (k := e1) (by rw [TN.out]; exact HE.out.2.1)) ?_
                go_simp
                refine hK _ ?_
                clear hK K'
                refine tree_float rfl rfl (fun K' hK => ?_)
                refine gives_pair_build _ _ rfl (tagAt T e0) (tagAt T e1) rfl rfl ?_
                go_simp
                refine hK _ ?_
                clear hK K'
                refine tree_float rfl rfl (fun K' hK => ?_)
                refine gives_cell _ _ rfl ⟨UX, 0, none⟩ _ rfl box_sums (fun W h => h.ux.cell) ?_
                go_simp
                refine hK _ ?_
                clear hK K'
                refine tree_float rfl rfl (fun K' hK => ?_)
                refine gives_move _ rfl ?_
                go_simp
                refine hK _ ?_
                clear hK K'
                refine tree_float rfl rfl (fun K' hK => ?_)
                refine gives_twice _ rfl i rfl HE.out.2.2.1 e0 HE0.out ?_
                go_simp
                refine hK _ ?_
                clear hK K'
                refine tree_float rfl rfl (fun K' hK => ?_)
                refine gives_sum_elem _ _ rfl Bu 0 32 cu e0 rfl rfl HE.out.1 ?_
                go_simp
                refine hK _ ?_
                clear hK K'
                refine tree_float rfl rfl (fun K' hK => ?_)
                refine gives_sum_mid _ rfl Bu (32 * e0) rfl (tagAt U e0) (fun W h => h.u.tag (k := e0) (by rw [UN.out]; exact HE.out.1)) ?_
                go_simp
                refine hK _ ?_
                clear hK K'
                refine tree_float rfl rfl (fun K' hK => ?_)
                refine gives_cell _ _ rfl ⟨UX, 0, none⟩ _ rfl box_sums (fun W h => h.ux.cell) ?_
                go_simp
                refine hK _ ?_
                clear hK K'
                refine tree_float rfl rfl (fun K' hK => ?_)
                refine gives_move _ rfl ?_
                go_simp
                refine hK _ ?_
                clear hK K'
                refine tree_float rfl rfl (fun K' hK => ?_)
                refine gives_twice _ rfl i rfl HE.out.2.2.1 e0 HE0.out ?_
                go_simp
                refine hK _ ?_
                clear hK K'
                refine tree_float rfl rfl (fun K' hK => ?_)
                refine gives_more _ rfl e0 rfl HE.out.2.2.2 e1 HE1.out ?_
                go_simp
                refine hK _ ?_
                clear hK K'
                refine tree_float rfl rfl (fun K' hK => ?_)
                refine gives_sum_elem _ _ rfl Bu 0 32 cu e1 rfl rfl HE.out.2.1 ?_
                go_simp
                refine hK _ ?_
                clear hK K'
                refine tree_float rfl rfl (fun K' hK => ?_)
                refine gives_sum_mid _ rfl Bu (32 * e1) rfl (tagAt U e1) (fun W h => h.u.tag (k := e1) (by rw [UN.out]; exact HE.out.2.1)) ?_
                go_simp
                refine hK _ ?_
                clear hK K'
                refine tree_float rfl rfl (fun K' hK => ?_)
                refine gives_pair_build _ _ rfl (tagAt U e0) (tagAt U e1) rfl rfl ?_
                go_simp
                refine hK _ ?_
                clear hK K'
                refine tree_two ?_ ?_
                · skip
                  refine tree_one rfl rfl (fun K' hK => ?_)
                  refine done_pair_alloc rfl V.drew.heap.size rfl ?_
                  intro w41 hx hb hs
                  have D41 := Lib.hid (D2.out.on hb); have A41 := Lib.hid (A2.out.below hb); have B41 := Lib.hid (B2.out.below hb); have S41 := Lib.hid (S2.out.below hb); have AF41 := Lib.hid (aft_below AF2.out hb)
                  have PA41 := Lib.hid hx; have F41 := Lib.hid (show V.heap.size ≤ V.drew.heap.size from VD.out)
                  clear hx hs VD
                  clear hb D2 A2 B2 S2 AF2
                  generalize V.drew.heap.size = AX at *
                  refine ⟨D41.out, ?_⟩
                  go_simp
                  refine hK _ _ ?_
                  clear hK K'
                  refine tree_one rfl rfl (fun K' hK => ?_)
                  refine done_pair_alloc rfl w41.heap.size rfl ?_
                  intro w42 hx hb hs
                  have D42 := Lib.hid (D41.out.on hb); have A42 := Lib.hid (A41.out.below hb); have B42 := Lib.hid (B41.out.below hb); have S42 := Lib.hid (S41.out.below hb); have AF42 := Lib.hid (aft_below AF41.out hb); have PA42 := Lib.hid (PA41.out.below hb)
                  have PB42 := Lib.hid hx; have F42 := Lib.hid (show V.heap.size ≤ AX ∧ AX < w41.heap.size from ⟨F41.out, PA41.out.lt⟩)
                  clear hx hs F41
                  clear hb D41 A41 B41 S41 AF41 PA41
                  generalize w41.heap.size = BX at *
                  refine ⟨D42.out, ?_⟩
                  go_simp
                  refine hK _ _ ?_
                  clear hK K'
                  have F40 := Lib.hid (show V.heap.size ≤ AX ∧ V.heap.size ≤ BX ∧ AX ≠ BX from by have := F42.out; omega)
                  clear F42
                  refine tree_one rfl rfl (fun K' hK => ?_)
                  refine done_pair_store _ _ rfl AX rfl (tagAt T e0) (tagAt T e1) rfl nought nought PA42.out ?_
                  intro w43 hx hb hs
                  have D43 := Lib.hid (D42.out.but hb (by have h1 := F40.out; have h2 := F30.out; have h3 := F32.out; have h4 := VZ.out; omega)); have A43 := Lib.hid (A42.out.but hb (by have h1 := F40.out; have h2 := F30.out; have h3 := F32.out; have h4 := VZ.out; omega)); have B43 := Lib.hid (B42.out.but hb (by have h1 := F40.out; have h2 := F30.out; have h3 := F32.out; have h4 := VZ.out; omega)); have S43 := Lib.hid (S42.out.but hb (by have h1 := F40.out; have h2 := F30.out; have h3 := F32.out; have h4 := VZ.out; omega)); have AF43 := Lib.hid (aft_but AF42.out hb (by have h1 := F40.out; have h2 := F30.out; have h3 := F32.out; have h4 := VZ.out; omega)); have PB43 := Lib.hid (PB42.out.but hb (by have h1 := F40.out; have h2 := F30.out; have h3 := F32.out; have h4 := VZ.out; omega))
                  have PA43 := Lib.hid hx
                  clear hx hs
                  clear hb D42 A42 B42 S42 AF42 PA42 PB42
                  refine ⟨D43.out, ?_⟩
                  go_simp
                  refine hK _ _ ?_
                  clear hK K'
                  refine tree_one rfl rfl (fun K' hK => ?_)
                  refine done_pair_store _ _ rfl BX rfl (tagAt U e0) (tagAt U e1) rfl nought nought PB43.out ?_
                  intro w44 hx hb hs
                  have D44 := Lib.hid (D43.out.but hb (by have h1 := F40.out; have h2 := F30.out; have h3 := F32.out; have h4 := VZ.out; omega)); have A44 := Lib.hid (A43.out.but hb (by have h1 := F40.out; have h2 := F30.out; have h3 := F32.out; have h4 := VZ.out; omega)); have B44 := Lib.hid (B43.out.but hb (by have h1 := F40.out; have h2 := F30.out; have h3 := F32.out; have h4 := VZ.out; omega)); have S44 := Lib.hid (S43.out.but hb (by have h1 := F40.out; have h2 := F30.out; have h3 := F32.out; have h4 := VZ.out; omega)); have AF44 := Lib.hid (aft_but AF43.out hb (by have h1 := F40.out; have h2 := F30.out; have h3 := F32.out; have h4 := VZ.out; omega)); have PA44 := Lib.hid (PA43.out.but hb (by have h1 := F40.out; have h2 := F30.out; have h3 := F32.out; have h4 := VZ.out; omega))
                  have PB44 := Lib.hid hx
                  clear hx hs
                  clear hb D43 A43 B43 S43 AF43 PA43 PB43
                  refine ⟨D44.out, ?_⟩
                  go_simp
                  refine hK _ _ ?_
                  clear hK K'
                  refine tree_over ?_
                  gi_wp2
                  have hb : Below w44.heap.size w44 w44.drew := (Below.refl _ _).drew
                  have D45 := Lib.hid (D44.out.on hb); have A45 := Lib.hid (A44.out.below hb); have B45 := Lib.hid (B44.out.below hb); have S45 := Lib.hid (S44.out.below hb); have AF45 := Lib.hid (aft_below AF44.out hb); have PA45 := Lib.hid (PA44.out.below hb); have PB45 := Lib.hid (PB44.out.below hb)
                  clear hb D44 A44 B44 S44 AF44 PA44 PB44
                  refine roundIn_sched [(0, true), (1, true), (2, false), (3, true), (4, true), (5, true), (6, true), (7, true)] (fun W => Bd w q0 n0 c0 TX NX OX UX Bl Bt Bu cu k o L T U W) (by kernel_rfl) (by kernel_rfl) rfl (by rintro ⟨_, _, h⟩; exact h) (D45.out) ?_
                  refine walk_float rfl rfl (fun K' hK => ?_)
                  refine gives_cell _ _ rfl ⟨NX, 0, none⟩ _ rfl box_int (fun W h => h.nx.cell) ?_
                  go_simp
                  refine hK _ ?_
                  clear hK K'
                  refine walk_float rfl rfl (fun K' hK => ?_)
                  refine gives_move _ rfl ?_
                  go_simp
                  refine hK _ ?_
                  clear hK K'
                  refine walk_done rfl rfl (fun K' hK => ?_)
                  refine done_one _ _ _ rfl 39 rfl (.int .i64 i) rfl (fun _ w => by simp [go_sem]) ((level_any i HI.out.2 HI.out.1 w44.drew).mono ?_)
                  rintro e w46 ⟨rfl, hb⟩
                  rw [HLI.out]
                  have D46 := Lib.hid (D45.out.on hb); have A46 := Lib.hid (A45.out.below hb); have B46 := Lib.hid (B45.out.below hb); have S46 := Lib.hid (S45.out.below hb); have AF46 := Lib.hid (aft_below AF45.out hb); have PA46 := Lib.hid (PA45.out.below hb); have PB46 := Lib.hid (PB45.out.below hb)
                  clear hb D45 A45 B45 S45 AF45 PA45 PB45
                  refine ⟨_, rfl, D46.out, ?_⟩
                  go_simp
                  refine hK _ _ ?_
                  clear hK K'
                  refine walk_float rfl rfl (fun K' hK => ?_)
                  refine gives_three _ rfl lv rfl HLJ.out.2 j HLJ.out.1 ?_
                  go_simp
                  refine hK _ ?_
                  clear hK K'
                  refine walk_float rfl rfl (fun K' hK => ?_)
                  refine gives_unsign _ rfl j rfl (by have := H4.out; omega) ?_
                  go_simp
                  refine hK _ ?_
                  clear hK K'
                  refine walk_float rfl rfl (fun K' hK => ?_)
                  refine gives_shift _ _ rfl k j KL.out H4.out rfl rfl kk HKK.out ?_
                  go_simp
                  refine hK _ ?_
                  clear hK K'
                  refine walk_float rfl rfl (fun K' hK => ?_)
                  refine gives_low _ rfl kk HKL.out rfl sd HSD.out ?_
                  go_simp
                  refine hK _ ?_
                  clear hK K'
                  refine walk_float rfl rfl (fun K' hK => ?_)
                  refine gives_assign _ rfl ?_
                  go_simp
                  refine hK _ ?_
                  clear hK K'
                  refine walk_nil ?_
                  gi_wp2
                  have hb : Below w46.heap.size w46 w46.drew := (Below.refl _ _).drew
                  have D47 := Lib.hid (D46.out.on hb); have A47 := Lib.hid (A46.out.below hb); have B47 := Lib.hid (B46.out.below hb); have S47 := Lib.hid (S46.out.below hb); have AF47 := Lib.hid (aft_below AF46.out hb); have PA47 := Lib.hid (PA46.out.below hb); have PB47 := Lib.hid (PB46.out.below hb)
                  clear hb D46 A46 B46 S46 AF46 PA46 PB46
                  refine roundIn_sched [(0, true), (1, true), (2, true), (3, true), (4, true), (5, false), (6, true), (7, false)] (fun W => SumsB W WAX [was] ∧ SumsB W WBX [now]) (by kernel_rfl) (by kernel_rfl) rfl (by rintro ⟨_, _, h⟩; exact h) (⟨A47.out, B47.out⟩) ?_
                  refine walk_float rfl rfl (fun K' hK => ?_)
                  refine gives_move _ rfl ?_
                  go_simp
                  refine hK _ ?_
                  clear hK K'
                  refine walk_float rfl rfl (fun K' hK => ?_)
                  refine gives_move _ rfl ?_
                  go_simp
                  refine hK _ ?_
                  clear hK K'
                  refine walk_float rfl rfl (fun K' hK => ?_)
                  refine gives_sum_mid _ rfl WAX 0 rfl was (fun W h => h.1.one) ?_
                  go_simp
                  refine hK _ ?_
                  clear hK K'
                  refine walk_float rfl rfl (fun K' hK => ?_)
                  refine gives_sum_mid _ rfl WBX 0 rfl now (fun W h => h.2.one) ?_
                  go_simp
                  refine hK _ ?_
                  clear hK K'
                  refine walk_float rfl rfl (fun K' hK => ?_)
                  refine gives_pair_addr _ _ rfl AX sd rfl rfl SD.out ?_
                  go_simp
                  refine hK _ ?_
                  clear hK K'
                  refine walk_done rfl rfl (fun K' hK => ?_)
                  refine done_sum_store _ _ rfl AX sd rfl was rfl [tagAt T e0, tagAt T e1] PA47.out SD.out ?_
                  intro w48 hx hb hs
                  rw [HK1.out] at hx
                  have D48 := Lib.hid (D47.out.but hb (by have h1 := F40.out; have h2 := F30.out; have h3 := F32.out; have h4 := VZ.out; omega)); have A48 := Lib.hid (A47.out.but hb (by have h1 := F40.out; have h2 := F30.out; have h3 := F32.out; have h4 := VZ.out; omega)); have B48 := Lib.hid (B47.out.but hb (by have h1 := F40.out; have h2 := F30.out; have h3 := F32.out; have h4 := VZ.out; omega)); have S48 := Lib.hid (S47.out.but hb (by have h1 := F40.out; have h2 := F30.out; have h3 := F32.out; have h4 := VZ.out; omega)); have AF48 := Lib.hid (aft_but AF47.out hb (by have h1 := F40.out; have h2 := F30.out; have h3 := F32.out; have h4 := VZ.out; omega)); have PB48 := Lib.hid (PB47.out.but hb (by have h1 := F40.out; have h2 := F30.out; have h3 := F32.out; have h4 := VZ.out; omega))
                  have PA48 := Lib.hid hx
                  clear hx hs
                  clear hb D47 A47 B47 S47 AF47 PA47 PB47
                  refine ⟨⟨A48.out, B48.out⟩, ?_⟩
                  go_simp
                  refine hK _ _ ?_
                  clear hK K'
                  refine walk_float rfl rfl (fun K' hK => ?_)
                  refine gives_pair_addr _ _ rfl BX sd rfl rfl SD.out ?_
                  go_simp
                  refine hK _ ?_
                  clear hK K'
                  refine walk_done rfl rfl (fun K' hK => ?_)
                  refine done_sum_store _ _ rfl BX sd rfl now rfl [tagAt U e0, tagAt U e1] PB48.out SD.out ?_
                  intro w49 hx hb hs
                  rw [HK1'.out] at hx
                  have D49 := Lib.hid (D48.out.but hb (by have h1 := F40.out; have h2 := F30.out; have h3 := F32.out; have h4 := VZ.out; omega)); have A49 := Lib.hid (A48.out.but hb (by have h1 := F40.out; have h2 := F30.out; have h3 := F32.out; have h4 := VZ.out; omega)); have B49 := Lib.hid (B48.out.but hb (by have h1 := F40.out; have h2 := F30.out; have h3 := F32.out; have h4 := VZ.out; omega)); have S49 := Lib.hid (S48.out.but hb (by have h1 := F40.out; have h2 := F30.out; have h3 := F32.out; have h4 := VZ.out; omega)); have AF49 := Lib.hid (aft_but AF48.out hb (by have h1 := F40.out; have h2 := F30.out; have h3 := F32.out; have h4 := VZ.out; omega)); have PA49 := Lib.hid (PA48.out.but hb (by have h1 := F40.out; have h2 := F30.out; have h3 := F32.out; have h4 := VZ.out; omega))
                  have PB49 := Lib.hid hx
                  clear hx hs
                  clear hb D48 A48 B48 S48 AF48 PA48 PB48
                  refine ⟨⟨A49.out, B49.out⟩, ?_⟩
                  go_simp
                  refine hK _ _ ?_
                  clear hK K'
                  refine walk_nil ?_
                  gi_wp2
                  have hb : Below w49.heap.size w49 w49.drew := (Below.refl _ _).drew
                  have D50 := Lib.hid (D49.out.on hb); have A50 := Lib.hid (A49.out.below hb); have B50 := Lib.hid (B49.out.below hb); have S50 := Lib.hid (S49.out.below hb); have AF50 := Lib.hid (aft_below AF49.out hb); have PA50 := Lib.hid (PA49.out.below hb); have PB50 := Lib.hid (PB49.out.below hb)
                  clear hb D49 A49 B49 S49 AF49 PA49 PB49
                  refine roundIn_sched [(0, true), (1, true), (2, true), (3, true), (4, true), (5, true), (7, true), (8, true), (9, true), (10, true), (11, true), (12, true), (6, false), (13, false), (14, false), (15, false)] (fun W => Bd w q0 n0 c0 TX NX OX UX Bl Bt Bu cu k o L T U W ∧ SumsB W AX [x, y] ∧ SumsB W BX [x', y']) (by kernel_rfl) (by kernel_rfl) rfl (by rintro ⟨_, _, h⟩; exact h) (⟨D50.out, PA50.out, PB50.out⟩) ?_
                  refine walk_float rfl rfl (fun K' hK => ?_)
                  refine gives_cell _ _ rfl ⟨S, 0, none⟩ _ rfl box_bytes (fun W h => HS.out ▸ h.1.kb.cell) ?_
                  go_simp
                  refine hK _ ?_
                  clear hK K'
                  refine walk_float rfl rfl (fun K' hK => ?_)
                  refine gives_move _ rfl ?_
                  go_simp
                  refine hK _ ?_
                  clear hK K'
                  refine walk_float rfl rfl (fun K' hK => ?_)
                  refine gives_pair_addr _ _ rfl AX 0 rfl rfl (by decide) ?_
                  go_simp
                  refine hK _ ?_
                  clear hK K'
                  refine walk_float rfl rfl (fun K' hK => ?_)
                  refine gives_sum_mid _ rfl AX 0 rfl x (fun W h => h.2.1.rows 0 x rfl) ?_
                  go_simp
                  refine hK _ ?_
                  clear hK K'
                  refine walk_float rfl rfl (fun K' hK => ?_)
                  refine gives_pair_addr _ _ rfl AX 1 rfl rfl (by decide) ?_
                  go_simp
                  refine hK _ ?_
                  clear hK K'
                  refine walk_float rfl rfl (fun K' hK => ?_)
                  refine gives_sum_mid _ rfl AX 32 rfl y (fun W h => h.2.1.rows 1 y rfl) ?_
                  go_simp
                  refine hK _ ?_
                  clear hK K'
                  refine walk_float rfl rfl (fun K' hK => ?_)
                  refine gives_cell _ _ rfl ⟨S, 0, none⟩ _ rfl box_bytes (fun W h => HS.out ▸ h.1.kb.cell) ?_
                  go_simp
                  refine hK _ ?_
                  clear hK K'
                  refine walk_float rfl rfl (fun K' hK => ?_)
                  refine gives_move _ rfl ?_
                  go_simp
                  refine hK _ ?_
                  clear hK K'
                  refine walk_float rfl rfl (fun K' hK => ?_)
                  refine gives_pair_addr _ _ rfl BX 0 rfl rfl (by decide) ?_
                  go_simp
                  refine hK _ ?_
                  clear hK K'
                  refine walk_float rfl rfl (fun K' hK => ?_)
                  refine gives_sum_mid _ rfl BX 0 rfl x' (fun W h => h.2.2.rows 0 x' rfl) ?_
                  go_simp
                  refine hK _ ?_
                  clear hK K'
                  refine walk_float rfl rfl (fun K' hK => ?_)
                  refine gives_pair_addr _ _ rfl BX 1 rfl rfl (by decide) ?_
                  go_simp
                  refine hK _ ?_
                  clear hK K'
                  refine walk_float rfl rfl (fun K' hK => ?_)
                  refine gives_sum_mid _ rfl BX 32 rfl y' (fun W h => h.2.2.rows 1 y' rfl) ?_
                  go_simp
                  refine hK _ ?_
                  clear hK K'
                  refine walk_done rfl rfl (fun K' hK => ?_)
                  refine done_four _ _ _ _ _ _ rfl 28 rfl (.slice q0 n0 c0) (.int .i64 i) (sumVal x) (sumVal y) rfl rfl rfl rfl (fun _ w => by simp [go_sem]) ((NA.out w49.drew (HS.out ▸ D50.out.low) i x y (SXY.out x (by simp)) (SXY.out y (by simp))).mono ?_)
                  rintro e w51 ⟨rfl, hb⟩
                  have D51 := Lib.hid (D50.out.on hb); have A51 := Lib.hid (A50.out.below hb); have B51 := Lib.hid (B50.out.below hb); have S51 := Lib.hid (S50.out.below hb); have AF51 := Lib.hid (aft_below AF50.out hb); have PA51 := Lib.hid (PA50.out.below hb); have PB51 := Lib.hid (PB50.out.below hb)
                  clear hb D50 A50 B50 S50 AF50 PA50 PB50
                  refine ⟨_, rfl, ⟨D51.out, PA51.out, PB51.out⟩, ?_⟩
                  go_simp
                  refine hK _ _ ?_
                  clear hK K'
                  refine walk_done rfl rfl (fun K' hK => ?_)
                  refine done_four _ _ _ _ _ _ rfl 28 rfl (.slice q0 n0 c0) (.int .i64 i) (sumVal x') (sumVal y') rfl rfl rfl rfl (fun _ w => by simp [go_sem]) ((NA.out w51 (HS.out ▸ D51.out.low) i x' y' (SXY'.out x' (by simp)) (SXY'.out y' (by simp))).mono ?_)
                  rintro e w52 ⟨rfl, hb⟩
                  have D52 := Lib.hid (D51.out.on hb); have A52 := Lib.hid (A51.out.below hb); have B52 := Lib.hid (B51.out.below hb); have S52 := Lib.hid (S51.out.below hb); have AF52 := Lib.hid (aft_below AF51.out hb); have PA52 := Lib.hid (PA51.out.below hb); have PB52 := Lib.hid (PB51.out.below hb)
                  clear hb D51 A51 B51 S51 AF51 PA51 PB51
                  refine ⟨_, rfl, ⟨D52.out, PA52.out, PB52.out⟩, ?_⟩
                  go_simp
                  refine hK _ _ ?_
                  clear hK K'
                  refine walk_done rfl rfl (fun K' hK => ?_)
                  refine done_sum_store _ _ rfl WAX 0 rfl (nodeN n0 a0 i x y) rfl [was] A52.out (by simp) ?_
                  intro w53 hx hb hs
                  have D53 := Lib.hid (D52.out.but hb (by have h1 := F40.out; have h2 := F30.out; have h3 := F32.out; have h4 := VZ.out; omega)); have B53 := Lib.hid (B52.out.but hb (by have h1 := F40.out; have h2 := F30.out; have h3 := F32.out; have h4 := VZ.out; omega)); have S53 := Lib.hid (S52.out.but hb (by have h1 := F40.out; have h2 := F30.out; have h3 := F32.out; have h4 := VZ.out; omega)); have AF53 := Lib.hid (aft_but AF52.out hb (by have h1 := F40.out; have h2 := F30.out; have h3 := F32.out; have h4 := VZ.out; omega)); have PA53 := Lib.hid (PA52.out.but hb (by have h1 := F40.out; have h2 := F30.out; have h3 := F32.out; have h4 := VZ.out; omega)); have PB53 := Lib.hid (PB52.out.but hb (by have h1 := F40.out; have h2 := F30.out; have h3 := F32.out; have h4 := VZ.out; omega))
                  have A53 := Lib.hid (show SumsB w53 WAX [nodeN n0 a0 i x y] from hx)
                  clear hx hs
                  clear hb D52 A52 B52 S52 AF52 PA52 PB52
                  refine ⟨⟨D53.out, PA53.out, PB53.out⟩, ?_⟩
                  go_simp
                  refine hK _ _ ?_
                  clear hK K'
                  refine walk_done rfl rfl (fun K' hK => ?_)
                  refine done_sum_store _ _ rfl WBX 0 rfl (nodeN n0 a0 i x' y') rfl [now] B53.out (by simp) ?_
                  intro w54 hx hb hs
                  have D54 := Lib.hid (D53.out.but hb (by have h1 := F40.out; have h2 := F30.out; have h3 := F32.out; have h4 := VZ.out; omega)); have A54 := Lib.hid (A53.out.but hb (by have h1 := F40.out; have h2 := F30.out; have h3 := F32.out; have h4 := VZ.out; omega)); have S54 := Lib.hid (S53.out.but hb (by have h1 := F40.out; have h2 := F30.out; have h3 := F32.out; have h4 := VZ.out; omega)); have AF54 := Lib.hid (aft_but AF53.out hb (by have h1 := F40.out; have h2 := F30.out; have h3 := F32.out; have h4 := VZ.out; omega)); have PA54 := Lib.hid (PA53.out.but hb (by have h1 := F40.out; have h2 := F30.out; have h3 := F32.out; have h4 := VZ.out; omega)); have PB54 := Lib.hid (PB53.out.but hb (by have h1 := F40.out; have h2 := F30.out; have h3 := F32.out; have h4 := VZ.out; omega))
                  have B54 := Lib.hid (show SumsB w54 WBX [nodeN n0 a0 i x' y'] from hx)
                  clear hx hs
                  clear hb D53 A53 B53 S53 AF53 PA53 PB53
                  refine ⟨⟨D54.out, PA54.out, PB54.out⟩, ?_⟩
                  go_simp
                  refine hK _ _ ?_
                  clear hK K'
                  refine walk_nil ?_
                  have NS := Lib.hid (show IsSum (nodeN n0 a0 i x y) ∧ IsSum (nodeN n0 a0 i x' y') from ⟨nodeN_sum _ _ _ _ _, nodeN_sum _ _ _ _ _⟩)
                  rw [← HW.out] at NS A54
                  rw [← HV'.out] at NS B54
                  have HPF := Lib.hid (pair_apart (SXY.out x (by simp)) (SXY.out y (by simp)) (SXY'.out x' (by simp)) (SXY'.out y' (by simp)) HAP.out)
                  generalize hX1 : climbF (nodeN n0 a0) (tagAt T) k (tagAt L k) (j + 1) = X1 at *
                  generalize hX2 : climbF (nodeN n0 a0) (tagAt U) k o (j + 1) = X2 at *
                  have EX1 := Lib.hid hX1; have EX2 := Lib.hid hX2
                  have RB54 := Lib.hid (show Bx w54 (S + 1) 4 (.bool false) from HS.out ▸ D54.out.rb)
                  have AFW := Lib.hid (show Aft w32.heap.size V w54 by rw [s8]; exact AF54.out)
                  obtain ⟨P1, hP1⟩ : ∃ P, pairS x y = P := ⟨_, rfl⟩
                  obtain ⟨P2, hP2⟩ : ∃ P, pairS x' y' = P := ⟨_, rfl⟩
                  have LD1 := Lib.hid (fun (o : Oper) (a : Act) q ho hx => show (execOp a.eval o).run Tryd.prog w54 = .ok (.value P1) w54 from hP1 ▸ exec_pair_load q ho AX hx x y PA54.out)
                  have LD2 := Lib.hid (fun (o : Oper) (a : Act) q ho hx => show (execOp a.eval o).run Tryd.prog w54 = .ok (.value P2) w54 from hP2 ▸ exec_pair_load q ho BX hx x' y' PB54.out)
                  have NQ := Lib.hid (fun (o : Oper) (a : Act) q r ho (hx : a.eval q = P1) (hy : a.eval r = P2) => exec_pair_neq (o := o) (w := w54) q r ho x y x' y' (hx.trans hP1.symm) (hy.trans hP2.symm) HPF.out)
                  clear hP1 hP2
                  have LW54 := Lib.hid (show Below S w w54 from HS.out ▸ D54.out.low)
                  clear hX1 hX2
                  by_cases hq : X1 = X2
                  · have EQ := Lib.hid (show sameSum X1 X2 = true by rw [hq]; exact sameSum_self _)
                    clear hq
                    gi_wp2_with (first
                      | (refine sumIn_load rfl rfl rfl _ rfl WAX 0 rfl X1 A54.out.one ?_; go_simp)
                      | (refine sumIn_load rfl rfl rfl _ rfl WBX 0 rfl X2 B54.out.one ?_; go_simp)
                      | (refine sumIn_eql rfl rfl rfl _ _ rfl X1 X2 rfl rfl true EQ.out ?_; go_simp)
                      | (refine givesIn rfl rfl rfl (LD1.out _ _ _ rfl rfl) ?_; go_simp)
                      | (refine givesIn rfl rfl rfl (LD2.out _ _ _ rfl rfl) ?_; go_simp)
                      | (refine givesIn rfl rfl rfl (NQ.out _ _ _ _ rfl rfl rfl) ?_; go_simp)
                      | (refine boolIn_store rfl rfl rfl _ _ rfl rfl (S + 1) rfl true rfl 4 (.bool false) RB54.out ?_; intro w55 hx hb hs
                         have R55 := Lib.hid hx
                         have L55 := Lib.hid (LW54.out.trans (hb.below (by omega) (HS.out ▸ LW54.out.size)))
                         have AF55 := Lib.hid (aft_but AFW.out hb (by rw [s8]; have h1 := D54.out.far; have h2 := F30.out; have h3 := F32.out; have h4 := HS.out; omega))
                         clear hx hb hs))
                    exact ⟨AF55.out, rfl, L55.out, R55.out⟩
                  · have EQ := Lib.hid (show sameSum X1 X2 = false from same_not NS.out.1 NS.out.2 hq)
                    have HQ := Lib.hid hq
                    clear hq
                    gi_wp2_with (first
                      | (refine sumIn_load rfl rfl rfl _ rfl WAX 0 rfl X1 A54.out.one ?_)
                      | (refine sumIn_load rfl rfl rfl _ rfl WBX 0 rfl X2 B54.out.one ?_)
                      | (refine sumIn_eql rfl rfl rfl _ _ rfl X1 X2 rfl rfl false EQ.out ?_))
                    exact ⟨AFW.out, D54.out, by rw [Nat.add_sub_cancel, EX1.out]; exact A54.out, by rw [Nat.add_sub_cancel, EX2.out]; exact B54.out, S54.out, by rw [Nat.add_sub_cancel, EX1.out, EX2.out]; exact fun h => HQ.out h.symm⟩
                · skip
                  refine tree_one rfl rfl (fun K' hK => ?_)
                  refine done_pair_alloc rfl V.drew.heap.size rfl ?_
                  intro w41 hx hb hs
                  have D41 := Lib.hid (D2.out.on hb); have A41 := Lib.hid (A2.out.below hb); have B41 := Lib.hid (B2.out.below hb); have S41 := Lib.hid (S2.out.below hb); have AF41 := Lib.hid (aft_below AF2.out hb)
                  have PB41 := Lib.hid hx; have F41 := Lib.hid (show V.heap.size ≤ V.drew.heap.size from VD.out)
                  clear hx hs VD
                  clear hb D2 A2 B2 S2 AF2
                  generalize V.drew.heap.size = BX at *
                  refine ⟨D41.out, ?_⟩
                  go_simp
                  refine hK _ _ ?_
                  clear hK K'
                  refine tree_one rfl rfl (fun K' hK => ?_)
                  refine done_pair_alloc rfl w41.heap.size rfl ?_
                  intro w42 hx hb hs
                  have D42 := Lib.hid (D41.out.on hb); have A42 := Lib.hid (A41.out.below hb); have B42 := Lib.hid (B41.out.below hb); have S42 := Lib.hid (S41.out.below hb); have AF42 := Lib.hid (aft_below AF41.out hb); have PB42 := Lib.hid (PB41.out.below hb)
                  have PA42 := Lib.hid hx; have F42 := Lib.hid (show V.heap.size ≤ BX ∧ BX < w41.heap.size from ⟨F41.out, PB41.out.lt⟩)
                  clear hx hs F41
                  clear hb D41 A41 B41 S41 AF41 PB41
                  generalize w41.heap.size = AX at *
                  refine ⟨D42.out, ?_⟩
                  go_simp
                  refine hK _ _ ?_
                  clear hK K'
                  have F40 := Lib.hid (show V.heap.size ≤ AX ∧ V.heap.size ≤ BX ∧ AX ≠ BX from by have := F42.out; omega)
                  clear F42
                  refine tree_one rfl rfl (fun K' hK => ?_)
                  refine done_pair_store _ _ rfl AX rfl (tagAt T e0) (tagAt T e1) rfl nought nought PA42.out ?_
                  intro w43 hx hb hs
                  have D43 := Lib.hid (D42.out.but hb (by have h1 := F40.out; have h2 := F30.out; have h3 := F32.out; have h4 := VZ.out; omega)); have A43 := Lib.hid (A42.out.but hb (by have h1 := F40.out; have h2 := F30.out; have h3 := F32.out; have h4 := VZ.out; omega)); have B43 := Lib.hid (B42.out.but hb (by have h1 := F40.out; have h2 := F30.out; have h3 := F32.out; have h4 := VZ.out; omega)); have S43 := Lib.hid (S42.out.but hb (by have h1 := F40.out; have h2 := F30.out; have h3 := F32.out; have h4 := VZ.out; omega)); have AF43 := Lib.hid (aft_but AF42.out hb (by have h1 := F40.out; have h2 := F30.out; have h3 := F32.out; have h4 := VZ.out; omega)); have PB43 := Lib.hid (PB42.out.but hb (by have h1 := F40.out; have h2 := F30.out; have h3 := F32.out; have h4 := VZ.out; omega))
                  have PA43 := Lib.hid hx
                  clear hx hs
                  clear hb D42 A42 B42 S42 AF42 PA42 PB42
                  refine ⟨D43.out, ?_⟩
                  go_simp
                  refine hK _ _ ?_
                  clear hK K'
                  refine tree_one rfl rfl (fun K' hK => ?_)
                  refine done_pair_store _ _ rfl BX rfl (tagAt U e0) (tagAt U e1) rfl nought nought PB43.out ?_
                  intro w44 hx hb hs
                  have D44 := Lib.hid (D43.out.but hb (by have h1 := F40.out; have h2 := F30.out; have h3 := F32.out; have h4 := VZ.out; omega)); have A44 := Lib.hid (A43.out.but hb (by have h1 := F40.out; have h2 := F30.out; have h3 := F32.out; have h4 := VZ.out; omega)); have B44 := Lib.hid (B43.out.but hb (by have h1 := F40.out; have h2 := F30.out; have h3 := F32.out; have h4 := VZ.out; omega)); have S44 := Lib.hid (S43.out.but hb (by have h1 := F40.out; have h2 := F30.out; have h3 := F32.out; have h4 := VZ.out; omega)); have AF44 := Lib.hid (aft_but AF43.out hb (by have h1 := F40.out; have h2 := F30.out; have h3 := F32.out; have h4 := VZ.out; omega)); have PA44 := Lib.hid (PA43.out.but hb (by have h1 := F40.out; have h2 := F30.out; have h3 := F32.out; have h4 := VZ.out; omega))
                  have PB44 := Lib.hid hx
                  clear hx hs
                  clear hb D43 A43 B43 S43 AF43 PA43 PB43
                  refine ⟨D44.out, ?_⟩
                  go_simp
                  refine hK _ _ ?_
                  clear hK K'
                  refine tree_over ?_
                  gi_wp2
                  have hb : Below w44.heap.size w44 w44.drew := (Below.refl _ _).drew
                  have D45 := Lib.hid (D44.out.on hb); have A45 := Lib.hid (A44.out.below hb); have B45 := Lib.hid (B44.out.below hb); have S45 := Lib.hid (S44.out.below hb); have AF45 := Lib.hid (aft_below AF44.out hb); have PA45 := Lib.hid (PA44.out.below hb); have PB45 := Lib.hid (PB44.out.below hb)
                  clear hb D44 A44 B44 S44 AF44 PA44 PB44
                  refine roundIn_sched [(0, true), (1, true), (2, false), (3, true), (4, true), (5, true), (6, true), (7, true)] (fun W => Bd w q0 n0 c0 TX NX OX UX Bl Bt Bu cu k o L T U W) (by kernel_rfl) (by kernel_rfl) rfl (by rintro ⟨_, _, h⟩; exact h) (D45.out) ?_
                  refine walk_float rfl rfl (fun K' hK => ?_)
                  refine gives_cell _ _ rfl ⟨NX, 0, none⟩ _ rfl box_int (fun W h => h.nx.cell) ?_
                  go_simp
                  refine hK _ ?_
                  clear hK K'
                  refine walk_float rfl rfl (fun K' hK => ?_)
                  refine gives_move _ rfl ?_
                  go_simp
                  refine hK _ ?_
                  clear hK K'
                  refine walk_done rfl rfl (fun K' hK => ?_)
                  refine done_one _ _ _ rfl 39 rfl (.int .i64 i) rfl (fun _ w => by simp [go_sem]) ((level_any i HI.out.2 HI.out.1 w44.drew).mono ?_)
                  rintro e w46 ⟨rfl, hb⟩
                  rw [HLI.out]
                  have D46 := Lib.hid (D45.out.on hb); have A46 := Lib.hid (A45.out.below hb); have B46 := Lib.hid (B45.out.below hb); have S46 := Lib.hid (S45.out.below hb); have AF46 := Lib.hid (aft_below AF45.out hb); have PA46 := Lib.hid (PA45.out.below hb); have PB46 := Lib.hid (PB45.out.below hb)
                  clear hb D45 A45 B45 S45 AF45 PA45 PB45
                  refine ⟨_, rfl, D46.out, ?_⟩
                  go_simp
                  refine hK _ _ ?_
                  clear hK K'
                  refine walk_float rfl rfl (fun K' hK => ?_)
                  refine gives_three _ rfl lv rfl HLJ.out.2 j HLJ.out.1 ?_
                  go_simp
                  refine hK _ ?_
                  clear hK K'
                  refine walk_float rfl rfl (fun K' hK => ?_)
                  refine gives_unsign _ rfl j rfl (by have := H4.out; omega) ?_
                  go_simp
                  refine hK _ ?_
                  clear hK K'
                  refine walk_float rfl rfl (fun K' hK => ?_)
                  refine gives_shift _ _ rfl k j KL.out H4.out rfl rfl kk HKK.out ?_
                  go_simp
                  refine hK _ ?_
                  clear hK K'
                  refine walk_float rfl rfl (fun K' hK => ?_)
                  refine gives_low _ rfl kk HKL.out rfl sd HSD.out ?_
                  go_simp
                  refine hK _ ?_
                  clear hK K'
                  refine walk_float rfl rfl (fun K' hK => ?_)
                  refine gives_assign _ rfl ?_
                  go_simp
                  refine hK _ ?_
                  clear hK K'
                  refine walk_nil ?_
                  gi_wp2
                  have hb : Below w46.heap.size w46 w46.drew := (Below.refl _ _).drew
                  have D47 := Lib.hid (D46.out.on hb); have A47 := Lib.hid (A46.out.below hb); have B47 := Lib.hid (B46.out.below hb); have S47 := Lib.hid (S46.out.below hb); have AF47 := Lib.hid (aft_below AF46.out hb); have PA47 := Lib.hid (PA46.out.below hb); have PB47 := Lib.hid (PB46.out.below hb)
                  clear hb D46 A46 B46 S46 AF46 PA46 PB46
                  refine roundIn_sched [(0, true), (1, true), (2, true), (3, true), (4, true), (5, false), (6, true), (7, false)] (fun W => SumsB W WAX [was] ∧ SumsB W WBX [now]) (by kernel_rfl) (by kernel_rfl) rfl (by rintro ⟨_, _, h⟩; exact h) (⟨A47.out, B47.out⟩) ?_
                  refine walk_float rfl rfl (fun K' hK => ?_)
                  refine gives_move _ rfl ?_
                  go_simp
                  refine hK _ ?_
                  clear hK K'
                  refine walk_float rfl rfl (fun K' hK => ?_)
                  refine gives_move _ rfl ?_
                  go_simp
                  refine hK _ ?_
                  clear hK K'
                  refine walk_float rfl rfl (fun K' hK => ?_)
                  refine gives_sum_mid _ rfl WAX 0 rfl was (fun W h => h.1.one) ?_
                  go_simp
                  refine hK _ ?_
                  clear hK K'
                  refine walk_float rfl rfl (fun K' hK => ?_)
                  refine gives_sum_mid _ rfl WBX 0 rfl now (fun W h => h.2.one) ?_
                  go_simp
                  refine hK _ ?_
                  clear hK K'
                  refine walk_float rfl rfl (fun K' hK => ?_)
                  refine gives_pair_addr _ _ rfl AX sd rfl rfl SD.out ?_
                  go_simp
                  refine hK _ ?_
                  clear hK K'
                  refine walk_done rfl rfl (fun K' hK => ?_)
                  refine done_sum_store _ _ rfl AX sd rfl was rfl [tagAt T e0, tagAt T e1] PA47.out SD.out ?_
                  intro w48 hx hb hs
                  rw [HK1.out] at hx
                  have D48 := Lib.hid (D47.out.but hb (by have h1 := F40.out; have h2 := F30.out; have h3 := F32.out; have h4 := VZ.out; omega)); have A48 := Lib.hid (A47.out.but hb (by have h1 := F40.out; have h2 := F30.out; have h3 := F32.out; have h4 := VZ.out; omega)); have B48 := Lib.hid (B47.out.but hb (by have h1 := F40.out; have h2 := F30.out; have h3 := F32.out; have h4 := VZ.out; omega)); have S48 := Lib.hid (S47.out.but hb (by have h1 := F40.out; have h2 := F30.out; have h3 := F32.out; have h4 := VZ.out; omega)); have AF48 := Lib.hid (aft_but AF47.out hb (by have h1 := F40.out; have h2 := F30.out; have h3 := F32.out; have h4 := VZ.out; omega)); have PB48 := Lib.hid (PB47.out.but hb (by have h1 := F40.out; have h2 := F30.out; have h3 := F32.out; have h4 := VZ.out; omega))
                  have PA48 := Lib.hid hx
                  clear hx hs
                  clear hb D47 A47 B47 S47 AF47 PA47 PB47
                  refine ⟨⟨A48.out, B48.out⟩, ?_⟩
                  go_simp
                  refine hK _ _ ?_
                  clear hK K'
                  refine walk_float rfl rfl (fun K' hK => ?_)
                  refine gives_pair_addr _ _ rfl BX sd rfl rfl SD.out ?_
                  go_simp
                  refine hK _ ?_
                  clear hK K'
                  refine walk_done rfl rfl (fun K' hK => ?_)
                  refine done_sum_store _ _ rfl BX sd rfl now rfl [tagAt U e0, tagAt U e1] PB48.out SD.out ?_
                  intro w49 hx hb hs
                  rw [HK1'.out] at hx
                  have D49 := Lib.hid (D48.out.but hb (by have h1 := F40.out; have h2 := F30.out; have h3 := F32.out; have h4 := VZ.out; omega)); have A49 := Lib.hid (A48.out.but hb (by have h1 := F40.out; have h2 := F30.out; have h3 := F32.out; have h4 := VZ.out; omega)); have B49 := Lib.hid (B48.out.but hb (by have h1 := F40.out; have h2 := F30.out; have h3 := F32.out; have h4 := VZ.out; omega)); have S49 := Lib.hid (S48.out.but hb (by have h1 := F40.out; have h2 := F30.out; have h3 := F32.out; have h4 := VZ.out; omega)); have AF49 := Lib.hid (aft_but AF48.out hb (by have h1 := F40.out; have h2 := F30.out; have h3 := F32.out; have h4 := VZ.out; omega)); have PA49 := Lib.hid (PA48.out.but hb (by have h1 := F40.out; have h2 := F30.out; have h3 := F32.out; have h4 := VZ.out; omega))
                  have PB49 := Lib.hid hx
                  clear hx hs
                  clear hb D48 A48 B48 S48 AF48 PA48 PB48
                  refine ⟨⟨A49.out, B49.out⟩, ?_⟩
                  go_simp
                  refine hK _ _ ?_
                  clear hK K'
                  refine walk_nil ?_
                  gi_wp2
                  have hb : Below w49.heap.size w49 w49.drew := (Below.refl _ _).drew
                  have D50 := Lib.hid (D49.out.on hb); have A50 := Lib.hid (A49.out.below hb); have B50 := Lib.hid (B49.out.below hb); have S50 := Lib.hid (S49.out.below hb); have AF50 := Lib.hid (aft_below AF49.out hb); have PA50 := Lib.hid (PA49.out.below hb); have PB50 := Lib.hid (PB49.out.below hb)
                  clear hb D49 A49 B49 S49 AF49 PA49 PB49
                  refine roundIn_sched [(0, true), (1, true), (2, true), (3, true), (4, true), (5, true), (7, true), (8, true), (9, true), (10, true), (11, true), (12, true), (6, false), (13, false), (14, false), (15, false)] (fun W => Bd w q0 n0 c0 TX NX OX UX Bl Bt Bu cu k o L T U W ∧ SumsB W AX [x, y] ∧ SumsB W BX [x', y']) (by kernel_rfl) (by kernel_rfl) rfl (by rintro ⟨_, _, h⟩; exact h) (⟨D50.out, PA50.out, PB50.out⟩) ?_
                  refine walk_float rfl rfl (fun K' hK => ?_)
                  refine gives_cell _ _ rfl ⟨S, 0, none⟩ _ rfl box_bytes (fun W h => HS.out ▸ h.1.kb.cell) ?_
                  go_simp
                  refine hK _ ?_
                  clear hK K'
                  refine walk_float rfl rfl (fun K' hK => ?_)
                  refine gives_move _ rfl ?_
                  go_simp
                  refine hK _ ?_
                  clear hK K'
                  refine walk_float rfl rfl (fun K' hK => ?_)
                  refine gives_pair_addr _ _ rfl AX 0 rfl rfl (by decide) ?_
                  go_simp
                  refine hK _ ?_
                  clear hK K'
                  refine walk_float rfl rfl (fun K' hK => ?_)
                  refine gives_sum_mid _ rfl AX 0 rfl x (fun W h => h.2.1.rows 0 x rfl) ?_
                  go_simp
                  refine hK _ ?_
                  clear hK K'
                  refine walk_float rfl rfl (fun K' hK => ?_)
                  refine gives_pair_addr _ _ rfl AX 1 rfl rfl (by decide) ?_
                  go_simp
                  refine hK _ ?_
                  clear hK K'
                  refine walk_float rfl rfl (fun K' hK => ?_)
                  refine gives_sum_mid _ rfl AX 32 rfl y (fun W h => h.2.1.rows 1 y rfl) ?_
                  go_simp
                  refine hK _ ?_
                  clear hK K'
                  refine walk_float rfl rfl (fun K' hK => ?_)
                  refine gives_cell _ _ rfl ⟨S, 0, none⟩ _ rfl box_bytes (fun W h => HS.out ▸ h.1.kb.cell) ?_
                  go_simp
                  refine hK _ ?_
                  clear hK K'
                  refine walk_float rfl rfl (fun K' hK => ?_)
                  refine gives_move _ rfl ?_
                  go_simp
                  refine hK _ ?_
                  clear hK K'
                  refine walk_float rfl rfl (fun K' hK => ?_)
                  refine gives_pair_addr _ _ rfl BX 0 rfl rfl (by decide) ?_
                  go_simp
                  refine hK _ ?_
                  clear hK K'
                  refine walk_float rfl rfl (fun K' hK => ?_)
                  refine gives_sum_mid _ rfl BX 0 rfl x' (fun W h => h.2.2.rows 0 x' rfl) ?_
                  go_simp
                  refine hK _ ?_
                  clear hK K'
                  refine walk_float rfl rfl (fun K' hK => ?_)
                  refine gives_pair_addr _ _ rfl BX 1 rfl rfl (by decide) ?_
                  go_simp
                  refine hK _ ?_
                  clear hK K'
                  refine walk_float rfl rfl (fun K' hK => ?_)
                  refine gives_sum_mid _ rfl BX 32 rfl y' (fun W h => h.2.2.rows 1 y' rfl) ?_
                  go_simp
                  refine hK _ ?_
                  clear hK K'
                  refine walk_done rfl rfl (fun K' hK => ?_)
                  refine done_four _ _ _ _ _ _ rfl 28 rfl (.slice q0 n0 c0) (.int .i64 i) (sumVal x) (sumVal y) rfl rfl rfl rfl (fun _ w => by simp [go_sem]) ((NA.out w49.drew (HS.out ▸ D50.out.low) i x y (SXY.out x (by simp)) (SXY.out y (by simp))).mono ?_)
                  rintro e w51 ⟨rfl, hb⟩
                  have D51 := Lib.hid (D50.out.on hb); have A51 := Lib.hid (A50.out.below hb); have B51 := Lib.hid (B50.out.below hb); have S51 := Lib.hid (S50.out.below hb); have AF51 := Lib.hid (aft_below AF50.out hb); have PA51 := Lib.hid (PA50.out.below hb); have PB51 := Lib.hid (PB50.out.below hb)
                  clear hb D50 A50 B50 S50 AF50 PA50 PB50
                  refine ⟨_, rfl, ⟨D51.out, PA51.out, PB51.out⟩, ?_⟩
                  go_simp
                  refine hK _ _ ?_
                  clear hK K'
                  refine walk_done rfl rfl (fun K' hK => ?_)
                  refine done_four _ _ _ _ _ _ rfl 28 rfl (.slice q0 n0 c0) (.int .i64 i) (sumVal x') (sumVal y') rfl rfl rfl rfl (fun _ w => by simp [go_sem]) ((NA.out w51 (HS.out ▸ D51.out.low) i x' y' (SXY'.out x' (by simp)) (SXY'.out y' (by simp))).mono ?_)
                  rintro e w52 ⟨rfl, hb⟩
                  have D52 := Lib.hid (D51.out.on hb); have A52 := Lib.hid (A51.out.below hb); have B52 := Lib.hid (B51.out.below hb); have S52 := Lib.hid (S51.out.below hb); have AF52 := Lib.hid (aft_below AF51.out hb); have PA52 := Lib.hid (PA51.out.below hb); have PB52 := Lib.hid (PB51.out.below hb)
                  clear hb D51 A51 B51 S51 AF51 PA51 PB51
                  refine ⟨_, rfl, ⟨D52.out, PA52.out, PB52.out⟩, ?_⟩
                  go_simp
                  refine hK _ _ ?_
                  clear hK K'
                  refine walk_done rfl rfl (fun K' hK => ?_)
                  refine done_sum_store _ _ rfl WAX 0 rfl (nodeN n0 a0 i x y) rfl [was] A52.out (by simp) ?_
                  intro w53 hx hb hs
                  have D53 := Lib.hid (D52.out.but hb (by have h1 := F40.out; have h2 := F30.out; have h3 := F32.out; have h4 := VZ.out; omega)); have B53 := Lib.hid (B52.out.but hb (by have h1 := F40.out; have h2 := F30.out; have h3 := F32.out; have h4 := VZ.out; omega)); have S53 := Lib.hid (S52.out.but hb (by have h1 := F40.out; have h2 := F30.out; have h3 := F32.out; have h4 := VZ.out; omega)); have AF53 := Lib.hid (aft_but AF52.out hb (by have h1 := F40.out; have h2 := F30.out; have h3 := F32.out; have h4 := VZ.out; omega)); have PA53 := Lib.hid (PA52.out.but hb (by have h1 := F40.out; have h2 := F30.out; have h3 := F32.out; have h4 := VZ.out; omega)); have PB53 := Lib.hid (PB52.out.but hb (by have h1 := F40.out; have h2 := F30.out; have h3 := F32.out; have h4 := VZ.out; omega))
                  have A53 := Lib.hid (show SumsB w53 WAX [nodeN n0 a0 i x y] from hx)
                  clear hx hs
                  clear hb D52 A52 B52 S52 AF52 PA52 PB52
                  refine ⟨⟨D53.out, PA53.out, PB53.out⟩, ?_⟩
                  go_simp
                  refine hK _ _ ?_
                  clear hK K'
                  refine walk_done rfl rfl (fun K' hK => ?_)
                  refine done_sum_store _ _ rfl WBX 0 rfl (nodeN n0 a0 i x' y') rfl [now] B53.out (by simp) ?_
                  intro w54 hx hb hs
                  have D54 := Lib.hid (D53.out.but hb (by have h1 := F40.out; have h2 := F30.out; have h3 := F32.out; have h4 := VZ.out; omega)); have A54 := Lib.hid (A53.out.but hb (by have h1 := F40.out; have h2 := F30.out; have h3 := F32.out; have h4 := VZ.out; omega)); have S54 := Lib.hid (S53.out.but hb (by have h1 := F40.out; have h2 := F30.out; have h3 := F32.out; have h4 := VZ.out; omega)); have AF54 := Lib.hid (aft_but AF53.out hb (by have h1 := F40.out; have h2 := F30.out; have h3 := F32.out; have h4 := VZ.out; omega)); have PA54 := Lib.hid (PA53.out.but hb (by have h1 := F40.out; have h2 := F30.out; have h3 := F32.out; have h4 := VZ.out; omega)); have PB54 := Lib.hid (PB53.out.but hb (by have h1 := F40.out; have h2 := F30.out; have h3 := F32.out; have h4 := VZ.out; omega))
                  have B54 := Lib.hid (show SumsB w54 WBX [nodeN n0 a0 i x' y'] from hx)
                  clear hx hs
                  clear hb D53 A53 B53 S53 AF53 PA53 PB53
                  refine ⟨⟨D54.out, PA54.out, PB54.out⟩, ?_⟩
                  go_simp
                  refine hK _ _ ?_
                  clear hK K'
                  refine walk_nil ?_
                  have NS := Lib.hid (show IsSum (nodeN n0 a0 i x y) ∧ IsSum (nodeN n0 a0 i x' y') from ⟨nodeN_sum _ _ _ _ _, nodeN_sum _ _ _ _ _⟩)
                  rw [← HW.out] at NS A54
                  rw [← HV'.out] at NS B54
                  have HPF := Lib.hid (pair_apart (SXY.out x (by simp)) (SXY.out y (by simp)) (SXY'.out x' (by simp)) (SXY'.out y' (by simp)) HAP.out)
                  generalize hX1 : climbF (nodeN n0 a0) (tagAt T) k (tagAt L k) (j + 1) = X1 at *
                  generalize hX2 : climbF (nodeN n0 a0) (tagAt U) k o (j + 1) = X2 at *
                  have EX1 := Lib.hid hX1; have EX2 := Lib.hid hX2
                  have RB54 := Lib.hid (show Bx w54 (S + 1) 4 (.bool false) from HS.out ▸ D54.out.rb)
                  have AFW := Lib.hid (show Aft w32.heap.size V w54 by rw [s8]; exact AF54.out)
                  obtain ⟨P1, hP1⟩ : ∃ P, pairS x y = P := ⟨_, rfl⟩
                  obtain ⟨P2, hP2⟩ : ∃ P, pairS x' y' = P := ⟨_, rfl⟩
                  have LD1 := Lib.hid (fun (o : Oper) (a : Act) q ho hx => show (execOp a.eval o).run Tryd.prog w54 = .ok (.value P1) w54 from hP1 ▸ exec_pair_load q ho AX hx x y PA54.out)
                  have LD2 := Lib.hid (fun (o : Oper) (a : Act) q ho hx => show (execOp a.eval o).run Tryd.prog w54 = .ok (.value P2) w54 from hP2 ▸ exec_pair_load q ho BX hx x' y' PB54.out)
                  have NQ := Lib.hid (fun (o : Oper) (a : Act) q r ho (hx : a.eval q = P1) (hy : a.eval r = P2) => exec_pair_neq (o := o) (w := w54) q r ho x y x' y' (hx.trans hP1.symm) (hy.trans hP2.symm) HPF.out)
                  clear hP1 hP2
                  have LW54 := Lib.hid (show Below S w w54 from HS.out ▸ D54.out.low)
                  clear hX1 hX2
                  by_cases hq : X1 = X2
                  · have EQ := Lib.hid (show sameSum X1 X2 = true by rw [hq]; exact sameSum_self _)
                    clear hq
                    gi_wp2_with (first
                      | (refine sumIn_load rfl rfl rfl _ rfl WAX 0 rfl X1 A54.out.one ?_; go_simp)
                      | (refine sumIn_load rfl rfl rfl _ rfl WBX 0 rfl X2 B54.out.one ?_; go_simp)
                      | (refine sumIn_eql rfl rfl rfl _ _ rfl X1 X2 rfl rfl true EQ.out ?_; go_simp)
                      | (refine givesIn rfl rfl rfl (LD1.out _ _ _ rfl rfl) ?_; go_simp)
                      | (refine givesIn rfl rfl rfl (LD2.out _ _ _ rfl rfl) ?_; go_simp)
                      | (refine givesIn rfl rfl rfl (NQ.out _ _ _ _ rfl rfl rfl) ?_; go_simp)
                      | (refine boolIn_store rfl rfl rfl _ _ rfl rfl (S + 1) rfl true rfl 4 (.bool false) RB54.out ?_; intro w55 hx hb hs
                         have R55 := Lib.hid hx
                         have L55 := Lib.hid (LW54.out.trans (hb.below (by omega) (HS.out ▸ LW54.out.size)))
                         have AF55 := Lib.hid (aft_but AFW.out hb (by rw [s8]; have h1 := D54.out.far; have h2 := F30.out; have h3 := F32.out; have h4 := HS.out; omega))
                         clear hx hb hs))
                    exact ⟨AF55.out, rfl, L55.out, R55.out⟩
                  · have EQ := Lib.hid (show sameSum X1 X2 = false from same_not NS.out.1 NS.out.2 hq)
                    have HQ := Lib.hid hq
                    clear hq
                    gi_wp2_with (first
                      | (refine sumIn_load rfl rfl rfl _ rfl WAX 0 rfl X1 A54.out.one ?_)
                      | (refine sumIn_load rfl rfl rfl _ rfl WBX 0 rfl X2 B54.out.one ?_)
                      | (refine sumIn_eql rfl rfl rfl _ _ rfl X1 X2 rfl rfl false EQ.out ?_))
                    exact ⟨AFW.out, D54.out, by rw [Nat.add_sub_cancel, EX1.out]; exact A54.out, by rw [Nat.add_sub_cancel, EX2.out]; exact B54.out, S54.out, by rw [Nat.add_sub_cancel, EX1.out, EX2.out]; exact fun h => HQ.out h.symm⟩
end Go.Proofs.YtbdldnhpgpjnoaaDoor.treeBinds
