/- The contract of the program's Decode. Conditions: the bytes lie in memory. -/
import Derived.Test.YtkibeddfkenlkaaCbOper
namespace Go.Proofs.Ytkibeddfkenlkaa
open Go.ChangeShapes Go.WideShapes Go.ChangeAt Go.RowKit
set_option linter.unusedVariables false
set_option linter.unusedSimpArgs false
/-- The Data that was told: none, or a row of its own. -/
def DatAt (w0 V : World) (q : Option Addr) (m : Nat) (F : Nat → Nat) : Prop := (q = none ∧ m = 0) ∨ ∃ D, q = some ⟨D, 0, none⟩ ∧ IntBlk V D .u8 5 (mk m F) ∧ w0.heap.size ≤ D
theorem DatAt.bytes {w0 V : World} {q : Option Addr} {m : Nat} {F : Nat → Nat} (h : DatAt w0 V q m F) : BytesAt V q m F := by
  rcases h with ⟨-, h2⟩ | ⟨D, rfl, h2, -⟩
  · exact .inl h2
  · exact h2.bytesAt
theorem DatAt.mono {w0 V V' : World} {q : Option Addr} {m : Nat} {F : Nat → Nat} (h : DatAt w0 V q m F) (hb : Below V.heap.size V V') : DatAt w0 V' q m F := by
  rcases h with h | ⟨D, h1, h2, h3⟩
  · exact .inl h
  · exact .inr ⟨D, h1, h2.below hb h2.lt, h3⟩
theorem DatAt.keep {w0 V V' : World} {q : Option Addr} {m : Nat} {F : Nat → Nat} {O : Nat} (h : DatAt w0 V q m F) (k : Keeps (fun j => j = O) V V') (hO : O < w0.heap.size) : DatAt w0 V' q m F := by
  rcases h with h | ⟨D, h1, h2, h3⟩
  · exact .inl h
  · exact .inr ⟨D, h1, (k.block D h2.lt (by omega)).trans h2, h3⟩
theorem DatAt.base {w0 w1 V : World} {q : Option Addr} {m : Nat} {F : Nat → Nat} (h : DatAt w0 V q m F) (hb : w1.heap.size ≤ w0.heap.size) : DatAt w1 V q m F := by
  rcases h with h | ⟨D, h1, h2, h3⟩
  · exact .inl h
  · exact .inr ⟨D, h1, h2, Nat.le_trans hb h3⟩
theorem DatAt.keep2 {w0 V V' : World} {q : Option Addr} {m : Nat} {F : Nat → Nat} {O : Nat} (h : DatAt w0 V q m F) (k : Keeps (fun j => j = O) V V') (hO : V.heap.size ≤ O) : DatAt w0 V' q m F := by
  rcases h with h | ⟨D, h1, h2, h3⟩
  · exact .inl h
  · exact .inr ⟨D, h1, (k.block D h2.lt (by have := h2.lt; omega)).trans h2, h3⟩
theorem told_ok {w : World} {p : Option Addr} {n c : Nat} {G : Nat → Nat} (hp : BytesAt w p n G) (hG : ∀ j, G j < 256) (hc : n ≤ c) (hn : n ≤ 100000) (h6 : 6 ≤ n) (h25 : ((G 0 : Nat) : Int) = 6 → 25 ≤ n) :
    Calls Try.prog 31 #[.slice p n c] w fun e w' => ∃ q, e = .returned (.tuple #[.agg (cmA q (rawN G n) (rawN G n) (rawC G)), .nilIface]) ∧ DatAt w w' q (rawN G n) (dataF G) ∧ Below w.heap.size w w' := by
  by_cases h2 : ((G 0 : Nat) : Int) = 2
  · rw [show rawN G n = n - 6 by unfold rawN; rw [h2]; rfl]
    refine (told_two hp hG hc hn h6 h2).mono ?_
    rintro e w' ⟨D, rfl, h3, h4, h5⟩
    exact ⟨_, rfl, .inr ⟨D, rfl, h3, h4⟩, h5⟩
  · rw [show rawN G n = 0 by unfold rawN; rw [show (((G 0 : Nat) : Int) == 2) = false by simpa using h2]; rfl]
    by_cases h : ((G 0 : Nat) : Int) = 6
    · refine (told_six hp hG hc hn (h25 h) h).mono ?_
      rintro e w' ⟨rfl, h5⟩
      exact ⟨_, rfl, .inl ⟨rfl, rfl⟩, h5⟩
    · refine (told_other hp hG hc hn h6 h2 h).mono ?_
      rintro e w' ⟨rfl, h5⟩
      exact ⟨_, rfl, .inl ⟨rfl, rfl⟩, h5⟩
theorem told_bad {w : World} {p : Option Addr} {n c : Nat} {G : Nat → Nat} (hp : BytesAt w p n G) (hG : ∀ j, G j < 256) (hc : n ≤ c) (hn : n ≤ 100000) (hb : n < 6 ∨ (((G 0 : Nat) : Int) = 6 ∧ n < 25)) :
    Calls Try.prog 31 #[.slice p n c] w fun e w' => ∃ z, e = .returned (.tuple #[.agg (cmA none 0 0 z), .iface 38 (.int .i64 2)]) ∧ Below w.heap.size w w' := by
  by_cases h6 : n < 6
  · refine (told_no hp hG hc hn h6).mono ?_
    rintro e w' ⟨rfl, h5⟩
    exact ⟨_, rfl, h5⟩
  · rcases hb with h | ⟨h, h25⟩
    · exact absurd h h6
    · exact told_sixno hp hG hc hn (by omega) h25 h
/-! ### What is a command's bytes -/
theorem isC_parts {n : Nat} {G : Nat → Nat} : isC n G = true ↔ 6 ≤ n ∧ (((G 0 : Nat) : Int) = 6 → 25 ≤ n) ∧ goodC (rawC G) (rawN G n) = true ∧ mk (lenC (rawC G) + rawN G n) (allC (rawC G) (dataF G)) = mk n G := by
  unfold isC
  simp only [Bool.and_eq_true, decide_eq_true_eq]
  constructor
  · rintro ⟨⟨⟨h1, h2⟩, h3⟩, h4⟩
    refine ⟨h1, fun h => ?_, h3, h4⟩
    rw [h] at h2; simpa using h2
  · rintro ⟨h1, h2, h3, h4⟩
    refine ⟨⟨⟨h1, ?_⟩, h3⟩, h4⟩
    by_cases h : ((G 0 : Nat) : Int) = 6
    · rw [h]; simpa using h2 h
    · rw [show (((G 0 : Nat) : Int) == 6) = false by simpa using h]; rfl
theorem isC_no {n : Nat} {G : Nat → Nat} (h : ¬ (6 ≤ n ∧ (((G 0 : Nat) : Int) = 6 → 25 ≤ n) ∧ goodC (rawC G) (rawN G n) = true ∧ mk (lenC (rawC G) + rawN G n) (allC (rawC G) (dataF G)) = mk n G)) : isC n G = false := by
  cases e : isC n G
  · rfl
  · exact absurd (isC_parts.1 e) h
theorem isC_few {n : Nat} {G : Nat → Nat} (h : isC n G = true) : n ≤ 2073 := by
  obtain ⟨-, -, h3, h4⟩ := isC_parts.1 h
  have := good_few (good_iff.1 h3)
  have := lenC_le (rawC G)
  have := (mk_inj h4).1
  omega
theorem isC_most {n : Nat} {G : Nat → Nat} (h : isC n G = true) : n ≤ 2054 := by
  obtain ⟨-, -, h3, h4⟩ := isC_parts.1 h
  have g := good_iff.1 h3
  have e := (mk_inj h4).1
  by_cases h2 : (rawC G).k = 2
  · have := lenC_not (x := rawC G) (by omega)
    have := g.data.1 h2; omega
  · have := g.data.2 h2
    have := lenC_le (rawC G); omega
attribute [local irreducible] regC intC valsF valN mk extF zeroK offS cmA ropA isC rawC rawN dataF allC lenC bytC goodC
attribute [local go_sem] Oper.semAt_some
set_option maxRecDepth 100000 in
set_option maxHeartbeats 8000000 in
theorem Decode_long {w : World} {p : Option Addr} {n c : Nat} {G : Nat → Nat} (hp : BytesAt w p n G) (hG : ∀ j, G j < 256) (hc : n ≤ c) (h : 2054 < n) :
    Calls Try.prog 17 #[.slice p n c] w fun e w' => e = .returned (.tuple #[.agg (cmA none 0 0 zeroCm), .iface 38 (.int .i64 11)]) ∧ Below w.heap.size w w' := by
  have f1 : decide ((2054 : Int) < (n : Int)) = true := by simp; omega
  have f2 : decide (2054 < n) = true := by simp; omega
  clear hp hG hc h
  go_enter Try.func17, Try.ntmps17
  go_wp2_with (first
  | (with_reducible show wpList _ _ _ (⟨some 2, Op.alloc cmT, _, _, _, _⟩ :: _) _ _
     refine wpList_boxA_new rowCm rfl rfl w.heap.size rfl ?_
     intro w1 x1 l1 s1
     have X1 := Lib.hid x1
     have L1 := Lib.hid l1
     clear x1 l1 s1)
  | (with_reducible show wpList _ _ _ (⟨_, Op.build cmT _, _, _, _, none⟩ :: _) _ _
     refine wpList_build_any rfl cmT #[] #[] (.agg (cmA none 0 0 zeroCm)) rfl (by simp) (fun w => run_build w cmT #[] _ (by kernel_rfl)) ?_)
  | (with_reducible show wpList _ _ _ (⟨_, Op.store cmT (.tmp 2) _, _, _, _, none⟩ :: _) _ _
     refine wpList_boxA_put rowCm rfl _ _ rfl rfl w.heap.size (cmA none 0 0 zeroCm) _ (cmA_size _ _ _ _) (cmA_one _ _ _ _) (cmA_size _ _ _ _) rfl rfl X1.out ?_
     intro w9 x9 k9 s9
     have X9 := Lib.hid x9
     have L9 := Lib.hid (low_put L1.out (Nat.le_refl _) k9)
     clear x9 k9 s9 X1 L1))
  exact bodyPost_ret (results_cell_row_tmp rfl _ _ w.heap.size cmT (cmA none 0 0 zeroCm) (0, 0) _ rfl X9.out Try.underlying26 rfl (by rw [cmA_size]; exact rowCm.size)) rfl ⟨rfl, L9.out⟩
set_option maxRecDepth 100000 in
set_option maxHeartbeats 8000000 in
theorem Decode_untold {w : World} {p : Option Addr} {n c : Nat} {G : Nat → Nat} (hp : BytesAt w p n G) (hG : ∀ j, G j < 256) (hc : n ≤ c) (h : n ≤ 2054) (hb : n < 6 ∨ (((G 0 : Nat) : Int) = 6 ∧ n < 25)) :
    Calls Try.prog 17 #[.slice p n c] w fun e w' => e = .returned (.tuple #[.agg (cmA none 0 0 zeroCm), .iface 38 (.int .i64 11)]) ∧ Below w.heap.size w w' := by
  have HP := Lib.hid (fun (W : World) (hb : Below w.heap.size w W) => hp.below hb)
  have HG := Lib.hid hG
  have f1 : decide ((2054 : Int) < (n : Int)) = false := by simp; omega
  have f2 : decide (2054 < n) = false := by simp; omega
  have HT := Lib.hid (fun (W : World) (hW : Below w.heap.size w W) => told_bad (hp.below hW) hG hc (by omega) hb)
  clear hp hG hc h hb
  go_enter Try.func17, Try.ntmps17
  go_wp2_with (first
  | (with_reducible show wpList _ _ _ (⟨some 2, Op.alloc cmT, _, _, _, _⟩ :: _) _ _
     refine wpList_boxA_new rowCm rfl rfl w.heap.size rfl ?_
     intro w1 x1 l1 s1
     have X1 := Lib.hid x1
     have L1 := Lib.hid l1
     clear x1 l1 s1)
  | (go_at_call 31
     refine (HT.out _ L1.out).mono ?_
     rintro e w2 ⟨z, rfl, l2⟩
     have X2 := Lib.hid (X1.out.keep (l2.block _ X1.out.lt))
     have L2 := Lib.hid (L1.out.trans (l2.mono L1.out.size))
     clear l2 X1 L1 HT)
  | (with_reducible show wpList _ _ _ (⟨some 4, Op.alloc cmT, _, _, _, _⟩ :: _) _ _
     refine wpList_boxA_new rowCm rfl rfl w2.heap.size rfl ?_
     intro w3 x3 l3 s3
     have Y3 := Lib.hid x3
     have X3 := Lib.hid (X2.out.keep (l3.block _ X2.out.lt))
     have L3 := Lib.hid (L2.out.trans (l3.mono L2.out.size))
     have J3 := Lib.hid X2.out.lt
     clear x3 l3 s3 X2 L2)
  | (with_reducible show wpList _ _ _ (⟨_, Op.store cmT (.tmp 4) _, _, _, _, none⟩ :: _) _ _
     refine wpList_boxA_put rowCm rfl _ _ rfl rfl w2.heap.size (cmA none 0 0 z) _ (cmA_size _ _ _ _) (cmA_one _ _ _ _) (cmA_size _ _ _ _) rfl rfl Y3.out ?_
     intro w4 x4 k4 s4
     have Y4 := Lib.hid x4
     have X4 := Lib.hid (X3.out.keep (k4.block _ X3.out.lt (Nat.ne_of_lt J3.out)))
     have L4 := Lib.hid (low_put L3.out (Nat.le_of_lt J3.out) k4)
     clear x4 k4 s4 X3 L3 Y3)
  | (with_reducible show wpList _ _ _ (⟨_, Op.build cmT _, _, _, _, none⟩ :: _) _ _
     refine wpList_build_any rfl cmT #[] #[] (.agg (cmA none 0 0 zeroCm)) rfl (by simp) (fun w => run_build w cmT #[] _ (by kernel_rfl)) ?_)
  | (with_reducible show wpList _ _ _ (⟨_, Op.store cmT (.tmp 2) _, _, _, _, none⟩ :: _) _ _
     refine wpList_boxA_put rowCm rfl _ _ rfl rfl w.heap.size (cmA none 0 0 zeroCm) _ (cmA_size _ _ _ _) (cmA_one _ _ _ _) (cmA_size _ _ _ _) rfl rfl X4.out ?_
     intro w9 x9 k9 s9
     have X9 := Lib.hid x9
     have L9 := Lib.hid (low_put L4.out (Nat.le_refl _) k9)
     clear x9 k9 s9 X4 L4))
  exact bodyPost_ret (results_cell_row_tmp rfl _ _ w.heap.size cmT (cmA none 0 0 zeroCm) (0, 0) _ rfl X9.out Try.underlying26 rfl (by rw [cmA_size]; exact rowCm.size)) rfl ⟨rfl, L9.out⟩
set_option maxRecDepth 100000 in
set_option maxHeartbeats 8000000 in
theorem Decode_bad {w : World} {p : Option Addr} {n c : Nat} {G : Nat → Nat} (hp : BytesAt w p n G) (hG : ∀ j, G j < 256) (hc : n ≤ c) (h : n ≤ 2054) (h6 : 6 ≤ n) (h25 : ((G 0 : Nat) : Int) = 6 → 25 ≤ n) (hgd : goodC (rawC G) (rawN G n) = false) :
    Calls Try.prog 17 #[.slice p n c] w fun e w' => e = .returned (.tuple #[.agg (cmA none 0 0 zeroCm), .iface 38 (.int .i64 11)]) ∧ Below w.heap.size w w' := by
  have HP := Lib.hid (fun (W : World) (hb : Below w.heap.size w W) => hp.below hb)
  have HG := Lib.hid hG
  have f1 : decide ((2054 : Int) < (n : Int)) = false := by simp; omega
  have f2 : decide (2054 < n) = false := by simp; omega
  have HT := Lib.hid (fun (W : World) (hW : Below w.heap.size w W) => told_ok (hp.below hW) hG hc (by omega) h6 h25)
  have HGD := Lib.hid hgd
  clear hp hG hc h h6 h25 hgd
  go_enter Try.func17, Try.ntmps17
  go_wp2_with (first
  | (with_reducible show wpList _ _ _ (⟨some 2, Op.alloc cmT, _, _, _, _⟩ :: _) _ _
     refine wpList_boxA_new rowCm rfl rfl w.heap.size rfl ?_
     intro w1 x1 l1 s1
     have X1 := Lib.hid x1
     have L1 := Lib.hid l1
     clear x1 l1 s1)
  | (go_at_call 31
     refine (HT.out _ L1.out).mono ?_
     rintro e w2 ⟨q, rfl, d2, l2⟩
     have X2 := Lib.hid (X1.out.keep (l2.block _ X1.out.lt))
     have L2 := Lib.hid (L1.out.trans (l2.mono L1.out.size))
     have D2 := Lib.hid (d2.base L1.out.size)
     have DNE := Lib.hid (show ∀ D, q = some ⟨D, 0, none⟩ → D ≠ w.heap.size from fun D hD => by rcases d2 with ⟨h, -⟩ | ⟨D1, h1, -, h3⟩; (rw [h] at hD; cases hD); (rw [h1] at hD; cases hD; have := X1.out.lt; omega))
     clear l2 X1 L1 HT d2)
  | (with_reducible show wpList _ _ _ (⟨some 4, Op.alloc cmT, _, _, _, _⟩ :: _) _ _
     refine wpList_boxA_new rowCm rfl rfl w2.heap.size rfl ?_
     intro w3 x3 l3 s3
     have Y3 := Lib.hid x3
     have X3 := Lib.hid (X2.out.keep (l3.block _ X2.out.lt))
     have L3 := Lib.hid (L2.out.trans (l3.mono L2.out.size))
     have J3 := Lib.hid X2.out.lt
     have D3 := Lib.hid (D2.out.mono l3)
     have DS := Lib.hid (show ∀ D, q = some ⟨D, 0, none⟩ → D < w2.heap.size from fun D hD => by rcases D2.out with ⟨h, -⟩ | ⟨D1, h1, h2, -⟩; (rw [h] at hD; cases hD); (rw [h1] at hD; cases hD; exact h2.lt))
     clear x3 l3 s3 X2 L2 D2)
  | (with_reducible show wpList _ _ _ (⟨_, Op.store cmT (.tmp 4) _, _, _, _, none⟩ :: _) _ _
     refine wpList_boxA_put rowCm rfl _ _ rfl rfl w2.heap.size (cmA q (rawN G n) (rawN G n) (rawC G)) _ (cmA_size _ _ _ _) (cmA_one _ _ _ _) (cmA_size _ _ _ _) rfl rfl Y3.out ?_
     intro w4 x4 k4 s4
     have Y4 := Lib.hid x4
     have X4 := Lib.hid (X3.out.keep (k4.block _ X3.out.lt (Nat.ne_of_lt J3.out)))
     have L4 := Lib.hid (low_put L3.out (Nat.le_of_lt J3.out) k4)
     have D4 := Lib.hid (show DatAt w w4 q (rawN G n) (dataF G) from by rcases D3.out with h | ⟨D, h1, h2, h3⟩; exact .inl h; exact .inr ⟨D, h1, (k4.block D h2.lt (Nat.ne_of_lt (DS.out D h1))).trans h2, h3⟩)
     clear x4 k4 s4 X3 L3 Y3 D3)
  | (with_reducible show wpList _ _ _ (⟨some 23, Op.load cmT _, _, _, _, _⟩ :: _) _ _
     refine wpList_boxA_loadw rowCm _ rfl rfl w2.heap.size (cmA q (rawN G n) (rawN G n) (rawC G)) (cmA_size _ _ _ _) rfl Y4.out ?_)
  | (go_at_call 8
     refine (Encode_no HGD.out).mono ?_; rintro e w5 ⟨rfl, l5⟩
     have X5 := Lib.hid (X4.out.keep (l5.block _ X4.out.lt))
     have L5 := Lib.hid (L4.out.trans (l5.mono L4.out.size))
     clear l5 X4 L4)
  | (with_reducible show wpList _ _ _ (⟨_, Op.build cmT _, _, _, _, none⟩ :: _) _ _
     refine wpList_build_any rfl cmT #[] #[] (.agg (cmA none 0 0 zeroCm)) rfl (by simp) (fun w => run_build w cmT #[] _ (by kernel_rfl)) ?_)
  | (with_reducible show wpList _ _ _ (⟨_, Op.store cmT (.tmp 2) _, _, _, _, none⟩ :: _) _ _
     refine wpList_boxA_put rowCm rfl _ _ rfl rfl w.heap.size (cmA none 0 0 zeroCm) _ (cmA_size _ _ _ _) (cmA_one _ _ _ _) (cmA_size _ _ _ _) rfl rfl X5.out ?_
     intro w9 x9 k9 s9
     have X9 := Lib.hid x9
     have L9 := Lib.hid (low_put L5.out (Nat.le_refl _) k9)
     clear x9 k9 s9 X5 L5))
  exact bodyPost_ret (results_cell_row_tmp rfl _ _ w.heap.size cmT (cmA none 0 0 zeroCm) (0, 0) _ rfl X9.out Try.underlying26 rfl (by rw [cmA_size]; exact rowCm.size)) rfl ⟨rfl, L9.out⟩
set_option maxRecDepth 100000 in
set_option maxHeartbeats 8000000 in
theorem Decode_other {w : World} {p : Option Addr} {n c : Nat} {G : Nat → Nat} (hp : BytesAt w p n G) (hG : ∀ j, G j < 256) (hc : n ≤ c) (h : n ≤ 2054) (h6 : 6 ≤ n) (h25 : ((G 0 : Nat) : Int) = 6 → 25 ≤ n) (hgd : goodC (rawC G) (rawN G n) = true) (heq : ¬ mk (lenC (rawC G) + rawN G n) (allC (rawC G) (dataF G)) = mk n G) :
    Calls Try.prog 17 #[.slice p n c] w fun e w' => e = .returned (.tuple #[.agg (cmA none 0 0 zeroCm), .iface 38 (.int .i64 11)]) ∧ Below w.heap.size w w' := by
  have HP := Lib.hid (fun (W : World) (hb : Below w.heap.size w W) => hp.below hb)
  have HG := Lib.hid hG
  have f1 : decide ((2054 : Int) < (n : Int)) = false := by simp; omega
  have f2 : decide (2054 < n) = false := by simp; omega
  have HT := Lib.hid (fun (W : World) (hW : Below w.heap.size w W) => told_ok (hp.below hW) hG hc (by omega) h6 h25)
  have HAL := Lib.hid (fun j (hj : j < lenC (rawC G) + rawN G n) => allC_lt (x := rawC G) (g := dataF G) (n := rawN G n) (fun i _ => by show dataF G i < 256; unfold dataF; exact hG _) j hj)
  have HGD := Lib.hid hgd
  have HEQ := Lib.hid (decide_eq_false heq)
  clear hp hG hc h h6 h25 hgd heq
  go_enter Try.func17, Try.ntmps17
  go_wp2_with (first
  | (with_reducible show wpList _ _ _ (⟨some 2, Op.alloc cmT, _, _, _, _⟩ :: _) _ _
     refine wpList_boxA_new rowCm rfl rfl w.heap.size rfl ?_
     intro w1 x1 l1 s1
     have X1 := Lib.hid x1
     have L1 := Lib.hid l1
     clear x1 l1 s1)
  | (go_at_call 31
     refine (HT.out _ L1.out).mono ?_
     rintro e w2 ⟨q, rfl, d2, l2⟩
     have X2 := Lib.hid (X1.out.keep (l2.block _ X1.out.lt))
     have L2 := Lib.hid (L1.out.trans (l2.mono L1.out.size))
     have D2 := Lib.hid (d2.base L1.out.size)
     have DNE := Lib.hid (show ∀ D, q = some ⟨D, 0, none⟩ → D ≠ w.heap.size from fun D hD => by rcases d2 with ⟨h, -⟩ | ⟨D1, h1, -, h3⟩; (rw [h] at hD; cases hD); (rw [h1] at hD; cases hD; have := X1.out.lt; omega))
     clear l2 X1 L1 HT d2)
  | (with_reducible show wpList _ _ _ (⟨some 4, Op.alloc cmT, _, _, _, _⟩ :: _) _ _
     refine wpList_boxA_new rowCm rfl rfl w2.heap.size rfl ?_
     intro w3 x3 l3 s3
     have Y3 := Lib.hid x3
     have X3 := Lib.hid (X2.out.keep (l3.block _ X2.out.lt))
     have L3 := Lib.hid (L2.out.trans (l3.mono L2.out.size))
     have J3 := Lib.hid X2.out.lt
     have D3 := Lib.hid (D2.out.mono l3)
     have DS := Lib.hid (show ∀ D, q = some ⟨D, 0, none⟩ → D < w2.heap.size from fun D hD => by rcases D2.out with ⟨h, -⟩ | ⟨D1, h1, h2, -⟩; (rw [h] at hD; cases hD); (rw [h1] at hD; cases hD; exact h2.lt))
     clear x3 l3 s3 X2 L2 D2)
  | (with_reducible show wpList _ _ _ (⟨_, Op.store cmT (.tmp 4) _, _, _, _, none⟩ :: _) _ _
     refine wpList_boxA_put rowCm rfl _ _ rfl rfl w2.heap.size (cmA q (rawN G n) (rawN G n) (rawC G)) _ (cmA_size _ _ _ _) (cmA_one _ _ _ _) (cmA_size _ _ _ _) rfl rfl Y3.out ?_
     intro w4 x4 k4 s4
     have Y4 := Lib.hid x4
     have X4 := Lib.hid (X3.out.keep (k4.block _ X3.out.lt (Nat.ne_of_lt J3.out)))
     have L4 := Lib.hid (low_put L3.out (Nat.le_of_lt J3.out) k4)
     have D4 := Lib.hid (show DatAt w w4 q (rawN G n) (dataF G) from by rcases D3.out with h | ⟨D, h1, h2, h3⟩; exact .inl h; exact .inr ⟨D, h1, (k4.block D h2.lt (Nat.ne_of_lt (DS.out D h1))).trans h2, h3⟩)
     clear x4 k4 s4 X3 L3 Y3 D3)
  | (with_reducible show wpList _ _ _ (⟨some 23, Op.load cmT _, _, _, _, _⟩ :: _) _ _
     refine wpList_boxA_loadw rowCm _ rfl rfl w2.heap.size (cmA q (rawN G n) (rawN G n) (rawC G)) (cmA_size _ _ _ _) rfl Y4.out ?_)
  | (go_at_call 8
     refine (Encode_ok D4.out.bytes HGD.out).mono ?_; rintro e w5 ⟨E, C, FE, rfl, b5, f5, c5, e5, l5⟩
     have X5 := Lib.hid (X4.out.keep (l5.block _ X4.out.lt))
     have Y5 := Lib.hid (Y4.out.keep (l5.block _ Y4.out.lt))
     have L5 := Lib.hid (L4.out.trans (l5.mono L4.out.size))
     have D5 := Lib.hid (D4.out.mono l5)
     have B5 := Lib.hid (b5.first c5)
     have F5 := Lib.hid f5
     clear b5 f5 c5 e5 l5 X4 L4 Y4 D4)
  | (go_at_call 32
     refine (Equal_any (some ⟨E, 0, none⟩) (lenC (rawC G) + rawN G n) C p n c FE G (fun j hj => by rw [F5.out j hj]; exact HAL.out j hj) (fun j _ => HG.out j) w5 B5.out (HP.out _ L5.out)).mono ?_
     rintro e w6 ⟨rfl, rfl⟩
     rw [show mk (lenC (rawC G) + rawN G n) FE = mk (lenC (rawC G) + rawN G n) (allC (rawC G) (dataF G)) from mk_ext F5.out, HEQ.out]
     clear B5 F5)
  | (with_reducible show wpList _ _ _ (⟨_, Op.build cmT _, _, _, _, none⟩ :: _) _ _
     refine wpList_build_any rfl cmT #[] #[] (.agg (cmA none 0 0 zeroCm)) rfl (by simp) (fun w => run_build w cmT #[] _ (by kernel_rfl)) ?_)
  | (with_reducible show wpList _ _ _ (⟨_, Op.store cmT (.tmp 2) _, _, _, _, none⟩ :: _) _ _
     refine wpList_boxA_put rowCm rfl _ _ rfl rfl w.heap.size (cmA none 0 0 zeroCm) _ (cmA_size _ _ _ _) (cmA_one _ _ _ _) (cmA_size _ _ _ _) rfl rfl X5.out ?_
     intro w9 x9 k9 s9
     have X9 := Lib.hid x9
     have L9 := Lib.hid (low_put L5.out (Nat.le_refl _) k9)
     clear x9 k9 s9 X5 L5))
  exact bodyPost_ret (results_cell_row_tmp rfl _ _ w.heap.size cmT (cmA none 0 0 zeroCm) (0, 0) _ rfl X9.out Try.underlying26 rfl (by rw [cmA_size]; exact rowCm.size)) rfl ⟨rfl, L9.out⟩
set_option maxRecDepth 100000 in
set_option maxHeartbeats 8000000 in
theorem Decode_same {w : World} {p : Option Addr} {n c : Nat} {G : Nat → Nat} (hp : BytesAt w p n G) (hG : ∀ j, G j < 256) (hc : n ≤ c) (h : n ≤ 2054) (h6 : 6 ≤ n) (h25 : ((G 0 : Nat) : Int) = 6 → 25 ≤ n) (hgd : goodC (rawC G) (rawN G n) = true) (heq : mk (lenC (rawC G) + rawN G n) (allC (rawC G) (dataF G)) = mk n G) :
    Calls Try.prog 17 #[.slice p n c] w fun e w' => ∃ q, e = .returned (.tuple #[.agg (cmA q (rawN G n) (rawN G n) (rawC G)), .nilIface]) ∧ DatAt w w' q (rawN G n) (dataF G) ∧ Below w.heap.size w w' := by
  have HP := Lib.hid (fun (W : World) (hb : Below w.heap.size w W) => hp.below hb)
  have HG := Lib.hid hG
  have f1 : decide ((2054 : Int) < (n : Int)) = false := by simp; omega
  have f2 : decide (2054 < n) = false := by simp; omega
  have HT := Lib.hid (fun (W : World) (hW : Below w.heap.size w W) => told_ok (hp.below hW) hG hc (by omega) h6 h25)
  have HAL := Lib.hid (fun j (hj : j < lenC (rawC G) + rawN G n) => allC_lt (x := rawC G) (g := dataF G) (n := rawN G n) (fun i _ => by show dataF G i < 256; unfold dataF; exact hG _) j hj)
  have HGD := Lib.hid hgd
  have HEQ := Lib.hid (decide_eq_true heq)
  clear hp hG hc h h6 h25 hgd heq
  go_enter Try.func17, Try.ntmps17
  go_wp2_with (first
  | (with_reducible show wpList _ _ _ (⟨some 2, Op.alloc cmT, _, _, _, _⟩ :: _) _ _
     refine wpList_boxA_new rowCm rfl rfl w.heap.size rfl ?_
     intro w1 x1 l1 s1
     have X1 := Lib.hid x1
     have L1 := Lib.hid l1
     clear x1 l1 s1)
  | (go_at_call 31
     refine (HT.out _ L1.out).mono ?_
     rintro e w2 ⟨q, rfl, d2, l2⟩
     have X2 := Lib.hid (X1.out.keep (l2.block _ X1.out.lt))
     have L2 := Lib.hid (L1.out.trans (l2.mono L1.out.size))
     have D2 := Lib.hid (d2.base L1.out.size)
     have DNE := Lib.hid (show ∀ D, q = some ⟨D, 0, none⟩ → D ≠ w.heap.size from fun D hD => by rcases d2 with ⟨h, -⟩ | ⟨D1, h1, -, h3⟩; (rw [h] at hD; cases hD); (rw [h1] at hD; cases hD; have := X1.out.lt; omega))
     clear l2 X1 L1 HT d2)
  | (with_reducible show wpList _ _ _ (⟨some 4, Op.alloc cmT, _, _, _, _⟩ :: _) _ _
     refine wpList_boxA_new rowCm rfl rfl w2.heap.size rfl ?_
     intro w3 x3 l3 s3
     have Y3 := Lib.hid x3
     have X3 := Lib.hid (X2.out.keep (l3.block _ X2.out.lt))
     have L3 := Lib.hid (L2.out.trans (l3.mono L2.out.size))
     have J3 := Lib.hid X2.out.lt
     have D3 := Lib.hid (D2.out.mono l3)
     have DS := Lib.hid (show ∀ D, q = some ⟨D, 0, none⟩ → D < w2.heap.size from fun D hD => by rcases D2.out with ⟨h, -⟩ | ⟨D1, h1, h2, -⟩; (rw [h] at hD; cases hD); (rw [h1] at hD; cases hD; exact h2.lt))
     clear x3 l3 s3 X2 L2 D2)
  | (with_reducible show wpList _ _ _ (⟨_, Op.store cmT (.tmp 4) _, _, _, _, none⟩ :: _) _ _
     refine wpList_boxA_put rowCm rfl _ _ rfl rfl w2.heap.size (cmA q (rawN G n) (rawN G n) (rawC G)) _ (cmA_size _ _ _ _) (cmA_one _ _ _ _) (cmA_size _ _ _ _) rfl rfl Y3.out ?_
     intro w4 x4 k4 s4
     have Y4 := Lib.hid x4
     have X4 := Lib.hid (X3.out.keep (k4.block _ X3.out.lt (Nat.ne_of_lt J3.out)))
     have L4 := Lib.hid (low_put L3.out (Nat.le_of_lt J3.out) k4)
     have D4 := Lib.hid (show DatAt w w4 q (rawN G n) (dataF G) from by rcases D3.out with h | ⟨D, h1, h2, h3⟩; exact .inl h; exact .inr ⟨D, h1, (k4.block D h2.lt (Nat.ne_of_lt (DS.out D h1))).trans h2, h3⟩)
     clear x4 k4 s4 X3 L3 Y3 D3)
  | (with_reducible show wpList _ _ _ (⟨some 23, Op.load cmT _, _, _, _, _⟩ :: _) _ _
     refine wpList_boxA_loadw rowCm _ rfl rfl w2.heap.size (cmA q (rawN G n) (rawN G n) (rawC G)) (cmA_size _ _ _ _) rfl Y4.out ?_)
  | (go_at_call 8
     refine (Encode_ok D4.out.bytes HGD.out).mono ?_; rintro e w5 ⟨E, C, FE, rfl, b5, f5, c5, e5, l5⟩
     have X5 := Lib.hid (X4.out.keep (l5.block _ X4.out.lt))
     have Y5 := Lib.hid (Y4.out.keep (l5.block _ Y4.out.lt))
     have L5 := Lib.hid (L4.out.trans (l5.mono L4.out.size))
     have D5 := Lib.hid (D4.out.mono l5)
     have B5 := Lib.hid (b5.first c5)
     have F5 := Lib.hid f5
     clear b5 f5 c5 e5 l5 X4 L4 Y4 D4)
  | (go_at_call 32
     refine (Equal_any (some ⟨E, 0, none⟩) (lenC (rawC G) + rawN G n) C p n c FE G (fun j hj => by rw [F5.out j hj]; exact HAL.out j hj) (fun j _ => HG.out j) w5 B5.out (HP.out _ L5.out)).mono ?_
     rintro e w6 ⟨rfl, rfl⟩
     rw [show mk (lenC (rawC G) + rawN G n) FE = mk (lenC (rawC G) + rawN G n) (allC (rawC G) (dataF G)) from mk_ext F5.out, HEQ.out]
     clear B5 F5)
  | (with_reducible show wpList _ _ _ (⟨some 37, Op.load cmT _, _, _, _, _⟩ :: _) _ _
     refine wpList_boxA_loadw rowCm _ rfl rfl w2.heap.size (cmA q (rawN G n) (rawN G n) (rawC G)) (cmA_size _ _ _ _) rfl Y5.out ?_)
  | (with_reducible show wpList _ _ _ (⟨_, Op.store cmT (.tmp 2) _, _, _, _, none⟩ :: _) _ _
     refine wpList_boxA_put rowCm rfl _ _ rfl rfl w.heap.size (cmA q (rawN G n) (rawN G n) (rawC G)) _ (cmA_size _ _ _ _) (cmA_one _ _ _ _) (cmA_size _ _ _ _) rfl rfl X5.out ?_
     intro w9 x9 k9 s9
     have X9 := Lib.hid x9
     have L9 := Lib.hid (low_put L5.out (Nat.le_refl _) k9)
     have D9 := Lib.hid (show DatAt w w9 q (rawN G n) (dataF G) from by rcases D5.out with h | ⟨D, h1, h2, h3⟩; exact .inl h; exact .inr ⟨D, h1, (k9.block D h2.lt (DNE.out D h1)).trans h2, h3⟩)
     clear x9 k9 s9 X5 L5))
  exact bodyPost_ret (results_cell_row_tmp rfl _ _ w.heap.size cmT (cmA q (rawN G n) (rawN G n) (rawC G)) (0, 0) _ rfl X9.out Try.underlying26 rfl (by rw [cmA_size]; exact rowCm.size)) rfl ⟨q, rfl, D9.out, L9.out⟩
theorem Decode_any {w : World} {p : Option Addr} {n c : Nat} {G : Nat → Nat} (hp : BytesAt w p n G) (hG : ∀ j, G j < 256) (hc : n ≤ c) :
    Calls Try.prog 17 #[.slice p n c] w fun e w' => (isC n G = true ∧ ∃ q, e = .returned (.tuple #[.agg (cmA q (rawN G n) (rawN G n) (rawC G)), .nilIface]) ∧ DatAt w w' q (rawN G n) (dataF G) ∧ Below w.heap.size w w') ∨ (isC n G = false ∧ e = .returned (.tuple #[.agg (cmA none 0 0 zeroCm), .iface 38 (.int .i64 11)]) ∧ Below w.heap.size w w') := by
  by_cases hl : 2054 < n
  · refine (Decode_long hp hG hc hl).mono fun e w' h => .inr ⟨?_, h⟩
    cases hi : isC n G
    · rfl
    · have := isC_most hi; omega
  · by_cases hb : n < 6 ∨ (((G 0 : Nat) : Int) = 6 ∧ n < 25)
    · refine (Decode_untold hp hG hc (by omega) hb).mono fun e w' h => .inr ⟨isC_no ?_, h⟩
      rintro ⟨h1, h2, -, -⟩
      rcases hb with hb | ⟨hb, hb2⟩
      · omega
      · have := h2 hb; omega
    · have h6 : 6 ≤ n := by omega
      have h25 : ((G 0 : Nat) : Int) = 6 → 25 ≤ n := fun h => by omega
      cases hgd : goodC (rawC G) (rawN G n)
      · refine (Decode_bad hp hG hc (by omega) h6 h25 hgd).mono fun e w' h => .inr ⟨isC_no ?_, h⟩
        rintro ⟨-, -, h3, -⟩
        rw [hgd] at h3; cases h3
      · by_cases heq : mk (lenC (rawC G) + rawN G n) (allC (rawC G) (dataF G)) = mk n G
        · exact (Decode_same hp hG hc (by omega) h6 h25 hgd heq).mono fun e w' h => .inl ⟨isC_parts.2 ⟨h6, h25, hgd, heq⟩, h⟩
        · refine (Decode_other hp hG hc (by omega) h6 h25 hgd heq).mono fun e w' h => .inr ⟨isC_no ?_, h⟩
          rintro ⟨-, -, -, h4⟩
          exact heq h4
end Go.Proofs.Ytkibeddfkenlkaa
