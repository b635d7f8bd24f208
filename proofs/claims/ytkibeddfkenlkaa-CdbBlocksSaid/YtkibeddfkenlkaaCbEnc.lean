/- The contract of the program's Encode: a command's bytes. Conditions: the Data lies in memory. -/
import Derived.Test.YtkibeddfkenlkaaCbEncA
namespace Go.Proofs.Ytkibeddfkenlkaa
open Go.ChangeShapes Go.WideShapes Go.ChangeAt Go.RowKit
set_option linter.unusedVariables false
set_option linter.unusedSimpArgs false
theorem append_any {w : World} (ty : TypeId) {D s : Nat} {F : Nat → Nat} (h : IntBlk w D .u8 5 (mk s F)) (p : Option Addr) (n cap : Nat) (g : Nat → Nat) (hp : BytesAt w p n g) (hk : s + n ≤ 140737488355328) :
    ∃ D' C F' w', (Builtin.append_ #[22, 22] ty #[.slice (some ⟨D, 0, none⟩) s s, .slice p n cap]).run Try.prog w = .ok (.slice (some ⟨D', 0, none⟩) (s + n) C) w' ∧ IntBlk w' D' .u8 5 (mk C F') ∧ (∀ j, j < s + n → F' j = cat s F g j) ∧ s + n ≤ C ∧ (D' = D ∨ D' = w.heap.size) ∧ Below w.heap.size w w' := by
  by_cases h0 : n = 0
  · subst h0
    have hi := byteInfo
    cases hq : Try.prog.info? 5 with
    | none => rw [hq] at hi; simp at hi
    | some i =>
      have hsrc : Src Try.prog i.size 22 (.slice p 0 cap) 0 [] w := by
        cases p with
        | none => exact Src.ofNil w bytesUnder cap
        | some ad => exact Src.ofSlice w bytesUnder ad 0 cap [] (by simp) (fun j u hu => by simp at hu) (fun u hu => by cases hu)
      exact ⟨D, s, F, w, run_append_nothing (P := Try.prog) w 22 22 ty 5 i bytesUnder hq (some ⟨D, 0, none⟩) s s (Nat.le_refl _) (.slice p 0 cap) hsrc, h, fun j hj => by unfold cat; rw [if_pos (by omega)], Nat.le_refl _, .inl rfl, Below.refl _ _⟩
  · obtain ⟨C, w', hr, hb, hC, hl⟩ := append_full ty h p n cap g hp (by omega) hk
    exact ⟨_, C, _, w', hr, hb, fun j hj => by unfold extF; rw [if_pos hj], hC, .inr rfl, hl⟩
/-- Between two rounds: the bytes laid so far, the numbers' row, the command's box. -/
structure EnP (w : World) (A : Array Value) (qn : Option Addr) (l : List (Int × Int)) (k m : Nat) (F : Nat → Nat) (p : Option Addr) (c : Nat) (V : World) : Prop where
  bytes : BytesAt V p m F
  exact_ : 0 < k → ∃ D, p = some ⟨D, 0, none⟩ ∧ c = m ∧ IntBlk V D .u8 5 (mk m F) ∧ w.heap.size ≤ D
  rows : RowsAt 2 regC V qn l
  box : BoxA V w.heap.size cmT A
  low : Below w.heap.size w V
theorem EnP.mono {w V V' : World} {A : Array Value} {qn : Option Addr} {l : List (Int × Int)} {k m c : Nat} {F : Nat → Nat} {p : Option Addr} (h : EnP w A qn l k m F p c V) (hb : Below V.heap.size V V') : EnP w A qn l k m F p c V' :=
  ⟨h.bytes.below hb, fun hk => by obtain ⟨D, h1, h2, h3, h4⟩ := h.exact_ hk; exact ⟨D, h1, h2, h3.below hb h3.lt, h4⟩, RowsAt.below h.rows hb, h.box.keep (hb.block _ h.box.lt), h.low.trans (hb.mono h.low.size)⟩
theorem take_few {x : CmdOf} {n : Nat} (g : GoodC x n) (k : Nat) : (bytesN ((numsC x).take k)).1 ≤ 72 := by
  have h := fold_len ((numsC x).take k) (0, zeroK) (fun p hp => by
    have hs := (nums_ok g p (List.mem_of_mem_take hp)).size
    unfold IsSize at hs; omega)
  have hl : ((numsC x).take k).length ≤ 9 := by
    have h1 := nums_len x
    rw [List.length_take]; omega
  show (((numsC x).take k).foldl stepN (0, zeroK)).1 ≤ 72
  omega
theorem good_few {x : CmdOf} {n : Nat} (g : GoodC x n) : n ≤ 2048 := by
  by_cases h : x.k = 2
  · have := g.data.1 h; omega
  · have := g.data.2 h; omega
attribute [local irreducible] regC intC numsC bytesN stepN cat numF mk extF zeroK regA lenC bytC allC
attribute [local go_sem] Oper.semAt_some
set_option maxRecDepth 100000 in
set_option maxHeartbeats 8000000 in
theorem Encode_ok {w : World} {q : Option Addr} {n c : Nat} {g : Nat → Nat} {x : CmdOf} (hq : BytesAt w q n g) (hg : goodC x n = true) :
    Calls Try.prog 8 #[.agg (cmA q n c x)] w fun e w' => ∃ D C F, e = .returned (.tuple #[.slice (some ⟨D, 0, none⟩) (lenC x + n) C, .nilIface]) ∧ IntBlk w' D .u8 5 (mk C F) ∧ (∀ j, j < lenC x + n → F j = allC x g j) ∧ lenC x + n ≤ C ∧ w.heap.size ≤ D ∧ Below w.heap.size w w' := by
  have HQ := Lib.hid (fun (W : World) (hb : Below w.heap.size w W) => hq.below hb)
  have G := good_iff.1 hg
  have HG := Lib.hid hg
  have HN := Lib.hid (good_few G)
  have HOK := Lib.hid (fun k (hk : k < (numsC x).length) => nat_of (nums_ok G (atR (numsC x) k) (List.mem_of_getElem? (atR_get hk))))
  have HNX := Lib.hid (fun k (hk : k < (numsC x).length) => bytes_next (l := numsC x) hk)
  have HFW := Lib.hid (fun k => take_few G k)
  have HB0 := Lib.hid (show bytesN ((numsC x).take 0) = (0, zeroK) by unfold bytesN; rfl)
  have HBN := Lib.hid (show bytesN ((numsC x).take (numsC x).length) = (lenC x, bytC x) by rw [List.take_of_length_le (Nat.le_refl _)]; unfold lenC bytC; rfl)
  have HLN := Lib.hid (nums_len x)
  have HL0 := Lib.hid (show 0 < (numsC x).length by
    by_cases h6 : x.k = 6
    · rw [nums_six h6, List.length_append]; exact Nat.lt_of_lt_of_le (show 0 < (headC x).length from Nat.succ_pos 3) (Nat.le_add_right _ _)
    · rw [nums_not h6]; exact Nat.succ_pos 3)
  have HAL := Lib.hid (show ∀ j, cat (lenC x) (bytC x) g j = allC x g j by unfold allC; exact fun _ => rfl)
  clear hq hg G
  obtain ⟨N, hN⟩ : ∃ N, (numsC x).length = N := ⟨_, rfl⟩
  have HNN := Lib.hid hN
  rw [hN] at HOK HNX HBN HLN HL0
  clear hN
  go_enter Try.func8, Try.ntmps8
  go_wp2_with (first
  | (with_reducible show wpList _ _ _ (⟨some 1, Op.box cmT _, _, _, _, none⟩ :: _) _ _
     refine wpList_boxA_of rfl _ rfl (cmA q n c x) rfl ?_
     intro w1 x1 l1 s1
     have X1 := Lib.hid x1
     have L1 := Lib.hid l1
     clear x1 l1 s1)
  | (with_reducible show wpList _ _ _ (⟨some 8, Op.load cmT _, _, _, _, _⟩ :: _) _ _
     refine wpList_boxA_loadw rowCm _ rfl rfl w.heap.size (cmA q n c x) rfl rfl X1.out ?_)
  | (go_at_call 26
     refine inForm_any.mono ?_; rintro e w2 ⟨rfl, l2⟩
     rw [HG.out]
     have X2 := Lib.hid (X1.out.keep (l2.block _ X1.out.lt))
     have L2 := Lib.hid (L1.out.trans (l2.mono L1.out.size))
     clear l2 X1 L1)
  | (with_reducible show wpList _ _ _ (⟨some 12, Op.load cmT _, _, _, _, _⟩ :: _) _ _
     refine wpList_boxA_loadw rowCm _ rfl rfl w.heap.size (cmA q n c x) rfl rfl X2.out ?_)
  | (go_at_call 27
     refine numbers_any.mono ?_; rintro e w4 ⟨qn, nn, cn, rfl, on, hb4⟩
     obtain ⟨qq, cc, hv, -, -, hrw, -⟩ := on.rows elemNm.len
     rw [HNN.out] at hv
     cases hv
     have P4 := Lib.hid (show EnP w (cmA q n c x) qn (numsC x) 0 0 zeroK none 0 w4 from ⟨.inl rfl, fun h => absurd h (Nat.lt_irrefl 0), hrw, X2.out.keep (hb4.block _ X2.out.lt), L2.out.trans (hb4.mono L2.out.size)⟩)
     clear on hb4 X2 L2 hrw))
  go_loopw [15, 4] (fun v15 v4 wr => ∃ k : Nat, k ≤ N ∧ v15 = .int .i64 k ∧ ∃ p cc, v4 = .slice p (bytesN ((numsC x).take k)).1 cc ∧ EnP w (cmA q n c x) qn (numsC x) k (bytesN ((numsC x).take k)).1 (bytesN ((numsC x).take k)).2 p cc wr) (fun v15 _ _ => N - (intOf v15).toNat)
  case atStart => exact ⟨0, Nat.zero_le _, rfl, none, 0, by rw [HB0.out], by rw [HB0.out]; exact P4.out⟩
  case round =>
    obtain ⟨k, hk, rfl, p, cp, rfl, hp⟩ := hrel
    have HP := Lib.hid hp
    have HF := Lib.hid (HFW.out k)
    clear hp P4 HFW HB0
    by_cases hlt : k < N
    · have f1 : (k : Int) < (N : Int) := by omega
      have HLT := Lib.hid hlt
      have f3 : IntKind.i64.wrap ((k : Int) + 1) = ((k + 1 : Nat) : Int) := by have := HLN.out; rw [IntWalk.i64_in _ (by omega)]; omega
      obtain ⟨s, z, hsz, hs, hz⟩ := HOK.out k hlt
      have HNX1 := Lib.hid (HNX.out k hlt)
      have HS := Lib.hid hs
      have HZ := Lib.hid hz
      have HAT := Lib.hid hsz
      obtain ⟨QB, qo, rfl, hrg⟩ := rows_get HP.out.rows (k := k) (by rw [HNN.out]; exact hlt)
      rw [hsz] at hrg
      have HRG := Lib.hid hrg
      rw [HAT.out, step_is] at HNX1
      clear hlt hk HOK HNX hsz hs hz hrg HBN HAT
      generalize hbk : bytesN ((numsC x).take k) = bk at *
      obtain ⟨m, F⟩ := bk
      simp only at HNX1 HP HF
      clear hbk
      go_wp2_with (first
      | (with_reducible show wpList _ _ _ (⟨_, Op.indexAddr nmS _ _, _, _, _, none⟩ :: _) _ _
         refine wpList_nm_elem rfl _ _ rfl QB qo N cn k rfl rfl HLT.out ?_)
      | (with_reducible show wpList _ _ _ (⟨_, Op.load nmT _, _, _, _, none⟩ :: _) _ _
         refine wpList_nm_load rfl _ rfl QB (qo + 2 * k) rfl s z HRG.out ?_)
      | (with_reducible show wpList _ _ _ (⟨some 6, Op.alloc nmT, _, _, _, _⟩ :: _) _ _
         refine wpList_boxA_new rowNm rfl rfl wr.heap.size rfl ?_
         intro w5 x5 l5 s5
         have J5 := Lib.hid x5
         have P5 := Lib.hid (HP.out.mono l5)
         have L5 := Lib.hid l5
         clear x5 l5 s5)
      | (with_reducible show wpList _ _ _ (⟨_, Op.store nmT _ _, _, _, _, none⟩ :: _) _ _
         refine wpList_boxA_put rowNm rfl _ _ rfl rfl wr.heap.size (regA (s, z)) (regA (0, 0)) (regA_size _) (regA_one _) (regA_size _) rfl rfl J5.out ?_
         intro w6 x6 k6 s6
         have l6 : Below wr.heap.size wr w6 := L5.out.trans (k6.below L5.out.size (fun j hj e => by omega))
         have P6 := Lib.hid (HP.out.mono l6)
         obtain ⟨d0, d1⟩ := boxNm x6
         clear x6 k6 s6 l6 J5 P5 L5 HP)
      | (go_at_call 28
         refine (Put_ok p m cp F s z HS.out HZ.out (by have := HF.out; omega) w6 P6.out.bytes).mono ?_; rintro e w7 ⟨rfl, hb7, hl7⟩
         have P7 := Lib.hid (show EnP w (cmA q n c x) (some ⟨QB, qo, none⟩) (numsC x) (k + 1) (m + s) (cat m F (numF s z)) (some ⟨w6.heap.size, 0, none⟩) (m + s) w7 from ⟨hb7.bytesAt, fun _ => ⟨_, rfl, rfl, hb7, P6.out.low.size⟩, (P6.out.mono hl7).rows, (P6.out.mono hl7).box, (P6.out.mono hl7).low⟩)
         clear hb7 hl7 P6 d0 d1))
      go_roundw
      case rel => exact ⟨k + 1, HLT.out, by go_num, some ⟨w6.heap.size, 0, none⟩, m + s, by rw [HNX1.out], by rw [HNX1.out]; exact P7.out⟩
      case measure => have := HLT.out; simp [intOf]; omega
    · have f3 : ¬ (k : Int) < (N : Int) := by omega
      obtain rfl : k = N := by omega
      clear hlt hk HOK HNX
      rw [HBN.out] at HP HF ⊢
      obtain ⟨D, rfl, rfl, hD, hDw⟩ := HP.out.exact_ HL0.out
      have HD := Lib.hid hD
      have HDW := Lib.hid hDw
      obtain ⟨c0, c1, c2, c3, c4, c10⟩ := boxCm HP.out.box
      obtain ⟨D', C, F', w9, hr, hb, hf, hC, hd, hl⟩ := append_any 22 HD.out q n c g (HQ.out _ HP.out.low) (by have h1 := HF.out; have h2 := HN.out; simp only at h1; omega)
      have HR := Lib.hid hr
      have HB := Lib.hid hb
      have HFF := Lib.hid hf
      have HC := Lib.hid hC
      have HDD := Lib.hid hd
      have HL := Lib.hid (HP.out.low.trans (hl.mono HP.out.low.size))
      have HLS := Lib.hid HP.out.low.size
      clear hr hb hf hC hd hl hD hDw HP
      go_wp2_with (first
      | (at_builtin
         refine wpList_append rfl _ _ _ _ rfl _ _ rfl rfl _ _ HR.out ?_))
      go_ret2
      exact ⟨D', C, rfl, F', HB.out, fun j hj => (HFF.out j hj).trans (HAL.out j), HC.out, by rcases HDD.out with h | h <;> rw [h]; exact HDW.out; exact HLS.out, HL.out⟩
set_option maxRecDepth 100000 in
set_option maxHeartbeats 8000000 in
theorem Encode_no {w : World} {q : Option Addr} {n c : Nat} {x : CmdOf} (hg : goodC x n = false) :
    Calls Try.prog 8 #[.agg (cmA q n c x)] w fun e w' => e = .returned (.tuple #[.slice none 0 0, .iface 38 (.int .i64 11)]) ∧ Below w.heap.size w w' := by
  have HG := Lib.hid hg
  clear hg
  go_enter Try.func8, Try.ntmps8
  go_wp2_with (first
  | (with_reducible show wpList _ _ _ (⟨some 1, Op.box cmT _, _, _, _, none⟩ :: _) _ _
     refine wpList_boxA_of rfl _ rfl (cmA q n c x) rfl ?_
     intro w1 x1 l1 s1
     have X1 := Lib.hid x1
     have L1 := Lib.hid l1
     clear x1 l1 s1)
  | (with_reducible show wpList _ _ _ (⟨some 8, Op.load cmT _, _, _, _, _⟩ :: _) _ _
     refine wpList_boxA_loadw rowCm _ rfl rfl w.heap.size (cmA q n c x) rfl rfl X1.out ?_)
  | (go_at_call 26
     refine inForm_any.mono ?_; rintro e w2 ⟨rfl, l2⟩
     rw [HG.out]
     have L2 := Lib.hid (L1.out.trans (l2.mono L1.out.size))
     clear l2 X1 L1))
  go_ret2
  exact ⟨rfl, L2.out⟩
end Go.Proofs.Ytkibeddfkenlkaa
