/- The contracts of package vault's said and TakeHead. Conditions: the package's variable holds the constants; the key has no more than 80,000 bytes; a sector is 128 bytes. -/
import Derived.Test.YtghdeedglekphaaDoorVtHeadR
import Derived.Test.YtghdeedglekphaaDoorTrEq
namespace Go.Proofs.YtghdeedglekphaaDoor
open Go.ChangeShapes Go.WideShapes Go.ChangeAt Go.RowKit
set_option linter.unusedVariables false
/-! ### A head whose first bytes are laid -/
def hdK (z : Int) (m : Nat) (f : Nat → Nat) : List Value := headC z (mk 88 (fTo m f))
theorem hdK_len (z : Int) (m : Nat) (f : Nat → Nat) : (hdK z m f).length = 89 := headC_len _ _
theorem hdK_zero (z : Int) (f : Nat → Nat) : headC z noRow = hdK z 0 f := by
  unfold hdK
  rw [show mk 88 (fTo 0 f) = noRow from mk_ext fun j hj => by unfold fTo zeroK; rw [if_neg (by omega)]]
theorem hdK_all (z : Int) (s : List Int) : hdK z 88 (fun j => natF s (8 + j)) = headC z (takeP s) := by
  unfold hdK takeP
  rw [show mk 88 (fTo 88 fun j => natF s (8 + j)) = mk 88 fun j => natF s (8 + j) from mk_ext fun j hj => by unfold fTo; rw [if_pos hj]]
theorem hdK_count (z0 z : Int) : (headC z0 noRow).set 0 (.int .i64 z) = headC z noRow := by unfold headC; rfl
theorem hdK_over {w : World} {B : Nat} {z : Int} {m n : Nat} {f : Nat → Nat} (h : CellB w B (hdK z m f)) (hn : m + n ≤ 88) : CellB (w.setCells B (1 + m) (bytC n fun j => f (m + j))) B (hdK z (m + n) f) := by
  refine h.over (by rw [bytC_len, hdK_len]; omega) fun j v hv => ?_
  rw [bytC_len]
  unfold hdK at hv ⊢
  rcases headC_is hv with ⟨rfl, rfl⟩ | ⟨h1, h2, rfl⟩
  · exact ⟨fun hj => by omega, fun _ => headC_count _ _⟩
  · have e1 : natF (mk 88 (fTo (m + n) f)) (j - 1) = fTo (m + n) f (j - 1) := natF_mk (by omega)
    refine ⟨fun hj => ?_, fun hj => ?_⟩
    · rw [bytC_get _ (show j - (1 + m) < n by omega), e1]
      unfold fTo
      rw [if_pos (by omega), show m + (j - (1 + m)) = j - 1 by omega]
    · have := headC_get z (mk 88 (fTo m f)) (show j - 1 < 88 by omega)
      rw [show 1 + (j - 1) = j by omega] at this
      rw [this, e1, natF_mk (show j - 1 < 88 by omega)]
      have e2 : fTo m f (j - 1) = fTo (m + n) f (j - 1) := by
        unfold fTo
        by_cases hl : j - 1 < m
        · rw [if_pos hl, if_pos (by omega)]
        · rw [if_neg hl, if_neg (by omega)]
      rw [e2]
section
variable {ops : Array Oper} {rest : List Oper} {o : Oper} {a : Act} {w : World} {Q : Exit → Act → World → Prop}
theorem wpList_copy_head (hgd : o.guard = none) (d s : Operand) (ho : o.op = .call { callee := .builtin .copy, args := #[d, s], argTypes := #[22, 22] }) (B off m n dCap : Nat) (hoff : off = 1 + m) (hd : a.eval d = .slice (some ⟨B, off, none⟩) n dCap) (D o' sn cap : Nat) (hs : a.eval s = .slice (some ⟨D, o', none⟩) sn cap) (hsn : n ≤ sn) (z : Int) (f : Nat → Nat) (hB : CellB w B (hdK z m f)) (hc : ∀ i, i < n → w.cell? ⟨D, o' + i, none⟩ = some (.int .u8 (f (m + i) : Nat))) (hn : m + n ≤ 88)
    (h : ∀ w', CellB w' B (hdK z (m + n) f) → But B w w' → w'.heap.size = w.heap.size → wpList Tryd.prog ops Q rest (a.put o.dst (.int .i64 n)) w') : wpList Tryd.prog ops Q (o :: rest) a w := by
  subst hoff
  refine wpList_copy_cells hgd d s ho B (1 + m) n dCap hd D o' sn cap hs n (Nat.min_eq_right hsn) (fun j => f (m + j)) hc (hB.there (by rw [hdK_len]; omega)) ?_
  exact h _ (hdK_over hB hn) (but_setCells B _ _ w) (size_setCells B _ _ w)
end
theorem cell_bytes_at {w : World} {B : Nat} {s : List Int} (h : CellB w B (secC s)) : BytesAt w (some ⟨B, 0, none⟩) 128 (natF s) := bytes_of_range h.row h.lt
attribute [local irreducible] nought tauK sumVal sumC secVal secC headV headC bytC rootsV rootK restK txtK hdT hdL numL noSec noRow fTo hdK takeP countL
set_option maxRecDepth 100000 in
set_option maxHeartbeats 4000000 in
theorem said_any (s : List Int) (hsec : IsSec s) (w : World) :
    Calls Tryd.prog 16 #[secVal s] w fun e w' => e = .returned (.tuple #[headV (countL s) (takeP s), .nilIface]) ∧ Below w.heap.size w w' := by
  have TK := Lib.hid (fun (W : World) B (h : CellB W B (secC s)) => Take_ok (some ⟨B, 0, none⟩) 128 128 (natF s) (fun i _ => natF_lt hsec.2 i) 8 (.inr (.inr (.inr rfl))) (by decide) (by decide) (by decide) W (cell_bytes_at h))
  have CE := Lib.hid (show IntKind.i64.wrap (valN 8 (natF s) : Nat) = countL s by unfold countL; rfl)
  have HZ := Lib.hid (hdK_zero (countL s) fun j => natF s (8 + j)); have HA := Lib.hid (hdK_all (countL s) s); have HC := Lib.hid (hdK_count 0 (countL s))
  have HL := Lib.hid (headC_len 0 noRow)
  clear hsec
  generalize hS : w.heap.size = S at *
  have HS := Lib.hid hS
  clear hS
  go_enter Tryd.func16, Tryd.ntmps16
  go_wp2_with (first
    | (refine wpList_cell_boxed rfl _ rfl s rfl S HS.out ?_; intro w1 hx hb hs
       have C1 := Lib.hid hx; have B1 := Lib.hid hb; have S1 := Lib.hid hs; clear hx hb hs)
    | (refine wpList_head_alloc rfl rfl (S + 1) S1.out ?_; intro w2 hx hb hs
       have C2 := Lib.hid (C1.out.belowM hb (by omega)); have R2 := Lib.hid hx; have B2 := Lib.hid (B1.out.trans (hb.mono (by omega))); have S2 := Lib.hid hs
       clear hx hb hs C1 B1 S1)
    | (refine wpList_head_alloc rfl rfl (S + 2) S2.out ?_; intro w3 hx hb hs
       have C3 := Lib.hid (C2.out.belowM hb (by omega)); have R3 := Lib.hid (R2.out.belowM hb (by omega)); have H3 := Lib.hid hx; have B3 := Lib.hid (B2.out.trans (hb.mono (by omega))); have S3 := Lib.hid (show w3.heap.size = S + 3 from hs)
       clear hx hb hs C2 R2 B2 S2)
    | (refine wpList_arr_slice rfl 30 5 128 secUnd rfl _ rfl S 0 rfl ?_)
    | (go_at_call 35; refine (TK.out w3 S C3.out).mono ?_; rintro e w4 ⟨D, rfl, hr, hD, hb⟩
       rw [CE.out]
       have T4 := Lib.hid (show ∀ i, i < 120 → w4.cell? ⟨D, i, none⟩ = some (.int .u8 (natF s (8 + i) : Nat)) from fun i hi => by
         have := hr.bytesAt
         rcases this with h0 | ⟨B', o', e0, _, hc⟩
         · exact absurd h0 (by decide)
         · cases e0
           have := hc i hi
           rwa [Nat.zero_add] at this)
       have D4 := Lib.hid (show S + 3 ≤ D by rw [S3.out] at hD; exact hD)
       have R4 := Lib.hid (R3.out.below hb); have H4 := Lib.hid (H3.out.below hb); have B4 := Lib.hid (B3.out.trans (hb.mono (by rw [S3.out]; omega)))
       clear hr hD hb C3 R3 H3 B3 S3 TK)
    | (refine wpList_int_put rfl _ _ rfl rfl (S + 2) 0 rfl (countL s) rfl _ H4.out (by rw [HL.out]; decide) ?_; intro w5 hx hb hs
       rw [HC.out, HZ.out] at hx
       have H5 := Lib.hid hx; have R5 := Lib.hid (R4.out.but hb (by omega)); have B5 := Lib.hid (B4.out.trans (hb.below (by omega) (HS.out ▸ B4.out.size)))
       have T5 := Lib.hid (show ∀ i, i < 120 → w5.cell? ⟨D, i, none⟩ = some (.int .u8 (natF s (8 + i) : Nat)) from fun i hi => by
         rw [World.cell?_of_block (w := w4) (w' := w5) (a := ⟨D, i, none⟩) (hb.same D (block_lt_of_cell (T4.out i hi)) (by have := D4.out; omega))]; exact T4.out i hi)
       clear hx hb hs H4 R4 B4 T4))
  go_loopw [6, 22] (fun v6 v22 wr => ∃ k : Nat, k ≤ 2 ∧ v22 = .int .i64 k ∧ v6 = .slice (some ⟨D, 32 * k, none⟩) (120 - 32 * k : Nat) (120 - 32 * k : Nat) ∧ CellB wr (S + 2) (hdK (countL s) (32 * k) fun j => natF s (8 + j)) ∧ CellB wr (S + 1) (headC 0 noRow) ∧ (∀ i, i < 120 → wr.cell? ⟨D, i, none⟩ = some (.int .u8 (natF s (8 + i) : Nat))) ∧ Below S w wr) (fun _ v22 _ => 2 - (intOf v22).toNat)
  case atStart => exact ⟨0, by omega, rfl, rfl, H5.out, R5.out, T5.out, B5.out⟩
  case round =>
    obtain ⟨k, hk2, rfl, rfl, hh, hr, ht, hb⟩ := hrel
    have HH := Lib.hid hh; have RR := Lib.hid hr; have TT := Lib.hid ht; have BB := Lib.hid hb
    clear hh hr ht hb H5 R5 T5 B5
    by_cases hlt : k < 2
    · have f1 : (k : Int) < 2 := by omega
      have f2 : (0 : Int) ≤ k := by omega
      have f3 : IntKind.i64.wrap ((k : Int) + 1) = ((k + 1 : Nat) : Int) := by rw [IntWalk.i64_in _ (by omega)]; omega
      have HLT := Lib.hid hlt
      go_wp2_with (first
        | (refine wpList_roots_addr rfl _ _ rfl (S + 2) 1 k rfl rfl HLT.out ?_)
        | (refine wpList_sum_row rfl _ rfl (S + 2) (1 + 32 * k) rfl ?_)
        | (refine wpList_copy_head rfl _ _ rfl (S + 2) (1 + 32 * k) (32 * k) 32 32 rfl rfl D (32 * k) (120 - 32 * k) (120 - 32 * k) rfl (by have := HLT.out; omega) (countL s) (fun j => natF s (8 + j)) HH.out (fun i hi => TT.out (32 * k + i) (by have := HLT.out; omega)) (by have := HLT.out; omega) ?_; intro w2 hx hb hs
           rw [show 32 * k + 32 = 32 * (k + 1) by omega] at hx
           have H2 := Lib.hid hx; have R2 := Lib.hid (RR.out.but hb (by omega)); have B2 := Lib.hid (BB.out.trans (hb.below (by omega) (HS.out ▸ BB.out.size)))
           have T2 := Lib.hid (show ∀ i, i < 120 → w2.cell? ⟨D, i, none⟩ = some (.int .u8 (natF s (8 + i) : Nat)) from fun i hi => by
             rw [World.cell?_of_block (w := wr) (w' := w2) (a := ⟨D, i, none⟩) (hb.same D (block_lt_of_cell (TT.out i hi)) (by have := D4.out; omega))]; exact TT.out i hi)
           clear hx hb hs HH RR BB TT)
        | (refine wpList_tail rfl _ _ rfl (some ⟨D, 32 * k, none⟩) (120 - 32 * k) (120 - 32 * k) 32 32 rfl rfl rfl (by have := HLT.out; omega) (Nat.le_refl _) ?_; intro p' _ hp'; rw [hp' _ (32 * k) (32 * k + 32) rfl rfl (by have := HLT.out; omega)]; clear hp'))
      go_roundw
      case rel => exact ⟨k + 1, HLT.out, by go_num, by rw [show 32 * (k + 1) = 32 * k + 32 by omega, show 120 - (32 * k + 32) = 120 - 32 * k - 32 by omega], H2.out, R2.out, T2.out, B2.out⟩
      case measure => have := HLT.out; simp [intOf]; omega
    · obtain rfl : k = 2 := by omega
      have f1 : ¬ ((2 : Nat) : Int) < 2 := by omega
      go_wp2_with (first
        | (refine wpList_arr_slice rfl 26 5 24 Tryd.underlying26 rfl _ rfl (S + 2) 65 rfl ?_)
        | (refine wpList_copy_head rfl _ _ rfl (S + 2) 65 64 24 24 rfl rfl D 64 56 56 rfl (by decide) (countL s) (fun j => natF s (8 + j)) HH.out (fun i hi => TT.out (64 + i) (by omega)) (by decide) ?_; intro w2 hx hb hs
           rw [show 64 + 24 = 88 from rfl, HA.out] at hx
           have H2 := Lib.hid hx; have R2 := Lib.hid (RR.out.but hb (by omega)); have B2 := Lib.hid (BB.out.trans (hb.below (by omega) (HS.out ▸ BB.out.size)))
           clear hx hb hs HH RR BB TT)
        | (refine wpList_head_load rfl _ rfl (S + 2) rfl (countL s) (takeP s) H2.out.row ?_)
        | (refine wpList_head_store rfl _ _ rfl rfl (S + 1) rfl (countL s) (takeP s) rfl 0 noRow R2.out ?_; intro w3 hx hb hs
           have R3 := Lib.hid hx; have B3 := Lib.hid (B2.out.trans (hb.below (by omega) (HS.out ▸ B2.out.size)))
           clear hx hb hs R2 B2))
      exact bodyPost_ret (results_head_tmp1 rfl _ _ (S + 1) (countL s) (takeP s) rfl R3.out) rfl ⟨rfl, B3.out⟩
end Go.Proofs.YtghdeedglekphaaDoor
