/- The contract of citadelref12's Slot. Conditions: the key's bytes are bytes; a unit's keys are 64 bytes. -/
import Derived.Test.YtghdeedglekphaaVsTake
namespace Go.Proofs.Ytghdeedglekphaa
open Go.ChangeShapes Go.WideShapes Go.ChangeAt Go.RowKit
set_option linter.unusedVariables false
theorem CellB.put {w : World} {B : Nat} {cs : List Value} (h : CellB w B cs) {k : Nat} (hk : k < cs.length) (v : Value) : CellB (w.setCell ⟨B, k, none⟩ v) B (cs.set k v) := by
  have := h.over (off := k) (vs := [v]) (ds := cs.set k v) (by simp only [List.length_cons, List.length_nil]; omega) fun j u hu => by
    rw [List.getElem?_set] at hu
    by_cases e : k = j
    · subst e
      rw [if_pos rfl, if_pos hk] at hu
      cases hu
      refine ⟨fun _ => by rw [Nat.sub_self]; rfl, fun hj => ?_⟩
      simp only [List.length_cons, List.length_nil] at hj; omega
    · rw [if_neg e] at hu
      exact ⟨fun hj => by simp only [List.length_cons, List.length_nil] at hj; omega, fun _ => hu⟩
  exact this
theorem CellB.free {w : World} {B : Nat} {cs : List Value} (h : CellB w B cs) {k : Nat} (hk : k < cs.length) : w.frozen? ⟨B, k, none⟩ = false := by
  have := (h.there (off := k) (n := 1) (by omega) 0 (by omega)).2
  exact this
theorem size_setC (W : World) (a : Addr) (x : Value) : (W.setCell a x).heap.size = W.heap.size := by simp [World.setCell]
section
variable {ops : Array Oper} {rest : List Oper} {o : Oper} {a : Act} {w : World} {Q : Exit → Act → World → Prop}
theorem wpList_byte_put (hgd : o.guard = none) (x y : Operand) (ho : o.op = .store 5 x y) (hd : o.dst = none) (B k : Nat) (hx : a.eval x = .pointer (some ⟨B, k, none⟩)) (b : Int) (hy : a.eval y = .int .u8 b) (cs : List Value) (hl : CellB w B cs) (hk : k < cs.length)
    (h : ∀ w', CellB w' B (cs.set k (.int .u8 b)) → But B w w' → w'.heap.size = w.heap.size → wpList Try.prog ops Q rest a w') : wpList Try.prog ops Q (o :: rest) a w :=
  wpList_plain hgd fun K hK => by
    have c1 := hl.cell (List.getElem?_eq_getElem hk); have f1 := hl.free hk
    have h2 := h (w.setCell ⟨B, k, none⟩ (.int .u8 b)) (hl.put hk _) (But.setCell B k w _) (size_setC _ _ _)
    unfold Oper.wp execOp
    simp only [ho, hx, hy]
    simp [go_sem, c1, f1]
    refine hK _ _ ?_
    simpa [hd] using h2
end
theorem bytC_put {n k : Nat} (g : Nat → Nat) (hk : k < n) : (bytC n (fTo k g)).set k (.int .u8 (g k : Nat)) = bytC n (fTo (k + 1) g) := by
  apply List.ext_getElem?
  intro i
  rw [List.getElem?_set]
  by_cases hi : i < n
  · by_cases e : k = i
    · subst e
      rw [if_pos rfl, if_pos (by rw [bytC_len]; exact hk), bytC_get _ hk]
      unfold fTo; rw [if_pos (by omega)]
    · rw [if_neg e, bytC_get _ hi, bytC_get _ hi]
      have : fTo k g i = fTo (k + 1) g i := by
        unfold fTo
        by_cases h : i < k
        · rw [if_pos h, if_pos (by omega)]
        · rw [if_neg h, if_neg (by omega)]
      rw [this]
  · rw [if_neg (by omega), List.getElem?_eq_none (by rw [bytC_len]; omega), List.getElem?_eq_none (by rw [bytC_len]; omega)]

theorem done_list0' {α : Type} {P : Program} {o : Oper} {a : Act} {w : World} {K : Value → World → Prop} {t e : TypeId} {sz by' : Nat} {C : α → List Value} (E : ElemOf P t e sz by' C) (ho : o.op = .buildSlice t 0 #[]) (h : K (.slice (some ⟨w.heap.size, 0, none⟩) 0 0) (w.alloc (.cells #[] e))) : doneAt P o a w K := by
  have hr := run_list0 E w
  unfold doneAt execOp
  simp only [ho]
  simp [hr]
  exact h
theorem secC_pad (n : Nat) (hn : n ≤ 128) (g : Nat → Nat) : bytC 128 (fTo n g) = secC (padF n g) := bytC_ext fun j hj => by
  unfold padF
  rw [natF_mk hj]; rfl
theorem secC_none (g : Nat → Nat) : secC noSec = bytC 128 (fTo 0 g) := by
  rw [bytC_zero]
  exact bytC_ext fun j hj => natF_mk hj
attribute [local irreducible] nought sumVal sumC secVal secC bytC noSec fTo keyC keyV noKeys padF halfK accK wrpN unwN rkS sameS txt
set_option maxRecDepth 100000 in
set_option maxHeartbeats 4000000 in
theorem refSlot_ok (kp : Option Addr) (n kc N : Nat) (g : Nat → Nat) (hn : n = 4 * N) (hN : N = 4 ∨ N = 8) (hcap : n ≤ kc) (hg : ∀ i, i < n → g i < 256) (U : List Int) (hU : IsU U) (w : World) (hk : BytesAt w kp n g) :
    Calls Try.prog 8 #[.slice kp n kc, keyV U] w fun e w' => e = .returned (.tuple #[secVal (padF 72 (wrpN (rkS N g) (N + 7) 8 (natF U))), .int .i64 0]) ∧ Below w.heap.size w w' := by
  have WR := Lib.hid (fun q c (W : World) (h : Below w.heap.size w W) hq => refWrap_ok kp n kc N g q 64 c 8 (natF U) hn hN hg rfl (by decide) (by decide) (fun i _ => natF_lt hU.2 i) W (hk.below h) hq)
  generalize wrpN (rkS N g) (N + 7) 8 (natF U) = F at *
  have PE := Lib.hid (secC_pad 72 (by decide) F)
  have PN := Lib.hid (secC_none F)
  have PP := Lib.hid (fun k (h : k < 128) => bytC_put (n := 128) F h)
  have PL := Lib.hid (fun f => bytC_len 128 f)
  have HH := Lib.hid (halves hU)
  have HA := Lib.hid (fun (W : World) B h k hk => half_at (w := W) (B := B) hU.2 h (k := k) hk)
  have HL := Lib.hid (halfK_len U)
  have UB := Lib.hid (fun (W : World) q h => u_bytes (w := W) (q := q) hU h)
  have UL := Lib.hid hU.1
  clear hU hn hN hcap hg hk
  generalize hS : w.heap.size = S at *
  have HS := Lib.hid hS
  clear hS
  go_enter Try.func8, Try.ntmps8
  go_wp2_with (first
    | (refine wpList_ukey_box rfl _ rfl U rfl S HS.out ?_; intro w1 hx hb hs
       have K1 := Lib.hid hx; have B1 := Lib.hid hb; have S1 := Lib.hid hs; clear hx hb hs)
    | (refine wpList_cell_alloc rfl rfl (S + 1) S1.out ?_; intro w2 hx hb hs
       have K2 := Lib.hid (K1.out.belowM hb (by omega)); have R2 := Lib.hid hx; have B2 := Lib.hid (B1.out.trans (hb.mono (by omega))); have S2 := Lib.hid (show S + 2 ≤ w2.heap.size by omega); clear hx hb hs K1 B1 S1))
  have hb4 : Below w2.heap.size w2 w2.drew := (Below.refl _ _).drew
  have K3 := Lib.hid (K2.out.below hb4); have R3 := Lib.hid (R2.out.below hb4); have B3 := Lib.hid (B2.out.trans (hb4.mono (HS.out ▸ B2.out.size))); have S3 := Lib.hid (Nat.le_trans S2.out hb4.size)
  clear hb4 K2 R2 B2 S2
  refine wp_region_sched [(0, true), (2, true), (3, true), (5, true), (6, true), (1, false), (4, false), (7, false), (8, false), (9, true), (10, true), (11, true), (12, true), (13, true)] (fun W => True) (by kernel_rfl) (by kernel_rfl) trivial ?_
  refine walk_float rfl rfl (fun K' hK => ?_)
  refine gives_move _ rfl ?_
  go_simp
  refine hK _ ?_
  clear hK K'
  refine walk_float rfl rfl (fun K' hK => ?_)
  refine gives_ukey_field _ 0 rfl (by decide) S 0 rfl rfl ?_
  go_simp
  refine hK _ ?_
  clear hK K'
  refine walk_float rfl rfl (fun K' hK => ?_)
  refine gives_arr_slice 25 5 32 arr32Und rfl _ rfl S 0 rfl ?_
  go_simp
  refine hK _ ?_
  clear hK K'
  refine walk_float rfl rfl (fun K' hK => ?_)
  refine gives_ukey_field _ 1 rfl (by decide) S 32 rfl rfl ?_
  go_simp
  refine hK _ ?_
  clear hK K'
  refine walk_float rfl rfl (fun K' hK => ?_)
  refine gives_arr_slice 25 5 32 arr32Und rfl _ rfl S 32 rfl ?_
  go_simp
  refine hK _ ?_
  clear hK K'
  refine walk_done rfl rfl (fun K' hK => ?_)
  refine done_list0' elemByte rfl ?_
  have O5 := Lib.hid (OwnL.empty 5 1 byteC w2.drew w2.drew.heap.size (Nat.le_refl _))
  have hb : Below w2.drew.heap.size w2.drew (w2.drew.alloc (.cells #[] 5)) := (Below.refl _ _).alloc (Nat.le_refl _) _
  have Z5 := Lib.hid (show (w2.drew.alloc (.cells #[] 5)).heap.size = w2.drew.heap.size + 1 from World.size_alloc _ _)
  generalize w2.drew.alloc (.cells #[] 5) = w5 at *
  have K5 := Lib.hid (K3.out.below hb); have R5 := Lib.hid (R3.out.below hb); have B5 := Lib.hid (B3.out.trans (hb.mono (HS.out ▸ B3.out.size)))
  clear hb K3 R3 B3
  generalize w2.drew.heap.size = E at *
  refine ⟨trivial, ?_⟩
  go_simp
  refine hK _ _ ?_
  clear hK K'
  refine walk_done rfl rfl (fun K' hK => ?_)
  refine done_append_list elemByte _ _ rfl E w5.heap.size _ [] (halfK U 0) (some ⟨S, 0, none⟩) 32 32 rfl rfl (HL.out 0).symm (Z5.out ▸ O5.out) (by have := HA.out w5 S K5.out 0 (by decide); rwa [Nat.mul_zero] at this) (by rw [HL.out]; decide) (by decide) (by rw [Z5.out]; omega) ?_
  intro v6 w6 ho hg _
  have hb := below_own1 hg (Z5.out ▸ O5.out).block (by rw [Z5.out]; omega)
  clear hg
  rw [List.nil_append] at ho
  have O6 := Lib.hid ho; have K6 := Lib.hid (K5.out.belowM hb (by have := S3.out; omega)); have R6 := Lib.hid (R5.out.belowM hb (by have := S3.out; omega)); have B6 := Lib.hid (B5.out.trans (hb.mono (by have := S3.out; omega))); have Z6 := Lib.hid (Nat.le_trans (by rw [Z5.out]; omega : E ≤ w5.heap.size) hb.size)
  clear ho hb O5 K5 R5 B5 Z5
  refine ⟨trivial, ?_⟩
  go_simp
  refine hK _ _ ?_
  clear hK K'
  refine walk_done rfl rfl (fun K' hK => ?_)
  refine done_append_list elemByte _ _ rfl E w6.heap.size v6 (halfK U 0) (halfK U 1) (some ⟨S, 32, none⟩) 32 32 rfl rfl (HL.out 1).symm O6.out (HA.out w6 S K6.out 1 (by decide)) (by rw [HL.out, HL.out]; decide) (by decide) Z6.out ?_
  intro v7 w7 ho hg _
  have hb := below_own1 hg O6.out.block Z6.out
  clear hg
  rw [HH.out] at ho
  obtain ⟨p7, c7, rfl, -, -, hr7, -⟩ := ho.rows elemByte.len
  rw [UL.out]
  have Q7 := Lib.hid (UB.out w7 p7 hr7); have R7 := Lib.hid (R6.out.belowM hb (by have := S3.out; omega)); have B7 := Lib.hid (B6.out.trans (hb.mono (by have := S3.out; omega))); have Z7 := Lib.hid (show S + 2 ≤ w7.heap.size by have h1 := S3.out; have h2 := Z6.out; have h3 := hb.size; omega)
  clear ho hb hr7 O6 K6 R6 B6 Z6 S3
  refine ⟨trivial, ?_⟩
  go_simp
  refine hK _ _ ?_
  clear hK K'
  refine walk_done rfl rfl (fun K' hK => ?_)
  refine done_two' _ _ _ _ rfl 18 rfl (.slice kp n kc) (.slice p7 64 c7) rfl rfl (fun _ w => by simp [go_sem]) ((WR.out p7 c7 w7 (HS.out.symm ▸ B7.out) Q7.out).mono ?_)
  rintro e w8 ⟨q8, c8, rfl, hr, hc, -, hb⟩
  have Q8 := Lib.hid hr; have C8 := Lib.hid hc; have R8 := Lib.hid (R7.out.below hb); have B8 := Lib.hid (B7.out.trans (hb.mono (HS.out ▸ B7.out.size))); have Z8 := Lib.hid (Nat.le_trans Z7.out hb.size)
  clear hr hc hb Q7 R7 B7 WR Z7
  refine ⟨_, rfl, trivial, ?_⟩
  go_simp
  refine hK _ _ ?_
  clear hK K'
  refine walk_float rfl rfl (fun K' hK => ?_)
  refine gives_move _ rfl ?_
  go_simp
  refine hK _ ?_
  clear hK K'
  refine walk_float rfl rfl (fun K' hK => ?_)
  refine gives_extract _ 0 rfl #[.slice q8 72 c8, .int .i64 0] (.slice q8 72 c8) rfl rfl ?_
  go_simp
  refine hK _ ?_
  clear hK K'
  refine walk_float rfl rfl (fun K' hK => ?_)
  refine gives_extract _ 1 rfl #[.slice q8 72 c8, .int .i64 0] (.int .i64 0) rfl rfl ?_
  go_simp
  refine hK _ ?_
  clear hK K'
  refine walk_float rfl rfl (fun K' hK => ?_)
  refine gives_assign _ rfl ?_
  go_simp
  refine hK _ ?_
  clear hK K'
  refine walk_float rfl rfl (fun K' hK => ?_)
  refine gives_assign _ rfl ?_
  go_simp
  refine hK _ ?_
  clear hK K'
  refine walk_nil ?_
  go_wp2_with (first
    | (refine wpList_cell_alloc rfl rfl w8.heap.size rfl ?_; intro w9 hx hb hs
       rw [PN.out] at hx
       have Q9 := Lib.hid (Q8.out.below hb); have Y9 := Lib.hid hx; have R9 := Lib.hid (R8.out.below hb); have B9 := Lib.hid (B8.out.trans (hb.mono (HS.out ▸ B8.out.size))); have F9 := Lib.hid (show S + 2 ≤ w8.heap.size from Z8.out)
       have L9 := Lib.hid (show ∀ B o, q8 = some ⟨B, o, none⟩ → B < w8.heap.size ∨ False from fun B o h => by
         rcases Q8.out with h0 | ⟨B', o', e, hB, _⟩
         · exact absurd h0 (by decide)
         · rw [h] at e; cases e; exact .inl hB)
       clear hx hb hs Q8 R8 B8 Z8
       generalize w8.heap.size = Y at *))
  obtain ⟨E8, o8, rfl, hE8, hc8⟩ := bytesAt_some Q9.out (by decide)
  have EY := Lib.hid (show E8 < Y from (L9.out E8 o8 rfl).elim id False.elim)
  have EC := Lib.hid hc8
  clear Q9 L9 hE8 hc8
  go_loopw [9] (fun v9 wr => ∃ k : Nat, k ≤ 72 ∧ v9 = .int .i64 k ∧ CellB wr Y (bytC 128 (fTo k F)) ∧ (∀ i, i < 72 → wr.cell? ⟨E8, o8 + i, none⟩ = some (.int .u8 (F i : Nat))) ∧ CellB wr (S + 1) (secC noSec) ∧ Below S w wr) (fun v9 _ => 72 - (intOf v9).toNat)
  case atStart => exact ⟨0, by omega, rfl, Y9.out, EC.out, R9.out, B9.out⟩
  case round =>
    obtain ⟨k, hk2, rfl, hy, he, hr, hb⟩ := hrel
    have YY := Lib.hid hy; have EE := Lib.hid he; have RR := Lib.hid hr; have BB := Lib.hid hb
    clear hy he hr hb Y9 EC R9 B9
    by_cases hlt : k < 72
    · have f1 : (k : Int) < 72 := by omega
      have f2 : (0 : Int) ≤ k := by omega
      have f5 : (k : Int) < 128 := by omega
      have f3 : IntKind.i64.wrap ((k : Int) + 1) = ((k + 1 : Nat) : Int) := by rw [IntWalk.i64_in _ (by omega)]; omega
      have HLT := Lib.hid hlt
      have cs := EE.out k hlt
      have PPK := Lib.hid (PP.out k (by omega))
      clear hlt PP
      go_wp2_with (first
        | (refine wpList_byte_put rfl _ _ rfl rfl Y k rfl (F k : Nat) rfl _ YY.out (by rw [PL.out]; have := HLT.out; omega) ?_; intro w2 hx hb hs
           rw [PPK.out] at hx
           have Y2 := Lib.hid hx; have R2 := Lib.hid (RR.out.but hb (by have := F9.out; omega)); have B2 := Lib.hid (BB.out.trans (hb.below (by have := F9.out; omega) (HS.out ▸ BB.out.size)))
           have E2 := Lib.hid (show ∀ i, i < 72 → w2.cell? ⟨E8, o8 + i, none⟩ = some (.int .u8 (F i : Nat)) from fun i hi => by
             rw [World.cell?_of_block (w := wr) (w' := w2) (a := ⟨E8, o8 + i, none⟩) (hb.same E8 (block_lt_of_cell (EE.out i hi)) (by have := EY.out; omega))]; exact EE.out i hi)
           clear hx hb hs cs))
      go_roundw
      case rel => exact ⟨k + 1, HLT.out, by go_num, Y2.out, E2.out, R2.out, B2.out⟩
      case measure => have := HLT.out; simp [intOf]; omega
    · obtain rfl : k = 72 := by omega
      have f1 : ¬ ((72 : Nat) : Int) < 72 := by omega
      have yy := YY.out
      rw [PE.out] at yy
      have Y2 := Lib.hid yy
      clear yy YY EE
      go_wp2_with (first
        | (refine wpList_cell_load rfl _ rfl Y 0 rfl (padF 72 F) Y2.out.row ?_)
        | (refine wpList_cell_store rfl _ _ rfl rfl (S + 1) rfl (padF 72 F) rfl noSec RR.out ?_; intro w14 hx hb hs
           have R14 := Lib.hid hx; have B14 := Lib.hid (BB.out.trans (hb.below (by omega) (HS.out ▸ BB.out.size)))
           clear hx hb hs RR BB))
      exact bodyPost_ret (results_sec_tmp rfl _ _ (S + 1) (padF 72 F) rfl R14.out) rfl ⟨rfl, B14.out⟩
set_option maxRecDepth 100000 in
set_option maxHeartbeats 4000000 in
theorem refSlot_key (kp : Option Addr) (n kc : Nat) (h16 : n ≠ 16) (h32 : n ≠ 32) (U : List Int) (hU : IsU U) (w : World) :
    Calls Try.prog 8 #[.slice kp n kc, keyV U] w fun e w' => e = .returned (.tuple #[secVal noSec, .int .i64 3]) ∧ Below w.heap.size w w' := by
  have WR := Lib.hid (fun q c (W : World) => refWrap_key kp n kc q 64 c h16 h32 W)
  have HH := Lib.hid (halves hU)
  have HA := Lib.hid (fun (W : World) B h k hk => half_at (w := W) (B := B) hU.2 h (k := k) hk)
  have HL := Lib.hid (halfK_len U)
  have UB := Lib.hid (fun (W : World) q h => u_bytes (w := W) (q := q) hU h)
  have UL := Lib.hid hU.1
  clear hU h16 h32
  generalize hS : w.heap.size = S at *
  have HS := Lib.hid hS
  clear hS
  go_enter Try.func8, Try.ntmps8
  go_wp2_with (first
    | (refine wpList_ukey_box rfl _ rfl U rfl S HS.out ?_; intro w1 hx hb hs
       have K1 := Lib.hid hx; have B1 := Lib.hid hb; have S1 := Lib.hid hs; clear hx hb hs)
    | (refine wpList_cell_alloc rfl rfl (S + 1) S1.out ?_; intro w2 hx hb hs
       have K2 := Lib.hid (K1.out.belowM hb (by omega)); have R2 := Lib.hid hx; have B2 := Lib.hid (B1.out.trans (hb.mono (by omega))); have S2 := Lib.hid (show S + 2 ≤ w2.heap.size by omega); clear hx hb hs K1 B1 S1))
  have hb4 : Below w2.heap.size w2 w2.drew := (Below.refl _ _).drew
  have K3 := Lib.hid (K2.out.below hb4); have R3 := Lib.hid (R2.out.below hb4); have B3 := Lib.hid (B2.out.trans (hb4.mono (HS.out ▸ B2.out.size))); have S3 := Lib.hid (Nat.le_trans S2.out hb4.size)
  clear hb4 K2 R2 B2 S2
  refine wp_region_sched [(0, true), (2, true), (3, true), (5, true), (6, true), (1, false), (4, false), (7, false), (8, false), (9, true), (10, true), (11, true), (12, true), (13, true)] (fun W => True) (by kernel_rfl) (by kernel_rfl) trivial ?_
  refine walk_float rfl rfl (fun K' hK => ?_)
  refine gives_move _ rfl ?_
  go_simp
  refine hK _ ?_
  clear hK K'
  refine walk_float rfl rfl (fun K' hK => ?_)
  refine gives_ukey_field _ 0 rfl (by decide) S 0 rfl rfl ?_
  go_simp
  refine hK _ ?_
  clear hK K'
  refine walk_float rfl rfl (fun K' hK => ?_)
  refine gives_arr_slice 25 5 32 arr32Und rfl _ rfl S 0 rfl ?_
  go_simp
  refine hK _ ?_
  clear hK K'
  refine walk_float rfl rfl (fun K' hK => ?_)
  refine gives_ukey_field _ 1 rfl (by decide) S 32 rfl rfl ?_
  go_simp
  refine hK _ ?_
  clear hK K'
  refine walk_float rfl rfl (fun K' hK => ?_)
  refine gives_arr_slice 25 5 32 arr32Und rfl _ rfl S 32 rfl ?_
  go_simp
  refine hK _ ?_
  clear hK K'
  refine walk_done rfl rfl (fun K' hK => ?_)
  refine done_list0' elemByte rfl ?_
  have O5 := Lib.hid (OwnL.empty 5 1 byteC w2.drew w2.drew.heap.size (Nat.le_refl _))
  have hb : Below w2.drew.heap.size w2.drew (w2.drew.alloc (.cells #[] 5)) := (Below.refl _ _).alloc (Nat.le_refl _) _
  have Z5 := Lib.hid (show (w2.drew.alloc (.cells #[] 5)).heap.size = w2.drew.heap.size + 1 from World.size_alloc _ _)
  generalize w2.drew.alloc (.cells #[] 5) = w5 at *
  have K5 := Lib.hid (K3.out.below hb); have R5 := Lib.hid (R3.out.below hb); have B5 := Lib.hid (B3.out.trans (hb.mono (HS.out ▸ B3.out.size)))
  clear hb K3 R3 B3
  generalize w2.drew.heap.size = E at *
  refine ⟨trivial, ?_⟩
  go_simp
  refine hK _ _ ?_
  clear hK K'
  refine walk_done rfl rfl (fun K' hK => ?_)
  refine done_append_list elemByte _ _ rfl E w5.heap.size _ [] (halfK U 0) (some ⟨S, 0, none⟩) 32 32 rfl rfl (HL.out 0).symm (Z5.out ▸ O5.out) (by have := HA.out w5 S K5.out 0 (by decide); rwa [Nat.mul_zero] at this) (by rw [HL.out]; decide) (by decide) (by rw [Z5.out]; omega) ?_
  intro v6 w6 ho hg _
  have hb := below_own1 hg (Z5.out ▸ O5.out).block (by rw [Z5.out]; omega)
  clear hg
  rw [List.nil_append] at ho
  have O6 := Lib.hid ho; have K6 := Lib.hid (K5.out.belowM hb (by have := S3.out; omega)); have R6 := Lib.hid (R5.out.belowM hb (by have := S3.out; omega)); have B6 := Lib.hid (B5.out.trans (hb.mono (by have := S3.out; omega))); have Z6 := Lib.hid (Nat.le_trans (by rw [Z5.out]; omega : E ≤ w5.heap.size) hb.size)
  clear ho hb O5 K5 R5 B5 Z5
  refine ⟨trivial, ?_⟩
  go_simp
  refine hK _ _ ?_
  clear hK K'
  refine walk_done rfl rfl (fun K' hK => ?_)
  refine done_append_list elemByte _ _ rfl E w6.heap.size v6 (halfK U 0) (halfK U 1) (some ⟨S, 32, none⟩) 32 32 rfl rfl (HL.out 1).symm O6.out (HA.out w6 S K6.out 1 (by decide)) (by rw [HL.out, HL.out]; decide) (by decide) Z6.out ?_
  intro v7 w7 ho hg _
  have hb := below_own1 hg O6.out.block Z6.out
  clear hg
  rw [HH.out] at ho
  obtain ⟨p7, c7, rfl, -, -, hr7, -⟩ := ho.rows elemByte.len
  rw [UL.out]
  have Q7 := Lib.hid (UB.out w7 p7 hr7); have R7 := Lib.hid (R6.out.belowM hb (by have := S3.out; omega)); have B7 := Lib.hid (B6.out.trans (hb.mono (by have := S3.out; omega))); have Z7 := Lib.hid (show S + 2 ≤ w7.heap.size by have h1 := S3.out; have h2 := Z6.out; have h3 := hb.size; omega)
  clear ho hb hr7 O6 K6 R6 B6 Z6 S3
  refine ⟨trivial, ?_⟩
  go_simp
  refine hK _ _ ?_
  clear hK K'
  refine walk_done rfl rfl (fun K' hK => ?_)
  refine done_two' _ _ _ _ rfl 18 rfl (.slice kp n kc) (.slice p7 64 c7) rfl rfl (fun _ w => by simp [go_sem]) ((WR.out p7 c7 w7).mono ?_)
  rintro e w8 ⟨rfl, rfl⟩
  have R8 := R7; have B8 := B7; have Z8 := Z7
  clear Q7 R7 B7 WR Z7
  refine ⟨_, rfl, trivial, ?_⟩
  go_simp
  refine hK _ _ ?_
  clear hK K'
  refine walk_float rfl rfl (fun K' hK => ?_)
  refine gives_move _ rfl ?_
  go_simp
  refine hK _ ?_
  clear hK K'
  refine walk_float rfl rfl (fun K' hK => ?_)
  refine gives_extract _ 0 rfl #[.slice none 0 0, .int .i64 3] (.slice none 0 0) rfl rfl ?_
  go_simp
  refine hK _ ?_
  clear hK K'
  refine walk_float rfl rfl (fun K' hK => ?_)
  refine gives_extract _ 1 rfl #[.slice none 0 0, .int .i64 3] (.int .i64 3) rfl rfl ?_
  go_simp
  refine hK _ ?_
  clear hK K'
  refine walk_float rfl rfl (fun K' hK => ?_)
  refine gives_assign _ rfl ?_
  go_simp
  refine hK _ ?_
  clear hK K'
  refine walk_float rfl rfl (fun K' hK => ?_)
  refine gives_assign _ rfl ?_
  go_simp
  refine hK _ ?_
  clear hK K'
  refine walk_nil ?_
  go_wp2_with (first
    | (refine wpList_cell_alloc rfl rfl w7.heap.size rfl ?_; intro w9 hx hb hs
       have Y9 := Lib.hid hx; have R9 := Lib.hid (R8.out.below hb); have B9 := Lib.hid (B8.out.trans (hb.mono (HS.out ▸ B8.out.size)))
       clear hx hb hs R8 B8
       generalize w7.heap.size = Y at *))
  go_loopw [9] (fun v9 wr => v9 = .int .i64 0 ∧ CellB wr Y (secC noSec) ∧ CellB wr (S + 1) (secC noSec) ∧ Below S w wr) (fun _ _ => 0)
  case atStart => exact ⟨rfl, Y9.out, R9.out, B9.out⟩
  case round =>
    obtain ⟨rfl, hy, hr, hb⟩ := hrel
    have Y2 := Lib.hid hy; have RR := Lib.hid hr; have BB := Lib.hid hb
    clear hy hr hb Y9 R9 B9
    go_wp2_with (first
      | (refine wpList_cell_load rfl _ rfl Y 0 rfl noSec Y2.out.row ?_)
      | (refine wpList_cell_store rfl _ _ rfl rfl (S + 1) rfl noSec rfl noSec RR.out ?_; intro w14 hx hb hs
         have R14 := Lib.hid hx; have B14 := Lib.hid (BB.out.trans (hb.below (by omega) (HS.out ▸ BB.out.size)))
         clear hx hb hs RR BB))
    exact bodyPost_ret (results_sec_tmp rfl _ _ (S + 1) noSec rfl R14.out) rfl ⟨rfl, B14.out⟩
end Go.Proofs.Ytghdeedglekphaa
