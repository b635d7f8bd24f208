/- The contracts of package vault's HeadCell and of citadelref12's. Conditions: the package's variable holds the constants; the key has no more than 80,000 bytes; the head's rows are bytes. -/
import Derived.Test.YtghdeedglekphaaDoorVtHeadV
import Derived.Test.YtghdeedglekphaaDoorVtRefN
namespace Go.Proofs.YtghdeedglekphaaDoor
open Go.ChangeShapes Go.WideShapes Go.ChangeAt Go.RowKit
set_option linter.unusedVariables false
theorem partsIn_one {M : Nat} {w : World} {B : Nat} {p : Option Addr} {n c : Nat} {f : Nat → Nat} (hB : B < M) (h0 : w.cell? ⟨B, 0, none⟩ = some (.slice p n c)) (hp : n = 0 ∨ ∃ b o, p = some ⟨b, o, none⟩ ∧ b < M ∧ Cells w b o n f) : PartsIn M w (some ⟨B, 0, none⟩) 1 (fun _ => (p, n, c)) f :=
  ⟨.inr ⟨B, 0, rfl, hB, fun i hi => by
    obtain rfl : i = 0 := by omega
    exact h0⟩, fun i hi => by
    obtain rfl : i = 0 := by omega
    rcases hp with h | ⟨b, o, e1, e2, e3⟩
    · exact .inl h
    · refine .inr ⟨b, o, e1, e2, fun j hj => ?_⟩
      show w.cell? _ = some (.int .u8 (f (0 + j) : Nat))
      rw [Nat.zero_add]; exact e3 j hj⟩
theorem one_len (x : Option Addr × Nat × Nat) : lenTo (fun _ => x) 1 = x.2.1 := by show 0 + x.2.1 = _; omega
/-- The tag of one text. -/
theorem tag_text {kp : Option Addr} {n kc : Nat} {g : Nat → Nat} (hn : n ≤ 80000) {t : List Int} (ht : IsBytes t) (hlt : t.length ≤ 80000) {p : Option Addr} {c B cB m : Nat} (hm : t.length = m) {w : World} (hk : KeyAt w kp n kc g) (hc : m ≤ c) (hB : w.cell? ⟨B, 0, none⟩ = some (.slice p m c)) (hp : RowsAt 1 byteC w p t) :
    Calls Tryd.prog 12 #[.slice kp n kc, .slice (some ⟨B, 0, none⟩) 1 cB] w fun e w' => e = .returned (sumVal (tauK n g t)) ∧ Below w.heap.size w w' := by
  subst hm
  have hl : lenTo (fun _ => (p, t.length, c)) 1 = t.length := one_len _
  have := Tag_any kp n kc g 1 cB (some ⟨B, 0, none⟩) (fun _ => (p, t.length, c)) (natF t) (by omega) hk.cap hk.lt (by omega) (by rw [hl]; omega) (fun _ _ => hc) (by rw [hl]; exact fun i _ => natF_lt ht i) w hk.tab hk.at' (partsIn_one (block_lt_of_cell hB) hB (rows_bytes hp ht))
  rw [hl, ← tauK_val] at this; exact this
theorem PutN_ok (z : Int) (w : World) : Calls Tryd.prog 11 #[.slice none 0 0, .int .i64 8, .int .i64 z] w fun e w' => ∃ B, e = .returned (.tuple #[.slice (some ⟨B, 0, none⟩) 8 8, .nilIface]) ∧ OwnL 5 1 byteC w' w.heap.size w'.heap.size (.slice (some ⟨B, 0, none⟩) 8 8) (numL 8 z) ∧ Below w.heap.size w w' := by
  refine (Put_ok none 0 0 (fun _ => 0) 8 z (.inr (.inr (.inr rfl))) (.inl rfl) (by decide) w (.inl rfl)).mono ?_
  rintro e w' ⟨rfl, hr, hb⟩
  refine ⟨_, rfl, ?_, hb⟩
  have e0 : mk (0 + 8) (cat 0 (fun _ => 0) (numF 8 z)) = numL 8 z := mk_ext fun j hj => by unfold cat; rw [if_neg (by omega)]; rfl
  rw [e0] at hr
  refine .inr ⟨_, 8, _, rfl, Nat.le_refl _, hr.lt, hr, Nat.le_refl _, by decide, by rw [cellsOf_size, numL_len], ?_⟩
  show (cellsOf .u8 (numL 8 z)).toList.take (8 * 1) = (numL 8 z).flatMap byteC
  unfold numL
  rw [← bytes_flat, List.take_of_length_le (by rw [Array.length_toList, cellsOf_size, mk_len]; omega)]
  rfl
theorem FillL_ok {s : List Int} (hs : IsSec s) {p : Option Addr} {c m : Nat} (hm : m = 128) {w : World} (hp : RowsAt 1 byteC w p s) : Calls Tryd.prog 13 #[.slice p m c] w fun e w' => e = .returned (.tuple #[secVal s, .nilIface]) ∧ Below w.heap.size w w' := by
  subst hm
  have hb := rows_bytes hp hs.2
  rw [hs.1] at hb
  refine (Fill_ok p 128 c (natF s) (Nat.le_refl _) w hb).mono ?_
  rintro e w' ⟨rfl, hb2⟩
  refine ⟨?_, hb2⟩
  unfold secVal
  rw [show mk 128 (extF 128 (natF s)) = mk 128 (natF s) from mk_ext fun j hj => by unfold extF; rw [if_pos hj]]
section
variable {ops : Array Oper} {rest : List Oper} {o : Oper} {a : Act} {w : World} {Q : Exit → Act → World → Prop}
theorem wpList_slice1 (hgd : o.guard = none) (x : Operand) (ho : o.op = .buildSlice 74 1 #[(0, x)]) (p : Option Addr) (n c : Nat) (hx : a.eval x = .slice p n c)
    (h : ∀ w', w'.cell? ⟨w.heap.size, 0, none⟩ = some (.slice p n c) → w'.heap.size = w.heap.size + 1 → Below w.heap.size w w' → wpList Tryd.prog ops Q rest (a.put o.dst (.slice (some ⟨w.heap.size, 0, none⟩) 1 1)) w') : wpList Tryd.prog ops Q (o :: rest) a w :=
  wpList_plain hgd fun K hK => by
    have e := run_slice1 p n c w
    have cs : (w.alloc (.cells #[.slice p n c] 22)).cell? ⟨w.heap.size, 0, none⟩ = some (.slice p n c) := (cell_of_row _ _ _ _ _ _ (heap_alloc_new _ _)).trans rfl
    unfold Oper.wp execOp
    simp only [ho]
    simp [hx, e]
    exact hK _ _ (h _ cs (by simp) ((Below.refl _ _).alloc (Nat.le_refl _) _))
end
theorem results_cell_tmp1 {fn : Func} {p u : Tmp} (h : fn.results = #[.cell p 30, .tmp u]) (tmps : Array Value) (w : World) (B : Nat) (s : List Int) (hp : tmps.getD p undef = .pointer (some ⟨B, 0, none⟩)) (hB : CellB w B (secC s)) :
    (results fn tmps).run Tryd.prog w = .ok (.tuple #[secVal s, tmps.getD u undef]) w := by
  rw [results_cell_tmp h, hp, secVal_cells]
  simp only [asAddr, Sem.run_pure, Result.andThen_ok, run_loadVar_mid w B 0 30 (secC s) _ hB.row secUnd rfl (by rw [secC_len]; exact secInfo)]
theorem results_head_tmp1 {fn : Func} {p u : Tmp} (h : fn.results = #[.cell p 28, .tmp u]) (tmps : Array Value) (w : World) (B : Nat) (z : Int) (P : List Int) (hp : tmps.getD p undef = .pointer (some ⟨B, 0, none⟩)) (hB : CellB w B (headC z P)) :
    (results fn tmps).run Tryd.prog w = .ok (.tuple #[headV z P, tmps.getD u undef]) w := by
  obtain ⟨d, hd, hr⟩ := headUnd
  rw [results_cell_tmp h, hp]
  unfold headV
  simp only [asAddr, Sem.run_pure, Result.andThen_ok, run_loadVar_mid w B 0 28 (headC z P) d hB.row hd hr (by rw [headC_len]; exact headInfo)]
attribute [local irreducible] nought tauK sumVal sumC secVal secC headV headC bytC rootsV rootK restK txtK hdT hdL numL noSec noRow
set_option maxRecDepth 100000 in
set_option maxHeartbeats 4000000 in
theorem HeadCell_neg (kp : Option Addr) (n kc : Nat) (z : Int) (P : List Int) (hz : z < 0) (w : World) :
    Calls Tryd.prog 5 #[.slice kp n kc, headV z P] w fun e w' => e = .returned (.tuple #[secVal noSec, .iface 40 (.int .i64 2)]) ∧ Below w.heap.size w w' := by
  have d1 : decide (z < 0) = true := decide_eq_true hz
  have HC := Lib.hid (headC_count z P)
  clear hz
  generalize hS : w.heap.size = S at *
  have HS := Lib.hid hS
  clear hS
  go_enter Tryd.func5, Tryd.ntmps5
  go_wp2_with (first
    | (refine wpList_head_box rfl _ rfl z P rfl S HS.out ?_; intro w1 hx hb hs
       have H1 := Lib.hid hx; have B1 := Lib.hid hb; have S1 := Lib.hid hs; clear hx hb hs)
    | (refine wpList_cell_alloc rfl rfl (S + 1) S1.out ?_; intro w2 hx hb hs
       have H2 := Lib.hid (H1.out.belowM hb (by omega)); have R2 := Lib.hid hx; have B2 := Lib.hid (B1.out.trans (hb.mono (by omega))); have k2 := H2.out.cell HC.out
       clear hx hb hs H1 B1 S1)
    | (refine wpList_cell_build0 rfl rfl ?_)
    | (refine wpList_cell_store rfl _ _ rfl rfl (S + 1) rfl noSec rfl noSec R2.out ?_; intro w3 hx hb hs
       have R3 := Lib.hid hx; have B3 := Lib.hid (B2.out.trans (hb.below (by omega) (HS.out ▸ B2.out.size)))
       clear hx hb hs R2 B2 k2))
  exact bodyPost_ret (results_cell_tmp1 rfl _ _ (S + 1) noSec rfl R3.out) rfl ⟨rfl, B3.out⟩
set_option maxRecDepth 100000 in
set_option maxHeartbeats 4000000 in
theorem HeadCell_ok (kp : Option Addr) (n kc : Nat) (g : Nat → Nat) (hn : n ≤ 80000) (z : Int) (P : List Int) (hP : IsRow88 P) (hz : ¬ z < 0) (w : World) (hk : KeyAt w kp n kc g) :
    Calls Tryd.prog 5 #[.slice kp n kc, headV z P] w fun e w' => e = .returned (.tuple #[secVal (hdL (tauK n g) z P), .nilIface]) ∧ Below w.heap.size w w' := by
  have d1 : decide (z < 0) = false := decide_eq_false hz
  have HC := Lib.hid (headC_count z P)
  have HK := Lib.hid (fun (W : World) (hb : Below w.heap.size w W) => hk.below hb)
  have TG := Lib.hid (fun p c B (W : World) h1 h2 h3 h4 => tag_text (kp := kp) (n := n) (kc := kc) (g := g) hn (hdT_bytes (z := z) hP) (by rw [hdT_len hP]; decide) (p := p) (c := c) (B := B) (cB := 1) (m := 96) (hdT_len hP) (w := W) h1 h2 h3 h4)
  have PN := Lib.hid (fun (W : World) => PutN_ok z W)
  have FL := Lib.hid (fun p c (W : World) m hm h => FillL_ok (hdL_sec (τ := tauK n g) (fun t => tauK_sum n g t) (z := z) hP) (p := p) (c := c) (m := m) hm (w := W) h)
  have TZ := Lib.hid (txtK_zero z P); have TR := Lib.hid (txtK_root z P); have TE := Lib.hid (txtK_rest z hP); have TL := Lib.hid (txtK_len z P)
  have RS := Lib.hid (rootK_sum hP.2); have RA := Lib.hid (fun (W : World) B h => head_rest_at (w := W) (B := B) (z := z) hP.2 h)
  have RL := Lib.hid (restK_len P)
  have HL := Lib.hid (hdT_len (z := z) hP)
  have TS := Lib.hid (tauK_sum n g (hdT z P))
  have HE := Lib.hid (show hdT z P ++ tauK n g (hdT z P) = hdL (tauK n g) z P by unfold hdL; rfl)
  have SL := Lib.hid (hdL_sec (τ := tauK n g) (fun t => tauK_sum n g t) (z := z) hP).1
  clear hz hn hP hk
  generalize hS : w.heap.size = S at *
  have HS := Lib.hid hS
  clear hS
  go_enter Tryd.func5, Tryd.ntmps5
  go_wp2_with (first
    | (refine wpList_head_box rfl _ rfl z P rfl S HS.out ?_; intro w1 hx hb hs
       have H1 := Lib.hid hx; have B1 := Lib.hid hb; have S1 := Lib.hid hs; clear hx hb hs)
    | (refine wpList_cell_alloc rfl rfl (S + 1) S1.out ?_; intro w2 hx hb hs
       have H2 := Lib.hid (H1.out.belowM hb (by omega)); have R2 := Lib.hid hx; have B2 := Lib.hid (B1.out.trans (hb.mono (by omega))); have S2 := Lib.hid hs; have k2 := H2.out.cell HC.out
       clear hx hb hs H1 B1 S1)
    | (go_at_call 11; refine (PN.out _).mono ?_; rintro e w3 ⟨B3n, rfl, ho, hb⟩
       have H3 := Lib.hid (H2.out.below hb); have R3 := Lib.hid (R2.out.below hb); have O3 := Lib.hid (show OwnL 5 1 byteC w3 (S + 2) w3.heap.size (.slice (some ⟨B3n, 0, none⟩) 8 8) (txtK z P (32 * 0)) by rw [Nat.mul_zero, TZ.out]; exact ho.lower (by rw [S2.out]; exact Nat.le_refl _))
       have B3 := Lib.hid (B2.out.trans (hb.mono (by rw [S2.out]; omega))); have S3 := Lib.hid (show S + 2 ≤ w3.heap.size by have := hb.size; rw [S2.out] at this; exact this)
       clear ho hb H2 R2 B2 S2 k2 PN)
    | (refine wpList_roots_load rfl _ rfl S rfl z P H3.out ?_))
  go_loopw [6, 28] (fun v6 v28 wr => ∃ k : Nat, k ≤ 2 ∧ v28 = .int .i64 k ∧ OwnL 5 1 byteC wr (S + 2) wr.heap.size v6 (txtK z P (32 * k)) ∧ CellB wr S (headC z P) ∧ CellB wr (S + 1) (secC noSec) ∧ Below S w wr ∧ S + 2 ≤ wr.heap.size) (fun _ v28 _ => 2 - (intOf v28).toNat)
  case atStart => exact ⟨0, by omega, rfl, O3.out, H3.out, R3.out, B3.out, S3.out⟩
  case round =>
    obtain ⟨k, hk2, rfl, ho, hh, hr, hb, hs⟩ := hrel
    have OO := Lib.hid ho; have HH := Lib.hid hh; have RR := Lib.hid hr; have BB := Lib.hid hb; have SS := Lib.hid hs
    clear ho hh hr hb hs O3 H3 R3 B3 S3
    have TLK := Lib.hid (TL.out (32 * k))
    by_cases hlt : k < 2
    · have f1 : (k : Int) < 2 := by omega
      have f3 : IntKind.i64.wrap ((k : Int) + 1) = ((k + 1 : Nat) : Int) := by rw [IntWalk.i64_in _ (by omega)]; omega
      have HLT := Lib.hid hlt
      have RK := Lib.hid (RS.out k); have TRK := Lib.hid (TR.out k)
      go_wp2_with (first
        | (refine wpList_roots_index rfl _ _ rfl P rfl k rfl HLT.out ?_)
        | (refine wpList_sum_alloc rfl rfl wr.heap.size rfl ?_; intro w2 hD hb hs
           have D2 := Lib.hid hD; have B2 := Lib.hid hb; have S2 := Lib.hid hs; clear hD hb hs)
        | (refine wpList_sum_store rfl _ _ rfl rfl wr.heap.size 0 rfl (rootK P k) rfl [nought] D2.out (by decide) ?_; intro w3 hD hb hs
           have D3 := Lib.hid (show SumsB w3 wr.heap.size [rootK P k] from hD); have B3 := Lib.hid (B2.out.trans (hb.below (Nat.le_refl _) (by rw [S2.out]; omega))); clear hD hb hs D2 B2)
        | (refine wpList_sum_row rfl _ rfl wr.heap.size 0 rfl ?_)
        | (refine wpList_app elemByte rfl _ _ rfl (S + 2) wr.heap.size _ (txtK z P (32 * k)) (rootK P k) (some ⟨wr.heap.size, 0, none⟩) 32 32 rfl rfl RK.out.1.symm (OO.out.below (Nat.le_refl _) B3.out) (sum_rows_at RK.out D3.out) (by rw [TLK.out, RK.out.1]; have := HLT.out; omega) (by decide) (Nat.le_trans SS.out B3.out.size) ?_; intro v5 w5 ho hb
           rw [TRK.out] at ho
           have O5 := Lib.hid ho; have H5 := Lib.hid ((HH.out.below B3.out).belowM hb (by omega)); have R5 := Lib.hid ((RR.out.below B3.out).belowM hb (by omega)); have B5 := Lib.hid ((BB.out.trans (B3.out.mono (HS.out ▸ BB.out.size))).trans (hb.mono (by omega))); have S5 := Lib.hid (Nat.le_trans (Nat.le_trans SS.out B3.out.size) hb.size)
           clear ho hb B3 D3))
      go_roundw
      case rel => exact ⟨k + 1, HLT.out, by go_num, O5.out, H5.out, R5.out, B5.out, S5.out⟩
      case measure => have := HLT.out; simp [intOf]; omega
    · obtain rfl : k = 2 := by omega
      have f1 : ¬ ((2 : Nat) : Int) < 2 := by omega
      obtain ⟨p6, c6, rfl, hc6, hm6, hr6, hl6⟩ := OO.out.rows elemByte.len
      have RA6 := Lib.hid (RA.out _ _ HH.out)
      clear TR RS hc6 hm6 hr6 hl6
      go_wp2_with (first
        | (refine wpList_arr_slice rfl 26 5 24 Tryd.underlying26 rfl _ rfl S 65 rfl ?_)
        | (refine wpList_app elemByte rfl _ _ rfl (S + 2) wr.heap.size _ (txtK z P (32 * 2)) (restK P) (some ⟨S, 65, none⟩) 24 24 rfl rfl RL.out.symm OO.out RA6.out (by rw [TLK.out, RL.out]; decide) (by decide) SS.out ?_; intro v5 w5 ho hb
           rw [show 32 * 2 = 64 from rfl, TE.out] at ho
           obtain ⟨p7, c7, rfl, hc7, _, hr7, _⟩ := ho.rows elemByte.len
           rw [HL.out] at ho hc7 ⊢
           have O5 := Lib.hid ho; have C5 := Lib.hid hc7; have Q5 := Lib.hid hr7; have R5 := Lib.hid (RR.out.belowM hb (by omega)); have B5 := Lib.hid (BB.out.trans (hb.mono (by omega))); have S5 := Lib.hid (Nat.le_trans SS.out hb.size)
           clear ho hb hc7 hr7 OO RR BB SS HH RA6)
        | (refine wpList_slice1 rfl _ rfl p7 96 c7 rfl ?_; intro w8 hx hs hb
           have O8 := Lib.hid (O5.out.below (Nat.le_refl _) hb); have L8 := Lib.hid hx; have R8 := Lib.hid (R5.out.below hb); have B8 := Lib.hid (B5.out.trans (hb.mono (HS.out ▸ B5.out.size))); have S8 := Lib.hid (Nat.le_trans S5.out hb.size); have Q8 := Lib.hid (Q5.out.below hb); have Z8 := Lib.hid hb.size
           clear hx hs hb O5 R5 B5 Q5)
        | (go_at_call 12; refine (TG.out p7 c7 _ w8 (HK.out _ (HS.out.symm ▸ B8.out)) C5.out L8.out Q8.out).mono ?_; rintro e w9 ⟨rfl, hb⟩
           have O9 := Lib.hid ((O8.out.raise Z8.out).below (Nat.le_refl _) hb); have R9 := Lib.hid (R8.out.below hb); have B9 := Lib.hid (B8.out.trans (hb.mono (HS.out ▸ B8.out.size))); have S9 := Lib.hid (Nat.le_trans S8.out hb.size); have Z9 := Lib.hid hb.size
           clear hb O8 L8 R8 B8 S8 Q8 TG)
        | (refine wpList_sum_alloc rfl rfl w9.heap.size rfl ?_; intro w10 hD hb hs
           have D10 := Lib.hid hD; have R10 := Lib.hid (R9.out.below hb); have O10 := Lib.hid (((O9.out.raise Z9.out).below (Nat.le_refl _) hb)); have B10 := Lib.hid (B9.out.trans (hb.mono (HS.out ▸ B9.out.size))); have Z10 := Lib.hid hs; clear hD hb hs R9 O9 B9)
        | (refine wpList_sum_store rfl _ _ rfl rfl w9.heap.size 0 rfl (tauK n g (hdT z P)) rfl [nought] D10.out (by decide) ?_; intro w11 hD hb hs
           have D11 := Lib.hid (show SumsB w11 w9.heap.size [tauK n g (hdT z P)] from hD)
           have bel := hb.below (Nat.le_refl _) (by rw [Z10.out]; omega)
           have R11 := Lib.hid (R10.out.but hb (by have := S9.out; omega)); have O11 := Lib.hid (O10.out.same fun B _ hB => bel.block B hB); have B11 := Lib.hid (B10.out.trans (bel.mono (by have := S9.out; omega))); have Z11 := Lib.hid bel.size; clear hD hb hs bel D10 R10 O10 B10)
        | (refine wpList_sum_row rfl _ rfl w9.heap.size 0 rfl ?_)
        | (refine wpList_app elemByte rfl _ _ rfl (S + 2) w9.heap.size _ (hdT z P) (tauK n g (hdT z P)) (some ⟨w9.heap.size, 0, none⟩) 32 32 rfl rfl TS.out.1.symm O11.out (sum_rows_at TS.out D11.out) (by rw [HL.out, TS.out.1]; decide) (by decide) (by have h1 := S9.out; have h2 := Z11.out; have h3 := Z10.out; omega) ?_; intro v12 w12 ho hb
           rw [HE.out] at ho
           obtain ⟨p12, c12, rfl, _, _, hr12, _⟩ := ho.rows elemByte.len
           have Q12 := Lib.hid hr12; have R12 := Lib.hid (R11.out.belowM hb (by omega)); have B12 := Lib.hid (B11.out.trans (hb.mono (by omega)))
           clear ho hb hr12 O11 D11 R11 B11)
        | (go_at_call 13; refine (FL.out p12 c12 w12 _ SL.out Q12.out).mono ?_; rintro e w13 ⟨rfl, hb⟩
           have R13 := Lib.hid (R12.out.below hb); have B13 := Lib.hid (B12.out.trans (hb.mono (HS.out ▸ B12.out.size)))
           clear hb R12 B12 Q12)
        | (refine wpList_cell_store rfl _ _ rfl rfl (S + 1) rfl (hdL (tauK n g) z P) rfl noSec R13.out ?_; intro w14 hx hb hs
           have R14 := Lib.hid hx; have B14 := Lib.hid (B13.out.trans (hb.below (by omega) (HS.out ▸ B13.out.size)))
           clear hx hb hs R13 B13))
      exact bodyPost_ret (results_cell_tmp1 rfl _ _ (S + 1) (hdL (tauK n g) z P) rfl R14.out) rfl ⟨rfl, B14.out⟩
end Go.Proofs.YtghdeedglekphaaDoor
