/- Which sectors a tree has, and that it comes back from them: the statement TreeSectors, tied to the program's text. -/
import Derived.Test.YtghdeedglekphaaTsSec
import Derived.Test.YtghdeedglekphaaRdErr
import Derived.Deep.DeepHandedRow
namespace Go.Proofs.Ytghdeedglekphaa.treeSectors
open Go.ChangeShapes Go.WideShapes Go.ChangeAt Go.RowKit
set_option linter.unusedVariables false
theorem own : ownKnob Try.prog.godebug = none := by kernel_rfl
theorem box_byte (w : World) : (isAgg 5).run Try.prog w = .ok false w := by simp [go_sem]
section
variable {o : Oper} {a : Act} {C : World → Prop} {K : Act → Prop}
theorem gives_cell_byte (x y : Operand) (ho : o.op = .indexAddr 24 x y) (B off k p : Nat) (hx : a.eval x = .pointer (some ⟨B, off, none⟩)) (hy : a.eval y = .int .i64 k) (hk' : k < 128) (hp : off + k = p) (hk : K (a.put o.dst (.pointer (some ⟨B, p, none⟩)))) : ∃ v, Gives Try.prog C o a v ∧ K (a.put o.dst v) :=
  ⟨_, fun w _ => by
    subst hp
    have h0 : (k : Int) < 128 := by omega
    have hs := byteElem.run_size (P := Try.prog) w
    unfold execOp
    simp only [ho, hx, hy]
    simp [go_sem, h0, hs, addr_add], hk⟩
theorem gives_tag_byte (x y : Operand) (ho : o.op = .indexAddr 50 x y) (B off k p : Nat) (hx : a.eval x = .pointer (some ⟨B, off, none⟩)) (hy : a.eval y = .int .i64 k) (hk' : k < 32) (hp : off + k = p) (hk : K (a.put o.dst (.pointer (some ⟨B, p, none⟩)))) : ∃ v, Gives Try.prog C o a v ∧ K (a.put o.dst v) :=
  ⟨_, fun w _ => by
    subst hp
    have h0 : (k : Int) < 32 := by omega
    have hs := byteElem.run_size (P := Try.prog) w
    unfold execOp
    simp only [ho, hx, hy]
    simp [go_sem, h0, hs, addr_add], hk⟩
theorem gives_byte_same (x y : Operand) (ho : o.op = .binOp .neq 5 x y 5) (i : Int) (hx : a.eval x = .int .u8 i) (hy : a.eval y = .int .u8 i) (hk : K (a.put o.dst (.bool false))) : ∃ v, Gives Try.prog C o a v ∧ K (a.put o.dst v) :=
  ⟨_, fun w _ => by
    unfold execOp
    simp only [ho, hx, hy]
    simp [go_sem], hk⟩
end
theorem rem_num (z : Int) : ∃ u k : Nat, IntKind.u64.wrap z = (u : Int) ∧ (u : Int) % 12 = (k : Int) ∧ k < 12 := by
  obtain ⟨u, hu⟩ : ∃ u : Nat, IntKind.u64.wrap z = (u : Int) := by
    rw [IntKind.wrap_u64]; exact ⟨(z % 18446744073709551616).toNat, by omega⟩
  exact ⟨u, u % 12, hu, by omega, Nat.mod_lt _ (by decide)⟩
theorem own_tags {w : World} {base top B n c : Nat} {l : List (List Int)} (h : OwnL 50 32 sumC w base top (.slice (some ⟨B, 0, none⟩) n c) l) (hl : l.length = 32) : SumsB w B l ∧ base ≤ B := by
  obtain ⟨x, m, e⟩ : ∃ x m, l = x :: m := by
    cases l with
    | nil => cases hl
    | cons x m => exact ⟨x, m, rfl⟩
  subst e
  obtain ⟨B', c', e, _, hb, _, hs⟩ := h.sums
  simp only [Value.slice.injEq, Option.some.injEq, Addr.mk.injEq] at e
  obtain ⟨⟨rfl, _⟩, _⟩ := e
  exact ⟨hs, hb⟩
attribute [local irreducible] nought sumVal sumC secVal secC bytC noSec fTo flatF sumsL
set_option maxRecDepth 100000 in
set_option maxHeartbeats 8000000 in
theorem walk (q0 : Option Addr) (n0 c0 : Nat) (a0 : Nat → Nat) (z : Int) (w0 : ∀ i, i < n0 → a0 i < 256) (l0 : n0 ≤ c0) (m0 : c0 ≤ maxLen) (wz : (Lit.int .i64 z).wf = true) (w : World) (y0 : BytesAt w q0 n0 a0) :
    Calls Try.prog 4 #[.slice q0 n0 c0, .int .i64 z] w fun e w' => e = .returned (.bool true) ∧ Below w.heap.size w w' := by
  by_cases hn : n0 ≤ 200
  case neg =>
    have d1 : (200 : Int) < (n0 : Int) := by omega
    have d3 : decide (200 < n0) = true := decide_eq_true (by omega)
    clear w0 l0 m0 wz y0
    go_enter Try.func4, Try.ntmps4
    go_wp2
    go_ret
    exact ⟨rfl, Below.refl _ _⟩
  case pos =>
  have d1 : ¬ ((200 : Int) < (n0 : Int)) := by omega
  have d3 : decide (200 < n0) = false := decide_eq_false (by omega)
  obtain ⟨u, m, hu, hm, hm12⟩ := rem_num z
  have hm3 : IntKind.i64.wrap (m : Int) = (m : Int) := IntWalk.i64_in _ (by omega)
  have M12 := Lib.hid hm12
  have SU := Lib.hid (sums_any q0 n0 c0 a0 w0 (by omega) w y0)
  have SL := Lib.hid (sumsL_len n0 a0)
  have SS := Lib.hid (sumsL_sum w0)
  have IE := Lib.hid (fun (V : World) => Is_err 2 rfl V)
  clear w0 l0 m0 wz y0 hn hm12
  generalize sumsL n0 a0 = L at *
  generalize hS : w.heap.size = S at *
  have HS := Lib.hid hS
  clear hS
  by_cases hm8 : m = 8 <;> by_cases hn32 : n0 = 32
  · have e1 : decide ((m : Int) = 8) = true := decide_eq_true (by omega)
    have e2 : ((m : Int) == 8) = true := by simp; omega
    have e3 : decide (m = 8) = true := decide_eq_true (by omega)
    have e4 : (m == 8) = true := by simp; omega
    have LL := Lib.hid (show L.length = 32 by rw [SL.out]; exact hn32)
    have HN := Lib.hid hn32
    have FA := Lib.hid (fun k i (hi : i < 32) => flatF_at L (k := k) hi)
    have g1 : ((n0 : Int) == 32) = true := by simp; omega
    have g2 : (n0 == 32) = true := by simp; omega
    have g3 : decide ((n0 : Int) = 32) = true := decide_eq_true (by omega)
    have g4 : decide (n0 = 32) = true := decide_eq_true (by omega)
    have HM8 := Lib.hid hm8
    clear hm8 hn32
    go_enter Try.func4, Try.ntmps4
    go_wp2_with (first
      | (go_at_call 11; refine SU.out.mono ?_; rintro e w1 ⟨Bl, cl, rfl, ho, hb⟩
         obtain ⟨hl, hB1⟩ := own_tags ho LL.out
         have L1 := Lib.hid hl; have B1 := Lib.hid hb; have HB1 := Lib.hid hB1
         have hnn := HN.out
         subst hnn
         clear ho hb hl hB1 SU)
      | (go_at_call 12; refine (Sectors_ok _ cl L LL.out w1 L1.out.at).mono ?_; rintro e w2 ⟨rfl, hd, hb⟩
         have D2 := Lib.hid hd; have L2 := Lib.hid (L1.out.below hb); have B2 := Lib.hid (B1.out.trans (hb.mono (HS.out ▸ B1.out.size))); have F2 := Lib.hid (show Bl < w1.heap.size ∧ w1.heap.size < w2.heap.size from ⟨L1.out.lt, hd.lt⟩)
         clear hd hb L1 B1
         generalize w1.heap.size = Bd at *)
      | (refine wpList_make_cells rfl _ _ rfl m rfl rfl (by have := M12.out; omega) ?_; intro w3 hx hb
         have D3 := Lib.hid (D2.out.below hb); have L3 := Lib.hid (L2.out.below hb); have F3 := Lib.hid (show Bl < Bd ∧ Bd < w3.heap.size from ⟨F2.out.1, Nat.lt_of_lt_of_le F2.out.2 hb.size⟩)
         have Z3 := Lib.hid hx; have B3 := Lib.hid (B2.out.trans (hb.mono (HS.out ▸ B2.out.size)))
         clear hx hb D2 L2 F2 B2)
      | (go_at_call 13
         have hm9 := HM8.out
         subst hm9
         refine (Tags_ok w2.heap.size 0 8 zeroK w3 Z3.out.lt Z3.out.row).mono ?_; rintro e w4 ⟨rfl, -, hb⟩
         have D4 := Lib.hid (D3.out.below hb); have L4 := Lib.hid (L3.out.below hb); have F4 := Lib.hid (show Bl < Bd ∧ Bd < w4.heap.size from ⟨F3.out.1, Nat.lt_of_lt_of_le F3.out.2 hb.size⟩)
         have B4 := Lib.hid (B3.out.trans (hb.mono (HS.out ▸ B3.out.size)))
         clear hb Z3 B3 D3 L3 F3))
    clear e1 e2 e3 e4 g1 g2 g3 g4 hu hm hm3 HM8 M12 d1 d3
    go_loopw [66] (fun v66 wr => ∃ k : Nat, k ≤ 32 ∧ v66 = .int .i64 k ∧ CellB wr Bd (bytC 1024 (flatF L)) ∧ SumsB wr Bl L ∧ Below S w wr) (fun v66 _ => 32 - (intOf v66).toNat)
    case atStart => exact ⟨0, by omega, rfl, D4.out, L4.out, B4.out⟩
    case round =>
      obtain ⟨k, hk, rfl, hd, hl, hb⟩ := hrel
      have DD := Lib.hid hd; have LR := Lib.hid hl; have BB := Lib.hid hb
      clear hd hl hb D4 L4 B4
      by_cases hlt : k < 32
      · have f1 : (k : Int) < 32 := by omega
        have f3 : IntKind.i64.wrap ((k : Int) + 1) = ((k + 1 : Nat) : Int) := by rw [IntWalk.i64_in _ (by omega)]; omega
        have HLT := Lib.hid hlt
        clear hlt
        go_wp2
        go_loopw [69] (fun v69 wr => ∃ j : Nat, j ≤ 32 ∧ v69 = .int .i64 j ∧ CellB wr Bd (bytC 1024 (flatF L)) ∧ SumsB wr Bl L ∧ Below S w wr) (fun v69 _ => 32 - (intOf v69).toNat)
        case atStart => exact ⟨0, by omega, rfl, DD.out, LR.out, BB.out⟩
        case round =>
          obtain ⟨j, hj, rfl, hd, hl, hb⟩ := hrel
          have DJ := Lib.hid hd; have LJ := Lib.hid hl; have BJ := Lib.hid hb
          clear hd hl hb DD LR BB f3
          by_cases hlj : j < 32
          · have f2 : (j : Int) < 32 := by omega
            have f3 : IntKind.i64.wrap ((j : Int) + 1) = ((j + 1 : Nat) : Int) := by rw [IntWalk.i64_in _ (by omega)]; omega
            have HLJ := Lib.hid hlj
            obtain ⟨k4, hk4⟩ : ∃ k4, k / 4 = k4 := ⟨_, rfl⟩
            obtain ⟨r4, hr4⟩ : ∃ r4, k % 4 = r4 := ⟨_, rfl⟩
            obtain ⟨m32, hm32⟩ : ∃ m32, 32 * r4 = m32 := ⟨_, rfl⟩
            obtain ⟨mj, hmj⟩ : ∃ mj, m32 + j = mj := ⟨_, rfl⟩
            have K4 := Lib.hid hk4; have R4 := Lib.hid hr4; have M32 := Lib.hid hm32
            have G1 := Lib.hid (show k4 < 8 ∧ r4 < 1000 ∧ mj < 128 ∧ 128 * k4 + mj = 32 * k + j ∧ 32 * k + j < 1024 by have := HLT.out; omega)
            have MJ := Lib.hid (show IntKind.i64.wrap ((m32 : Int) + (j : Int)) = (mj : Int) by rw [IntWalk.i64_in _ (by omega)]; omega)
            have CB := Lib.hid (show (bytC 1024 (flatF L))[32 * k + j]? = some (.int .u8 (natF (L.getD k []) j : Nat)) by rw [bytC_get _ G1.out.2.2.2.2, FA.out k j hlj])
            have CS := Lib.hid (sumC_get (L.getD k []) hlj)
            have KL := Lib.hid (show k < L.length by rw [LL.out]; exact HLT.out)
            clear hk4 hr4 hm32 hmj hlj
            go_wp2
            have hb4 : Below wr.heap.size wr wr.drew := (Below.refl _ _).drew
            have D5 := Lib.hid (DJ.out.below hb4); have L5 := Lib.hid (LJ.out.below hb4); have B5 := Lib.hid (BJ.out.trans (hb4.mono (HS.out ▸ BJ.out.size)))
            clear hb4 DJ LJ BJ
            refine wp_region_sched [(0, true), (1, true), (2, true), (3, true), (4, true), (5, true), (6, true), (7, true), (8, true), (9, true), (10, true), (11, true), (12, true), (13, true), (14, true), (15, true), (16, true), (17, true)] (fun W => CellB W Bd (bytC 1024 (flatF L)) ∧ SumsB W Bl L) (by kernel_rfl) (by kernel_rfl) ⟨D5.out, L5.out⟩ ?_
            refine walk_float rfl rfl (fun K' hK => ?_)
            refine gives_move _ rfl ?_
            go_simp
            refine hK _ ?_
            clear hK K'
            refine walk_float rfl rfl (fun K' hK => ?_)
            refine gives_move _ rfl ?_
            go_simp
            refine hK _ ?_
            clear hK K'
            refine walk_float rfl rfl (fun K' hK => ?_)
            refine gives_quo4 _ rfl k rfl (by have := HLT.out; omega) k4 K4.out ?_
            go_simp
            refine hK _ ?_
            clear hK K'
            refine walk_float rfl rfl (fun K' hK => ?_)
            refine gives_move _ rfl ?_
            go_simp
            refine hK _ ?_
            clear hK K'
            refine walk_float rfl rfl (fun K' hK => ?_)
            refine gives_rem4 _ rfl k rfl (by have := HLT.out; omega) r4 R4.out ?_
            go_simp
            refine hK _ ?_
            clear hK K'
            refine walk_float rfl rfl (fun K' hK => ?_)
            refine gives_mul32 _ rfl r4 rfl G1.out.2.1 m32 M32.out ?_
            go_simp
            refine hK _ ?_
            clear hK K'
            refine walk_float rfl rfl (fun K' hK => ?_)
            refine gives_move _ rfl ?_
            go_simp
            refine hK _ ?_
            clear hK K'
            refine walk_float rfl rfl (fun K' hK => ?_)
            refine gives_int_sum _ _ rfl m32 j mj rfl rfl MJ.out ?_
            go_simp
            refine hK _ ?_
            clear hK K'
            refine walk_float rfl rfl (fun K' hK => ?_)
            refine gives_cell_elem _ _ rfl Bd 0 8 8 k4 rfl rfl G1.out.1 ?_
            go_simp
            refine hK _ ?_
            clear hK K'
            refine walk_float rfl rfl (fun K' hK => ?_)
            refine gives_cell_byte _ _ rfl Bd (128 * k4) mj (32 * k + j) rfl rfl G1.out.2.2.1 G1.out.2.2.2.1 ?_
            go_simp
            refine hK _ ?_
            clear hK K'
            refine walk_float rfl rfl (fun K' hK => ?_)
            refine gives_cell _ _ rfl ⟨Bd, 32 * k + j, none⟩ (.int .u8 (natF (L.getD k []) j : Nat)) rfl box_byte (fun W h => h.1.cell CB.out) ?_
            go_simp
            refine hK _ ?_
            clear hK K'
            refine walk_float rfl rfl (fun K' hK => ?_)
            refine gives_move _ rfl ?_
            go_simp
            refine hK _ ?_
            clear hK K'
            refine walk_float rfl rfl (fun K' hK => ?_)
            refine gives_move _ rfl ?_
            go_simp
            refine hK _ ?_
            clear hK K'
            refine walk_float rfl rfl (fun K' hK => ?_)
            refine gives_move _ rfl ?_
            go_simp
            refine hK _ ?_
            clear hK K'
            refine walk_float rfl rfl (fun K' hK => ?_)
            refine gives_sum_elem _ _ rfl Bl 0 32 cl k rfl rfl HLT.out ?_
            go_simp
            refine hK _ ?_
            clear hK K'
            refine walk_float rfl rfl (fun K' hK => ?_)
            refine gives_tag_byte _ _ rfl Bl (32 * k) j (32 * k + j) rfl rfl HLJ.out rfl ?_
            go_simp
            refine hK _ ?_
            clear hK K'
            refine walk_float rfl rfl (fun K' hK => ?_)
            refine gives_cell _ _ rfl ⟨Bl, 32 * k + j, none⟩ (.int .u8 (natF (L.getD k []) j : Nat)) rfl box_byte (fun W h => h.2.get KL.out j _ CS.out) ?_
            go_simp
            refine hK _ ?_
            clear hK K'
            refine walk_float rfl rfl (fun K' hK => ?_)
            refine gives_byte_same _ _ rfl (natF (L.getD k []) j : Nat) rfl rfl ?_
            go_simp
            refine hK _ ?_
            clear hK K'
            refine walk_nil ?_
            go_wp2
            go_roundw
            case rel => exact ⟨j + 1, HLJ.out, by go_num, D5.out, L5.out, B5.out⟩
            case measure => have := HLJ.out; simp [intOf]; omega
          · obtain rfl : j = 32 := by omega
            have f2 : ¬ ((32 : Nat) : Int) < 32 := by omega
            have f3 : IntKind.i64.wrap ((k : Int) + 1) = ((k + 1 : Nat) : Int) := by have := HLT.out; rw [IntWalk.i64_in _ (by omega)]; omega
            go_wp2
            go_roundw
            case rel => exact ⟨k + 1, HLT.out, by go_num, DJ.out, LJ.out, BJ.out⟩
            case measure => have := HLT.out; simp [intOf]; omega
      · obtain rfl : k = 32 := by omega
        have f1 : ¬ ((32 : Nat) : Int) < 32 := by omega
        have SC := Lib.hid (fun (W : World) B (h : CellB W B (bytC 1024 (flatF L))) => sums_of_cells (w := W) (B := B) (L := L) (by rw [LL.out]; exact h))
        go_wp2_with (first
          | (go_at_call 13; refine (Tags_ok Bd 0 8 (flatF L) wr DD.out.lt DD.out.row).mono ?_; rintro e w5 ⟨rfl, hd, hb⟩
             have T5 := Lib.hid (SC.out _ _ hd); have L5 := Lib.hid (LR.out.below hb); have B5 := Lib.hid (BB.out.trans (hb.mono (HS.out ▸ BB.out.size)))
             clear hd hb DD LR BB SC)
          | (go_at_call 14; refine (same_any _ _ 32 cl 32 L LL.out (by decide) w5 T5.out.at L5.out.at).mono ?_; rintro e w6 ⟨rfl, hb⟩
             have B6 := Lib.hid (B5.out.trans (hb.mono (HS.out ▸ B5.out.size)))
             clear hb T5 L5 B5))
        go_ret
        exact ⟨rfl, B6.out⟩
  · have e1 : decide ((m : Int) = 8) = true := decide_eq_true (by omega)
    have e2 : ((m : Int) == 8) = true := by simp; omega
    have e3 : decide (m = 8) = true := decide_eq_true (by omega)
    have e4 : (m == 8) = true := by simp; omega
    have HN := Lib.hid hn32
    have g1 : ((n0 : Int) == 32) = false := by simp; omega
    have g2 : (n0 == 32) = false := by simp; omega
    have g3 : decide ((n0 : Int) = 32) = false := decide_eq_false (by omega)
    have g4 : decide (n0 = 32) = false := decide_eq_false (by omega)
    have HM8 := Lib.hid hm8
    clear hm8 hn32
    go_enter Try.func4, Try.ntmps4
    go_wp2_with (first
      | (go_at_call 11; refine SU.out.mono ?_; rintro e w1 ⟨Bl, cl, rfl, ho, hb⟩
         have B2 := Lib.hid hb
         clear ho hb SU)
      | (go_at_call 12; refine (Sectors_no _ n0 cl HN.out w1).mono ?_; rintro e w2 ⟨rfl, rfl⟩)
      | (refine wpList_make_cells rfl _ _ rfl m rfl rfl (by have := M12.out; omega) ?_; intro w3 hx hb
         have Z3 := Lib.hid hx; have B3 := Lib.hid (B2.out.trans (hb.mono (HS.out ▸ B2.out.size)))
         clear hx hb  B2)
      | (go_at_call 13
         have hm9 := HM8.out
         subst hm9
         refine (Tags_ok w1.heap.size 0 8 zeroK w3 Z3.out.lt Z3.out.row).mono ?_; rintro e w4 ⟨rfl, -, hb⟩
         have B4 := Lib.hid (B3.out.trans (hb.mono (HS.out ▸ B3.out.size)))
         clear hb Z3 B3)
      | (go_at_call 6; refine (IE.out _).mono ?_; rintro e w99 ⟨rfl, rfl⟩))
    go_ret
    exact ⟨rfl, B4.out⟩
  · have e1 : decide ((m : Int) = 8) = false := decide_eq_false (by omega)
    have e2 : ((m : Int) == 8) = false := by simp; omega
    have e3 : decide (m = 8) = false := decide_eq_false (by omega)
    have e4 : (m == 8) = false := by simp; omega
    have LL := Lib.hid (show L.length = 32 by rw [SL.out]; exact hn32)
    have HN := Lib.hid hn32
    have FA := Lib.hid (fun k i (hi : i < 32) => flatF_at L (k := k) hi)
    have g1 : ((n0 : Int) == 32) = true := by simp; omega
    have g2 : (n0 == 32) = true := by simp; omega
    have g3 : decide ((n0 : Int) = 32) = true := decide_eq_true (by omega)
    have g4 : decide (n0 = 32) = true := decide_eq_true (by omega)
    have HM8 := Lib.hid hm8
    clear hm8 hn32
    go_enter Try.func4, Try.ntmps4
    go_wp2_with (first
      | (go_at_call 11; refine SU.out.mono ?_; rintro e w1 ⟨Bl, cl, rfl, ho, hb⟩
         obtain ⟨hl, hB1⟩ := own_tags ho LL.out
         have L1 := Lib.hid hl; have B1 := Lib.hid hb; have HB1 := Lib.hid hB1
         have hnn := HN.out
         subst hnn
         clear ho hb hl hB1 SU)
      | (go_at_call 12; refine (Sectors_ok _ cl L LL.out w1 L1.out.at).mono ?_; rintro e w2 ⟨rfl, hd, hb⟩
         have D2 := Lib.hid hd; have L2 := Lib.hid (L1.out.below hb); have B2 := Lib.hid (B1.out.trans (hb.mono (HS.out ▸ B1.out.size))); have F2 := Lib.hid (show Bl < w1.heap.size ∧ w1.heap.size < w2.heap.size from ⟨L1.out.lt, hd.lt⟩)
         clear hd hb L1 B1
         generalize w1.heap.size = Bd at *)
      | (refine wpList_make_cells rfl _ _ rfl m rfl rfl (by have := M12.out; omega) ?_; intro w3 hx hb
         have D3 := Lib.hid (D2.out.below hb); have L3 := Lib.hid (L2.out.below hb); have F3 := Lib.hid (show Bl < Bd ∧ Bd < w3.heap.size from ⟨F2.out.1, Nat.lt_of_lt_of_le F2.out.2 hb.size⟩)
         have Z3 := Lib.hid hx; have B3 := Lib.hid (B2.out.trans (hb.mono (HS.out ▸ B2.out.size)))
         clear hx hb D2 L2 F2 B2)
      | (go_at_call 13; refine (Tags_no _ m m HM8.out w3).mono ?_; rintro e w4 ⟨rfl, rfl⟩
         have D4 := D3; have L4 := L3; have F4 := F3
         have B4 := B3
         clear Z3 B3 D3 L3 F3)
      | (go_at_call 6; refine (IE.out _).mono ?_; rintro e w99 ⟨rfl, rfl⟩))
    clear e1 e2 e3 e4 g1 g2 g3 g4 hu hm hm3 HM8 M12 d1 d3
    go_loopw [66] (fun v66 wr => ∃ k : Nat, k ≤ 32 ∧ v66 = .int .i64 k ∧ CellB wr Bd (bytC 1024 (flatF L)) ∧ SumsB wr Bl L ∧ Below S w wr) (fun v66 _ => 32 - (intOf v66).toNat)
    case atStart => exact ⟨0, by omega, rfl, D4.out, L4.out, B4.out⟩
    case round =>
      obtain ⟨k, hk, rfl, hd, hl, hb⟩ := hrel
      have DD := Lib.hid hd; have LR := Lib.hid hl; have BB := Lib.hid hb
      clear hd hl hb D4 L4 B4
      by_cases hlt : k < 32
      · have f1 : (k : Int) < 32 := by omega
        have f3 : IntKind.i64.wrap ((k : Int) + 1) = ((k + 1 : Nat) : Int) := by rw [IntWalk.i64_in _ (by omega)]; omega
        have HLT := Lib.hid hlt
        clear hlt
        go_wp2
        go_loopw [69] (fun v69 wr => ∃ j : Nat, j ≤ 32 ∧ v69 = .int .i64 j ∧ CellB wr Bd (bytC 1024 (flatF L)) ∧ SumsB wr Bl L ∧ Below S w wr) (fun v69 _ => 32 - (intOf v69).toNat)
        case atStart => exact ⟨0, by omega, rfl, DD.out, LR.out, BB.out⟩
        case round =>
          obtain ⟨j, hj, rfl, hd, hl, hb⟩ := hrel
          have DJ := Lib.hid hd; have LJ := Lib.hid hl; have BJ := Lib.hid hb
          clear hd hl hb DD LR BB f3
          by_cases hlj : j < 32
          · have f2 : (j : Int) < 32 := by omega
            have f3 : IntKind.i64.wrap ((j : Int) + 1) = ((j + 1 : Nat) : Int) := by rw [IntWalk.i64_in _ (by omega)]; omega
            have HLJ := Lib.hid hlj
            obtain ⟨k4, hk4⟩ : ∃ k4, k / 4 = k4 := ⟨_, rfl⟩
            obtain ⟨r4, hr4⟩ : ∃ r4, k % 4 = r4 := ⟨_, rfl⟩
            obtain ⟨m32, hm32⟩ : ∃ m32, 32 * r4 = m32 := ⟨_, rfl⟩
            obtain ⟨mj, hmj⟩ : ∃ mj, m32 + j = mj := ⟨_, rfl⟩
            have K4 := Lib.hid hk4; have R4 := Lib.hid hr4; have M32 := Lib.hid hm32
            have G1 := Lib.hid (show k4 < 8 ∧ r4 < 1000 ∧ mj < 128 ∧ 128 * k4 + mj = 32 * k + j ∧ 32 * k + j < 1024 by have := HLT.out; omega)
            have MJ := Lib.hid (show IntKind.i64.wrap ((m32 : Int) + (j : Int)) = (mj : Int) by rw [IntWalk.i64_in _ (by omega)]; omega)
            have CB := Lib.hid (show (bytC 1024 (flatF L))[32 * k + j]? = some (.int .u8 (natF (L.getD k []) j : Nat)) by rw [bytC_get _ G1.out.2.2.2.2, FA.out k j hlj])
            have CS := Lib.hid (sumC_get (L.getD k []) hlj)
            have KL := Lib.hid (show k < L.length by rw [LL.out]; exact HLT.out)
            clear hk4 hr4 hm32 hmj hlj
            go_wp2
            have hb4 : Below wr.heap.size wr wr.drew := (Below.refl _ _).drew
            have D5 := Lib.hid (DJ.out.below hb4); have L5 := Lib.hid (LJ.out.below hb4); have B5 := Lib.hid (BJ.out.trans (hb4.mono (HS.out ▸ BJ.out.size)))
            clear hb4 DJ LJ BJ
            refine wp_region_sched [(0, true), (1, true), (2, true), (3, true), (4, true), (5, true), (6, true), (7, true), (8, true), (9, true), (10, true), (11, true), (12, true), (13, true), (14, true), (15, true), (16, true), (17, true)] (fun W => CellB W Bd (bytC 1024 (flatF L)) ∧ SumsB W Bl L) (by kernel_rfl) (by kernel_rfl) ⟨D5.out, L5.out⟩ ?_
            refine walk_float rfl rfl (fun K' hK => ?_)
            refine gives_move _ rfl ?_
            go_simp
            refine hK _ ?_
            clear hK K'
            refine walk_float rfl rfl (fun K' hK => ?_)
            refine gives_move _ rfl ?_
            go_simp
            refine hK _ ?_
            clear hK K'
            refine walk_float rfl rfl (fun K' hK => ?_)
            refine gives_quo4 _ rfl k rfl (by have := HLT.out; omega) k4 K4.out ?_
            go_simp
            refine hK _ ?_
            clear hK K'
            refine walk_float rfl rfl (fun K' hK => ?_)
            refine gives_move _ rfl ?_
            go_simp
            refine hK _ ?_
            clear hK K'
            refine walk_float rfl rfl (fun K' hK => ?_)
            refine gives_rem4 _ rfl k rfl (by have := HLT.out; omega) r4 R4.out ?_
            go_simp
            refine hK _ ?_
            clear hK K'
            refine walk_float rfl rfl (fun K' hK => ?_)
            refine gives_mul32 _ rfl r4 rfl G1.out.2.1 m32 M32.out ?_
            go_simp
            refine hK _ ?_
            clear hK K'
            refine walk_float rfl rfl (fun K' hK => ?_)
            refine gives_move _ rfl ?_
            go_simp
            refine hK _ ?_
            clear hK K'
            refine walk_float rfl rfl (fun K' hK => ?_)
            refine gives_int_sum _ _ rfl m32 j mj rfl rfl MJ.out ?_
            go_simp
            refine hK _ ?_
            clear hK K'
            refine walk_float rfl rfl (fun K' hK => ?_)
            refine gives_cell_elem _ _ rfl Bd 0 8 8 k4 rfl rfl G1.out.1 ?_
            go_simp
            refine hK _ ?_
            clear hK K'
            refine walk_float rfl rfl (fun K' hK => ?_)
            refine gives_cell_byte _ _ rfl Bd (128 * k4) mj (32 * k + j) rfl rfl G1.out.2.2.1 G1.out.2.2.2.1 ?_
            go_simp
            refine hK _ ?_
            clear hK K'
            refine walk_float rfl rfl (fun K' hK => ?_)
            refine gives_cell _ _ rfl ⟨Bd, 32 * k + j, none⟩ (.int .u8 (natF (L.getD k []) j : Nat)) rfl box_byte (fun W h => h.1.cell CB.out) ?_
            go_simp
            refine hK _ ?_
            clear hK K'
            refine walk_float rfl rfl (fun K' hK => ?_)
            refine gives_move _ rfl ?_
            go_simp
            refine hK _ ?_
            clear hK K'
            refine walk_float rfl rfl (fun K' hK => ?_)
            refine gives_move _ rfl ?_
            go_simp
            refine hK _ ?_
            clear hK K'
            refine walk_float rfl rfl (fun K' hK => ?_)
            refine gives_move _ rfl ?_
            go_simp
            refine hK _ ?_
            clear hK K'
            refine walk_float rfl rfl (fun K' hK => ?_)
            refine gives_sum_elem _ _ rfl Bl 0 32 cl k rfl rfl HLT.out ?_
            go_simp
            refine hK _ ?_
            clear hK K'
            refine walk_float rfl rfl (fun K' hK => ?_)
            refine gives_tag_byte _ _ rfl Bl (32 * k) j (32 * k + j) rfl rfl HLJ.out rfl ?_
            go_simp
            refine hK _ ?_
            clear hK K'
            refine walk_float rfl rfl (fun K' hK => ?_)
            refine gives_cell _ _ rfl ⟨Bl, 32 * k + j, none⟩ (.int .u8 (natF (L.getD k []) j : Nat)) rfl box_byte (fun W h => h.2.get KL.out j _ CS.out) ?_
            go_simp
            refine hK _ ?_
            clear hK K'
            refine walk_float rfl rfl (fun K' hK => ?_)
            refine gives_byte_same _ _ rfl (natF (L.getD k []) j : Nat) rfl rfl ?_
            go_simp
            refine hK _ ?_
            clear hK K'
            refine walk_nil ?_
            go_wp2
            go_roundw
            case rel => exact ⟨j + 1, HLJ.out, by go_num, D5.out, L5.out, B5.out⟩
            case measure => have := HLJ.out; simp [intOf]; omega
          · obtain rfl : j = 32 := by omega
            have f2 : ¬ ((32 : Nat) : Int) < 32 := by omega
            have f3 : IntKind.i64.wrap ((k : Int) + 1) = ((k + 1 : Nat) : Int) := by have := HLT.out; rw [IntWalk.i64_in _ (by omega)]; omega
            go_wp2
            go_roundw
            case rel => exact ⟨k + 1, HLT.out, by go_num, DJ.out, LJ.out, BJ.out⟩
            case measure => have := HLT.out; simp [intOf]; omega
      · obtain rfl : k = 32 := by omega
        have f1 : ¬ ((32 : Nat) : Int) < 32 := by omega
        have SC := Lib.hid (fun (W : World) B (h : CellB W B (bytC 1024 (flatF L))) => sums_of_cells (w := W) (B := B) (L := L) (by rw [LL.out]; exact h))
        go_wp2_with (first
          | (go_at_call 13; refine (Tags_ok Bd 0 8 (flatF L) wr DD.out.lt DD.out.row).mono ?_; rintro e w5 ⟨rfl, hd, hb⟩
             have T5 := Lib.hid (SC.out _ _ hd); have L5 := Lib.hid (LR.out.below hb); have B5 := Lib.hid (BB.out.trans (hb.mono (HS.out ▸ BB.out.size)))
             clear hd hb DD LR BB SC)
          | (go_at_call 14; refine (same_any _ _ 32 cl 32 L LL.out (by decide) w5 T5.out.at L5.out.at).mono ?_; rintro e w6 ⟨rfl, hb⟩
             have B6 := Lib.hid (B5.out.trans (hb.mono (HS.out ▸ B5.out.size)))
             clear hb T5 L5 B5))
        go_ret
        exact ⟨rfl, B6.out⟩
  · have e1 : decide ((m : Int) = 8) = false := decide_eq_false (by omega)
    have e2 : ((m : Int) == 8) = false := by simp; omega
    have e3 : decide (m = 8) = false := decide_eq_false (by omega)
    have e4 : (m == 8) = false := by simp; omega
    have HN := Lib.hid hn32
    have g1 : ((n0 : Int) == 32) = false := by simp; omega
    have g2 : (n0 == 32) = false := by simp; omega
    have g3 : decide ((n0 : Int) = 32) = false := decide_eq_false (by omega)
    have g4 : decide (n0 = 32) = false := decide_eq_false (by omega)
    have HM8 := Lib.hid hm8
    clear hm8 hn32
    go_enter Try.func4, Try.ntmps4
    go_wp2_with (first
      | (go_at_call 11; refine SU.out.mono ?_; rintro e w1 ⟨Bl, cl, rfl, ho, hb⟩
         have B2 := Lib.hid hb
         clear ho hb SU)
      | (go_at_call 12; refine (Sectors_no _ n0 cl HN.out w1).mono ?_; rintro e w2 ⟨rfl, rfl⟩)
      | (refine wpList_make_cells rfl _ _ rfl m rfl rfl (by have := M12.out; omega) ?_; intro w3 hx hb
         have Z3 := Lib.hid hx; have B3 := Lib.hid (B2.out.trans (hb.mono (HS.out ▸ B2.out.size)))
         clear hx hb  B2)
      | (go_at_call 13; refine (Tags_no _ m m HM8.out w3).mono ?_; rintro e w4 ⟨rfl, rfl⟩
         have B4 := B3
         clear Z3 B3)
      | (go_at_call 6; refine (IE.out _).mono ?_; rintro e w99 ⟨rfl, rfl⟩))
    go_ret
    exact ⟨rfl, B4.out⟩

theorem laidOut : laidOutB Try.prog = true := by kernel_rfl
set_option maxRecDepth 100000 in
theorem lifted (os : Os) (started : os.Started) (H : Type) (enc : TypeId × Value → H) :
    ReturnsInHanded {} Try.checked os 4 .any (Rows.treeSectorsSpec.pre6 enc Try.prog Try.f4 Rows.treeSectorsRow.domain false) (Rows.treeSectorsSpec.post enc Try.prog Try.f4 false true false false) := by
  refine returnsInHanded_of_change (C := Try.checked) own started (by kernel_rfl) Try.func4
    (ChangeSpec.witness6 (enc := enc) (C := Try.checked) false ⟨#[], #[.slice none 0 0, .int .i64 0], []⟩ 8 (by kernel_rfl) (by kernel_rfl) (by kernel_rfl) (by kernel_rfl)) ?_
  intro W base args ds gs before hval0 hW hcnd _
  have hval : ∀ (j : Nat) t v, Try.f4.params[j]? = some t → args[j]? = some v → Value.okWide Try.prog W .any base t v := hval0
  have hW' := hW
  obtain ⟨p, q, hA0, hV, rfl, hfz, hnd⟩ := hW
  have hA : DataW.TrodAll enc Try.prog W 0 (fun _ => true) true Try.f4.params.toList args.toList ds p := hA0
  rw [Try.params4] at hA hval
  obtain ⟨v0, vs0, d0, ds0, p0, q0, hargs, rfl, rfl, h0, r0⟩ := trodAll_cons hA
  obtain ⟨v1, vs1, d1, ds1, p1, q1, rfl, rfl, rfl, h1, r1⟩ := trodAll_cons r0
  obtain ⟨rfl, rfl, rfl⟩ := trodAll_nil r1
  obtain rfl : args = #[v0, v1] := by cases args; simp_all
  obtain ⟨rfl, rfl⟩ := trodVars_none hV
  have k0 := h0
  have lt0 : ∀ x ∈ p0, x.block < W.heap.size := by obtain ⟨m, hm⟩ := k0; exact DataW.trod_lt m _ _ _ hm
  obtain ⟨q0, n0, c0, a0, rfl, w0, y0, l0, m0⟩ := open_byteslice (hval 0 22 v0 rfl rfl) h0
  obtain ⟨a1, rfl, rfl, rfl, w1⟩ := open_int Try.underlying3 (hval 1 3 v1 rfl rfl) h1
  clear hA0 hval0
  refine (walk q0 n0 c0 a0 a1 w0 l0 m0 w1 W y0).mono fun e W' ⟨he, bel⟩ => ?_
  subst he
  exact ⟨_, rfl, _, _, _, [], _, [], hW', trodAll_mk1 (shut_bool Try.underlying4 _), (trodAll_cons_mk (Below.trod laidOut (by kernel_rfl) (of_decide_eq_true (by kernel_rfl)) k0 bel lt0) (trodAll_cons_mk (shut_int Try.underlying3 w1) trodAll_mk0)), rfl, bel.frame _, fun h => by cases h⟩

theorem over : Rows.treeSectorsRow.holds Try.pinned (OpenSpec.ofChange Rows.treeSectorsSpec) :=
  OpenClaim.holds_of_wide 4 Try.f4 rfl rfl rfl rfl rfl rfl rfl ⟨rfl, rfl, rfl, rfl, rfl⟩ rfl rfl rfl rfl rfl (by kernel_rfl) Try.func4 (by kernel_rfl)
    (of_decide_eq_true (by kernel_rfl)) (by unfold Func.isWrapper; first | (rw [if_pos (by decide +kernel)]; kernel_rfl) | (rw [if_neg (by decide +kernel)]; exact ⟨rfl, rfl⟩))
    (fun os started H enc _ => lifted os started H enc)

theorem proved : Rows.TreeSectorsSaid := over
end Go.Proofs.Ytghdeedglekphaa.treeSectors
