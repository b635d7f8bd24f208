/- Which slot a unit's keys have, with every key, and which keys every sector is the slot of: the statement VaultSlots, tied to the program's text. -/
import Derived.Test.YtghdeedglekphaaVsNum
import Derived.Test.YtghdeedglekphaaRdErr
import Derived.Deep.DeepHandedRow
namespace Go.Proofs.Ytghdeedglekphaa.vaultSlots
open Go.ChangeShapes Go.WideShapes Go.ChangeAt Go.RowKit
set_option linter.unusedVariables false
theorem own : ownKnob Try.prog.godebug = none := by kernel_rfl
theorem Num_of (z : Int) (hz : (z == 0) = false) (w : World) : Calls Try.prog 9 #[.iface 33 (.int .i64 z)] w fun e w' => e = .returned (.int .i64 z) ∧ w = w' := Num_err z hz w
section
variable {o : Oper} {a : Act} {C : World → Prop} {K : Act → Prop}
theorem gives_none_neq (x : Operand) (ho : o.op = .binOp .neq 29 x (.const .nilIface) 29) (hx : a.eval x = .nilIface) (hk : K (a.put o.dst (.bool false))) : ∃ v, Gives Try.prog C o a v ∧ K (a.put o.dst v) :=
  ⟨_, fun w _ => by
    unfold execOp
    simp only [ho, hx]
    simp [go_sem, Act.eval], hk⟩
end
theorem both_halves (g : Nat → Nat) : mk (32 + 32) (cat 32 (fun j => natF (mk 64 g) j) fun j => natF (mk 64 g) (32 + j)) = mk 64 g := mk_ext fun j hj => by
  unfold cat
  by_cases h : j < 32
  · rw [if_pos h]; exact natF_mk (by omega)
  · rw [if_neg h]
    have := natF_mk (f := g) (n := 64) (j := 32 + (j - 32)) (by omega)
    rw [show 32 + (j - 32) = j by omega] at this
    show natF (mk 64 g) (32 + (j - 32)) = g j
    rw [show 32 + (j - 32) = j by omega]; exact this
attribute [local irreducible] nought sumVal sumC secVal secC bytC noSec fTo keyC keyV noKeys padF halfK accK wrpN unwN rkS sameS txt strOfNums cat
set_option maxRecDepth 100000 in
set_option maxHeartbeats 8000000 in
theorem walk (q0 : Option Addr) (n0 c0 : Nat) (a0 : Nat → Nat) (q1 : Option Addr) (n1 c1 : Nat) (a1 : Nat → Nat) (f : Nat → Nat) (w0 : ∀ i, i < n0 → a0 i < 256) (l0 : n0 ≤ c0) (m0 : c0 ≤ maxLen) (w1 : ∀ i, i < n1 → a1 i < 256) (l1 : n1 ≤ c1) (m1 : c1 ≤ maxLen) (hf : ∀ i, i < 128 → f i < 256) (w : World) (y0 : BytesAt w q0 n0 a0) (y1 : BytesAt w q1 n1 a1) :
    Calls Try.prog 3 #[.slice q0 n0 c0, .slice q1 n1 c1, .agg (cellsOf .u8 (mk 128 f))] w fun e w' => e = .returned (.bool true) ∧ Below w.heap.size w w' := by
  obtain ⟨s, hs, hsec⟩ : ∃ s, .agg (cellsOf .u8 (mk 128 f)) = secVal s ∧ IsSec s := ⟨mk 128 f, by unfold secVal; rw [show mk 128 (natF (mk 128 f)) = mk 128 f from mk_ext fun j hj => natF_mk hj], isSec_mk hf⟩
  rw [hs]
  clear hs hf m0 m1
  by_cases hn0 : n0 ≤ 1000
  case neg =>
    have d1 : (1000 : Int) < (n0 : Int) := by omega
    have d3 : decide (1000 < n0) = true := decide_eq_true (by omega)
    clear w0 l0 w1 l1 y0 y1 hsec
    generalize hS : w.heap.size = S at *
    have HS := Lib.hid hS
    clear hS
    go_enter Try.func3, Try.ntmps3
    go_wp2_with (first
      | (refine wpList_cell_boxed rfl _ rfl s rfl S HS.out ?_; intro w1 hx hb hs
         have C1 := Lib.hid hx; have B1 := Lib.hid hb; have FAR1 := Lib.hid (show S + 1 ≤ w1.heap.size by omega); clear hx hb hs))
    go_ret
    exact ⟨rfl, B1.out⟩
  case pos =>
  by_cases hn1 : n1 ≤ 1000
  case neg =>
    have d1 : ¬ ((1000 : Int) < (n0 : Int)) := by omega
    have d3 : decide (1000 < n0) = false := decide_eq_false (by omega)
    have e1 : (1000 : Int) < (n1 : Int) := by omega
    have e3 : decide (1000 < n1) = true := decide_eq_true (by omega)
    clear w0 l0 w1 l1 y0 y1 hsec
    generalize hS : w.heap.size = S at *
    have HS := Lib.hid hS
    clear hS
    go_enter Try.func3, Try.ntmps3
    go_wp2_with (first
      | (refine wpList_cell_boxed rfl _ rfl s rfl S HS.out ?_; intro w1 hx hb hs
         have C1 := Lib.hid hx; have B1 := Lib.hid hb; have FAR1 := Lib.hid (show S + 1 ≤ w1.heap.size by omega); clear hx hb hs))
    go_ret
    exact ⟨rfl, B1.out⟩
  case pos =>
  by_cases h64 : n1 = 64
  case neg =>
    have d1 : ¬ ((1000 : Int) < (n0 : Int)) := by omega
    have d3 : decide (1000 < n0) = false := decide_eq_false (by omega)
    have e1 : ¬ ((1000 : Int) < (n1 : Int)) := by omega
    have e3 : decide (1000 < n1) = false := decide_eq_false (by omega)
    have g1 : ((n1 : Int) == 64) = false := by simp; omega
    have g2 : (n1 == 64) = false := by simp; omega
    have g3 : decide ((n1 : Int) = 64) = false := decide_eq_false (by omega)
    have g4 : decide (n1 = 64) = false := decide_eq_false (by omega)
    have KO := Lib.hid (fun (V : World) (h : Below w.heap.size w V) => KeysOf_no q1 n1 c1 h64 V)
    have IE := Lib.hid (fun (V : World) => Is_err 3 rfl V)
    clear w0 l0 w1 l1 y0 y1 hsec h64 hn0 hn1
    generalize hS : w.heap.size = S at *
    have HS := Lib.hid hS
    clear hS
    go_enter Try.func3, Try.ntmps3
    go_wp2_with (first
      | (refine wpList_cell_boxed rfl _ rfl s rfl S HS.out ?_; intro w1 hx hb hs
         have C1 := Lib.hid hx; have B1 := Lib.hid hb; have FAR1 := Lib.hid (show S + 1 ≤ w1.heap.size by omega); clear hx hb hs)
      | (go_at_call 5; refine (KO.out w1 (HS.out.symm ▸ B1.out)).mono ?_; rintro e w2 ⟨rfl, hb⟩
         have C2 := Lib.hid (C1.out.below hb); have B2 := Lib.hid (B1.out.trans (hb.mono (HS.out ▸ B1.out.size))); have FAR2 := Lib.hid (show S + 1 ≤ w2.heap.size by have := FAR1.out; have := hb.size; omega)
         clear hb C1 B1 FAR1)
      | (refine wpList_ukey_alloc rfl rfl w2.heap.size rfl ?_; intro w3 hx hb hs
         have C3 := Lib.hid (C2.out.below hb); have U3 := Lib.hid hx; have B3 := Lib.hid (B2.out.trans (hb.mono (HS.out ▸ B2.out.size)))
         have FAR3 := Lib.hid (show S + 1 ≤ w2.heap.size ∧ w2.heap.size < w3.heap.size by have := FAR2.out; omega)
         clear hx hb hs C2 B2 FAR2
         generalize w2.heap.size = BU at *)
      | (refine wpList_ukey_store rfl _ _ rfl rfl BU rfl noKeys rfl noKeys U3.out ?_; intro w4 hx hb hs
         have C4 := Lib.hid (C3.out.but hb (by have := FAR3.out; omega)); have U4 := Lib.hid hx; have B4 := Lib.hid (B3.out.trans (hb.below (by have := FAR3.out; omega) (HS.out ▸ B3.out.size)))
         have FAR4 := Lib.hid (show S + 1 ≤ BU ∧ BU < w4.heap.size by have := FAR3.out; omega)
         clear hx hb hs C3 U3 B3 FAR3)
      | (go_at_call 6; refine (IE.out _).mono ?_; rintro e w99 ⟨rfl, rfl⟩)
      | (refine wpList_ukey_load rfl _ rfl BU rfl noKeys U4.out.row ?_)
      | (refine wpList_ukey_build0 rfl rfl ?_)
      | (refine wpList_ukey_eql rfl _ _ rfl noKeys rfl rfl ?_))
    go_ret
    exact ⟨rfl, B4.out⟩
  case pos =>
  by_cases hgood : n0 = 16 ∨ n0 = 32
  case neg =>
    have h16 : n0 ≠ 16 := fun h => hgood (.inl h)
    have h32 : n0 ≠ 32 := fun h => hgood (.inr h)
    clear hgood
    have d1 : ¬ ((1000 : Int) < (n0 : Int)) := by omega
    have d3 : decide (1000 < n0) = false := decide_eq_false (by omega)
    have e1 : ¬ ((1000 : Int) < (n1 : Int)) := by omega
    have e3 : decide (1000 < n1) = false := decide_eq_false (by omega)
    obtain rfl : n1 = 64 := h64
    have KO := Lib.hid (fun (V : World) (h : Below w.heap.size w V) => KeysOf_ok q1 c1 a1 l1 V (y1.below h))
    have Y1 := Lib.hid (fun (V : World) (h : Below w.heap.size w V) => y1.below h)
    have EQ := Lib.hid (both_halves a1)
    have hU : IsU (mk 64 a1) := isU_mk w1
    have SX := Lib.hid sameS_self
    have SL := Lib.hid (fun (V : World) (h : Below w.heap.size w V) => Slot_key q0 n0 c0 h16 h32 (mk 64 a1) hU V)
    have RS := Lib.hid (fun (V : World) (h : Below w.heap.size w V) => refSlot_key q0 n0 c0 h16 h32 (mk 64 a1) hU V)
    have TK := Lib.hid (fun (V : World) (h : Below w.heap.size w V) => TakeSlot_bad q0 n0 c0 h16 h32 s hsec V)
    have NE := Lib.hid (fun (V : World) => Num_of 3 rfl V)
    clear h16 h32
    clear w0 l0 w1 l1 y0 y1 hsec hn0 hn1 hU
    have KB := Lib.hid (fun (V : World) B (h : CellB V B (keyC (mk 64 a1))) => (⟨key_bytes h (k := 0) (by decide), key_bytes h (k := 1) (by decide)⟩ : _ ∧ _))
    generalize hUU : mk 64 a1 = U at *
    have EU := Lib.hid hUU
    clear hUU
    generalize hS : w.heap.size = S at *
    have HS := Lib.hid hS
    clear hS
    go_enter Try.func3, Try.ntmps3
    go_wp2_with (first
      | (refine wpList_cell_boxed rfl _ rfl s rfl S HS.out ?_; intro w1 hx hb hs
         have C1 := Lib.hid hx; have B1 := Lib.hid hb; have FAR1 := Lib.hid (show S + 1 ≤ w1.heap.size by omega); clear hx hb hs)
      | (go_at_call 5; refine (KO.out w1 (HS.out.symm ▸ B1.out)).mono ?_; rintro e w2 ⟨rfl, hb⟩
         have C2 := Lib.hid (C1.out.below hb); have B2 := Lib.hid (B1.out.trans (hb.mono (HS.out ▸ B1.out.size))); have FAR2 := Lib.hid (show S + 1 ≤ w2.heap.size by have := FAR1.out; have := hb.size; omega)
         clear hb C1 B1 FAR1)
      | (refine wpList_ukey_alloc rfl rfl w2.heap.size rfl ?_; intro w3 hx hb hs
         have C3 := Lib.hid (C2.out.below hb); have U3 := Lib.hid hx; have B3 := Lib.hid (B2.out.trans (hb.mono (HS.out ▸ B2.out.size)))
         have FAR3 := Lib.hid (show S + 1 ≤ w2.heap.size ∧ w2.heap.size < w3.heap.size by have := FAR2.out; omega)
         clear hx hb hs C2 B2 FAR2
         generalize w2.heap.size = BU at *)
      | (refine wpList_ukey_store rfl _ _ rfl rfl BU rfl U rfl noKeys U3.out ?_; intro w4 hx hb hs
         have C4 := Lib.hid (C3.out.but hb (by have := FAR3.out; omega)); have U4 := Lib.hid hx; have B4 := Lib.hid (B3.out.trans (hb.below (by have := FAR3.out; omega) (HS.out ▸ B3.out.size)))
         have FAR4 := Lib.hid (show S + 1 ≤ BU ∧ BU < w4.heap.size by have := FAR3.out; omega)
         clear hx hb hs C3 U3 B3 FAR3))
    have hb4 : Below w4.heap.size w4 w4.drew := (Below.refl _ _).drew
    have C5 := Lib.hid (C4.out.below hb4); have U5 := Lib.hid (U4.out.below hb4); have B5 := Lib.hid (B4.out.trans (hb4.mono (HS.out ▸ B4.out.size))); have FAR5 := Lib.hid (show S + 1 ≤ BU ∧ BU < w4.drew.heap.size by have := FAR4.out; have := hb4.size; omega)
    have Q5 := Lib.hid (Y1.out w4.drew (HS.out.symm ▸ B5.out))
    clear hb4 C4 U4 B4 FAR4
    refine wp_region_sched [(0, true), (1, true), (2, true), (3, true), (4, true), (5, true), (6, true), (7, true), (8, true), (9, true), (10, true), (11, true), (12, true), (13, true)] (fun W => CellB W BU (keyC U) ∧ BytesAt W q1 64 a1) (by kernel_rfl) (by kernel_rfl) ⟨U5.out, Q5.out⟩ ?_
    refine walk_float rfl rfl (fun K' hK => ?_)
    refine gives_move _ rfl ?_
    go_simp
    refine hK _ ?_
    clear hK K'
    refine walk_float rfl rfl (fun K' hK => ?_)
    refine gives_none_neq _ rfl rfl ?_
    go_simp
    refine hK _ ?_
    clear hK K'
    refine walk_float rfl rfl (fun K' hK => ?_)
    refine gives_move _ rfl ?_
    go_simp
    refine hK _ ?_
    clear hK K'
    refine walk_float rfl rfl (fun K' hK => ?_)
    refine gives_ukey_field _ 0 rfl (by decide) BU 0 rfl rfl ?_
    go_simp
    refine hK _ ?_
    clear hK K'
    refine walk_float rfl rfl (fun K' hK => ?_)
    refine gives_arr_slice 25 5 32 arr32Und rfl _ rfl BU 0 rfl ?_
    go_simp
    refine hK _ ?_
    clear hK K'
    refine walk_float rfl rfl (fun K' hK => ?_)
    refine gives_string _ rfl (some ⟨BU, 0, none⟩) 32 32 rfl (fun j => natF U (32 * 0 + j)) (fun W h => (KB.out W BU h.1).1) ?_
    go_simp
    refine hK _ ?_
    clear hK K'
    refine walk_float rfl rfl (fun K' hK => ?_)
    refine gives_ukey_field _ 1 rfl (by decide) BU 32 rfl rfl ?_
    go_simp
    refine hK _ ?_
    clear hK K'
    refine walk_float rfl rfl (fun K' hK => ?_)
    refine gives_arr_slice 25 5 32 arr32Und rfl _ rfl BU 32 rfl ?_
    go_simp
    refine hK _ ?_
    clear hK K'
    refine walk_float rfl rfl (fun K' hK => ?_)
    refine gives_string _ rfl (some ⟨BU, 32, none⟩) 32 32 rfl (fun j => natF U (32 * 1 + j)) (fun W h => (KB.out W BU h.1).2) ?_
    go_simp
    refine hK _ ?_
    clear hK K'
    refine walk_float rfl rfl (fun K' hK => ?_)
    refine gives_str_add _ _ rfl 32 32 (fun j => natF U (32 * 0 + j)) (fun j => natF U (32 * 1 + j)) rfl rfl (by decide) ?_
    go_simp
    refine hK _ ?_
    clear hK K'
    refine walk_float rfl rfl (fun K' hK => ?_)
    refine gives_move _ rfl ?_
    go_simp
    refine hK _ ?_
    clear hK K'
    refine walk_float rfl rfl (fun K' hK => ?_)
    refine gives_string _ rfl q1 64 c1 rfl a1 (fun W h => h.2) ?_
    go_simp
    refine hK _ ?_
    clear hK K'
    have EQS := EQ.out
    refine walk_float rfl rfl (fun K' hK => ?_)
    refine gives_str_same _ _ rfl (strOfNums U) (by first | rfl | (show Value.string (strOfNums (mk (32 + 32) (cat 32 _ _))) = _; rw [EQ.out])) (by first | rfl | (show Value.string (strOfNums (mk 64 a1)) = _; rw [EU.out])) ?_
    go_simp
    refine hK _ ?_
    clear hK K'
    refine walk_float rfl rfl (fun K' hK => ?_)
    refine gives_pickF _ _ _ rfl rfl (.bool false) rfl ?_
    go_simp
    refine hK _ ?_
    clear hK K'
    refine walk_nil ?_
    clear KB Y1 Q5 EQ EU
    generalize w4.drew = w5 at *
    go_wp2_with (first
      | (refine wpList_ukey_load rfl _ rfl BU rfl U U5.out.row ?_)
      | (go_at_call 7; refine (SL.out w5 (HS.out.symm ▸ B5.out)).mono ?_; rintro e w6 ⟨rfl, hb⟩
         have C6 := Lib.hid (C5.out.below hb); have U6 := Lib.hid (U5.out.below hb); have B6 := Lib.hid (B5.out.trans (hb.mono (HS.out ▸ B5.out.size))); have FAR6 := Lib.hid (show S + 1 ≤ BU ∧ BU < w6.heap.size by have := FAR5.out; have := hb.size; omega)
         clear hb C5 U5 B5 FAR5)
      | (refine wpList_cell_alloc rfl rfl w6.heap.size rfl ?_; intro w7 hx hb hs
         have C7 := Lib.hid (C6.out.below hb); have U7 := Lib.hid (U6.out.below hb); have S17 := Lib.hid hx; have B7 := Lib.hid (B6.out.trans (hb.mono (HS.out ▸ B6.out.size)))
         have FAR7 := Lib.hid (show S + 1 ≤ BU ∧ BU < w6.heap.size ∧ w6.heap.size < w7.heap.size by have := FAR6.out; omega)
         clear hx hb hs C6 U6 B6 FAR6
         generalize w6.heap.size = BS at *)
      | (refine wpList_cell_store rfl _ _ rfl rfl BS rfl noSec rfl noSec S17.out ?_; intro w8 hx hb hs
         have C8 := Lib.hid (C7.out.but hb (by have := FAR7.out; omega)); have U8 := Lib.hid (U7.out.but hb (by have := FAR7.out; omega)); have S18 := Lib.hid hx; have B8 := Lib.hid (B7.out.trans (hb.below (by have := FAR7.out; omega) (HS.out ▸ B7.out.size)))
         have FAR8 := Lib.hid (show S + 1 ≤ BU ∧ BU < BS ∧ BS < w8.heap.size by have := FAR7.out; omega)
         clear hx hb hs C7 U7 S17 B7 FAR7)
      | (refine wpList_ukey_load rfl _ rfl BU rfl U U8.out.row ?_)
      | (go_at_call 8; refine (RS.out w8 (HS.out.symm ▸ B8.out)).mono ?_; rintro e w9 ⟨rfl, hb⟩
         have C9 := Lib.hid (C8.out.below hb); have U9 := Lib.hid (U8.out.below hb); have S19 := Lib.hid (S18.out.below hb); have B9 := Lib.hid (B8.out.trans (hb.mono (HS.out ▸ B8.out.size))); have FAR9 := Lib.hid (show S + 1 ≤ BU ∧ BU < BS ∧ BS < w9.heap.size by have := FAR8.out; have := hb.size; omega)
         clear hb C8 U8 S18 B8 FAR8)
      | (refine wpList_cell_alloc rfl rfl w9.heap.size rfl ?_; intro w10 hx hb hs
         have C10 := Lib.hid (C9.out.below hb); have U10 := Lib.hid (U9.out.below hb); have S110 := Lib.hid (S19.out.below hb); have W110 := Lib.hid hx; have B10 := Lib.hid (B9.out.trans (hb.mono (HS.out ▸ B9.out.size)))
         have FAR10 := Lib.hid (show S + 1 ≤ BU ∧ BU < BS ∧ BS < w9.heap.size ∧ w9.heap.size < w10.heap.size by have := FAR9.out; omega)
         clear hx hb hs C9 U9 S19 B9 FAR9
         generalize w9.heap.size = BW at *)
      | (refine wpList_cell_store rfl _ _ rfl rfl BW rfl noSec rfl noSec W110.out ?_; intro w11 hx hb hs
         have C11 := Lib.hid (C10.out.but hb (by have := FAR10.out; omega)); have U11 := Lib.hid (U10.out.but hb (by have := FAR10.out; omega)); have S111 := Lib.hid (S110.out.but hb (by have := FAR10.out; omega)); have W111 := Lib.hid hx; have B11 := Lib.hid (B10.out.trans (hb.below (by have := FAR10.out; omega) (HS.out ▸ B10.out.size)))
         have FAR11 := Lib.hid (show S + 1 ≤ BU ∧ BU < BS ∧ BS < BW ∧ BW < w11.heap.size by have := FAR10.out; omega)
         clear hx hb hs C10 U10 S110 W110 B10 FAR10)
      | (refine wpList_cell_load rfl _ rfl BS 0 rfl noSec S111.out.row ?_)
      | (refine wpList_cell_load rfl _ rfl BW 0 rfl noSec W111.out.row ?_)
      | (refine wpList_cell_neq rfl _ _ rfl noSec noSec rfl rfl false (by rw [SX.out]; rfl) ?_)
      | (go_at_call 9; refine (NE.out _).mono ?_; rintro e w99 ⟨rfl, rfl⟩)
      | (refine wpList_cell_load rfl _ rfl S 0 rfl s C11.out.row ?_)
      | (go_at_call 10; refine (TK.out w11 (HS.out.symm ▸ B11.out)).mono ?_; rintro e w12 ⟨rfl, hb⟩
         have C12 := Lib.hid (C11.out.below hb); have U12 := Lib.hid (U11.out.below hb); have S112 := Lib.hid (S111.out.below hb); have W112 := Lib.hid (W111.out.below hb); have B12 := Lib.hid (B11.out.trans (hb.mono (HS.out ▸ B11.out.size))); have FAR12 := Lib.hid (show S + 1 ≤ BU ∧ BU < BS ∧ BS < BW ∧ BW < w12.heap.size by have := FAR11.out; have := hb.size; omega)
         clear hb C11 U11 S111 W111 B11 FAR11)
      | (refine wpList_ukey_alloc rfl rfl w12.heap.size rfl ?_; intro w13 hx hb hs
         have C13 := Lib.hid (C12.out.below hb); have U13 := Lib.hid (U12.out.below hb); have S113 := Lib.hid (S112.out.below hb); have W113 := Lib.hid (W112.out.below hb); have X113 := Lib.hid hx; have B13 := Lib.hid (B12.out.trans (hb.mono (HS.out ▸ B12.out.size)))
         have FAR13 := Lib.hid (show S + 1 ≤ BU ∧ BU < BS ∧ BS < BW ∧ BW < w12.heap.size ∧ w12.heap.size < w13.heap.size by have := FAR12.out; omega)
         clear hx hb hs C12 U12 S112 W112 B12 FAR12
         generalize w12.heap.size = BX at *)
      | (refine wpList_ukey_store rfl _ _ rfl rfl BX rfl noKeys rfl noKeys X113.out ?_; intro w14 hx hb hs
         have C14 := Lib.hid (C13.out.but hb (by have := FAR13.out; omega)); have U14 := Lib.hid (U13.out.but hb (by have := FAR13.out; omega)); have S114 := Lib.hid (S113.out.but hb (by have := FAR13.out; omega)); have W114 := Lib.hid (W113.out.but hb (by have := FAR13.out; omega)); have X114 := Lib.hid hx; have B14 := Lib.hid (B13.out.trans (hb.below (by have := FAR13.out; omega) (HS.out ▸ B13.out.size)))
         have FAR14 := Lib.hid (show S + 1 ≤ BU ∧ BU < BS ∧ BS < BW ∧ BW < BX ∧ BX < w14.heap.size by have := FAR13.out; omega)
         clear hx hb hs C13 U13 S113 W113 X113 B13 FAR13)
      | (refine wpList_ukey_load rfl _ rfl BX rfl noKeys X114.out.row ?_)
      | (refine wpList_ukey_build0 rfl rfl ?_)
      | (refine wpList_ukey_neq rfl _ _ rfl noKeys rfl rfl ?_))
    go_ret
    exact ⟨rfl, B14.out⟩
  case pos =>
  obtain ⟨N, hN, hN2⟩ : ∃ N, n0 = 4 * N ∧ (N = 4 ∨ N = 8) := by rcases hgood with h | h; exact ⟨4, h, .inl rfl⟩; exact ⟨8, h, .inr rfl⟩
  clear hgood
  by_cases hok : padF 72 (natF s) = s ∧ sure (unwN (rkS N a0) (N + 7) 8 (natF s)) = true
  case neg =>
    have d1 : ¬ ((1000 : Int) < (n0 : Int)) := by omega
    have d3 : decide (1000 < n0) = false := decide_eq_false (by omega)
    have e1 : ¬ ((1000 : Int) < (n1 : Int)) := by omega
    have e3 : decide (1000 < n1) = false := decide_eq_false (by omega)
    obtain rfl : n1 = 64 := h64
    have KO := Lib.hid (fun (V : World) (h : Below w.heap.size w V) => KeysOf_ok q1 c1 a1 l1 V (y1.below h))
    have Y1 := Lib.hid (fun (V : World) (h : Below w.heap.size w V) => y1.below h)
    have EQ := Lib.hid (both_halves a1)
    have hU : IsU (mk 64 a1) := isU_mk w1
    have SX := Lib.hid sameS_self
    have SL := Lib.hid (fun (V : World) (h : Below w.heap.size w V) => Slot_ok q0 n0 c0 N a0 hN hN2 l0 w0 (mk 64 a1) hU V (y0.below h))
    have RS := Lib.hid (fun (V : World) (h : Below w.heap.size w V) => refSlot_ok q0 n0 c0 N a0 hN hN2 l0 w0 (mk 64 a1) hU V (y0.below h))
    have TB := Lib.hid (fun (V : World) (h : Below w.heap.size w V) => TakeSlot_back q0 n0 c0 N a0 hN hN2 l0 w0 (mk 64 a1) hU V (y0.below h))
    have NE := Lib.hid (fun (V : World) => Num_nil V)
    generalize padF 72 (wrpN (rkS N a0) (N + 7) 8 (natF (mk 64 a1))) = sw at *
    have TK := Lib.hid (fun (V : World) (h : Below w.heap.size w V) => TakeSlot_not q0 n0 c0 N a0 hN hN2 l0 w0 s hsec hok V (y0.below h))
    clear hN hN2 hok
    clear w0 l0 w1 l1 y0 y1 hsec hn0 hn1 hU
    have KB := Lib.hid (fun (V : World) B (h : CellB V B (keyC (mk 64 a1))) => (⟨key_bytes h (k := 0) (by decide), key_bytes h (k := 1) (by decide)⟩ : _ ∧ _))
    generalize hUU : mk 64 a1 = U at *
    have EU := Lib.hid hUU
    clear hUU
    generalize hS : w.heap.size = S at *
    have HS := Lib.hid hS
    clear hS
    go_enter Try.func3, Try.ntmps3
    go_wp2_with (first
      | (refine wpList_cell_boxed rfl _ rfl s rfl S HS.out ?_; intro w1 hx hb hs
         have C1 := Lib.hid hx; have B1 := Lib.hid hb; have FAR1 := Lib.hid (show S + 1 ≤ w1.heap.size by omega); clear hx hb hs)
      | (go_at_call 5; refine (KO.out w1 (HS.out.symm ▸ B1.out)).mono ?_; rintro e w2 ⟨rfl, hb⟩
         have C2 := Lib.hid (C1.out.below hb); have B2 := Lib.hid (B1.out.trans (hb.mono (HS.out ▸ B1.out.size))); have FAR2 := Lib.hid (show S + 1 ≤ w2.heap.size by have := FAR1.out; have := hb.size; omega)
         clear hb C1 B1 FAR1)
      | (refine wpList_ukey_alloc rfl rfl w2.heap.size rfl ?_; intro w3 hx hb hs
         have C3 := Lib.hid (C2.out.below hb); have U3 := Lib.hid hx; have B3 := Lib.hid (B2.out.trans (hb.mono (HS.out ▸ B2.out.size)))
         have FAR3 := Lib.hid (show S + 1 ≤ w2.heap.size ∧ w2.heap.size < w3.heap.size by have := FAR2.out; omega)
         clear hx hb hs C2 B2 FAR2
         generalize w2.heap.size = BU at *)
      | (refine wpList_ukey_store rfl _ _ rfl rfl BU rfl U rfl noKeys U3.out ?_; intro w4 hx hb hs
         have C4 := Lib.hid (C3.out.but hb (by have := FAR3.out; omega)); have U4 := Lib.hid hx; have B4 := Lib.hid (B3.out.trans (hb.below (by have := FAR3.out; omega) (HS.out ▸ B3.out.size)))
         have FAR4 := Lib.hid (show S + 1 ≤ BU ∧ BU < w4.heap.size by have := FAR3.out; omega)
         clear hx hb hs C3 U3 B3 FAR3))
    have hb4 : Below w4.heap.size w4 w4.drew := (Below.refl _ _).drew
    have C5 := Lib.hid (C4.out.below hb4); have U5 := Lib.hid (U4.out.below hb4); have B5 := Lib.hid (B4.out.trans (hb4.mono (HS.out ▸ B4.out.size))); have FAR5 := Lib.hid (show S + 1 ≤ BU ∧ BU < w4.drew.heap.size by have := FAR4.out; have := hb4.size; omega)
    have Q5 := Lib.hid (Y1.out w4.drew (HS.out.symm ▸ B5.out))
    clear hb4 C4 U4 B4 FAR4
    refine wp_region_sched [(0, true), (1, true), (2, true), (3, true), (4, true), (5, true), (6, true), (7, true), (8, true), (9, true), (10, true), (11, true), (12, true), (13, true)] (fun W => CellB W BU (keyC U) ∧ BytesAt W q1 64 a1) (by kernel_rfl) (by kernel_rfl) ⟨U5.out, Q5.out⟩ ?_
    refine walk_float rfl rfl (fun K' hK => ?_)
    refine gives_move _ rfl ?_
    go_simp
    refine hK _ ?_
    clear hK K'
    refine walk_float rfl rfl (fun K' hK => ?_)
    refine gives_none_neq _ rfl rfl ?_
    go_simp
    refine hK _ ?_
    clear hK K'
    refine walk_float rfl rfl (fun K' hK => ?_)
    refine gives_move _ rfl ?_
    go_simp
    refine hK _ ?_
    clear hK K'
    refine walk_float rfl rfl (fun K' hK => ?_)
    refine gives_ukey_field _ 0 rfl (by decide) BU 0 rfl rfl ?_
    go_simp
    refine hK _ ?_
    clear hK K'
    refine walk_float rfl rfl (fun K' hK => ?_)
    refine gives_arr_slice 25 5 32 arr32Und rfl _ rfl BU 0 rfl ?_
    go_simp
    refine hK _ ?_
    clear hK K'
    refine walk_float rfl rfl (fun K' hK => ?_)
    refine gives_string _ rfl (some ⟨BU, 0, none⟩) 32 32 rfl (fun j => natF U (32 * 0 + j)) (fun W h => (KB.out W BU h.1).1) ?_
    go_simp
    refine hK _ ?_
    clear hK K'
    refine walk_float rfl rfl (fun K' hK => ?_)
    refine gives_ukey_field _ 1 rfl (by decide) BU 32 rfl rfl ?_
    go_simp
    refine hK _ ?_
    clear hK K'
    refine walk_float rfl rfl (fun K' hK => ?_)
    refine gives_arr_slice 25 5 32 arr32Und rfl _ rfl BU 32 rfl ?_
    go_simp
    refine hK _ ?_
    clear hK K'
    refine walk_float rfl rfl (fun K' hK => ?_)
    refine gives_string _ rfl (some ⟨BU, 32, none⟩) 32 32 rfl (fun j => natF U (32 * 1 + j)) (fun W h => (KB.out W BU h.1).2) ?_
    go_simp
    refine hK _ ?_
    clear hK K'
    refine walk_float rfl rfl (fun K' hK => ?_)
    refine gives_str_add _ _ rfl 32 32 (fun j => natF U (32 * 0 + j)) (fun j => natF U (32 * 1 + j)) rfl rfl (by decide) ?_
    go_simp
    refine hK _ ?_
    clear hK K'
    refine walk_float rfl rfl (fun K' hK => ?_)
    refine gives_move _ rfl ?_
    go_simp
    refine hK _ ?_
    clear hK K'
    refine walk_float rfl rfl (fun K' hK => ?_)
    refine gives_string _ rfl q1 64 c1 rfl a1 (fun W h => h.2) ?_
    go_simp
    refine hK _ ?_
    clear hK K'
    have EQS := EQ.out
    refine walk_float rfl rfl (fun K' hK => ?_)
    refine gives_str_same _ _ rfl (strOfNums U) (by first | rfl | (show Value.string (strOfNums (mk (32 + 32) (cat 32 _ _))) = _; rw [EQ.out])) (by first | rfl | (show Value.string (strOfNums (mk 64 a1)) = _; rw [EU.out])) ?_
    go_simp
    refine hK _ ?_
    clear hK K'
    refine walk_float rfl rfl (fun K' hK => ?_)
    refine gives_pickF _ _ _ rfl rfl (.bool false) rfl ?_
    go_simp
    refine hK _ ?_
    clear hK K'
    refine walk_nil ?_
    clear KB Y1 Q5 EQ EU
    generalize w4.drew = w5 at *
    go_wp2_with (first
      | (refine wpList_ukey_load rfl _ rfl BU rfl U U5.out.row ?_)
      | (go_at_call 7; refine (SL.out w5 (HS.out.symm ▸ B5.out)).mono ?_; rintro e w6 ⟨rfl, hb⟩
         have C6 := Lib.hid (C5.out.below hb); have U6 := Lib.hid (U5.out.below hb); have B6 := Lib.hid (B5.out.trans (hb.mono (HS.out ▸ B5.out.size))); have FAR6 := Lib.hid (show S + 1 ≤ BU ∧ BU < w6.heap.size by have := FAR5.out; have := hb.size; omega)
         clear hb C5 U5 B5 FAR5)
      | (refine wpList_cell_alloc rfl rfl w6.heap.size rfl ?_; intro w7 hx hb hs
         have C7 := Lib.hid (C6.out.below hb); have U7 := Lib.hid (U6.out.below hb); have S17 := Lib.hid hx; have B7 := Lib.hid (B6.out.trans (hb.mono (HS.out ▸ B6.out.size)))
         have FAR7 := Lib.hid (show S + 1 ≤ BU ∧ BU < w6.heap.size ∧ w6.heap.size < w7.heap.size by have := FAR6.out; omega)
         clear hx hb hs C6 U6 B6 FAR6
         generalize w6.heap.size = BS at *)
      | (refine wpList_cell_store rfl _ _ rfl rfl BS rfl sw rfl noSec S17.out ?_; intro w8 hx hb hs
         have C8 := Lib.hid (C7.out.but hb (by have := FAR7.out; omega)); have U8 := Lib.hid (U7.out.but hb (by have := FAR7.out; omega)); have S18 := Lib.hid hx; have B8 := Lib.hid (B7.out.trans (hb.below (by have := FAR7.out; omega) (HS.out ▸ B7.out.size)))
         have FAR8 := Lib.hid (show S + 1 ≤ BU ∧ BU < BS ∧ BS < w8.heap.size by have := FAR7.out; omega)
         clear hx hb hs C7 U7 S17 B7 FAR7)
      | (refine wpList_ukey_load rfl _ rfl BU rfl U U8.out.row ?_)
      | (go_at_call 8; refine (RS.out w8 (HS.out.symm ▸ B8.out)).mono ?_; rintro e w9 ⟨rfl, hb⟩
         have C9 := Lib.hid (C8.out.below hb); have U9 := Lib.hid (U8.out.below hb); have S19 := Lib.hid (S18.out.below hb); have B9 := Lib.hid (B8.out.trans (hb.mono (HS.out ▸ B8.out.size))); have FAR9 := Lib.hid (show S + 1 ≤ BU ∧ BU < BS ∧ BS < w9.heap.size by have := FAR8.out; have := hb.size; omega)
         clear hb C8 U8 S18 B8 FAR8)
      | (refine wpList_cell_alloc rfl rfl w9.heap.size rfl ?_; intro w10 hx hb hs
         have C10 := Lib.hid (C9.out.below hb); have U10 := Lib.hid (U9.out.below hb); have S110 := Lib.hid (S19.out.below hb); have W110 := Lib.hid hx; have B10 := Lib.hid (B9.out.trans (hb.mono (HS.out ▸ B9.out.size)))
         have FAR10 := Lib.hid (show S + 1 ≤ BU ∧ BU < BS ∧ BS < w9.heap.size ∧ w9.heap.size < w10.heap.size by have := FAR9.out; omega)
         clear hx hb hs C9 U9 S19 B9 FAR9
         generalize w9.heap.size = BW at *)
      | (refine wpList_cell_store rfl _ _ rfl rfl BW rfl sw rfl noSec W110.out ?_; intro w11 hx hb hs
         have C11 := Lib.hid (C10.out.but hb (by have := FAR10.out; omega)); have U11 := Lib.hid (U10.out.but hb (by have := FAR10.out; omega)); have S111 := Lib.hid (S110.out.but hb (by have := FAR10.out; omega)); have W111 := Lib.hid hx; have B11 := Lib.hid (B10.out.trans (hb.below (by have := FAR10.out; omega) (HS.out ▸ B10.out.size)))
         have FAR11 := Lib.hid (show S + 1 ≤ BU ∧ BU < BS ∧ BS < BW ∧ BW < w11.heap.size by have := FAR10.out; omega)
         clear hx hb hs C10 U10 S110 W110 B10 FAR10)
      | (refine wpList_cell_load rfl _ rfl BS 0 rfl sw S111.out.row ?_)
      | (refine wpList_cell_load rfl _ rfl BW 0 rfl sw W111.out.row ?_)
      | (refine wpList_cell_neq rfl _ _ rfl sw sw rfl rfl false (by rw [SX.out]; rfl) ?_)
      | (go_at_call 9; refine (NE.out _).mono ?_; rintro e w99 ⟨rfl, rfl⟩)
      | (refine wpList_cell_load rfl _ rfl S 0 rfl s C11.out.row ?_)
      | (go_at_call 10; refine (TK.out w11 (HS.out.symm ▸ B11.out)).mono ?_; rintro e w12 ⟨rfl, hb⟩
         have C12 := Lib.hid (C11.out.below hb); have U12 := Lib.hid (U11.out.below hb); have S112 := Lib.hid (S111.out.below hb); have W112 := Lib.hid (W111.out.below hb); have B12 := Lib.hid (B11.out.trans (hb.mono (HS.out ▸ B11.out.size))); have FAR12 := Lib.hid (show S + 1 ≤ BU ∧ BU < BS ∧ BS < BW ∧ BW < w12.heap.size by have := FAR11.out; have := hb.size; omega)
         clear hb C11 U11 S111 W111 B11 FAR11)
      | (refine wpList_ukey_alloc rfl rfl w12.heap.size rfl ?_; intro w13 hx hb hs
         have C13 := Lib.hid (C12.out.below hb); have U13 := Lib.hid (U12.out.below hb); have S113 := Lib.hid (S112.out.below hb); have W113 := Lib.hid (W112.out.below hb); have X113 := Lib.hid hx; have B13 := Lib.hid (B12.out.trans (hb.mono (HS.out ▸ B12.out.size)))
         have FAR13 := Lib.hid (show S + 1 ≤ BU ∧ BU < BS ∧ BS < BW ∧ BW < w12.heap.size ∧ w12.heap.size < w13.heap.size by have := FAR12.out; omega)
         clear hx hb hs C12 U12 S112 W112 B12 FAR12
         generalize w12.heap.size = BX at *)
      | (refine wpList_ukey_store rfl _ _ rfl rfl BX rfl noKeys rfl noKeys X113.out ?_; intro w14 hx hb hs
         have C14 := Lib.hid (C13.out.but hb (by have := FAR13.out; omega)); have U14 := Lib.hid (U13.out.but hb (by have := FAR13.out; omega)); have S114 := Lib.hid (S113.out.but hb (by have := FAR13.out; omega)); have W114 := Lib.hid (W113.out.but hb (by have := FAR13.out; omega)); have X114 := Lib.hid hx; have B14 := Lib.hid (B13.out.trans (hb.below (by have := FAR13.out; omega) (HS.out ▸ B13.out.size)))
         have FAR14 := Lib.hid (show S + 1 ≤ BU ∧ BU < BS ∧ BS < BW ∧ BW < BX ∧ BX < w14.heap.size by have := FAR13.out; omega)
         clear hx hb hs C13 U13 S113 W113 X113 B13 FAR13)
      | (refine wpList_ukey_load rfl _ rfl BX rfl noKeys X114.out.row ?_)
      | (refine wpList_ukey_build0 rfl rfl ?_)
      | (refine wpList_ukey_neq rfl _ _ rfl noKeys rfl rfl ?_)
      | (refine wpList_cell_load rfl _ rfl BW 0 rfl sw W114.out.row ?_)
      | (go_at_call 10; refine (TB.out w14 (HS.out.symm ▸ B14.out)).mono ?_; rintro e w15 ⟨rfl, hb⟩
         have C15 := Lib.hid (C14.out.below hb); have U15 := Lib.hid (U14.out.below hb); have S115 := Lib.hid (S114.out.below hb); have W115 := Lib.hid (W114.out.below hb); have X115 := Lib.hid (X114.out.below hb); have B15 := Lib.hid (B14.out.trans (hb.mono (HS.out ▸ B14.out.size))); have FAR15 := Lib.hid (show S + 1 ≤ BU ∧ BU < BS ∧ BS < BW ∧ BW < BX ∧ BX < w15.heap.size by have := FAR14.out; have := hb.size; omega)
         clear hb C14 U14 S114 W114 X114 B14 FAR14)
      | (refine wpList_ukey_alloc rfl rfl w15.heap.size rfl ?_; intro w16 hx hb hs
         have C16 := Lib.hid (C15.out.below hb); have U16 := Lib.hid (U15.out.below hb); have S116 := Lib.hid (S115.out.below hb); have W116 := Lib.hid (W115.out.below hb); have X116 := Lib.hid (X115.out.below hb); have K116 := Lib.hid hx; have B16 := Lib.hid (B15.out.trans (hb.mono (HS.out ▸ B15.out.size)))
         have FAR16 := Lib.hid (show S + 1 ≤ BU ∧ BU < BS ∧ BS < BW ∧ BW < BX ∧ BX < w15.heap.size ∧ w15.heap.size < w16.heap.size by have := FAR15.out; omega)
         clear hx hb hs C15 U15 S115 W115 X115 B15 FAR15
         generalize w15.heap.size = BK at *)
      | (refine wpList_ukey_store rfl _ _ rfl rfl BK rfl U rfl noKeys K116.out ?_; intro w17 hx hb hs
         have C17 := Lib.hid (C16.out.but hb (by have := FAR16.out; omega)); have U17 := Lib.hid (U16.out.but hb (by have := FAR16.out; omega)); have S117 := Lib.hid (S116.out.but hb (by have := FAR16.out; omega)); have W117 := Lib.hid (W116.out.but hb (by have := FAR16.out; omega)); have X117 := Lib.hid (X116.out.but hb (by have := FAR16.out; omega)); have K117 := Lib.hid hx; have B17 := Lib.hid (B16.out.trans (hb.below (by have := FAR16.out; omega) (HS.out ▸ B16.out.size)))
         have FAR17 := Lib.hid (show S + 1 ≤ BU ∧ BU < BS ∧ BS < BW ∧ BW < BX ∧ BX < BK ∧ BK < w17.heap.size by have := FAR16.out; omega)
         clear hx hb hs C16 U16 S116 W116 X116 K116 B16 FAR16)
      | (refine wpList_ukey_load rfl _ rfl BK rfl U K117.out.row ?_)
      | (refine wpList_ukey_load rfl _ rfl BU rfl U U17.out.row ?_)
      | (refine wpList_ukey_eql rfl _ _ rfl U rfl rfl ?_))
    go_ret
    exact ⟨rfl, B17.out⟩
  case pos =>
    have d1 : ¬ ((1000 : Int) < (n0 : Int)) := by omega
    have d3 : decide (1000 < n0) = false := decide_eq_false (by omega)
    have e1 : ¬ ((1000 : Int) < (n1 : Int)) := by omega
    have e3 : decide (1000 < n1) = false := decide_eq_false (by omega)
    obtain rfl : n1 = 64 := h64
    have KO := Lib.hid (fun (V : World) (h : Below w.heap.size w V) => KeysOf_ok q1 c1 a1 l1 V (y1.below h))
    have Y1 := Lib.hid (fun (V : World) (h : Below w.heap.size w V) => y1.below h)
    have EQ := Lib.hid (both_halves a1)
    have hU : IsU (mk 64 a1) := isU_mk w1
    have SX := Lib.hid sameS_self
    have SL := Lib.hid (fun (V : World) (h : Below w.heap.size w V) => Slot_ok q0 n0 c0 N a0 hN hN2 l0 w0 (mk 64 a1) hU V (y0.below h))
    have RS := Lib.hid (fun (V : World) (h : Below w.heap.size w V) => refSlot_ok q0 n0 c0 N a0 hN hN2 l0 w0 (mk 64 a1) hU V (y0.below h))
    have TB := Lib.hid (fun (V : World) (h : Below w.heap.size w V) => TakeSlot_back q0 n0 c0 N a0 hN hN2 l0 w0 (mk 64 a1) hU V (y0.below h))
    have NE := Lib.hid (fun (V : World) => Num_nil V)
    generalize padF 72 (wrpN (rkS N a0) (N + 7) 8 (natF (mk 64 a1))) = sw at *
    have TK := Lib.hid (fun (V : World) (h : Below w.heap.size w V) => TakeSlot_sure q0 n0 c0 N a0 hN hN2 l0 w0 s hsec hok.1 hok.2 V (y0.below h))
    obtain ⟨hX, hXs⟩ := slot_again (N := N) (g := a0) (fun i hi => w0 i (by omega)) hsec hok.1 hok.2
    generalize mk 64 (txt (unwN (rkS N a0) (N + 7) 8 (natF s))) = X at *
    have RX := Lib.hid (fun (V : World) (h : Below w.heap.size w V) => refSlot_ok q0 n0 c0 N a0 hN hN2 l0 w0 X hX V (y0.below h))
    rw [hXs] at RX
    clear hX hXs
    clear hN hN2 hok
    clear w0 l0 w1 l1 y0 y1 hsec hn0 hn1 hU
    have KB := Lib.hid (fun (V : World) B (h : CellB V B (keyC (mk 64 a1))) => (⟨key_bytes h (k := 0) (by decide), key_bytes h (k := 1) (by decide)⟩ : _ ∧ _))
    generalize hUU : mk 64 a1 = U at *
    have EU := Lib.hid hUU
    clear hUU
    generalize hS : w.heap.size = S at *
    have HS := Lib.hid hS
    clear hS
    go_enter Try.func3, Try.ntmps3
    go_wp2_with (first
      | (refine wpList_cell_boxed rfl _ rfl s rfl S HS.out ?_; intro w1 hx hb hs
         have C1 := Lib.hid hx; have B1 := Lib.hid hb; have FAR1 := Lib.hid (show S + 1 ≤ w1.heap.size by omega); clear hx hb hs)
      | (go_at_call 5; refine (KO.out w1 (HS.out.symm ▸ B1.out)).mono ?_; rintro e w2 ⟨rfl, hb⟩
         have C2 := Lib.hid (C1.out.below hb); have B2 := Lib.hid (B1.out.trans (hb.mono (HS.out ▸ B1.out.size))); have FAR2 := Lib.hid (show S + 1 ≤ w2.heap.size by have := FAR1.out; have := hb.size; omega)
         clear hb C1 B1 FAR1)
      | (refine wpList_ukey_alloc rfl rfl w2.heap.size rfl ?_; intro w3 hx hb hs
         have C3 := Lib.hid (C2.out.below hb); have U3 := Lib.hid hx; have B3 := Lib.hid (B2.out.trans (hb.mono (HS.out ▸ B2.out.size)))
         have FAR3 := Lib.hid (show S + 1 ≤ w2.heap.size ∧ w2.heap.size < w3.heap.size by have := FAR2.out; omega)
         clear hx hb hs C2 B2 FAR2
         generalize w2.heap.size = BU at *)
      | (refine wpList_ukey_store rfl _ _ rfl rfl BU rfl U rfl noKeys U3.out ?_; intro w4 hx hb hs
         have C4 := Lib.hid (C3.out.but hb (by have := FAR3.out; omega)); have U4 := Lib.hid hx; have B4 := Lib.hid (B3.out.trans (hb.below (by have := FAR3.out; omega) (HS.out ▸ B3.out.size)))
         have FAR4 := Lib.hid (show S + 1 ≤ BU ∧ BU < w4.heap.size by have := FAR3.out; omega)
         clear hx hb hs C3 U3 B3 FAR3))
    have hb4 : Below w4.heap.size w4 w4.drew := (Below.refl _ _).drew
    have C5 := Lib.hid (C4.out.below hb4); have U5 := Lib.hid (U4.out.below hb4); have B5 := Lib.hid (B4.out.trans (hb4.mono (HS.out ▸ B4.out.size))); have FAR5 := Lib.hid (show S + 1 ≤ BU ∧ BU < w4.drew.heap.size by have := FAR4.out; have := hb4.size; omega)
    have Q5 := Lib.hid (Y1.out w4.drew (HS.out.symm ▸ B5.out))
    clear hb4 C4 U4 B4 FAR4
    refine wp_region_sched [(0, true), (1, true), (2, true), (3, true), (4, true), (5, true), (6, true), (7, true), (8, true), (9, true), (10, true), (11, true), (12, true), (13, true)] (fun W => CellB W BU (keyC U) ∧ BytesAt W q1 64 a1) (by kernel_rfl) (by kernel_rfl) ⟨U5.out, Q5.out⟩ ?_
    refine walk_float rfl rfl (fun K' hK => ?_)
    refine gives_move _ rfl ?_
    go_simp
    refine hK _ ?_
    clear hK K'
    refine walk_float rfl rfl (fun K' hK => ?_)
    refine gives_none_neq _ rfl rfl ?_
    go_simp
    refine hK _ ?_
    clear hK K'
    refine walk_float rfl rfl (fun K' hK => ?_)
    refine gives_move _ rfl ?_
    go_simp
    refine hK _ ?_
    clear hK K'
    refine walk_float rfl rfl (fun K' hK => ?_)
    refine gives_ukey_field _ 0 rfl (by decide) BU 0 rfl rfl ?_
    go_simp
    refine hK _ ?_
    clear hK K'
    refine walk_float rfl rfl (fun K' hK => ?_)
    refine gives_arr_slice 25 5 32 arr32Und rfl _ rfl BU 0 rfl ?_
    go_simp
    refine hK _ ?_
    clear hK K'
    refine walk_float rfl rfl (fun K' hK => ?_)
    refine gives_string _ rfl (some ⟨BU, 0, none⟩) 32 32 rfl (fun j => natF U (32 * 0 + j)) (fun W h => (KB.out W BU h.1).1) ?_
    go_simp
    refine hK _ ?_
    clear hK K'
    refine walk_float rfl rfl (fun K' hK => ?_)
    refine gives_ukey_field _ 1 rfl (by decide) BU 32 rfl rfl ?_
    go_simp
    refine hK _ ?_
    clear hK K'
    refine walk_float rfl rfl (fun K' hK => ?_)
    refine gives_arr_slice 25 5 32 arr32Und rfl _ rfl BU 32 rfl ?_
    go_simp
    refine hK _ ?_
    clear hK K'
    refine walk_float rfl rfl (fun K' hK => ?_)
    refine gives_string _ rfl (some ⟨BU, 32, none⟩) 32 32 rfl (fun j => natF U (32 * 1 + j)) (fun W h => (KB.out W BU h.1).2) ?_
    go_simp
    refine hK _ ?_
    clear hK K'
    refine walk_float rfl rfl (fun K' hK => ?_)
    refine gives_str_add _ _ rfl 32 32 (fun j => natF U (32 * 0 + j)) (fun j => natF U (32 * 1 + j)) rfl rfl (by decide) ?_
    go_simp
    refine hK _ ?_
    clear hK K'
    refine walk_float rfl rfl (fun K' hK => ?_)
    refine gives_move _ rfl ?_
    go_simp
    refine hK _ ?_
    clear hK K'
    refine walk_float rfl rfl (fun K' hK => ?_)
    refine gives_string _ rfl q1 64 c1 rfl a1 (fun W h => h.2) ?_
    go_simp
    refine hK _ ?_
    clear hK K'
    have EQS := EQ.out
    refine walk_float rfl rfl (fun K' hK => ?_)
    refine gives_str_same _ _ rfl (strOfNums U) (by first | rfl | (show Value.string (strOfNums (mk (32 + 32) (cat 32 _ _))) = _; rw [EQ.out])) (by first | rfl | (show Value.string (strOfNums (mk 64 a1)) = _; rw [EU.out])) ?_
    go_simp
    refine hK _ ?_
    clear hK K'
    refine walk_float rfl rfl (fun K' hK => ?_)
    refine gives_pickF _ _ _ rfl rfl (.bool false) rfl ?_
    go_simp
    refine hK _ ?_
    clear hK K'
    refine walk_nil ?_
    clear KB Y1 Q5 EQ EU
    generalize w4.drew = w5 at *
    go_wp2_with (first
      | (refine wpList_ukey_load rfl _ rfl BU rfl U U5.out.row ?_)
      | (go_at_call 7; refine (SL.out w5 (HS.out.symm ▸ B5.out)).mono ?_; rintro e w6 ⟨rfl, hb⟩
         have C6 := Lib.hid (C5.out.below hb); have U6 := Lib.hid (U5.out.below hb); have B6 := Lib.hid (B5.out.trans (hb.mono (HS.out ▸ B5.out.size))); have FAR6 := Lib.hid (show S + 1 ≤ BU ∧ BU < w6.heap.size by have := FAR5.out; have := hb.size; omega)
         clear hb C5 U5 B5 FAR5)
      | (refine wpList_cell_alloc rfl rfl w6.heap.size rfl ?_; intro w7 hx hb hs
         have C7 := Lib.hid (C6.out.below hb); have U7 := Lib.hid (U6.out.below hb); have S17 := Lib.hid hx; have B7 := Lib.hid (B6.out.trans (hb.mono (HS.out ▸ B6.out.size)))
         have FAR7 := Lib.hid (show S + 1 ≤ BU ∧ BU < w6.heap.size ∧ w6.heap.size < w7.heap.size by have := FAR6.out; omega)
         clear hx hb hs C6 U6 B6 FAR6
         generalize w6.heap.size = BS at *)
      | (refine wpList_cell_store rfl _ _ rfl rfl BS rfl sw rfl noSec S17.out ?_; intro w8 hx hb hs
         have C8 := Lib.hid (C7.out.but hb (by have := FAR7.out; omega)); have U8 := Lib.hid (U7.out.but hb (by have := FAR7.out; omega)); have S18 := Lib.hid hx; have B8 := Lib.hid (B7.out.trans (hb.below (by have := FAR7.out; omega) (HS.out ▸ B7.out.size)))
         have FAR8 := Lib.hid (show S + 1 ≤ BU ∧ BU < BS ∧ BS < w8.heap.size by have := FAR7.out; omega)
         clear hx hb hs C7 U7 S17 B7 FAR7)
      | (refine wpList_ukey_load rfl _ rfl BU rfl U U8.out.row ?_)
      | (go_at_call 8; refine (RS.out w8 (HS.out.symm ▸ B8.out)).mono ?_; rintro e w9 ⟨rfl, hb⟩
         have C9 := Lib.hid (C8.out.below hb); have U9 := Lib.hid (U8.out.below hb); have S19 := Lib.hid (S18.out.below hb); have B9 := Lib.hid (B8.out.trans (hb.mono (HS.out ▸ B8.out.size))); have FAR9 := Lib.hid (show S + 1 ≤ BU ∧ BU < BS ∧ BS < w9.heap.size by have := FAR8.out; have := hb.size; omega)
         clear hb C8 U8 S18 B8 FAR8)
      | (refine wpList_cell_alloc rfl rfl w9.heap.size rfl ?_; intro w10 hx hb hs
         have C10 := Lib.hid (C9.out.below hb); have U10 := Lib.hid (U9.out.below hb); have S110 := Lib.hid (S19.out.below hb); have W110 := Lib.hid hx; have B10 := Lib.hid (B9.out.trans (hb.mono (HS.out ▸ B9.out.size)))
         have FAR10 := Lib.hid (show S + 1 ≤ BU ∧ BU < BS ∧ BS < w9.heap.size ∧ w9.heap.size < w10.heap.size by have := FAR9.out; omega)
         clear hx hb hs C9 U9 S19 B9 FAR9
         generalize w9.heap.size = BW at *)
      | (refine wpList_cell_store rfl _ _ rfl rfl BW rfl sw rfl noSec W110.out ?_; intro w11 hx hb hs
         have C11 := Lib.hid (C10.out.but hb (by have := FAR10.out; omega)); have U11 := Lib.hid (U10.out.but hb (by have := FAR10.out; omega)); have S111 := Lib.hid (S110.out.but hb (by have := FAR10.out; omega)); have W111 := Lib.hid hx; have B11 := Lib.hid (B10.out.trans (hb.below (by have := FAR10.out; omega) (HS.out ▸ B10.out.size)))
         have FAR11 := Lib.hid (show S + 1 ≤ BU ∧ BU < BS ∧ BS < BW ∧ BW < w11.heap.size by have := FAR10.out; omega)
         clear hx hb hs C10 U10 S110 W110 B10 FAR10)
      | (refine wpList_cell_load rfl _ rfl BS 0 rfl sw S111.out.row ?_)
      | (refine wpList_cell_load rfl _ rfl BW 0 rfl sw W111.out.row ?_)
      | (refine wpList_cell_neq rfl _ _ rfl sw sw rfl rfl false (by rw [SX.out]; rfl) ?_)
      | (go_at_call 9; refine (NE.out _).mono ?_; rintro e w99 ⟨rfl, rfl⟩)
      | (refine wpList_cell_load rfl _ rfl S 0 rfl s C11.out.row ?_)
      | (go_at_call 10; refine (TK.out w11 (HS.out.symm ▸ B11.out)).mono ?_; rintro e w12 ⟨rfl, hb⟩
         have C12 := Lib.hid (C11.out.below hb); have U12 := Lib.hid (U11.out.below hb); have S112 := Lib.hid (S111.out.below hb); have W112 := Lib.hid (W111.out.below hb); have B12 := Lib.hid (B11.out.trans (hb.mono (HS.out ▸ B11.out.size))); have FAR12 := Lib.hid (show S + 1 ≤ BU ∧ BU < BS ∧ BS < BW ∧ BW < w12.heap.size by have := FAR11.out; have := hb.size; omega)
         clear hb C11 U11 S111 W111 B11 FAR11)
      | (refine wpList_ukey_alloc rfl rfl w12.heap.size rfl ?_; intro w13 hx hb hs
         have C13 := Lib.hid (C12.out.below hb); have U13 := Lib.hid (U12.out.below hb); have S113 := Lib.hid (S112.out.below hb); have W113 := Lib.hid (W112.out.below hb); have X113 := Lib.hid hx; have B13 := Lib.hid (B12.out.trans (hb.mono (HS.out ▸ B12.out.size)))
         have FAR13 := Lib.hid (show S + 1 ≤ BU ∧ BU < BS ∧ BS < BW ∧ BW < w12.heap.size ∧ w12.heap.size < w13.heap.size by have := FAR12.out; omega)
         clear hx hb hs C12 U12 S112 W112 B12 FAR12
         generalize w12.heap.size = BX at *)
      | (refine wpList_ukey_store rfl _ _ rfl rfl BX rfl X rfl noKeys X113.out ?_; intro w14 hx hb hs
         have C14 := Lib.hid (C13.out.but hb (by have := FAR13.out; omega)); have U14 := Lib.hid (U13.out.but hb (by have := FAR13.out; omega)); have S114 := Lib.hid (S113.out.but hb (by have := FAR13.out; omega)); have W114 := Lib.hid (W113.out.but hb (by have := FAR13.out; omega)); have X114 := Lib.hid hx; have B14 := Lib.hid (B13.out.trans (hb.below (by have := FAR13.out; omega) (HS.out ▸ B13.out.size)))
         have FAR14 := Lib.hid (show S + 1 ≤ BU ∧ BU < BS ∧ BS < BW ∧ BW < BX ∧ BX < w14.heap.size by have := FAR13.out; omega)
         clear hx hb hs C13 U13 S113 W113 X113 B13 FAR13)
      | (refine wpList_ukey_load rfl _ rfl BX rfl X X114.out.row ?_)
      | (go_at_call 8; refine (RX.out w14 (HS.out.symm ▸ B14.out)).mono ?_; rintro e w15 ⟨rfl, hb⟩
         have C15 := Lib.hid (C14.out.below hb); have U15 := Lib.hid (U14.out.below hb); have S115 := Lib.hid (S114.out.below hb); have W115 := Lib.hid (W114.out.below hb); have X115 := Lib.hid (X114.out.below hb); have B15 := Lib.hid (B14.out.trans (hb.mono (HS.out ▸ B14.out.size))); have FAR15 := Lib.hid (show S + 1 ≤ BU ∧ BU < BS ∧ BS < BW ∧ BW < BX ∧ BX < w15.heap.size by have := FAR14.out; have := hb.size; omega)
         clear hb C14 U14 S114 W114 X114 B14 FAR14)
      | (refine wpList_cell_alloc rfl rfl w15.heap.size rfl ?_; intro w16 hx hb hs
         have C16 := Lib.hid (C15.out.below hb); have U16 := Lib.hid (U15.out.below hb); have S116 := Lib.hid (S115.out.below hb); have W116 := Lib.hid (W115.out.below hb); have X116 := Lib.hid (X115.out.below hb); have A116 := Lib.hid hx; have B16 := Lib.hid (B15.out.trans (hb.mono (HS.out ▸ B15.out.size)))
         have FAR16 := Lib.hid (show S + 1 ≤ BU ∧ BU < BS ∧ BS < BW ∧ BW < BX ∧ BX < w15.heap.size ∧ w15.heap.size < w16.heap.size by have := FAR15.out; omega)
         clear hx hb hs C15 U15 S115 W115 X115 B15 FAR15
         generalize w15.heap.size = BA at *)
      | (refine wpList_cell_store rfl _ _ rfl rfl BA rfl s rfl noSec A116.out ?_; intro w17 hx hb hs
         have C17 := Lib.hid (C16.out.but hb (by have := FAR16.out; omega)); have U17 := Lib.hid (U16.out.but hb (by have := FAR16.out; omega)); have S117 := Lib.hid (S116.out.but hb (by have := FAR16.out; omega)); have W117 := Lib.hid (W116.out.but hb (by have := FAR16.out; omega)); have X117 := Lib.hid (X116.out.but hb (by have := FAR16.out; omega)); have A117 := Lib.hid hx; have B17 := Lib.hid (B16.out.trans (hb.below (by have := FAR16.out; omega) (HS.out ▸ B16.out.size)))
         have FAR17 := Lib.hid (show S + 1 ≤ BU ∧ BU < BS ∧ BS < BW ∧ BW < BX ∧ BX < BA ∧ BA < w17.heap.size by have := FAR16.out; omega)
         clear hx hb hs C16 U16 S116 W116 X116 A116 B16 FAR16)
      | (refine wpList_cell_load rfl _ rfl BA 0 rfl s A117.out.row ?_)
      | (refine wpList_cell_load rfl _ rfl S 0 rfl s C17.out.row ?_)
      | (refine wpList_cell_neq rfl _ _ rfl s s rfl rfl false (by rw [SX.out]; rfl) ?_)
      | (refine wpList_cell_load rfl _ rfl BW 0 rfl sw W117.out.row ?_)
      | (go_at_call 10; refine (TB.out w17 (HS.out.symm ▸ B17.out)).mono ?_; rintro e w18 ⟨rfl, hb⟩
         have C18 := Lib.hid (C17.out.below hb); have U18 := Lib.hid (U17.out.below hb); have S118 := Lib.hid (S117.out.below hb); have W118 := Lib.hid (W117.out.below hb); have X118 := Lib.hid (X117.out.below hb); have A118 := Lib.hid (A117.out.below hb); have B18 := Lib.hid (B17.out.trans (hb.mono (HS.out ▸ B17.out.size))); have FAR18 := Lib.hid (show S + 1 ≤ BU ∧ BU < BS ∧ BS < BW ∧ BW < BX ∧ BX < BA ∧ BA < w18.heap.size by have := FAR17.out; have := hb.size; omega)
         clear hb C17 U17 S117 W117 X117 A117 B17 FAR17)
      | (refine wpList_ukey_alloc rfl rfl w18.heap.size rfl ?_; intro w19 hx hb hs
         have C19 := Lib.hid (C18.out.below hb); have U19 := Lib.hid (U18.out.below hb); have S119 := Lib.hid (S118.out.below hb); have W119 := Lib.hid (W118.out.below hb); have X119 := Lib.hid (X118.out.below hb); have A119 := Lib.hid (A118.out.below hb); have K119 := Lib.hid hx; have B19 := Lib.hid (B18.out.trans (hb.mono (HS.out ▸ B18.out.size)))
         have FAR19 := Lib.hid (show S + 1 ≤ BU ∧ BU < BS ∧ BS < BW ∧ BW < BX ∧ BX < BA ∧ BA < w18.heap.size ∧ w18.heap.size < w19.heap.size by have := FAR18.out; omega)
         clear hx hb hs C18 U18 S118 W118 X118 A118 B18 FAR18
         generalize w18.heap.size = BK at *)
      | (refine wpList_ukey_store rfl _ _ rfl rfl BK rfl U rfl noKeys K119.out ?_; intro w20 hx hb hs
         have C20 := Lib.hid (C19.out.but hb (by have := FAR19.out; omega)); have U20 := Lib.hid (U19.out.but hb (by have := FAR19.out; omega)); have S120 := Lib.hid (S119.out.but hb (by have := FAR19.out; omega)); have W120 := Lib.hid (W119.out.but hb (by have := FAR19.out; omega)); have X120 := Lib.hid (X119.out.but hb (by have := FAR19.out; omega)); have A120 := Lib.hid (A119.out.but hb (by have := FAR19.out; omega)); have K120 := Lib.hid hx; have B20 := Lib.hid (B19.out.trans (hb.below (by have := FAR19.out; omega) (HS.out ▸ B19.out.size)))
         have FAR20 := Lib.hid (show S + 1 ≤ BU ∧ BU < BS ∧ BS < BW ∧ BW < BX ∧ BX < BA ∧ BA < BK ∧ BK < w20.heap.size by have := FAR19.out; omega)
         clear hx hb hs C19 U19 S119 W119 X119 A119 K119 B19 FAR19)
      | (refine wpList_ukey_load rfl _ rfl BK rfl U K120.out.row ?_)
      | (refine wpList_ukey_load rfl _ rfl BU rfl U U20.out.row ?_)
      | (refine wpList_ukey_eql rfl _ _ rfl U rfl rfl ?_))
    go_ret
    exact ⟨rfl, B20.out⟩

theorem laidOut : laidOutB Try.prog = true := by kernel_rfl
set_option maxRecDepth 100000 in
theorem lifted (os : Os) (started : os.Started) (H : Type) (enc : TypeId × Value → H) :
    ReturnsInHanded {} Try.checked os 3 .any (Rows.vaultSlotsSpec.pre6 enc Try.prog Try.f3 Rows.vaultSlotsRow.domain false) (Rows.vaultSlotsSpec.post enc Try.prog Try.f3 false true false false) := by
  refine returnsInHanded_of_change (C := Try.checked) own started (by kernel_rfl) Try.func3
    (ChangeSpec.witness6 (enc := enc) (C := Try.checked) false ⟨#[], #[.slice none 0 0, .slice none 0 0, .agg #[.int .u8 0, .int .u8 0, .int .u8 0, .int .u8 0, .int .u8 0, .int .u8 0, .int .u8 0, .int .u8 0, .int .u8 0, .int .u8 0, .int .u8 0, .int .u8 0, .int .u8 0, .int .u8 0, .int .u8 0, .int .u8 0, .int .u8 0, .int .u8 0, .int .u8 0, .int .u8 0, .int .u8 0, .int .u8 0, .int .u8 0, .int .u8 0, .int .u8 0, .int .u8 0, .int .u8 0, .int .u8 0, .int .u8 0, .int .u8 0, .int .u8 0, .int .u8 0, .int .u8 0, .int .u8 0, .int .u8 0, .int .u8 0, .int .u8 0, .int .u8 0, .int .u8 0, .int .u8 0, .int .u8 0, .int .u8 0, .int .u8 0, .int .u8 0, .int .u8 0, .int .u8 0, .int .u8 0, .int .u8 0, .int .u8 0, .int .u8 0, .int .u8 0, .int .u8 0, .int .u8 0, .int .u8 0, .int .u8 0, .int .u8 0, .int .u8 0, .int .u8 0, .int .u8 0, .int .u8 0, .int .u8 0, .int .u8 0, .int .u8 0, .int .u8 0, .int .u8 0, .int .u8 0, .int .u8 0, .int .u8 0, .int .u8 0, .int .u8 0, .int .u8 0, .int .u8 0, .int .u8 0, .int .u8 0, .int .u8 0, .int .u8 0, .int .u8 0, .int .u8 0, .int .u8 0, .int .u8 0, .int .u8 0, .int .u8 0, .int .u8 0, .int .u8 0, .int .u8 0, .int .u8 0, .int .u8 0, .int .u8 0, .int .u8 0, .int .u8 0, .int .u8 0, .int .u8 0, .int .u8 0, .int .u8 0, .int .u8 0, .int .u8 0, .int .u8 0, .int .u8 0, .int .u8 0, .int .u8 0, .int .u8 0, .int .u8 0, .int .u8 0, .int .u8 0, .int .u8 0, .int .u8 0, .int .u8 0, .int .u8 0, .int .u8 0, .int .u8 0, .int .u8 0, .int .u8 0, .int .u8 0, .int .u8 0, .int .u8 0, .int .u8 0, .int .u8 0, .int .u8 0, .int .u8 0, .int .u8 0, .int .u8 0, .int .u8 0, .int .u8 0, .int .u8 0, .int .u8 0, .int .u8 0, .int .u8 0, .int .u8 0]], []⟩ 8 (by kernel_rfl) (by kernel_rfl) (by kernel_rfl) (by kernel_rfl)) ?_
  intro W base args ds gs before hval0 hW hcnd _
  have hval : ∀ (j : Nat) t v, Try.f3.params[j]? = some t → args[j]? = some v → Value.okWide Try.prog W .any base t v := hval0
  have hW' := hW
  obtain ⟨p, q, hA0, hV, rfl, hfz, hnd⟩ := hW
  have hA : DataW.TrodAll enc Try.prog W 0 (fun _ => true) true Try.f3.params.toList args.toList ds p := hA0
  rw [Try.params3] at hA hval
  obtain ⟨v0, vs0, d0, ds0, p0, q0, hargs, rfl, rfl, h0, r0⟩ := trodAll_cons hA
  obtain ⟨v1, vs1, d1, ds1, p1, q1, rfl, rfl, rfl, h1, r1⟩ := trodAll_cons r0
  obtain ⟨v2, vs2, d2, ds2, p2, q2, rfl, rfl, rfl, h2, r2⟩ := trodAll_cons r1
  obtain ⟨rfl, rfl, rfl⟩ := trodAll_nil r2
  obtain rfl : args = #[v0, v1, v2] := by cases args; simp_all
  obtain ⟨rfl, rfl⟩ := trodVars_none hV
  have k0 := h0
  have lt0 : ∀ x ∈ p0, x.block < W.heap.size := by obtain ⟨m, hm⟩ := k0; exact DataW.trod_lt m _ _ _ hm
  obtain ⟨q0, n0, c0, a0, rfl, w0, y0, l0, m0⟩ := open_byteslice (hval 0 22 v0 rfl rfl) h0
  have k1 := h1
  have lt1 : ∀ x ∈ p1, x.block < W.heap.size := by obtain ⟨m, hm⟩ := k1; exact DataW.trod_lt m _ _ _ hm
  obtain ⟨q1, n1, c1, a1, rfl, w1, y1, l1, m1⟩ := open_byteslice (hval 1 22 v1 rfl rfl) h1
  have k2 := h2
  have lt2 : ∀ x ∈ p2, x.block < W.heap.size := by obtain ⟨m, hm⟩ := k2; exact DataW.trod_lt m _ _ _ hm
  obtain ⟨a2, w2, rfl⟩ := open_bytes Try.underlying24 Try.underlying5 (by kernel_rfl) (by kernel_rfl) (hval 2 24 v2 rfl rfl) h2
  clear hA0 hval0
  refine (walk q0 n0 c0 a0 q1 n1 c1 a1 a2 w0 l0 m0 w1 l1 m1 w2 W y0 y1).mono fun e W' ⟨he, bel⟩ => ?_
  subst he
  exact ⟨_, rfl, _, _, _, [], _, [], hW', trodAll_mk1 (shut_bool Try.underlying4 _), (trodAll_cons_mk (Below.trod laidOut (by kernel_rfl) (of_decide_eq_true (by kernel_rfl)) k0 bel lt0) (trodAll_cons_mk (Below.trod laidOut (by kernel_rfl) (of_decide_eq_true (by kernel_rfl)) k1 bel lt1) (trodAll_cons_mk (Below.trod laidOut (by kernel_rfl) (of_decide_eq_true (by kernel_rfl)) k2 bel lt2) trodAll_mk0))), rfl, bel.frame _, fun h => by cases h⟩

theorem over : Rows.vaultSlotsRow.holds Try.pinned (OpenSpec.ofChange Rows.vaultSlotsSpec) :=
  OpenClaim.holds_of_wide 3 Try.f3 rfl rfl rfl rfl rfl rfl rfl ⟨rfl, rfl, rfl, rfl, rfl⟩ rfl rfl rfl rfl rfl (by kernel_rfl) Try.func3 (by kernel_rfl)
    (of_decide_eq_true (by kernel_rfl)) (by unfold Func.isWrapper; first | (rw [if_pos (by decide +kernel)]; kernel_rfl) | (rw [if_neg (by decide +kernel)]; exact ⟨rfl, rfl⟩))
    (fun os started H enc _ => lifted os started H enc)

theorem proved : Rows.VaultSlotsSaid := over
end Go.Proofs.Ytghdeedglekphaa.vaultSlots
