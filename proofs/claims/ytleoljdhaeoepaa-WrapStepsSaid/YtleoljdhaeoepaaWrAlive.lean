/- The contract of the laws' own fixed fact: a text comes back with its own key alone. No condition. -/
import Derived.Test.YtleoljdhaeoepaaWrLaw
import Derived.Test.YtleoljdhaeoepaaWrExam
namespace Go.Proofs.Ytleoljdhaeoepaa
open Go.ChangeShapes Go.WideShapes Go.ChangeAt Go.RowKit
set_option linter.unusedVariables false

theorem keyB_set : (mk 16 zeroK).set 3 1 = mk 16 keyB := mk_set_is (v := 1) rfl fun j _ => by
  unfold keyB zeroK; rfl
theorem zeroK_lt (n : Nat) : ∀ i, i < n → zeroK i < 256 := fun i _ => by unfold zeroK; omega
theorem keyB_lt (n : Nat) : ∀ i, i < n → keyB i < 256 := fun i _ => by unfold keyB; split <;> omega
theorem rkZ : ∀ i, i < 11 → IsKey (rkS 4 zeroK i) := fun i _ => rkS_key (zeroK_lt 16) i
theorem zrow : IsRow (8 * 2) zeroK := zeroK_lt 16
theorem wz_lt : ∀ p, p < 24 → wrpN (rkS 4 zeroK) 11 2 zeroK p < 256 := wrpN_row rkZ (by omega) zrow
theorem Wrap_noughts (A B : Nat) (W : World) (hA : IntBlk W A .u8 5 (mk 16 zeroK)) (hB : IntBlk W B .u8 5 (mk 16 zeroK)) :
    Calls Try.prog 8 #[.slice (some ⟨A, 0, none⟩) 16 16, .slice (some ⟨B, 0, none⟩) 16 16] W fun e w' => ∃ D, e = .returned (.tuple #[.slice (some ⟨D, 0, none⟩) 24 24, .nilIface]) ∧ IntBlk w' D .u8 5 (mk 24 (wrpN (rkS 4 zeroK) 11 2 zeroK)) ∧ W.heap.size ≤ D ∧ Below W.heap.size W w' :=
  Wrap_ok (some ⟨A, 0, none⟩) 16 16 4 zeroK (some ⟨B, 0, none⟩) 16 16 2 zeroK rfl (.inl rfl) (by omega) (zeroK_lt 16) rfl (by omega) (by omega) (zeroK_lt 16) W hA.bytesAt hB.bytesAt
theorem Unwrap_noughts (A B : Nat) (W : World) (hA : IntBlk W A .u8 5 (mk 16 zeroK)) (hB : IntBlk W B .u8 5 (mk 24 (wrpN (rkS 4 zeroK) 11 2 zeroK))) :
    Calls Try.prog 16 #[.slice (some ⟨A, 0, none⟩) 16 16, .slice (some ⟨B, 0, none⟩) 24 24] W fun e w' => ∃ D, e = .returned (.tuple #[.slice (some ⟨D, 0, none⟩) 16 16, .nilIface]) ∧ IntBlk w' D .u8 5 (mk 16 zeroK) ∧ W.heap.size ≤ D ∧ Below W.heap.size W w' := by
  refine (Unwrap_run (some ⟨A, 0, none⟩) 16 16 4 zeroK (some ⟨B, 0, none⟩) 24 24 2 _ rfl (.inl rfl) (by omega) (zeroK_lt 16) rfl (by omega) (by omega) (by omega) wz_lt W hA.bytesAt hB.bytesAt).mono fun e w' ⟨hb, h, _⟩ => ?_
  rw [unw_wrp rkZ (by omega) zrow] at h
  obtain ⟨D, he, hr, hD⟩ := h (sure_ini _)
  rw [txt_ini] at hr
  exact ⟨D, he, hr, hD, hb⟩
theorem Unwrap_other (A B : Nat) (W : World) (hA : IntBlk W A .u8 5 (mk 16 keyB)) (hB : IntBlk W B .u8 5 (mk 24 (wrpN (rkS 4 zeroK) 11 2 zeroK))) :
    Calls Try.prog 16 #[.slice (some ⟨A, 0, none⟩) 16 16, .slice (some ⟨B, 0, none⟩) 24 24] W fun e w' => e = .returned (.tuple #[.slice none 0 0, .iface 36 (.int .i64 4)]) ∧ Below W.heap.size W w' :=
  (Unwrap_run (some ⟨A, 0, none⟩) 16 16 4 keyB (some ⟨B, 0, none⟩) 24 24 2 _ rfl (.inl rfl) (by omega) (keyB_lt 16) rfl (by omega) (by omega) (by omega) wz_lt W hA.bytesAt hB.bytesAt).mono fun e w' ⟨hb, _, h⟩ => ⟨h other_key, hb⟩
/-- What is wrapped comes back. -/
theorem Unwrap_back (p : Option Addr) (n cap N : Nat) (g : Nat → Nat) (q : Option Addr) (tn c m : Nat) (G : Nat → Nat) (hn : n = 4 * N) (hN : N = 4 ∨ N = 8) (hcap : n ≤ cap) (hg : ∀ i, i < n → g i < 256)
    (ht : tn = 8 * m) (h2 : 2 ≤ m) (h64 : m ≤ 64) (hc : tn + 8 ≤ c) (hG : ∀ i, i < tn → G i < 256) (w : World) (hp : BytesAt w p n g) (hq : BytesAt w q (tn + 8) (wrpN (rkS N g) (N + 7) m G)) :
    Calls Try.prog 16 #[.slice p n cap, .slice q (tn + 8) c] w fun e w' => ∃ D, e = .returned (.tuple #[.slice (some ⟨D, 0, none⟩) tn tn, .nilIface]) ∧ IntBlk w' D .u8 5 (mk tn G) ∧ Below w.heap.size w w' := by
  subst ht
  have hR : ∀ i, i < N + 7 → IsKey (rkS N g i) := fun i _ => rkS_key (fun i hi => hg i (by omega)) i
  refine (Unwrap_run p n cap N g q (8 * m + 8) c m _ hn hN hcap hg rfl h2 h64 hc (wrpN_row hR (by omega) hG) w hp hq).mono fun e w' ⟨hb, h, _⟩ => ?_
  rw [unw_wrp hR (by omega) hG] at h
  obtain ⟨D, he, hr, _⟩ := h (sure_ini _)
  rw [txt_ini] at hr
  exact ⟨D, he, hr, hb⟩
attribute [local irreducible] wrpN unwN rkS keyB

set_option maxRecDepth 100000 in
set_option maxHeartbeats 1000000 in
theorem alive_any (w : World) : Calls Try.prog 15 #[] w fun e w' => e = .returned (.bool true) ∧ Below w.heap.size w w' := by
  have IC := Lib.hid (fun W => Is_err 4 rfl W)
  have k2 := Lib.hid ((IntBlk.new w .u8 5 (mk 16 zeroK)).alloc (.cells (cellsOf .u8 (mk 16 zeroK)) 5))
  have t2 := Lib.hid (blk_two w .u8 5 (mk 16 zeroK) (.cells (cellsOf .u8 (mk 16 zeroK)) 5))
  have b2 := Lib.hid (below_two w (.cells (cellsOf .u8 (mk 16 zeroK)) 5) (.cells (cellsOf .u8 (mk 16 zeroK)) 5))
  have KS := Lib.hid keyB_set
  go_enter Try.func15, Try.ntmps15
  go_wp2_with (first
    | (refine wpList_make_noughts rfl _ _ rfl 16 (by omega) rfl rfl ?_)
    | (go_at_call 8; refine (Wrap_noughts w.heap.size (w.heap.size + 1) _ k2.out t2.out).mono ?_; rintro e w3 ⟨D, rfl, hr, hD, hb⟩
       have K3 := Lib.hid (k2.out.below hb k2.out.lt)
       have R3 := Lib.hid hr
       have B3 := Lib.hid (b2.out.trans (hb.mono b2.out.size))
       have hwD : w.heap.size < D := by have := k2.out.lt; omega
       clear hr hD hb k2 t2 b2)
    | (go_at_call 16; refine (Unwrap_noughts w.heap.size D w3 K3.out R3.out).mono ?_; rintro e w4 ⟨E, rfl, hr, hD, hb⟩
       have K4 := Lib.hid (K3.out.below hb K3.out.lt)
       have R4 := Lib.hid (R3.out.below hb R3.out.lt)
       have B4 := Lib.hid (B3.out.trans (hb.mono B3.out.size))
       have E4 := Lib.hid hr
       have hEw : w.heap.size < E := by have := K3.out.lt; omega
       have ck := K4.out.cell (i := 3) (by rw [mk_len]; omega)
       have fk := K4.out.free 3
       have K5 := Lib.hid (show IntBlk (w4.setCell ⟨w.heap.size, 3, none⟩ (.int .u8 1)) w.heap.size .u8 5 (mk 16 keyB) by rw [← KS.out]; exact K4.out.set 3 1)
       have R5 := Lib.hid (R4.out.other (a := ⟨w.heap.size, 3, none⟩) (by show w.heap.size ≠ D; omega) (.int .u8 1))
       have E5 := Lib.hid (E4.out.other (a := ⟨w.heap.size, 3, none⟩) (by show w.heap.size ≠ E; omega) (.int .u8 1))
       have B5 := Lib.hid (B4.out.setCell (p := ⟨w.heap.size, 3, none⟩) (Nat.le_refl _) (.int .u8 1))
       clear hr hD hb K3 R3 B3 K4 R4 B4 E4)
    | (go_at_call 16; refine (Unwrap_other w.heap.size D _ K5.out R5.out).mono ?_; rintro e w6 ⟨rfl, hb⟩
       have E6 := Lib.hid (E5.out.below hb E5.out.lt)
       have B6 := Lib.hid (B5.out.trans (hb.mono B5.out.size))
       have c0 : w6.cell? ⟨E, 0, none⟩ = some (.int .u8 0) := E6.out.cell (i := 0) (by rw [mk_len]; omega)
       clear hb K5 R5 E5 B5)
    | (go_at_call 17; refine (IC.out _).mono ?_; rintro e w7 ⟨rfl, rfl⟩))
  go_ret
  exact ⟨rfl, B6.out⟩
end Go.Proofs.Ytleoljdhaeoepaa
