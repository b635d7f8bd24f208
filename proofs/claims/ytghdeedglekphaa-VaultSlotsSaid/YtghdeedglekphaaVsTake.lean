/- The contract of package vault's TakeSlot. Conditions: the key's bytes are bytes; a sector is 128 bytes. -/
import Derived.Test.YtghdeedglekphaaVsSlot
namespace Go.Proofs.Ytghdeedglekphaa
open Go.ChangeShapes Go.WideShapes Go.ChangeAt Go.RowKit
set_option linter.unusedVariables false
theorem sameS_self (s : List Int) : sameS s s = true := by unfold sameS; exact beq_self_eq_true _
theorem sameS_not {c d : List Int} (hc : IsSec c) (hd : IsSec d) (h : c ≠ d) : sameS c d = false := by
  cases e : sameS c d with
  | false => rfl
  | true => exact absurd ((sameS_iff hc hd).1 e) h
theorem cell_upto (B off k : Nat) (hk : k ≤ 128) (w : World) : (Instr.sliceAt 24 (.pointer (some ⟨B, off, none⟩)) none (some (.int .i64 k)) none).run Try.prog w = .ok (.slice (some ⟨B, off, none⟩) k 128) w := by
  have hs := byteElem.run_size (P := Try.prog) w
  have e1 : (0 : Int) ≤ k := by omega
  have e2 : (k : Int) ≤ 128 := by omega
  simp [go_sem, e1, e2, hs, addr_add, Program.elem]
section
variable {ops : Array Oper} {rest : List Oper} {o : Oper} {a : Act} {w : World} {Q : Exit → Act → World → Prop}
theorem wpList_cell_upto (hgd : o.guard = none) (x y : Operand) (ho : o.op = .slice 24 x none (some y) none) (B k : Nat) (hx : a.eval x = .pointer (some ⟨B, 0, none⟩)) (hy : a.eval y = .int .i64 k) (hk : k ≤ 128)
    (h : wpList Try.prog ops Q rest (a.put o.dst (.slice (some ⟨B, 0, none⟩) k 128)) w) : wpList Try.prog ops Q (o :: rest) a w :=
  wpList_plain hgd fun K hK => by
    have hr := cell_upto B 0 k hk w
    unfold Oper.wp execOp
    simp only [ho, hx]
    simp [hy, hr]
    exact hK _ _ h
end
theorem sec_bytes_at {w : World} {B m : Nat} {s : List Int} (h : CellB w B (secC s)) (hm : m ≤ 128) : BytesAt w (some ⟨B, 0, none⟩) m (natF s) := bytes_of_range (h.part fun j v hv => by
  obtain ⟨hj, rfl⟩ := bytC_is hv
  unfold secC
  rw [Nat.zero_add]; exact bytC_get _ (by omega)) h.lt
attribute [local irreducible] nought sumVal sumC secVal secC bytC noSec fTo keyC keyV noKeys padF halfK accK wrpN unwN rkS sameS txt
section
variable {o : Oper} {a : Act} {C : World → Prop} {K : Act → Prop}
theorem gives_none_eql (x : Operand) (ho : o.op = .binOp .eql 29 x (.const .nilIface) 29) (hx : a.eval x = .nilIface) (hk : K (a.put o.dst (.bool true))) : ∃ v, Gives Try.prog C o a v ∧ K (a.put o.dst v) :=
  ⟨_, fun w _ => by
    unfold execOp
    simp only [ho, hx]
    simp [go_sem, Act.eval], hk⟩
end
set_option maxRecDepth 100000 in
set_option maxHeartbeats 4000000 in
theorem TakeSlot_pad (kp : Option Addr) (n kc : Nat) (s : List Int) (hs : IsSec s) (hp : padF 72 (natF s) ≠ s) (w : World) :
    Calls Try.prog 10 #[.slice kp n kc, secVal s] w fun e w' => e = .returned (.tuple #[keyV noKeys, .bool false]) ∧ Below w.heap.size w w' := by
  have FP := Lib.hid (fun (W : World) B (h : CellB W B (secC s)) => FillP_ok (n := 72) (by decide) (natF s) (some ⟨B, 0, none⟩) 128 W (sec_bytes_at h (by decide)))
  have NE := Lib.hid (show (!sameS (padF 72 (natF s)) s) = true by rw [sameS_not (padF_sec fun i _ => natF_lt hs.2 i) hs hp]; rfl)
  clear hs hp
  generalize padF 72 (natF s) = ps at *
  generalize hS : w.heap.size = S at *
  have HS := Lib.hid hS
  clear hS
  go_enter Try.func10, Try.ntmps10
  go_wp2_with (first
    | (refine wpList_cell_boxed rfl _ rfl s rfl S HS.out ?_; intro w1 hx hb hs
       have C1 := Lib.hid hx; have B1 := Lib.hid hb; have S1 := Lib.hid hs; clear hx hb hs)
    | (refine wpList_ukey_alloc rfl rfl (S + 1) S1.out ?_; intro w2 hx hb hs
       have C2 := Lib.hid (C1.out.belowM hb (by omega)); have R2 := Lib.hid hx; have B2 := Lib.hid (B1.out.trans (hb.mono (by omega))); have S2 := Lib.hid (show S + 2 ≤ w2.heap.size by omega); clear hx hb hs C1 B1 S1)
    | (refine wpList_cell_upto rfl _ _ rfl S 72 rfl rfl (by decide) ?_)
    | (go_at_call 19; refine (FP.out w2 S C2.out).mono ?_; rintro e w3 ⟨rfl, hb⟩
       have C3 := Lib.hid (C2.out.below hb); have R3 := Lib.hid (R2.out.below hb); have B3 := Lib.hid (B2.out.trans (hb.mono (HS.out ▸ B2.out.size))); have S3 := Lib.hid (Nat.le_trans S2.out hb.size)
       clear hb C2 R2 B2 S2 FP)
    | (refine wpList_cell_alloc rfl rfl w3.heap.size rfl ?_; intro w4 hx hb hs
       have C4 := Lib.hid (C3.out.below hb); have R4 := Lib.hid (R3.out.below hb); have M4 := Lib.hid hx; have B4 := Lib.hid (B3.out.trans (hb.mono (HS.out ▸ B3.out.size))); have S4 := Lib.hid (show S + 2 ≤ w3.heap.size ∧ w3.heap.size < w4.heap.size from ⟨S3.out, by omega⟩)
       clear hx hb hs C3 R3 B3 S3
       generalize w3.heap.size = M at *)
    | (refine wpList_cell_store rfl _ _ rfl rfl M rfl ps rfl noSec M4.out ?_; intro w5 hx hb hs
       have M5 := Lib.hid hx; have C5 := Lib.hid (C4.out.but hb (by have := S4.out; omega)); have R5 := Lib.hid (R4.out.but hb (by have := S4.out; omega)); have B5 := Lib.hid (B4.out.trans (hb.below (by have := S4.out; omega) (HS.out ▸ B4.out.size)))
       clear hx hb hs C4 R4 B4 M4)
    | (refine wpList_cell_load rfl _ rfl M 0 rfl ps M5.out.row ?_)
    | (refine wpList_cell_load rfl _ rfl S 0 rfl s C5.out.row ?_)
    | (refine wpList_cell_neq rfl _ _ rfl ps s rfl rfl _ NE.out ?_)
    | (refine wpList_ukey_build0 rfl rfl ?_)
    | (refine wpList_ukey_store rfl _ _ rfl rfl (S + 1) rfl noKeys rfl noKeys R5.out ?_; intro w9 hx hb hs
       have R9 := Lib.hid hx; have B9 := Lib.hid (B5.out.trans (hb.below (by omega) (HS.out ▸ B5.out.size)))
       clear hx hb hs))
  exact bodyPost_ret (results_key_tmp rfl _ _ (S + 1) noKeys rfl R9.out) rfl ⟨rfl, B9.out⟩
set_option maxRecDepth 100000 in
set_option maxHeartbeats 4000000 in
theorem TakeSlot_key (kp : Option Addr) (n kc : Nat) (h16 : n ≠ 16) (h32 : n ≠ 32) (s : List Int) (hs : IsSec s) (hp : padF 72 (natF s) = s) (w : World) :
    Calls Try.prog 10 #[.slice kp n kc, secVal s] w fun e w' => e = .returned (.tuple #[keyV noKeys, .bool false]) ∧ Below w.heap.size w w' := by
  have FP := Lib.hid (fun (W : World) B (h : CellB W B (secC s)) => FillP_ok (n := 72) (by decide) (natF s) (some ⟨B, 0, none⟩) 128 W (sec_bytes_at h (by decide)))
  have NE := Lib.hid (show (!sameS (padF 72 (natF s)) s) = false by rw [hp, sameS_self]; rfl)
  have UW := Lib.hid (fun q c (W : World) => Unwrap_key kp n kc q 72 c h16 h32 W)
  clear hs hp h16 h32
  generalize padF 72 (natF s) = ps at *
  generalize hS : w.heap.size = S at *
  have HS := Lib.hid hS
  clear hS
  go_enter Try.func10, Try.ntmps10
  go_wp2_with (first
    | (refine wpList_cell_boxed rfl _ rfl s rfl S HS.out ?_; intro w1 hx hb hs
       have C1 := Lib.hid hx; have B1 := Lib.hid hb; have S1 := Lib.hid hs; clear hx hb hs)
    | (refine wpList_ukey_alloc rfl rfl (S + 1) S1.out ?_; intro w2 hx hb hs
       have C2 := Lib.hid (C1.out.belowM hb (by omega)); have R2 := Lib.hid hx; have B2 := Lib.hid (B1.out.trans (hb.mono (by omega))); have S2 := Lib.hid (show S + 2 ≤ w2.heap.size by omega); clear hx hb hs C1 B1 S1)
    | (refine wpList_cell_upto rfl _ _ rfl S 72 rfl rfl (by decide) ?_)
    | (go_at_call 19; refine (FP.out w2 S C2.out).mono ?_; rintro e w3 ⟨rfl, hb⟩
       have C3 := Lib.hid (C2.out.below hb); have R3 := Lib.hid (R2.out.below hb); have B3 := Lib.hid (B2.out.trans (hb.mono (HS.out ▸ B2.out.size))); have S3 := Lib.hid (Nat.le_trans S2.out hb.size)
       clear hb C2 R2 B2 S2 FP)
    | (refine wpList_cell_alloc rfl rfl w3.heap.size rfl ?_; intro w4 hx hb hs
       have C4 := Lib.hid (C3.out.below hb); have R4 := Lib.hid (R3.out.below hb); have M4 := Lib.hid hx; have B4 := Lib.hid (B3.out.trans (hb.mono (HS.out ▸ B3.out.size))); have S4 := Lib.hid (show S + 2 ≤ w3.heap.size ∧ w3.heap.size < w4.heap.size from ⟨S3.out, by omega⟩)
       clear hx hb hs C3 R3 B3 S3
       generalize w3.heap.size = M at *)
    | (refine wpList_cell_store rfl _ _ rfl rfl M rfl ps rfl noSec M4.out ?_; intro w5 hx hb hs
       have M5 := Lib.hid hx; have C5 := Lib.hid (C4.out.but hb (by have := S4.out; omega)); have R5 := Lib.hid (R4.out.but hb (by have := S4.out; omega)); have B5 := Lib.hid (B4.out.trans (hb.below (by have := S4.out; omega) (HS.out ▸ B4.out.size)))
       clear hx hb hs C4 R4 B4 M4)
    | (refine wpList_cell_load rfl _ rfl M 0 rfl ps M5.out.row ?_)
    | (refine wpList_cell_load rfl _ rfl S 0 rfl s C5.out.row ?_)
    | (refine wpList_cell_neq rfl _ _ rfl ps s rfl rfl _ NE.out ?_)
    | (go_at_call 20; refine (UW.out _ _ w5).mono ?_; rintro e w6 ⟨rfl, hb⟩
       have R6 := Lib.hid (R5.out.below hb); have B6 := Lib.hid (B5.out.trans (hb.mono (HS.out ▸ B5.out.size)))
       clear hb R5 B5 UW)
    | (refine wpList_ukey_build0 rfl rfl ?_)
    | (refine wpList_ukey_store rfl _ _ rfl rfl (S + 1) rfl noKeys rfl noKeys R6.out ?_; intro w9 hx hb hs
       have R9 := Lib.hid hx; have B9 := Lib.hid (B6.out.trans (hb.below (by omega) (HS.out ▸ B6.out.size)))
       clear hx hb hs))
  exact bodyPost_ret (results_key_tmp rfl _ _ (S + 1) noKeys rfl R9.out) rfl ⟨rfl, B9.out⟩
set_option maxRecDepth 100000 in
set_option maxHeartbeats 4000000 in
theorem TakeSlot_unsure (kp : Option Addr) (n kc N : Nat) (g : Nat → Nat) (hn : n = 4 * N) (hN : N = 4 ∨ N = 8) (hcap : n ≤ kc) (hg : ∀ i, i < n → g i < 256) (s : List Int) (hs : IsSec s) (hp : padF 72 (natF s) = s) (hsu : sure (unwN (rkS N g) (N + 7) 8 (natF s)) = false) (w : World) (hk : BytesAt w kp n g) :
    Calls Try.prog 10 #[.slice kp n kc, secVal s] w fun e w' => e = .returned (.tuple #[keyV noKeys, .bool false]) ∧ Below w.heap.size w w' := by
  have FP := Lib.hid (fun (W : World) B (h : CellB W B (secC s)) => FillP_ok (n := 72) (by decide) (natF s) (some ⟨B, 0, none⟩) 128 W (sec_bytes_at h (by decide)))
  have NE := Lib.hid (show (!sameS (padF 72 (natF s)) s) = false by rw [hp, sameS_self]; rfl)
  have UW := Lib.hid (fun (W : World) B (hb : Below w.heap.size w W) (h : CellB W B (secC s)) => Unwrap_run kp n kc N g (some ⟨B, 0, none⟩) 72 128 8 (natF s) hn hN hcap hg rfl (by decide) (by decide) (by decide) (fun i _ => natF_lt hs.2 i) W (hk.below hb) (sec_bytes_at h (by decide)))
  rw [hsu] at UW
  generalize unwN (rkS N g) (N + 7) 8 (natF s) = X at *
  clear hs hp hn hN hcap hg hk
  generalize padF 72 (natF s) = ps at *
  generalize hS : w.heap.size = S at *
  have HS := Lib.hid hS
  clear hS
  go_enter Try.func10, Try.ntmps10
  go_wp2_with (first
    | (refine wpList_cell_boxed rfl _ rfl s rfl S HS.out ?_; intro w1 hx hb hs
       have C1 := Lib.hid hx; have B1 := Lib.hid hb; have S1 := Lib.hid hs; clear hx hb hs)
    | (refine wpList_ukey_alloc rfl rfl (S + 1) S1.out ?_; intro w2 hx hb hs
       have C2 := Lib.hid (C1.out.belowM hb (by omega)); have R2 := Lib.hid hx; have B2 := Lib.hid (B1.out.trans (hb.mono (by omega))); have S2 := Lib.hid (show S + 2 ≤ w2.heap.size by omega); clear hx hb hs C1 B1 S1)
    | (refine wpList_cell_upto rfl _ _ rfl S 72 rfl rfl (by decide) ?_)
    | (go_at_call 19; refine (FP.out w2 S C2.out).mono ?_; rintro e w3 ⟨rfl, hb⟩
       have C3 := Lib.hid (C2.out.below hb); have R3 := Lib.hid (R2.out.below hb); have B3 := Lib.hid (B2.out.trans (hb.mono (HS.out ▸ B2.out.size))); have S3 := Lib.hid (Nat.le_trans S2.out hb.size)
       clear hb C2 R2 B2 S2 FP)
    | (refine wpList_cell_alloc rfl rfl w3.heap.size rfl ?_; intro w4 hx hb hs
       have C4 := Lib.hid (C3.out.below hb); have R4 := Lib.hid (R3.out.below hb); have M4 := Lib.hid hx; have B4 := Lib.hid (B3.out.trans (hb.mono (HS.out ▸ B3.out.size))); have S4 := Lib.hid (show S + 2 ≤ w3.heap.size ∧ w3.heap.size < w4.heap.size from ⟨S3.out, by omega⟩)
       clear hx hb hs C3 R3 B3 S3
       generalize w3.heap.size = M at *)
    | (refine wpList_cell_store rfl _ _ rfl rfl M rfl ps rfl noSec M4.out ?_; intro w5 hx hb hs
       have M5 := Lib.hid hx; have C5 := Lib.hid (C4.out.but hb (by have := S4.out; omega)); have R5 := Lib.hid (R4.out.but hb (by have := S4.out; omega)); have B5 := Lib.hid (B4.out.trans (hb.below (by have := S4.out; omega) (HS.out ▸ B4.out.size)))
       clear hx hb hs C4 R4 B4 M4)
    | (refine wpList_cell_load rfl _ rfl M 0 rfl ps M5.out.row ?_)
    | (refine wpList_cell_load rfl _ rfl S 0 rfl s C5.out.row ?_)
    | (refine wpList_cell_neq rfl _ _ rfl ps s rfl rfl _ NE.out ?_)
    | (go_at_call 20; refine (UW.out w5 S (HS.out.symm ▸ B5.out) C5.out).mono ?_; rintro e w6 ⟨hb, -, he⟩
       have he2 := he (by first | exact trivial | rfl)
       subst he2
       have R6 := Lib.hid (R5.out.below hb); have B6 := Lib.hid (B5.out.trans (hb.mono (HS.out ▸ B5.out.size)))
       clear hb he R5 B5 UW)
    | (refine wpList_ukey_build0 rfl rfl ?_)
    | (refine wpList_ukey_store rfl _ _ rfl rfl (S + 1) rfl noKeys rfl noKeys R6.out ?_; intro w9 hx hb hs
       have R9 := Lib.hid hx; have B9 := Lib.hid (B6.out.trans (hb.below (by omega) (HS.out ▸ B6.out.size)))
       clear hx hb hs))
  exact bodyPost_ret (results_key_tmp rfl _ _ (S + 1) noKeys rfl R9.out) rfl ⟨rfl, B9.out⟩
set_option maxRecDepth 100000 in
set_option maxHeartbeats 4000000 in
theorem TakeSlot_sure (kp : Option Addr) (n kc N : Nat) (g : Nat → Nat) (hn : n = 4 * N) (hN : N = 4 ∨ N = 8) (hcap : n ≤ kc) (hg : ∀ i, i < n → g i < 256) (s : List Int) (hs : IsSec s) (hp : padF 72 (natF s) = s) (hsu : sure (unwN (rkS N g) (N + 7) 8 (natF s)) = true) (w : World) (hk : BytesAt w kp n g) :
    Calls Try.prog 10 #[.slice kp n kc, secVal s] w fun e w' => e = .returned (.tuple #[keyV (mk 64 (txt (unwN (rkS N g) (N + 7) 8 (natF s)))), .bool true]) ∧ Below w.heap.size w w' := by
  have FP := Lib.hid (fun (W : World) B (h : CellB W B (secC s)) => FillP_ok (n := 72) (by decide) (natF s) (some ⟨B, 0, none⟩) 128 W (sec_bytes_at h (by decide)))
  have NE := Lib.hid (show (!sameS (padF 72 (natF s)) s) = false by rw [hp, sameS_self]; rfl)
  have UW := Lib.hid (fun (W : World) B (hb : Below w.heap.size w W) (h : CellB W B (secC s)) => Unwrap_run kp n kc N g (some ⟨B, 0, none⟩) 72 128 8 (natF s) hn hN hcap hg rfl (by decide) (by decide) (by decide) (fun i _ => natF_lt hs.2 i) W (hk.below hb) (sec_bytes_at h (by decide)))
  rw [hsu] at UW
  generalize hX : unwN (rkS N g) (N + 7) 8 (natF s) = X at *
  have EQX := Lib.hid hX
  clear hX
  clear hs hp hn hN hcap hg hk
  generalize padF 72 (natF s) = ps at *
  generalize hS : w.heap.size = S at *
  have HS := Lib.hid hS
  clear hS
  go_enter Try.func10, Try.ntmps10
  go_wp2_with (first
    | (refine wpList_cell_boxed rfl _ rfl s rfl S HS.out ?_; intro w1 hx hb hs
       have C1 := Lib.hid hx; have B1 := Lib.hid hb; have S1 := Lib.hid hs; clear hx hb hs)
    | (refine wpList_ukey_alloc rfl rfl (S + 1) S1.out ?_; intro w2 hx hb hs
       have C2 := Lib.hid (C1.out.belowM hb (by omega)); have R2 := Lib.hid hx; have B2 := Lib.hid (B1.out.trans (hb.mono (by omega))); have S2 := Lib.hid (show S + 2 ≤ w2.heap.size by omega); clear hx hb hs C1 B1 S1)
    | (refine wpList_cell_upto rfl _ _ rfl S 72 rfl rfl (by decide) ?_)
    | (go_at_call 19; refine (FP.out w2 S C2.out).mono ?_; rintro e w3 ⟨rfl, hb⟩
       have C3 := Lib.hid (C2.out.below hb); have R3 := Lib.hid (R2.out.below hb); have B3 := Lib.hid (B2.out.trans (hb.mono (HS.out ▸ B2.out.size))); have S3 := Lib.hid (Nat.le_trans S2.out hb.size)
       clear hb C2 R2 B2 S2 FP)
    | (refine wpList_cell_alloc rfl rfl w3.heap.size rfl ?_; intro w4 hx hb hs
       have C4 := Lib.hid (C3.out.below hb); have R4 := Lib.hid (R3.out.below hb); have M4 := Lib.hid hx; have B4 := Lib.hid (B3.out.trans (hb.mono (HS.out ▸ B3.out.size))); have S4 := Lib.hid (show S + 2 ≤ w3.heap.size ∧ w3.heap.size < w4.heap.size from ⟨S3.out, by omega⟩)
       clear hx hb hs C3 R3 B3 S3
       generalize w3.heap.size = M at *)
    | (refine wpList_cell_store rfl _ _ rfl rfl M rfl ps rfl noSec M4.out ?_; intro w5 hx hb hs
       have M5 := Lib.hid hx; have C5 := Lib.hid (C4.out.but hb (by have := S4.out; omega)); have R5 := Lib.hid (R4.out.but hb (by have := S4.out; omega)); have B5 := Lib.hid (B4.out.trans (hb.below (by have := S4.out; omega) (HS.out ▸ B4.out.size)))
       clear hx hb hs C4 R4 B4 M4)
    | (refine wpList_cell_load rfl _ rfl M 0 rfl ps M5.out.row ?_)
    | (refine wpList_cell_load rfl _ rfl S 0 rfl s C5.out.row ?_)
    | (refine wpList_cell_neq rfl _ _ rfl ps s rfl rfl _ NE.out ?_)
    | (go_at_call 20; refine (UW.out w5 S (HS.out.symm ▸ B5.out) C5.out).mono ?_; rintro e w6 ⟨hb, he, -⟩
       obtain ⟨D6, he2, hr, -⟩ := he (by first | exact trivial | rfl)
       subst he2
       have Q6 := Lib.hid (show BytesAt w6 (some ⟨D6, 0, none⟩) 64 (txt X) from hr.bytesAt)
       have R6 := Lib.hid (R5.out.below hb); have B6 := Lib.hid (B5.out.trans (hb.mono (HS.out ▸ B5.out.size)))
       clear hb he hr R5 B5 UW)
    | (go_at_call 5; refine (KeysOf_ok (some ⟨D6, 0, none⟩) 64 (txt X) (by decide) w6 Q6.out).mono ?_; rintro e w7 ⟨rfl, hb⟩
       have R7 := Lib.hid (R6.out.below hb); have B7 := Lib.hid (B6.out.trans (hb.mono (HS.out ▸ B6.out.size)))
       clear hb R6 B6 Q6
       generalize hU : mk 64 (txt X) = U at *
       have EQU := Lib.hid hU
       clear hU)
    | (refine wpList_ukey_alloc rfl rfl w7.heap.size rfl ?_; intro w8 hx hb hs
       have R8 := Lib.hid (R7.out.below hb); have N8 := Lib.hid hx; have B8 := Lib.hid (B7.out.trans (hb.mono (HS.out ▸ B7.out.size))); have F8 := Lib.hid R7.out.lt; have F8b := Lib.hid (show w7.heap.size < w8.heap.size by omega)
       clear hx hb hs R7 B7
       generalize w7.heap.size = T at *)
    | (refine wpList_ukey_store rfl _ _ rfl rfl T rfl U rfl noKeys N8.out ?_; intro w9 hx hb hs
       have N9 := Lib.hid hx; have R9 := Lib.hid (R8.out.but hb (by have := F8.out; omega)); have B9 := Lib.hid (B8.out.trans (hb.below (by have := F8.out; omega) (HS.out ▸ B8.out.size)))
       clear hx hb hs N8 R8 B8))
  have hb4 : Below w9.heap.size w9 w9.drew := (Below.refl _ _).drew
  have NA := Lib.hid (N9.out.below hb4); have RA := Lib.hid (R9.out.below hb4); have BA := Lib.hid (B9.out.trans (hb4.mono (HS.out ▸ B9.out.size)))
  clear hb4 N9 R9 B9
  refine wp_region_sched [(0, true), (1, true), (2, true), (3, false), (4, true)] (fun W => CellB W T (keyC U)) (by kernel_rfl) (by kernel_rfl) NA.out ?_
  refine walk_float rfl rfl (fun K' hK => ?_)
  refine gives_ukey_load _ rfl T rfl U (fun W h => h.row) ?_
  go_simp
  refine hK _ ?_
  clear hK K'
  refine walk_float rfl rfl (fun K' hK => ?_)
  refine gives_move _ rfl ?_
  go_simp
  refine hK _ ?_
  clear hK K'
  refine walk_float rfl rfl (fun K' hK => ?_)
  refine gives_none_eql _ rfl rfl ?_
  go_simp
  refine hK _ ?_
  clear hK K'
  refine walk_done rfl rfl (fun K' hK => ?_)
  refine done_ukey_store _ _ rfl (S + 1) rfl U rfl noKeys RA.out ?_
  intro wB hx hb hs
  have RB := Lib.hid hx; have NB := Lib.hid (NA.out.but hb (by have := F8.out; omega)); have BB := Lib.hid (BA.out.trans (hb.below (by omega) (HS.out ▸ BA.out.size)))
  clear hx hb hs RA BA NA
  refine ⟨NB.out, ?_⟩
  go_simp
  refine hK _ _ ?_
  clear hK K'
  refine walk_float rfl rfl (fun K' hK => ?_)
  refine gives_assign _ rfl ?_
  go_simp
  refine hK _ ?_
  clear hK K'
  refine walk_nil ?_
  go_wp2
  exact bodyPost_ret (results_key_tmp rfl _ _ (S + 1) U rfl RB.out) rfl ⟨by rw [EQU.out]; rfl, BB.out⟩
end Go.Proofs.Ytghdeedglekphaa
