/- The contract of package vault's TakeHead. Conditions: the package's variable holds the constants; the key has no more than 80,000 bytes; a sector is 128 bytes. -/
import Derived.Test.YtghdeedglekphaaDoorVtSaid
namespace Go.Proofs.YtghdeedglekphaaDoor
open Go.ChangeShapes Go.WideShapes Go.ChangeAt Go.RowKit
set_option linter.unusedVariables false
section
variable {o : Oper} {a : Act} {C : World → Prop} {K : Act → Prop}
theorem gives_none_neq (x : Operand) (ho : o.op = .binOp .neq 32 x (.const .nilIface) 32) (hx : a.eval x = .nilIface) (hk : K (a.put o.dst (.bool false))) : ∃ v, Gives Tryd.prog C o a v ∧ K (a.put o.dst v) :=
  ⟨_, fun w _ => by
    unfold execOp
    simp only [ho, hx]
    simp [go_sem, Act.eval], hk⟩
theorem gives_err_neq (x : Operand) (ho : o.op = .binOp .neq 32 x (.const .nilIface) 32) (z : Int) (hx : a.eval x = .iface 40 (.int .i64 z)) (hk : K (a.put o.dst (.bool true))) : ∃ v, Gives Tryd.prog C o a v ∧ K (a.put o.dst v) :=
  ⟨_, fun w _ => by
    unfold execOp
    simp only [ho, hx]
    simp [go_sem, Act.eval], hk⟩
end
theorem done_two' {o : Oper} {a : Act} {w : World} {K : Value → World → Prop} (x y z : Operand) (ts : Array TypeId) (ho : o.op = .call { callee := .value x, args := #[y, z], argTypes := ts }) (g : FuncId) (hx : a.eval x = .func (.func g) #[] #[])
    (u v : Value) (hy : a.eval y = u) (hz : a.eval z = v) (hf : ∀ (args : Array Value) (w : World), (callFunc g args).run Tryd.prog w = .ok (.enter g args) w)
    (hc : Calls Tryd.prog g #[u, v] w fun e w' => ∃ r, e = .returned r ∧ K r w') : doneAt Tryd.prog o a w K :=
  done_call x #[y, z] ts ho g #[u, v] hx (by simp only [List.map_toArray, List.map_cons, List.map_nil, hy, hz]) (hf _ w) hc
open Classical in
/-- What a sector is as a head: the head, and whether it is one. -/
noncomputable def hdAns (τ : List Int → List Int) (s : List Int) : Value := if isHd τ s then .tuple #[headV (countL s) (takeP s), .bool true] else .tuple #[headV 0 noRow, .bool false]
theorem hdAns_yes {τ : List Int → List Int} {s : List Int} (h : isHd τ s) : hdAns τ s = .tuple #[headV (countL s) (takeP s), .bool true] := if_pos h
theorem hdAns_no {τ : List Int → List Int} {s : List Int} (h : ¬ isHd τ s) : hdAns τ s = .tuple #[headV 0 noRow, .bool false] := if_neg h
attribute [local irreducible] nought tauK sumVal sumC secVal secC headV headC bytC rootsV rootK restK txtK hdT hdL numL noSec noRow fTo hdK takeP countL hdAns isHd
theorem cell_row128 (s : List Int) (hs : IsSec s) : mk 128 (natF s) = s := hs.mk'
set_option maxRecDepth 100000 in
set_option maxHeartbeats 4000000 in
theorem TakeHead_neg (kp : Option Addr) (n kc : Nat) (g : Nat → Nat) (hn : n ≤ 80000) (s : List Int) (hsec : IsSec s) (hz : countL s < 0) (w : World) (hk : KeyAt w kp n kc g) :
    Calls Tryd.prog 7 #[.slice kp n kc, secVal s] w fun e w' => e = .returned (.tuple #[headV 0 noRow, .bool false]) ∧ Below w.heap.size w w' := by
  have SD := Lib.hid (fun (W : World) => said_any s hsec W)
  have HN := Lib.hid (fun (W : World) => HeadCell_neg kp n kc (countL s) (takeP s) hz W)
  clear hsec hz hk hn
  generalize countL s = z at *
  generalize takeP s = P at *
  generalize hS : w.heap.size = S at *
  have HS := Lib.hid hS
  clear hS
  go_enter Tryd.func7, Tryd.ntmps7
  go_wp2_with (first
    | (refine wpList_cell_boxed rfl _ rfl s rfl S HS.out ?_; intro w1 hx hb hs
       have C1 := Lib.hid hx; have B1 := Lib.hid hb; have S1 := Lib.hid hs; clear hx hb hs)
    | (refine wpList_head_alloc rfl rfl (S + 1) S1.out ?_; intro w2 hx hb hs
       have C2 := Lib.hid (C1.out.belowM hb (by omega)); have R2 := Lib.hid hx; have B2 := Lib.hid (B1.out.trans (hb.mono (by omega))); have S2 := Lib.hid (show S + 2 ≤ w2.heap.size by omega)
       clear hx hb hs C1 B1 S1)
    | (refine wpList_cell_load rfl _ rfl S 0 rfl s C2.out.row ?_)
    | (go_at_call 16; refine (SD.out w2).mono ?_; rintro e w3 ⟨rfl, hb⟩
       have R3 := Lib.hid (R2.out.below hb); have B3 := Lib.hid (B2.out.trans (hb.mono (HS.out ▸ B2.out.size))); have S3 := Lib.hid (Nat.le_trans S2.out hb.size)
       clear hb C2 R2 B2 S2 SD)
    | (refine wpList_head_alloc rfl rfl w3.heap.size rfl ?_; intro w4 hx hb hs
       have R4 := Lib.hid (R3.out.below hb); have H4 := Lib.hid hx; have B4 := Lib.hid (B3.out.trans (hb.mono (HS.out ▸ B3.out.size))); have S4 := Lib.hid (show S + 2 ≤ w3.heap.size ∧ w3.heap.size < w4.heap.size from ⟨S3.out, by omega⟩)
       clear hx hb hs R3 B3 S3
       generalize w3.heap.size = H at *)
    | (refine wpList_head_store rfl _ _ rfl rfl H rfl z P rfl 0 noRow H4.out ?_; intro w5 hx hb hs
       have H5 := Lib.hid hx; have R5 := Lib.hid (R4.out.but hb (by have := S4.out; omega)); have B5 := Lib.hid (B4.out.trans (hb.below (by have := S4.out; omega) (HS.out ▸ B4.out.size)))
       clear hx hb hs H4 R4 B4)
    | (refine wpList_head_load rfl _ rfl H rfl z P H5.out.row ?_)
    | (go_at_call 5; refine (HN.out w5).mono ?_; rintro e w6 ⟨rfl, hb⟩
       have R6 := Lib.hid (R5.out.below hb); have B6 := Lib.hid (B5.out.trans (hb.mono (HS.out ▸ B5.out.size)))
       clear hb H5 R5 B5 HN)
    | (refine wpList_cell_alloc rfl rfl w6.heap.size rfl ?_; intro w7 hx hb hs
       have R7 := Lib.hid (R6.out.below hb); have M7 := Lib.hid hx; have B7 := Lib.hid (B6.out.trans (hb.mono (HS.out ▸ B6.out.size))); have L7 := Lib.hid R6.out.lt
       clear hx hb hs R6 B6)
    | (refine wpList_cell_store rfl _ _ rfl rfl w6.heap.size rfl noSec rfl noSec M7.out ?_; intro w8 hx hb hs
       have R8 := Lib.hid (R7.out.but hb (by have := L7.out; omega)); have B8 := Lib.hid (B7.out.trans (hb.below (by have := L7.out; omega) (HS.out ▸ B7.out.size)))
       clear hx hb hs R7 M7 B7))
  refine wp_region_sched [(0, true), (1, true), (2, true), (3, true), (4, true), (5, true), (6, true), (7, true)] (fun W => True) (by kernel_rfl) (by kernel_rfl) trivial ?_
  refine walk_float rfl rfl (fun K' hK => ?_)
  refine gives_move _ rfl ?_
  go_simp
  refine hK _ ?_
  clear hK K'
  refine walk_float rfl rfl (fun K' hK => ?_)
  refine gives_err_neq _ rfl 2 rfl ?_
  go_simp
  refine hK _ ?_
  clear hK K'
  refine walk_float rfl rfl (fun K' hK => ?_)
  refine gives_move _ rfl ?_
  go_simp
  refine hK _ ?_
  clear hK K'
  refine walk_off rfl rfl ?_
  go_simp
  refine walk_off rfl rfl ?_
  go_simp
  refine walk_off rfl rfl ?_
  go_simp
  refine walk_off rfl rfl ?_
  go_simp
  refine walk_float rfl rfl (fun K' hK => ?_)
  refine gives_pickT _ _ _ rfl rfl (.bool true) rfl ?_
  go_simp
  refine hK _ ?_
  clear hK K'
  refine walk_nil ?_
  have hb9 : Below w8.heap.size w8 w8.drew := (Below.refl _ _).drew
  have R9 := Lib.hid (R8.out.below hb9); have B9 := Lib.hid (B8.out.trans (hb9.mono (HS.out ▸ B8.out.size)))
  clear hb9 R8 B8
  go_wp2_with (first
    | (refine wpList_head_build0 rfl rfl ?_)
    | (refine wpList_head_store rfl _ _ rfl rfl (S + 1) rfl 0 noRow rfl 0 noRow R9.out ?_; intro w10 hx hb hs
       have R10 := Lib.hid hx; have B10 := Lib.hid (B9.out.trans (hb.below (by omega) (HS.out ▸ B9.out.size)))
       clear hx hb hs R9 B9))
  exact bodyPost_ret (results_head_tmp1 rfl _ _ (S + 1) 0 noRow rfl R10.out) rfl ⟨rfl, B10.out⟩
set_option maxRecDepth 100000 in
set_option maxHeartbeats 4000000 in
theorem TakeHead_ok (kp : Option Addr) (n kc : Nat) (g : Nat → Nat) (hn : n ≤ 80000) (s : List Int) (hsec : IsSec s) (hz : ¬ countL s < 0) (w : World) (hk : KeyAt w kp n kc g) :
    Calls Tryd.prog 7 #[.slice kp n kc, secVal s] w fun e w' => e = .returned (hdAns (tauK n g) s) ∧ Below w.heap.size w w' := by
  have SD := Lib.hid (fun (W : World) => said_any s hsec W)
  have HN := Lib.hid (fun (W : World) (h : Below w.heap.size w W) => HeadCell_ok kp n kc g hn (countL s) (takeP s) (takeP_row hsec.2) hz W (hk.below h))
  have TS := Lib.hid (hdL_sec (τ := tauK n g) (fun t => tauK_sum n g t) (z := countL s) (takeP_row hsec.2))
  have SS := Lib.hid hsec
  have AY := Lib.hid (fun h : hdL (tauK n g) (countL s) (takeP s) = s => hdAns_yes (τ := tauK n g) (s := s) (by unfold isHd; exact ⟨by omega, h⟩))
  have AN := Lib.hid (fun h : ¬ hdL (tauK n g) (countL s) (takeP s) = s => hdAns_no (τ := tauK n g) (s := s) (by unfold isHd; exact fun hh => h hh.2))
  clear hsec hz hk hn
  generalize hdL (tauK n g) (countL s) (takeP s) = t at *
  generalize countL s = z at *
  generalize takeP s = P at *
  generalize hS : w.heap.size = S at *
  have HS := Lib.hid hS
  clear hS
  go_enter Tryd.func7, Tryd.ntmps7
  go_wp2_with (first
    | (refine wpList_cell_boxed rfl _ rfl s rfl S HS.out ?_; intro w1 hx hb hs
       have C1 := Lib.hid hx; have B1 := Lib.hid hb; have S1 := Lib.hid hs; clear hx hb hs)
    | (refine wpList_head_alloc rfl rfl (S + 1) S1.out ?_; intro w2 hx hb hs
       have C2 := Lib.hid (C1.out.belowM hb (by omega)); have R2 := Lib.hid hx; have B2 := Lib.hid (B1.out.trans (hb.mono (by omega))); have S2 := Lib.hid (show S + 2 ≤ w2.heap.size by omega)
       clear hx hb hs C1 B1 S1)
    | (refine wpList_cell_load rfl _ rfl S 0 rfl s C2.out.row ?_)
    | (go_at_call 16; refine (SD.out w2).mono ?_; rintro e w3 ⟨rfl, hb⟩
       have C3 := Lib.hid (C2.out.below hb); have R3 := Lib.hid (R2.out.below hb); have B3 := Lib.hid (B2.out.trans (hb.mono (HS.out ▸ B2.out.size))); have S3 := Lib.hid (Nat.le_trans S2.out hb.size)
       clear hb C2 R2 B2 S2 SD)
    | (refine wpList_head_alloc rfl rfl w3.heap.size rfl ?_; intro w4 hx hb hs
       have C4 := Lib.hid (C3.out.below hb); have R4 := Lib.hid (R3.out.below hb); have H4 := Lib.hid hx; have B4 := Lib.hid (B3.out.trans (hb.mono (HS.out ▸ B3.out.size))); have S4 := Lib.hid (show S + 2 ≤ w3.heap.size ∧ w3.heap.size < w4.heap.size from ⟨S3.out, by omega⟩)
       clear hx hb hs R3 B3 S3
       generalize w3.heap.size = H at *)
    | (refine wpList_head_store rfl _ _ rfl rfl H rfl z P rfl 0 noRow H4.out ?_; intro w5 hx hb hs
       have H5 := Lib.hid hx; have C5 := Lib.hid (C4.out.but hb (by have := S4.out; omega)); have R5 := Lib.hid (R4.out.but hb (by have := S4.out; omega)); have B5 := Lib.hid (B4.out.trans (hb.below (by have := S4.out; omega) (HS.out ▸ B4.out.size)))
       clear hx hb hs H4 R4 B4)
    | (refine wpList_head_load rfl _ rfl H rfl z P H5.out.row ?_)
    | (go_at_call 5; refine (HN.out w5 (HS.out.symm ▸ B5.out)).mono ?_; rintro e w6 ⟨rfl, hb⟩
       have C6 := Lib.hid (C5.out.below hb); have H6 := Lib.hid (H5.out.below hb); have R6 := Lib.hid (R5.out.below hb); have B6 := Lib.hid (B5.out.trans (hb.mono (HS.out ▸ B5.out.size)))
       clear hb C5 H5 R5 B5 HN)
    | (refine wpList_cell_alloc rfl rfl w6.heap.size rfl ?_; intro w7 hx hb hs
       have C7 := Lib.hid (C6.out.below hb); have H7 := Lib.hid (H6.out.below hb); have K7 := Lib.hid H6.out.lt; have R7 := Lib.hid (R6.out.below hb); have M7 := Lib.hid hx; have B7 := Lib.hid (B6.out.trans (hb.mono (HS.out ▸ B6.out.size))); have L7 := Lib.hid R6.out.lt
       clear hx hb hs R6 B6)
    | (refine wpList_cell_store rfl _ _ rfl rfl w6.heap.size rfl t rfl noSec M7.out ?_; intro w8 hx hb hs
       have M8 := Lib.hid hx; have C8 := Lib.hid (C7.out.but hb (by have := L7.out; omega)); have H8 := Lib.hid (H7.out.but hb (by have := K7.out; omega)); have R8 := Lib.hid (R7.out.but hb (by have := L7.out; omega)); have B8 := Lib.hid (B7.out.trans (hb.below (by have := L7.out; omega) (HS.out ▸ B7.out.size)))
       clear hx hb hs R7 M7 B7))
  have hb9 : Below w8.heap.size w8 w8.drew := (Below.refl _ _).drew
  have EQ := Lib.hid (Equal_any (some ⟨w6.heap.size, 0, none⟩) 128 128 (natF t) (some ⟨S, 0, none⟩) 128 128 (natF s) (fun i _ => natF_lt TS.out.2 i) (fun i _ => natF_lt SS.out.2 i) (by decide) (by decide) w8.drew (cell_bytes_at (M8.out.below hb9)) (cell_bytes_at (C8.out.below hb9)))
  rw [TS.out.mk', SS.out.mk'] at EQ
  have R9 := Lib.hid (R8.out.below hb9); have H9 := Lib.hid (H8.out.below hb9); have B9 := Lib.hid (B8.out.trans (hb9.mono (HS.out ▸ B8.out.size)))
  clear hb9 R8 B8 H8 M8 C8
  refine wp_region_sched [(0, true), (1, true), (2, true), (3, true), (4, true), (5, false), (6, true), (7, true)] (fun W => True) (by kernel_rfl) (by kernel_rfl) trivial ?_
  refine walk_float rfl rfl (fun K' hK => ?_)
  refine gives_move _ rfl ?_
  go_simp
  refine hK _ ?_
  clear hK K'
  refine walk_float rfl rfl (fun K' hK => ?_)
  refine gives_none_neq _ rfl rfl ?_
  go_simp
  refine hK _ ?_
  clear hK K'
  refine walk_float rfl rfl (fun K' hK => ?_)
  refine gives_move _ rfl ?_
  go_simp
  refine hK _ ?_
  clear hK K'
  refine walk_float rfl rfl (fun K' hK => ?_)
  refine gives_arr_slice 30 5 128 secUnd rfl _ rfl w6.heap.size 0 rfl ?_
  go_simp
  refine hK _ ?_
  clear hK K'
  refine walk_float rfl rfl (fun K' hK => ?_)
  refine gives_arr_slice 30 5 128 secUnd rfl _ rfl S 0 rfl ?_
  go_simp
  refine hK _ ?_
  clear hK K'
  by_cases hq : t = s
  · rw [decide_eq_true hq] at EQ
    refine walk_done rfl rfl (fun K' hK => ?_)
    refine done_two' _ _ _ _ rfl 17 rfl (.slice (some ⟨w6.heap.size, 0, none⟩) 128 128) (.slice (some ⟨S, 0, none⟩) 128 128) rfl rfl (fun _ w => by simp [go_sem]) (EQ.out.mono ?_)
    rintro e w10 ⟨rfl, rfl⟩
    refine ⟨_, rfl, trivial, ?_⟩
    go_simp
    refine hK _ _ ?_
    clear hK K'
    refine walk_float rfl rfl (fun K' hK => ?_)
    refine gives_not2 _ _ rfl true false rfl rfl ?_
    go_simp
    refine hK _ ?_
    clear hK K'
    refine walk_float rfl rfl (fun K' hK => ?_)
    refine gives_pickF _ _ _ rfl rfl (.bool false) rfl ?_
    go_simp
    refine hK _ ?_
    clear hK K'
    refine walk_nil ?_
    go_wp2_with (first
      | (refine wpList_head_load rfl _ rfl H rfl z P H9.out.row ?_)
      | (refine wpList_head_store rfl _ _ rfl rfl (S + 1) rfl z P rfl 0 noRow R9.out ?_; intro w10 hx hb hs
         have R10 := Lib.hid hx; have B10 := Lib.hid (B9.out.trans (hb.below (by omega) (HS.out ▸ B9.out.size)))
         clear hx hb hs R9 B9))
    exact bodyPost_ret (results_head_tmp1 rfl _ _ (S + 1) z P rfl R10.out) rfl ⟨by rw [AY.out hq]; rfl, B10.out⟩
  · rw [decide_eq_false hq] at EQ
    refine walk_done rfl rfl (fun K' hK => ?_)
    refine done_two' _ _ _ _ rfl 17 rfl (.slice (some ⟨w6.heap.size, 0, none⟩) 128 128) (.slice (some ⟨S, 0, none⟩) 128 128) rfl rfl (fun _ w => by simp [go_sem]) (EQ.out.mono ?_)
    rintro e w10 ⟨rfl, rfl⟩
    refine ⟨_, rfl, trivial, ?_⟩
    go_simp
    refine hK _ _ ?_
    clear hK K'
    refine walk_float rfl rfl (fun K' hK => ?_)
    refine gives_not2 _ _ rfl false true rfl rfl ?_
    go_simp
    refine hK _ ?_
    clear hK K'
    refine walk_float rfl rfl (fun K' hK => ?_)
    refine gives_pickF _ _ _ rfl rfl (.bool true) rfl ?_
    go_simp
    refine hK _ ?_
    clear hK K'
    refine walk_nil ?_
    go_wp2_with (first
      | (refine wpList_head_build0 rfl rfl ?_)
      | (refine wpList_head_store rfl _ _ rfl rfl (S + 1) rfl 0 noRow rfl 0 noRow R9.out ?_; intro w10 hx hb hs
         have R10 := Lib.hid hx; have B10 := Lib.hid (B9.out.trans (hb.below (by omega) (HS.out ▸ B9.out.size)))
         clear hx hb hs R9 B9))
    exact bodyPost_ret (results_head_tmp1 rfl _ _ (S + 1) 0 noRow rfl R10.out) rfl ⟨by rw [AN.out hq]; rfl, B10.out⟩
theorem TakeHead_any (kp : Option Addr) (n kc : Nat) (g : Nat → Nat) (hn : n ≤ 80000) (s : List Int) (hsec : IsSec s) (w : World) (hk : KeyAt w kp n kc g) :
    Calls Tryd.prog 7 #[.slice kp n kc, secVal s] w fun e w' => e = .returned (hdAns (tauK n g) s) ∧ Below w.heap.size w w' := by
  by_cases hz : countL s < 0
  · rw [hdAns_no (by unfold isHd; exact fun h => by have := h.1; omega)]
    exact TakeHead_neg kp n kc g hn s hsec hz w hk
  · exact TakeHead_ok kp n kc g hn s hsec hz w hk
end Go.Proofs.YtghdeedglekphaaDoor
