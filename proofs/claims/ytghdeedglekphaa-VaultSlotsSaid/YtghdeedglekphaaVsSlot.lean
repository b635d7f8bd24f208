/- The contracts of package vault's Slot and of citadelref12's. Conditions: the key's bytes are bytes; a unit's keys are 64 bytes. -/
import Derived.Test.YtghdeedglekphaaVsCat
import Derived.Test.YtghdeedglekphaaWrUnw
import Derived.Test.YtghdeedglekphaaWrRefW
namespace Go.Proofs.Ytghdeedglekphaa
open Go.ChangeShapes Go.WideShapes Go.ChangeAt Go.RowKit
set_option linter.unusedVariables false
section
variable {o : Oper} {a : Act} {C : World → Prop} {K : Act → Prop}
theorem gives_extract (x : Operand) (k : Nat) (ho : o.op = .extract x k) (vs : Array Value) (v : Value) (hx : a.eval x = .tuple vs) (hv : vs[k]? = some v) (hk : K (a.put o.dst v)) : ∃ v, Gives Try.prog C o a v ∧ K (a.put o.dst v) :=
  ⟨v, fun w _ => by
    unfold execOp
    simp only [ho, hx]
    simp [go_sem, hv], hk⟩
end
theorem done_two' {o : Oper} {a : Act} {w : World} {K : Value → World → Prop} (x y z : Operand) (ts : Array TypeId) (ho : o.op = .call { callee := .value x, args := #[y, z], argTypes := ts }) (g : FuncId) (hx : a.eval x = .func (.func g) #[] #[])
    (u v : Value) (hy : a.eval y = u) (hz : a.eval z = v) (hf : ∀ (args : Array Value) (w : World), (callFunc g args).run Try.prog w = .ok (.enter g args) w)
    (hc : Calls Try.prog g #[u, v] w fun e w' => ∃ r, e = .returned r ∧ K r w') : doneAt Try.prog o a w K :=
  done_call x #[y, z] ts ho g #[u, v] hx (by simp only [List.map_toArray, List.map_cons, List.map_nil, hy, hz]) (hf _ w) hc
theorem done_one' {o : Oper} {a : Act} {w : World} {K : Value → World → Prop} (x y : Operand) (ts : Array TypeId) (ho : o.op = .call { callee := .value x, args := #[y], argTypes := ts }) (g : FuncId) (hx : a.eval x = .func (.func g) #[] #[])
    (u : Value) (hy : a.eval y = u) (hf : ∀ (args : Array Value) (w : World), (callFunc g args).run Try.prog w = .ok (.enter g args) w)
    (hc : Calls Try.prog g #[u] w fun e w' => ∃ r, e = .returned r ∧ K r w') : doneAt Try.prog o a w K :=
  done_call x #[y] ts ho g #[u] hx (by simp only [List.map_toArray, List.map_cons, List.map_nil, hy]) (hf _ w) hc
theorem done_slice2' {o : Oper} {a : Act} {w : World} {K : Value → World → Prop} (x y : Operand) (ho : o.op = .buildSlice 73 2 #[(0, x), (1, y)]) (p q : Option Addr) (n m cp cq : Nat) (hx : a.eval x = .slice p n cp) (hy : a.eval y = .slice q m cq)
    (h : ∀ w', w'.cell? ⟨w.heap.size, 0, none⟩ = some (.slice p n cp) → w'.cell? ⟨w.heap.size, 1, none⟩ = some (.slice q m cq) → w'.heap.size = w.heap.size + 1 → Below w.heap.size w w' → K (.slice (some ⟨w.heap.size, 0, none⟩) 2 2) w') : doneAt Try.prog o a w K := by
  have e : (Instr.buildSlice 73 2 #[(0, .slice p n cp), (1, .slice q m cq)]).run Try.prog w = .ok (.slice (some ⟨w.heap.size, 0, none⟩) 2 2) (w.alloc (.cells #[.slice p n cp, .slice q m cq] 22)) := by simp [go_sem]
  have c := fun k => cell_of_row (w.alloc (.cells #[.slice p n cp, .slice q m cq] 22)) w.heap.size k _ _ _ (heap_alloc_new w (.cells #[.slice p n cp, .slice q m cq] 22))
  unfold doneAt execOp
  simp only [ho]
  simp [hx, hy, e]
  exact h _ ((c 0).trans rfl) ((c 1).trans rfl) (by simp) ((Below.refl _ _).alloc (Nat.le_refl _) _)
def halfK (U : List Int) (k : Nat) : List Int := mk 32 fun j => natF U (32 * k + j)
theorem halfK_len (U : List Int) (k : Nat) : (halfK U k).length = 32 := mk_len _ _
theorem mk_cat (m n : Nat) (f : Nat → Nat) : mk (m + n) f = mk m f ++ mk n fun j => f (m + j) := by
  unfold mk
  rw [List.range_add, List.map_append, List.map_map]; rfl
theorem halves {U : List Int} (h : IsU U) : halfK U 0 ++ halfK U 1 = U := by
  unfold halfK
  rw [show (fun j => natF U (32 * 0 + j)) = fun j => natF U j from funext fun j => by rw [Nat.mul_zero, Nat.zero_add], ← mk_cat 32 32]
  exact h.mk'
theorem half_at {w : World} {B : Nat} {U : List Int} (hU : IsBytes U) (h : CellB w B (keyC U)) {k : Nat} (hk : k < 2) : RowsAt 1 byteC w (some ⟨B, 32 * k, none⟩) (halfK U k) := by
  refine bytes_rows ?_ (mk_bytes fun i _ => natF_lt hU _)
  rw [halfK_len]
  exact bytes_congr (fun j hj => (natF_mk (f := fun j => natF U (32 * k + j)) hj).symm) (key_bytes h hk)
theorem u_bytes {w : World} {q : Option Addr} {U : List Int} (hU : IsU U) (h : RowsAt 1 byteC w q U) : BytesAt w q 64 (natF U) := by
  have := rows_bytes h hU.2
  rwa [hU.1] at this
attribute [local irreducible] nought sumVal sumC secVal secC bytC noSec fTo keyC keyV noKeys padF halfK accK wrpN unwN rkS
set_option maxRecDepth 100000 in
set_option maxHeartbeats 4000000 in
theorem Slot_ok (kp : Option Addr) (n kc N : Nat) (g : Nat → Nat) (hn : n = 4 * N) (hN : N = 4 ∨ N = 8) (hcap : n ≤ kc) (hg : ∀ i, i < n → g i < 256) (U : List Int) (hU : IsU U) (w : World) (hk : BytesAt w kp n g) :
    Calls Try.prog 7 #[.slice kp n kc, keyV U] w fun e w' => e = .returned (.tuple #[secVal (padF 72 (wrpN (rkS N g) (N + 7) 8 (natF U))), .nilIface]) ∧ Below w.heap.size w w' := by
  have WR := Lib.hid (fun q c (W : World) (h : Below w.heap.size w W) hq => Wrap_ok kp n kc N g q 64 c 8 (natF U) hn hN hcap hg rfl (by decide) (by decide) (fun i _ => natF_lt hU.2 i) W (hk.below h) hq)
  generalize wrpN (rkS N g) (N + 7) 8 (natF U) = F at *
  have HH := Lib.hid (halves hU)
  have HA := Lib.hid (fun (W : World) B h k hk => half_at (w := W) (B := B) hU.2 h (k := k) hk)
  have HL := Lib.hid (halfK_len U)
  have UB := Lib.hid (fun (W : World) q h => u_bytes (w := W) (q := q) hU h)
  clear hU hn hN hcap hg hk
  generalize hS : w.heap.size = S at *
  have HS := Lib.hid hS
  clear hS
  go_enter Try.func7, Try.ntmps7
  go_wp2_with (first
    | (refine wpList_ukey_box rfl _ rfl U rfl S HS.out ?_; intro w1 hx hb hs
       have K1 := Lib.hid hx; have B1 := Lib.hid hb; have S1 := Lib.hid hs; clear hx hb hs)
    | (refine wpList_cell_alloc rfl rfl (S + 1) S1.out ?_; intro w2 hx hb hs
       have K2 := Lib.hid (K1.out.belowM hb (by omega)); have R2 := Lib.hid hx; have B2 := Lib.hid (B1.out.trans (hb.mono (by omega))); clear hx hb hs K1 B1 S1))
  have hb4 : Below w2.heap.size w2 w2.drew := (Below.refl _ _).drew
  have K3 := Lib.hid (K2.out.below hb4); have R3 := Lib.hid (R2.out.below hb4); have B3 := Lib.hid (B2.out.trans (hb4.mono (HS.out ▸ B2.out.size)))
  clear hb4 K2 R2 B2
  refine wp_region_sched [(0, true), (1, true), (2, true), (3, true), (4, true), (5, false), (6, false), (7, false), (8, true), (9, true), (10, false), (11, true), (12, true), (13, false), (14, true)] (fun W => True) (by kernel_rfl) (by kernel_rfl) trivial ?_
  refine walk_float rfl rfl (fun K' hK => ?_)
  refine gives_move _ rfl ?_
  go_simp
  refine hK _ ?_
  clear hK K'
  refine walk_float rfl rfl (fun K' hK => ?_)
  refine gives_ukey_field _ 0 rfl (by decide) S 0 rfl rfl ?_
  go_simp
  refine hK _ ?_
  clear hK K'
  refine walk_float rfl rfl (fun K' hK => ?_)
  refine gives_arr_slice 25 5 32 arr32Und rfl _ rfl S 0 rfl ?_
  go_simp
  refine hK _ ?_
  clear hK K'
  refine walk_float rfl rfl (fun K' hK => ?_)
  refine gives_ukey_field _ 1 rfl (by decide) S 32 rfl rfl ?_
  go_simp
  refine hK _ ?_
  clear hK K'
  refine walk_float rfl rfl (fun K' hK => ?_)
  refine gives_arr_slice 25 5 32 arr32Und rfl _ rfl S 32 rfl ?_
  go_simp
  refine hK _ ?_
  clear hK K'
  refine walk_done rfl rfl (fun K' hK => ?_)
  refine done_slice2' _ _ rfl (some ⟨S, 0, none⟩) (some ⟨S, 32, none⟩) 32 32 32 32 rfl rfl ?_
  intro w5 h0 h1 hs hb
  have K5 := Lib.hid (K3.out.below hb); have R5 := Lib.hid (R3.out.below hb); have B5 := Lib.hid (B3.out.trans (hb.mono (HS.out ▸ B3.out.size)))
  have C5 := Lib.hid (show ∀ k, k < 2 → w5.cell? ⟨w2.drew.heap.size, k, none⟩ = some (.slice (some ⟨S, 32 * k, none⟩) 32 32) from fun k hk => by rcases (show k = 0 ∨ k = 1 by omega) with rfl | rfl; exact h0; exact h1)
  clear h0 h1 hs hb K3 R3 B3
  generalize w2.drew.heap.size = PB at *
  refine ⟨trivial, ?_⟩
  go_simp
  refine hK _ _ ?_
  clear hK K'
  refine walk_done rfl rfl (fun K' hK => ?_)
  refine done_one' _ _ _ rfl 17 rfl (.slice (some ⟨PB, 0, none⟩) 2 2) rfl (fun _ w => by simp [go_sem]) ((Concat_two PB 2 (fun k => some ⟨S, 32 * k, none⟩) (fun _ => 32) (halfK U) (fun k _ => HL.out k) w5 C5.out (fun k hk => HA.out w5 S K5.out k hk)).mono ?_)
  rintro e w6 ⟨p6, c6, rfl, hr, hc, hb⟩
  rw [HH.out] at hr
  have Q6 := Lib.hid (UB.out w6 p6 hr); have R6 := Lib.hid (R5.out.below hb); have B6 := Lib.hid (B5.out.trans (hb.mono (HS.out ▸ B5.out.size)))
  clear hr hc hb K5 R5 B5 C5
  refine ⟨_, rfl, trivial, ?_⟩
  go_simp
  refine hK _ _ ?_
  clear hK K'
  refine walk_done rfl rfl (fun K' hK => ?_)
  refine done_two' _ _ _ _ rfl 16 rfl (.slice kp n kc) (.slice p6 64 c6) rfl rfl (fun _ w => by simp [go_sem]) ((WR.out p6 c6 w6 (HS.out.symm ▸ B6.out) Q6.out).mono ?_)
  rintro e w7 ⟨D7, rfl, hr, -, hb⟩
  have Q7 := Lib.hid hr.bytesAt; have R7 := Lib.hid (R6.out.below hb); have B7 := Lib.hid (B6.out.trans (hb.mono (HS.out ▸ B6.out.size)))
  clear hr hb Q6 R6 B6 WR
  refine ⟨_, rfl, trivial, ?_⟩
  go_simp
  refine hK _ _ ?_
  clear hK K'
  refine walk_float rfl rfl (fun K' hK => ?_)
  refine gives_extract _ 0 rfl #[.slice (some ⟨D7, 0, none⟩) 72 72, .nilIface] (.slice (some ⟨D7, 0, none⟩) 72 72) rfl rfl ?_
  go_simp
  refine hK _ ?_
  clear hK K'
  refine walk_float rfl rfl (fun K' hK => ?_)
  refine gives_extract _ 1 rfl #[.slice (some ⟨D7, 0, none⟩) 72 72, .nilIface] (.nilIface) rfl rfl ?_
  go_simp
  refine hK _ ?_
  clear hK K'
  refine walk_done rfl rfl (fun K' hK => ?_)
  refine done_two' _ _ _ _ rfl 15 rfl (.slice (some ⟨D7, 0, none⟩) 72 72) (.nilIface) rfl rfl (fun _ w => by simp [go_sem]) ((filled_ok (some ⟨D7, 0, none⟩) 72 72 F (by decide) w7 Q7.out).mono ?_)
  rintro e w8 ⟨rfl, hb⟩
  have R8 := Lib.hid (R7.out.below hb); have B8 := Lib.hid (B7.out.trans (hb.mono (HS.out ▸ B7.out.size)))
  clear hb R7 B7 Q7
  refine ⟨_, rfl, trivial, ?_⟩
  go_simp
  refine hK _ _ ?_
  clear hK K'
  refine walk_float rfl rfl (fun K' hK => ?_)
  refine gives_extract _ 0 rfl #[secVal (padF 72 F), .nilIface] (secVal (padF 72 F)) rfl rfl ?_
  go_simp
  refine hK _ ?_
  clear hK K'
  refine walk_float rfl rfl (fun K' hK => ?_)
  refine gives_extract _ 1 rfl #[secVal (padF 72 F), .nilIface] (.nilIface) rfl rfl ?_
  go_simp
  refine hK _ ?_
  clear hK K'
  refine walk_done rfl rfl (fun K' hK => ?_)
  refine done_cell_store _ _ rfl (S + 1) rfl (padF 72 F) rfl noSec R8.out ?_
  intro w9 hx hb hs
  have R9 := Lib.hid hx; have B9 := Lib.hid (B8.out.trans (hb.below (by omega) (HS.out ▸ B8.out.size)))
  clear hx hb hs R8 B8
  refine ⟨trivial, ?_⟩
  go_simp
  refine hK _ _ ?_
  clear hK K'
  refine walk_float rfl rfl (fun K' hK => ?_)
  refine gives_assign _ rfl ?_
  go_simp
  refine hK _ ?_
  clear hK K'
  refine walk_nil ?_
  go_wp2
  exact bodyPost_ret (results_sec_tmp rfl _ _ (S + 1) (padF 72 F) rfl R9.out) rfl ⟨rfl, B9.out⟩
set_option maxRecDepth 100000 in
set_option maxHeartbeats 4000000 in
theorem Slot_key (kp : Option Addr) (n kc : Nat) (h16 : n ≠ 16) (h32 : n ≠ 32) (U : List Int) (hU : IsU U) (w : World) :
    Calls Try.prog 7 #[.slice kp n kc, keyV U] w fun e w' => e = .returned (.tuple #[secVal noSec, .iface 33 (.int .i64 3)]) ∧ Below w.heap.size w w' := by
  have WR := Lib.hid (fun q c (W : World) => Wrap_key kp n kc q 64 c h16 h32 W)
  have HH := Lib.hid (halves hU)
  have HA := Lib.hid (fun (W : World) B h k hk => half_at (w := W) (B := B) hU.2 h (k := k) hk)
  have HL := Lib.hid (halfK_len U)
  have UB := Lib.hid (fun (W : World) q h => u_bytes (w := W) (q := q) hU h)
  clear hU h16 h32
  generalize hS : w.heap.size = S at *
  have HS := Lib.hid hS
  clear hS
  go_enter Try.func7, Try.ntmps7
  go_wp2_with (first
    | (refine wpList_ukey_box rfl _ rfl U rfl S HS.out ?_; intro w1 hx hb hs
       have K1 := Lib.hid hx; have B1 := Lib.hid hb; have S1 := Lib.hid hs; clear hx hb hs)
    | (refine wpList_cell_alloc rfl rfl (S + 1) S1.out ?_; intro w2 hx hb hs
       have K2 := Lib.hid (K1.out.belowM hb (by omega)); have R2 := Lib.hid hx; have B2 := Lib.hid (B1.out.trans (hb.mono (by omega))); clear hx hb hs K1 B1 S1))
  have hb4 : Below w2.heap.size w2 w2.drew := (Below.refl _ _).drew
  have K3 := Lib.hid (K2.out.below hb4); have R3 := Lib.hid (R2.out.below hb4); have B3 := Lib.hid (B2.out.trans (hb4.mono (HS.out ▸ B2.out.size)))
  clear hb4 K2 R2 B2
  refine wp_region_sched [(0, true), (1, true), (2, true), (3, true), (4, true), (5, false), (6, false), (7, false), (8, true), (9, true), (10, false), (11, true), (12, true), (13, false), (14, true)] (fun W => True) (by kernel_rfl) (by kernel_rfl) trivial ?_
  refine walk_float rfl rfl (fun K' hK => ?_)
  refine gives_move _ rfl ?_
  go_simp
  refine hK _ ?_
  clear hK K'
  refine walk_float rfl rfl (fun K' hK => ?_)
  refine gives_ukey_field _ 0 rfl (by decide) S 0 rfl rfl ?_
  go_simp
  refine hK _ ?_
  clear hK K'
  refine walk_float rfl rfl (fun K' hK => ?_)
  refine gives_arr_slice 25 5 32 arr32Und rfl _ rfl S 0 rfl ?_
  go_simp
  refine hK _ ?_
  clear hK K'
  refine walk_float rfl rfl (fun K' hK => ?_)
  refine gives_ukey_field _ 1 rfl (by decide) S 32 rfl rfl ?_
  go_simp
  refine hK _ ?_
  clear hK K'
  refine walk_float rfl rfl (fun K' hK => ?_)
  refine gives_arr_slice 25 5 32 arr32Und rfl _ rfl S 32 rfl ?_
  go_simp
  refine hK _ ?_
  clear hK K'
  refine walk_done rfl rfl (fun K' hK => ?_)
  refine done_slice2' _ _ rfl (some ⟨S, 0, none⟩) (some ⟨S, 32, none⟩) 32 32 32 32 rfl rfl ?_
  intro w5 h0 h1 hs hb
  have K5 := Lib.hid (K3.out.below hb); have R5 := Lib.hid (R3.out.below hb); have B5 := Lib.hid (B3.out.trans (hb.mono (HS.out ▸ B3.out.size)))
  have C5 := Lib.hid (show ∀ k, k < 2 → w5.cell? ⟨w2.drew.heap.size, k, none⟩ = some (.slice (some ⟨S, 32 * k, none⟩) 32 32) from fun k hk => by rcases (show k = 0 ∨ k = 1 by omega) with rfl | rfl; exact h0; exact h1)
  clear h0 h1 hs hb K3 R3 B3
  generalize w2.drew.heap.size = PB at *
  refine ⟨trivial, ?_⟩
  go_simp
  refine hK _ _ ?_
  clear hK K'
  refine walk_done rfl rfl (fun K' hK => ?_)
  refine done_one' _ _ _ rfl 17 rfl (.slice (some ⟨PB, 0, none⟩) 2 2) rfl (fun _ w => by simp [go_sem]) ((Concat_two PB 2 (fun k => some ⟨S, 32 * k, none⟩) (fun _ => 32) (halfK U) (fun k _ => HL.out k) w5 C5.out (fun k hk => HA.out w5 S K5.out k hk)).mono ?_)
  rintro e w6 ⟨p6, c6, rfl, hr, hc, hb⟩
  rw [HH.out] at hr
  have Q6 := Lib.hid (UB.out w6 p6 hr); have R6 := Lib.hid (R5.out.below hb); have B6 := Lib.hid (B5.out.trans (hb.mono (HS.out ▸ B5.out.size)))
  clear hr hc hb K5 R5 B5 C5
  refine ⟨_, rfl, trivial, ?_⟩
  go_simp
  refine hK _ _ ?_
  clear hK K'
  refine walk_done rfl rfl (fun K' hK => ?_)
  refine done_two' _ _ _ _ rfl 16 rfl (.slice kp n kc) (.slice p6 64 c6) rfl rfl (fun _ w => by simp [go_sem]) ((WR.out p6 c6 w6).mono ?_)
  rintro e w7 ⟨rfl, hb⟩
  have R7 := Lib.hid (R6.out.below hb); have B7 := Lib.hid (B6.out.trans (hb.mono (HS.out ▸ B6.out.size)))
  clear hb Q6 R6 B6 WR
  refine ⟨_, rfl, trivial, ?_⟩
  go_simp
  refine hK _ _ ?_
  clear hK K'
  refine walk_float rfl rfl (fun K' hK => ?_)
  refine gives_extract _ 0 rfl #[.slice none 0 0, .iface 33 (.int .i64 3)] (.slice none 0 0) rfl rfl ?_
  go_simp
  refine hK _ ?_
  clear hK K'
  refine walk_float rfl rfl (fun K' hK => ?_)
  refine gives_extract _ 1 rfl #[.slice none 0 0, .iface 33 (.int .i64 3)] (.iface 33 (.int .i64 3)) rfl rfl ?_
  go_simp
  refine hK _ ?_
  clear hK K'
  refine walk_done rfl rfl (fun K' hK => ?_)
  refine done_two' _ _ _ _ rfl 15 rfl (.slice none 0 0) (.iface 33 (.int .i64 3)) rfl rfl (fun _ w => by simp [go_sem]) ((filled_err none 0 0 3 w7).mono ?_)
  rintro e w8 ⟨rfl, hb⟩
  have R8 := Lib.hid (R7.out.below hb); have B8 := Lib.hid (B7.out.trans (hb.mono (HS.out ▸ B7.out.size)))
  clear hb R7 B7
  refine ⟨_, rfl, trivial, ?_⟩
  go_simp
  refine hK _ _ ?_
  clear hK K'
  refine walk_float rfl rfl (fun K' hK => ?_)
  refine gives_extract _ 0 rfl #[secVal (noSec), .iface 33 (.int .i64 3)] (secVal (noSec)) rfl rfl ?_
  go_simp
  refine hK _ ?_
  clear hK K'
  refine walk_float rfl rfl (fun K' hK => ?_)
  refine gives_extract _ 1 rfl #[secVal (noSec), .iface 33 (.int .i64 3)] (.iface 33 (.int .i64 3)) rfl rfl ?_
  go_simp
  refine hK _ ?_
  clear hK K'
  refine walk_done rfl rfl (fun K' hK => ?_)
  refine done_cell_store _ _ rfl (S + 1) rfl (noSec) rfl noSec R8.out ?_
  intro w9 hx hb hs
  have R9 := Lib.hid hx; have B9 := Lib.hid (B8.out.trans (hb.below (by omega) (HS.out ▸ B8.out.size)))
  clear hx hb hs R8 B8
  refine ⟨trivial, ?_⟩
  go_simp
  refine hK _ _ ?_
  clear hK K'
  refine walk_float rfl rfl (fun K' hK => ?_)
  refine gives_assign _ rfl ?_
  go_simp
  refine hK _ ?_
  clear hK K'
  refine walk_nil ?_
  go_wp2
  exact bodyPost_ret (results_sec_tmp rfl _ _ (S + 1) (noSec) rfl R9.out) rfl ⟨rfl, B9.out⟩
end Go.Proofs.Ytghdeedglekphaa
