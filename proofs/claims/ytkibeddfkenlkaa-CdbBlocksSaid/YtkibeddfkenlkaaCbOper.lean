/- The contracts of the program's operation and told: what bytes say. Conditions: the bytes lie in memory. -/
import Derived.Test.YtkibeddfkenlkaaCbPut
namespace Go.Proofs.Ytkibeddfkenlkaa
open Go.ChangeShapes Go.WideShapes Go.ChangeAt Go.RowKit
set_option linter.unusedVariables false
set_option linter.unusedSimpArgs false
def opOf (G : Nat → Nat) : ROp := ⟨G 0, 0, IntKind.i64.wrap (valN 8 (fun j => G (1 + j)) : Nat), IntKind.i64.wrap (valN 8 (fun j => G (9 + j)) : Nat), G 17, ((G 18 : Nat) : Int) == 1⟩
theorem op_raw (G : Nat → Nat) : opOf (dataF G) = rawO G := by
  have e1 : (fun j => dataF G (1 + j)) = fun j => G (7 + j) := funext fun j => by show G (6 + (1 + j)) = _; congr 1; omega
  have e2 : (fun j => dataF G (9 + j)) = fun j => G (15 + j) := funext fun j => by show G (6 + (9 + j)) = _; congr 1; omega
  unfold opOf rawO
  rw [e1, e2]; rfl
theorem wrap_small {v : Nat} (h : v ≤ 65535) : IntKind.i64.wrap (v : Int) = (v : Int) := IntWalk.i64_in _ (by omega)
theorem vals_op {G : Nat → Nat} (hG : ∀ j, G j < 256) : valsF G 0 [1, 8, 8, 1, 1] = [(G 0 : Int), IntKind.i64.wrap (valN 8 (fun j => G (1 + j)) : Nat), IntKind.i64.wrap (valN 8 (fun j => G (9 + j)) : Nat), (G 17 : Int), (G 18 : Int)] := by
  have h0 : IntKind.i64.wrap (valN 1 (fun j => G (0 + j)) : Nat) = (G 0 : Int) := by rw [valN1]; exact wrap_small (by have := hG 0; show G (0 + 0) ≤ _; simp only [Nat.add_zero]; omega)
  have h3 : IntKind.i64.wrap (valN 1 (fun j => G (17 + j)) : Nat) = (G 17 : Int) := by rw [valN1]; exact wrap_small (by have := hG 17; show G (17 + 0) ≤ _; simp only [Nat.add_zero]; omega)
  have h4 : IntKind.i64.wrap (valN 1 (fun j => G (18 + j)) : Nat) = (G 18 : Int) := by rw [valN1]; exact wrap_small (by have := hG 18; show G (18 + 0) ≤ _; simp only [Nat.add_zero]; omega)
  show [_, _, _, _, _] = _
  exact congr (congrArg List.cons h0) (congr (congrArg List.cons rfl) (congr (congrArg List.cons rfl) (congr (congrArg List.cons h3) (congr (congrArg List.cons h4) rfl))))
theorem vals_head {G : Nat → Nat} (hG : ∀ j, G j < 256) : valsF G 0 [1, 1, 2, 2] = [(G 0 : Int), (G 1 : Int), ((valN 2 (fun j => G (2 + j)) : Nat) : Int), ((valN 2 (fun j => G (4 + j)) : Nat) : Int)] := by
  have v2 : ∀ p, valN 2 (fun j => G (p + j)) ≤ 65535 := fun p => by
    have := valN_lt (g := fun j => G (p + j)) 2 (fun i hi => hG _)
    rw [show (256 : Nat) ^ 2 = 65536 from rfl] at this; omega
  have h0 : IntKind.i64.wrap (valN 1 (fun j => G (0 + j)) : Nat) = (G 0 : Int) := by rw [valN1]; exact wrap_small (by have := hG 0; show G (0 + 0) ≤ _; simp only [Nat.add_zero]; omega)
  have h1 : IntKind.i64.wrap (valN 1 (fun j => G (1 + j)) : Nat) = (G 1 : Int) := by rw [valN1]; exact wrap_small (by have := hG 1; show G (1 + 0) ≤ _; simp only [Nat.add_zero]; omega)
  have h2 : IntKind.i64.wrap (valN 2 (fun j => G (2 + j)) : Nat) = _ := wrap_small (v2 2)
  have h3 : IntKind.i64.wrap (valN 2 (fun j => G (4 + j)) : Nat) = _ := wrap_small (v2 4)
  show [_, _, _, _] = _
  exact congr (congrArg List.cons h0) (congr (congrArg List.cons h1) (congr (congrArg List.cons h2) (congr (congrArg List.cons h3) rfl)))
theorem sizes5 : ∀ k, k < [1, 8, 8, 1, (1 : Int)].length → ∃ s : Nat, [1, 8, 8, 1, (1 : Int)].getD k 0 = (s : Int) ∧ IsSize (s : Int) := fun k hk => by
  rcases k with _ | _ | _ | _ | _ | k
  · exact ⟨1, rfl, .inl rfl⟩
  · exact ⟨8, rfl, .inr (.inr (.inr rfl))⟩
  · exact ⟨8, rfl, .inr (.inr (.inr rfl))⟩
  · exact ⟨1, rfl, .inl rfl⟩
  · exact ⟨1, rfl, .inl rfl⟩
  · simp at hk; omega
theorem sizes4 : ∀ k, k < [1, 1, 2, (2 : Int)].length → ∃ s : Nat, [1, 1, 2, (2 : Int)].getD k 0 = (s : Int) ∧ IsSize (s : Int) := fun k hk => by
  rcases k with _ | _ | _ | _ | k
  · exact ⟨1, rfl, .inl rfl⟩
  · exact ⟨1, rfl, .inl rfl⟩
  · exact ⟨2, rfl, .inr (.inl rfl)⟩
  · exact ⟨2, rfl, .inr (.inl rfl)⟩
  · simp at hk; omega
/-- Where the ints of a row of one's own lie. -/
theorem own_ints {base top : Nat} {W : World} {q : Option Addr} {n c : Nat} {l : List Int} (h : OwnL 3 1 intC W base top (.slice q n c) l) (hl : 0 < l.length) : ∃ B o, q = some ⟨B, o, none⟩ ∧ B < W.heap.size ∧ base ≤ B ∧ ∀ k, k < l.length → W.cell? ⟨B, o + k, none⟩ = some (.int .i64 (l.getD k 0)) := by
  obtain ⟨p, c', hv, -, -, hrw, hb⟩ := h.rows elemInt.len
  cases hv
  obtain ⟨B, o, h1, h2, h3⟩ := ints_cells hrw hl
  exact ⟨B, o, h1, h2, (hb B o h1).1, h3⟩
theorem off5 : offS [1, 8, 8, 1, (1 : Int)] = 19 := rfl
theorem off4 : offS [1, 1, 2, (2 : Int)] = 6 := rfl
attribute [local irreducible] regC intC valsF valN mk extF zeroK offS cmA ropA
attribute [local go_sem] Oper.semAt_some
set_option maxRecDepth 100000 in
set_option maxHeartbeats 8000000 in
theorem operation_ok {w : World} {p : Option Addr} {n c : Nat} {G : Nat → Nat} (hp : BytesAt w p n G) (hG : ∀ j, G j < 256) (hc : n ≤ c) (hn : n ≤ 100000) (h19 : 19 ≤ n) :
    Calls Try.prog 46 #[.slice p n c] w fun e w' => e = .returned (.tuple #[.agg (ropA (opOf G)), .nilIface]) ∧ Below w.heap.size w w' := by
  have HP := Lib.hid (fun (W : World) (hb : Below w.heap.size w W) => hp.below hb)
  have HG := Lib.hid hG
  have HC := Lib.hid hc
  have HN := Lib.hid hn
  have HO := Lib.hid (show offS [1, 8, 8, 1, (1 : Int)] ≤ n from by rw [off5]; omega)
  have HV := Lib.hid (vals_op hG)
  have HR := Lib.hid (show opOf G = ⟨(G 0 : Int), 0, IntKind.i64.wrap (valN 8 (fun j => G (1 + j)) : Nat), IntKind.i64.wrap (valN 8 (fun j => G (9 + j)) : Nat), (G 17 : Int), ((G 18 : Nat) : Int) == 1⟩ from rfl)
  clear hp hG hc hn h19
  generalize ((G 0 : Nat) : Int) = v0 at HV HR
  generalize IntKind.i64.wrap (valN 8 (fun j => G (1 + j)) : Nat) = v1 at HV HR
  generalize IntKind.i64.wrap (valN 8 (fun j => G (9 + j)) : Nat) = v2 at HV HR
  generalize ((G 17 : Nat) : Int) = v3 at HV HR
  generalize ((G 18 : Nat) : Int) = v4 at HV HR
  rw [HR.out]
  go_enter Try.func46, Try.ntmps46
  go_wp2_with (first
  | (with_reducible show wpList _ _ _ (⟨some 2, Op.alloc roT, _, _, _, _⟩ :: _) _ _
     refine wpList_boxA_new rowOp rfl rfl w.heap.size rfl ?_
     intro w1 x1 l1 s1
     have X1 := Lib.hid x1
     have L1 := Lib.hid l1
     clear x1 l1 s1)
  | (with_reducible show wpList _ _ _ (⟨_, Op.buildSlice 63 5 _, _, _, _, none⟩ :: _) _ _
     refine wpList_intsL rfl 5 _ rfl [(0, .int .i64 1), (1, .int .i64 8), (2, .int .i64 8), (3, .int .i64 1), (4, .int .i64 1)] rfl [1, 8, 8, 1, 1] rfl (by decide) (by decide) (fill_int5 1 8 8 1 1) ?_
     intro w2 o2 l2 s2
     have O2 := Lib.hid (OwnL.rows2 elemInt.len o2)
     have X2 := Lib.hid (X1.out.keep (l2.block _ X1.out.lt))
     have L2 := Lib.hid (L1.out.trans (l2.mono L1.out.size))
     clear o2 l2 s2 X1 L1)
  | (go_at_call 45
     refine (take_any (HP.out _ L2.out) HG.out HC.out HN.out O2.out rfl (by decide) (by decide) sizes5 HO.out).mono ?_
     rintro e w3 ⟨qv, cv, D, rfl, o3, b3, d3, l3⟩
     have X3 := Lib.hid (X2.out.keep (l3.block _ X2.out.lt))
     have L3 := Lib.hid (L2.out.trans (l3.mono L2.out.size))
     have B3 := Lib.hid b3
     have D3 := Lib.hid (Nat.le_trans L2.out.size d3)
     have DX3 := Lib.hid (Nat.lt_of_lt_of_le X2.out.lt d3)
     rw [HV.out] at o3
     obtain ⟨PB, po, rfl, hPB, hbs, hcs⟩ := own_ints o3 (by simp)
     have HPB := Lib.hid hPB
     have HPN := Lib.hid (Nat.lt_of_lt_of_le X2.out.lt hbs)
     have HD0 := Lib.hid (hcs 0 (by simp))
     have HD1 := Lib.hid (hcs 1 (by simp))
     have HD2 := Lib.hid (hcs 2 (by simp))
     have HD3 := Lib.hid (hcs 3 (by simp))
     have HD4 := Lib.hid (hcs 4 (by simp))
     clear o3 b3 d3 l3 hPB hbs hcs X2 L2 O2))
  refine wp_region_sched [(0, true), (1, true), (2, true), (3, true), (4, true), (5, true), (6, true), (7, true), (8, true), (9, true), (10, true), (11, true), (12, true), (13, true), (14, true), (15, true), (16, true), (17, false), (18, true)] (fun V => V.heap[PB]? = w3.heap[PB]?) (by kernel_rfl) (by kernel_rfl) (show w3.drew.heap[PB]? = w3.heap[PB]? from rfl) ?_
  refine walk_float rfl rfl (fun K hK => ?_)
  refine gives_move _ rfl ?_
  go_simp
  refine hK _ ?_
  clear hK K
  refine walk_float rfl rfl (fun K hK => ?_)
  refine gives_int_elem _ _ rfl PB po 5 cv 0 rfl rfl (by decide) ?_
  go_simp
  refine hK _ ?_
  clear hK K
  refine walk_float rfl rfl (fun K hK => ?_)
  refine gives_cell 3 _ rfl ⟨PB, po + 0, none⟩ (.int .i64 v0) rfl box_int (fun V hV => (World.cell?_of_block (w := w3) (a := ⟨PB, po + 0, none⟩) hV).trans HD0.out) ?_
  go_simp
  refine hK _ ?_
  clear hK K
  refine walk_float rfl rfl (fun K hK => ?_)
  refine gives_move _ rfl ?_
  go_simp
  refine hK _ ?_
  clear hK K
  refine walk_float rfl rfl (fun K hK => ?_)
  refine gives_int_elem _ _ rfl PB po 5 cv 1 rfl rfl (by decide) ?_
  go_simp
  refine hK _ ?_
  clear hK K
  refine walk_float rfl rfl (fun K hK => ?_)
  refine gives_cell 3 _ rfl ⟨PB, po + 1, none⟩ (.int .i64 v1) rfl box_int (fun V hV => (World.cell?_of_block (w := w3) (a := ⟨PB, po + 1, none⟩) hV).trans HD1.out) ?_
  go_simp
  refine hK _ ?_
  clear hK K
  refine walk_float rfl rfl (fun K hK => ?_)
  refine gives_move _ rfl ?_
  go_simp
  refine hK _ ?_
  clear hK K
  refine walk_float rfl rfl (fun K hK => ?_)
  refine gives_int_elem _ _ rfl PB po 5 cv 2 rfl rfl (by decide) ?_
  go_simp
  refine hK _ ?_
  clear hK K
  refine walk_float rfl rfl (fun K hK => ?_)
  refine gives_cell 3 _ rfl ⟨PB, po + 2, none⟩ (.int .i64 v2) rfl box_int (fun V hV => (World.cell?_of_block (w := w3) (a := ⟨PB, po + 2, none⟩) hV).trans HD2.out) ?_
  go_simp
  refine hK _ ?_
  clear hK K
  refine walk_float rfl rfl (fun K hK => ?_)
  refine gives_move _ rfl ?_
  go_simp
  refine hK _ ?_
  clear hK K
  refine walk_float rfl rfl (fun K hK => ?_)
  refine gives_int_elem _ _ rfl PB po 5 cv 3 rfl rfl (by decide) ?_
  go_simp
  refine hK _ ?_
  clear hK K
  refine walk_float rfl rfl (fun K hK => ?_)
  refine gives_cell 3 _ rfl ⟨PB, po + 3, none⟩ (.int .i64 v3) rfl box_int (fun V hV => (World.cell?_of_block (w := w3) (a := ⟨PB, po + 3, none⟩) hV).trans HD3.out) ?_
  go_simp
  refine hK _ ?_
  clear hK K
  refine walk_float rfl rfl (fun K hK => ?_)
  refine gives_move _ rfl ?_
  go_simp
  refine hK _ ?_
  clear hK K
  refine walk_float rfl rfl (fun K hK => ?_)
  refine gives_int_elem _ _ rfl PB po 5 cv 4 rfl rfl (by decide) ?_
  go_simp
  refine hK _ ?_
  clear hK K
  refine walk_float rfl rfl (fun K hK => ?_)
  refine gives_cell 3 _ rfl ⟨PB, po + 4, none⟩ (.int .i64 v4) rfl box_int (fun V hV => (World.cell?_of_block (w := w3) (a := ⟨PB, po + 4, none⟩) hV).trans HD4.out) ?_
  go_simp
  refine hK _ ?_
  clear hK K
  refine walk_float rfl rfl (fun K hK => ?_)
  refine gives_int_is _ _ rfl v4 1 rfl rfl _ rfl ?_
  go_simp
  refine hK _ ?_
  clear hK K
  refine walk_float rfl rfl (fun K hK => ?_)
  refine gives_rop5 _ _ _ _ _ rfl v0 v1 v2 v3 (v4 == 1) rfl rfl rfl rfl rfl ?_
  go_simp
  refine hK _ ?_
  clear hK K
  refine walk_done rfl rfl (fun K hK => ?_)
  refine done_boxA_put rowOp _ _ rfl w.heap.size (ropA ⟨v0, 0, v1, v2, v3, v4 == 1⟩) _ (ropA_size _) (ropA_one _) (ropA_size _) rfl rfl (show BoxA w3.drew w.heap.size roT (ropA zeroOp) from X3.out) ?_
  intro w4 x4 k4 s4
  have X4 := Lib.hid x4
  have L4 := Lib.hid (low_put (show Below w.heap.size w w3.drew from L3.out.drew) (Nat.le_refl _) k4)
  have hb4 : w4.heap[PB]? = w3.heap[PB]? := k4.block PB HPB.out (by have := HPN.out; omega)
  clear x4 k4 s4
  refine ⟨hb4, ?_⟩
  go_simp
  refine hK _ _ ?_
  clear hK K hb4
  refine walk_float rfl rfl (fun K hK => ?_)
  refine gives_assign _ rfl ?_
  go_simp
  refine hK _ ?_
  clear hK K
  refine walk_nil ?_
  go_wp2
  exact bodyPost_ret (results_cell_row_tmp rfl _ _ w.heap.size roT (ropA ⟨v0, 0, v1, v2, v3, v4 == 1⟩) (0, 0) _ rfl X4.out Try.underlying24 rfl (by rw [ropA_size]; exact rowOp.size)) rfl ⟨rfl, L4.out⟩
set_option maxRecDepth 100000 in
set_option maxHeartbeats 8000000 in
theorem operation_no {w : World} {p : Option Addr} {n c : Nat} {G : Nat → Nat} (hp : BytesAt w p n G) (hG : ∀ j, G j < 256) (hc : n ≤ c) (hn : n ≤ 100000) (h19 : n < 19) :
    Calls Try.prog 46 #[.slice p n c] w fun e w' => e = .returned (.tuple #[.agg (ropA zeroOp), .iface 38 (.int .i64 2)]) ∧ Below w.heap.size w w' := by
  have HP := Lib.hid (fun (W : World) (hb : Below w.heap.size w W) => hp.below hb)
  have HG := Lib.hid hG
  have HC := Lib.hid hc
  have HN := Lib.hid hn
  have HO := Lib.hid (show n < offS [1, 8, 8, 1, (1 : Int)] from by rw [off5]; omega)
  clear hp hG hc hn h19
  go_enter Try.func46, Try.ntmps46
  go_wp2_with (first
  | (with_reducible show wpList _ _ _ (⟨some 2, Op.alloc roT, _, _, _, _⟩ :: _) _ _
     refine wpList_boxA_new rowOp rfl rfl w.heap.size rfl ?_
     intro w1 x1 l1 s1
     have X1 := Lib.hid x1
     have L1 := Lib.hid l1
     clear x1 l1 s1)
  | (with_reducible show wpList _ _ _ (⟨_, Op.buildSlice 63 5 _, _, _, _, none⟩ :: _) _ _
     refine wpList_intsL rfl 5 _ rfl [(0, .int .i64 1), (1, .int .i64 8), (2, .int .i64 8), (3, .int .i64 1), (4, .int .i64 1)] rfl [1, 8, 8, 1, 1] rfl (by decide) (by decide) (fill_int5 1 8 8 1 1) ?_
     intro w2 o2 l2 s2
     have O2 := Lib.hid (OwnL.rows2 elemInt.len o2)
     have X2 := Lib.hid (X1.out.keep (l2.block _ X1.out.lt))
     have L2 := Lib.hid (L1.out.trans (l2.mono L1.out.size))
     clear o2 l2 s2 X1 L1)
  | (go_at_call 45
     refine (take_short (HP.out _ L2.out) HG.out HC.out HN.out O2.out rfl (by decide) (by decide) sizes5 HO.out).mono ?_
     rintro e w3 ⟨rfl, l3⟩
     have X3 := Lib.hid (X2.out.keep (l3.block _ X2.out.lt))
     have L3 := Lib.hid (L2.out.trans (l3.mono L2.out.size))
     clear l3 X2 L2 O2)
  | (with_reducible show wpList _ _ _ (⟨_, Op.build roT _, _, _, _, none⟩ :: _) _ _
     refine wpList_build_any rfl roT #[] #[] (.agg (ropA zeroOp)) rfl (by simp) (fun w => run_build w roT #[] _ (by kernel_rfl)) ?_)
  | (with_reducible show wpList _ _ _ (⟨_, Op.store roT _ _, _, _, _, none⟩ :: _) _ _
     refine wpList_boxA_put rowOp rfl _ _ rfl rfl w.heap.size (ropA zeroOp) _ (ropA_size _) (ropA_one _) (ropA_size _) rfl rfl X3.out ?_
     intro w4 x4 k4 s4
     have X4 := Lib.hid x4
     have L4 := Lib.hid (low_put L3.out (Nat.le_refl _) k4)
     clear x4 k4 s4 X3 L3))
  exact bodyPost_ret (results_cell_row_tmp rfl _ _ w.heap.size roT (ropA zeroOp) (0, 0) _ rfl X4.out Try.underlying24 rfl (by rw [ropA_size]; exact rowOp.size)) rfl ⟨rfl, L4.out⟩
set_option maxRecDepth 100000 in
set_option maxHeartbeats 8000000 in
theorem told_two {w : World} {p : Option Addr} {n c : Nat} {G : Nat → Nat} (hp : BytesAt w p n G) (hG : ∀ j, G j < 256) (hc : n ≤ c) (hn : n ≤ 100000) (h6 : 6 ≤ n) (hk : ((G 0 : Nat) : Int) = 2) :
    Calls Try.prog 31 #[.slice p n c] w fun e w' => ∃ D, e = .returned (.tuple #[.agg (cmA (some ⟨D, 0, none⟩) (n - 6) (n - 6) (rawC G)), .nilIface]) ∧ IntBlk w' D .u8 5 (mk (n - 6) (dataF G)) ∧ w.heap.size ≤ D ∧ Below w.heap.size w w' := by
  have HP := Lib.hid (fun (W : World) (hb : Below w.heap.size w W) => hp.below hb)
  have HG := Lib.hid hG
  have HC := Lib.hid hc
  have HN := Lib.hid hn
  have HO := Lib.hid (show offS [1, 1, 2, (2 : Int)] ≤ n from by rw [off4]; omega)
  have HV := Lib.hid (vals_head hG)
  have HR := Lib.hid (show rawC G = ⟨(G 0 : Int), (G 1 : Int), ((valN 2 (fun j => G (2 + j)) : Nat) : Int), ((valN 2 (fun j => G (4 + j)) : Nat) : Int), zeroOp⟩ by unfold rawC; rw [hk]; rfl)
  have e2 : (((G 0 : Nat) : Int) == 2) = true := by rw [hk]; rfl
  have HNN := Lib.hid (show n - 6 ≤ 100000 by omega)
  clear hp hG hc hn h6 hk
  generalize ((G 0 : Nat) : Int) = v0 at *
  generalize ((G 1 : Nat) : Int) = v1 at *
  generalize ((valN 2 (fun j => G (2 + j)) : Nat) : Int) = v2 at *
  generalize ((valN 2 (fun j => G (4 + j)) : Nat) : Int) = v3 at *
  rw [HR.out]
  go_enter Try.func31, Try.ntmps31
  go_wp2_with (first
  | (with_reducible show wpList _ _ _ (⟨some 2, Op.alloc cmT, _, _, _, _⟩ :: _) _ _
     refine wpList_boxA_new rowCm rfl rfl w.heap.size rfl ?_
     intro w1 x1 l1 s1
     have X1 := Lib.hid x1
     have L1 := Lib.hid l1
     clear x1 l1 s1)
  | (with_reducible show wpList _ _ _ (⟨_, Op.buildSlice 63 4 _, _, _, _, none⟩ :: _) _ _
     refine wpList_intsL rfl 4 _ rfl [(0, .int .i64 1), (1, .int .i64 1), (2, .int .i64 2), (3, .int .i64 2)] rfl [1, 1, 2, 2] rfl (by decide) (by decide) (fill_int4 1 1 2 2) ?_
     intro w2 o2 l2 s2
     have O2 := Lib.hid (OwnL.rows2 elemInt.len o2)
     have X2 := Lib.hid (X1.out.keep (l2.block _ X1.out.lt))
     have L2 := Lib.hid (L1.out.trans (l2.mono L1.out.size))
     clear o2 l2 s2 X1 L1)
  | (go_at_call 45
     refine (take_any (HP.out _ L2.out) HG.out HC.out HN.out O2.out rfl (by decide) (by decide) sizes4 HO.out).mono ?_
     rintro e w3 ⟨qv, cv, D, rfl, o3, b3, d3, l3⟩
     have X3 := Lib.hid (X2.out.keep (l3.block _ X2.out.lt))
     have L3 := Lib.hid (L2.out.trans (l3.mono L2.out.size))
     rw [off4] at b3
     rw [off4]
     have B3 := Lib.hid (show IntBlk w3 D .u8 5 (mk (n - 6) (dataF G)) from b3)
     have D3 := Lib.hid (Nat.le_trans L2.out.size d3)
     have DX3 := Lib.hid (Nat.lt_of_lt_of_le X2.out.lt d3)
     rw [HV.out] at o3
     obtain ⟨PB, po, rfl, hPB, hbs, hcs⟩ := own_ints o3 (by simp)
     have HPB := Lib.hid hPB
     have HPN := Lib.hid (Nat.lt_of_lt_of_le X2.out.lt hbs)
     have HD0 := Lib.hid (hcs 0 (by simp))
     have HD1 := Lib.hid (hcs 1 (by simp))
     have HD2 := Lib.hid (hcs 2 (by simp))
     have HD3 := Lib.hid (hcs 3 (by simp))
     clear o3 b3 d3 l3 hPB hbs hcs X2 L2 O2))
  refine wp_region_sched [(0, true), (1, true), (2, true), (3, true), (4, true), (5, true), (6, true), (7, true), (8, true), (9, true), (10, true), (11, true), (12, true), (13, false), (14, false)] (fun V => V.heap[PB]? = w3.heap[PB]?) (by kernel_rfl) (by kernel_rfl) (show w3.drew.heap[PB]? = w3.heap[PB]? from rfl) ?_
  refine walk_float rfl rfl (fun K hK => ?_)
  refine gives_move _ rfl ?_
  go_simp
  refine hK _ ?_
  clear hK K
  refine walk_float rfl rfl (fun K hK => ?_)
  refine gives_int_elem _ _ rfl PB po 4 cv 0 rfl rfl (by decide) ?_
  go_simp
  refine hK _ ?_
  clear hK K
  refine walk_float rfl rfl (fun K hK => ?_)
  refine gives_cell 3 _ rfl ⟨PB, po + 0, none⟩ (.int .i64 v0) rfl box_int (fun V hV => (World.cell?_of_block (w := w3) (a := ⟨PB, po + 0, none⟩) hV).trans HD0.out) ?_
  go_simp
  refine hK _ ?_
  clear hK K
  refine walk_float rfl rfl (fun K hK => ?_)
  refine gives_move _ rfl ?_
  go_simp
  refine hK _ ?_
  clear hK K
  refine walk_float rfl rfl (fun K hK => ?_)
  refine gives_int_elem _ _ rfl PB po 4 cv 1 rfl rfl (by decide) ?_
  go_simp
  refine hK _ ?_
  clear hK K
  refine walk_float rfl rfl (fun K hK => ?_)
  refine gives_cell 3 _ rfl ⟨PB, po + 1, none⟩ (.int .i64 v1) rfl box_int (fun V hV => (World.cell?_of_block (w := w3) (a := ⟨PB, po + 1, none⟩) hV).trans HD1.out) ?_
  go_simp
  refine hK _ ?_
  clear hK K
  refine walk_float rfl rfl (fun K hK => ?_)
  refine gives_move _ rfl ?_
  go_simp
  refine hK _ ?_
  clear hK K
  refine walk_float rfl rfl (fun K hK => ?_)
  refine gives_int_elem _ _ rfl PB po 4 cv 2 rfl rfl (by decide) ?_
  go_simp
  refine hK _ ?_
  clear hK K
  refine walk_float rfl rfl (fun K hK => ?_)
  refine gives_cell 3 _ rfl ⟨PB, po + 2, none⟩ (.int .i64 v2) rfl box_int (fun V hV => (World.cell?_of_block (w := w3) (a := ⟨PB, po + 2, none⟩) hV).trans HD2.out) ?_
  go_simp
  refine hK _ ?_
  clear hK K
  refine walk_float rfl rfl (fun K hK => ?_)
  refine gives_move _ rfl ?_
  go_simp
  refine hK _ ?_
  clear hK K
  refine walk_float rfl rfl (fun K hK => ?_)
  refine gives_int_elem _ _ rfl PB po 4 cv 3 rfl rfl (by decide) ?_
  go_simp
  refine hK _ ?_
  clear hK K
  refine walk_float rfl rfl (fun K hK => ?_)
  refine gives_cell 3 _ rfl ⟨PB, po + 3, none⟩ (.int .i64 v3) rfl box_int (fun V hV => (World.cell?_of_block (w := w3) (a := ⟨PB, po + 3, none⟩) hV).trans HD3.out) ?_
  go_simp
  refine hK _ ?_
  clear hK K
  refine walk_float rfl rfl (fun K hK => ?_)
  refine gives_cm4 _ _ _ _ rfl v0 v1 v2 v3 rfl rfl rfl rfl ?_
  go_simp
  refine hK _ ?_
  clear hK K
  refine walk_done rfl rfl (fun K hK => ?_)
  refine done_boxA_new rowCm rfl ?_
  intro w4 x4 l4 s4
  have l4 : Below w3.heap.size w3 w4 := (Below.refl _ w3).drew.trans l4
  have Y4 := Lib.hid (show BoxA w4 w3.heap.size cmT (cmA none 0 0 zeroCm) from x4)
  have X4 := Lib.hid (X3.out.keep (l4.block _ X3.out.lt))
  have B4 := Lib.hid (B3.out.below l4 B3.out.lt)
  have L4 := Lib.hid (L3.out.trans (l4.mono L3.out.size))
  have hb4 : w4.heap[PB]? = w3.heap[PB]? := l4.block PB HPB.out
  have HB4 := Lib.hid hb4
  have M4 := Lib.hid l4.size
  clear x4 l4 s4
  refine ⟨hb4, ?_⟩
  go_simp
  refine hK _ _ ?_
  clear hK K hb4
  refine walk_done rfl rfl (fun K hK => ?_)
  refine done_boxA_put rowCm _ _ rfl w3.heap.size (cmA none 0 0 ⟨v0, v1, v2, v3, zeroOp⟩) _ (cmA_size _ _ _ _) (cmA_one _ _ _ _) (cmA_size _ _ _ _) rfl rfl Y4.out ?_
  intro w5 x5 k5 s5
  have Y5 := Lib.hid x5
  have X5 := Lib.hid (X4.out.keep (k5.block _ X4.out.lt (Nat.ne_of_lt X3.out.lt)))
  have B5 := Lib.hid (show IntBlk w5 D .u8 5 _ from (k5.block D B4.out.lt (Nat.ne_of_lt B3.out.lt)).trans B4.out)
  have L5 := Lib.hid (low_put L4.out L3.out.size k5)
  have hb5 : w5.heap[PB]? = w3.heap[PB]? := (k5.block PB (Nat.lt_of_lt_of_le HPB.out M4.out) (Nat.ne_of_lt HPB.out)).trans HB4.out
  have XL := Lib.hid X3.out.lt
  have DL := Lib.hid B3.out.lt
  clear x5 k5 s5
  refine ⟨hb5, ?_⟩
  go_simp
  refine hK _ _ ?_
  clear hK K hb5
  refine walk_nil ?_
  obtain ⟨c0, c1, c2, c3, c4, c10⟩ := boxCm Y5.out
  clear X3 L3 B3 X4 Y4 L4 B4 HB4
  go_wp2_with (first
  | (with_reducible show wpList _ _ _ (⟨_, Op.store 22 _ _, _, _, _, none⟩ :: _) _ _
     refine wpList_boxA_bytes rfl _ _ rfl rfl w3.heap.size (cmA none 0 0 ⟨v0, v1, v2, v3, zeroOp⟩) 4 (some ⟨D, 0, none⟩) (n - 6) (n - 6) rfl rfl Y5.out (by simp [cmA_size]) ?_
     intro w6 x6 k6 s6
     rw [cmA_set] at x6
     have Y6 := Lib.hid x6
     have X6 := Lib.hid (X5.out.keep (k6.block _ X5.out.lt (Nat.ne_of_lt XL.out)))
     have B6 := Lib.hid (show IntBlk w6 D .u8 5 (mk (n - 6) (dataF G)) from (k6.block D B5.out.lt (Nat.ne_of_lt DL.out)).trans B5.out)
     have L6 := Lib.hid (low_put L5.out (Nat.le_of_lt XL.out) k6)
     clear x6 k6 s6 X5 Y5 B5 L5 c0 c1 c2 c3 c4 c10)
  | (with_reducible show wpList _ _ _ (⟨some 46, Op.load cmT _, _, _, _, _⟩ :: _) _ _
     refine wpList_boxA_loadw rowCm _ rfl rfl w3.heap.size (cmA (some ⟨D, 0, none⟩) (n - 6) (n - 6) ⟨v0, v1, v2, v3, zeroOp⟩) (cmA_size _ _ _ _) rfl Y6.out ?_)
  | (with_reducible show wpList _ _ _ (⟨_, Op.store cmT _ _, _, _, _, none⟩ :: _) _ _
     refine wpList_boxA_put rowCm rfl _ _ rfl rfl w.heap.size (cmA (some ⟨D, 0, none⟩) (n - 6) (n - 6) ⟨v0, v1, v2, v3, zeroOp⟩) _ (cmA_size _ _ _ _) (cmA_one _ _ _ _) (cmA_size _ _ _ _) rfl rfl X6.out ?_
     intro w9 x9 k9 s9
     have X9 := Lib.hid x9
     have L9 := Lib.hid (low_put L6.out (Nat.le_refl _) k9)
     have B9 := Lib.hid (show IntBlk w9 D .u8 5 (mk (n - 6) (dataF G)) from (k9.block D B6.out.lt (Nat.ne_of_gt DX3.out)).trans B6.out)
     clear x9 k9 s9))
  exact bodyPost_ret (results_cell_row_tmp rfl _ _ w.heap.size cmT (cmA (some ⟨D, 0, none⟩) (n - 6) (n - 6) ⟨v0, v1, v2, v3, zeroOp⟩) (0, 0) _ rfl X9.out Try.underlying26 rfl (by rw [cmA_size]; exact rowCm.size)) rfl ⟨D, rfl, B9.out, D3.out, L9.out⟩
set_option maxRecDepth 100000 in
set_option maxHeartbeats 8000000 in
theorem told_six {w : World} {p : Option Addr} {n c : Nat} {G : Nat → Nat} (hp : BytesAt w p n G) (hG : ∀ j, G j < 256) (hc : n ≤ c) (hn : n ≤ 100000) (h6 : 25 ≤ n) (hk : ((G 0 : Nat) : Int) = 6) :
    Calls Try.prog 31 #[.slice p n c] w fun e w' => e = .returned (.tuple #[.agg (cmA none 0 0 (rawC G)), .nilIface]) ∧ Below w.heap.size w w' := by
  have HP := Lib.hid (fun (W : World) (hb : Below w.heap.size w W) => hp.below hb)
  have HG := Lib.hid hG
  have HC := Lib.hid hc
  have HN := Lib.hid hn
  have HO := Lib.hid (show offS [1, 1, 2, (2 : Int)] ≤ n from by rw [off4]; omega)
  have HV := Lib.hid (vals_head hG)
  have HR := Lib.hid (show rawC G = ⟨(G 0 : Int), (G 1 : Int), ((valN 2 (fun j => G (2 + j)) : Nat) : Int), ((valN 2 (fun j => G (4 + j)) : Nat) : Int), rawO G⟩ by unfold rawC; rw [hk]; rfl)
  have e2 : (((G 0 : Nat) : Int) == 2) = false := by rw [hk]; rfl
  have e6 : (((G 0 : Nat) : Int) == 6) = true := by rw [hk]; rfl
  have HDG := Lib.hid (show ∀ j, dataF G j < 256 from fun j => hG _)
  have HNS := Lib.hid (show 19 ≤ n - 6 by omega)
  have HNN := Lib.hid (show n - 6 ≤ 100000 by omega)
  clear hp hG hc hn h6 hk
  generalize ((G 0 : Nat) : Int) = v0 at *
  generalize ((G 1 : Nat) : Int) = v1 at *
  generalize ((valN 2 (fun j => G (2 + j)) : Nat) : Int) = v2 at *
  generalize ((valN 2 (fun j => G (4 + j)) : Nat) : Int) = v3 at *
  rw [HR.out]
  go_enter Try.func31, Try.ntmps31
  go_wp2_with (first
  | (with_reducible show wpList _ _ _ (⟨some 2, Op.alloc cmT, _, _, _, _⟩ :: _) _ _
     refine wpList_boxA_new rowCm rfl rfl w.heap.size rfl ?_
     intro w1 x1 l1 s1
     have X1 := Lib.hid x1
     have L1 := Lib.hid l1
     clear x1 l1 s1)
  | (with_reducible show wpList _ _ _ (⟨_, Op.buildSlice 63 4 _, _, _, _, none⟩ :: _) _ _
     refine wpList_intsL rfl 4 _ rfl [(0, .int .i64 1), (1, .int .i64 1), (2, .int .i64 2), (3, .int .i64 2)] rfl [1, 1, 2, 2] rfl (by decide) (by decide) (fill_int4 1 1 2 2) ?_
     intro w2 o2 l2 s2
     have O2 := Lib.hid (OwnL.rows2 elemInt.len o2)
     have X2 := Lib.hid (X1.out.keep (l2.block _ X1.out.lt))
     have L2 := Lib.hid (L1.out.trans (l2.mono L1.out.size))
     clear o2 l2 s2 X1 L1)
  | (go_at_call 45
     refine (take_any (HP.out _ L2.out) HG.out HC.out HN.out O2.out rfl (by decide) (by decide) sizes4 HO.out).mono ?_
     rintro e w3 ⟨qv, cv, D, rfl, o3, b3, d3, l3⟩
     have X3 := Lib.hid (X2.out.keep (l3.block _ X2.out.lt))
     have L3 := Lib.hid (L2.out.trans (l3.mono L2.out.size))
     rw [off4] at b3
     rw [off4]
     have B3 := Lib.hid (show IntBlk w3 D .u8 5 (mk (n - 6) (dataF G)) from b3)
     have D3 := Lib.hid (Nat.le_trans L2.out.size d3)
     have DX3 := Lib.hid (Nat.lt_of_lt_of_le X2.out.lt d3)
     rw [HV.out] at o3
     obtain ⟨PB, po, rfl, hPB, hbs, hcs⟩ := own_ints o3 (by simp)
     have HPB := Lib.hid hPB
     have HPN := Lib.hid (Nat.lt_of_lt_of_le X2.out.lt hbs)
     have HD0 := Lib.hid (hcs 0 (by simp))
     have HD1 := Lib.hid (hcs 1 (by simp))
     have HD2 := Lib.hid (hcs 2 (by simp))
     have HD3 := Lib.hid (hcs 3 (by simp))
     clear o3 b3 d3 l3 hPB hbs hcs X2 L2 O2))
  refine wp_region_sched [(0, true), (1, true), (2, true), (3, true), (4, true), (5, true), (6, true), (7, true), (8, true), (9, true), (10, true), (11, true), (12, true), (13, false), (14, false)] (fun V => V.heap[PB]? = w3.heap[PB]?) (by kernel_rfl) (by kernel_rfl) (show w3.drew.heap[PB]? = w3.heap[PB]? from rfl) ?_
  refine walk_float rfl rfl (fun K hK => ?_)
  refine gives_move _ rfl ?_
  go_simp
  refine hK _ ?_
  clear hK K
  refine walk_float rfl rfl (fun K hK => ?_)
  refine gives_int_elem _ _ rfl PB po 4 cv 0 rfl rfl (by decide) ?_
  go_simp
  refine hK _ ?_
  clear hK K
  refine walk_float rfl rfl (fun K hK => ?_)
  refine gives_cell 3 _ rfl ⟨PB, po + 0, none⟩ (.int .i64 v0) rfl box_int (fun V hV => (World.cell?_of_block (w := w3) (a := ⟨PB, po + 0, none⟩) hV).trans HD0.out) ?_
  go_simp
  refine hK _ ?_
  clear hK K
  refine walk_float rfl rfl (fun K hK => ?_)
  refine gives_move _ rfl ?_
  go_simp
  refine hK _ ?_
  clear hK K
  refine walk_float rfl rfl (fun K hK => ?_)
  refine gives_int_elem _ _ rfl PB po 4 cv 1 rfl rfl (by decide) ?_
  go_simp
  refine hK _ ?_
  clear hK K
  refine walk_float rfl rfl (fun K hK => ?_)
  refine gives_cell 3 _ rfl ⟨PB, po + 1, none⟩ (.int .i64 v1) rfl box_int (fun V hV => (World.cell?_of_block (w := w3) (a := ⟨PB, po + 1, none⟩) hV).trans HD1.out) ?_
  go_simp
  refine hK _ ?_
  clear hK K
  refine walk_float rfl rfl (fun K hK => ?_)
  refine gives_move _ rfl ?_
  go_simp
  refine hK _ ?_
  clear hK K
  refine walk_float rfl rfl (fun K hK => ?_)
  refine gives_int_elem _ _ rfl PB po 4 cv 2 rfl rfl (by decide) ?_
  go_simp
  refine hK _ ?_
  clear hK K
  refine walk_float rfl rfl (fun K hK => ?_)
  refine gives_cell 3 _ rfl ⟨PB, po + 2, none⟩ (.int .i64 v2) rfl box_int (fun V hV => (World.cell?_of_block (w := w3) (a := ⟨PB, po + 2, none⟩) hV).trans HD2.out) ?_
  go_simp
  refine hK _ ?_
  clear hK K
  refine walk_float rfl rfl (fun K hK => ?_)
  refine gives_move _ rfl ?_
  go_simp
  refine hK _ ?_
  clear hK K
  refine walk_float rfl rfl (fun K hK => ?_)
  refine gives_int_elem _ _ rfl PB po 4 cv 3 rfl rfl (by decide) ?_
  go_simp
  refine hK _ ?_
  clear hK K
  refine walk_float rfl rfl (fun K hK => ?_)
  refine gives_cell 3 _ rfl ⟨PB, po + 3, none⟩ (.int .i64 v3) rfl box_int (fun V hV => (World.cell?_of_block (w := w3) (a := ⟨PB, po + 3, none⟩) hV).trans HD3.out) ?_
  go_simp
  refine hK _ ?_
  clear hK K
  refine walk_float rfl rfl (fun K hK => ?_)
  refine gives_cm4 _ _ _ _ rfl v0 v1 v2 v3 rfl rfl rfl rfl ?_
  go_simp
  refine hK _ ?_
  clear hK K
  refine walk_done rfl rfl (fun K hK => ?_)
  refine done_boxA_new rowCm rfl ?_
  intro w4 x4 l4 s4
  have l4 : Below w3.heap.size w3 w4 := (Below.refl _ w3).drew.trans l4
  have Y4 := Lib.hid (show BoxA w4 w3.heap.size cmT (cmA none 0 0 zeroCm) from x4)
  have X4 := Lib.hid (X3.out.keep (l4.block _ X3.out.lt))
  have B4 := Lib.hid (B3.out.below l4 B3.out.lt)
  have L4 := Lib.hid (L3.out.trans (l4.mono L3.out.size))
  have hb4 : w4.heap[PB]? = w3.heap[PB]? := l4.block PB HPB.out
  have HB4 := Lib.hid hb4
  have M4 := Lib.hid l4.size
  clear x4 l4 s4
  refine ⟨hb4, ?_⟩
  go_simp
  refine hK _ _ ?_
  clear hK K hb4
  refine walk_done rfl rfl (fun K hK => ?_)
  refine done_boxA_put rowCm _ _ rfl w3.heap.size (cmA none 0 0 ⟨v0, v1, v2, v3, zeroOp⟩) _ (cmA_size _ _ _ _) (cmA_one _ _ _ _) (cmA_size _ _ _ _) rfl rfl Y4.out ?_
  intro w5 x5 k5 s5
  have Y5 := Lib.hid x5
  have X5 := Lib.hid (X4.out.keep (k5.block _ X4.out.lt (Nat.ne_of_lt X3.out.lt)))
  have B5 := Lib.hid (show IntBlk w5 D .u8 5 _ from (k5.block D B4.out.lt (Nat.ne_of_lt B3.out.lt)).trans B4.out)
  have L5 := Lib.hid (low_put L4.out L3.out.size k5)
  have hb5 : w5.heap[PB]? = w3.heap[PB]? := (k5.block PB (Nat.lt_of_lt_of_le HPB.out M4.out) (Nat.ne_of_lt HPB.out)).trans HB4.out
  have XL := Lib.hid X3.out.lt
  have DL := Lib.hid B3.out.lt
  clear x5 k5 s5
  refine ⟨hb5, ?_⟩
  go_simp
  refine hK _ _ ?_
  clear hK K hb5
  refine walk_nil ?_
  obtain ⟨c0, c1, c2, c3, c4, c10⟩ := boxCm Y5.out
  clear X3 L3 B3 X4 Y4 L4 B4 HB4
  go_wp2_with (first
  | (go_at_call 46
     refine (operation_ok B5.out.bytesAt HDG.out (Nat.le_refl _) HNN.out HNS.out).mono ?_
     rintro e w7 ⟨rfl, l7⟩
     rw [op_raw]
     have Y7 := Lib.hid (Y5.out.keep (l7.block _ Y5.out.lt))
     have X7 := Lib.hid (X5.out.keep (l7.block _ X5.out.lt))
     have L7 := Lib.hid (L5.out.trans (l7.mono L5.out.size))
     clear l7 Y5 X5 L5 B5 c0 c1 c2 c3 c4 c10)
  | (with_reducible show wpList _ _ _ (⟨_, Op.store roT _ _, _, _, _, none⟩ :: _) _ _
     refine wpList_cmop_put rfl _ _ rfl rfl w3.heap.size none 0 0 ⟨v0, v1, v2, v3, zeroOp⟩ (rawO G) rfl rfl Y7.out ?_
     intro w6 x6 k6 s6
     have Y6 := Lib.hid (show BoxA w6 w3.heap.size cmT (cmA none 0 0 ⟨v0, v1, v2, v3, rawO G⟩) from x6)
     have X6 := Lib.hid (X7.out.keep (k6.block _ X7.out.lt (Nat.ne_of_lt XL.out)))
     have L6 := Lib.hid (low_put L7.out (Nat.le_of_lt XL.out) k6)
     clear x6 k6 s6 X7 Y7 L7)
  | (with_reducible show wpList _ _ _ (⟨some 46, Op.load cmT _, _, _, _, _⟩ :: _) _ _
     refine wpList_boxA_loadw rowCm _ rfl rfl w3.heap.size (cmA none 0 0 ⟨v0, v1, v2, v3, rawO G⟩) (cmA_size _ _ _ _) rfl Y6.out ?_)
  | (with_reducible show wpList _ _ _ (⟨_, Op.store cmT _ _, _, _, _, none⟩ :: _) _ _
     refine wpList_boxA_put rowCm rfl _ _ rfl rfl w.heap.size (cmA none 0 0 ⟨v0, v1, v2, v3, rawO G⟩) _ (cmA_size _ _ _ _) (cmA_one _ _ _ _) (cmA_size _ _ _ _) rfl rfl X6.out ?_
     intro w9 x9 k9 s9
     have X9 := Lib.hid x9
     have L9 := Lib.hid (low_put L6.out (Nat.le_refl _) k9)
     skip
     clear x9 k9 s9))
  exact bodyPost_ret (results_cell_row_tmp rfl _ _ w.heap.size cmT (cmA none 0 0 ⟨v0, v1, v2, v3, rawO G⟩) (0, 0) _ rfl X9.out Try.underlying26 rfl (by rw [cmA_size]; exact rowCm.size)) rfl ⟨rfl, L9.out⟩
set_option maxRecDepth 100000 in
set_option maxHeartbeats 8000000 in
theorem told_other {w : World} {p : Option Addr} {n c : Nat} {G : Nat → Nat} (hp : BytesAt w p n G) (hG : ∀ j, G j < 256) (hc : n ≤ c) (hn : n ≤ 100000) (h6 : 6 ≤ n) (hk : ((G 0 : Nat) : Int) ≠ 2) (hk6 : ((G 0 : Nat) : Int) ≠ 6) :
    Calls Try.prog 31 #[.slice p n c] w fun e w' => e = .returned (.tuple #[.agg (cmA none 0 0 (rawC G)), .nilIface]) ∧ Below w.heap.size w w' := by
  have HP := Lib.hid (fun (W : World) (hb : Below w.heap.size w W) => hp.below hb)
  have HG := Lib.hid hG
  have HC := Lib.hid hc
  have HN := Lib.hid hn
  have HO := Lib.hid (show offS [1, 1, 2, (2 : Int)] ≤ n from by rw [off4]; omega)
  have HV := Lib.hid (vals_head hG)
  have HR := Lib.hid (show rawC G = ⟨(G 0 : Int), (G 1 : Int), ((valN 2 (fun j => G (2 + j)) : Nat) : Int), ((valN 2 (fun j => G (4 + j)) : Nat) : Int), zeroOp⟩ by unfold rawC; rw [show (((G 0 : Nat) : Int) == 6) = false by simpa using hk6]; rfl)
  have e2 : (((G 0 : Nat) : Int) == 2) = false := by simpa using hk
  have e6 : (((G 0 : Nat) : Int) == 6) = false := by simpa using hk6
  have HNN := Lib.hid (show n - 6 ≤ 100000 by omega)
  clear hp hG hc hn h6 hk hk6
  generalize ((G 0 : Nat) : Int) = v0 at *
  generalize ((G 1 : Nat) : Int) = v1 at *
  generalize ((valN 2 (fun j => G (2 + j)) : Nat) : Int) = v2 at *
  generalize ((valN 2 (fun j => G (4 + j)) : Nat) : Int) = v3 at *
  rw [HR.out]
  go_enter Try.func31, Try.ntmps31
  go_wp2_with (first
  | (with_reducible show wpList _ _ _ (⟨some 2, Op.alloc cmT, _, _, _, _⟩ :: _) _ _
     refine wpList_boxA_new rowCm rfl rfl w.heap.size rfl ?_
     intro w1 x1 l1 s1
     have X1 := Lib.hid x1
     have L1 := Lib.hid l1
     clear x1 l1 s1)
  | (with_reducible show wpList _ _ _ (⟨_, Op.buildSlice 63 4 _, _, _, _, none⟩ :: _) _ _
     refine wpList_intsL rfl 4 _ rfl [(0, .int .i64 1), (1, .int .i64 1), (2, .int .i64 2), (3, .int .i64 2)] rfl [1, 1, 2, 2] rfl (by decide) (by decide) (fill_int4 1 1 2 2) ?_
     intro w2 o2 l2 s2
     have O2 := Lib.hid (OwnL.rows2 elemInt.len o2)
     have X2 := Lib.hid (X1.out.keep (l2.block _ X1.out.lt))
     have L2 := Lib.hid (L1.out.trans (l2.mono L1.out.size))
     clear o2 l2 s2 X1 L1)
  | (go_at_call 45
     refine (take_any (HP.out _ L2.out) HG.out HC.out HN.out O2.out rfl (by decide) (by decide) sizes4 HO.out).mono ?_
     rintro e w3 ⟨qv, cv, D, rfl, o3, b3, d3, l3⟩
     have X3 := Lib.hid (X2.out.keep (l3.block _ X2.out.lt))
     have L3 := Lib.hid (L2.out.trans (l3.mono L2.out.size))
     rw [off4] at b3
     rw [off4]
     have B3 := Lib.hid (show IntBlk w3 D .u8 5 (mk (n - 6) (dataF G)) from b3)
     have D3 := Lib.hid (Nat.le_trans L2.out.size d3)
     have DX3 := Lib.hid (Nat.lt_of_lt_of_le X2.out.lt d3)
     rw [HV.out] at o3
     obtain ⟨PB, po, rfl, hPB, hbs, hcs⟩ := own_ints o3 (by simp)
     have HPB := Lib.hid hPB
     have HPN := Lib.hid (Nat.lt_of_lt_of_le X2.out.lt hbs)
     have HD0 := Lib.hid (hcs 0 (by simp))
     have HD1 := Lib.hid (hcs 1 (by simp))
     have HD2 := Lib.hid (hcs 2 (by simp))
     have HD3 := Lib.hid (hcs 3 (by simp))
     clear o3 b3 d3 l3 hPB hbs hcs X2 L2 O2))
  refine wp_region_sched [(0, true), (1, true), (2, true), (3, true), (4, true), (5, true), (6, true), (7, true), (8, true), (9, true), (10, true), (11, true), (12, true), (13, false), (14, false)] (fun V => V.heap[PB]? = w3.heap[PB]?) (by kernel_rfl) (by kernel_rfl) (show w3.drew.heap[PB]? = w3.heap[PB]? from rfl) ?_
  refine walk_float rfl rfl (fun K hK => ?_)
  refine gives_move _ rfl ?_
  go_simp
  refine hK _ ?_
  clear hK K
  refine walk_float rfl rfl (fun K hK => ?_)
  refine gives_int_elem _ _ rfl PB po 4 cv 0 rfl rfl (by decide) ?_
  go_simp
  refine hK _ ?_
  clear hK K
  refine walk_float rfl rfl (fun K hK => ?_)
  refine gives_cell 3 _ rfl ⟨PB, po + 0, none⟩ (.int .i64 v0) rfl box_int (fun V hV => (World.cell?_of_block (w := w3) (a := ⟨PB, po + 0, none⟩) hV).trans HD0.out) ?_
  go_simp
  refine hK _ ?_
  clear hK K
  refine walk_float rfl rfl (fun K hK => ?_)
  refine gives_move _ rfl ?_
  go_simp
  refine hK _ ?_
  clear hK K
  refine walk_float rfl rfl (fun K hK => ?_)
  refine gives_int_elem _ _ rfl PB po 4 cv 1 rfl rfl (by decide) ?_
  go_simp
  refine hK _ ?_
  clear hK K
  refine walk_float rfl rfl (fun K hK => ?_)
  refine gives_cell 3 _ rfl ⟨PB, po + 1, none⟩ (.int .i64 v1) rfl box_int (fun V hV => (World.cell?_of_block (w := w3) (a := ⟨PB, po + 1, none⟩) hV).trans HD1.out) ?_
  go_simp
  refine hK _ ?_
  clear hK K
  refine walk_float rfl rfl (fun K hK => ?_)
  refine gives_move _ rfl ?_
  go_simp
  refine hK _ ?_
  clear hK K
  refine walk_float rfl rfl (fun K hK => ?_)
  refine gives_int_elem _ _ rfl PB po 4 cv 2 rfl rfl (by decide) ?_
  go_simp
  refine hK _ ?_
  clear hK K
  refine walk_float rfl rfl (fun K hK => ?_)
  refine gives_cell 3 _ rfl ⟨PB, po + 2, none⟩ (.int .i64 v2) rfl box_int (fun V hV => (World.cell?_of_block (w := w3) (a := ⟨PB, po + 2, none⟩) hV).trans HD2.out) ?_
  go_simp
  refine hK _ ?_
  clear hK K
  refine walk_float rfl rfl (fun K hK => ?_)
  refine gives_move _ rfl ?_
  go_simp
  refine hK _ ?_
  clear hK K
  refine walk_float rfl rfl (fun K hK => ?_)
  refine gives_int_elem _ _ rfl PB po 4 cv 3 rfl rfl (by decide) ?_
  go_simp
  refine hK _ ?_
  clear hK K
  refine walk_float rfl rfl (fun K hK => ?_)
  refine gives_cell 3 _ rfl ⟨PB, po + 3, none⟩ (.int .i64 v3) rfl box_int (fun V hV => (World.cell?_of_block (w := w3) (a := ⟨PB, po + 3, none⟩) hV).trans HD3.out) ?_
  go_simp
  refine hK _ ?_
  clear hK K
  refine walk_float rfl rfl (fun K hK => ?_)
  refine gives_cm4 _ _ _ _ rfl v0 v1 v2 v3 rfl rfl rfl rfl ?_
  go_simp
  refine hK _ ?_
  clear hK K
  refine walk_done rfl rfl (fun K hK => ?_)
  refine done_boxA_new rowCm rfl ?_
  intro w4 x4 l4 s4
  have l4 : Below w3.heap.size w3 w4 := (Below.refl _ w3).drew.trans l4
  have Y4 := Lib.hid (show BoxA w4 w3.heap.size cmT (cmA none 0 0 zeroCm) from x4)
  have X4 := Lib.hid (X3.out.keep (l4.block _ X3.out.lt))
  have B4 := Lib.hid (B3.out.below l4 B3.out.lt)
  have L4 := Lib.hid (L3.out.trans (l4.mono L3.out.size))
  have hb4 : w4.heap[PB]? = w3.heap[PB]? := l4.block PB HPB.out
  have HB4 := Lib.hid hb4
  have M4 := Lib.hid l4.size
  clear x4 l4 s4
  refine ⟨hb4, ?_⟩
  go_simp
  refine hK _ _ ?_
  clear hK K hb4
  refine walk_done rfl rfl (fun K hK => ?_)
  refine done_boxA_put rowCm _ _ rfl w3.heap.size (cmA none 0 0 ⟨v0, v1, v2, v3, zeroOp⟩) _ (cmA_size _ _ _ _) (cmA_one _ _ _ _) (cmA_size _ _ _ _) rfl rfl Y4.out ?_
  intro w5 x5 k5 s5
  have Y5 := Lib.hid x5
  have X5 := Lib.hid (X4.out.keep (k5.block _ X4.out.lt (Nat.ne_of_lt X3.out.lt)))
  have B5 := Lib.hid (show IntBlk w5 D .u8 5 _ from (k5.block D B4.out.lt (Nat.ne_of_lt B3.out.lt)).trans B4.out)
  have L5 := Lib.hid (low_put L4.out L3.out.size k5)
  have hb5 : w5.heap[PB]? = w3.heap[PB]? := (k5.block PB (Nat.lt_of_lt_of_le HPB.out M4.out) (Nat.ne_of_lt HPB.out)).trans HB4.out
  have XL := Lib.hid X3.out.lt
  have DL := Lib.hid B3.out.lt
  clear x5 k5 s5
  refine ⟨hb5, ?_⟩
  go_simp
  refine hK _ _ ?_
  clear hK K hb5
  refine walk_nil ?_
  obtain ⟨c0, c1, c2, c3, c4, c10⟩ := boxCm Y5.out
  clear X3 L3 B3 X4 Y4 L4 B4 HB4
  have Y6 := Y5
  have X6 := X5
  have L6 := L5
  clear Y5 X5 L5
  go_wp2_with (first
  | (with_reducible show wpList _ _ _ (⟨some 46, Op.load cmT _, _, _, _, _⟩ :: _) _ _
     refine wpList_boxA_loadw rowCm _ rfl rfl w3.heap.size (cmA none 0 0 ⟨v0, v1, v2, v3, zeroOp⟩) (cmA_size _ _ _ _) rfl Y6.out ?_)
  | (with_reducible show wpList _ _ _ (⟨_, Op.store cmT _ _, _, _, _, none⟩ :: _) _ _
     refine wpList_boxA_put rowCm rfl _ _ rfl rfl w.heap.size (cmA none 0 0 ⟨v0, v1, v2, v3, zeroOp⟩) _ (cmA_size _ _ _ _) (cmA_one _ _ _ _) (cmA_size _ _ _ _) rfl rfl X6.out ?_
     intro w9 x9 k9 s9
     have X9 := Lib.hid x9
     have L9 := Lib.hid (low_put L6.out (Nat.le_refl _) k9)
     skip
     clear x9 k9 s9))
  exact bodyPost_ret (results_cell_row_tmp rfl _ _ w.heap.size cmT (cmA none 0 0 ⟨v0, v1, v2, v3, zeroOp⟩) (0, 0) _ rfl X9.out Try.underlying26 rfl (by rw [cmA_size]; exact rowCm.size)) rfl ⟨rfl, L9.out⟩
set_option maxRecDepth 100000 in
set_option maxHeartbeats 8000000 in
theorem told_sixno {w : World} {p : Option Addr} {n c : Nat} {G : Nat → Nat} (hp : BytesAt w p n G) (hG : ∀ j, G j < 256) (hc : n ≤ c) (hn : n ≤ 100000) (h6 : 6 ≤ n) (h25 : n < 25) (hk : ((G 0 : Nat) : Int) = 6) :
    Calls Try.prog 31 #[.slice p n c] w fun e w' => ∃ z, e = .returned (.tuple #[.agg (cmA none 0 0 z), .iface 38 (.int .i64 2)]) ∧ Below w.heap.size w w' := by
  have HP := Lib.hid (fun (W : World) (hb : Below w.heap.size w W) => hp.below hb)
  have HG := Lib.hid hG
  have HC := Lib.hid hc
  have HN := Lib.hid hn
  have HO := Lib.hid (show offS [1, 1, 2, (2 : Int)] ≤ n from by rw [off4]; omega)
  have HV := Lib.hid (vals_head hG)
  have HR := Lib.hid (show rawC G = ⟨(G 0 : Int), (G 1 : Int), ((valN 2 (fun j => G (2 + j)) : Nat) : Int), ((valN 2 (fun j => G (4 + j)) : Nat) : Int), rawO G⟩ by unfold rawC; rw [hk]; rfl)
  have e2 : (((G 0 : Nat) : Int) == 2) = false := by rw [hk]; rfl
  have e6 : (((G 0 : Nat) : Int) == 6) = true := by rw [hk]; rfl
  have HDG := Lib.hid (show ∀ j, dataF G j < 256 from fun j => hG _)
  have HNS := Lib.hid (show n - 6 < 19 by omega)
  have HNN := Lib.hid (show n - 6 ≤ 100000 by omega)
  clear hp hG hc hn h6 hk h25
  generalize ((G 0 : Nat) : Int) = v0 at *
  generalize ((G 1 : Nat) : Int) = v1 at *
  generalize ((valN 2 (fun j => G (2 + j)) : Nat) : Int) = v2 at *
  generalize ((valN 2 (fun j => G (4 + j)) : Nat) : Int) = v3 at *
  go_enter Try.func31, Try.ntmps31
  go_wp2_with (first
  | (with_reducible show wpList _ _ _ (⟨some 2, Op.alloc cmT, _, _, _, _⟩ :: _) _ _
     refine wpList_boxA_new rowCm rfl rfl w.heap.size rfl ?_
     intro w1 x1 l1 s1
     have X1 := Lib.hid x1
     have L1 := Lib.hid l1
     clear x1 l1 s1)
  | (with_reducible show wpList _ _ _ (⟨_, Op.buildSlice 63 4 _, _, _, _, none⟩ :: _) _ _
     refine wpList_intsL rfl 4 _ rfl [(0, .int .i64 1), (1, .int .i64 1), (2, .int .i64 2), (3, .int .i64 2)] rfl [1, 1, 2, 2] rfl (by decide) (by decide) (fill_int4 1 1 2 2) ?_
     intro w2 o2 l2 s2
     have O2 := Lib.hid (OwnL.rows2 elemInt.len o2)
     have X2 := Lib.hid (X1.out.keep (l2.block _ X1.out.lt))
     have L2 := Lib.hid (L1.out.trans (l2.mono L1.out.size))
     clear o2 l2 s2 X1 L1)
  | (go_at_call 45
     refine (take_any (HP.out _ L2.out) HG.out HC.out HN.out O2.out rfl (by decide) (by decide) sizes4 HO.out).mono ?_
     rintro e w3 ⟨qv, cv, D, rfl, o3, b3, d3, l3⟩
     have X3 := Lib.hid (X2.out.keep (l3.block _ X2.out.lt))
     have L3 := Lib.hid (L2.out.trans (l3.mono L2.out.size))
     rw [off4] at b3
     rw [off4]
     have B3 := Lib.hid (show IntBlk w3 D .u8 5 (mk (n - 6) (dataF G)) from b3)
     have D3 := Lib.hid (Nat.le_trans L2.out.size d3)
     have DX3 := Lib.hid (Nat.lt_of_lt_of_le X2.out.lt d3)
     rw [HV.out] at o3
     obtain ⟨PB, po, rfl, hPB, hbs, hcs⟩ := own_ints o3 (by simp)
     have HPB := Lib.hid hPB
     have HPN := Lib.hid (Nat.lt_of_lt_of_le X2.out.lt hbs)
     have HD0 := Lib.hid (hcs 0 (by simp))
     have HD1 := Lib.hid (hcs 1 (by simp))
     have HD2 := Lib.hid (hcs 2 (by simp))
     have HD3 := Lib.hid (hcs 3 (by simp))
     clear o3 b3 d3 l3 hPB hbs hcs X2 L2 O2))
  refine wp_region_sched [(0, true), (1, true), (2, true), (3, true), (4, true), (5, true), (6, true), (7, true), (8, true), (9, true), (10, true), (11, true), (12, true), (13, false), (14, false)] (fun V => V.heap[PB]? = w3.heap[PB]?) (by kernel_rfl) (by kernel_rfl) (show w3.drew.heap[PB]? = w3.heap[PB]? from rfl) ?_
  refine walk_float rfl rfl (fun K hK => ?_)
  refine gives_move _ rfl ?_
  go_simp
  refine hK _ ?_
  clear hK K
  refine walk_float rfl rfl (fun K hK => ?_)
  refine gives_int_elem _ _ rfl PB po 4 cv 0 rfl rfl (by decide) ?_
  go_simp
  refine hK _ ?_
  clear hK K
  refine walk_float rfl rfl (fun K hK => ?_)
  refine gives_cell 3 _ rfl ⟨PB, po + 0, none⟩ (.int .i64 v0) rfl box_int (fun V hV => (World.cell?_of_block (w := w3) (a := ⟨PB, po + 0, none⟩) hV).trans HD0.out) ?_
  go_simp
  refine hK _ ?_
  clear hK K
  refine walk_float rfl rfl (fun K hK => ?_)
  refine gives_move _ rfl ?_
  go_simp
  refine hK _ ?_
  clear hK K
  refine walk_float rfl rfl (fun K hK => ?_)
  refine gives_int_elem _ _ rfl PB po 4 cv 1 rfl rfl (by decide) ?_
  go_simp
  refine hK _ ?_
  clear hK K
  refine walk_float rfl rfl (fun K hK => ?_)
  refine gives_cell 3 _ rfl ⟨PB, po + 1, none⟩ (.int .i64 v1) rfl box_int (fun V hV => (World.cell?_of_block (w := w3) (a := ⟨PB, po + 1, none⟩) hV).trans HD1.out) ?_
  go_simp
  refine hK _ ?_
  clear hK K
  refine walk_float rfl rfl (fun K hK => ?_)
  refine gives_move _ rfl ?_
  go_simp
  refine hK _ ?_
  clear hK K
  refine walk_float rfl rfl (fun K hK => ?_)
  refine gives_int_elem _ _ rfl PB po 4 cv 2 rfl rfl (by decide) ?_
  go_simp
  refine hK _ ?_
  clear hK K
  refine walk_float rfl rfl (fun K hK => ?_)
  refine gives_cell 3 _ rfl ⟨PB, po + 2, none⟩ (.int .i64 v2) rfl box_int (fun V hV => (World.cell?_of_block (w := w3) (a := ⟨PB, po + 2, none⟩) hV).trans HD2.out) ?_
  go_simp
  refine hK _ ?_
  clear hK K
  refine walk_float rfl rfl (fun K hK => ?_)
  refine gives_move _ rfl ?_
  go_simp
  refine hK _ ?_
  clear hK K
  refine walk_float rfl rfl (fun K hK => ?_)
  refine gives_int_elem _ _ rfl PB po 4 cv 3 rfl rfl (by decide) ?_
  go_simp
  refine hK _ ?_
  clear hK K
  refine walk_float rfl rfl (fun K hK => ?_)
  refine gives_cell 3 _ rfl ⟨PB, po + 3, none⟩ (.int .i64 v3) rfl box_int (fun V hV => (World.cell?_of_block (w := w3) (a := ⟨PB, po + 3, none⟩) hV).trans HD3.out) ?_
  go_simp
  refine hK _ ?_
  clear hK K
  refine walk_float rfl rfl (fun K hK => ?_)
  refine gives_cm4 _ _ _ _ rfl v0 v1 v2 v3 rfl rfl rfl rfl ?_
  go_simp
  refine hK _ ?_
  clear hK K
  refine walk_done rfl rfl (fun K hK => ?_)
  refine done_boxA_new rowCm rfl ?_
  intro w4 x4 l4 s4
  have l4 : Below w3.heap.size w3 w4 := (Below.refl _ w3).drew.trans l4
  have Y4 := Lib.hid (show BoxA w4 w3.heap.size cmT (cmA none 0 0 zeroCm) from x4)
  have X4 := Lib.hid (X3.out.keep (l4.block _ X3.out.lt))
  have B4 := Lib.hid (B3.out.below l4 B3.out.lt)
  have L4 := Lib.hid (L3.out.trans (l4.mono L3.out.size))
  have hb4 : w4.heap[PB]? = w3.heap[PB]? := l4.block PB HPB.out
  have HB4 := Lib.hid hb4
  have M4 := Lib.hid l4.size
  clear x4 l4 s4
  refine ⟨hb4, ?_⟩
  go_simp
  refine hK _ _ ?_
  clear hK K hb4
  refine walk_done rfl rfl (fun K hK => ?_)
  refine done_boxA_put rowCm _ _ rfl w3.heap.size (cmA none 0 0 ⟨v0, v1, v2, v3, zeroOp⟩) _ (cmA_size _ _ _ _) (cmA_one _ _ _ _) (cmA_size _ _ _ _) rfl rfl Y4.out ?_
  intro w5 x5 k5 s5
  have Y5 := Lib.hid x5
  have X5 := Lib.hid (X4.out.keep (k5.block _ X4.out.lt (Nat.ne_of_lt X3.out.lt)))
  have B5 := Lib.hid (show IntBlk w5 D .u8 5 _ from (k5.block D B4.out.lt (Nat.ne_of_lt B3.out.lt)).trans B4.out)
  have L5 := Lib.hid (low_put L4.out L3.out.size k5)
  have hb5 : w5.heap[PB]? = w3.heap[PB]? := (k5.block PB (Nat.lt_of_lt_of_le HPB.out M4.out) (Nat.ne_of_lt HPB.out)).trans HB4.out
  have XL := Lib.hid X3.out.lt
  have DL := Lib.hid B3.out.lt
  clear x5 k5 s5
  refine ⟨hb5, ?_⟩
  go_simp
  refine hK _ _ ?_
  clear hK K hb5
  refine walk_nil ?_
  obtain ⟨c0, c1, c2, c3, c4, c10⟩ := boxCm Y5.out
  clear X3 L3 B3 X4 Y4 L4 B4 HB4
  go_wp2_with (first
  | (go_at_call 46
     refine (operation_no B5.out.bytesAt HDG.out (Nat.le_refl _) HNN.out HNS.out).mono ?_
     rintro e w7 ⟨rfl, l7⟩
     have Y7 := Lib.hid (Y5.out.keep (l7.block _ Y5.out.lt))
     have X7 := Lib.hid (X5.out.keep (l7.block _ X5.out.lt))
     have L7 := Lib.hid (L5.out.trans (l7.mono L5.out.size))
     clear l7 Y5 X5 L5 B5 c0 c1 c2 c3 c4 c10)
  | (with_reducible show wpList _ _ _ (⟨_, Op.store roT _ _, _, _, _, none⟩ :: _) _ _
     refine wpList_cmop_put rfl _ _ rfl rfl w3.heap.size none 0 0 ⟨v0, v1, v2, v3, zeroOp⟩ (zeroOp) rfl rfl Y7.out ?_
     intro w6 x6 k6 s6
     have Y6 := Lib.hid (show BoxA w6 w3.heap.size cmT (cmA none 0 0 ⟨v0, v1, v2, v3, zeroOp⟩) from x6)
     have X6 := Lib.hid (X7.out.keep (k6.block _ X7.out.lt (Nat.ne_of_lt XL.out)))
     have L6 := Lib.hid (low_put L7.out (Nat.le_of_lt XL.out) k6)
     clear x6 k6 s6 X7 Y7 L7)
  | (with_reducible show wpList _ _ _ (⟨some 46, Op.load cmT _, _, _, _, _⟩ :: _) _ _
     refine wpList_boxA_loadw rowCm _ rfl rfl w3.heap.size (cmA none 0 0 ⟨v0, v1, v2, v3, zeroOp⟩) (cmA_size _ _ _ _) rfl Y6.out ?_)
  | (with_reducible show wpList _ _ _ (⟨_, Op.store cmT _ _, _, _, _, none⟩ :: _) _ _
     refine wpList_boxA_put rowCm rfl _ _ rfl rfl w.heap.size (cmA none 0 0 ⟨v0, v1, v2, v3, zeroOp⟩) _ (cmA_size _ _ _ _) (cmA_one _ _ _ _) (cmA_size _ _ _ _) rfl rfl X6.out ?_
     intro w9 x9 k9 s9
     have X9 := Lib.hid x9
     have L9 := Lib.hid (low_put L6.out (Nat.le_refl _) k9)
     skip
     clear x9 k9 s9))
  exact bodyPost_ret (results_cell_row_tmp rfl _ _ w.heap.size cmT (cmA none 0 0 ⟨v0, v1, v2, v3, zeroOp⟩) (0, 0) _ rfl X9.out Try.underlying26 rfl (by rw [cmA_size]; exact rowCm.size)) rfl ⟨_, rfl, L9.out⟩
set_option maxRecDepth 100000 in
set_option maxHeartbeats 8000000 in
theorem told_no {w : World} {p : Option Addr} {n c : Nat} {G : Nat → Nat} (hp : BytesAt w p n G) (hG : ∀ j, G j < 256) (hc : n ≤ c) (hn : n ≤ 100000) (h6 : n < 6) :
    Calls Try.prog 31 #[.slice p n c] w fun e w' => e = .returned (.tuple #[.agg (cmA none 0 0 zeroCm), .iface 38 (.int .i64 2)]) ∧ Below w.heap.size w w' := by
  have HP := Lib.hid (fun (W : World) (hb : Below w.heap.size w W) => hp.below hb)
  have HG := Lib.hid hG
  have HC := Lib.hid hc
  have HN := Lib.hid hn
  have HO := Lib.hid (show n < offS [1, 1, 2, (2 : Int)] from by rw [off4]; omega)
  clear hp hG hc hn h6
  go_enter Try.func31, Try.ntmps31
  go_wp2_with (first
  | (with_reducible show wpList _ _ _ (⟨some 2, Op.alloc cmT, _, _, _, _⟩ :: _) _ _
     refine wpList_boxA_new rowCm rfl rfl w.heap.size rfl ?_
     intro w1 x1 l1 s1
     have X1 := Lib.hid x1
     have L1 := Lib.hid l1
     clear x1 l1 s1)
  | (with_reducible show wpList _ _ _ (⟨_, Op.buildSlice 63 4 _, _, _, _, none⟩ :: _) _ _
     refine wpList_intsL rfl 4 _ rfl [(0, .int .i64 1), (1, .int .i64 1), (2, .int .i64 2), (3, .int .i64 2)] rfl [1, 1, 2, 2] rfl (by decide) (by decide) (fill_int4 1 1 2 2) ?_
     intro w2 o2 l2 s2
     have O2 := Lib.hid (OwnL.rows2 elemInt.len o2)
     have X2 := Lib.hid (X1.out.keep (l2.block _ X1.out.lt))
     have L2 := Lib.hid (L1.out.trans (l2.mono L1.out.size))
     clear o2 l2 s2 X1 L1)
  | (go_at_call 45
     refine (take_short (HP.out _ L2.out) HG.out HC.out HN.out O2.out rfl (by decide) (by decide) sizes4 HO.out).mono ?_
     rintro e w3 ⟨rfl, l3⟩
     have X3 := Lib.hid (X2.out.keep (l3.block _ X2.out.lt))
     have L3 := Lib.hid (L2.out.trans (l3.mono L2.out.size))
     clear l3 X2 L2 O2)
  | (with_reducible show wpList _ _ _ (⟨_, Op.build cmT _, _, _, _, none⟩ :: _) _ _
     refine wpList_build_any rfl cmT #[] #[] (.agg (cmA none 0 0 zeroCm)) rfl (by simp) (fun w => run_build w cmT #[] _ (by kernel_rfl)) ?_)
  | (with_reducible show wpList _ _ _ (⟨_, Op.store cmT _ _, _, _, _, none⟩ :: _) _ _
     refine wpList_boxA_put rowCm rfl _ _ rfl rfl w.heap.size (cmA none 0 0 zeroCm) _ (cmA_size _ _ _ _) (cmA_one _ _ _ _) (cmA_size _ _ _ _) rfl rfl X3.out ?_
     intro w4 x4 k4 s4
     have X4 := Lib.hid x4
     have L4 := Lib.hid (low_put L3.out (Nat.le_refl _) k4)
     clear x4 k4 s4 X3 L3))
  exact bodyPost_ret (results_cell_row_tmp rfl _ _ w.heap.size cmT (cmA none 0 0 zeroCm) (0, 0) _ rfl X4.out Try.underlying26 rfl (by rw [cmA_size]; exact rowCm.size)) rfl ⟨rfl, L4.out⟩
end Go.Proofs.Ytkibeddfkenlkaa
