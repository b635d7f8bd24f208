/- The contract of the document's own Decode. Conditions: the bytes lie in memory. -/
import Derived.Test.YtkibeddfkenlkaaCbDec
namespace Go.Proofs.Ytkibeddfkenlkaa
open Go.ChangeShapes Go.WideShapes Go.ChangeAt Go.RowKit
set_option linter.unusedVariables false
set_option linter.unusedSimpArgs false
set_option maxRecDepth 100000 in
set_option maxHeartbeats 4000000 in
theorem refTake_ok (p : Option Addr) (n cap : Nat) (g : Nat → Nat) (hg : ∀ i, i < n → g i < 256) (s : Nat) (hs : IsSize s) (h : s ≤ n) (w : World) (hp : BytesAt w p n g) :
    Calls Try.prog 33 #[.slice p n cap, .int .i64 s] w fun e w' => e = .returned (.tuple #[.int .i64 (IntKind.i64.wrap (valN s g : Nat)), .bool true]) ∧ w = w' := by
  have d0 : decide ((n : Int) < (s : Int)) = false := by simp; omega
  have d00 : decide (n < s) = false := by simp; omega
  have hv : ∀ k, k ≤ s → valN k g < 256 ^ 8 := fun k hk => Nat.lt_of_lt_of_le (valN_lt k (fun i hi => hg i (by omega))) (Nat.pow_le_pow_right (by omega) (by unfold IsSize at hs; omega))
  have HP := Lib.hid hp
  have HV := Lib.hid hv
  have HG := Lib.hid hg
  have HS := Lib.hid h
  have HS8 := Lib.hid (show s ≤ 8 by unfold IsSize at hs; omega)
  clear hp hv h hg
  rcases hs with hs | hs | hs | hs
  case' inl => have d1 : ((s : Int) != 1) = false := by simp; omega
  case' inr.inl =>
    have d1 : ((s : Int) != 1) = true := by simp; omega
    have d2 : ((s : Int) != 2) = false := by simp; omega
  case' inr.inr.inl =>
    have d1 : ((s : Int) != 1) = true := by simp; omega
    have d2 : ((s : Int) != 2) = true := by simp; omega
    have d4 : ((s : Int) != 4) = false := by simp; omega
  case' inr.inr.inr =>
    have d1 : ((s : Int) != 1) = true := by simp; omega
    have d2 : ((s : Int) != 2) = true := by simp; omega
    have d4 : ((s : Int) != 4) = true := by simp; omega
    have d8 : ((s : Int) != 8) = false := by simp; omega
  all_goals
    clear hs
    go_enter Try.func33, Try.ntmps33
    go_wp2
    go_loopw [7, 6] (fun v v6 wr => ∃ k : Nat, k ≤ s ∧ v = .int .i64 k ∧ v6 = .int .u64 (valN k g : Nat) ∧ w = wr) (fun v _ _ => s - (intOf v).toNat)
    case atStart => exact ⟨0, by omega, rfl, by unfold valN; rfl, rfl⟩
    case round =>
      obtain ⟨k, hk, rfl, rfl, rfl⟩ := hrel
      by_cases hlt : k < s
      · have e1 : (k : Int) < (s : Int) := by omega
        have e2 : (k : Int) < (n : Int) := by have := HS.out; omega
        have e3 : k < n := by omega
        have q1 : IntKind.i64.wrap ((k : Int) + 1) = (k : Int) + 1 := IntWalk.i64_in _ (by have := HS8.out; omega)
        obtain ⟨B, o, rfl, c1⟩ : ∃ B o, p = some ⟨B, o, none⟩ ∧ w.cell? ⟨B, o + k, none⟩ = some (.int .u8 (g k : Nat)) := by
          rcases HP.out with h | ⟨B, o, h, _, hc⟩
          · omega
          · exact ⟨B, o, h, hc k e3⟩
        have hgk := HG.out k e3
        have hv0 := HV.out k (by omega)
        have hv1 := HV.out (k + 1) (by omega)
        rw [valN_succ] at hv1
        have e4 : IntKind.u64.wrap ((valN k g : Nat) * 256) = (valN k g : Nat) * 256 := by rw [IntKind.wrap_u64]; omega
        have e5 : IntKind.u64.wrap ((valN k g : Nat) * 256 + (g k : Nat)) = (valN k g : Nat) * 256 + (g k : Nat) := by rw [IntKind.wrap_u64]; omega
        have e6 : IntKind.u64.wrap (g k : Nat) = (g k : Nat) := by rw [IntKind.wrap_u64]; omega
        have HE := Lib.hid (show ((valN k g : Nat) : Int) * 256 + (g k : Nat) = (valN (k + 1) g : Nat) by rw [valN_succ]; omega)
        clear hv0 hv1 hgk
        generalize ((valN k g : Nat) : Int) = u at *
        go_wp2
        go_roundw
        case rel => exact ⟨k + 1, by omega, by go_num, by rw [← HE.out], trivial⟩
        case measure => simp [intOf]; omega
      · have e1 : ¬ (k : Int) < (s : Int) := by omega
        obtain rfl : k = s := by omega
        go_wp2
        go_ret2
        exact ⟨by rw [← wrap64_is]; rfl, rfl⟩
section
variable {o : Oper} {a : Act} {C : World → Prop} {K : Act → Prop}
theorem gives_at (x y : Operand) (ho : o.op = .indexAddr 22 x y) (B off n cap k : Nat) (z : Int) (hz : z = k) (hx : a.eval x = .slice (some ⟨B, off, none⟩) n cap) (hy : a.eval y = .int .i64 z) (hk4 : k < n) (hk : K (a.put o.dst (.pointer (some ⟨B, off + k, none⟩)))) : ∃ v, Gives Try.prog C o a v ∧ K (a.put o.dst v) := by
  subst hz
  exact ⟨_, fun w _ => by
    have h0 : (k : Int) < n := by omega
    have hi := byteInfo
    cases hq : Try.prog.info? 5 with
    | none => simp [hq] at hi
    | some i =>
      have hs : i.size = 1 := by simpa [hq] using hi
      unfold execOp
      simp only [ho, hx, hy]
      simp [go_sem, h0, sizeOf, typeInfo, hq, hs, addr_add], hk⟩
theorem gives_to_int (x : Operand) (ho : o.op = .convert 5 3 x) (z : Int) (hx : a.eval x = .int .u8 z) (h : 0 ≤ z ∧ z < 256) (hk : K (a.put o.dst (.int .i64 z))) : ∃ v, Gives Try.prog C o a v ∧ K (a.put o.dst v) :=
  ⟨_, fun w _ => by
    have h1 : IntKind.i64.wrap z = z := IntWalk.i64_in _ (by omega)
    have e : (convert 5 3 (.int .u8 z)).run Try.prog w = .ok (.int .i64 z) w := by simp [go_sem, h1]
    unfold execOp
    simp only [ho, hx, Sem.run_bind, e]
    simp, hk⟩
theorem gives_int_mul (x y : Operand) (ho : o.op = .binOp .mul 3 x y 3) (i j r : Int) (hx : a.eval x = .int .i64 i) (hy : a.eval y = .int .i64 j) (h : IntKind.i64.wrap (i * j) = r) (hk : K (a.put o.dst (.int .i64 r))) : ∃ v, Gives Try.prog C o a v ∧ K (a.put o.dst v) :=
  ⟨_, fun w _ => by unfold execOp; simp only [ho, hx, hy]; simp [go_sem, h], hk⟩
theorem gives_u8_is (x y : Operand) (ho : o.op = .binOp .eql 5 x y 5) (b c : Int) (r : Bool) (hx : a.eval x = .int .u8 b) (hy : a.eval y = .int .u8 c) (h : (b == c) = r) (hk : K (a.put o.dst (.bool r))) : ∃ v, Gives Try.prog C o a v ∧ K (a.put o.dst v) :=
  ⟨_, fun w _ => by
    unfold execOp
    simp only [ho, hx, hy]
    simp [go_sem, ← h], hk⟩
theorem gives_cmfield5 (x : Operand) (ho : o.op = .fieldAddr cmT x 5) (B : Nat) (hx : a.eval x = .pointer (some ⟨B, 0, none⟩)) (hk : K (a.put o.dst (.pointer (some ⟨B, 5, none⟩)))) : ∃ v, Gives Try.prog C o a v ∧ K (a.put o.dst v) :=
  ⟨_, fun w _ => by
    unfold execOp
    simp only [ho, hx]
    simp [go_sem], hk⟩
theorem box_byte (w : World) : (isAgg 5).run Try.prog w = .ok false w := by simp [go_sem]
end
theorem str_neq {n m : Nat} {f g : Nat → Nat} (hf : ∀ i, i < n → f i < 256) (hg : ∀ i, i < m → g i < 256) : ((strOfNums (mk n f)).toList != (strOfNums (mk m g)).toList) = !decide (mk n f = mk m g) := by
  unfold bne; rw [str_eq hf hg]
theorem valN_pair (G : Nat → Nat) (p : Nat) : ((valN 2 (fun j => G (p + j)) : Nat) : Int) = (G p : Int) * 256 + (G (p + 1) : Int) := by
  unfold valN valN valN; simp
attribute [local irreducible] regC intC valsF valN mk extF zeroK offS cmA ropA isC rawC rawN dataF allC lenC bytC goodC rawO
attribute [local go_sem] Oper.semAt_some
set_option maxRecDepth 100000 in
set_option maxHeartbeats 16000000 in
theorem refDecode_short {w : World} {p : Option Addr} {n c : Nat} {G : Nat → Nat} (hp : BytesAt w p n G) (hG : ∀ j, G j < 256) (hc : n ≤ c) (hn : n ≤ 100000) (h6 : n < 6) :
    Calls Try.prog 19 #[.slice p n c] w fun e w' => e = .returned (.tuple #[.agg (cmA none 0 0 zeroCm), .bool false]) ∧ Below w.heap.size w w' := by
  have f1 : decide ((n : Int) < 6) = true := by simp; omega
  have f2 : decide (n < 6) = true := by simp; omega
  clear hp hG hc hn h6
  go_enter Try.func19, Try.ntmps19
  go_wp2_with (first
  | (with_reducible show wpList _ _ _ (⟨some 2, Op.alloc cmT, _, _, _, _⟩ :: _) _ _
     refine wpList_boxA_new rowCm rfl rfl w.heap.size rfl ?_
     intro w1 x1 l1 s1
     have X1 := Lib.hid x1
     have L1 := Lib.hid l1
     clear x1 l1 s1)
  | (with_reducible show wpList _ _ _ (⟨_, Op.build cmT _, _, _, _, none⟩ :: _) _ _
     refine wpList_build_any rfl cmT #[] #[] (.agg (cmA none 0 0 zeroCm)) rfl (by simp) (fun w => run_build w cmT #[] _ (by kernel_rfl)) ?_)
  | (with_reducible show wpList _ _ _ (⟨_, Op.store cmT (.tmp 2) _, _, _, _, none⟩ :: _) _ _
     refine wpList_boxA_put rowCm rfl _ _ rfl rfl w.heap.size (cmA none 0 0 zeroCm) _ (cmA_size _ _ _ _) (cmA_one _ _ _ _) (cmA_size _ _ _ _) rfl rfl X1.out ?_
     intro w9 x9 k9 s9
     have X9 := Lib.hid x9
     have L9 := Lib.hid (low_put L1.out (Nat.le_refl _) k9)
     clear x9 k9 s9 X1 L1))
  exact bodyPost_ret (results_cell_row_tmp rfl _ _ w.heap.size cmT (cmA none 0 0 zeroCm) (0, 0) _ rfl X9.out Try.underlying26 rfl (by rw [cmA_size]; exact rowCm.size)) rfl ⟨rfl, L9.out⟩
set_option maxRecDepth 100000 in
set_option maxHeartbeats 16000000 in
theorem refDecode_sixno {w : World} {p : Option Addr} {n c : Nat} {G : Nat → Nat} (hp : BytesAt w p n G) (hG : ∀ j, G j < 256) (hc : n ≤ c) (hn : n ≤ 100000) (h6 : 6 ≤ n) (h25 : n ≠ 25) (hk : ((G 0 : Nat) : Int) = 6) :
    Calls Try.prog 19 #[.slice p n c] w fun e w' => e = .returned (.tuple #[.agg (cmA none 0 0 zeroCm), .bool false]) ∧ Below w.heap.size w w' := by
  have HP := Lib.hid (fun (W : World) (hb : Below w.heap.size w W) => hp.below hb)
  have f1 : decide ((n : Int) < 6) = false := by simp; omega
  have f2 : decide (n < 6) = false := by simp; omega
  obtain ⟨PB, po, rfl, hPB, hcl⟩ : ∃ B o, p = some ⟨B, o, none⟩ ∧ B < w.heap.size ∧ Cells w B o n G := by
    rcases hp with h | h
    · omega
    · exact h
  have HK0 := Lib.hid (show 0 < n by omega)
  have HB0 := Lib.hid (show 0 ≤ ((G 0 : Nat) : Int) ∧ ((G 0 : Nat) : Int) < 256 by have := hG 0; omega)
  have CC0 := Lib.hid (hcl 0 (by omega))
  have HK1 := Lib.hid (show 1 < n by omega)
  have HB1 := Lib.hid (show 0 ≤ ((G 1 : Nat) : Int) ∧ ((G 1 : Nat) : Int) < 256 by have := hG 1; omega)
  have CC1 := Lib.hid (hcl 1 (by omega))
  have HK2 := Lib.hid (show 2 < n by omega)
  have HB2 := Lib.hid (show 0 ≤ ((G 2 : Nat) : Int) ∧ ((G 2 : Nat) : Int) < 256 by have := hG 2; omega)
  have CC2 := Lib.hid (hcl 2 (by omega))
  have HK3 := Lib.hid (show 3 < n by omega)
  have HB3 := Lib.hid (show 0 ≤ ((G 3 : Nat) : Int) ∧ ((G 3 : Nat) : Int) < 256 by have := hG 3; omega)
  have CC3 := Lib.hid (hcl 3 (by omega))
  have HK4 := Lib.hid (show 4 < n by omega)
  have HB4 := Lib.hid (show 0 ≤ ((G 4 : Nat) : Int) ∧ ((G 4 : Nat) : Int) < 256 by have := hG 4; omega)
  have CC4 := Lib.hid (hcl 4 (by omega))
  have HK5 := Lib.hid (show 5 < n by omega)
  have HB5 := Lib.hid (show 0 ≤ ((G 5 : Nat) : Int) ∧ ((G 5 : Nat) : Int) < 256 by have := hG 5; omega)
  have CC5 := Lib.hid (hcl 5 (by omega))
  have HM2 := Lib.hid (show IntKind.i64.wrap (((G 2 : Nat) : Int) * 256) = ((G 2 : Nat) : Int) * 256 from IntWalk.i64_in _ (by have := hG 2; omega))
  have HM4 := Lib.hid (show IntKind.i64.wrap (((G 4 : Nat) : Int) * 256) = ((G 4 : Nat) : Int) * 256 from IntWalk.i64_in _ (by have := hG 4; omega))
  have HV2 := Lib.hid (show IntKind.i64.wrap (((G 2 : Nat) : Int) * 256 + ((G 3 : Nat) : Int)) = ((valN 2 (fun j => G (2 + j)) : Nat) : Int) by rw [valN_pair G 2]; exact IntWalk.i64_in _ (by have := hG 2; have := hG 3; omega))
  have HV3 := Lib.hid (show IntKind.i64.wrap (((G 4 : Nat) : Int) * 256 + ((G 5 : Nat) : Int)) = ((valN 2 (fun j => G (4 + j)) : Nat) : Int) by rw [valN_pair G 4]; exact IntWalk.i64_in _ (by have := hG 4; have := hG 5; omega))
  have HPB0 := Lib.hid hPB
  have e2 : (((G 0 : Nat) : Int) == 2) = false := by rw [hk]; rfl
  have e6 : (((G 0 : Nat) : Int) == 6) = true := by rw [hk]; rfl
  have n1 : ((n : Int) != 25) = true := by simp; omega
  have n2 : (n != 25) = true := by simp; omega
  have HNC := Lib.hid hc
  have HC6 := Lib.hid (show 6 ≤ n by omega)
  have HN := Lib.hid hn
  have HGS := Lib.hid (show ∀ j, j < n → G j < 256 from fun j _ => hG j)
  clear hp hG hc hn h6 hk h25 hPB hcl
  generalize ((G 0 : Nat) : Int) = g0 at *
  generalize ((G 1 : Nat) : Int) = g1 at *
  generalize ((G 2 : Nat) : Int) = g2 at *
  generalize ((G 3 : Nat) : Int) = g3 at *
  generalize ((G 4 : Nat) : Int) = g4 at *
  generalize ((G 5 : Nat) : Int) = g5 at *
  generalize ((valN 2 (fun j => G (2 + j)) : Nat) : Int) = v2 at *
  generalize ((valN 2 (fun j => G (4 + j)) : Nat) : Int) = v3 at *
  go_enter Try.func19, Try.ntmps19
  go_wp2_with (first
  | (with_reducible show wpList _ _ _ (⟨some 2, Op.alloc cmT, _, _, _, _⟩ :: _) _ _
     refine wpList_boxA_new rowCm rfl rfl w.heap.size rfl ?_
     intro w1 x1 l1 s1
     have X1 := Lib.hid x1
     have L1 := Lib.hid l1
     clear x1 l1 s1))
  have CB0 := Lib.hid ((L1.out.cell (p := ⟨PB, po + 0, none⟩) HPB0.out).trans CC0.out)
  have CB1 := Lib.hid ((L1.out.cell (p := ⟨PB, po + 1, none⟩) HPB0.out).trans CC1.out)
  have CB2 := Lib.hid ((L1.out.cell (p := ⟨PB, po + 2, none⟩) HPB0.out).trans CC2.out)
  have CB3 := Lib.hid ((L1.out.cell (p := ⟨PB, po + 3, none⟩) HPB0.out).trans CC3.out)
  have CB4 := Lib.hid ((L1.out.cell (p := ⟨PB, po + 4, none⟩) HPB0.out).trans CC4.out)
  have CB5 := Lib.hid ((L1.out.cell (p := ⟨PB, po + 5, none⟩) HPB0.out).trans CC5.out)
  have HPB := Lib.hid (Nat.lt_of_lt_of_le HPB0.out L1.out.size)
  refine wp_region_sched [(0, true), (1, true), (2, true), (3, true), (4, true), (5, true), (6, true), (7, true), (8, true), (9, true), (10, true), (11, true), (12, true), (13, true), (14, true), (15, true), (16, true), (17, true), (18, true), (19, true), (20, true), (21, true), (22, true), (23, true), (24, true), (25, true), (26, true), (27, true), (28, true), (29, false), (30, false)] (fun V => V.heap[PB]? = w1.heap[PB]?) (by kernel_rfl) (by kernel_rfl) (show w1.drew.heap[PB]? = w1.heap[PB]? from rfl) ?_
  refine walk_float rfl rfl (fun K hK => ?_)
  refine gives_move _ rfl ?_
  go_simp
  refine hK _ ?_
  clear hK K
  refine walk_float rfl rfl (fun K hK => ?_)
  refine gives_at _ _ rfl PB po n c 0 0 rfl rfl rfl HK0.out ?_
  go_simp
  refine hK _ ?_
  clear hK K
  refine walk_float rfl rfl (fun K hK => ?_)
  refine gives_cell 5 _ rfl ⟨PB, po + 0, none⟩ (.int .u8 g0) rfl box_byte (fun V hV => (World.cell?_of_block (w := w1) (a := ⟨PB, po + 0, none⟩) hV).trans CB0.out) ?_
  go_simp
  refine hK _ ?_
  clear hK K
  refine walk_float rfl rfl (fun K hK => ?_)
  refine gives_to_int _ rfl g0 rfl HB0.out ?_
  go_simp
  refine hK _ ?_
  clear hK K
  refine walk_float rfl rfl (fun K hK => ?_)
  refine gives_move _ rfl ?_
  go_simp
  refine hK _ ?_
  clear hK K
  refine walk_float rfl rfl (fun K hK => ?_)
  refine gives_at _ _ rfl PB po n c 1 1 rfl rfl rfl HK1.out ?_
  go_simp
  refine hK _ ?_
  clear hK K
  refine walk_float rfl rfl (fun K hK => ?_)
  refine gives_cell 5 _ rfl ⟨PB, po + 1, none⟩ (.int .u8 g1) rfl box_byte (fun V hV => (World.cell?_of_block (w := w1) (a := ⟨PB, po + 1, none⟩) hV).trans CB1.out) ?_
  go_simp
  refine hK _ ?_
  clear hK K
  refine walk_float rfl rfl (fun K hK => ?_)
  refine gives_to_int _ rfl g1 rfl HB1.out ?_
  go_simp
  refine hK _ ?_
  clear hK K
  refine walk_float rfl rfl (fun K hK => ?_)
  refine gives_move _ rfl ?_
  go_simp
  refine hK _ ?_
  clear hK K
  refine walk_float rfl rfl (fun K hK => ?_)
  refine gives_at _ _ rfl PB po n c 2 2 rfl rfl rfl HK2.out ?_
  go_simp
  refine hK _ ?_
  clear hK K
  refine walk_float rfl rfl (fun K hK => ?_)
  refine gives_cell 5 _ rfl ⟨PB, po + 2, none⟩ (.int .u8 g2) rfl box_byte (fun V hV => (World.cell?_of_block (w := w1) (a := ⟨PB, po + 2, none⟩) hV).trans CB2.out) ?_
  go_simp
  refine hK _ ?_
  clear hK K
  refine walk_float rfl rfl (fun K hK => ?_)
  refine gives_to_int _ rfl g2 rfl HB2.out ?_
  go_simp
  refine hK _ ?_
  clear hK K
  refine walk_float rfl rfl (fun K hK => ?_)
  refine gives_int_mul _ _ rfl g2 256 (g2 * 256) rfl rfl HM2.out ?_
  go_simp
  refine hK _ ?_
  clear hK K
  refine walk_float rfl rfl (fun K hK => ?_)
  refine gives_move _ rfl ?_
  go_simp
  refine hK _ ?_
  clear hK K
  refine walk_float rfl rfl (fun K hK => ?_)
  refine gives_at _ _ rfl PB po n c 3 3 rfl rfl rfl HK3.out ?_
  go_simp
  refine hK _ ?_
  clear hK K
  refine walk_float rfl rfl (fun K hK => ?_)
  refine gives_cell 5 _ rfl ⟨PB, po + 3, none⟩ (.int .u8 g3) rfl box_byte (fun V hV => (World.cell?_of_block (w := w1) (a := ⟨PB, po + 3, none⟩) hV).trans CB3.out) ?_
  go_simp
  refine hK _ ?_
  clear hK K
  refine walk_float rfl rfl (fun K hK => ?_)
  refine gives_to_int _ rfl g3 rfl HB3.out ?_
  go_simp
  refine hK _ ?_
  clear hK K
  refine walk_float rfl rfl (fun K hK => ?_)
  refine gives_int_sum _ _ rfl (g2 * 256) g3 v2 rfl rfl HV2.out ?_
  go_simp
  refine hK _ ?_
  clear hK K
  refine walk_float rfl rfl (fun K hK => ?_)
  refine gives_move _ rfl ?_
  go_simp
  refine hK _ ?_
  clear hK K
  refine walk_float rfl rfl (fun K hK => ?_)
  refine gives_at _ _ rfl PB po n c 4 4 rfl rfl rfl HK4.out ?_
  go_simp
  refine hK _ ?_
  clear hK K
  refine walk_float rfl rfl (fun K hK => ?_)
  refine gives_cell 5 _ rfl ⟨PB, po + 4, none⟩ (.int .u8 g4) rfl box_byte (fun V hV => (World.cell?_of_block (w := w1) (a := ⟨PB, po + 4, none⟩) hV).trans CB4.out) ?_
  go_simp
  refine hK _ ?_
  clear hK K
  refine walk_float rfl rfl (fun K hK => ?_)
  refine gives_to_int _ rfl g4 rfl HB4.out ?_
  go_simp
  refine hK _ ?_
  clear hK K
  refine walk_float rfl rfl (fun K hK => ?_)
  refine gives_int_mul _ _ rfl g4 256 (g4 * 256) rfl rfl HM4.out ?_
  go_simp
  refine hK _ ?_
  clear hK K
  refine walk_float rfl rfl (fun K hK => ?_)
  refine gives_move _ rfl ?_
  go_simp
  refine hK _ ?_
  clear hK K
  refine walk_float rfl rfl (fun K hK => ?_)
  refine gives_at _ _ rfl PB po n c 5 5 rfl rfl rfl HK5.out ?_
  go_simp
  refine hK _ ?_
  clear hK K
  refine walk_float rfl rfl (fun K hK => ?_)
  refine gives_cell 5 _ rfl ⟨PB, po + 5, none⟩ (.int .u8 g5) rfl box_byte (fun V hV => (World.cell?_of_block (w := w1) (a := ⟨PB, po + 5, none⟩) hV).trans CB5.out) ?_
  go_simp
  refine hK _ ?_
  clear hK K
  refine walk_float rfl rfl (fun K hK => ?_)
  refine gives_to_int _ rfl g5 rfl HB5.out ?_
  go_simp
  refine hK _ ?_
  clear hK K
  refine walk_float rfl rfl (fun K hK => ?_)
  refine gives_int_sum _ _ rfl (g4 * 256) g5 v3 rfl rfl HV3.out ?_
  go_simp
  refine hK _ ?_
  clear hK K
  refine walk_float rfl rfl (fun K hK => ?_)
  refine gives_cm4 _ _ _ _ rfl g0 g1 v2 v3 rfl rfl rfl rfl ?_
  go_simp
  refine hK _ ?_
  clear hK K
  refine walk_done rfl rfl (fun K hK => ?_)
  refine done_boxA_new rowCm rfl ?_
  intro w4 x4 l4 s4
  have l4 : Below w1.heap.size w1 w4 := (Below.refl _ w1).drew.trans l4
  have Y4 := Lib.hid (show BoxA w4 w1.heap.size cmT (cmA none 0 0 zeroCm) from x4)
  have X4 := Lib.hid (X1.out.keep (l4.block _ X1.out.lt))
  have L4 := Lib.hid (L1.out.trans (l4.mono L1.out.size))
  have hb4 : w4.heap[PB]? = w1.heap[PB]? := l4.block PB HPB.out
  have HB4 := Lib.hid hb4
  have M4 := Lib.hid l4.size
  clear x4 l4 s4
  refine ⟨hb4, ?_⟩
  go_simp
  refine hK _ _ ?_
  clear hK K hb4
  refine walk_done rfl rfl (fun K hK => ?_)
  refine done_boxA_put rowCm _ _ rfl w1.heap.size (cmA none 0 0 ⟨g0, g1, v2, v3, zeroOp⟩) _ (cmA_size _ _ _ _) (cmA_one _ _ _ _) (cmA_size _ _ _ _) rfl rfl Y4.out ?_
  intro w5 x5 k5 s5
  have Y5 := Lib.hid x5
  have X5 := Lib.hid (X4.out.keep (k5.block _ X4.out.lt (Nat.ne_of_lt X1.out.lt)))
  have L5 := Lib.hid (low_put L4.out L1.out.size k5)
  have hb5 : w5.heap[PB]? = w1.heap[PB]? := (k5.block PB (Nat.lt_of_lt_of_le HPB.out M4.out) (Nat.ne_of_lt HPB.out)).trans HB4.out
  have XL := Lib.hid X1.out.lt
  have HB5 := Lib.hid hb5
  clear x5 k5 s5
  refine ⟨hb5, ?_⟩
  go_simp
  refine hK _ _ ?_
  clear hK K hb5
  refine walk_nil ?_
  obtain ⟨c0, c1, c2, c3, c4, c10⟩ := boxCm Y5.out
  clear X1 L1 X4 Y4 L4 HB4
  go_wp2_with (first
  | (with_reducible show wpList _ _ _ (⟨_, Op.build cmT _, _, _, _, none⟩ :: _) _ _
     refine wpList_build_any rfl cmT #[] #[] (.agg (cmA none 0 0 zeroCm)) rfl (by simp) (fun w => run_build w cmT #[] _ (by kernel_rfl)) ?_)
  | (with_reducible show wpList _ _ _ (⟨_, Op.store cmT (.tmp 2) _, _, _, _, none⟩ :: _) _ _
     refine wpList_boxA_put rowCm rfl _ _ rfl rfl w.heap.size (cmA none 0 0 zeroCm) _ (cmA_size _ _ _ _) (cmA_one _ _ _ _) (cmA_size _ _ _ _) rfl rfl X5.out ?_
     intro w9 x9 k9 s9
     have X9 := Lib.hid x9
     have L9 := Lib.hid (low_put L5.out (Nat.le_refl _) k9)
     clear x9 k9 s9 X5 L5))
  exact bodyPost_ret (results_cell_row_tmp rfl _ _ w.heap.size cmT (cmA none 0 0 zeroCm) (0, 0) _ rfl X9.out Try.underlying26 rfl (by rw [cmA_size]; exact rowCm.size)) rfl ⟨rfl, L9.out⟩
set_option maxRecDepth 100000 in
set_option maxHeartbeats 16000000 in
theorem refDecode_two_bad {w : World} {p : Option Addr} {n c : Nat} {G : Nat → Nat} (hp : BytesAt w p n G) (hG : ∀ j, G j < 256) (hc : n ≤ c) (hn : n ≤ 100000) (h6 : 6 ≤ n) (hk : ((G 0 : Nat) : Int) = 2) (hgd : goodC (rawC G) (rawN G n) = false) :
    Calls Try.prog 19 #[.slice p n c] w fun e w' => e = .returned (.tuple #[.agg (cmA none 0 0 zeroCm), .bool false]) ∧ Below w.heap.size w w' := by
  have HGD := Lib.hid hgd
  have HDF := Lib.hid (show ∀ j, dataF G j = G (6 + j) from fun j => by unfold dataF; rfl)
  clear hgd
  have HP := Lib.hid (fun (W : World) (hb : Below w.heap.size w W) => hp.below hb)
  have f1 : decide ((n : Int) < 6) = false := by simp; omega
  have f2 : decide (n < 6) = false := by simp; omega
  obtain ⟨PB, po, rfl, hPB, hcl⟩ : ∃ B o, p = some ⟨B, o, none⟩ ∧ B < w.heap.size ∧ Cells w B o n G := by
    rcases hp with h | h
    · omega
    · exact h
  have HK0 := Lib.hid (show 0 < n by omega)
  have HB0 := Lib.hid (show 0 ≤ ((G 0 : Nat) : Int) ∧ ((G 0 : Nat) : Int) < 256 by have := hG 0; omega)
  have CC0 := Lib.hid (hcl 0 (by omega))
  have HK1 := Lib.hid (show 1 < n by omega)
  have HB1 := Lib.hid (show 0 ≤ ((G 1 : Nat) : Int) ∧ ((G 1 : Nat) : Int) < 256 by have := hG 1; omega)
  have CC1 := Lib.hid (hcl 1 (by omega))
  have HK2 := Lib.hid (show 2 < n by omega)
  have HB2 := Lib.hid (show 0 ≤ ((G 2 : Nat) : Int) ∧ ((G 2 : Nat) : Int) < 256 by have := hG 2; omega)
  have CC2 := Lib.hid (hcl 2 (by omega))
  have HK3 := Lib.hid (show 3 < n by omega)
  have HB3 := Lib.hid (show 0 ≤ ((G 3 : Nat) : Int) ∧ ((G 3 : Nat) : Int) < 256 by have := hG 3; omega)
  have CC3 := Lib.hid (hcl 3 (by omega))
  have HK4 := Lib.hid (show 4 < n by omega)
  have HB4 := Lib.hid (show 0 ≤ ((G 4 : Nat) : Int) ∧ ((G 4 : Nat) : Int) < 256 by have := hG 4; omega)
  have CC4 := Lib.hid (hcl 4 (by omega))
  have HK5 := Lib.hid (show 5 < n by omega)
  have HB5 := Lib.hid (show 0 ≤ ((G 5 : Nat) : Int) ∧ ((G 5 : Nat) : Int) < 256 by have := hG 5; omega)
  have CC5 := Lib.hid (hcl 5 (by omega))
  have HM2 := Lib.hid (show IntKind.i64.wrap (((G 2 : Nat) : Int) * 256) = ((G 2 : Nat) : Int) * 256 from IntWalk.i64_in _ (by have := hG 2; omega))
  have HM4 := Lib.hid (show IntKind.i64.wrap (((G 4 : Nat) : Int) * 256) = ((G 4 : Nat) : Int) * 256 from IntWalk.i64_in _ (by have := hG 4; omega))
  have HV2 := Lib.hid (show IntKind.i64.wrap (((G 2 : Nat) : Int) * 256 + ((G 3 : Nat) : Int)) = ((valN 2 (fun j => G (2 + j)) : Nat) : Int) by rw [valN_pair G 2]; exact IntWalk.i64_in _ (by have := hG 2; have := hG 3; omega))
  have HV3 := Lib.hid (show IntKind.i64.wrap (((G 4 : Nat) : Int) * 256 + ((G 5 : Nat) : Int)) = ((valN 2 (fun j => G (4 + j)) : Nat) : Int) by rw [valN_pair G 4]; exact IntWalk.i64_in _ (by have := hG 4; have := hG 5; omega))
  have HPB0 := Lib.hid hPB
  have HR := Lib.hid (show rawC G = ⟨(G 0 : Int), (G 1 : Int), ((valN 2 (fun j => G (2 + j)) : Nat) : Int), ((valN 2 (fun j => G (4 + j)) : Nat) : Int), zeroOp⟩ by unfold rawC; rw [hk]; rfl)
  have HRN := Lib.hid (show rawN G n = n - 6 by unfold rawN; rw [hk]; rfl)
  have e2 : (((G 0 : Nat) : Int) == 2) = true := by rw [hk]; rfl
  have e6 : (((G 0 : Nat) : Int) == 6) = false := by rw [hk]; rfl
  have HNC := Lib.hid hc
  have HC6 := Lib.hid (show 6 ≤ n by omega)
  have HN := Lib.hid hn
  have HGS := Lib.hid (show ∀ j, j < n → G j < 256 from fun j _ => hG j)
  clear hp hG hc hn h6 hk hPB hcl
  generalize ((G 0 : Nat) : Int) = g0 at *
  generalize ((G 1 : Nat) : Int) = g1 at *
  generalize ((G 2 : Nat) : Int) = g2 at *
  generalize ((G 3 : Nat) : Int) = g3 at *
  generalize ((G 4 : Nat) : Int) = g4 at *
  generalize ((G 5 : Nat) : Int) = g5 at *
  generalize ((valN 2 (fun j => G (2 + j)) : Nat) : Int) = v2 at *
  generalize ((valN 2 (fun j => G (4 + j)) : Nat) : Int) = v3 at *
  rw [HR.out, HRN.out] at HGD
  go_enter Try.func19, Try.ntmps19
  go_wp2_with (first
  | (with_reducible show wpList _ _ _ (⟨some 2, Op.alloc cmT, _, _, _, _⟩ :: _) _ _
     refine wpList_boxA_new rowCm rfl rfl w.heap.size rfl ?_
     intro w1 x1 l1 s1
     have X1 := Lib.hid x1
     have L1 := Lib.hid l1
     clear x1 l1 s1))
  have CB0 := Lib.hid ((L1.out.cell (p := ⟨PB, po + 0, none⟩) HPB0.out).trans CC0.out)
  have CB1 := Lib.hid ((L1.out.cell (p := ⟨PB, po + 1, none⟩) HPB0.out).trans CC1.out)
  have CB2 := Lib.hid ((L1.out.cell (p := ⟨PB, po + 2, none⟩) HPB0.out).trans CC2.out)
  have CB3 := Lib.hid ((L1.out.cell (p := ⟨PB, po + 3, none⟩) HPB0.out).trans CC3.out)
  have CB4 := Lib.hid ((L1.out.cell (p := ⟨PB, po + 4, none⟩) HPB0.out).trans CC4.out)
  have CB5 := Lib.hid ((L1.out.cell (p := ⟨PB, po + 5, none⟩) HPB0.out).trans CC5.out)
  have HPB := Lib.hid (Nat.lt_of_lt_of_le HPB0.out L1.out.size)
  refine wp_region_sched [(0, true), (1, true), (2, true), (3, true), (4, true), (5, true), (6, true), (7, true), (8, true), (9, true), (10, true), (11, true), (12, true), (13, true), (14, true), (15, true), (16, true), (17, true), (18, true), (19, true), (20, true), (21, true), (22, true), (23, true), (24, true), (25, true), (26, true), (27, true), (28, true), (29, false), (30, false)] (fun V => V.heap[PB]? = w1.heap[PB]?) (by kernel_rfl) (by kernel_rfl) (show w1.drew.heap[PB]? = w1.heap[PB]? from rfl) ?_
  refine walk_float rfl rfl (fun K hK => ?_)
  refine gives_move _ rfl ?_
  go_simp
  refine hK _ ?_
  clear hK K
  refine walk_float rfl rfl (fun K hK => ?_)
  refine gives_at _ _ rfl PB po n c 0 0 rfl rfl rfl HK0.out ?_
  go_simp
  refine hK _ ?_
  clear hK K
  refine walk_float rfl rfl (fun K hK => ?_)
  refine gives_cell 5 _ rfl ⟨PB, po + 0, none⟩ (.int .u8 g0) rfl box_byte (fun V hV => (World.cell?_of_block (w := w1) (a := ⟨PB, po + 0, none⟩) hV).trans CB0.out) ?_
  go_simp
  refine hK _ ?_
  clear hK K
  refine walk_float rfl rfl (fun K hK => ?_)
  refine gives_to_int _ rfl g0 rfl HB0.out ?_
  go_simp
  refine hK _ ?_
  clear hK K
  refine walk_float rfl rfl (fun K hK => ?_)
  refine gives_move _ rfl ?_
  go_simp
  refine hK _ ?_
  clear hK K
  refine walk_float rfl rfl (fun K hK => ?_)
  refine gives_at _ _ rfl PB po n c 1 1 rfl rfl rfl HK1.out ?_
  go_simp
  refine hK _ ?_
  clear hK K
  refine walk_float rfl rfl (fun K hK => ?_)
  refine gives_cell 5 _ rfl ⟨PB, po + 1, none⟩ (.int .u8 g1) rfl box_byte (fun V hV => (World.cell?_of_block (w := w1) (a := ⟨PB, po + 1, none⟩) hV).trans CB1.out) ?_
  go_simp
  refine hK _ ?_
  clear hK K
  refine walk_float rfl rfl (fun K hK => ?_)
  refine gives_to_int _ rfl g1 rfl HB1.out ?_
  go_simp
  refine hK _ ?_
  clear hK K
  refine walk_float rfl rfl (fun K hK => ?_)
  refine gives_move _ rfl ?_
  go_simp
  refine hK _ ?_
  clear hK K
  refine walk_float rfl rfl (fun K hK => ?_)
  refine gives_at _ _ rfl PB po n c 2 2 rfl rfl rfl HK2.out ?_
  go_simp
  refine hK _ ?_
  clear hK K
  refine walk_float rfl rfl (fun K hK => ?_)
  refine gives_cell 5 _ rfl ⟨PB, po + 2, none⟩ (.int .u8 g2) rfl box_byte (fun V hV => (World.cell?_of_block (w := w1) (a := ⟨PB, po + 2, none⟩) hV).trans CB2.out) ?_
  go_simp
  refine hK _ ?_
  clear hK K
  refine walk_float rfl rfl (fun K hK => ?_)
  refine gives_to_int _ rfl g2 rfl HB2.out ?_
  go_simp
  refine hK _ ?_
  clear hK K
  refine walk_float rfl rfl (fun K hK => ?_)
  refine gives_int_mul _ _ rfl g2 256 (g2 * 256) rfl rfl HM2.out ?_
  go_simp
  refine hK _ ?_
  clear hK K
  refine walk_float rfl rfl (fun K hK => ?_)
  refine gives_move _ rfl ?_
  go_simp
  refine hK _ ?_
  clear hK K
  refine walk_float rfl rfl (fun K hK => ?_)
  refine gives_at _ _ rfl PB po n c 3 3 rfl rfl rfl HK3.out ?_
  go_simp
  refine hK _ ?_
  clear hK K
  refine walk_float rfl rfl (fun K hK => ?_)
  refine gives_cell 5 _ rfl ⟨PB, po + 3, none⟩ (.int .u8 g3) rfl box_byte (fun V hV => (World.cell?_of_block (w := w1) (a := ⟨PB, po + 3, none⟩) hV).trans CB3.out) ?_
  go_simp
  refine hK _ ?_
  clear hK K
  refine walk_float rfl rfl (fun K hK => ?_)
  refine gives_to_int _ rfl g3 rfl HB3.out ?_
  go_simp
  refine hK _ ?_
  clear hK K
  refine walk_float rfl rfl (fun K hK => ?_)
  refine gives_int_sum _ _ rfl (g2 * 256) g3 v2 rfl rfl HV2.out ?_
  go_simp
  refine hK _ ?_
  clear hK K
  refine walk_float rfl rfl (fun K hK => ?_)
  refine gives_move _ rfl ?_
  go_simp
  refine hK _ ?_
  clear hK K
  refine walk_float rfl rfl (fun K hK => ?_)
  refine gives_at _ _ rfl PB po n c 4 4 rfl rfl rfl HK4.out ?_
  go_simp
  refine hK _ ?_
  clear hK K
  refine walk_float rfl rfl (fun K hK => ?_)
  refine gives_cell 5 _ rfl ⟨PB, po + 4, none⟩ (.int .u8 g4) rfl box_byte (fun V hV => (World.cell?_of_block (w := w1) (a := ⟨PB, po + 4, none⟩) hV).trans CB4.out) ?_
  go_simp
  refine hK _ ?_
  clear hK K
  refine walk_float rfl rfl (fun K hK => ?_)
  refine gives_to_int _ rfl g4 rfl HB4.out ?_
  go_simp
  refine hK _ ?_
  clear hK K
  refine walk_float rfl rfl (fun K hK => ?_)
  refine gives_int_mul _ _ rfl g4 256 (g4 * 256) rfl rfl HM4.out ?_
  go_simp
  refine hK _ ?_
  clear hK K
  refine walk_float rfl rfl (fun K hK => ?_)
  refine gives_move _ rfl ?_
  go_simp
  refine hK _ ?_
  clear hK K
  refine walk_float rfl rfl (fun K hK => ?_)
  refine gives_at _ _ rfl PB po n c 5 5 rfl rfl rfl HK5.out ?_
  go_simp
  refine hK _ ?_
  clear hK K
  refine walk_float rfl rfl (fun K hK => ?_)
  refine gives_cell 5 _ rfl ⟨PB, po + 5, none⟩ (.int .u8 g5) rfl box_byte (fun V hV => (World.cell?_of_block (w := w1) (a := ⟨PB, po + 5, none⟩) hV).trans CB5.out) ?_
  go_simp
  refine hK _ ?_
  clear hK K
  refine walk_float rfl rfl (fun K hK => ?_)
  refine gives_to_int _ rfl g5 rfl HB5.out ?_
  go_simp
  refine hK _ ?_
  clear hK K
  refine walk_float rfl rfl (fun K hK => ?_)
  refine gives_int_sum _ _ rfl (g4 * 256) g5 v3 rfl rfl HV3.out ?_
  go_simp
  refine hK _ ?_
  clear hK K
  refine walk_float rfl rfl (fun K hK => ?_)
  refine gives_cm4 _ _ _ _ rfl g0 g1 v2 v3 rfl rfl rfl rfl ?_
  go_simp
  refine hK _ ?_
  clear hK K
  refine walk_done rfl rfl (fun K hK => ?_)
  refine done_boxA_new rowCm rfl ?_
  intro w4 x4 l4 s4
  have l4 : Below w1.heap.size w1 w4 := (Below.refl _ w1).drew.trans l4
  have Y4 := Lib.hid (show BoxA w4 w1.heap.size cmT (cmA none 0 0 zeroCm) from x4)
  have X4 := Lib.hid (X1.out.keep (l4.block _ X1.out.lt))
  have L4 := Lib.hid (L1.out.trans (l4.mono L1.out.size))
  have hb4 : w4.heap[PB]? = w1.heap[PB]? := l4.block PB HPB.out
  have HB4 := Lib.hid hb4
  have M4 := Lib.hid l4.size
  clear x4 l4 s4
  refine ⟨hb4, ?_⟩
  go_simp
  refine hK _ _ ?_
  clear hK K hb4
  refine walk_done rfl rfl (fun K hK => ?_)
  refine done_boxA_put rowCm _ _ rfl w1.heap.size (cmA none 0 0 ⟨g0, g1, v2, v3, zeroOp⟩) _ (cmA_size _ _ _ _) (cmA_one _ _ _ _) (cmA_size _ _ _ _) rfl rfl Y4.out ?_
  intro w5 x5 k5 s5
  have Y5 := Lib.hid x5
  have X5 := Lib.hid (X4.out.keep (k5.block _ X4.out.lt (Nat.ne_of_lt X1.out.lt)))
  have L5 := Lib.hid (low_put L4.out L1.out.size k5)
  have hb5 : w5.heap[PB]? = w1.heap[PB]? := (k5.block PB (Nat.lt_of_lt_of_le HPB.out M4.out) (Nat.ne_of_lt HPB.out)).trans HB4.out
  have XL := Lib.hid X1.out.lt
  have HB5 := Lib.hid hb5
  clear x5 k5 s5
  refine ⟨hb5, ?_⟩
  go_simp
  refine hK _ _ ?_
  clear hK K hb5
  refine walk_nil ?_
  obtain ⟨c0, c1, c2, c3, c4, c10⟩ := boxCm Y5.out
  clear X1 L1 X4 Y4 L4 HB4
  go_wp2_with (first
  | (with_reducible show wpList _ _ _ (⟨_, Op.slice 22 _ _ _ _, _, _, _, _⟩ :: _) _ _
     refine wpList_tail rfl _ _ rfl (some ⟨PB, po, none⟩) n c 6 6 rfl rfl rfl HC6.out HNC.out ?_
     intro p' hbh _
     have a5 : Below w5.heap.size w5 (w5.alloc (.cells #[] 5)) := (Below.refl _ _).alloc (Nat.le_refl _) _
     have hb6 := hbh _ G (HP.out _ (L5.out.trans (a5.mono L5.out.size)))
     obtain ⟨v7, w7, hr7, o7, l7⟩ := append_own_run (F := dataF G) (w5.alloc (.cells #[] 5)) 22 (OwnS.empty w5 _ w5.heap.size (Nat.le_refl _)) p' (n - 6) (c - 6) hb6 (fun j hj => by rw [Nat.zero_add]; exact (HDF.out j).symm) (by have := HN.out; omega) a5.size
     rw [Nat.zero_add] at o7
     obtain ⟨q6, m6, hv7, _, _, hby, _⟩ := o7.bytes (Nat.le_refl _)
     subst hv7
     have R7 := Lib.hid hr7
     have l57 : Below w5.heap.size w5 w7 := a5.trans l7
     have Y7 := Lib.hid (Y5.out.keep (l57.block _ Y5.out.lt))
     have X7 := Lib.hid (X5.out.keep (l57.block _ X5.out.lt))
     have L7 := Lib.hid (L5.out.trans (l57.mono L5.out.size))
     have H7 := Lib.hid hby
     have HQ6 := Lib.hid (show ∀ B o, q6 = some ⟨B, o, none⟩ → w1.heap.size < B from fun B o e => Nat.lt_of_lt_of_le Y5.out.lt ((by assumption : ∀ B o, q6 = some ⟨B, o, none⟩ → w5.heap.size ≤ B ∧ B < w7.heap.size) B o e).1)
     clear hbh hb6 hr7 o7 l7 l57 hby a5)
  | (at_builtin
     refine wpList_append rfl _ _ _ _ rfl _ _ rfl rfl _ _ R7.out ?_
     clear R7)
  | (with_reducible show wpList _ _ _ (⟨_, Op.store 22 _ _, _, _, _, none⟩ :: _) _ _
     refine wpList_boxA_bytes rfl _ _ rfl rfl w1.heap.size (cmA none 0 0 ⟨g0, g1, v2, v3, zeroOp⟩) 4 q6 (n - 6) m6 rfl rfl Y7.out (by simp [cmA_size]) ?_
     intro w6 x6 k6 s6
     rw [cmA_set] at x6
     have Y6 := Lib.hid x6
     have X6 := Lib.hid (X7.out.keep (k6.block _ X7.out.lt (Nat.ne_of_lt XL.out)))
     have HD := Lib.hid (show BytesAt w6 q6 (n - 6) (dataF G) from H7.out.imp id fun ⟨B, o, h1, h2, h3⟩ => ⟨B, o, h1, Nat.lt_of_lt_of_le h2 k6.size, fun j hj => (World.cell?_of_block (w := w7) (a := ⟨B, o + j, none⟩) (k6.block B h2 (Nat.ne_of_gt (HQ6.out B o h1)))).trans (h3 j hj)⟩)
     have L6 := Lib.hid (low_put L7.out (Nat.le_of_lt XL.out) k6)
     obtain ⟨c0, c1, c2, c3, c4, c10⟩ := boxCm x6
     clear x6 k6 s6 X5 Y5 L5 X7 Y7 L7 H7)
  | (with_reducible show wpList _ _ _ (⟨some 88, Op.load cmT _, _, _, _, _⟩ :: _) _ _
     refine wpList_boxA_loadw rowCm _ rfl rfl w1.heap.size (cmA q6 (n - 6) m6 ⟨g0, g1, v2, v3, zeroOp⟩) (cmA_size _ _ _ _) rfl Y6.out ?_)
  | (go_at_call 12
     refine (refEncode_no HGD.out).mono ?_; rintro e w8 ⟨rfl, l8⟩
     have X8 := Lib.hid (X6.out.keep (l8.block _ X6.out.lt))
     have L8 := Lib.hid (L6.out.trans (l8.mono L6.out.size))
     clear l8 X6 L6)
  | (with_reducible show wpList _ _ _ (⟨_, Op.build cmT _, _, _, _, none⟩ :: _) _ _
     refine wpList_build_any rfl cmT #[] #[] (.agg (cmA none 0 0 zeroCm)) rfl (by simp) (fun w => run_build w cmT #[] _ (by kernel_rfl)) ?_)
  | (with_reducible show wpList _ _ _ (⟨_, Op.store cmT (.tmp 2) _, _, _, _, none⟩ :: _) _ _
     refine wpList_boxA_put rowCm rfl _ _ rfl rfl w.heap.size (cmA none 0 0 zeroCm) _ (cmA_size _ _ _ _) (cmA_one _ _ _ _) (cmA_size _ _ _ _) rfl rfl X8.out ?_
     intro w9 x9 k9 s9
     have X9 := Lib.hid x9
     have L9 := Lib.hid (low_put L8.out (Nat.le_refl _) k9)
     clear x9 k9 s9 X8 L8))
  exact bodyPost_ret (results_cell_row_tmp rfl _ _ w.heap.size cmT (cmA none 0 0 zeroCm) (0, 0) _ rfl X9.out Try.underlying26 rfl (by rw [cmA_size]; exact rowCm.size)) rfl ⟨rfl, L9.out⟩
set_option maxRecDepth 100000 in
set_option maxHeartbeats 16000000 in
theorem refDecode_two_other {w : World} {p : Option Addr} {n c : Nat} {G : Nat → Nat} (hp : BytesAt w p n G) (hG : ∀ j, G j < 256) (hc : n ≤ c) (hn : n ≤ 100000) (h6 : 6 ≤ n) (hk : ((G 0 : Nat) : Int) = 2) (hgd : goodC (rawC G) (rawN G n) = true) (heq : ¬ mk (lenC (rawC G) + rawN G n) (allC (rawC G) (dataF G)) = mk n G) :
    Calls Try.prog 19 #[.slice p n c] w fun e w' => e = .returned (.tuple #[.agg (cmA none 0 0 zeroCm), .bool false]) ∧ Below w.heap.size w w' := by
  have HGD := Lib.hid hgd
  have HDF := Lib.hid (show ∀ j, dataF G j = G (6 + j) from fun j => by unfold dataF; rfl)
  have HAL : ∀ j, j < lenC (rawC G) + rawN G n → allC (rawC G) (dataF G) j < 256 := fun j hj => allC_lt (x := rawC G) (g := dataF G) (n := rawN G n) (fun i _ => by show dataF G i < 256; unfold dataF; exact hG _) j hj
  have HEQ := Lib.hid (str_eq HAL (fun j (_ : j < n) => hG j))
  have HNE := Lib.hid (str_neq HAL (fun j (_ : j < n) => hG j))
  rw [decide_eq_false heq] at HEQ HNE
  clear HAL heq
  clear hgd
  have HP := Lib.hid (fun (W : World) (hb : Below w.heap.size w W) => hp.below hb)
  have f1 : decide ((n : Int) < 6) = false := by simp; omega
  have f2 : decide (n < 6) = false := by simp; omega
  obtain ⟨PB, po, rfl, hPB, hcl⟩ : ∃ B o, p = some ⟨B, o, none⟩ ∧ B < w.heap.size ∧ Cells w B o n G := by
    rcases hp with h | h
    · omega
    · exact h
  have HK0 := Lib.hid (show 0 < n by omega)
  have HB0 := Lib.hid (show 0 ≤ ((G 0 : Nat) : Int) ∧ ((G 0 : Nat) : Int) < 256 by have := hG 0; omega)
  have CC0 := Lib.hid (hcl 0 (by omega))
  have HK1 := Lib.hid (show 1 < n by omega)
  have HB1 := Lib.hid (show 0 ≤ ((G 1 : Nat) : Int) ∧ ((G 1 : Nat) : Int) < 256 by have := hG 1; omega)
  have CC1 := Lib.hid (hcl 1 (by omega))
  have HK2 := Lib.hid (show 2 < n by omega)
  have HB2 := Lib.hid (show 0 ≤ ((G 2 : Nat) : Int) ∧ ((G 2 : Nat) : Int) < 256 by have := hG 2; omega)
  have CC2 := Lib.hid (hcl 2 (by omega))
  have HK3 := Lib.hid (show 3 < n by omega)
  have HB3 := Lib.hid (show 0 ≤ ((G 3 : Nat) : Int) ∧ ((G 3 : Nat) : Int) < 256 by have := hG 3; omega)
  have CC3 := Lib.hid (hcl 3 (by omega))
  have HK4 := Lib.hid (show 4 < n by omega)
  have HB4 := Lib.hid (show 0 ≤ ((G 4 : Nat) : Int) ∧ ((G 4 : Nat) : Int) < 256 by have := hG 4; omega)
  have CC4 := Lib.hid (hcl 4 (by omega))
  have HK5 := Lib.hid (show 5 < n by omega)
  have HB5 := Lib.hid (show 0 ≤ ((G 5 : Nat) : Int) ∧ ((G 5 : Nat) : Int) < 256 by have := hG 5; omega)
  have CC5 := Lib.hid (hcl 5 (by omega))
  have HM2 := Lib.hid (show IntKind.i64.wrap (((G 2 : Nat) : Int) * 256) = ((G 2 : Nat) : Int) * 256 from IntWalk.i64_in _ (by have := hG 2; omega))
  have HM4 := Lib.hid (show IntKind.i64.wrap (((G 4 : Nat) : Int) * 256) = ((G 4 : Nat) : Int) * 256 from IntWalk.i64_in _ (by have := hG 4; omega))
  have HV2 := Lib.hid (show IntKind.i64.wrap (((G 2 : Nat) : Int) * 256 + ((G 3 : Nat) : Int)) = ((valN 2 (fun j => G (2 + j)) : Nat) : Int) by rw [valN_pair G 2]; exact IntWalk.i64_in _ (by have := hG 2; have := hG 3; omega))
  have HV3 := Lib.hid (show IntKind.i64.wrap (((G 4 : Nat) : Int) * 256 + ((G 5 : Nat) : Int)) = ((valN 2 (fun j => G (4 + j)) : Nat) : Int) by rw [valN_pair G 4]; exact IntWalk.i64_in _ (by have := hG 4; have := hG 5; omega))
  have HPB0 := Lib.hid hPB
  have HR := Lib.hid (show rawC G = ⟨(G 0 : Int), (G 1 : Int), ((valN 2 (fun j => G (2 + j)) : Nat) : Int), ((valN 2 (fun j => G (4 + j)) : Nat) : Int), zeroOp⟩ by unfold rawC; rw [hk]; rfl)
  have HRN := Lib.hid (show rawN G n = n - 6 by unfold rawN; rw [hk]; rfl)
  have e2 : (((G 0 : Nat) : Int) == 2) = true := by rw [hk]; rfl
  have e6 : (((G 0 : Nat) : Int) == 6) = false := by rw [hk]; rfl
  have HNC := Lib.hid hc
  have HC6 := Lib.hid (show 6 ≤ n by omega)
  have HN := Lib.hid hn
  have HGS := Lib.hid (show ∀ j, j < n → G j < 256 from fun j _ => hG j)
  clear hp hG hc hn h6 hk hPB hcl
  generalize ((G 0 : Nat) : Int) = g0 at *
  generalize ((G 1 : Nat) : Int) = g1 at *
  generalize ((G 2 : Nat) : Int) = g2 at *
  generalize ((G 3 : Nat) : Int) = g3 at *
  generalize ((G 4 : Nat) : Int) = g4 at *
  generalize ((G 5 : Nat) : Int) = g5 at *
  generalize ((valN 2 (fun j => G (2 + j)) : Nat) : Int) = v2 at *
  generalize ((valN 2 (fun j => G (4 + j)) : Nat) : Int) = v3 at *
  rw [HR.out, HRN.out] at HGD HEQ HNE
  go_enter Try.func19, Try.ntmps19
  go_wp2_with (first
  | (with_reducible show wpList _ _ _ (⟨some 2, Op.alloc cmT, _, _, _, _⟩ :: _) _ _
     refine wpList_boxA_new rowCm rfl rfl w.heap.size rfl ?_
     intro w1 x1 l1 s1
     have X1 := Lib.hid x1
     have L1 := Lib.hid l1
     clear x1 l1 s1))
  have CB0 := Lib.hid ((L1.out.cell (p := ⟨PB, po + 0, none⟩) HPB0.out).trans CC0.out)
  have CB1 := Lib.hid ((L1.out.cell (p := ⟨PB, po + 1, none⟩) HPB0.out).trans CC1.out)
  have CB2 := Lib.hid ((L1.out.cell (p := ⟨PB, po + 2, none⟩) HPB0.out).trans CC2.out)
  have CB3 := Lib.hid ((L1.out.cell (p := ⟨PB, po + 3, none⟩) HPB0.out).trans CC3.out)
  have CB4 := Lib.hid ((L1.out.cell (p := ⟨PB, po + 4, none⟩) HPB0.out).trans CC4.out)
  have CB5 := Lib.hid ((L1.out.cell (p := ⟨PB, po + 5, none⟩) HPB0.out).trans CC5.out)
  have HPB := Lib.hid (Nat.lt_of_lt_of_le HPB0.out L1.out.size)
  refine wp_region_sched [(0, true), (1, true), (2, true), (3, true), (4, true), (5, true), (6, true), (7, true), (8, true), (9, true), (10, true), (11, true), (12, true), (13, true), (14, true), (15, true), (16, true), (17, true), (18, true), (19, true), (20, true), (21, true), (22, true), (23, true), (24, true), (25, true), (26, true), (27, true), (28, true), (29, false), (30, false)] (fun V => V.heap[PB]? = w1.heap[PB]?) (by kernel_rfl) (by kernel_rfl) (show w1.drew.heap[PB]? = w1.heap[PB]? from rfl) ?_
  refine walk_float rfl rfl (fun K hK => ?_)
  refine gives_move _ rfl ?_
  go_simp
  refine hK _ ?_
  clear hK K
  refine walk_float rfl rfl (fun K hK => ?_)
  refine gives_at _ _ rfl PB po n c 0 0 rfl rfl rfl HK0.out ?_
  go_simp
  refine hK _ ?_
  clear hK K
  refine walk_float rfl rfl (fun K hK => ?_)
  refine gives_cell 5 _ rfl ⟨PB, po + 0, none⟩ (.int .u8 g0) rfl box_byte (fun V hV => (World.cell?_of_block (w := w1) (a := ⟨PB, po + 0, none⟩) hV).trans CB0.out) ?_
  go_simp
  refine hK _ ?_
  clear hK K
  refine walk_float rfl rfl (fun K hK => ?_)
  refine gives_to_int _ rfl g0 rfl HB0.out ?_
  go_simp
  refine hK _ ?_
  clear hK K
  refine walk_float rfl rfl (fun K hK => ?_)
  refine gives_move _ rfl ?_
  go_simp
  refine hK _ ?_
  clear hK K
  refine walk_float rfl rfl (fun K hK => ?_)
  refine gives_at _ _ rfl PB po n c 1 1 rfl rfl rfl HK1.out ?_
  go_simp
  refine hK _ ?_
  clear hK K
  refine walk_float rfl rfl (fun K hK => ?_)
  refine gives_cell 5 _ rfl ⟨PB, po + 1, none⟩ (.int .u8 g1) rfl box_byte (fun V hV => (World.cell?_of_block (w := w1) (a := ⟨PB, po + 1, none⟩) hV).trans CB1.out) ?_
  go_simp
  refine hK _ ?_
  clear hK K
  refine walk_float rfl rfl (fun K hK => ?_)
  refine gives_to_int _ rfl g1 rfl HB1.out ?_
  go_simp
  refine hK _ ?_
  clear hK K
  refine walk_float rfl rfl (fun K hK => ?_)
  refine gives_move _ rfl ?_
  go_simp
  refine hK _ ?_
  clear hK K
  refine walk_float rfl rfl (fun K hK => ?_)
  refine gives_at _ _ rfl PB po n c 2 2 rfl rfl rfl HK2.out ?_
  go_simp
  refine hK _ ?_
  clear hK K
  refine walk_float rfl rfl (fun K hK => ?_)
  refine gives_cell 5 _ rfl ⟨PB, po + 2, none⟩ (.int .u8 g2) rfl box_byte (fun V hV => (World.cell?_of_block (w := w1) (a := ⟨PB, po + 2, none⟩) hV).trans CB2.out) ?_
  go_simp
  refine hK _ ?_
  clear hK K
  refine walk_float rfl rfl (fun K hK => ?_)
  refine gives_to_int _ rfl g2 rfl HB2.out ?_
  go_simp
  refine hK _ ?_
  clear hK K
  refine walk_float rfl rfl (fun K hK => ?_)
  refine gives_int_mul _ _ rfl g2 256 (g2 * 256) rfl rfl HM2.out ?_
  go_simp
  refine hK _ ?_
  clear hK K
  refine walk_float rfl rfl (fun K hK => ?_)
  refine gives_move _ rfl ?_
  go_simp
  refine hK _ ?_
  clear hK K
  refine walk_float rfl rfl (fun K hK => ?_)
  refine gives_at _ _ rfl PB po n c 3 3 rfl rfl rfl HK3.out ?_
  go_simp
  refine hK _ ?_
  clear hK K
  refine walk_float rfl rfl (fun K hK => ?_)
  refine gives_cell 5 _ rfl ⟨PB, po + 3, none⟩ (.int .u8 g3) rfl box_byte (fun V hV => (World.cell?_of_block (w := w1) (a := ⟨PB, po + 3, none⟩) hV).trans CB3.out) ?_
  go_simp
  refine hK _ ?_
  clear hK K
  refine walk_float rfl rfl (fun K hK => ?_)
  refine gives_to_int _ rfl g3 rfl HB3.out ?_
  go_simp
  refine hK _ ?_
  clear hK K
  refine walk_float rfl rfl (fun K hK => ?_)
  refine gives_int_sum _ _ rfl (g2 * 256) g3 v2 rfl rfl HV2.out ?_
  go_simp
  refine hK _ ?_
  clear hK K
  refine walk_float rfl rfl (fun K hK => ?_)
  refine gives_move _ rfl ?_
  go_simp
  refine hK _ ?_
  clear hK K
  refine walk_float rfl rfl (fun K hK => ?_)
  refine gives_at _ _ rfl PB po n c 4 4 rfl rfl rfl HK4.out ?_
  go_simp
  refine hK _ ?_
  clear hK K
  refine walk_float rfl rfl (fun K hK => ?_)
  refine gives_cell 5 _ rfl ⟨PB, po + 4, none⟩ (.int .u8 g4) rfl box_byte (fun V hV => (World.cell?_of_block (w := w1) (a := ⟨PB, po + 4, none⟩) hV).trans CB4.out) ?_
  go_simp
  refine hK _ ?_
  clear hK K
  refine walk_float rfl rfl (fun K hK => ?_)
  refine gives_to_int _ rfl g4 rfl HB4.out ?_
  go_simp
  refine hK _ ?_
  clear hK K
  refine walk_float rfl rfl (fun K hK => ?_)
  refine gives_int_mul _ _ rfl g4 256 (g4 * 256) rfl rfl HM4.out ?_
  go_simp
  refine hK _ ?_
  clear hK K
  refine walk_float rfl rfl (fun K hK => ?_)
  refine gives_move _ rfl ?_
  go_simp
  refine hK _ ?_
  clear hK K
  refine walk_float rfl rfl (fun K hK => ?_)
  refine gives_at _ _ rfl PB po n c 5 5 rfl rfl rfl HK5.out ?_
  go_simp
  refine hK _ ?_
  clear hK K
  refine walk_float rfl rfl (fun K hK => ?_)
  refine gives_cell 5 _ rfl ⟨PB, po + 5, none⟩ (.int .u8 g5) rfl box_byte (fun V hV => (World.cell?_of_block (w := w1) (a := ⟨PB, po + 5, none⟩) hV).trans CB5.out) ?_
  go_simp
  refine hK _ ?_
  clear hK K
  refine walk_float rfl rfl (fun K hK => ?_)
  refine gives_to_int _ rfl g5 rfl HB5.out ?_
  go_simp
  refine hK _ ?_
  clear hK K
  refine walk_float rfl rfl (fun K hK => ?_)
  refine gives_int_sum _ _ rfl (g4 * 256) g5 v3 rfl rfl HV3.out ?_
  go_simp
  refine hK _ ?_
  clear hK K
  refine walk_float rfl rfl (fun K hK => ?_)
  refine gives_cm4 _ _ _ _ rfl g0 g1 v2 v3 rfl rfl rfl rfl ?_
  go_simp
  refine hK _ ?_
  clear hK K
  refine walk_done rfl rfl (fun K hK => ?_)
  refine done_boxA_new rowCm rfl ?_
  intro w4 x4 l4 s4
  have l4 : Below w1.heap.size w1 w4 := (Below.refl _ w1).drew.trans l4
  have Y4 := Lib.hid (show BoxA w4 w1.heap.size cmT (cmA none 0 0 zeroCm) from x4)
  have X4 := Lib.hid (X1.out.keep (l4.block _ X1.out.lt))
  have L4 := Lib.hid (L1.out.trans (l4.mono L1.out.size))
  have hb4 : w4.heap[PB]? = w1.heap[PB]? := l4.block PB HPB.out
  have HB4 := Lib.hid hb4
  have M4 := Lib.hid l4.size
  clear x4 l4 s4
  refine ⟨hb4, ?_⟩
  go_simp
  refine hK _ _ ?_
  clear hK K hb4
  refine walk_done rfl rfl (fun K hK => ?_)
  refine done_boxA_put rowCm _ _ rfl w1.heap.size (cmA none 0 0 ⟨g0, g1, v2, v3, zeroOp⟩) _ (cmA_size _ _ _ _) (cmA_one _ _ _ _) (cmA_size _ _ _ _) rfl rfl Y4.out ?_
  intro w5 x5 k5 s5
  have Y5 := Lib.hid x5
  have X5 := Lib.hid (X4.out.keep (k5.block _ X4.out.lt (Nat.ne_of_lt X1.out.lt)))
  have L5 := Lib.hid (low_put L4.out L1.out.size k5)
  have hb5 : w5.heap[PB]? = w1.heap[PB]? := (k5.block PB (Nat.lt_of_lt_of_le HPB.out M4.out) (Nat.ne_of_lt HPB.out)).trans HB4.out
  have XL := Lib.hid X1.out.lt
  have HB5 := Lib.hid hb5
  clear x5 k5 s5
  refine ⟨hb5, ?_⟩
  go_simp
  refine hK _ _ ?_
  clear hK K hb5
  refine walk_nil ?_
  obtain ⟨c0, c1, c2, c3, c4, c10⟩ := boxCm Y5.out
  clear X1 L1 X4 Y4 L4 HB4
  go_wp2_with (first
  | (with_reducible show wpList _ _ _ (⟨_, Op.slice 22 _ _ _ _, _, _, _, _⟩ :: _) _ _
     refine wpList_tail rfl _ _ rfl (some ⟨PB, po, none⟩) n c 6 6 rfl rfl rfl HC6.out HNC.out ?_
     intro p' hbh _
     have a5 : Below w5.heap.size w5 (w5.alloc (.cells #[] 5)) := (Below.refl _ _).alloc (Nat.le_refl _) _
     have hb6 := hbh _ G (HP.out _ (L5.out.trans (a5.mono L5.out.size)))
     obtain ⟨v7, w7, hr7, o7, l7⟩ := append_own_run (F := dataF G) (w5.alloc (.cells #[] 5)) 22 (OwnS.empty w5 _ w5.heap.size (Nat.le_refl _)) p' (n - 6) (c - 6) hb6 (fun j hj => by rw [Nat.zero_add]; exact (HDF.out j).symm) (by have := HN.out; omega) a5.size
     rw [Nat.zero_add] at o7
     obtain ⟨q6, m6, hv7, _, _, hby, _⟩ := o7.bytes (Nat.le_refl _)
     subst hv7
     have R7 := Lib.hid hr7
     have l57 : Below w5.heap.size w5 w7 := a5.trans l7
     have Y7 := Lib.hid (Y5.out.keep (l57.block _ Y5.out.lt))
     have X7 := Lib.hid (X5.out.keep (l57.block _ X5.out.lt))
     have L7 := Lib.hid (L5.out.trans (l57.mono L5.out.size))
     have H7 := Lib.hid hby
     have HQ6 := Lib.hid (show ∀ B o, q6 = some ⟨B, o, none⟩ → w1.heap.size < B from fun B o e => Nat.lt_of_lt_of_le Y5.out.lt ((by assumption : ∀ B o, q6 = some ⟨B, o, none⟩ → w5.heap.size ≤ B ∧ B < w7.heap.size) B o e).1)
     clear hbh hb6 hr7 o7 l7 l57 hby a5)
  | (at_builtin
     refine wpList_append rfl _ _ _ _ rfl _ _ rfl rfl _ _ R7.out ?_
     clear R7)
  | (with_reducible show wpList _ _ _ (⟨_, Op.store 22 _ _, _, _, _, none⟩ :: _) _ _
     refine wpList_boxA_bytes rfl _ _ rfl rfl w1.heap.size (cmA none 0 0 ⟨g0, g1, v2, v3, zeroOp⟩) 4 q6 (n - 6) m6 rfl rfl Y7.out (by simp [cmA_size]) ?_
     intro w6 x6 k6 s6
     rw [cmA_set] at x6
     have Y6 := Lib.hid x6
     have X6 := Lib.hid (X7.out.keep (k6.block _ X7.out.lt (Nat.ne_of_lt XL.out)))
     have HD := Lib.hid (show BytesAt w6 q6 (n - 6) (dataF G) from H7.out.imp id fun ⟨B, o, h1, h2, h3⟩ => ⟨B, o, h1, Nat.lt_of_lt_of_le h2 k6.size, fun j hj => (World.cell?_of_block (w := w7) (a := ⟨B, o + j, none⟩) (k6.block B h2 (Nat.ne_of_gt (HQ6.out B o h1)))).trans (h3 j hj)⟩)
     have L6 := Lib.hid (low_put L7.out (Nat.le_of_lt XL.out) k6)
     obtain ⟨c0, c1, c2, c3, c4, c10⟩ := boxCm x6
     clear x6 k6 s6 X5 Y5 L5 X7 Y7 L7 H7)
  | (with_reducible show wpList _ _ _ (⟨some 88, Op.load cmT _, _, _, _, _⟩ :: _) _ _
     refine wpList_boxA_loadw rowCm _ rfl rfl w1.heap.size (cmA q6 (n - 6) m6 ⟨g0, g1, v2, v3, zeroOp⟩) (cmA_size _ _ _ _) rfl Y6.out ?_)
  | (go_at_call 12
     refine (refEncode_ok HD.out HGD.out).mono ?_; rintro e w8 ⟨pE, cE, rfl, b8, l8⟩
     have X8 := Lib.hid (X6.out.keep (l8.block _ X6.out.lt))
     have Y8 := Lib.hid (Y6.out.keep (l8.block _ Y6.out.lt))
     have L8 := Lib.hid (L6.out.trans (l8.mono L6.out.size))
     have HD8 := Lib.hid (HD.out.below l8)
     have B8 := Lib.hid b8
     clear b8 l8 X6 L6)
  | (with_reducible show wpList _ _ _ (⟨some 96, Op.convert _ _ _, _, _, _, _⟩ :: _) _ _
     refine wpList_string_w rfl _ rfl pE _ cE rfl _ B8.out ?_
     clear B8)
  | (with_reducible show wpList _ _ _ (⟨some 98, Op.convert _ _ _, _, _, _, _⟩ :: _) _ _
     refine wpList_string_w rfl _ rfl (some ⟨PB, po, none⟩) n c rfl G (HP.out _ L8.out) ?_
     have q1 := HEQ.out
     have q2 := HNE.out)
  | (with_reducible show wpList _ _ _ (⟨_, Op.build cmT _, _, _, _, none⟩ :: _) _ _
     refine wpList_build_any rfl cmT #[] #[] (.agg (cmA none 0 0 zeroCm)) rfl (by simp) (fun w => run_build w cmT #[] _ (by kernel_rfl)) ?_)
  | (with_reducible show wpList _ _ _ (⟨_, Op.store cmT (.tmp 2) _, _, _, _, none⟩ :: _) _ _
     refine wpList_boxA_put rowCm rfl _ _ rfl rfl w.heap.size (cmA none 0 0 zeroCm) _ (cmA_size _ _ _ _) (cmA_one _ _ _ _) (cmA_size _ _ _ _) rfl rfl X8.out ?_
     intro w9 x9 k9 s9
     have X9 := Lib.hid x9
     have L9 := Lib.hid (low_put L8.out (Nat.le_refl _) k9)
     clear x9 k9 s9 X8 L8))
  exact bodyPost_ret (results_cell_row_tmp rfl _ _ w.heap.size cmT (cmA none 0 0 zeroCm) (0, 0) _ rfl X9.out Try.underlying26 rfl (by rw [cmA_size]; exact rowCm.size)) rfl ⟨rfl, L9.out⟩
set_option maxRecDepth 100000 in
set_option maxHeartbeats 16000000 in
theorem refDecode_two_same {w : World} {p : Option Addr} {n c : Nat} {G : Nat → Nat} (hp : BytesAt w p n G) (hG : ∀ j, G j < 256) (hc : n ≤ c) (hn : n ≤ 100000) (h6 : 6 ≤ n) (hk : ((G 0 : Nat) : Int) = 2) (hgd : goodC (rawC G) (rawN G n) = true) (heq : mk (lenC (rawC G) + rawN G n) (allC (rawC G) (dataF G)) = mk n G) :
    Calls Try.prog 19 #[.slice p n c] w fun e w' => ∃ q m, e = .returned (.tuple #[.agg (cmA q (rawN G n) m (rawC G)), .bool true]) ∧ BytesAt w' q (rawN G n) (dataF G) ∧ Below w.heap.size w w' := by
  have HGD := Lib.hid hgd
  have HDF := Lib.hid (show ∀ j, dataF G j = G (6 + j) from fun j => by unfold dataF; rfl)
  have HAL : ∀ j, j < lenC (rawC G) + rawN G n → allC (rawC G) (dataF G) j < 256 := fun j hj => allC_lt (x := rawC G) (g := dataF G) (n := rawN G n) (fun i _ => by show dataF G i < 256; unfold dataF; exact hG _) j hj
  have HEQ := Lib.hid (str_eq HAL (fun j (_ : j < n) => hG j))
  have HNE := Lib.hid (str_neq HAL (fun j (_ : j < n) => hG j))
  rw [decide_eq_true heq] at HEQ HNE
  clear HAL heq
  clear hgd
  have HP := Lib.hid (fun (W : World) (hb : Below w.heap.size w W) => hp.below hb)
  have f1 : decide ((n : Int) < 6) = false := by simp; omega
  have f2 : decide (n < 6) = false := by simp; omega
  obtain ⟨PB, po, rfl, hPB, hcl⟩ : ∃ B o, p = some ⟨B, o, none⟩ ∧ B < w.heap.size ∧ Cells w B o n G := by
    rcases hp with h | h
    · omega
    · exact h
  have HK0 := Lib.hid (show 0 < n by omega)
  have HB0 := Lib.hid (show 0 ≤ ((G 0 : Nat) : Int) ∧ ((G 0 : Nat) : Int) < 256 by have := hG 0; omega)
  have CC0 := Lib.hid (hcl 0 (by omega))
  have HK1 := Lib.hid (show 1 < n by omega)
  have HB1 := Lib.hid (show 0 ≤ ((G 1 : Nat) : Int) ∧ ((G 1 : Nat) : Int) < 256 by have := hG 1; omega)
  have CC1 := Lib.hid (hcl 1 (by omega))
  have HK2 := Lib.hid (show 2 < n by omega)
  have HB2 := Lib.hid (show 0 ≤ ((G 2 : Nat) : Int) ∧ ((G 2 : Nat) : Int) < 256 by have := hG 2; omega)
  have CC2 := Lib.hid (hcl 2 (by omega))
  have HK3 := Lib.hid (show 3 < n by omega)
  have HB3 := Lib.hid (show 0 ≤ ((G 3 : Nat) : Int) ∧ ((G 3 : Nat) : Int) < 256 by have := hG 3; omega)
  have CC3 := Lib.hid (hcl 3 (by omega))
  have HK4 := Lib.hid (show 4 < n by omega)
  have HB4 := Lib.hid (show 0 ≤ ((G 4 : Nat) : Int) ∧ ((G 4 : Nat) : Int) < 256 by have := hG 4; omega)
  have CC4 := Lib.hid (hcl 4 (by omega))
  have HK5 := Lib.hid (show 5 < n by omega)
  have HB5 := Lib.hid (show 0 ≤ ((G 5 : Nat) : Int) ∧ ((G 5 : Nat) : Int) < 256 by have := hG 5; omega)
  have CC5 := Lib.hid (hcl 5 (by omega))
  have HM2 := Lib.hid (show IntKind.i64.wrap (((G 2 : Nat) : Int) * 256) = ((G 2 : Nat) : Int) * 256 from IntWalk.i64_in _ (by have := hG 2; omega))
  have HM4 := Lib.hid (show IntKind.i64.wrap (((G 4 : Nat) : Int) * 256) = ((G 4 : Nat) : Int) * 256 from IntWalk.i64_in _ (by have := hG 4; omega))
  have HV2 := Lib.hid (show IntKind.i64.wrap (((G 2 : Nat) : Int) * 256 + ((G 3 : Nat) : Int)) = ((valN 2 (fun j => G (2 + j)) : Nat) : Int) by rw [valN_pair G 2]; exact IntWalk.i64_in _ (by have := hG 2; have := hG 3; omega))
  have HV3 := Lib.hid (show IntKind.i64.wrap (((G 4 : Nat) : Int) * 256 + ((G 5 : Nat) : Int)) = ((valN 2 (fun j => G (4 + j)) : Nat) : Int) by rw [valN_pair G 4]; exact IntWalk.i64_in _ (by have := hG 4; have := hG 5; omega))
  have HPB0 := Lib.hid hPB
  have HR := Lib.hid (show rawC G = ⟨(G 0 : Int), (G 1 : Int), ((valN 2 (fun j => G (2 + j)) : Nat) : Int), ((valN 2 (fun j => G (4 + j)) : Nat) : Int), zeroOp⟩ by unfold rawC; rw [hk]; rfl)
  have HRN := Lib.hid (show rawN G n = n - 6 by unfold rawN; rw [hk]; rfl)
  have e2 : (((G 0 : Nat) : Int) == 2) = true := by rw [hk]; rfl
  have e6 : (((G 0 : Nat) : Int) == 6) = false := by rw [hk]; rfl
  have HNC := Lib.hid hc
  have HC6 := Lib.hid (show 6 ≤ n by omega)
  have HN := Lib.hid hn
  have HGS := Lib.hid (show ∀ j, j < n → G j < 256 from fun j _ => hG j)
  clear hp hG hc hn h6 hk hPB hcl
  generalize ((G 0 : Nat) : Int) = g0 at *
  generalize ((G 1 : Nat) : Int) = g1 at *
  generalize ((G 2 : Nat) : Int) = g2 at *
  generalize ((G 3 : Nat) : Int) = g3 at *
  generalize ((G 4 : Nat) : Int) = g4 at *
  generalize ((G 5 : Nat) : Int) = g5 at *
  generalize ((valN 2 (fun j => G (2 + j)) : Nat) : Int) = v2 at *
  generalize ((valN 2 (fun j => G (4 + j)) : Nat) : Int) = v3 at *
  rw [HR.out, HRN.out] at HGD HEQ HNE
  rw [HR.out, HRN.out]
  go_enter Try.func19, Try.ntmps19
  go_wp2_with (first
  | (with_reducible show wpList _ _ _ (⟨some 2, Op.alloc cmT, _, _, _, _⟩ :: _) _ _
     refine wpList_boxA_new rowCm rfl rfl w.heap.size rfl ?_
     intro w1 x1 l1 s1
     have X1 := Lib.hid x1
     have L1 := Lib.hid l1
     clear x1 l1 s1))
  have CB0 := Lib.hid ((L1.out.cell (p := ⟨PB, po + 0, none⟩) HPB0.out).trans CC0.out)
  have CB1 := Lib.hid ((L1.out.cell (p := ⟨PB, po + 1, none⟩) HPB0.out).trans CC1.out)
  have CB2 := Lib.hid ((L1.out.cell (p := ⟨PB, po + 2, none⟩) HPB0.out).trans CC2.out)
  have CB3 := Lib.hid ((L1.out.cell (p := ⟨PB, po + 3, none⟩) HPB0.out).trans CC3.out)
  have CB4 := Lib.hid ((L1.out.cell (p := ⟨PB, po + 4, none⟩) HPB0.out).trans CC4.out)
  have CB5 := Lib.hid ((L1.out.cell (p := ⟨PB, po + 5, none⟩) HPB0.out).trans CC5.out)
  have HPB := Lib.hid (Nat.lt_of_lt_of_le HPB0.out L1.out.size)
  refine wp_region_sched [(0, true), (1, true), (2, true), (3, true), (4, true), (5, true), (6, true), (7, true), (8, true), (9, true), (10, true), (11, true), (12, true), (13, true), (14, true), (15, true), (16, true), (17, true), (18, true), (19, true), (20, true), (21, true), (22, true), (23, true), (24, true), (25, true), (26, true), (27, true), (28, true), (29, false), (30, false)] (fun V => V.heap[PB]? = w1.heap[PB]?) (by kernel_rfl) (by kernel_rfl) (show w1.drew.heap[PB]? = w1.heap[PB]? from rfl) ?_
  refine walk_float rfl rfl (fun K hK => ?_)
  refine gives_move _ rfl ?_
  go_simp
  refine hK _ ?_
  clear hK K
  refine walk_float rfl rfl (fun K hK => ?_)
  refine gives_at _ _ rfl PB po n c 0 0 rfl rfl rfl HK0.out ?_
  go_simp
  refine hK _ ?_
  clear hK K
  refine walk_float rfl rfl (fun K hK => ?_)
  refine gives_cell 5 _ rfl ⟨PB, po + 0, none⟩ (.int .u8 g0) rfl box_byte (fun V hV => (World.cell?_of_block (w := w1) (a := ⟨PB, po + 0, none⟩) hV).trans CB0.out) ?_
  go_simp
  refine hK _ ?_
  clear hK K
  refine walk_float rfl rfl (fun K hK => ?_)
  refine gives_to_int _ rfl g0 rfl HB0.out ?_
  go_simp
  refine hK _ ?_
  clear hK K
  refine walk_float rfl rfl (fun K hK => ?_)
  refine gives_move _ rfl ?_
  go_simp
  refine hK _ ?_
  clear hK K
  refine walk_float rfl rfl (fun K hK => ?_)
  refine gives_at _ _ rfl PB po n c 1 1 rfl rfl rfl HK1.out ?_
  go_simp
  refine hK _ ?_
  clear hK K
  refine walk_float rfl rfl (fun K hK => ?_)
  refine gives_cell 5 _ rfl ⟨PB, po + 1, none⟩ (.int .u8 g1) rfl box_byte (fun V hV => (World.cell?_of_block (w := w1) (a := ⟨PB, po + 1, none⟩) hV).trans CB1.out) ?_
  go_simp
  refine hK _ ?_
  clear hK K
  refine walk_float rfl rfl (fun K hK => ?_)
  refine gives_to_int _ rfl g1 rfl HB1.out ?_
  go_simp
  refine hK _ ?_
  clear hK K
  refine walk_float rfl rfl (fun K hK => ?_)
  refine gives_move _ rfl ?_
  go_simp
  refine hK _ ?_
  clear hK K
  refine walk_float rfl rfl (fun K hK => ?_)
  refine gives_at _ _ rfl PB po n c 2 2 rfl rfl rfl HK2.out ?_
  go_simp
  refine hK _ ?_
  clear hK K
  refine walk_float rfl rfl (fun K hK => ?_)
  refine gives_cell 5 _ rfl ⟨PB, po + 2, none⟩ (.int .u8 g2) rfl box_byte (fun V hV => (World.cell?_of_block (w := w1) (a := ⟨PB, po + 2, none⟩) hV).trans CB2.out) ?_
  go_simp
  refine hK _ ?_
  clear hK K
  refine walk_float rfl rfl (fun K hK => ?_)
  refine gives_to_int _ rfl g2 rfl HB2.out ?_
  go_simp
  refine hK _ ?_
  clear hK K
  refine walk_float rfl rfl (fun K hK => ?_)
  refine gives_int_mul _ _ rfl g2 256 (g2 * 256) rfl rfl HM2.out ?_
  go_simp
  refine hK _ ?_
  clear hK K
  refine walk_float rfl rfl (fun K hK => ?_)
  refine gives_move _ rfl ?_
  go_simp
  refine hK _ ?_
  clear hK K
  refine walk_float rfl rfl (fun K hK => ?_)
  refine gives_at _ _ rfl PB po n c 3 3 rfl rfl rfl HK3.out ?_
  go_simp
  refine hK _ ?_
  clear hK K
  refine walk_float rfl rfl (fun K hK => ?_)
  refine gives_cell 5 _ rfl ⟨PB, po + 3, none⟩ (.int .u8 g3) rfl box_byte (fun V hV => (World.cell?_of_block (w := w1) (a := ⟨PB, po + 3, none⟩) hV).trans CB3.out) ?_
  go_simp
  refine hK _ ?_
  clear hK K
  refine walk_float rfl rfl (fun K hK => ?_)
  refine gives_to_int _ rfl g3 rfl HB3.out ?_
  go_simp
  refine hK _ ?_
  clear hK K
  refine walk_float rfl rfl (fun K hK => ?_)
  refine gives_int_sum _ _ rfl (g2 * 256) g3 v2 rfl rfl HV2.out ?_
  go_simp
  refine hK _ ?_
  clear hK K
  refine walk_float rfl rfl (fun K hK => ?_)
  refine gives_move _ rfl ?_
  go_simp
  refine hK _ ?_
  clear hK K
  refine walk_float rfl rfl (fun K hK => ?_)
  refine gives_at _ _ rfl PB po n c 4 4 rfl rfl rfl HK4.out ?_
  go_simp
  refine hK _ ?_
  clear hK K
  refine walk_float rfl rfl (fun K hK => ?_)
  refine gives_cell 5 _ rfl ⟨PB, po + 4, none⟩ (.int .u8 g4) rfl box_byte (fun V hV => (World.cell?_of_block (w := w1) (a := ⟨PB, po + 4, none⟩) hV).trans CB4.out) ?_
  go_simp
  refine hK _ ?_
  clear hK K
  refine walk_float rfl rfl (fun K hK => ?_)
  refine gives_to_int _ rfl g4 rfl HB4.out ?_
  go_simp
  refine hK _ ?_
  clear hK K
  refine walk_float rfl rfl (fun K hK => ?_)
  refine gives_int_mul _ _ rfl g4 256 (g4 * 256) rfl rfl HM4.out ?_
  go_simp
  refine hK _ ?_
  clear hK K
  refine walk_float rfl rfl (fun K hK => ?_)
  refine gives_move _ rfl ?_
  go_simp
  refine hK _ ?_
  clear hK K
  refine walk_float rfl rfl (fun K hK => ?_)
  refine gives_at _ _ rfl PB po n c 5 5 rfl rfl rfl HK5.out ?_
  go_simp
  refine hK _ ?_
  clear hK K
  refine walk_float rfl rfl (fun K hK => ?_)
  refine gives_cell 5 _ rfl ⟨PB, po + 5, none⟩ (.int .u8 g5) rfl box_byte (fun V hV => (World.cell?_of_block (w := w1) (a := ⟨PB, po + 5, none⟩) hV).trans CB5.out) ?_
  go_simp
  refine hK _ ?_
  clear hK K
  refine walk_float rfl rfl (fun K hK => ?_)
  refine gives_to_int _ rfl g5 rfl HB5.out ?_
  go_simp
  refine hK _ ?_
  clear hK K
  refine walk_float rfl rfl (fun K hK => ?_)
  refine gives_int_sum _ _ rfl (g4 * 256) g5 v3 rfl rfl HV3.out ?_
  go_simp
  refine hK _ ?_
  clear hK K
  refine walk_float rfl rfl (fun K hK => ?_)
  refine gives_cm4 _ _ _ _ rfl g0 g1 v2 v3 rfl rfl rfl rfl ?_
  go_simp
  refine hK _ ?_
  clear hK K
  refine walk_done rfl rfl (fun K hK => ?_)
  refine done_boxA_new rowCm rfl ?_
  intro w4 x4 l4 s4
  have l4 : Below w1.heap.size w1 w4 := (Below.refl _ w1).drew.trans l4
  have Y4 := Lib.hid (show BoxA w4 w1.heap.size cmT (cmA none 0 0 zeroCm) from x4)
  have X4 := Lib.hid (X1.out.keep (l4.block _ X1.out.lt))
  have L4 := Lib.hid (L1.out.trans (l4.mono L1.out.size))
  have hb4 : w4.heap[PB]? = w1.heap[PB]? := l4.block PB HPB.out
  have HB4 := Lib.hid hb4
  have M4 := Lib.hid l4.size
  clear x4 l4 s4
  refine ⟨hb4, ?_⟩
  go_simp
  refine hK _ _ ?_
  clear hK K hb4
  refine walk_done rfl rfl (fun K hK => ?_)
  refine done_boxA_put rowCm _ _ rfl w1.heap.size (cmA none 0 0 ⟨g0, g1, v2, v3, zeroOp⟩) _ (cmA_size _ _ _ _) (cmA_one _ _ _ _) (cmA_size _ _ _ _) rfl rfl Y4.out ?_
  intro w5 x5 k5 s5
  have Y5 := Lib.hid x5
  have X5 := Lib.hid (X4.out.keep (k5.block _ X4.out.lt (Nat.ne_of_lt X1.out.lt)))
  have L5 := Lib.hid (low_put L4.out L1.out.size k5)
  have hb5 : w5.heap[PB]? = w1.heap[PB]? := (k5.block PB (Nat.lt_of_lt_of_le HPB.out M4.out) (Nat.ne_of_lt HPB.out)).trans HB4.out
  have XL := Lib.hid X1.out.lt
  have HB5 := Lib.hid hb5
  clear x5 k5 s5
  refine ⟨hb5, ?_⟩
  go_simp
  refine hK _ _ ?_
  clear hK K hb5
  refine walk_nil ?_
  obtain ⟨c0, c1, c2, c3, c4, c10⟩ := boxCm Y5.out
  clear X1 L1 X4 Y4 L4 HB4
  go_wp2_with (first
  | (with_reducible show wpList _ _ _ (⟨_, Op.slice 22 _ _ _ _, _, _, _, _⟩ :: _) _ _
     refine wpList_tail rfl _ _ rfl (some ⟨PB, po, none⟩) n c 6 6 rfl rfl rfl HC6.out HNC.out ?_
     intro p' hbh _
     have a5 : Below w5.heap.size w5 (w5.alloc (.cells #[] 5)) := (Below.refl _ _).alloc (Nat.le_refl _) _
     have hb6 := hbh _ G (HP.out _ (L5.out.trans (a5.mono L5.out.size)))
     obtain ⟨v7, w7, hr7, o7, l7⟩ := append_own_run (F := dataF G) (w5.alloc (.cells #[] 5)) 22 (OwnS.empty w5 _ w5.heap.size (Nat.le_refl _)) p' (n - 6) (c - 6) hb6 (fun j hj => by rw [Nat.zero_add]; exact (HDF.out j).symm) (by have := HN.out; omega) a5.size
     rw [Nat.zero_add] at o7
     obtain ⟨q6, m6, hv7, _, _, hby, _⟩ := o7.bytes (Nat.le_refl _)
     subst hv7
     have R7 := Lib.hid hr7
     have l57 : Below w5.heap.size w5 w7 := a5.trans l7
     have Y7 := Lib.hid (Y5.out.keep (l57.block _ Y5.out.lt))
     have X7 := Lib.hid (X5.out.keep (l57.block _ X5.out.lt))
     have L7 := Lib.hid (L5.out.trans (l57.mono L5.out.size))
     have H7 := Lib.hid hby
     have HQ6 := Lib.hid (show ∀ B o, q6 = some ⟨B, o, none⟩ → w1.heap.size < B from fun B o e => Nat.lt_of_lt_of_le Y5.out.lt ((by assumption : ∀ B o, q6 = some ⟨B, o, none⟩ → w5.heap.size ≤ B ∧ B < w7.heap.size) B o e).1)
     clear hbh hb6 hr7 o7 l7 l57 hby a5)
  | (at_builtin
     refine wpList_append rfl _ _ _ _ rfl _ _ rfl rfl _ _ R7.out ?_
     clear R7)
  | (with_reducible show wpList _ _ _ (⟨_, Op.store 22 _ _, _, _, _, none⟩ :: _) _ _
     refine wpList_boxA_bytes rfl _ _ rfl rfl w1.heap.size (cmA none 0 0 ⟨g0, g1, v2, v3, zeroOp⟩) 4 q6 (n - 6) m6 rfl rfl Y7.out (by simp [cmA_size]) ?_
     intro w6 x6 k6 s6
     rw [cmA_set] at x6
     have Y6 := Lib.hid x6
     have X6 := Lib.hid (X7.out.keep (k6.block _ X7.out.lt (Nat.ne_of_lt XL.out)))
     have HD := Lib.hid (show BytesAt w6 q6 (n - 6) (dataF G) from H7.out.imp id fun ⟨B, o, h1, h2, h3⟩ => ⟨B, o, h1, Nat.lt_of_lt_of_le h2 k6.size, fun j hj => (World.cell?_of_block (w := w7) (a := ⟨B, o + j, none⟩) (k6.block B h2 (Nat.ne_of_gt (HQ6.out B o h1)))).trans (h3 j hj)⟩)
     have L6 := Lib.hid (low_put L7.out (Nat.le_of_lt XL.out) k6)
     obtain ⟨c0, c1, c2, c3, c4, c10⟩ := boxCm x6
     clear x6 k6 s6 X5 Y5 L5 X7 Y7 L7 H7)
  | (with_reducible show wpList _ _ _ (⟨some 88, Op.load cmT _, _, _, _, _⟩ :: _) _ _
     refine wpList_boxA_loadw rowCm _ rfl rfl w1.heap.size (cmA q6 (n - 6) m6 ⟨g0, g1, v2, v3, zeroOp⟩) (cmA_size _ _ _ _) rfl Y6.out ?_)
  | (go_at_call 12
     refine (refEncode_ok HD.out HGD.out).mono ?_; rintro e w8 ⟨pE, cE, rfl, b8, l8⟩
     have X8 := Lib.hid (X6.out.keep (l8.block _ X6.out.lt))
     have Y8 := Lib.hid (Y6.out.keep (l8.block _ Y6.out.lt))
     have L8 := Lib.hid (L6.out.trans (l8.mono L6.out.size))
     have HD8 := Lib.hid (HD.out.below l8)
     have B8 := Lib.hid b8
     clear b8 l8 X6 L6)
  | (with_reducible show wpList _ _ _ (⟨some 96, Op.convert _ _ _, _, _, _, _⟩ :: _) _ _
     refine wpList_string_w rfl _ rfl pE _ cE rfl _ B8.out ?_
     clear B8)
  | (with_reducible show wpList _ _ _ (⟨some 98, Op.convert _ _ _, _, _, _, _⟩ :: _) _ _
     refine wpList_string_w rfl _ rfl (some ⟨PB, po, none⟩) n c rfl G (HP.out _ L8.out) ?_
     have q1 := HEQ.out
     have q2 := HNE.out)
  | (with_reducible show wpList _ _ _ (⟨some 102, Op.load cmT _, _, _, _, _⟩ :: _) _ _
     refine wpList_boxA_loadw rowCm _ rfl rfl w1.heap.size (cmA q6 (n - 6) m6 ⟨g0, g1, v2, v3, zeroOp⟩) (cmA_size _ _ _ _) rfl Y8.out ?_)
  | (with_reducible show wpList _ _ _ (⟨_, Op.store cmT (.tmp 2) _, _, _, _, none⟩ :: _) _ _
     refine wpList_boxA_put rowCm rfl _ _ rfl rfl w.heap.size (cmA q6 (n - 6) m6 ⟨g0, g1, v2, v3, zeroOp⟩) _ (cmA_size _ _ _ _) (cmA_one _ _ _ _) (cmA_size _ _ _ _) rfl rfl X8.out ?_
     intro w9 x9 k9 s9
     have X9 := Lib.hid x9
     have L9 := Lib.hid (low_put L8.out (Nat.le_refl _) k9)
     have D9 := Lib.hid (show BytesAt w9 q6 (n - 6) (dataF G) from HD8.out.imp id fun ⟨B, o, h1, h2, h3⟩ => ⟨B, o, h1, Nat.lt_of_lt_of_le h2 k9.size, fun j hj => (World.cell?_of_block (w := w8) (a := ⟨B, o + j, none⟩) (k9.block B h2 (by have := HQ6.out B o h1; have := XL.out; omega))).trans (h3 j hj)⟩)
     clear x9 k9 s9 X8 L8))
  exact bodyPost_ret (results_cell_row_tmp rfl _ _ w.heap.size cmT (cmA q6 (n - 6) m6 ⟨g0, g1, v2, v3, zeroOp⟩) (0, 0) _ rfl X9.out Try.underlying26 rfl (by rw [cmA_size]; exact rowCm.size)) rfl ⟨q6, m6, rfl, D9.out, L9.out⟩
set_option maxRecDepth 100000 in
set_option maxHeartbeats 16000000 in
theorem refDecode_six_bad {w : World} {p : Option Addr} {n c : Nat} {G : Nat → Nat} (hp : BytesAt w p n G) (hG : ∀ j, G j < 256) (hc : n ≤ c) (hn : n ≤ 100000) (h6 : n = 25) (hk : ((G 0 : Nat) : Int) = 6) (hgd : goodC (rawC G) (rawN G n) = false) :
    Calls Try.prog 19 #[.slice p n c] w fun e w' => e = .returned (.tuple #[.agg (cmA none 0 0 zeroCm), .bool false]) ∧ Below w.heap.size w w' := by
  have HGD := Lib.hid hgd
  have HDF := Lib.hid (show ∀ j, dataF G j = G (6 + j) from fun j => by unfold dataF; rfl)
  clear hgd
  have HP := Lib.hid (fun (W : World) (hb : Below w.heap.size w W) => hp.below hb)
  have f1 : decide ((n : Int) < 6) = false := by simp; omega
  have f2 : decide (n < 6) = false := by simp; omega
  obtain ⟨PB, po, rfl, hPB, hcl⟩ : ∃ B o, p = some ⟨B, o, none⟩ ∧ B < w.heap.size ∧ Cells w B o n G := by
    rcases hp with h | h
    · omega
    · exact h
  have HK0 := Lib.hid (show 0 < n by omega)
  have HB0 := Lib.hid (show 0 ≤ ((G 0 : Nat) : Int) ∧ ((G 0 : Nat) : Int) < 256 by have := hG 0; omega)
  have CC0 := Lib.hid (hcl 0 (by omega))
  have HK1 := Lib.hid (show 1 < n by omega)
  have HB1 := Lib.hid (show 0 ≤ ((G 1 : Nat) : Int) ∧ ((G 1 : Nat) : Int) < 256 by have := hG 1; omega)
  have CC1 := Lib.hid (hcl 1 (by omega))
  have HK2 := Lib.hid (show 2 < n by omega)
  have HB2 := Lib.hid (show 0 ≤ ((G 2 : Nat) : Int) ∧ ((G 2 : Nat) : Int) < 256 by have := hG 2; omega)
  have CC2 := Lib.hid (hcl 2 (by omega))
  have HK3 := Lib.hid (show 3 < n by omega)
  have HB3 := Lib.hid (show 0 ≤ ((G 3 : Nat) : Int) ∧ ((G 3 : Nat) : Int) < 256 by have := hG 3; omega)
  have CC3 := Lib.hid (hcl 3 (by omega))
  have HK4 := Lib.hid (show 4 < n by omega)
  have HB4 := Lib.hid (show 0 ≤ ((G 4 : Nat) : Int) ∧ ((G 4 : Nat) : Int) < 256 by have := hG 4; omega)
  have CC4 := Lib.hid (hcl 4 (by omega))
  have HK5 := Lib.hid (show 5 < n by omega)
  have HB5 := Lib.hid (show 0 ≤ ((G 5 : Nat) : Int) ∧ ((G 5 : Nat) : Int) < 256 by have := hG 5; omega)
  have CC5 := Lib.hid (hcl 5 (by omega))
  have HK6 := Lib.hid (show 6 < n by omega)
  have HB6 := Lib.hid (show 0 ≤ ((G 6 : Nat) : Int) ∧ ((G 6 : Nat) : Int) < 256 by have := hG 6; omega)
  have CC6 := Lib.hid (hcl 6 (by omega))
  have HK23 := Lib.hid (show 23 < n by omega)
  have HB23 := Lib.hid (show 0 ≤ ((G 23 : Nat) : Int) ∧ ((G 23 : Nat) : Int) < 256 by have := hG 23; omega)
  have CC23 := Lib.hid (hcl 23 (by omega))
  have HK24 := Lib.hid (show 24 < n by omega)
  have HB24 := Lib.hid (show 0 ≤ ((G 24 : Nat) : Int) ∧ ((G 24 : Nat) : Int) < 256 by have := hG 24; omega)
  have CC24 := Lib.hid (hcl 24 (by omega))
  have HM2 := Lib.hid (show IntKind.i64.wrap (((G 2 : Nat) : Int) * 256) = ((G 2 : Nat) : Int) * 256 from IntWalk.i64_in _ (by have := hG 2; omega))
  have HM4 := Lib.hid (show IntKind.i64.wrap (((G 4 : Nat) : Int) * 256) = ((G 4 : Nat) : Int) * 256 from IntWalk.i64_in _ (by have := hG 4; omega))
  have HV2 := Lib.hid (show IntKind.i64.wrap (((G 2 : Nat) : Int) * 256 + ((G 3 : Nat) : Int)) = ((valN 2 (fun j => G (2 + j)) : Nat) : Int) by rw [valN_pair G 2]; exact IntWalk.i64_in _ (by have := hG 2; have := hG 3; omega))
  have HV3 := Lib.hid (show IntKind.i64.wrap (((G 4 : Nat) : Int) * 256 + ((G 5 : Nat) : Int)) = ((valN 2 (fun j => G (4 + j)) : Nat) : Int) by rw [valN_pair G 4]; exact IntWalk.i64_in _ (by have := hG 4; have := hG 5; omega))
  have HPB0 := Lib.hid hPB
  have e2 : (((G 0 : Nat) : Int) == 2) = false := by rw [hk]; rfl
  have e6 : (((G 0 : Nat) : Int) == 6) = true := by rw [hk]; rfl
  have HR := Lib.hid (show rawC G = ⟨(G 0 : Int), (G 1 : Int), ((valN 2 (fun j => G (2 + j)) : Nat) : Int), ((valN 2 (fun j => G (4 + j)) : Nat) : Int), ⟨(G 6 : Int), 0, IntKind.i64.wrap (valN 8 (fun j => G (7 + j)) : Nat), IntKind.i64.wrap (valN 8 (fun j => G (15 + j)) : Nat), (G 23 : Int), ((G 24 : Nat) : Int) == 1⟩⟩ by unfold rawC rawO; rw [hk]; rfl)
  have HRN := Lib.hid (show rawN G n = 0 by unfold rawN; rw [hk]; rfl)
  have n1 : ((n : Int) != 25) = false := by simp; omega
  have n2 : (n != 25) = false := by simp; omega
  have HT7 := Lib.hid (fun (q : Option Addr) (W : World) (h : BytesAt W q (n - 7) (fun j => G (7 + j))) (m : Nat) => refTake_ok q (n - 7) m (fun j => G (7 + j)) (fun i _ => hG _) 8 (.inr (.inr (.inr rfl))) (by omega) W h)
  have HT15 := Lib.hid (fun (q : Option Addr) (W : World) (h : BytesAt W q (n - 15) (fun j => G (15 + j))) (m : Nat) => refTake_ok q (n - 15) m (fun j => G (15 + j)) (fun i _ => hG _) 8 (.inr (.inr (.inr rfl))) (by omega) W h)
  have HC7 := Lib.hid (show 7 ≤ n by omega)
  have HC15 := Lib.hid (show 15 ≤ n by omega)
  have HNC := Lib.hid hc
  have HC6 := Lib.hid (show 6 ≤ n by omega)
  have HN := Lib.hid hn
  have HGS := Lib.hid (show ∀ j, j < n → G j < 256 from fun j _ => hG j)
  clear hp hG hc hn h6 hk hPB hcl
  generalize ((G 0 : Nat) : Int) = g0 at *
  generalize ((G 1 : Nat) : Int) = g1 at *
  generalize ((G 2 : Nat) : Int) = g2 at *
  generalize ((G 3 : Nat) : Int) = g3 at *
  generalize ((G 4 : Nat) : Int) = g4 at *
  generalize ((G 5 : Nat) : Int) = g5 at *
  generalize ((G 6 : Nat) : Int) = g6 at *
  generalize ((G 23 : Nat) : Int) = g23 at *
  generalize ((G 24 : Nat) : Int) = g24 at *
  generalize ((valN 2 (fun j => G (2 + j)) : Nat) : Int) = v2 at *
  generalize ((valN 2 (fun j => G (4 + j)) : Nat) : Int) = v3 at *
  generalize IntKind.i64.wrap (valN 8 (fun j => G (7 + j)) : Nat) = vk at *
  generalize IntKind.i64.wrap (valN 8 (fun j => G (15 + j)) : Nat) = vn at *
  rw [HR.out, HRN.out] at HGD
  go_enter Try.func19, Try.ntmps19
  go_wp2_with (first
  | (with_reducible show wpList _ _ _ (⟨some 2, Op.alloc cmT, _, _, _, _⟩ :: _) _ _
     refine wpList_boxA_new rowCm rfl rfl w.heap.size rfl ?_
     intro w1 x1 l1 s1
     have X1 := Lib.hid x1
     have L1 := Lib.hid l1
     clear x1 l1 s1))
  have CB0 := Lib.hid ((L1.out.cell (p := ⟨PB, po + 0, none⟩) HPB0.out).trans CC0.out)
  have CB1 := Lib.hid ((L1.out.cell (p := ⟨PB, po + 1, none⟩) HPB0.out).trans CC1.out)
  have CB2 := Lib.hid ((L1.out.cell (p := ⟨PB, po + 2, none⟩) HPB0.out).trans CC2.out)
  have CB3 := Lib.hid ((L1.out.cell (p := ⟨PB, po + 3, none⟩) HPB0.out).trans CC3.out)
  have CB4 := Lib.hid ((L1.out.cell (p := ⟨PB, po + 4, none⟩) HPB0.out).trans CC4.out)
  have CB5 := Lib.hid ((L1.out.cell (p := ⟨PB, po + 5, none⟩) HPB0.out).trans CC5.out)
  have CB6 := Lib.hid ((L1.out.cell (p := ⟨PB, po + 6, none⟩) HPB0.out).trans CC6.out)
  have CB23 := Lib.hid ((L1.out.cell (p := ⟨PB, po + 23, none⟩) HPB0.out).trans CC23.out)
  have CB24 := Lib.hid ((L1.out.cell (p := ⟨PB, po + 24, none⟩) HPB0.out).trans CC24.out)
  have HPB := Lib.hid (Nat.lt_of_lt_of_le HPB0.out L1.out.size)
  refine wp_region_sched [(0, true), (1, true), (2, true), (3, true), (4, true), (5, true), (6, true), (7, true), (8, true), (9, true), (10, true), (11, true), (12, true), (13, true), (14, true), (15, true), (16, true), (17, true), (18, true), (19, true), (20, true), (21, true), (22, true), (23, true), (24, true), (25, true), (26, true), (27, true), (28, true), (29, false), (30, false)] (fun V => V.heap[PB]? = w1.heap[PB]?) (by kernel_rfl) (by kernel_rfl) (show w1.drew.heap[PB]? = w1.heap[PB]? from rfl) ?_
  refine walk_float rfl rfl (fun K hK => ?_)
  refine gives_move _ rfl ?_
  go_simp
  refine hK _ ?_
  clear hK K
  refine walk_float rfl rfl (fun K hK => ?_)
  refine gives_at _ _ rfl PB po n c 0 0 rfl rfl rfl HK0.out ?_
  go_simp
  refine hK _ ?_
  clear hK K
  refine walk_float rfl rfl (fun K hK => ?_)
  refine gives_cell 5 _ rfl ⟨PB, po + 0, none⟩ (.int .u8 g0) rfl box_byte (fun V hV => (World.cell?_of_block (w := w1) (a := ⟨PB, po + 0, none⟩) hV).trans CB0.out) ?_
  go_simp
  refine hK _ ?_
  clear hK K
  refine walk_float rfl rfl (fun K hK => ?_)
  refine gives_to_int _ rfl g0 rfl HB0.out ?_
  go_simp
  refine hK _ ?_
  clear hK K
  refine walk_float rfl rfl (fun K hK => ?_)
  refine gives_move _ rfl ?_
  go_simp
  refine hK _ ?_
  clear hK K
  refine walk_float rfl rfl (fun K hK => ?_)
  refine gives_at _ _ rfl PB po n c 1 1 rfl rfl rfl HK1.out ?_
  go_simp
  refine hK _ ?_
  clear hK K
  refine walk_float rfl rfl (fun K hK => ?_)
  refine gives_cell 5 _ rfl ⟨PB, po + 1, none⟩ (.int .u8 g1) rfl box_byte (fun V hV => (World.cell?_of_block (w := w1) (a := ⟨PB, po + 1, none⟩) hV).trans CB1.out) ?_
  go_simp
  refine hK _ ?_
  clear hK K
  refine walk_float rfl rfl (fun K hK => ?_)
  refine gives_to_int _ rfl g1 rfl HB1.out ?_
  go_simp
  refine hK _ ?_
  clear hK K
  refine walk_float rfl rfl (fun K hK => ?_)
  refine gives_move _ rfl ?_
  go_simp
  refine hK _ ?_
  clear hK K
  refine walk_float rfl rfl (fun K hK => ?_)
  refine gives_at _ _ rfl PB po n c 2 2 rfl rfl rfl HK2.out ?_
  go_simp
  refine hK _ ?_
  clear hK K
  refine walk_float rfl rfl (fun K hK => ?_)
  refine gives_cell 5 _ rfl ⟨PB, po + 2, none⟩ (.int .u8 g2) rfl box_byte (fun V hV => (World.cell?_of_block (w := w1) (a := ⟨PB, po + 2, none⟩) hV).trans CB2.out) ?_
  go_simp
  refine hK _ ?_
  clear hK K
  refine walk_float rfl rfl (fun K hK => ?_)
  refine gives_to_int _ rfl g2 rfl HB2.out ?_
  go_simp
  refine hK _ ?_
  clear hK K
  refine walk_float rfl rfl (fun K hK => ?_)
  refine gives_int_mul _ _ rfl g2 256 (g2 * 256) rfl rfl HM2.out ?_
  go_simp
  refine hK _ ?_
  clear hK K
  refine walk_float rfl rfl (fun K hK => ?_)
  refine gives_move _ rfl ?_
  go_simp
  refine hK _ ?_
  clear hK K
  refine walk_float rfl rfl (fun K hK => ?_)
  refine gives_at _ _ rfl PB po n c 3 3 rfl rfl rfl HK3.out ?_
  go_simp
  refine hK _ ?_
  clear hK K
  refine walk_float rfl rfl (fun K hK => ?_)
  refine gives_cell 5 _ rfl ⟨PB, po + 3, none⟩ (.int .u8 g3) rfl box_byte (fun V hV => (World.cell?_of_block (w := w1) (a := ⟨PB, po + 3, none⟩) hV).trans CB3.out) ?_
  go_simp
  refine hK _ ?_
  clear hK K
  refine walk_float rfl rfl (fun K hK => ?_)
  refine gives_to_int _ rfl g3 rfl HB3.out ?_
  go_simp
  refine hK _ ?_
  clear hK K
  refine walk_float rfl rfl (fun K hK => ?_)
  refine gives_int_sum _ _ rfl (g2 * 256) g3 v2 rfl rfl HV2.out ?_
  go_simp
  refine hK _ ?_
  clear hK K
  refine walk_float rfl rfl (fun K hK => ?_)
  refine gives_move _ rfl ?_
  go_simp
  refine hK _ ?_
  clear hK K
  refine walk_float rfl rfl (fun K hK => ?_)
  refine gives_at _ _ rfl PB po n c 4 4 rfl rfl rfl HK4.out ?_
  go_simp
  refine hK _ ?_
  clear hK K
  refine walk_float rfl rfl (fun K hK => ?_)
  refine gives_cell 5 _ rfl ⟨PB, po + 4, none⟩ (.int .u8 g4) rfl box_byte (fun V hV => (World.cell?_of_block (w := w1) (a := ⟨PB, po + 4, none⟩) hV).trans CB4.out) ?_
  go_simp
  refine hK _ ?_
  clear hK K
  refine walk_float rfl rfl (fun K hK => ?_)
  refine gives_to_int _ rfl g4 rfl HB4.out ?_
  go_simp
  refine hK _ ?_
  clear hK K
  refine walk_float rfl rfl (fun K hK => ?_)
  refine gives_int_mul _ _ rfl g4 256 (g4 * 256) rfl rfl HM4.out ?_
  go_simp
  refine hK _ ?_
  clear hK K
  refine walk_float rfl rfl (fun K hK => ?_)
  refine gives_move _ rfl ?_
  go_simp
  refine hK _ ?_
  clear hK K
  refine walk_float rfl rfl (fun K hK => ?_)
  refine gives_at _ _ rfl PB po n c 5 5 rfl rfl rfl HK5.out ?_
  go_simp
  refine hK _ ?_
  clear hK K
  refine walk_float rfl rfl (fun K hK => ?_)
  refine gives_cell 5 _ rfl ⟨PB, po + 5, none⟩ (.int .u8 g5) rfl box_byte (fun V hV => (World.cell?_of_block (w := w1) (a := ⟨PB, po + 5, none⟩) hV).trans CB5.out) ?_
  go_simp
  refine hK _ ?_
  clear hK K
  refine walk_float rfl rfl (fun K hK => ?_)
  refine gives_to_int _ rfl g5 rfl HB5.out ?_
  go_simp
  refine hK _ ?_
  clear hK K
  refine walk_float rfl rfl (fun K hK => ?_)
  refine gives_int_sum _ _ rfl (g4 * 256) g5 v3 rfl rfl HV3.out ?_
  go_simp
  refine hK _ ?_
  clear hK K
  refine walk_float rfl rfl (fun K hK => ?_)
  refine gives_cm4 _ _ _ _ rfl g0 g1 v2 v3 rfl rfl rfl rfl ?_
  go_simp
  refine hK _ ?_
  clear hK K
  refine walk_done rfl rfl (fun K hK => ?_)
  refine done_boxA_new rowCm rfl ?_
  intro w4 x4 l4 s4
  have l4 : Below w1.heap.size w1 w4 := (Below.refl _ w1).drew.trans l4
  have Y4 := Lib.hid (show BoxA w4 w1.heap.size cmT (cmA none 0 0 zeroCm) from x4)
  have X4 := Lib.hid (X1.out.keep (l4.block _ X1.out.lt))
  have L4 := Lib.hid (L1.out.trans (l4.mono L1.out.size))
  have hb4 : w4.heap[PB]? = w1.heap[PB]? := l4.block PB HPB.out
  have HB4 := Lib.hid hb4
  have M4 := Lib.hid l4.size
  clear x4 l4 s4
  refine ⟨hb4, ?_⟩
  go_simp
  refine hK _ _ ?_
  clear hK K hb4
  refine walk_done rfl rfl (fun K hK => ?_)
  refine done_boxA_put rowCm _ _ rfl w1.heap.size (cmA none 0 0 ⟨g0, g1, v2, v3, zeroOp⟩) _ (cmA_size _ _ _ _) (cmA_one _ _ _ _) (cmA_size _ _ _ _) rfl rfl Y4.out ?_
  intro w5 x5 k5 s5
  have Y5 := Lib.hid x5
  have X5 := Lib.hid (X4.out.keep (k5.block _ X4.out.lt (Nat.ne_of_lt X1.out.lt)))
  have L5 := Lib.hid (low_put L4.out L1.out.size k5)
  have hb5 : w5.heap[PB]? = w1.heap[PB]? := (k5.block PB (Nat.lt_of_lt_of_le HPB.out M4.out) (Nat.ne_of_lt HPB.out)).trans HB4.out
  have XL := Lib.hid X1.out.lt
  have HB5 := Lib.hid hb5
  clear x5 k5 s5
  refine ⟨hb5, ?_⟩
  go_simp
  refine hK _ _ ?_
  clear hK K hb5
  refine walk_nil ?_
  obtain ⟨c0, c1, c2, c3, c4, c10⟩ := boxCm Y5.out
  have M5 := Lib.hid (show w1.heap.size ≤ w5.heap.size from by have := Y5.out.lt; omega)
  have DB6 := Lib.hid ((World.cell?_of_block (w := w1) (a := ⟨PB, po + 6, none⟩) HB5.out).trans CB6.out)
  have DB23 := Lib.hid ((World.cell?_of_block (w := w1) (a := ⟨PB, po + 23, none⟩) HB5.out).trans CB23.out)
  have DB24 := Lib.hid ((World.cell?_of_block (w := w1) (a := ⟨PB, po + 24, none⟩) HB5.out).trans CB24.out)
  clear X1 L1 X4 Y4 L4 HB4
  go_wp2_with (first
  | (with_reducible show wpList _ _ _ (⟨some 61, Op.slice 22 _ _ _ _, _, _, _, _⟩ :: _) _ _
     refine wpList_tail rfl _ _ rfl (some ⟨PB, po, none⟩) n c 7 7 rfl rfl rfl HC7.out HNC.out ?_
     intro p7 hbh _
     have H7 := Lib.hid (hbh w5 G (HP.out _ L5.out))
     clear hbh)
  | (with_reducible show wpList _ _ _ (⟨some 67, Op.slice 22 _ _ _ _, _, _, _, _⟩ :: _) _ _
     refine wpList_tail rfl _ _ rfl (some ⟨PB, po, none⟩) n c 15 15 rfl rfl rfl HC15.out HNC.out ?_
     intro p15 hbh _
     have H15 := Lib.hid (hbh w5 G (HP.out _ L5.out))
     clear hbh)
  | (go_at_call 33
     refine (HT7.out _ _ H7.out _).mono ?_; rintro e z7 ⟨rfl, rfl⟩
     clear HT7 H7)
  | (go_at_call 33
     refine (HT15.out _ _ H15.out _).mono ?_; rintro e z8 ⟨rfl, rfl⟩
     clear HT15 H15))
  refine wp_region_sched [(0, true), (1, true), (2, true), (3, true), (4, true), (5, true), (6, true), (7, true), (8, true), (9, true), (10, true), (11, true), (12, true), (13, true), (14, true), (15, true), (16, false)] (fun V => V.heap[PB]? = w5.heap[PB]?) (by kernel_rfl) (by kernel_rfl) (show w5.drew.heap[PB]? = w5.heap[PB]? from rfl) ?_
  refine walk_float rfl rfl (fun K hK => ?_)
  refine gives_move _ rfl ?_
  go_simp
  refine hK _ ?_
  clear hK K
  refine walk_float rfl rfl (fun K hK => ?_)
  refine gives_at _ _ rfl PB po n c 6 6 rfl rfl rfl HK6.out ?_
  go_simp
  refine hK _ ?_
  clear hK K
  refine walk_float rfl rfl (fun K hK => ?_)
  refine gives_cell 5 _ rfl ⟨PB, po + 6, none⟩ (.int .u8 g6) rfl box_byte (fun V hV => (World.cell?_of_block (w := w5) (a := ⟨PB, po + 6, none⟩) hV).trans DB6.out) ?_
  go_simp
  refine hK _ ?_
  clear hK K
  refine walk_float rfl rfl (fun K hK => ?_)
  refine gives_to_int _ rfl g6 rfl HB6.out ?_
  go_simp
  refine hK _ ?_
  clear hK K
  refine walk_float rfl rfl (fun K hK => ?_)
  refine gives_move _ rfl ?_
  go_simp
  refine hK _ ?_
  clear hK K
  refine walk_float rfl rfl (fun K hK => ?_)
  refine gives_move _ rfl ?_
  go_simp
  refine hK _ ?_
  clear hK K
  refine walk_float rfl rfl (fun K hK => ?_)
  refine gives_move _ rfl ?_
  go_simp
  refine hK _ ?_
  clear hK K
  refine walk_float rfl rfl (fun K hK => ?_)
  refine gives_at _ _ rfl PB po n c 23 23 rfl rfl rfl HK23.out ?_
  go_simp
  refine hK _ ?_
  clear hK K
  refine walk_float rfl rfl (fun K hK => ?_)
  refine gives_cell 5 _ rfl ⟨PB, po + 23, none⟩ (.int .u8 g23) rfl box_byte (fun V hV => (World.cell?_of_block (w := w5) (a := ⟨PB, po + 23, none⟩) hV).trans DB23.out) ?_
  go_simp
  refine hK _ ?_
  clear hK K
  refine walk_float rfl rfl (fun K hK => ?_)
  refine gives_to_int _ rfl g23 rfl HB23.out ?_
  go_simp
  refine hK _ ?_
  clear hK K
  refine walk_float rfl rfl (fun K hK => ?_)
  refine gives_move _ rfl ?_
  go_simp
  refine hK _ ?_
  clear hK K
  refine walk_float rfl rfl (fun K hK => ?_)
  refine gives_at _ _ rfl PB po n c 24 24 rfl rfl rfl HK24.out ?_
  go_simp
  refine hK _ ?_
  clear hK K
  refine walk_float rfl rfl (fun K hK => ?_)
  refine gives_cell 5 _ rfl ⟨PB, po + 24, none⟩ (.int .u8 g24) rfl box_byte (fun V hV => (World.cell?_of_block (w := w5) (a := ⟨PB, po + 24, none⟩) hV).trans DB24.out) ?_
  go_simp
  refine hK _ ?_
  clear hK K
  refine walk_float rfl rfl (fun K hK => ?_)
  refine gives_u8_is _ _ rfl g24 1 _ rfl rfl rfl ?_
  go_simp
  refine hK _ ?_
  clear hK K
  refine walk_float rfl rfl (fun K hK => ?_)
  refine gives_rop5 _ _ _ _ _ rfl g6 vk vn g23 (g24 == 1) rfl rfl rfl rfl rfl ?_
  go_simp
  refine hK _ ?_
  clear hK K
  refine walk_float rfl rfl (fun K hK => ?_)
  refine gives_cmfield5 _ rfl w1.heap.size rfl ?_
  go_simp
  refine hK _ ?_
  clear hK K
  refine walk_done rfl rfl (fun K hK => ?_)
  refine done_cmop_put _ _ rfl w1.heap.size none 0 0 ⟨g0, g1, v2, v3, zeroOp⟩ ⟨g6, 0, vk, vn, g23, g24 == 1⟩ rfl rfl (show BoxA w5.drew w1.heap.size cmT _ from Y5.out) ?_
  intro w6 x6 k6 s6
  have Y6 := Lib.hid (show BoxA w6 w1.heap.size cmT (cmA none 0 0 ⟨g0, g1, v2, v3, ⟨g6, 0, vk, vn, g23, g24 == 1⟩⟩) from x6)
  have X6 := Lib.hid (X5.out.keep (k6.block _ X5.out.lt (Nat.ne_of_lt XL.out)))
  have L6 := Lib.hid (low_put (show Below w.heap.size w w5.drew from L5.out.drew) (Nat.le_of_lt XL.out) k6)
  have hb6 : w6.heap[PB]? = w5.heap[PB]? := k6.block PB (Nat.lt_of_lt_of_le HPB.out M5.out) (Nat.ne_of_lt HPB.out)
  clear x6 k6 s6
  refine ⟨hb6, ?_⟩
  go_simp
  refine hK _ _ ?_
  clear hK K hb6
  refine walk_nil ?_
  have HD := Lib.hid (show BytesAt w6 none 0 (dataF G) from .inl rfl)
  go_wp2_with (first
  | (with_reducible show wpList _ _ _ (⟨some 88, Op.load cmT _, _, _, _, _⟩ :: _) _ _
     refine wpList_boxA_loadw rowCm _ rfl rfl w1.heap.size (cmA none 0 0 ⟨g0, g1, v2, v3, ⟨g6, 0, vk, vn, g23, g24 == 1⟩⟩) (cmA_size _ _ _ _) rfl Y6.out ?_)
  | (go_at_call 12
     refine (refEncode_no HGD.out).mono ?_; rintro e w8 ⟨rfl, l8⟩
     have X8 := Lib.hid (X6.out.keep (l8.block _ X6.out.lt))
     have L8 := Lib.hid (L6.out.trans (l8.mono L6.out.size))
     clear l8 X6 L6)
  | (with_reducible show wpList _ _ _ (⟨_, Op.build cmT _, _, _, _, none⟩ :: _) _ _
     refine wpList_build_any rfl cmT #[] #[] (.agg (cmA none 0 0 zeroCm)) rfl (by simp) (fun w => run_build w cmT #[] _ (by kernel_rfl)) ?_)
  | (with_reducible show wpList _ _ _ (⟨_, Op.store cmT (.tmp 2) _, _, _, _, none⟩ :: _) _ _
     refine wpList_boxA_put rowCm rfl _ _ rfl rfl w.heap.size (cmA none 0 0 zeroCm) _ (cmA_size _ _ _ _) (cmA_one _ _ _ _) (cmA_size _ _ _ _) rfl rfl X8.out ?_
     intro w9 x9 k9 s9
     have X9 := Lib.hid x9
     have L9 := Lib.hid (low_put L8.out (Nat.le_refl _) k9)
     clear x9 k9 s9 X8 L8))
  exact bodyPost_ret (results_cell_row_tmp rfl _ _ w.heap.size cmT (cmA none 0 0 zeroCm) (0, 0) _ rfl X9.out Try.underlying26 rfl (by rw [cmA_size]; exact rowCm.size)) rfl ⟨rfl, L9.out⟩
set_option maxRecDepth 100000 in
set_option maxHeartbeats 16000000 in
theorem refDecode_six_other {w : World} {p : Option Addr} {n c : Nat} {G : Nat → Nat} (hp : BytesAt w p n G) (hG : ∀ j, G j < 256) (hc : n ≤ c) (hn : n ≤ 100000) (h6 : n = 25) (hk : ((G 0 : Nat) : Int) = 6) (hgd : goodC (rawC G) (rawN G n) = true) (heq : ¬ mk (lenC (rawC G) + rawN G n) (allC (rawC G) (dataF G)) = mk n G) :
    Calls Try.prog 19 #[.slice p n c] w fun e w' => e = .returned (.tuple #[.agg (cmA none 0 0 zeroCm), .bool false]) ∧ Below w.heap.size w w' := by
  have HGD := Lib.hid hgd
  have HDF := Lib.hid (show ∀ j, dataF G j = G (6 + j) from fun j => by unfold dataF; rfl)
  have HAL : ∀ j, j < lenC (rawC G) + rawN G n → allC (rawC G) (dataF G) j < 256 := fun j hj => allC_lt (x := rawC G) (g := dataF G) (n := rawN G n) (fun i _ => by show dataF G i < 256; unfold dataF; exact hG _) j hj
  have HEQ := Lib.hid (str_eq HAL (fun j (_ : j < n) => hG j))
  have HNE := Lib.hid (str_neq HAL (fun j (_ : j < n) => hG j))
  rw [decide_eq_false heq] at HEQ HNE
  clear HAL heq
  clear hgd
  have HP := Lib.hid (fun (W : World) (hb : Below w.heap.size w W) => hp.below hb)
  have f1 : decide ((n : Int) < 6) = false := by simp; omega
  have f2 : decide (n < 6) = false := by simp; omega
  obtain ⟨PB, po, rfl, hPB, hcl⟩ : ∃ B o, p = some ⟨B, o, none⟩ ∧ B < w.heap.size ∧ Cells w B o n G := by
    rcases hp with h | h
    · omega
    · exact h
  have HK0 := Lib.hid (show 0 < n by omega)
  have HB0 := Lib.hid (show 0 ≤ ((G 0 : Nat) : Int) ∧ ((G 0 : Nat) : Int) < 256 by have := hG 0; omega)
  have CC0 := Lib.hid (hcl 0 (by omega))
  have HK1 := Lib.hid (show 1 < n by omega)
  have HB1 := Lib.hid (show 0 ≤ ((G 1 : Nat) : Int) ∧ ((G 1 : Nat) : Int) < 256 by have := hG 1; omega)
  have CC1 := Lib.hid (hcl 1 (by omega))
  have HK2 := Lib.hid (show 2 < n by omega)
  have HB2 := Lib.hid (show 0 ≤ ((G 2 : Nat) : Int) ∧ ((G 2 : Nat) : Int) < 256 by have := hG 2; omega)
  have CC2 := Lib.hid (hcl 2 (by omega))
  have HK3 := Lib.hid (show 3 < n by omega)
  have HB3 := Lib.hid (show 0 ≤ ((G 3 : Nat) : Int) ∧ ((G 3 : Nat) : Int) < 256 by have := hG 3; omega)
  have CC3 := Lib.hid (hcl 3 (by omega))
  have HK4 := Lib.hid (show 4 < n by omega)
  have HB4 := Lib.hid (show 0 ≤ ((G 4 : Nat) : Int) ∧ ((G 4 : Nat) : Int) < 256 by have := hG 4; omega)
  have CC4 := Lib.hid (hcl 4 (by omega))
  have HK5 := Lib.hid (show 5 < n by omega)
  have HB5 := Lib.hid (show 0 ≤ ((G 5 : Nat) : Int) ∧ ((G 5 : Nat) : Int) < 256 by have := hG 5; omega)
  have CC5 := Lib.hid (hcl 5 (by omega))
  have HK6 := Lib.hid (show 6 < n by omega)
  have HB6 := Lib.hid (show 0 ≤ ((G 6 : Nat) : Int) ∧ ((G 6 : Nat) : Int) < 256 by have := hG 6; omega)
  have CC6 := Lib.hid (hcl 6 (by omega))
  have HK23 := Lib.hid (show 23 < n by omega)
  have HB23 := Lib.hid (show 0 ≤ ((G 23 : Nat) : Int) ∧ ((G 23 : Nat) : Int) < 256 by have := hG 23; omega)
  have CC23 := Lib.hid (hcl 23 (by omega))
  have HK24 := Lib.hid (show 24 < n by omega)
  have HB24 := Lib.hid (show 0 ≤ ((G 24 : Nat) : Int) ∧ ((G 24 : Nat) : Int) < 256 by have := hG 24; omega)
  have CC24 := Lib.hid (hcl 24 (by omega))
  have HM2 := Lib.hid (show IntKind.i64.wrap (((G 2 : Nat) : Int) * 256) = ((G 2 : Nat) : Int) * 256 from IntWalk.i64_in _ (by have := hG 2; omega))
  have HM4 := Lib.hid (show IntKind.i64.wrap (((G 4 : Nat) : Int) * 256) = ((G 4 : Nat) : Int) * 256 from IntWalk.i64_in _ (by have := hG 4; omega))
  have HV2 := Lib.hid (show IntKind.i64.wrap (((G 2 : Nat) : Int) * 256 + ((G 3 : Nat) : Int)) = ((valN 2 (fun j => G (2 + j)) : Nat) : Int) by rw [valN_pair G 2]; exact IntWalk.i64_in _ (by have := hG 2; have := hG 3; omega))
  have HV3 := Lib.hid (show IntKind.i64.wrap (((G 4 : Nat) : Int) * 256 + ((G 5 : Nat) : Int)) = ((valN 2 (fun j => G (4 + j)) : Nat) : Int) by rw [valN_pair G 4]; exact IntWalk.i64_in _ (by have := hG 4; have := hG 5; omega))
  have HPB0 := Lib.hid hPB
  have e2 : (((G 0 : Nat) : Int) == 2) = false := by rw [hk]; rfl
  have e6 : (((G 0 : Nat) : Int) == 6) = true := by rw [hk]; rfl
  have HR := Lib.hid (show rawC G = ⟨(G 0 : Int), (G 1 : Int), ((valN 2 (fun j => G (2 + j)) : Nat) : Int), ((valN 2 (fun j => G (4 + j)) : Nat) : Int), ⟨(G 6 : Int), 0, IntKind.i64.wrap (valN 8 (fun j => G (7 + j)) : Nat), IntKind.i64.wrap (valN 8 (fun j => G (15 + j)) : Nat), (G 23 : Int), ((G 24 : Nat) : Int) == 1⟩⟩ by unfold rawC rawO; rw [hk]; rfl)
  have HRN := Lib.hid (show rawN G n = 0 by unfold rawN; rw [hk]; rfl)
  have n1 : ((n : Int) != 25) = false := by simp; omega
  have n2 : (n != 25) = false := by simp; omega
  have HT7 := Lib.hid (fun (q : Option Addr) (W : World) (h : BytesAt W q (n - 7) (fun j => G (7 + j))) (m : Nat) => refTake_ok q (n - 7) m (fun j => G (7 + j)) (fun i _ => hG _) 8 (.inr (.inr (.inr rfl))) (by omega) W h)
  have HT15 := Lib.hid (fun (q : Option Addr) (W : World) (h : BytesAt W q (n - 15) (fun j => G (15 + j))) (m : Nat) => refTake_ok q (n - 15) m (fun j => G (15 + j)) (fun i _ => hG _) 8 (.inr (.inr (.inr rfl))) (by omega) W h)
  have HC7 := Lib.hid (show 7 ≤ n by omega)
  have HC15 := Lib.hid (show 15 ≤ n by omega)
  have HNC := Lib.hid hc
  have HC6 := Lib.hid (show 6 ≤ n by omega)
  have HN := Lib.hid hn
  have HGS := Lib.hid (show ∀ j, j < n → G j < 256 from fun j _ => hG j)
  clear hp hG hc hn h6 hk hPB hcl
  generalize ((G 0 : Nat) : Int) = g0 at *
  generalize ((G 1 : Nat) : Int) = g1 at *
  generalize ((G 2 : Nat) : Int) = g2 at *
  generalize ((G 3 : Nat) : Int) = g3 at *
  generalize ((G 4 : Nat) : Int) = g4 at *
  generalize ((G 5 : Nat) : Int) = g5 at *
  generalize ((G 6 : Nat) : Int) = g6 at *
  generalize ((G 23 : Nat) : Int) = g23 at *
  generalize ((G 24 : Nat) : Int) = g24 at *
  generalize ((valN 2 (fun j => G (2 + j)) : Nat) : Int) = v2 at *
  generalize ((valN 2 (fun j => G (4 + j)) : Nat) : Int) = v3 at *
  generalize IntKind.i64.wrap (valN 8 (fun j => G (7 + j)) : Nat) = vk at *
  generalize IntKind.i64.wrap (valN 8 (fun j => G (15 + j)) : Nat) = vn at *
  rw [HR.out, HRN.out] at HGD HEQ HNE
  rw [Nat.add_zero] at HEQ HNE
  go_enter Try.func19, Try.ntmps19
  go_wp2_with (first
  | (with_reducible show wpList _ _ _ (⟨some 2, Op.alloc cmT, _, _, _, _⟩ :: _) _ _
     refine wpList_boxA_new rowCm rfl rfl w.heap.size rfl ?_
     intro w1 x1 l1 s1
     have X1 := Lib.hid x1
     have L1 := Lib.hid l1
     clear x1 l1 s1))
  have CB0 := Lib.hid ((L1.out.cell (p := ⟨PB, po + 0, none⟩) HPB0.out).trans CC0.out)
  have CB1 := Lib.hid ((L1.out.cell (p := ⟨PB, po + 1, none⟩) HPB0.out).trans CC1.out)
  have CB2 := Lib.hid ((L1.out.cell (p := ⟨PB, po + 2, none⟩) HPB0.out).trans CC2.out)
  have CB3 := Lib.hid ((L1.out.cell (p := ⟨PB, po + 3, none⟩) HPB0.out).trans CC3.out)
  have CB4 := Lib.hid ((L1.out.cell (p := ⟨PB, po + 4, none⟩) HPB0.out).trans CC4.out)
  have CB5 := Lib.hid ((L1.out.cell (p := ⟨PB, po + 5, none⟩) HPB0.out).trans CC5.out)
  have CB6 := Lib.hid ((L1.out.cell (p := ⟨PB, po + 6, none⟩) HPB0.out).trans CC6.out)
  have CB23 := Lib.hid ((L1.out.cell (p := ⟨PB, po + 23, none⟩) HPB0.out).trans CC23.out)
  have CB24 := Lib.hid ((L1.out.cell (p := ⟨PB, po + 24, none⟩) HPB0.out).trans CC24.out)
  have HPB := Lib.hid (Nat.lt_of_lt_of_le HPB0.out L1.out.size)
  refine wp_region_sched [(0, true), (1, true), (2, true), (3, true), (4, true), (5, true), (6, true), (7, true), (8, true), (9, true), (10, true), (11, true), (12, true), (13, true), (14, true), (15, true), (16, true), (17, true), (18, true), (19, true), (20, true), (21, true), (22, true), (23, true), (24, true), (25, true), (26, true), (27, true), (28, true), (29, false), (30, false)] (fun V => V.heap[PB]? = w1.heap[PB]?) (by kernel_rfl) (by kernel_rfl) (show w1.drew.heap[PB]? = w1.heap[PB]? from rfl) ?_
  refine walk_float rfl rfl (fun K hK => ?_)
  refine gives_move _ rfl ?_
  go_simp
  refine hK _ ?_
  clear hK K
  refine walk_float rfl rfl (fun K hK => ?_)
  refine gives_at _ _ rfl PB po n c 0 0 rfl rfl rfl HK0.out ?_
  go_simp
  refine hK _ ?_
  clear hK K
  refine walk_float rfl rfl (fun K hK => ?_)
  refine gives_cell 5 _ rfl ⟨PB, po + 0, none⟩ (.int .u8 g0) rfl box_byte (fun V hV => (World.cell?_of_block (w := w1) (a := ⟨PB, po + 0, none⟩) hV).trans CB0.out) ?_
  go_simp
  refine hK _ ?_
  clear hK K
  refine walk_float rfl rfl (fun K hK => ?_)
  refine gives_to_int _ rfl g0 rfl HB0.out ?_
  go_simp
  refine hK _ ?_
  clear hK K
  refine walk_float rfl rfl (fun K hK => ?_)
  refine gives_move _ rfl ?_
  go_simp
  refine hK _ ?_
  clear hK K
  refine walk_float rfl rfl (fun K hK => ?_)
  refine gives_at _ _ rfl PB po n c 1 1 rfl rfl rfl HK1.out ?_
  go_simp
  refine hK _ ?_
  clear hK K
  refine walk_float rfl rfl (fun K hK => ?_)
  refine gives_cell 5 _ rfl ⟨PB, po + 1, none⟩ (.int .u8 g1) rfl box_byte (fun V hV => (World.cell?_of_block (w := w1) (a := ⟨PB, po + 1, none⟩) hV).trans CB1.out) ?_
  go_simp
  refine hK _ ?_
  clear hK K
  refine walk_float rfl rfl (fun K hK => ?_)
  refine gives_to_int _ rfl g1 rfl HB1.out ?_
  go_simp
  refine hK _ ?_
  clear hK K
  refine walk_float rfl rfl (fun K hK => ?_)
  refine gives_move _ rfl ?_
  go_simp
  refine hK _ ?_
  clear hK K
  refine walk_float rfl rfl (fun K hK => ?_)
  refine gives_at _ _ rfl PB po n c 2 2 rfl rfl rfl HK2.out ?_
  go_simp
  refine hK _ ?_
  clear hK K
  refine walk_float rfl rfl (fun K hK => ?_)
  refine gives_cell 5 _ rfl ⟨PB, po + 2, none⟩ (.int .u8 g2) rfl box_byte (fun V hV => (World.cell?_of_block (w := w1) (a := ⟨PB, po + 2, none⟩) hV).trans CB2.out) ?_
  go_simp
  refine hK _ ?_
  clear hK K
  refine walk_float rfl rfl (fun K hK => ?_)
  refine gives_to_int _ rfl g2 rfl HB2.out ?_
  go_simp
  refine hK _ ?_
  clear hK K
  refine walk_float rfl rfl (fun K hK => ?_)
  refine gives_int_mul _ _ rfl g2 256 (g2 * 256) rfl rfl HM2.out ?_
  go_simp
  refine hK _ ?_
  clear hK K
  refine walk_float rfl rfl (fun K hK => ?_)
  refine gives_move _ rfl ?_
  go_simp
  refine hK _ ?_
  clear hK K
  refine walk_float rfl rfl (fun K hK => ?_)
  refine gives_at _ _ rfl PB po n c 3 3 rfl rfl rfl HK3.out ?_
  go_simp
  refine hK _ ?_
  clear hK K
  refine walk_float rfl rfl (fun K hK => ?_)
  refine gives_cell 5 _ rfl ⟨PB, po + 3, none⟩ (.int .u8 g3) rfl box_byte (fun V hV => (World.cell?_of_block (w := w1) (a := ⟨PB, po + 3, none⟩) hV).trans CB3.out) ?_
  go_simp
  refine hK _ ?_
  clear hK K
  refine walk_float rfl rfl (fun K hK => ?_)
  refine gives_to_int _ rfl g3 rfl HB3.out ?_
  go_simp
  refine hK _ ?_
  clear hK K
  refine walk_float rfl rfl (fun K hK => ?_)
  refine gives_int_sum _ _ rfl (g2 * 256) g3 v2 rfl rfl HV2.out ?_
  go_simp
  refine hK _ ?_
  clear hK K
  refine walk_float rfl rfl (fun K hK => ?_)
  refine gives_move _ rfl ?_
  go_simp
  refine hK _ ?_
  clear hK K
  refine walk_float rfl rfl (fun K hK => ?_)
  refine gives_at _ _ rfl PB po n c 4 4 rfl rfl rfl HK4.out ?_
  go_simp
  refine hK _ ?_
  clear hK K
  refine walk_float rfl rfl (fun K hK => ?_)
  refine gives_cell 5 _ rfl ⟨PB, po + 4, none⟩ (.int .u8 g4) rfl box_byte (fun V hV => (World.cell?_of_block (w := w1) (a := ⟨PB, po + 4, none⟩) hV).trans CB4.out) ?_
  go_simp
  refine hK _ ?_
  clear hK K
  refine walk_float rfl rfl (fun K hK => ?_)
  refine gives_to_int _ rfl g4 rfl HB4.out ?_
  go_simp
  refine hK _ ?_
  clear hK K
  refine walk_float rfl rfl (fun K hK => ?_)
  refine gives_int_mul _ _ rfl g4 256 (g4 * 256) rfl rfl HM4.out ?_
  go_simp
  refine hK _ ?_
  clear hK K
  refine walk_float rfl rfl (fun K hK => ?_)
  refine gives_move _ rfl ?_
  go_simp
  refine hK _ ?_
  clear hK K
  refine walk_float rfl rfl (fun K hK => ?_)
  refine gives_at _ _ rfl PB po n c 5 5 rfl rfl rfl HK5.out ?_
  go_simp
  refine hK _ ?_
  clear hK K
  refine walk_float rfl rfl (fun K hK => ?_)
  refine gives_cell 5 _ rfl ⟨PB, po + 5, none⟩ (.int .u8 g5) rfl box_byte (fun V hV => (World.cell?_of_block (w := w1) (a := ⟨PB, po + 5, none⟩) hV).trans CB5.out) ?_
  go_simp
  refine hK _ ?_
  clear hK K
  refine walk_float rfl rfl (fun K hK => ?_)
  refine gives_to_int _ rfl g5 rfl HB5.out ?_
  go_simp
  refine hK _ ?_
  clear hK K
  refine walk_float rfl rfl (fun K hK => ?_)
  refine gives_int_sum _ _ rfl (g4 * 256) g5 v3 rfl rfl HV3.out ?_
  go_simp
  refine hK _ ?_
  clear hK K
  refine walk_float rfl rfl (fun K hK => ?_)
  refine gives_cm4 _ _ _ _ rfl g0 g1 v2 v3 rfl rfl rfl rfl ?_
  go_simp
  refine hK _ ?_
  clear hK K
  refine walk_done rfl rfl (fun K hK => ?_)
  refine done_boxA_new rowCm rfl ?_
  intro w4 x4 l4 s4
  have l4 : Below w1.heap.size w1 w4 := (Below.refl _ w1).drew.trans l4
  have Y4 := Lib.hid (show BoxA w4 w1.heap.size cmT (cmA none 0 0 zeroCm) from x4)
  have X4 := Lib.hid (X1.out.keep (l4.block _ X1.out.lt))
  have L4 := Lib.hid (L1.out.trans (l4.mono L1.out.size))
  have hb4 : w4.heap[PB]? = w1.heap[PB]? := l4.block PB HPB.out
  have HB4 := Lib.hid hb4
  have M4 := Lib.hid l4.size
  clear x4 l4 s4
  refine ⟨hb4, ?_⟩
  go_simp
  refine hK _ _ ?_
  clear hK K hb4
  refine walk_done rfl rfl (fun K hK => ?_)
  refine done_boxA_put rowCm _ _ rfl w1.heap.size (cmA none 0 0 ⟨g0, g1, v2, v3, zeroOp⟩) _ (cmA_size _ _ _ _) (cmA_one _ _ _ _) (cmA_size _ _ _ _) rfl rfl Y4.out ?_
  intro w5 x5 k5 s5
  have Y5 := Lib.hid x5
  have X5 := Lib.hid (X4.out.keep (k5.block _ X4.out.lt (Nat.ne_of_lt X1.out.lt)))
  have L5 := Lib.hid (low_put L4.out L1.out.size k5)
  have hb5 : w5.heap[PB]? = w1.heap[PB]? := (k5.block PB (Nat.lt_of_lt_of_le HPB.out M4.out) (Nat.ne_of_lt HPB.out)).trans HB4.out
  have XL := Lib.hid X1.out.lt
  have HB5 := Lib.hid hb5
  clear x5 k5 s5
  refine ⟨hb5, ?_⟩
  go_simp
  refine hK _ _ ?_
  clear hK K hb5
  refine walk_nil ?_
  obtain ⟨c0, c1, c2, c3, c4, c10⟩ := boxCm Y5.out
  have M5 := Lib.hid (show w1.heap.size ≤ w5.heap.size from by have := Y5.out.lt; omega)
  have DB6 := Lib.hid ((World.cell?_of_block (w := w1) (a := ⟨PB, po + 6, none⟩) HB5.out).trans CB6.out)
  have DB23 := Lib.hid ((World.cell?_of_block (w := w1) (a := ⟨PB, po + 23, none⟩) HB5.out).trans CB23.out)
  have DB24 := Lib.hid ((World.cell?_of_block (w := w1) (a := ⟨PB, po + 24, none⟩) HB5.out).trans CB24.out)
  clear X1 L1 X4 Y4 L4 HB4
  go_wp2_with (first
  | (with_reducible show wpList _ _ _ (⟨some 61, Op.slice 22 _ _ _ _, _, _, _, _⟩ :: _) _ _
     refine wpList_tail rfl _ _ rfl (some ⟨PB, po, none⟩) n c 7 7 rfl rfl rfl HC7.out HNC.out ?_
     intro p7 hbh _
     have H7 := Lib.hid (hbh w5 G (HP.out _ L5.out))
     clear hbh)
  | (with_reducible show wpList _ _ _ (⟨some 67, Op.slice 22 _ _ _ _, _, _, _, _⟩ :: _) _ _
     refine wpList_tail rfl _ _ rfl (some ⟨PB, po, none⟩) n c 15 15 rfl rfl rfl HC15.out HNC.out ?_
     intro p15 hbh _
     have H15 := Lib.hid (hbh w5 G (HP.out _ L5.out))
     clear hbh)
  | (go_at_call 33
     refine (HT7.out _ _ H7.out _).mono ?_; rintro e z7 ⟨rfl, rfl⟩
     clear HT7 H7)
  | (go_at_call 33
     refine (HT15.out _ _ H15.out _).mono ?_; rintro e z8 ⟨rfl, rfl⟩
     clear HT15 H15))
  refine wp_region_sched [(0, true), (1, true), (2, true), (3, true), (4, true), (5, true), (6, true), (7, true), (8, true), (9, true), (10, true), (11, true), (12, true), (13, true), (14, true), (15, true), (16, false)] (fun V => V.heap[PB]? = w5.heap[PB]?) (by kernel_rfl) (by kernel_rfl) (show w5.drew.heap[PB]? = w5.heap[PB]? from rfl) ?_
  refine walk_float rfl rfl (fun K hK => ?_)
  refine gives_move _ rfl ?_
  go_simp
  refine hK _ ?_
  clear hK K
  refine walk_float rfl rfl (fun K hK => ?_)
  refine gives_at _ _ rfl PB po n c 6 6 rfl rfl rfl HK6.out ?_
  go_simp
  refine hK _ ?_
  clear hK K
  refine walk_float rfl rfl (fun K hK => ?_)
  refine gives_cell 5 _ rfl ⟨PB, po + 6, none⟩ (.int .u8 g6) rfl box_byte (fun V hV => (World.cell?_of_block (w := w5) (a := ⟨PB, po + 6, none⟩) hV).trans DB6.out) ?_
  go_simp
  refine hK _ ?_
  clear hK K
  refine walk_float rfl rfl (fun K hK => ?_)
  refine gives_to_int _ rfl g6 rfl HB6.out ?_
  go_simp
  refine hK _ ?_
  clear hK K
  refine walk_float rfl rfl (fun K hK => ?_)
  refine gives_move _ rfl ?_
  go_simp
  refine hK _ ?_
  clear hK K
  refine walk_float rfl rfl (fun K hK => ?_)
  refine gives_move _ rfl ?_
  go_simp
  refine hK _ ?_
  clear hK K
  refine walk_float rfl rfl (fun K hK => ?_)
  refine gives_move _ rfl ?_
  go_simp
  refine hK _ ?_
  clear hK K
  refine walk_float rfl rfl (fun K hK => ?_)
  refine gives_at _ _ rfl PB po n c 23 23 rfl rfl rfl HK23.out ?_
  go_simp
  refine hK _ ?_
  clear hK K
  refine walk_float rfl rfl (fun K hK => ?_)
  refine gives_cell 5 _ rfl ⟨PB, po + 23, none⟩ (.int .u8 g23) rfl box_byte (fun V hV => (World.cell?_of_block (w := w5) (a := ⟨PB, po + 23, none⟩) hV).trans DB23.out) ?_
  go_simp
  refine hK _ ?_
  clear hK K
  refine walk_float rfl rfl (fun K hK => ?_)
  refine gives_to_int _ rfl g23 rfl HB23.out ?_
  go_simp
  refine hK _ ?_
  clear hK K
  refine walk_float rfl rfl (fun K hK => ?_)
  refine gives_move _ rfl ?_
  go_simp
  refine hK _ ?_
  clear hK K
  refine walk_float rfl rfl (fun K hK => ?_)
  refine gives_at _ _ rfl PB po n c 24 24 rfl rfl rfl HK24.out ?_
  go_simp
  refine hK _ ?_
  clear hK K
  refine walk_float rfl rfl (fun K hK => ?_)
  refine gives_cell 5 _ rfl ⟨PB, po + 24, none⟩ (.int .u8 g24) rfl box_byte (fun V hV => (World.cell?_of_block (w := w5) (a := ⟨PB, po + 24, none⟩) hV).trans DB24.out) ?_
  go_simp
  refine hK _ ?_
  clear hK K
  refine walk_float rfl rfl (fun K hK => ?_)
  refine gives_u8_is _ _ rfl g24 1 _ rfl rfl rfl ?_
  go_simp
  refine hK _ ?_
  clear hK K
  refine walk_float rfl rfl (fun K hK => ?_)
  refine gives_rop5 _ _ _ _ _ rfl g6 vk vn g23 (g24 == 1) rfl rfl rfl rfl rfl ?_
  go_simp
  refine hK _ ?_
  clear hK K
  refine walk_float rfl rfl (fun K hK => ?_)
  refine gives_cmfield5 _ rfl w1.heap.size rfl ?_
  go_simp
  refine hK _ ?_
  clear hK K
  refine walk_done rfl rfl (fun K hK => ?_)
  refine done_cmop_put _ _ rfl w1.heap.size none 0 0 ⟨g0, g1, v2, v3, zeroOp⟩ ⟨g6, 0, vk, vn, g23, g24 == 1⟩ rfl rfl (show BoxA w5.drew w1.heap.size cmT _ from Y5.out) ?_
  intro w6 x6 k6 s6
  have Y6 := Lib.hid (show BoxA w6 w1.heap.size cmT (cmA none 0 0 ⟨g0, g1, v2, v3, ⟨g6, 0, vk, vn, g23, g24 == 1⟩⟩) from x6)
  have X6 := Lib.hid (X5.out.keep (k6.block _ X5.out.lt (Nat.ne_of_lt XL.out)))
  have L6 := Lib.hid (low_put (show Below w.heap.size w w5.drew from L5.out.drew) (Nat.le_of_lt XL.out) k6)
  have hb6 : w6.heap[PB]? = w5.heap[PB]? := k6.block PB (Nat.lt_of_lt_of_le HPB.out M5.out) (Nat.ne_of_lt HPB.out)
  clear x6 k6 s6
  refine ⟨hb6, ?_⟩
  go_simp
  refine hK _ _ ?_
  clear hK K hb6
  refine walk_nil ?_
  have HD := Lib.hid (show BytesAt w6 none 0 (dataF G) from .inl rfl)
  go_wp2_with (first
  | (with_reducible show wpList _ _ _ (⟨some 88, Op.load cmT _, _, _, _, _⟩ :: _) _ _
     refine wpList_boxA_loadw rowCm _ rfl rfl w1.heap.size (cmA none 0 0 ⟨g0, g1, v2, v3, ⟨g6, 0, vk, vn, g23, g24 == 1⟩⟩) (cmA_size _ _ _ _) rfl Y6.out ?_)
  | (go_at_call 12
     refine (refEncode_ok HD.out HGD.out).mono ?_; rintro e w8 ⟨pE, cE, rfl, b8, l8⟩
     have X8 := Lib.hid (X6.out.keep (l8.block _ X6.out.lt))
     have Y8 := Lib.hid (Y6.out.keep (l8.block _ Y6.out.lt))
     have L8 := Lib.hid (L6.out.trans (l8.mono L6.out.size))
     have HD8 := Lib.hid (HD.out.below l8)
     have B8 := Lib.hid b8
     clear b8 l8 X6 L6)
  | (with_reducible show wpList _ _ _ (⟨some 96, Op.convert _ _ _, _, _, _, _⟩ :: _) _ _
     refine wpList_string_w rfl _ rfl pE _ cE rfl _ B8.out ?_
     clear B8)
  | (with_reducible show wpList _ _ _ (⟨some 98, Op.convert _ _ _, _, _, _, _⟩ :: _) _ _
     refine wpList_string_w rfl _ rfl (some ⟨PB, po, none⟩) n c rfl G (HP.out _ L8.out) ?_
     have q1 := HEQ.out
     have q2 := HNE.out)
  | (with_reducible show wpList _ _ _ (⟨_, Op.build cmT _, _, _, _, none⟩ :: _) _ _
     refine wpList_build_any rfl cmT #[] #[] (.agg (cmA none 0 0 zeroCm)) rfl (by simp) (fun w => run_build w cmT #[] _ (by kernel_rfl)) ?_)
  | (with_reducible show wpList _ _ _ (⟨_, Op.store cmT (.tmp 2) _, _, _, _, none⟩ :: _) _ _
     refine wpList_boxA_put rowCm rfl _ _ rfl rfl w.heap.size (cmA none 0 0 zeroCm) _ (cmA_size _ _ _ _) (cmA_one _ _ _ _) (cmA_size _ _ _ _) rfl rfl X8.out ?_
     intro w9 x9 k9 s9
     have X9 := Lib.hid x9
     have L9 := Lib.hid (low_put L8.out (Nat.le_refl _) k9)
     clear x9 k9 s9 X8 L8))
  exact bodyPost_ret (results_cell_row_tmp rfl _ _ w.heap.size cmT (cmA none 0 0 zeroCm) (0, 0) _ rfl X9.out Try.underlying26 rfl (by rw [cmA_size]; exact rowCm.size)) rfl ⟨rfl, L9.out⟩
set_option maxRecDepth 100000 in
set_option maxHeartbeats 16000000 in
theorem refDecode_six_same {w : World} {p : Option Addr} {n c : Nat} {G : Nat → Nat} (hp : BytesAt w p n G) (hG : ∀ j, G j < 256) (hc : n ≤ c) (hn : n ≤ 100000) (h6 : n = 25) (hk : ((G 0 : Nat) : Int) = 6) (hgd : goodC (rawC G) (rawN G n) = true) (heq : mk (lenC (rawC G) + rawN G n) (allC (rawC G) (dataF G)) = mk n G) :
    Calls Try.prog 19 #[.slice p n c] w fun e w' => ∃ q m, e = .returned (.tuple #[.agg (cmA q (rawN G n) m (rawC G)), .bool true]) ∧ BytesAt w' q (rawN G n) (dataF G) ∧ Below w.heap.size w w' := by
  have HGD := Lib.hid hgd
  have HDF := Lib.hid (show ∀ j, dataF G j = G (6 + j) from fun j => by unfold dataF; rfl)
  have HAL : ∀ j, j < lenC (rawC G) + rawN G n → allC (rawC G) (dataF G) j < 256 := fun j hj => allC_lt (x := rawC G) (g := dataF G) (n := rawN G n) (fun i _ => by show dataF G i < 256; unfold dataF; exact hG _) j hj
  have HEQ := Lib.hid (str_eq HAL (fun j (_ : j < n) => hG j))
  have HNE := Lib.hid (str_neq HAL (fun j (_ : j < n) => hG j))
  rw [decide_eq_true heq] at HEQ HNE
  clear HAL heq
  clear hgd
  have HP := Lib.hid (fun (W : World) (hb : Below w.heap.size w W) => hp.below hb)
  have f1 : decide ((n : Int) < 6) = false := by simp; omega
  have f2 : decide (n < 6) = false := by simp; omega
  obtain ⟨PB, po, rfl, hPB, hcl⟩ : ∃ B o, p = some ⟨B, o, none⟩ ∧ B < w.heap.size ∧ Cells w B o n G := by
    rcases hp with h | h
    · omega
    · exact h
  have HK0 := Lib.hid (show 0 < n by omega)
  have HB0 := Lib.hid (show 0 ≤ ((G 0 : Nat) : Int) ∧ ((G 0 : Nat) : Int) < 256 by have := hG 0; omega)
  have CC0 := Lib.hid (hcl 0 (by omega))
  have HK1 := Lib.hid (show 1 < n by omega)
  have HB1 := Lib.hid (show 0 ≤ ((G 1 : Nat) : Int) ∧ ((G 1 : Nat) : Int) < 256 by have := hG 1; omega)
  have CC1 := Lib.hid (hcl 1 (by omega))
  have HK2 := Lib.hid (show 2 < n by omega)
  have HB2 := Lib.hid (show 0 ≤ ((G 2 : Nat) : Int) ∧ ((G 2 : Nat) : Int) < 256 by have := hG 2; omega)
  have CC2 := Lib.hid (hcl 2 (by omega))
  have HK3 := Lib.hid (show 3 < n by omega)
  have HB3 := Lib.hid (show 0 ≤ ((G 3 : Nat) : Int) ∧ ((G 3 : Nat) : Int) < 256 by have := hG 3; omega)
  have CC3 := Lib.hid (hcl 3 (by omega))
  have HK4 := Lib.hid (show 4 < n by omega)
  have HB4 := Lib.hid (show 0 ≤ ((G 4 : Nat) : Int) ∧ ((G 4 : Nat) : Int) < 256 by have := hG 4; omega)
  have CC4 := Lib.hid (hcl 4 (by omega))
  have HK5 := Lib.hid (show 5 < n by omega)
  have HB5 := Lib.hid (show 0 ≤ ((G 5 : Nat) : Int) ∧ ((G 5 : Nat) : Int) < 256 by have := hG 5; omega)
  have CC5 := Lib.hid (hcl 5 (by omega))
  have HK6 := Lib.hid (show 6 < n by omega)
  have HB6 := Lib.hid (show 0 ≤ ((G 6 : Nat) : Int) ∧ ((G 6 : Nat) : Int) < 256 by have := hG 6; omega)
  have CC6 := Lib.hid (hcl 6 (by omega))
  have HK23 := Lib.hid (show 23 < n by omega)
  have HB23 := Lib.hid (show 0 ≤ ((G 23 : Nat) : Int) ∧ ((G 23 : Nat) : Int) < 256 by have := hG 23; omega)
  have CC23 := Lib.hid (hcl 23 (by omega))
  have HK24 := Lib.hid (show 24 < n by omega)
  have HB24 := Lib.hid (show 0 ≤ ((G 24 : Nat) : Int) ∧ ((G 24 : Nat) : Int) < 256 by have := hG 24; omega)
  have CC24 := Lib.hid (hcl 24 (by omega))
  have HM2 := Lib.hid (show IntKind.i64.wrap (((G 2 : Nat) : Int) * 256) = ((G 2 : Nat) : Int) * 256 from IntWalk.i64_in _ (by have := hG 2; omega))
  have HM4 := Lib.hid (show IntKind.i64.wrap (((G 4 : Nat) : Int) * 256) = ((G 4 : Nat) : Int) * 256 from IntWalk.i64_in _ (by have := hG 4; omega))
  have HV2 := Lib.hid (show IntKind.i64.wrap (((G 2 : Nat) : Int) * 256 + ((G 3 : Nat) : Int)) = ((valN 2 (fun j => G (2 + j)) : Nat) : Int) by rw [valN_pair G 2]; exact IntWalk.i64_in _ (by have := hG 2; have := hG 3; omega))
  have HV3 := Lib.hid (show IntKind.i64.wrap (((G 4 : Nat) : Int) * 256 + ((G 5 : Nat) : Int)) = ((valN 2 (fun j => G (4 + j)) : Nat) : Int) by rw [valN_pair G 4]; exact IntWalk.i64_in _ (by have := hG 4; have := hG 5; omega))
  have HPB0 := Lib.hid hPB
  have e2 : (((G 0 : Nat) : Int) == 2) = false := by rw [hk]; rfl
  have e6 : (((G 0 : Nat) : Int) == 6) = true := by rw [hk]; rfl
  have HR := Lib.hid (show rawC G = ⟨(G 0 : Int), (G 1 : Int), ((valN 2 (fun j => G (2 + j)) : Nat) : Int), ((valN 2 (fun j => G (4 + j)) : Nat) : Int), ⟨(G 6 : Int), 0, IntKind.i64.wrap (valN 8 (fun j => G (7 + j)) : Nat), IntKind.i64.wrap (valN 8 (fun j => G (15 + j)) : Nat), (G 23 : Int), ((G 24 : Nat) : Int) == 1⟩⟩ by unfold rawC rawO; rw [hk]; rfl)
  have HRN := Lib.hid (show rawN G n = 0 by unfold rawN; rw [hk]; rfl)
  have n1 : ((n : Int) != 25) = false := by simp; omega
  have n2 : (n != 25) = false := by simp; omega
  have HT7 := Lib.hid (fun (q : Option Addr) (W : World) (h : BytesAt W q (n - 7) (fun j => G (7 + j))) (m : Nat) => refTake_ok q (n - 7) m (fun j => G (7 + j)) (fun i _ => hG _) 8 (.inr (.inr (.inr rfl))) (by omega) W h)
  have HT15 := Lib.hid (fun (q : Option Addr) (W : World) (h : BytesAt W q (n - 15) (fun j => G (15 + j))) (m : Nat) => refTake_ok q (n - 15) m (fun j => G (15 + j)) (fun i _ => hG _) 8 (.inr (.inr (.inr rfl))) (by omega) W h)
  have HC7 := Lib.hid (show 7 ≤ n by omega)
  have HC15 := Lib.hid (show 15 ≤ n by omega)
  have HNC := Lib.hid hc
  have HC6 := Lib.hid (show 6 ≤ n by omega)
  have HN := Lib.hid hn
  have HGS := Lib.hid (show ∀ j, j < n → G j < 256 from fun j _ => hG j)
  clear hp hG hc hn h6 hk hPB hcl
  generalize ((G 0 : Nat) : Int) = g0 at *
  generalize ((G 1 : Nat) : Int) = g1 at *
  generalize ((G 2 : Nat) : Int) = g2 at *
  generalize ((G 3 : Nat) : Int) = g3 at *
  generalize ((G 4 : Nat) : Int) = g4 at *
  generalize ((G 5 : Nat) : Int) = g5 at *
  generalize ((G 6 : Nat) : Int) = g6 at *
  generalize ((G 23 : Nat) : Int) = g23 at *
  generalize ((G 24 : Nat) : Int) = g24 at *
  generalize ((valN 2 (fun j => G (2 + j)) : Nat) : Int) = v2 at *
  generalize ((valN 2 (fun j => G (4 + j)) : Nat) : Int) = v3 at *
  generalize IntKind.i64.wrap (valN 8 (fun j => G (7 + j)) : Nat) = vk at *
  generalize IntKind.i64.wrap (valN 8 (fun j => G (15 + j)) : Nat) = vn at *
  rw [HR.out, HRN.out] at HGD HEQ HNE
  rw [Nat.add_zero] at HEQ HNE
  rw [HR.out, HRN.out]
  go_enter Try.func19, Try.ntmps19
  go_wp2_with (first
  | (with_reducible show wpList _ _ _ (⟨some 2, Op.alloc cmT, _, _, _, _⟩ :: _) _ _
     refine wpList_boxA_new rowCm rfl rfl w.heap.size rfl ?_
     intro w1 x1 l1 s1
     have X1 := Lib.hid x1
     have L1 := Lib.hid l1
     clear x1 l1 s1))
  have CB0 := Lib.hid ((L1.out.cell (p := ⟨PB, po + 0, none⟩) HPB0.out).trans CC0.out)
  have CB1 := Lib.hid ((L1.out.cell (p := ⟨PB, po + 1, none⟩) HPB0.out).trans CC1.out)
  have CB2 := Lib.hid ((L1.out.cell (p := ⟨PB, po + 2, none⟩) HPB0.out).trans CC2.out)
  have CB3 := Lib.hid ((L1.out.cell (p := ⟨PB, po + 3, none⟩) HPB0.out).trans CC3.out)
  have CB4 := Lib.hid ((L1.out.cell (p := ⟨PB, po + 4, none⟩) HPB0.out).trans CC4.out)
  have CB5 := Lib.hid ((L1.out.cell (p := ⟨PB, po + 5, none⟩) HPB0.out).trans CC5.out)
  have CB6 := Lib.hid ((L1.out.cell (p := ⟨PB, po + 6, none⟩) HPB0.out).trans CC6.out)
  have CB23 := Lib.hid ((L1.out.cell (p := ⟨PB, po + 23, none⟩) HPB0.out).trans CC23.out)
  have CB24 := Lib.hid ((L1.out.cell (p := ⟨PB, po + 24, none⟩) HPB0.out).trans CC24.out)
  have HPB := Lib.hid (Nat.lt_of_lt_of_le HPB0.out L1.out.size)
  refine wp_region_sched [(0, true), (1, true), (2, true), (3, true), (4, true), (5, true), (6, true), (7, true), (8, true), (9, true), (10, true), (11, true), (12, true), (13, true), (14, true), (15, true), (16, true), (17, true), (18, true), (19, true), (20, true), (21, true), (22, true), (23, true), (24, true), (25, true), (26, true), (27, true), (28, true), (29, false), (30, false)] (fun V => V.heap[PB]? = w1.heap[PB]?) (by kernel_rfl) (by kernel_rfl) (show w1.drew.heap[PB]? = w1.heap[PB]? from rfl) ?_
  refine walk_float rfl rfl (fun K hK => ?_)
  refine gives_move _ rfl ?_
  go_simp
  refine hK _ ?_
  clear hK K
  refine walk_float rfl rfl (fun K hK => ?_)
  refine gives_at _ _ rfl PB po n c 0 0 rfl rfl rfl HK0.out ?_
  go_simp
  refine hK _ ?_
  clear hK K
  refine walk_float rfl rfl (fun K hK => ?_)
  refine gives_cell 5 _ rfl ⟨PB, po + 0, none⟩ (.int .u8 g0) rfl box_byte (fun V hV => (World.cell?_of_block (w := w1) (a := ⟨PB, po + 0, none⟩) hV).trans CB0.out) ?_
  go_simp
  refine hK _ ?_
  clear hK K
  refine walk_float rfl rfl (fun K hK => ?_)
  refine gives_to_int _ rfl g0 rfl HB0.out ?_
  go_simp
  refine hK _ ?_
  clear hK K
  refine walk_float rfl rfl (fun K hK => ?_)
  refine gives_move _ rfl ?_
  go_simp
  refine hK _ ?_
  clear hK K
  refine walk_float rfl rfl (fun K hK => ?_)
  refine gives_at _ _ rfl PB po n c 1 1 rfl rfl rfl HK1.out ?_
  go_simp
  refine hK _ ?_
  clear hK K
  refine walk_float rfl rfl (fun K hK => ?_)
  refine gives_cell 5 _ rfl ⟨PB, po + 1, none⟩ (.int .u8 g1) rfl box_byte (fun V hV => (World.cell?_of_block (w := w1) (a := ⟨PB, po + 1, none⟩) hV).trans CB1.out) ?_
  go_simp
  refine hK _ ?_
  clear hK K
  refine walk_float rfl rfl (fun K hK => ?_)
  refine gives_to_int _ rfl g1 rfl HB1.out ?_
  go_simp
  refine hK _ ?_
  clear hK K
  refine walk_float rfl rfl (fun K hK => ?_)
  refine gives_move _ rfl ?_
  go_simp
  refine hK _ ?_
  clear hK K
  refine walk_float rfl rfl (fun K hK => ?_)
  refine gives_at _ _ rfl PB po n c 2 2 rfl rfl rfl HK2.out ?_
  go_simp
  refine hK _ ?_
  clear hK K
  refine walk_float rfl rfl (fun K hK => ?_)
  refine gives_cell 5 _ rfl ⟨PB, po + 2, none⟩ (.int .u8 g2) rfl box_byte (fun V hV => (World.cell?_of_block (w := w1) (a := ⟨PB, po + 2, none⟩) hV).trans CB2.out) ?_
  go_simp
  refine hK _ ?_
  clear hK K
  refine walk_float rfl rfl (fun K hK => ?_)
  refine gives_to_int _ rfl g2 rfl HB2.out ?_
  go_simp
  refine hK _ ?_
  clear hK K
  refine walk_float rfl rfl (fun K hK => ?_)
  refine gives_int_mul _ _ rfl g2 256 (g2 * 256) rfl rfl HM2.out ?_
  go_simp
  refine hK _ ?_
  clear hK K
  refine walk_float rfl rfl (fun K hK => ?_)
  refine gives_move _ rfl ?_
  go_simp
  refine hK _ ?_
  clear hK K
  refine walk_float rfl rfl (fun K hK => ?_)
  refine gives_at _ _ rfl PB po n c 3 3 rfl rfl rfl HK3.out ?_
  go_simp
  refine hK _ ?_
  clear hK K
  refine walk_float rfl rfl (fun K hK => ?_)
  refine gives_cell 5 _ rfl ⟨PB, po + 3, none⟩ (.int .u8 g3) rfl box_byte (fun V hV => (World.cell?_of_block (w := w1) (a := ⟨PB, po + 3, none⟩) hV).trans CB3.out) ?_
  go_simp
  refine hK _ ?_
  clear hK K
  refine walk_float rfl rfl (fun K hK => ?_)
  refine gives_to_int _ rfl g3 rfl HB3.out ?_
  go_simp
  refine hK _ ?_
  clear hK K
  refine walk_float rfl rfl (fun K hK => ?_)
  refine gives_int_sum _ _ rfl (g2 * 256) g3 v2 rfl rfl HV2.out ?_
  go_simp
  refine hK _ ?_
  clear hK K
  refine walk_float rfl rfl (fun K hK => ?_)
  refine gives_move _ rfl ?_
  go_simp
  refine hK _ ?_
  clear hK K
  refine walk_float rfl rfl (fun K hK => ?_)
  refine gives_at _ _ rfl PB po n c 4 4 rfl rfl rfl HK4.out ?_
  go_simp
  refine hK _ ?_
  clear hK K
  refine walk_float rfl rfl (fun K hK => ?_)
  refine gives_cell 5 _ rfl ⟨PB, po + 4, none⟩ (.int .u8 g4) rfl box_byte (fun V hV => (World.cell?_of_block (w := w1) (a := ⟨PB, po + 4, none⟩) hV).trans CB4.out) ?_
  go_simp
  refine hK _ ?_
  clear hK K
  refine walk_float rfl rfl (fun K hK => ?_)
  refine gives_to_int _ rfl g4 rfl HB4.out ?_
  go_simp
  refine hK _ ?_
  clear hK K
  refine walk_float rfl rfl (fun K hK => ?_)
  refine gives_int_mul _ _ rfl g4 256 (g4 * 256) rfl rfl HM4.out ?_
  go_simp
  refine hK _ ?_
  clear hK K
  refine walk_float rfl rfl (fun K hK => ?_)
  refine gives_move _ rfl ?_
  go_simp
  refine hK _ ?_
  clear hK K
  refine walk_float rfl rfl (fun K hK => ?_)
  refine gives_at _ _ rfl PB po n c 5 5 rfl rfl rfl HK5.out ?_
  go_simp
  refine hK _ ?_
  clear hK K
  refine walk_float rfl rfl (fun K hK => ?_)
  refine gives_cell 5 _ rfl ⟨PB, po + 5, none⟩ (.int .u8 g5) rfl box_byte (fun V hV => (World.cell?_of_block (w := w1) (a := ⟨PB, po + 5, none⟩) hV).trans CB5.out) ?_
  go_simp
  refine hK _ ?_
  clear hK K
  refine walk_float rfl rfl (fun K hK => ?_)
  refine gives_to_int _ rfl g5 rfl HB5.out ?_
  go_simp
  refine hK _ ?_
  clear hK K
  refine walk_float rfl rfl (fun K hK => ?_)
  refine gives_int_sum _ _ rfl (g4 * 256) g5 v3 rfl rfl HV3.out ?_
  go_simp
  refine hK _ ?_
  clear hK K
  refine walk_float rfl rfl (fun K hK => ?_)
  refine gives_cm4 _ _ _ _ rfl g0 g1 v2 v3 rfl rfl rfl rfl ?_
  go_simp
  refine hK _ ?_
  clear hK K
  refine walk_done rfl rfl (fun K hK => ?_)
  refine done_boxA_new rowCm rfl ?_
  intro w4 x4 l4 s4
  have l4 : Below w1.heap.size w1 w4 := (Below.refl _ w1).drew.trans l4
  have Y4 := Lib.hid (show BoxA w4 w1.heap.size cmT (cmA none 0 0 zeroCm) from x4)
  have X4 := Lib.hid (X1.out.keep (l4.block _ X1.out.lt))
  have L4 := Lib.hid (L1.out.trans (l4.mono L1.out.size))
  have hb4 : w4.heap[PB]? = w1.heap[PB]? := l4.block PB HPB.out
  have HB4 := Lib.hid hb4
  have M4 := Lib.hid l4.size
  clear x4 l4 s4
  refine ⟨hb4, ?_⟩
  go_simp
  refine hK _ _ ?_
  clear hK K hb4
  refine walk_done rfl rfl (fun K hK => ?_)
  refine done_boxA_put rowCm _ _ rfl w1.heap.size (cmA none 0 0 ⟨g0, g1, v2, v3, zeroOp⟩) _ (cmA_size _ _ _ _) (cmA_one _ _ _ _) (cmA_size _ _ _ _) rfl rfl Y4.out ?_
  intro w5 x5 k5 s5
  have Y5 := Lib.hid x5
  have X5 := Lib.hid (X4.out.keep (k5.block _ X4.out.lt (Nat.ne_of_lt X1.out.lt)))
  have L5 := Lib.hid (low_put L4.out L1.out.size k5)
  have hb5 : w5.heap[PB]? = w1.heap[PB]? := (k5.block PB (Nat.lt_of_lt_of_le HPB.out M4.out) (Nat.ne_of_lt HPB.out)).trans HB4.out
  have XL := Lib.hid X1.out.lt
  have HB5 := Lib.hid hb5
  clear x5 k5 s5
  refine ⟨hb5, ?_⟩
  go_simp
  refine hK _ _ ?_
  clear hK K hb5
  refine walk_nil ?_
  obtain ⟨c0, c1, c2, c3, c4, c10⟩ := boxCm Y5.out
  have M5 := Lib.hid (show w1.heap.size ≤ w5.heap.size from by have := Y5.out.lt; omega)
  have DB6 := Lib.hid ((World.cell?_of_block (w := w1) (a := ⟨PB, po + 6, none⟩) HB5.out).trans CB6.out)
  have DB23 := Lib.hid ((World.cell?_of_block (w := w1) (a := ⟨PB, po + 23, none⟩) HB5.out).trans CB23.out)
  have DB24 := Lib.hid ((World.cell?_of_block (w := w1) (a := ⟨PB, po + 24, none⟩) HB5.out).trans CB24.out)
  clear X1 L1 X4 Y4 L4 HB4
  go_wp2_with (first
  | (with_reducible show wpList _ _ _ (⟨some 61, Op.slice 22 _ _ _ _, _, _, _, _⟩ :: _) _ _
     refine wpList_tail rfl _ _ rfl (some ⟨PB, po, none⟩) n c 7 7 rfl rfl rfl HC7.out HNC.out ?_
     intro p7 hbh _
     have H7 := Lib.hid (hbh w5 G (HP.out _ L5.out))
     clear hbh)
  | (with_reducible show wpList _ _ _ (⟨some 67, Op.slice 22 _ _ _ _, _, _, _, _⟩ :: _) _ _
     refine wpList_tail rfl _ _ rfl (some ⟨PB, po, none⟩) n c 15 15 rfl rfl rfl HC15.out HNC.out ?_
     intro p15 hbh _
     have H15 := Lib.hid (hbh w5 G (HP.out _ L5.out))
     clear hbh)
  | (go_at_call 33
     refine (HT7.out _ _ H7.out _).mono ?_; rintro e z7 ⟨rfl, rfl⟩
     clear HT7 H7)
  | (go_at_call 33
     refine (HT15.out _ _ H15.out _).mono ?_; rintro e z8 ⟨rfl, rfl⟩
     clear HT15 H15))
  refine wp_region_sched [(0, true), (1, true), (2, true), (3, true), (4, true), (5, true), (6, true), (7, true), (8, true), (9, true), (10, true), (11, true), (12, true), (13, true), (14, true), (15, true), (16, false)] (fun V => V.heap[PB]? = w5.heap[PB]?) (by kernel_rfl) (by kernel_rfl) (show w5.drew.heap[PB]? = w5.heap[PB]? from rfl) ?_
  refine walk_float rfl rfl (fun K hK => ?_)
  refine gives_move _ rfl ?_
  go_simp
  refine hK _ ?_
  clear hK K
  refine walk_float rfl rfl (fun K hK => ?_)
  refine gives_at _ _ rfl PB po n c 6 6 rfl rfl rfl HK6.out ?_
  go_simp
  refine hK _ ?_
  clear hK K
  refine walk_float rfl rfl (fun K hK => ?_)
  refine gives_cell 5 _ rfl ⟨PB, po + 6, none⟩ (.int .u8 g6) rfl box_byte (fun V hV => (World.cell?_of_block (w := w5) (a := ⟨PB, po + 6, none⟩) hV).trans DB6.out) ?_
  go_simp
  refine hK _ ?_
  clear hK K
  refine walk_float rfl rfl (fun K hK => ?_)
  refine gives_to_int _ rfl g6 rfl HB6.out ?_
  go_simp
  refine hK _ ?_
  clear hK K
  refine walk_float rfl rfl (fun K hK => ?_)
  refine gives_move _ rfl ?_
  go_simp
  refine hK _ ?_
  clear hK K
  refine walk_float rfl rfl (fun K hK => ?_)
  refine gives_move _ rfl ?_
  go_simp
  refine hK _ ?_
  clear hK K
  refine walk_float rfl rfl (fun K hK => ?_)
  refine gives_move _ rfl ?_
  go_simp
  refine hK _ ?_
  clear hK K
  refine walk_float rfl rfl (fun K hK => ?_)
  refine gives_at _ _ rfl PB po n c 23 23 rfl rfl rfl HK23.out ?_
  go_simp
  refine hK _ ?_
  clear hK K
  refine walk_float rfl rfl (fun K hK => ?_)
  refine gives_cell 5 _ rfl ⟨PB, po + 23, none⟩ (.int .u8 g23) rfl box_byte (fun V hV => (World.cell?_of_block (w := w5) (a := ⟨PB, po + 23, none⟩) hV).trans DB23.out) ?_
  go_simp
  refine hK _ ?_
  clear hK K
  refine walk_float rfl rfl (fun K hK => ?_)
  refine gives_to_int _ rfl g23 rfl HB23.out ?_
  go_simp
  refine hK _ ?_
  clear hK K
  refine walk_float rfl rfl (fun K hK => ?_)
  refine gives_move _ rfl ?_
  go_simp
  refine hK _ ?_
  clear hK K
  refine walk_float rfl rfl (fun K hK => ?_)
  refine gives_at _ _ rfl PB po n c 24 24 rfl rfl rfl HK24.out ?_
  go_simp
  refine hK _ ?_
  clear hK K
  refine walk_float rfl rfl (fun K hK => ?_)
  refine gives_cell 5 _ rfl ⟨PB, po + 24, none⟩ (.int .u8 g24) rfl box_byte (fun V hV => (World.cell?_of_block (w := w5) (a := ⟨PB, po + 24, none⟩) hV).trans DB24.out) ?_
  go_simp
  refine hK _ ?_
  clear hK K
  refine walk_float rfl rfl (fun K hK => ?_)
  refine gives_u8_is _ _ rfl g24 1 _ rfl rfl rfl ?_
  go_simp
  refine hK _ ?_
  clear hK K
  refine walk_float rfl rfl (fun K hK => ?_)
  refine gives_rop5 _ _ _ _ _ rfl g6 vk vn g23 (g24 == 1) rfl rfl rfl rfl rfl ?_
  go_simp
  refine hK _ ?_
  clear hK K
  refine walk_float rfl rfl (fun K hK => ?_)
  refine gives_cmfield5 _ rfl w1.heap.size rfl ?_
  go_simp
  refine hK _ ?_
  clear hK K
  refine walk_done rfl rfl (fun K hK => ?_)
  refine done_cmop_put _ _ rfl w1.heap.size none 0 0 ⟨g0, g1, v2, v3, zeroOp⟩ ⟨g6, 0, vk, vn, g23, g24 == 1⟩ rfl rfl (show BoxA w5.drew w1.heap.size cmT _ from Y5.out) ?_
  intro w6 x6 k6 s6
  have Y6 := Lib.hid (show BoxA w6 w1.heap.size cmT (cmA none 0 0 ⟨g0, g1, v2, v3, ⟨g6, 0, vk, vn, g23, g24 == 1⟩⟩) from x6)
  have X6 := Lib.hid (X5.out.keep (k6.block _ X5.out.lt (Nat.ne_of_lt XL.out)))
  have L6 := Lib.hid (low_put (show Below w.heap.size w w5.drew from L5.out.drew) (Nat.le_of_lt XL.out) k6)
  have hb6 : w6.heap[PB]? = w5.heap[PB]? := k6.block PB (Nat.lt_of_lt_of_le HPB.out M5.out) (Nat.ne_of_lt HPB.out)
  clear x6 k6 s6
  refine ⟨hb6, ?_⟩
  go_simp
  refine hK _ _ ?_
  clear hK K hb6
  refine walk_nil ?_
  have HD := Lib.hid (show BytesAt w6 none 0 (dataF G) from .inl rfl)
  go_wp2_with (first
  | (with_reducible show wpList _ _ _ (⟨some 88, Op.load cmT _, _, _, _, _⟩ :: _) _ _
     refine wpList_boxA_loadw rowCm _ rfl rfl w1.heap.size (cmA none 0 0 ⟨g0, g1, v2, v3, ⟨g6, 0, vk, vn, g23, g24 == 1⟩⟩) (cmA_size _ _ _ _) rfl Y6.out ?_)
  | (go_at_call 12
     refine (refEncode_ok HD.out HGD.out).mono ?_; rintro e w8 ⟨pE, cE, rfl, b8, l8⟩
     have X8 := Lib.hid (X6.out.keep (l8.block _ X6.out.lt))
     have Y8 := Lib.hid (Y6.out.keep (l8.block _ Y6.out.lt))
     have L8 := Lib.hid (L6.out.trans (l8.mono L6.out.size))
     have HD8 := Lib.hid (HD.out.below l8)
     have B8 := Lib.hid b8
     clear b8 l8 X6 L6)
  | (with_reducible show wpList _ _ _ (⟨some 96, Op.convert _ _ _, _, _, _, _⟩ :: _) _ _
     refine wpList_string_w rfl _ rfl pE _ cE rfl _ B8.out ?_
     clear B8)
  | (with_reducible show wpList _ _ _ (⟨some 98, Op.convert _ _ _, _, _, _, _⟩ :: _) _ _
     refine wpList_string_w rfl _ rfl (some ⟨PB, po, none⟩) n c rfl G (HP.out _ L8.out) ?_
     have q1 := HEQ.out
     have q2 := HNE.out)
  | (with_reducible show wpList _ _ _ (⟨some 102, Op.load cmT _, _, _, _, _⟩ :: _) _ _
     refine wpList_boxA_loadw rowCm _ rfl rfl w1.heap.size (cmA none 0 0 ⟨g0, g1, v2, v3, ⟨g6, 0, vk, vn, g23, g24 == 1⟩⟩) (cmA_size _ _ _ _) rfl Y8.out ?_)
  | (with_reducible show wpList _ _ _ (⟨_, Op.store cmT (.tmp 2) _, _, _, _, none⟩ :: _) _ _
     refine wpList_boxA_put rowCm rfl _ _ rfl rfl w.heap.size (cmA none 0 0 ⟨g0, g1, v2, v3, ⟨g6, 0, vk, vn, g23, g24 == 1⟩⟩) _ (cmA_size _ _ _ _) (cmA_one _ _ _ _) (cmA_size _ _ _ _) rfl rfl X8.out ?_
     intro w9 x9 k9 s9
     have X9 := Lib.hid x9
     have L9 := Lib.hid (low_put L8.out (Nat.le_refl _) k9)
     have D9 := Lib.hid (show BytesAt w9 none 0 (dataF G) from .inl rfl)
     clear x9 k9 s9 X8 L8))
  exact bodyPost_ret (results_cell_row_tmp rfl _ _ w.heap.size cmT (cmA none 0 0 ⟨g0, g1, v2, v3, ⟨g6, 0, vk, vn, g23, g24 == 1⟩⟩) (0, 0) _ rfl X9.out Try.underlying26 rfl (by rw [cmA_size]; exact rowCm.size)) rfl ⟨none, 0, rfl, D9.out, L9.out⟩
set_option maxRecDepth 100000 in
set_option maxHeartbeats 16000000 in
theorem refDecode_other_bad {w : World} {p : Option Addr} {n c : Nat} {G : Nat → Nat} (hp : BytesAt w p n G) (hG : ∀ j, G j < 256) (hc : n ≤ c) (hn : n ≤ 100000) (h6 : 6 ≤ n) (hk : ((G 0 : Nat) : Int) ≠ 2) (hk6 : ((G 0 : Nat) : Int) ≠ 6) (hgd : goodC (rawC G) (rawN G n) = false) :
    Calls Try.prog 19 #[.slice p n c] w fun e w' => e = .returned (.tuple #[.agg (cmA none 0 0 zeroCm), .bool false]) ∧ Below w.heap.size w w' := by
  have HGD := Lib.hid hgd
  have HDF := Lib.hid (show ∀ j, dataF G j = G (6 + j) from fun j => by unfold dataF; rfl)
  clear hgd
  have HP := Lib.hid (fun (W : World) (hb : Below w.heap.size w W) => hp.below hb)
  have f1 : decide ((n : Int) < 6) = false := by simp; omega
  have f2 : decide (n < 6) = false := by simp; omega
  obtain ⟨PB, po, rfl, hPB, hcl⟩ : ∃ B o, p = some ⟨B, o, none⟩ ∧ B < w.heap.size ∧ Cells w B o n G := by
    rcases hp with h | h
    · omega
    · exact h
  have HK0 := Lib.hid (show 0 < n by omega)
  have HB0 := Lib.hid (show 0 ≤ ((G 0 : Nat) : Int) ∧ ((G 0 : Nat) : Int) < 256 by have := hG 0; omega)
  have CC0 := Lib.hid (hcl 0 (by omega))
  have HK1 := Lib.hid (show 1 < n by omega)
  have HB1 := Lib.hid (show 0 ≤ ((G 1 : Nat) : Int) ∧ ((G 1 : Nat) : Int) < 256 by have := hG 1; omega)
  have CC1 := Lib.hid (hcl 1 (by omega))
  have HK2 := Lib.hid (show 2 < n by omega)
  have HB2 := Lib.hid (show 0 ≤ ((G 2 : Nat) : Int) ∧ ((G 2 : Nat) : Int) < 256 by have := hG 2; omega)
  have CC2 := Lib.hid (hcl 2 (by omega))
  have HK3 := Lib.hid (show 3 < n by omega)
  have HB3 := Lib.hid (show 0 ≤ ((G 3 : Nat) : Int) ∧ ((G 3 : Nat) : Int) < 256 by have := hG 3; omega)
  have CC3 := Lib.hid (hcl 3 (by omega))
  have HK4 := Lib.hid (show 4 < n by omega)
  have HB4 := Lib.hid (show 0 ≤ ((G 4 : Nat) : Int) ∧ ((G 4 : Nat) : Int) < 256 by have := hG 4; omega)
  have CC4 := Lib.hid (hcl 4 (by omega))
  have HK5 := Lib.hid (show 5 < n by omega)
  have HB5 := Lib.hid (show 0 ≤ ((G 5 : Nat) : Int) ∧ ((G 5 : Nat) : Int) < 256 by have := hG 5; omega)
  have CC5 := Lib.hid (hcl 5 (by omega))
  have HM2 := Lib.hid (show IntKind.i64.wrap (((G 2 : Nat) : Int) * 256) = ((G 2 : Nat) : Int) * 256 from IntWalk.i64_in _ (by have := hG 2; omega))
  have HM4 := Lib.hid (show IntKind.i64.wrap (((G 4 : Nat) : Int) * 256) = ((G 4 : Nat) : Int) * 256 from IntWalk.i64_in _ (by have := hG 4; omega))
  have HV2 := Lib.hid (show IntKind.i64.wrap (((G 2 : Nat) : Int) * 256 + ((G 3 : Nat) : Int)) = ((valN 2 (fun j => G (2 + j)) : Nat) : Int) by rw [valN_pair G 2]; exact IntWalk.i64_in _ (by have := hG 2; have := hG 3; omega))
  have HV3 := Lib.hid (show IntKind.i64.wrap (((G 4 : Nat) : Int) * 256 + ((G 5 : Nat) : Int)) = ((valN 2 (fun j => G (4 + j)) : Nat) : Int) by rw [valN_pair G 4]; exact IntWalk.i64_in _ (by have := hG 4; have := hG 5; omega))
  have HPB0 := Lib.hid hPB
  have HR := Lib.hid (show rawC G = ⟨(G 0 : Int), (G 1 : Int), ((valN 2 (fun j => G (2 + j)) : Nat) : Int), ((valN 2 (fun j => G (4 + j)) : Nat) : Int), zeroOp⟩ by unfold rawC; rw [show (((G 0 : Nat) : Int) == 6) = false by simpa using hk6]; rfl)
  have HRN := Lib.hid (show rawN G n = 0 by unfold rawN; rw [show (((G 0 : Nat) : Int) == 2) = false by simpa using hk]; rfl)
  have e2 : (((G 0 : Nat) : Int) == 2) = false := by simpa using hk
  have e6 : (((G 0 : Nat) : Int) == 6) = false := by simpa using hk6
  have HNC := Lib.hid hc
  have HC6 := Lib.hid (show 6 ≤ n by omega)
  have HN := Lib.hid hn
  have HGS := Lib.hid (show ∀ j, j < n → G j < 256 from fun j _ => hG j)
  clear hp hG hc hn h6 hk hk6 hPB hcl
  generalize ((G 0 : Nat) : Int) = g0 at *
  generalize ((G 1 : Nat) : Int) = g1 at *
  generalize ((G 2 : Nat) : Int) = g2 at *
  generalize ((G 3 : Nat) : Int) = g3 at *
  generalize ((G 4 : Nat) : Int) = g4 at *
  generalize ((G 5 : Nat) : Int) = g5 at *
  generalize ((valN 2 (fun j => G (2 + j)) : Nat) : Int) = v2 at *
  generalize ((valN 2 (fun j => G (4 + j)) : Nat) : Int) = v3 at *
  rw [HR.out, HRN.out] at HGD
  go_enter Try.func19, Try.ntmps19
  go_wp2_with (first
  | (with_reducible show wpList _ _ _ (⟨some 2, Op.alloc cmT, _, _, _, _⟩ :: _) _ _
     refine wpList_boxA_new rowCm rfl rfl w.heap.size rfl ?_
     intro w1 x1 l1 s1
     have X1 := Lib.hid x1
     have L1 := Lib.hid l1
     clear x1 l1 s1))
  have CB0 := Lib.hid ((L1.out.cell (p := ⟨PB, po + 0, none⟩) HPB0.out).trans CC0.out)
  have CB1 := Lib.hid ((L1.out.cell (p := ⟨PB, po + 1, none⟩) HPB0.out).trans CC1.out)
  have CB2 := Lib.hid ((L1.out.cell (p := ⟨PB, po + 2, none⟩) HPB0.out).trans CC2.out)
  have CB3 := Lib.hid ((L1.out.cell (p := ⟨PB, po + 3, none⟩) HPB0.out).trans CC3.out)
  have CB4 := Lib.hid ((L1.out.cell (p := ⟨PB, po + 4, none⟩) HPB0.out).trans CC4.out)
  have CB5 := Lib.hid ((L1.out.cell (p := ⟨PB, po + 5, none⟩) HPB0.out).trans CC5.out)
  have HPB := Lib.hid (Nat.lt_of_lt_of_le HPB0.out L1.out.size)
  refine wp_region_sched [(0, true), (1, true), (2, true), (3, true), (4, true), (5, true), (6, true), (7, true), (8, true), (9, true), (10, true), (11, true), (12, true), (13, true), (14, true), (15, true), (16, true), (17, true), (18, true), (19, true), (20, true), (21, true), (22, true), (23, true), (24, true), (25, true), (26, true), (27, true), (28, true), (29, false), (30, false)] (fun V => V.heap[PB]? = w1.heap[PB]?) (by kernel_rfl) (by kernel_rfl) (show w1.drew.heap[PB]? = w1.heap[PB]? from rfl) ?_
  refine walk_float rfl rfl (fun K hK => ?_)
  refine gives_move _ rfl ?_
  go_simp
  refine hK _ ?_
  clear hK K
  refine walk_float rfl rfl (fun K hK => ?_)
  refine gives_at _ _ rfl PB po n c 0 0 rfl rfl rfl HK0.out ?_
  go_simp
  refine hK _ ?_
  clear hK K
  refine walk_float rfl rfl (fun K hK => ?_)
  refine gives_cell 5 _ rfl ⟨PB, po + 0, none⟩ (.int .u8 g0) rfl box_byte (fun V hV => (World.cell?_of_block (w := w1) (a := ⟨PB, po + 0, none⟩) hV).trans CB0.out) ?_
  go_simp
  refine hK _ ?_
  clear hK K
  refine walk_float rfl rfl (fun K hK => ?_)
  refine gives_to_int _ rfl g0 rfl HB0.out ?_
  go_simp
  refine hK _ ?_
  clear hK K
  refine walk_float rfl rfl (fun K hK => ?_)
  refine gives_move _ rfl ?_
  go_simp
  refine hK _ ?_
  clear hK K
  refine walk_float rfl rfl (fun K hK => ?_)
  refine gives_at _ _ rfl PB po n c 1 1 rfl rfl rfl HK1.out ?_
  go_simp
  refine hK _ ?_
  clear hK K
  refine walk_float rfl rfl (fun K hK => ?_)
  refine gives_cell 5 _ rfl ⟨PB, po + 1, none⟩ (.int .u8 g1) rfl box_byte (fun V hV => (World.cell?_of_block (w := w1) (a := ⟨PB, po + 1, none⟩) hV).trans CB1.out) ?_
  go_simp
  refine hK _ ?_
  clear hK K
  refine walk_float rfl rfl (fun K hK => ?_)
  refine gives_to_int _ rfl g1 rfl HB1.out ?_
  go_simp
  refine hK _ ?_
  clear hK K
  refine walk_float rfl rfl (fun K hK => ?_)
  refine gives_move _ rfl ?_
  go_simp
  refine hK _ ?_
  clear hK K
  refine walk_float rfl rfl (fun K hK => ?_)
  refine gives_at _ _ rfl PB po n c 2 2 rfl rfl rfl HK2.out ?_
  go_simp
  refine hK _ ?_
  clear hK K
  refine walk_float rfl rfl (fun K hK => ?_)
  refine gives_cell 5 _ rfl ⟨PB, po + 2, none⟩ (.int .u8 g2) rfl box_byte (fun V hV => (World.cell?_of_block (w := w1) (a := ⟨PB, po + 2, none⟩) hV).trans CB2.out) ?_
  go_simp
  refine hK _ ?_
  clear hK K
  refine walk_float rfl rfl (fun K hK => ?_)
  refine gives_to_int _ rfl g2 rfl HB2.out ?_
  go_simp
  refine hK _ ?_
  clear hK K
  refine walk_float rfl rfl (fun K hK => ?_)
  refine gives_int_mul _ _ rfl g2 256 (g2 * 256) rfl rfl HM2.out ?_
  go_simp
  refine hK _ ?_
  clear hK K
  refine walk_float rfl rfl (fun K hK => ?_)
  refine gives_move _ rfl ?_
  go_simp
  refine hK _ ?_
  clear hK K
  refine walk_float rfl rfl (fun K hK => ?_)
  refine gives_at _ _ rfl PB po n c 3 3 rfl rfl rfl HK3.out ?_
  go_simp
  refine hK _ ?_
  clear hK K
  refine walk_float rfl rfl (fun K hK => ?_)
  refine gives_cell 5 _ rfl ⟨PB, po + 3, none⟩ (.int .u8 g3) rfl box_byte (fun V hV => (World.cell?_of_block (w := w1) (a := ⟨PB, po + 3, none⟩) hV).trans CB3.out) ?_
  go_simp
  refine hK _ ?_
  clear hK K
  refine walk_float rfl rfl (fun K hK => ?_)
  refine gives_to_int _ rfl g3 rfl HB3.out ?_
  go_simp
  refine hK _ ?_
  clear hK K
  refine walk_float rfl rfl (fun K hK => ?_)
  refine gives_int_sum _ _ rfl (g2 * 256) g3 v2 rfl rfl HV2.out ?_
  go_simp
  refine hK _ ?_
  clear hK K
  refine walk_float rfl rfl (fun K hK => ?_)
  refine gives_move _ rfl ?_
  go_simp
  refine hK _ ?_
  clear hK K
  refine walk_float rfl rfl (fun K hK => ?_)
  refine gives_at _ _ rfl PB po n c 4 4 rfl rfl rfl HK4.out ?_
  go_simp
  refine hK _ ?_
  clear hK K
  refine walk_float rfl rfl (fun K hK => ?_)
  refine gives_cell 5 _ rfl ⟨PB, po + 4, none⟩ (.int .u8 g4) rfl box_byte (fun V hV => (World.cell?_of_block (w := w1) (a := ⟨PB, po + 4, none⟩) hV).trans CB4.out) ?_
  go_simp
  refine hK _ ?_
  clear hK K
  refine walk_float rfl rfl (fun K hK => ?_)
  refine gives_to_int _ rfl g4 rfl HB4.out ?_
  go_simp
  refine hK _ ?_
  clear hK K
  refine walk_float rfl rfl (fun K hK => ?_)
  refine gives_int_mul _ _ rfl g4 256 (g4 * 256) rfl rfl HM4.out ?_
  go_simp
  refine hK _ ?_
  clear hK K
  refine walk_float rfl rfl (fun K hK => ?_)
  refine gives_move _ rfl ?_
  go_simp
  refine hK _ ?_
  clear hK K
  refine walk_float rfl rfl (fun K hK => ?_)
  refine gives_at _ _ rfl PB po n c 5 5 rfl rfl rfl HK5.out ?_
  go_simp
  refine hK _ ?_
  clear hK K
  refine walk_float rfl rfl (fun K hK => ?_)
  refine gives_cell 5 _ rfl ⟨PB, po + 5, none⟩ (.int .u8 g5) rfl box_byte (fun V hV => (World.cell?_of_block (w := w1) (a := ⟨PB, po + 5, none⟩) hV).trans CB5.out) ?_
  go_simp
  refine hK _ ?_
  clear hK K
  refine walk_float rfl rfl (fun K hK => ?_)
  refine gives_to_int _ rfl g5 rfl HB5.out ?_
  go_simp
  refine hK _ ?_
  clear hK K
  refine walk_float rfl rfl (fun K hK => ?_)
  refine gives_int_sum _ _ rfl (g4 * 256) g5 v3 rfl rfl HV3.out ?_
  go_simp
  refine hK _ ?_
  clear hK K
  refine walk_float rfl rfl (fun K hK => ?_)
  refine gives_cm4 _ _ _ _ rfl g0 g1 v2 v3 rfl rfl rfl rfl ?_
  go_simp
  refine hK _ ?_
  clear hK K
  refine walk_done rfl rfl (fun K hK => ?_)
  refine done_boxA_new rowCm rfl ?_
  intro w4 x4 l4 s4
  have l4 : Below w1.heap.size w1 w4 := (Below.refl _ w1).drew.trans l4
  have Y4 := Lib.hid (show BoxA w4 w1.heap.size cmT (cmA none 0 0 zeroCm) from x4)
  have X4 := Lib.hid (X1.out.keep (l4.block _ X1.out.lt))
  have L4 := Lib.hid (L1.out.trans (l4.mono L1.out.size))
  have hb4 : w4.heap[PB]? = w1.heap[PB]? := l4.block PB HPB.out
  have HB4 := Lib.hid hb4
  have M4 := Lib.hid l4.size
  clear x4 l4 s4
  refine ⟨hb4, ?_⟩
  go_simp
  refine hK _ _ ?_
  clear hK K hb4
  refine walk_done rfl rfl (fun K hK => ?_)
  refine done_boxA_put rowCm _ _ rfl w1.heap.size (cmA none 0 0 ⟨g0, g1, v2, v3, zeroOp⟩) _ (cmA_size _ _ _ _) (cmA_one _ _ _ _) (cmA_size _ _ _ _) rfl rfl Y4.out ?_
  intro w5 x5 k5 s5
  have Y5 := Lib.hid x5
  have X5 := Lib.hid (X4.out.keep (k5.block _ X4.out.lt (Nat.ne_of_lt X1.out.lt)))
  have L5 := Lib.hid (low_put L4.out L1.out.size k5)
  have hb5 : w5.heap[PB]? = w1.heap[PB]? := (k5.block PB (Nat.lt_of_lt_of_le HPB.out M4.out) (Nat.ne_of_lt HPB.out)).trans HB4.out
  have XL := Lib.hid X1.out.lt
  have HB5 := Lib.hid hb5
  clear x5 k5 s5
  refine ⟨hb5, ?_⟩
  go_simp
  refine hK _ _ ?_
  clear hK K hb5
  refine walk_nil ?_
  obtain ⟨c0, c1, c2, c3, c4, c10⟩ := boxCm Y5.out
  clear X1 L1 X4 Y4 L4 HB4
  have Y6 := Lib.hid Y5.out
  have X6 := Lib.hid X5.out
  have L6 := Lib.hid L5.out
  have HD := Lib.hid (show BytesAt w5 none 0 (dataF G) from .inl rfl)
  clear Y5 X5 L5
  go_wp2_with (first
  | (with_reducible show wpList _ _ _ (⟨some 88, Op.load cmT _, _, _, _, _⟩ :: _) _ _
     refine wpList_boxA_loadw rowCm _ rfl rfl w1.heap.size (cmA none 0 0 ⟨g0, g1, v2, v3, zeroOp⟩) (cmA_size _ _ _ _) rfl Y6.out ?_)
  | (go_at_call 12
     refine (refEncode_no HGD.out).mono ?_; rintro e w8 ⟨rfl, l8⟩
     have X8 := Lib.hid (X6.out.keep (l8.block _ X6.out.lt))
     have L8 := Lib.hid (L6.out.trans (l8.mono L6.out.size))
     clear l8 X6 L6)
  | (with_reducible show wpList _ _ _ (⟨_, Op.build cmT _, _, _, _, none⟩ :: _) _ _
     refine wpList_build_any rfl cmT #[] #[] (.agg (cmA none 0 0 zeroCm)) rfl (by simp) (fun w => run_build w cmT #[] _ (by kernel_rfl)) ?_)
  | (with_reducible show wpList _ _ _ (⟨_, Op.store cmT (.tmp 2) _, _, _, _, none⟩ :: _) _ _
     refine wpList_boxA_put rowCm rfl _ _ rfl rfl w.heap.size (cmA none 0 0 zeroCm) _ (cmA_size _ _ _ _) (cmA_one _ _ _ _) (cmA_size _ _ _ _) rfl rfl X8.out ?_
     intro w9 x9 k9 s9
     have X9 := Lib.hid x9
     have L9 := Lib.hid (low_put L8.out (Nat.le_refl _) k9)
     clear x9 k9 s9 X8 L8))
  exact bodyPost_ret (results_cell_row_tmp rfl _ _ w.heap.size cmT (cmA none 0 0 zeroCm) (0, 0) _ rfl X9.out Try.underlying26 rfl (by rw [cmA_size]; exact rowCm.size)) rfl ⟨rfl, L9.out⟩
set_option maxRecDepth 100000 in
set_option maxHeartbeats 16000000 in
theorem refDecode_other_other {w : World} {p : Option Addr} {n c : Nat} {G : Nat → Nat} (hp : BytesAt w p n G) (hG : ∀ j, G j < 256) (hc : n ≤ c) (hn : n ≤ 100000) (h6 : 6 ≤ n) (hk : ((G 0 : Nat) : Int) ≠ 2) (hk6 : ((G 0 : Nat) : Int) ≠ 6) (hgd : goodC (rawC G) (rawN G n) = true) (heq : ¬ mk (lenC (rawC G) + rawN G n) (allC (rawC G) (dataF G)) = mk n G) :
    Calls Try.prog 19 #[.slice p n c] w fun e w' => e = .returned (.tuple #[.agg (cmA none 0 0 zeroCm), .bool false]) ∧ Below w.heap.size w w' := by
  have HGD := Lib.hid hgd
  have HDF := Lib.hid (show ∀ j, dataF G j = G (6 + j) from fun j => by unfold dataF; rfl)
  have HAL : ∀ j, j < lenC (rawC G) + rawN G n → allC (rawC G) (dataF G) j < 256 := fun j hj => allC_lt (x := rawC G) (g := dataF G) (n := rawN G n) (fun i _ => by show dataF G i < 256; unfold dataF; exact hG _) j hj
  have HEQ := Lib.hid (str_eq HAL (fun j (_ : j < n) => hG j))
  have HNE := Lib.hid (str_neq HAL (fun j (_ : j < n) => hG j))
  rw [decide_eq_false heq] at HEQ HNE
  clear HAL heq
  clear hgd
  have HP := Lib.hid (fun (W : World) (hb : Below w.heap.size w W) => hp.below hb)
  have f1 : decide ((n : Int) < 6) = false := by simp; omega
  have f2 : decide (n < 6) = false := by simp; omega
  obtain ⟨PB, po, rfl, hPB, hcl⟩ : ∃ B o, p = some ⟨B, o, none⟩ ∧ B < w.heap.size ∧ Cells w B o n G := by
    rcases hp with h | h
    · omega
    · exact h
  have HK0 := Lib.hid (show 0 < n by omega)
  have HB0 := Lib.hid (show 0 ≤ ((G 0 : Nat) : Int) ∧ ((G 0 : Nat) : Int) < 256 by have := hG 0; omega)
  have CC0 := Lib.hid (hcl 0 (by omega))
  have HK1 := Lib.hid (show 1 < n by omega)
  have HB1 := Lib.hid (show 0 ≤ ((G 1 : Nat) : Int) ∧ ((G 1 : Nat) : Int) < 256 by have := hG 1; omega)
  have CC1 := Lib.hid (hcl 1 (by omega))
  have HK2 := Lib.hid (show 2 < n by omega)
  have HB2 := Lib.hid (show 0 ≤ ((G 2 : Nat) : Int) ∧ ((G 2 : Nat) : Int) < 256 by have := hG 2; omega)
  have CC2 := Lib.hid (hcl 2 (by omega))
  have HK3 := Lib.hid (show 3 < n by omega)
  have HB3 := Lib.hid (show 0 ≤ ((G 3 : Nat) : Int) ∧ ((G 3 : Nat) : Int) < 256 by have := hG 3; omega)
  have CC3 := Lib.hid (hcl 3 (by omega))
  have HK4 := Lib.hid (show 4 < n by omega)
  have HB4 := Lib.hid (show 0 ≤ ((G 4 : Nat) : Int) ∧ ((G 4 : Nat) : Int) < 256 by have := hG 4; omega)
  have CC4 := Lib.hid (hcl 4 (by omega))
  have HK5 := Lib.hid (show 5 < n by omega)
  have HB5 := Lib.hid (show 0 ≤ ((G 5 : Nat) : Int) ∧ ((G 5 : Nat) : Int) < 256 by have := hG 5; omega)
  have CC5 := Lib.hid (hcl 5 (by omega))
  have HM2 := Lib.hid (show IntKind.i64.wrap (((G 2 : Nat) : Int) * 256) = ((G 2 : Nat) : Int) * 256 from IntWalk.i64_in _ (by have := hG 2; omega))
  have HM4 := Lib.hid (show IntKind.i64.wrap (((G 4 : Nat) : Int) * 256) = ((G 4 : Nat) : Int) * 256 from IntWalk.i64_in _ (by have := hG 4; omega))
  have HV2 := Lib.hid (show IntKind.i64.wrap (((G 2 : Nat) : Int) * 256 + ((G 3 : Nat) : Int)) = ((valN 2 (fun j => G (2 + j)) : Nat) : Int) by rw [valN_pair G 2]; exact IntWalk.i64_in _ (by have := hG 2; have := hG 3; omega))
  have HV3 := Lib.hid (show IntKind.i64.wrap (((G 4 : Nat) : Int) * 256 + ((G 5 : Nat) : Int)) = ((valN 2 (fun j => G (4 + j)) : Nat) : Int) by rw [valN_pair G 4]; exact IntWalk.i64_in _ (by have := hG 4; have := hG 5; omega))
  have HPB0 := Lib.hid hPB
  have HR := Lib.hid (show rawC G = ⟨(G 0 : Int), (G 1 : Int), ((valN 2 (fun j => G (2 + j)) : Nat) : Int), ((valN 2 (fun j => G (4 + j)) : Nat) : Int), zeroOp⟩ by unfold rawC; rw [show (((G 0 : Nat) : Int) == 6) = false by simpa using hk6]; rfl)
  have HRN := Lib.hid (show rawN G n = 0 by unfold rawN; rw [show (((G 0 : Nat) : Int) == 2) = false by simpa using hk]; rfl)
  have e2 : (((G 0 : Nat) : Int) == 2) = false := by simpa using hk
  have e6 : (((G 0 : Nat) : Int) == 6) = false := by simpa using hk6
  have HNC := Lib.hid hc
  have HC6 := Lib.hid (show 6 ≤ n by omega)
  have HN := Lib.hid hn
  have HGS := Lib.hid (show ∀ j, j < n → G j < 256 from fun j _ => hG j)
  clear hp hG hc hn h6 hk hk6 hPB hcl
  generalize ((G 0 : Nat) : Int) = g0 at *
  generalize ((G 1 : Nat) : Int) = g1 at *
  generalize ((G 2 : Nat) : Int) = g2 at *
  generalize ((G 3 : Nat) : Int) = g3 at *
  generalize ((G 4 : Nat) : Int) = g4 at *
  generalize ((G 5 : Nat) : Int) = g5 at *
  generalize ((valN 2 (fun j => G (2 + j)) : Nat) : Int) = v2 at *
  generalize ((valN 2 (fun j => G (4 + j)) : Nat) : Int) = v3 at *
  rw [HR.out, HRN.out] at HGD HEQ HNE
  rw [Nat.add_zero] at HEQ HNE
  go_enter Try.func19, Try.ntmps19
  go_wp2_with (first
  | (with_reducible show wpList _ _ _ (⟨some 2, Op.alloc cmT, _, _, _, _⟩ :: _) _ _
     refine wpList_boxA_new rowCm rfl rfl w.heap.size rfl ?_
     intro w1 x1 l1 s1
     have X1 := Lib.hid x1
     have L1 := Lib.hid l1
     clear x1 l1 s1))
  have CB0 := Lib.hid ((L1.out.cell (p := ⟨PB, po + 0, none⟩) HPB0.out).trans CC0.out)
  have CB1 := Lib.hid ((L1.out.cell (p := ⟨PB, po + 1, none⟩) HPB0.out).trans CC1.out)
  have CB2 := Lib.hid ((L1.out.cell (p := ⟨PB, po + 2, none⟩) HPB0.out).trans CC2.out)
  have CB3 := Lib.hid ((L1.out.cell (p := ⟨PB, po + 3, none⟩) HPB0.out).trans CC3.out)
  have CB4 := Lib.hid ((L1.out.cell (p := ⟨PB, po + 4, none⟩) HPB0.out).trans CC4.out)
  have CB5 := Lib.hid ((L1.out.cell (p := ⟨PB, po + 5, none⟩) HPB0.out).trans CC5.out)
  have HPB := Lib.hid (Nat.lt_of_lt_of_le HPB0.out L1.out.size)
  refine wp_region_sched [(0, true), (1, true), (2, true), (3, true), (4, true), (5, true), (6, true), (7, true), (8, true), (9, true), (10, true), (11, true), (12, true), (13, true), (14, true), (15, true), (16, true), (17, true), (18, true), (19, true), (20, true), (21, true), (22, true), (23, true), (24, true), (25, true), (26, true), (27, true), (28, true), (29, false), (30, false)] (fun V => V.heap[PB]? = w1.heap[PB]?) (by kernel_rfl) (by kernel_rfl) (show w1.drew.heap[PB]? = w1.heap[PB]? from rfl) ?_
  refine walk_float rfl rfl (fun K hK => ?_)
  refine gives_move _ rfl ?_
  go_simp
  refine hK _ ?_
  clear hK K
  refine walk_float rfl rfl (fun K hK => ?_)
  refine gives_at _ _ rfl PB po n c 0 0 rfl rfl rfl HK0.out ?_
  go_simp
  refine hK _ ?_
  clear hK K
  refine walk_float rfl rfl (fun K hK => ?_)
  refine gives_cell 5 _ rfl ⟨PB, po + 0, none⟩ (.int .u8 g0) rfl box_byte (fun V hV => (World.cell?_of_block (w := w1) (a := ⟨PB, po + 0, none⟩) hV).trans CB0.out) ?_
  go_simp
  refine hK _ ?_
  clear hK K
  refine walk_float rfl rfl (fun K hK => ?_)
  refine gives_to_int _ rfl g0 rfl HB0.out ?_
  go_simp
  refine hK _ ?_
  clear hK K
  refine walk_float rfl rfl (fun K hK => ?_)
  refine gives_move _ rfl ?_
  go_simp
  refine hK _ ?_
  clear hK K
  refine walk_float rfl rfl (fun K hK => ?_)
  refine gives_at _ _ rfl PB po n c 1 1 rfl rfl rfl HK1.out ?_
  go_simp
  refine hK _ ?_
  clear hK K
  refine walk_float rfl rfl (fun K hK => ?_)
  refine gives_cell 5 _ rfl ⟨PB, po + 1, none⟩ (.int .u8 g1) rfl box_byte (fun V hV => (World.cell?_of_block (w := w1) (a := ⟨PB, po + 1, none⟩) hV).trans CB1.out) ?_
  go_simp
  refine hK _ ?_
  clear hK K
  refine walk_float rfl rfl (fun K hK => ?_)
  refine gives_to_int _ rfl g1 rfl HB1.out ?_
  go_simp
  refine hK _ ?_
  clear hK K
  refine walk_float rfl rfl (fun K hK => ?_)
  refine gives_move _ rfl ?_
  go_simp
  refine hK _ ?_
  clear hK K
  refine walk_float rfl rfl (fun K hK => ?_)
  refine gives_at _ _ rfl PB po n c 2 2 rfl rfl rfl HK2.out ?_
  go_simp
  refine hK _ ?_
  clear hK K
  refine walk_float rfl rfl (fun K hK => ?_)
  refine gives_cell 5 _ rfl ⟨PB, po + 2, none⟩ (.int .u8 g2) rfl box_byte (fun V hV => (World.cell?_of_block (w := w1) (a := ⟨PB, po + 2, none⟩) hV).trans CB2.out) ?_
  go_simp
  refine hK _ ?_
  clear hK K
  refine walk_float rfl rfl (fun K hK => ?_)
  refine gives_to_int _ rfl g2 rfl HB2.out ?_
  go_simp
  refine hK _ ?_
  clear hK K
  refine walk_float rfl rfl (fun K hK => ?_)
  refine gives_int_mul _ _ rfl g2 256 (g2 * 256) rfl rfl HM2.out ?_
  go_simp
  refine hK _ ?_
  clear hK K
  refine walk_float rfl rfl (fun K hK => ?_)
  refine gives_move _ rfl ?_
  go_simp
  refine hK _ ?_
  clear hK K
  refine walk_float rfl rfl (fun K hK => ?_)
  refine gives_at _ _ rfl PB po n c 3 3 rfl rfl rfl HK3.out ?_
  go_simp
  refine hK _ ?_
  clear hK K
  refine walk_float rfl rfl (fun K hK => ?_)
  refine gives_cell 5 _ rfl ⟨PB, po + 3, none⟩ (.int .u8 g3) rfl box_byte (fun V hV => (World.cell?_of_block (w := w1) (a := ⟨PB, po + 3, none⟩) hV).trans CB3.out) ?_
  go_simp
  refine hK _ ?_
  clear hK K
  refine walk_float rfl rfl (fun K hK => ?_)
  refine gives_to_int _ rfl g3 rfl HB3.out ?_
  go_simp
  refine hK _ ?_
  clear hK K
  refine walk_float rfl rfl (fun K hK => ?_)
  refine gives_int_sum _ _ rfl (g2 * 256) g3 v2 rfl rfl HV2.out ?_
  go_simp
  refine hK _ ?_
  clear hK K
  refine walk_float rfl rfl (fun K hK => ?_)
  refine gives_move _ rfl ?_
  go_simp
  refine hK _ ?_
  clear hK K
  refine walk_float rfl rfl (fun K hK => ?_)
  refine gives_at _ _ rfl PB po n c 4 4 rfl rfl rfl HK4.out ?_
  go_simp
  refine hK _ ?_
  clear hK K
  refine walk_float rfl rfl (fun K hK => ?_)
  refine gives_cell 5 _ rfl ⟨PB, po + 4, none⟩ (.int .u8 g4) rfl box_byte (fun V hV => (World.cell?_of_block (w := w1) (a := ⟨PB, po + 4, none⟩) hV).trans CB4.out) ?_
  go_simp
  refine hK _ ?_
  clear hK K
  refine walk_float rfl rfl (fun K hK => ?_)
  refine gives_to_int _ rfl g4 rfl HB4.out ?_
  go_simp
  refine hK _ ?_
  clear hK K
  refine walk_float rfl rfl (fun K hK => ?_)
  refine gives_int_mul _ _ rfl g4 256 (g4 * 256) rfl rfl HM4.out ?_
  go_simp
  refine hK _ ?_
  clear hK K
  refine walk_float rfl rfl (fun K hK => ?_)
  refine gives_move _ rfl ?_
  go_simp
  refine hK _ ?_
  clear hK K
  refine walk_float rfl rfl (fun K hK => ?_)
  refine gives_at _ _ rfl PB po n c 5 5 rfl rfl rfl HK5.out ?_
  go_simp
  refine hK _ ?_
  clear hK K
  refine walk_float rfl rfl (fun K hK => ?_)
  refine gives_cell 5 _ rfl ⟨PB, po + 5, none⟩ (.int .u8 g5) rfl box_byte (fun V hV => (World.cell?_of_block (w := w1) (a := ⟨PB, po + 5, none⟩) hV).trans CB5.out) ?_
  go_simp
  refine hK _ ?_
  clear hK K
  refine walk_float rfl rfl (fun K hK => ?_)
  refine gives_to_int _ rfl g5 rfl HB5.out ?_
  go_simp
  refine hK _ ?_
  clear hK K
  refine walk_float rfl rfl (fun K hK => ?_)
  refine gives_int_sum _ _ rfl (g4 * 256) g5 v3 rfl rfl HV3.out ?_
  go_simp
  refine hK _ ?_
  clear hK K
  refine walk_float rfl rfl (fun K hK => ?_)
  refine gives_cm4 _ _ _ _ rfl g0 g1 v2 v3 rfl rfl rfl rfl ?_
  go_simp
  refine hK _ ?_
  clear hK K
  refine walk_done rfl rfl (fun K hK => ?_)
  refine done_boxA_new rowCm rfl ?_
  intro w4 x4 l4 s4
  have l4 : Below w1.heap.size w1 w4 := (Below.refl _ w1).drew.trans l4
  have Y4 := Lib.hid (show BoxA w4 w1.heap.size cmT (cmA none 0 0 zeroCm) from x4)
  have X4 := Lib.hid (X1.out.keep (l4.block _ X1.out.lt))
  have L4 := Lib.hid (L1.out.trans (l4.mono L1.out.size))
  have hb4 : w4.heap[PB]? = w1.heap[PB]? := l4.block PB HPB.out
  have HB4 := Lib.hid hb4
  have M4 := Lib.hid l4.size
  clear x4 l4 s4
  refine ⟨hb4, ?_⟩
  go_simp
  refine hK _ _ ?_
  clear hK K hb4
  refine walk_done rfl rfl (fun K hK => ?_)
  refine done_boxA_put rowCm _ _ rfl w1.heap.size (cmA none 0 0 ⟨g0, g1, v2, v3, zeroOp⟩) _ (cmA_size _ _ _ _) (cmA_one _ _ _ _) (cmA_size _ _ _ _) rfl rfl Y4.out ?_
  intro w5 x5 k5 s5
  have Y5 := Lib.hid x5
  have X5 := Lib.hid (X4.out.keep (k5.block _ X4.out.lt (Nat.ne_of_lt X1.out.lt)))
  have L5 := Lib.hid (low_put L4.out L1.out.size k5)
  have hb5 : w5.heap[PB]? = w1.heap[PB]? := (k5.block PB (Nat.lt_of_lt_of_le HPB.out M4.out) (Nat.ne_of_lt HPB.out)).trans HB4.out
  have XL := Lib.hid X1.out.lt
  have HB5 := Lib.hid hb5
  clear x5 k5 s5
  refine ⟨hb5, ?_⟩
  go_simp
  refine hK _ _ ?_
  clear hK K hb5
  refine walk_nil ?_
  obtain ⟨c0, c1, c2, c3, c4, c10⟩ := boxCm Y5.out
  clear X1 L1 X4 Y4 L4 HB4
  have Y6 := Lib.hid Y5.out
  have X6 := Lib.hid X5.out
  have L6 := Lib.hid L5.out
  have HD := Lib.hid (show BytesAt w5 none 0 (dataF G) from .inl rfl)
  clear Y5 X5 L5
  go_wp2_with (first
  | (with_reducible show wpList _ _ _ (⟨some 88, Op.load cmT _, _, _, _, _⟩ :: _) _ _
     refine wpList_boxA_loadw rowCm _ rfl rfl w1.heap.size (cmA none 0 0 ⟨g0, g1, v2, v3, zeroOp⟩) (cmA_size _ _ _ _) rfl Y6.out ?_)
  | (go_at_call 12
     refine (refEncode_ok HD.out HGD.out).mono ?_; rintro e w8 ⟨pE, cE, rfl, b8, l8⟩
     have X8 := Lib.hid (X6.out.keep (l8.block _ X6.out.lt))
     have Y8 := Lib.hid (Y6.out.keep (l8.block _ Y6.out.lt))
     have L8 := Lib.hid (L6.out.trans (l8.mono L6.out.size))
     have HD8 := Lib.hid (HD.out.below l8)
     have B8 := Lib.hid b8
     clear b8 l8 X6 L6)
  | (with_reducible show wpList _ _ _ (⟨some 96, Op.convert _ _ _, _, _, _, _⟩ :: _) _ _
     refine wpList_string_w rfl _ rfl pE _ cE rfl _ B8.out ?_
     clear B8)
  | (with_reducible show wpList _ _ _ (⟨some 98, Op.convert _ _ _, _, _, _, _⟩ :: _) _ _
     refine wpList_string_w rfl _ rfl (some ⟨PB, po, none⟩) n c rfl G (HP.out _ L8.out) ?_
     have q1 := HEQ.out
     have q2 := HNE.out)
  | (with_reducible show wpList _ _ _ (⟨_, Op.build cmT _, _, _, _, none⟩ :: _) _ _
     refine wpList_build_any rfl cmT #[] #[] (.agg (cmA none 0 0 zeroCm)) rfl (by simp) (fun w => run_build w cmT #[] _ (by kernel_rfl)) ?_)
  | (with_reducible show wpList _ _ _ (⟨_, Op.store cmT (.tmp 2) _, _, _, _, none⟩ :: _) _ _
     refine wpList_boxA_put rowCm rfl _ _ rfl rfl w.heap.size (cmA none 0 0 zeroCm) _ (cmA_size _ _ _ _) (cmA_one _ _ _ _) (cmA_size _ _ _ _) rfl rfl X8.out ?_
     intro w9 x9 k9 s9
     have X9 := Lib.hid x9
     have L9 := Lib.hid (low_put L8.out (Nat.le_refl _) k9)
     clear x9 k9 s9 X8 L8))
  exact bodyPost_ret (results_cell_row_tmp rfl _ _ w.heap.size cmT (cmA none 0 0 zeroCm) (0, 0) _ rfl X9.out Try.underlying26 rfl (by rw [cmA_size]; exact rowCm.size)) rfl ⟨rfl, L9.out⟩
set_option maxRecDepth 100000 in
set_option maxHeartbeats 16000000 in
theorem refDecode_other_same {w : World} {p : Option Addr} {n c : Nat} {G : Nat → Nat} (hp : BytesAt w p n G) (hG : ∀ j, G j < 256) (hc : n ≤ c) (hn : n ≤ 100000) (h6 : 6 ≤ n) (hk : ((G 0 : Nat) : Int) ≠ 2) (hk6 : ((G 0 : Nat) : Int) ≠ 6) (hgd : goodC (rawC G) (rawN G n) = true) (heq : mk (lenC (rawC G) + rawN G n) (allC (rawC G) (dataF G)) = mk n G) :
    Calls Try.prog 19 #[.slice p n c] w fun e w' => ∃ q m, e = .returned (.tuple #[.agg (cmA q (rawN G n) m (rawC G)), .bool true]) ∧ BytesAt w' q (rawN G n) (dataF G) ∧ Below w.heap.size w w' := by
  have HGD := Lib.hid hgd
  have HDF := Lib.hid (show ∀ j, dataF G j = G (6 + j) from fun j => by unfold dataF; rfl)
  have HAL : ∀ j, j < lenC (rawC G) + rawN G n → allC (rawC G) (dataF G) j < 256 := fun j hj => allC_lt (x := rawC G) (g := dataF G) (n := rawN G n) (fun i _ => by show dataF G i < 256; unfold dataF; exact hG _) j hj
  have HEQ := Lib.hid (str_eq HAL (fun j (_ : j < n) => hG j))
  have HNE := Lib.hid (str_neq HAL (fun j (_ : j < n) => hG j))
  rw [decide_eq_true heq] at HEQ HNE
  clear HAL heq
  clear hgd
  have HP := Lib.hid (fun (W : World) (hb : Below w.heap.size w W) => hp.below hb)
  have f1 : decide ((n : Int) < 6) = false := by simp; omega
  have f2 : decide (n < 6) = false := by simp; omega
  obtain ⟨PB, po, rfl, hPB, hcl⟩ : ∃ B o, p = some ⟨B, o, none⟩ ∧ B < w.heap.size ∧ Cells w B o n G := by
    rcases hp with h | h
    · omega
    · exact h
  have HK0 := Lib.hid (show 0 < n by omega)
  have HB0 := Lib.hid (show 0 ≤ ((G 0 : Nat) : Int) ∧ ((G 0 : Nat) : Int) < 256 by have := hG 0; omega)
  have CC0 := Lib.hid (hcl 0 (by omega))
  have HK1 := Lib.hid (show 1 < n by omega)
  have HB1 := Lib.hid (show 0 ≤ ((G 1 : Nat) : Int) ∧ ((G 1 : Nat) : Int) < 256 by have := hG 1; omega)
  have CC1 := Lib.hid (hcl 1 (by omega))
  have HK2 := Lib.hid (show 2 < n by omega)
  have HB2 := Lib.hid (show 0 ≤ ((G 2 : Nat) : Int) ∧ ((G 2 : Nat) : Int) < 256 by have := hG 2; omega)
  have CC2 := Lib.hid (hcl 2 (by omega))
  have HK3 := Lib.hid (show 3 < n by omega)
  have HB3 := Lib.hid (show 0 ≤ ((G 3 : Nat) : Int) ∧ ((G 3 : Nat) : Int) < 256 by have := hG 3; omega)
  have CC3 := Lib.hid (hcl 3 (by omega))
  have HK4 := Lib.hid (show 4 < n by omega)
  have HB4 := Lib.hid (show 0 ≤ ((G 4 : Nat) : Int) ∧ ((G 4 : Nat) : Int) < 256 by have := hG 4; omega)
  have CC4 := Lib.hid (hcl 4 (by omega))
  have HK5 := Lib.hid (show 5 < n by omega)
  have HB5 := Lib.hid (show 0 ≤ ((G 5 : Nat) : Int) ∧ ((G 5 : Nat) : Int) < 256 by have := hG 5; omega)
  have CC5 := Lib.hid (hcl 5 (by omega))
  have HM2 := Lib.hid (show IntKind.i64.wrap (((G 2 : Nat) : Int) * 256) = ((G 2 : Nat) : Int) * 256 from IntWalk.i64_in _ (by have := hG 2; omega))
  have HM4 := Lib.hid (show IntKind.i64.wrap (((G 4 : Nat) : Int) * 256) = ((G 4 : Nat) : Int) * 256 from IntWalk.i64_in _ (by have := hG 4; omega))
  have HV2 := Lib.hid (show IntKind.i64.wrap (((G 2 : Nat) : Int) * 256 + ((G 3 : Nat) : Int)) = ((valN 2 (fun j => G (2 + j)) : Nat) : Int) by rw [valN_pair G 2]; exact IntWalk.i64_in _ (by have := hG 2; have := hG 3; omega))
  have HV3 := Lib.hid (show IntKind.i64.wrap (((G 4 : Nat) : Int) * 256 + ((G 5 : Nat) : Int)) = ((valN 2 (fun j => G (4 + j)) : Nat) : Int) by rw [valN_pair G 4]; exact IntWalk.i64_in _ (by have := hG 4; have := hG 5; omega))
  have HPB0 := Lib.hid hPB
  have HR := Lib.hid (show rawC G = ⟨(G 0 : Int), (G 1 : Int), ((valN 2 (fun j => G (2 + j)) : Nat) : Int), ((valN 2 (fun j => G (4 + j)) : Nat) : Int), zeroOp⟩ by unfold rawC; rw [show (((G 0 : Nat) : Int) == 6) = false by simpa using hk6]; rfl)
  have HRN := Lib.hid (show rawN G n = 0 by unfold rawN; rw [show (((G 0 : Nat) : Int) == 2) = false by simpa using hk]; rfl)
  have e2 : (((G 0 : Nat) : Int) == 2) = false := by simpa using hk
  have e6 : (((G 0 : Nat) : Int) == 6) = false := by simpa using hk6
  have HNC := Lib.hid hc
  have HC6 := Lib.hid (show 6 ≤ n by omega)
  have HN := Lib.hid hn
  have HGS := Lib.hid (show ∀ j, j < n → G j < 256 from fun j _ => hG j)
  clear hp hG hc hn h6 hk hk6 hPB hcl
  generalize ((G 0 : Nat) : Int) = g0 at *
  generalize ((G 1 : Nat) : Int) = g1 at *
  generalize ((G 2 : Nat) : Int) = g2 at *
  generalize ((G 3 : Nat) : Int) = g3 at *
  generalize ((G 4 : Nat) : Int) = g4 at *
  generalize ((G 5 : Nat) : Int) = g5 at *
  generalize ((valN 2 (fun j => G (2 + j)) : Nat) : Int) = v2 at *
  generalize ((valN 2 (fun j => G (4 + j)) : Nat) : Int) = v3 at *
  rw [HR.out, HRN.out] at HGD HEQ HNE
  rw [Nat.add_zero] at HEQ HNE
  rw [HR.out, HRN.out]
  go_enter Try.func19, Try.ntmps19
  go_wp2_with (first
  | (with_reducible show wpList _ _ _ (⟨some 2, Op.alloc cmT, _, _, _, _⟩ :: _) _ _
     refine wpList_boxA_new rowCm rfl rfl w.heap.size rfl ?_
     intro w1 x1 l1 s1
     have X1 := Lib.hid x1
     have L1 := Lib.hid l1
     clear x1 l1 s1))
  have CB0 := Lib.hid ((L1.out.cell (p := ⟨PB, po + 0, none⟩) HPB0.out).trans CC0.out)
  have CB1 := Lib.hid ((L1.out.cell (p := ⟨PB, po + 1, none⟩) HPB0.out).trans CC1.out)
  have CB2 := Lib.hid ((L1.out.cell (p := ⟨PB, po + 2, none⟩) HPB0.out).trans CC2.out)
  have CB3 := Lib.hid ((L1.out.cell (p := ⟨PB, po + 3, none⟩) HPB0.out).trans CC3.out)
  have CB4 := Lib.hid ((L1.out.cell (p := ⟨PB, po + 4, none⟩) HPB0.out).trans CC4.out)
  have CB5 := Lib.hid ((L1.out.cell (p := ⟨PB, po + 5, none⟩) HPB0.out).trans CC5.out)
  have HPB := Lib.hid (Nat.lt_of_lt_of_le HPB0.out L1.out.size)
  refine wp_region_sched [(0, true), (1, true), (2, true), (3, true), (4, true), (5, true), (6, true), (7, true), (8, true), (9, true), (10, true), (11, true), (12, true), (13, true), (14, true), (15, true), (16, true), (17, true), (18, true), (19, true), (20, true), (21, true), (22, true), (23, true), (24, true), (25, true), (26, true), (27, true), (28, true), (29, false), (30, false)] (fun V => V.heap[PB]? = w1.heap[PB]?) (by kernel_rfl) (by kernel_rfl) (show w1.drew.heap[PB]? = w1.heap[PB]? from rfl) ?_
  refine walk_float rfl rfl (fun K hK => ?_)
  refine gives_move _ rfl ?_
  go_simp
  refine hK _ ?_
  clear hK K
  refine walk_float rfl rfl (fun K hK => ?_)
  refine gives_at _ _ rfl PB po n c 0 0 rfl rfl rfl HK0.out ?_
  go_simp
  refine hK _ ?_
  clear hK K
  refine walk_float rfl rfl (fun K hK => ?_)
  refine gives_cell 5 _ rfl ⟨PB, po + 0, none⟩ (.int .u8 g0) rfl box_byte (fun V hV => (World.cell?_of_block (w := w1) (a := ⟨PB, po + 0, none⟩) hV).trans CB0.out) ?_
  go_simp
  refine hK _ ?_
  clear hK K
  refine walk_float rfl rfl (fun K hK => ?_)
  refine gives_to_int _ rfl g0 rfl HB0.out ?_
  go_simp
  refine hK _ ?_
  clear hK K
  refine walk_float rfl rfl (fun K hK => ?_)
  refine gives_move _ rfl ?_
  go_simp
  refine hK _ ?_
  clear hK K
  refine walk_float rfl rfl (fun K hK => ?_)
  refine gives_at _ _ rfl PB po n c 1 1 rfl rfl rfl HK1.out ?_
  go_simp
  refine hK _ ?_
  clear hK K
  refine walk_float rfl rfl (fun K hK => ?_)
  refine gives_cell 5 _ rfl ⟨PB, po + 1, none⟩ (.int .u8 g1) rfl box_byte (fun V hV => (World.cell?_of_block (w := w1) (a := ⟨PB, po + 1, none⟩) hV).trans CB1.out) ?_
  go_simp
  refine hK _ ?_
  clear hK K
  refine walk_float rfl rfl (fun K hK => ?_)
  refine gives_to_int _ rfl g1 rfl HB1.out ?_
  go_simp
  refine hK _ ?_
  clear hK K
  refine walk_float rfl rfl (fun K hK => ?_)
  refine gives_move _ rfl ?_
  go_simp
  refine hK _ ?_
  clear hK K
  refine walk_float rfl rfl (fun K hK => ?_)
  refine gives_at _ _ rfl PB po n c 2 2 rfl rfl rfl HK2.out ?_
  go_simp
  refine hK _ ?_
  clear hK K
  refine walk_float rfl rfl (fun K hK => ?_)
  refine gives_cell 5 _ rfl ⟨PB, po + 2, none⟩ (.int .u8 g2) rfl box_byte (fun V hV => (World.cell?_of_block (w := w1) (a := ⟨PB, po + 2, none⟩) hV).trans CB2.out) ?_
  go_simp
  refine hK _ ?_
  clear hK K
  refine walk_float rfl rfl (fun K hK => ?_)
  refine gives_to_int _ rfl g2 rfl HB2.out ?_
  go_simp
  refine hK _ ?_
  clear hK K
  refine walk_float rfl rfl (fun K hK => ?_)
  refine gives_int_mul _ _ rfl g2 256 (g2 * 256) rfl rfl HM2.out ?_
  go_simp
  refine hK _ ?_
  clear hK K
  refine walk_float rfl rfl (fun K hK => ?_)
  refine gives_move _ rfl ?_
  go_simp
  refine hK _ ?_
  clear hK K
  refine walk_float rfl rfl (fun K hK => ?_)
  refine gives_at _ _ rfl PB po n c 3 3 rfl rfl rfl HK3.out ?_
  go_simp
  refine hK _ ?_
  clear hK K
  refine walk_float rfl rfl (fun K hK => ?_)
  refine gives_cell 5 _ rfl ⟨PB, po + 3, none⟩ (.int .u8 g3) rfl box_byte (fun V hV => (World.cell?_of_block (w := w1) (a := ⟨PB, po + 3, none⟩) hV).trans CB3.out) ?_
  go_simp
  refine hK _ ?_
  clear hK K
  refine walk_float rfl rfl (fun K hK => ?_)
  refine gives_to_int _ rfl g3 rfl HB3.out ?_
  go_simp
  refine hK _ ?_
  clear hK K
  refine walk_float rfl rfl (fun K hK => ?_)
  refine gives_int_sum _ _ rfl (g2 * 256) g3 v2 rfl rfl HV2.out ?_
  go_simp
  refine hK _ ?_
  clear hK K
  refine walk_float rfl rfl (fun K hK => ?_)
  refine gives_move _ rfl ?_
  go_simp
  refine hK _ ?_
  clear hK K
  refine walk_float rfl rfl (fun K hK => ?_)
  refine gives_at _ _ rfl PB po n c 4 4 rfl rfl rfl HK4.out ?_
  go_simp
  refine hK _ ?_
  clear hK K
  refine walk_float rfl rfl (fun K hK => ?_)
  refine gives_cell 5 _ rfl ⟨PB, po + 4, none⟩ (.int .u8 g4) rfl box_byte (fun V hV => (World.cell?_of_block (w := w1) (a := ⟨PB, po + 4, none⟩) hV).trans CB4.out) ?_
  go_simp
  refine hK _ ?_
  clear hK K
  refine walk_float rfl rfl (fun K hK => ?_)
  refine gives_to_int _ rfl g4 rfl HB4.out ?_
  go_simp
  refine hK _ ?_
  clear hK K
  refine walk_float rfl rfl (fun K hK => ?_)
  refine gives_int_mul _ _ rfl g4 256 (g4 * 256) rfl rfl HM4.out ?_
  go_simp
  refine hK _ ?_
  clear hK K
  refine walk_float rfl rfl (fun K hK => ?_)
  refine gives_move _ rfl ?_
  go_simp
  refine hK _ ?_
  clear hK K
  refine walk_float rfl rfl (fun K hK => ?_)
  refine gives_at _ _ rfl PB po n c 5 5 rfl rfl rfl HK5.out ?_
  go_simp
  refine hK _ ?_
  clear hK K
  refine walk_float rfl rfl (fun K hK => ?_)
  refine gives_cell 5 _ rfl ⟨PB, po + 5, none⟩ (.int .u8 g5) rfl box_byte (fun V hV => (World.cell?_of_block (w := w1) (a := ⟨PB, po + 5, none⟩) hV).trans CB5.out) ?_
  go_simp
  refine hK _ ?_
  clear hK K
  refine walk_float rfl rfl (fun K hK => ?_)
  refine gives_to_int _ rfl g5 rfl HB5.out ?_
  go_simp
  refine hK _ ?_
  clear hK K
  refine walk_float rfl rfl (fun K hK => ?_)
  refine gives_int_sum _ _ rfl (g4 * 256) g5 v3 rfl rfl HV3.out ?_
  go_simp
  refine hK _ ?_
  clear hK K
  refine walk_float rfl rfl (fun K hK => ?_)
  refine gives_cm4 _ _ _ _ rfl g0 g1 v2 v3 rfl rfl rfl rfl ?_
  go_simp
  refine hK _ ?_
  clear hK K
  refine walk_done rfl rfl (fun K hK => ?_)
  refine done_boxA_new rowCm rfl ?_
  intro w4 x4 l4 s4
  have l4 : Below w1.heap.size w1 w4 := (Below.refl _ w1).drew.trans l4
  have Y4 := Lib.hid (show BoxA w4 w1.heap.size cmT (cmA none 0 0 zeroCm) from x4)
  have X4 := Lib.hid (X1.out.keep (l4.block _ X1.out.lt))
  have L4 := Lib.hid (L1.out.trans (l4.mono L1.out.size))
  have hb4 : w4.heap[PB]? = w1.heap[PB]? := l4.block PB HPB.out
  have HB4 := Lib.hid hb4
  have M4 := Lib.hid l4.size
  clear x4 l4 s4
  refine ⟨hb4, ?_⟩
  go_simp
  refine hK _ _ ?_
  clear hK K hb4
  refine walk_done rfl rfl (fun K hK => ?_)
  refine done_boxA_put rowCm _ _ rfl w1.heap.size (cmA none 0 0 ⟨g0, g1, v2, v3, zeroOp⟩) _ (cmA_size _ _ _ _) (cmA_one _ _ _ _) (cmA_size _ _ _ _) rfl rfl Y4.out ?_
  intro w5 x5 k5 s5
  have Y5 := Lib.hid x5
  have X5 := Lib.hid (X4.out.keep (k5.block _ X4.out.lt (Nat.ne_of_lt X1.out.lt)))
  have L5 := Lib.hid (low_put L4.out L1.out.size k5)
  have hb5 : w5.heap[PB]? = w1.heap[PB]? := (k5.block PB (Nat.lt_of_lt_of_le HPB.out M4.out) (Nat.ne_of_lt HPB.out)).trans HB4.out
  have XL := Lib.hid X1.out.lt
  have HB5 := Lib.hid hb5
  clear x5 k5 s5
  refine ⟨hb5, ?_⟩
  go_simp
  refine hK _ _ ?_
  clear hK K hb5
  refine walk_nil ?_
  obtain ⟨c0, c1, c2, c3, c4, c10⟩ := boxCm Y5.out
  clear X1 L1 X4 Y4 L4 HB4
  have Y6 := Lib.hid Y5.out
  have X6 := Lib.hid X5.out
  have L6 := Lib.hid L5.out
  have HD := Lib.hid (show BytesAt w5 none 0 (dataF G) from .inl rfl)
  clear Y5 X5 L5
  go_wp2_with (first
  | (with_reducible show wpList _ _ _ (⟨some 88, Op.load cmT _, _, _, _, _⟩ :: _) _ _
     refine wpList_boxA_loadw rowCm _ rfl rfl w1.heap.size (cmA none 0 0 ⟨g0, g1, v2, v3, zeroOp⟩) (cmA_size _ _ _ _) rfl Y6.out ?_)
  | (go_at_call 12
     refine (refEncode_ok HD.out HGD.out).mono ?_; rintro e w8 ⟨pE, cE, rfl, b8, l8⟩
     have X8 := Lib.hid (X6.out.keep (l8.block _ X6.out.lt))
     have Y8 := Lib.hid (Y6.out.keep (l8.block _ Y6.out.lt))
     have L8 := Lib.hid (L6.out.trans (l8.mono L6.out.size))
     have HD8 := Lib.hid (HD.out.below l8)
     have B8 := Lib.hid b8
     clear b8 l8 X6 L6)
  | (with_reducible show wpList _ _ _ (⟨some 96, Op.convert _ _ _, _, _, _, _⟩ :: _) _ _
     refine wpList_string_w rfl _ rfl pE _ cE rfl _ B8.out ?_
     clear B8)
  | (with_reducible show wpList _ _ _ (⟨some 98, Op.convert _ _ _, _, _, _, _⟩ :: _) _ _
     refine wpList_string_w rfl _ rfl (some ⟨PB, po, none⟩) n c rfl G (HP.out _ L8.out) ?_
     have q1 := HEQ.out
     have q2 := HNE.out)
  | (with_reducible show wpList _ _ _ (⟨some 102, Op.load cmT _, _, _, _, _⟩ :: _) _ _
     refine wpList_boxA_loadw rowCm _ rfl rfl w1.heap.size (cmA none 0 0 ⟨g0, g1, v2, v3, zeroOp⟩) (cmA_size _ _ _ _) rfl Y8.out ?_)
  | (with_reducible show wpList _ _ _ (⟨_, Op.store cmT (.tmp 2) _, _, _, _, none⟩ :: _) _ _
     refine wpList_boxA_put rowCm rfl _ _ rfl rfl w.heap.size (cmA none 0 0 ⟨g0, g1, v2, v3, zeroOp⟩) _ (cmA_size _ _ _ _) (cmA_one _ _ _ _) (cmA_size _ _ _ _) rfl rfl X8.out ?_
     intro w9 x9 k9 s9
     have X9 := Lib.hid x9
     have L9 := Lib.hid (low_put L8.out (Nat.le_refl _) k9)
     have D9 := Lib.hid (show BytesAt w9 none 0 (dataF G) from .inl rfl)
     clear x9 k9 s9 X8 L8))
  exact bodyPost_ret (results_cell_row_tmp rfl _ _ w.heap.size cmT (cmA none 0 0 ⟨g0, g1, v2, v3, zeroOp⟩) (0, 0) _ rfl X9.out Try.underlying26 rfl (by rw [cmA_size]; exact rowCm.size)) rfl ⟨none, 0, rfl, D9.out, L9.out⟩
theorem refDecode_any {w : World} {p : Option Addr} {n c : Nat} {G : Nat → Nat} (hp : BytesAt w p n G) (hG : ∀ j, G j < 256) (hc : n ≤ c) (hn : n ≤ 100000) :
    Calls Try.prog 19 #[.slice p n c] w fun e w' => (isC n G = true ∧ ∃ q m, e = .returned (.tuple #[.agg (cmA q (rawN G n) m (rawC G)), .bool true]) ∧ BytesAt w' q (rawN G n) (dataF G) ∧ Below w.heap.size w w') ∨ (isC n G = false ∧ e = .returned (.tuple #[.agg (cmA none 0 0 zeroCm), .bool false]) ∧ Below w.heap.size w w') := by
  by_cases h6 : n < 6
  · refine (refDecode_short hp hG hc hn h6).mono fun e w' h => .inr ⟨isC_no ?_, h⟩
    rintro ⟨h1, -⟩; omega
  · have h6 : 6 ≤ n := by omega
    by_cases hk6 : ((G 0 : Nat) : Int) = 6
    · by_cases h25 : n = 25
      · cases hgd : goodC (rawC G) (rawN G n)
        · refine (refDecode_six_bad hp hG hc hn h25 hk6 hgd).mono fun e w' h => .inr ⟨isC_no ?_, h⟩
          rintro ⟨-, -, h3, -⟩
          rw [hgd] at h3; cases h3
        · by_cases heq : mk (lenC (rawC G) + rawN G n) (allC (rawC G) (dataF G)) = mk n G
          · exact (refDecode_six_same hp hG hc hn h25 hk6 hgd heq).mono fun e w' h => .inl ⟨isC_parts.2 ⟨h6, fun _ => by omega, hgd, heq⟩, h⟩
          · refine (refDecode_six_other hp hG hc hn h25 hk6 hgd heq).mono fun e w' h => .inr ⟨isC_no ?_, h⟩
            rintro ⟨-, -, -, h4⟩
            exact heq h4
      · refine (refDecode_sixno hp hG hc hn h6 h25 hk6).mono fun e w' h => .inr ⟨isC_no ?_, h⟩
        rintro ⟨-, -, -, h4⟩
        have e1 := (mk_inj h4).1
        have ek : (rawC G).k = 6 := by unfold rawC; exact hk6
        rw [lenC_six ek] at e1
        have : rawN G n = 0 := by unfold rawN; rw [hk6]; rfl
        omega
    · by_cases hk : ((G 0 : Nat) : Int) = 2
      · cases hgd : goodC (rawC G) (rawN G n)
        · refine (refDecode_two_bad hp hG hc hn h6 hk hgd).mono fun e w' h => .inr ⟨isC_no ?_, h⟩
          rintro ⟨-, -, h3, -⟩
          rw [hgd] at h3; cases h3
        · by_cases heq : mk (lenC (rawC G) + rawN G n) (allC (rawC G) (dataF G)) = mk n G
          · exact (refDecode_two_same hp hG hc hn h6 hk hgd heq).mono fun e w' h => .inl ⟨isC_parts.2 ⟨h6, fun h => absurd h hk6, hgd, heq⟩, h⟩
          · refine (refDecode_two_other hp hG hc hn h6 hk hgd heq).mono fun e w' h => .inr ⟨isC_no ?_, h⟩
            rintro ⟨-, -, -, h4⟩
            exact heq h4
      · cases hgd : goodC (rawC G) (rawN G n)
        · refine (refDecode_other_bad hp hG hc hn h6 hk hk6 hgd).mono fun e w' h => .inr ⟨isC_no ?_, h⟩
          rintro ⟨-, -, h3, -⟩
          rw [hgd] at h3; cases h3
        · by_cases heq : mk (lenC (rawC G) + rawN G n) (allC (rawC G) (dataF G)) = mk n G
          · exact (refDecode_other_same hp hG hc hn h6 hk hk6 hgd heq).mono fun e w' h => .inl ⟨isC_parts.2 ⟨h6, fun h => absurd h hk6, hgd, heq⟩, h⟩
          · refine (refDecode_other_other hp hG hc hn h6 hk hk6 hgd heq).mono fun e w' h => .inr ⟨isC_no ?_, h⟩
            rintro ⟨-, -, -, h4⟩
            exact heq h4
end Go.Proofs.Ytkibeddfkenlkaa
