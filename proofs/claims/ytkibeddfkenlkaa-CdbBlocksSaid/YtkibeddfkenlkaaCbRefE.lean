/- The contract of the document's own Encode. Conditions: the Data lies in memory. -/
import Derived.Test.YtkibeddfkenlkaaCbEnc
namespace Go.Proofs.Ytkibeddfkenlkaa
open Go.ChangeShapes Go.WideShapes Go.ChangeAt Go.RowKit
set_option linter.unusedVariables false
set_option linter.unusedSimpArgs false
def flatN (l : List (Int × Int)) : List Int := l.flatMap fun p => [p.1, p.2]
theorem flatn_len : ∀ l : List (Int × Int), (flatN l).length = 2 * l.length
  | [] => rfl
  | p :: l => by have h := flatn_len l; show (flatN l).length + 1 + 1 = 2 * (l.length + 1); omega
theorem flatn_get : ∀ (l : List (Int × Int)) (k : Nat), k < l.length → (flatN l).getD (2 * k) 0 = (atR l k).1 ∧ (flatN l).getD (2 * k + 1) 0 = (atR l k).2
  | [], k, h => by simp at h
  | p :: l, 0, h => ⟨rfl, rfl⟩
  | p :: l, k + 1, h => by
    have ih := flatn_get l k (by simpa using h)
    show (p.1 :: p.2 :: flatN l).getD (2 * k + 2) 0 = _ ∧ (p.1 :: p.2 :: flatN l).getD (2 * k + 2 + 1) 0 = _
    exact ih
theorem flatn_append (a b : List (Int × Int)) : flatN (a ++ b) = flatN a ++ flatN b := List.flatMap_append
/-- Where a number's bytes lie. -/
theorem fold_split (l : List (Int × Int)) (k : Nat) (hk : k < l.length) : l = l.take k ++ atR l k :: l.drop (k + 1) := by
  rw [← drop_consR hk, List.take_append_drop]
theorem done_call2 {o : Oper} {a : Act} {w : World} {K : Value → World → Prop} (x y z : Operand) (ts : Array TypeId) (ho : o.op = .call { callee := .value x, args := #[y, z], argTypes := ts }) (g : FuncId) (hx : a.eval x = .func (.func g) #[] #[])
    (p q : Value) (hy : a.eval y = p) (hz : a.eval z = q) (hf : ∀ (args : Array Value) (w : World), (callFunc g args).run Try.prog w = .ok (.enter g args) w)
    (hc : Calls Try.prog g #[p, q] w fun e w' => ∃ v, e = .returned v ∧ K v w') : doneAt Try.prog o a w K :=
  done_call x #[y, z] ts ho g #[p, q] hx (by simp only [List.map_toArray, List.map_cons, List.map_nil, hy, hz]) (hf _ w) hc
section
variable {o : Oper} {a : Act} {C : World → Prop} {K : Act → Prop}
theorem gives_extract {K : Act → Prop} (x : Operand) (k : Nat) (ho : o.op = .extract x k) (vs : Array Value) (hx : a.eval x = .tuple vs) (v : Value) (hv : vs[k]? = some v) (hk : K (a.put o.dst v)) : ∃ v, Gives Try.prog C o a v ∧ K (a.put o.dst v) :=
  ⟨_, fun w _ => by
    unfold execOp
    simp only [ho, hx]
    simp [go_sem, hv], hk⟩
end
theorem all_at {x : CmdOf} {g : Nat → Nat} {k : Nat} (hk : k < (numsC x).length) : ∀ j, j < (atR (numsC x) k).1.toNat → allC x g ((bytesN ((numsC x).take k)).1 + j) = numF (atR (numsC x) k).1.toNat (atR (numsC x) k).2 j := by
  have h := all_laid x g
  have hs := fold_size ((numsC x).take k) (0, zeroK)
  have e := fold_split (numsC x) k hk
  have h2 : Laid (allC x g) 0 ((numsC x).take k ++ atR (numsC x) k :: (numsC x).drop (k + 1)) := by rw [← e]; exact h
  have h3 := (laid_append _ _ _ h2).2
  intro j hj
  have h4 := h3.1 j hj
  have e2 : (bytesN ((numsC x).take k)).1 = 0 + sizeL ((numsC x).take k) := hs
  rw [e2]; exact h4
theorem flat_not {x : CmdOf} (h6 : x.k ≠ 6) : flatN (numsC x) = [1, x.k, 1, x.u, 2, x.b, 2, x.m] := by rw [nums_not h6]; rfl
theorem flat_six {x : CmdOf} (h6 : x.k = 6) (z : Int) (hz : (if x.o.s then (1 : Int) else 0) = z) : flatN (numsC x) = [1, x.k, 1, x.u, 2, x.b, 2, x.m] ++ [1, x.o.op, 8, x.o.key, 8, x.o.new, 1, x.o.ty, 1, z] := by rw [nums_six h6, flatn_append, ← hz]; rfl
attribute [local irreducible] regC intC numsC bytesN stepN cat numF mk extF zeroK regA lenC bytC allC flatN
attribute [local go_sem] Oper.semAt_some
set_option maxRecDepth 100000 in
set_option maxHeartbeats 16000000 in
theorem refEncode_not {w : World} {q : Option Addr} {n c : Nat} {g : Nat → Nat} {x : CmdOf} (hq : BytesAt w q n g) (hg : goodC x n = true) (h6 : x.k ≠ 6) :
    Calls Try.prog 12 #[.agg (cmA q n c x)] w fun e w' => ∃ p c', e = .returned (.tuple #[.slice p (lenC x + n) c', .bool true]) ∧ BytesAt w' p (lenC x + n) (allC x g) ∧ Below w.heap.size w w' := by
  have HQ := Lib.hid (fun (W : World) (hb : Below w.heap.size w W) => hq.below hb)
  have G := good_iff.1 hg
  have HG := Lib.hid hg
  have HNF := Lib.hid (good_few G)
  have HFL := Lib.hid (show flatN (numsC x) = [1, x.k, 1, x.u, 2, x.b, 2, x.m] by exact flat_not h6)
  have HOK := Lib.hid (fun k (hk : k < (numsC x).length) => nat_of (nums_ok G (atR (numsC x) k) (List.mem_of_getElem? (atR_get hk))))
  have HNX := Lib.hid (fun k (hk : k < (numsC x).length) => bytes_next (l := numsC x) hk)
  have HAT := Lib.hid (fun k (hk : k < (numsC x).length) => all_at (g := g) hk)
  have HGT := Lib.hid (fun k (hk : k < (numsC x).length) => flatn_get (numsC x) k hk)
  have HFW := Lib.hid (fun k => take_few G k)
  have HB0 := Lib.hid (show (bytesN ((numsC x).take 0)).1 = 0 by unfold bytesN; rfl)
  have HBN := Lib.hid (show (bytesN ((numsC x).take (numsC x).length)).1 = lenC x by rw [List.take_of_length_le (Nat.le_refl _)]; unfold lenC; rfl)
  have HFF := Lib.hid (flatn_len (numsC x))
  have HLN := Lib.hid (nums_len x)
  have HAG := Lib.hid (show ∀ j, g j = allC x g (lenC x + j) by intro j; unfold allC cat; rw [if_neg (by omega), Nat.add_sub_cancel_left])
  have HLC := Lib.hid (lenC_le x)
  have e1 : (x.k == 6) = false := by simp [h6]
  obtain ⟨N, hN⟩ : ∃ N, (numsC x).length = N := ⟨_, rfl⟩
  rw [hN] at HOK HNX HAT HGT HBN HLN HFF
  clear hq hg G h6 hN
  generalize allC x g = FF at *
  go_enter Try.func12, Try.ntmps12
  go_wp2_with (first
  | (with_reducible show wpList _ _ _ (⟨some 1, Op.box cmT _, _, _, _, none⟩ :: _) _ _
     refine wpList_boxA_of rfl _ rfl (cmA q n c x) rfl ?_
     intro w1 x1 l1 s1
     have X1 := Lib.hid x1
     have L1 := Lib.hid l1
     clear x1 l1 s1)
  | (with_reducible show wpList _ _ _ (⟨some 10, Op.load cmT _, _, _, _, _⟩ :: _) _ _
     refine wpList_boxA_loadw rowCm _ rfl rfl w.heap.size (cmA q n c x) rfl rfl X1.out ?_)
  | (go_at_call 29
     refine refGood_any.mono ?_; rintro e w2 ⟨rfl, l2⟩
     rw [HG.out]
     have X2 := Lib.hid (X1.out.keep (l2.block _ X1.out.lt))
     have L2 := Lib.hid (L1.out.trans (l2.mono L1.out.size))
     obtain ⟨c0, c1, c2, c3, c4, c10⟩ := boxCm X2.out
     clear l2 X1 L1)
  | (with_reducible show wpList _ _ _ (⟨_, Op.buildSlice 63 8 _, _, _, _, none⟩ :: _) _ _
     refine wpList_intsL rfl 8 _ rfl [(0, .int .i64 1), (1, .int .i64 x.k), (2, .int .i64 1), (3, .int .i64 x.u), (4, .int .i64 2), (5, .int .i64 x.b), (6, .int .i64 2), (7, .int .i64 x.m)] rfl [1, x.k, 1, x.u, 2, x.b, 2, x.m] rfl (by decide) (by decide) (fill_int8 1 x.k 1 x.u 2 x.b 2 x.m) ?_
     intro w3 o3 l3 s3
     have O3 := Lib.hid (o3.lower X2.out.lt : OwnL 3 1 intC w3 (w.heap.size + 1) _ _ _)
     have X3 := Lib.hid (X2.out.keep (l3.block _ X2.out.lt))
     have L3 := Lib.hid (L2.out.trans (l3.mono L2.out.size))
     have LX3 := Lib.hid X2.out.lt
     clear o3 l3 s3 X2 L2 c0 c1 c2 c3 c4 c10
     obtain ⟨c0, c1, c2, c3, c4, c10⟩ := boxCm X3.out
     obtain ⟨c5, c6, c7, c8, c9⟩ := boxCmO X3.out))
  have hof := O3.out
  rw [← HFL.out] at hof
  obtain ⟨qp, cp, hv, -, -, hrw, -⟩ := hof.rows elemInt.len
  rw [HFF.out] at hv
  obtain ⟨M, hM⟩ : ∃ M, M = 2 * N := ⟨_, rfl⟩
  rw [← hM] at hv
  have HM := Lib.hid hM
  rw [hv]
  clear hM hv
  have HRW := Lib.hid hrw
  have PX := Lib.hid X3.out
  have PL := Lib.hid L3.out
  clear hof hrw HFL O3 X3 L3
  generalize w3 = wb at *
  go_loopw [7, 6] (fun v7 v6 wr => ∃ k i : Nat, i = 2 * k ∧ k ≤ N ∧ v7 = .int .i64 i ∧ OwnS 5 1 wr wb.heap.size wr.heap.size v6 (bytesN ((numsC x).take k)).1 FF ∧ Below wb.heap.size wb wr) (fun v7 _ _ => 2 * N - (intOf v7).toNat)
  case atStart => exact ⟨0, 0, rfl, Nat.zero_le _, rfl, by rw [HB0.out]; exact OwnS.nil _ _ _ _ _ _, Below.refl _ _⟩
  case round =>
    obtain ⟨k2, i, hi, hk2, rfl, ho, hb⟩ := hrel
    have HO := Lib.hid ho
    have HB := Lib.hid hb
    have HF := Lib.hid (HFW.out k2)
    have HI := Lib.hid hi
    clear ho hb HB0 HFW hi
    by_cases hlt : k2 < N
    · have f1 : (i : Int) < (M : Int) := by have := HM.out; have := HI.out; omega
      have HLT := Lib.hid hlt
      obtain ⟨i1, hi1⟩ : ∃ i1, i1 = i + 1 := ⟨_, rfl⟩
      obtain ⟨i2, hi2⟩ : ∃ i2, i2 = i + 2 := ⟨_, rfl⟩
      have HK1 := Lib.hid (show IntKind.i64.wrap ((i : Int) + 1) = (i1 : Int) by have := HLN.out; have := HI.out; rw [IntWalk.i64_in _ (by omega)]; omega)
      have f3 : IntKind.i64.wrap ((i : Int) + 2) = (i2 : Int) := by have := HLN.out; have := HI.out; rw [IntWalk.i64_in _ (by omega)]; omega
      have HI1 := Lib.hid hi1
      have HI2 := Lib.hid hi2
      obtain ⟨s, z, hsz, hs, hz'⟩ := HOK.out k2 hlt
      have hat := HAT.out k2 hlt
      have hgt := HGT.out k2 hlt
      have hnx := HNX.out k2 hlt
      rw [hsz] at hat hgt hnx
      rw [step_is] at hnx
      have HS := Lib.hid hs
      have HZ := Lib.hid hz'
      have HNX1 := Lib.hid (show (bytesN ((numsC x).take (k2 + 1))).1 = (bytesN ((numsC x).take k2)).1 + s by rw [hnx])
      have HATS := Lib.hid (show ∀ j, j < s → numF s z j = FF ((bytesN ((numsC x).take k2)).1 + j) from fun j hj => (hat j (by show j < (s : Int).toNat; rw [Int.toNat_natCast]; exact hj)).symm)
      obtain ⟨PB, po, hqp, hPB, hcs⟩ := ints_cells HRW.out (by rw [HFF.out]; omega)
      have CS := Lib.hid (show wr.drew.cell? ⟨PB, po + i, none⟩ = some (.int .i64 s) from ((HB.out.drew).cell (p := ⟨PB, po + i, none⟩) hPB).trans ((hcs i (by rw [HFF.out, HI.out]; omega)).trans (by rw [HI.out, hgt.1])))
      have CZ := Lib.hid (show wr.drew.cell? ⟨PB, po + i1, none⟩ = some (.int .i64 z) from ((HB.out.drew).cell (p := ⟨PB, po + i1, none⟩) hPB).trans ((hcs i1 (by rw [HFF.out, hi1, HI.out]; omega)).trans (by rw [hi1, HI.out, hgt.2])))
      have HPB := Lib.hid (show PB < wr.heap.size from Nat.lt_of_lt_of_le hPB HB.out.size)
      have HIM := Lib.hid (show i < M by have := HM.out; have := HI.out; omega)
      have HIM1 := Lib.hid (show i1 < M by have := HM.out; have := HI.out; omega)
      rw [hqp] at *
      clear hlt hk2 hsz hs hz' hat hgt hnx hPB hcs hi1 hi2 hqp HOK HAT HGT HNX HRW HFF HBN
      generalize (bytesN ((numsC x).take k2)).1 = m at *
      go_wp2
      refine wp_region_sched [(0, true), (1, true), (2, true), (3, true), (4, true), (5, true), (6, true), (7, true), (8, true), (9, false), (10, true), (11, true), (12, true), (13, true), (14, true)] (fun V => V.cell? ⟨PB, po + i, none⟩ = some (.int .i64 s) ∧ V.cell? ⟨PB, po + i1, none⟩ = some (.int .i64 z)) (by kernel_rfl) (by kernel_rfl) ⟨CS.out, CZ.out⟩ ?_
      refine walk_float rfl rfl (fun K hK => ?_)
      refine gives_move _ rfl ?_
      go_simp
      refine hK _ ?_
      clear hK K
      refine walk_float rfl rfl (fun K hK => ?_)
      refine gives_move _ rfl ?_
      go_simp
      refine hK _ ?_
      clear hK K
      refine walk_float rfl rfl (fun K hK => ?_)
      refine gives_int_elem _ _ rfl PB po M cp i rfl rfl HIM.out ?_
      go_simp
      refine hK _ ?_
      clear hK K
      refine walk_float rfl rfl (fun K hK => ?_)
      refine gives_cell 3 _ rfl ⟨PB, po + (i), none⟩ (.int .i64 s) rfl box_int (fun V hV => hV.1) ?_
      go_simp
      refine hK _ ?_
      clear hK K
      refine walk_float rfl rfl (fun K hK => ?_)
      refine gives_move _ rfl ?_
      go_simp
      refine hK _ ?_
      clear hK K
      refine walk_float rfl rfl (fun K hK => ?_)
      refine gives_move _ rfl ?_
      go_simp
      refine hK _ ?_
      clear hK K
      refine walk_float rfl rfl (fun K hK => ?_)
      refine gives_int_sum _ _ rfl (i : Int) 1 (i1 : Int) rfl rfl HK1.out ?_
      go_simp
      refine hK _ ?_
      clear hK K
      refine walk_float rfl rfl (fun K hK => ?_)
      refine gives_int_elem _ _ rfl PB po M cp i1 rfl rfl HIM1.out ?_
      go_simp
      refine hK _ ?_
      clear hK K
      refine walk_float rfl rfl (fun K hK => ?_)
      refine gives_cell 3 _ rfl ⟨PB, po + (i1), none⟩ (.int .i64 z) rfl box_int (fun V hV => hV.2) ?_
      go_simp
      refine hK _ ?_
      clear hK K
      refine walk_done rfl rfl (fun K hK => ?_)
      refine done_call2 _ _ _ _ rfl 30 rfl (.int .i64 s) (.int .i64 z) rfl rfl (enters_of Try.func30 (by kernel_rfl) rfl) ?_
      refine (refNumber_ok s z HS.out HZ.out _).mono ?_
      rintro e z1 ⟨pN, cN, rfl, bN, l6⟩
      have BN := Lib.hid bN
      have l6 : Below wr.heap.size wr z1 := (Below.refl _ wr).drew.trans l6
      have L6 := Lib.hid l6
      refine ⟨_, rfl, ?_⟩
      refine ⟨⟨(l6.cell (p := ⟨PB, po + i, none⟩) HPB.out).trans CS.out, (l6.cell (p := ⟨PB, po + i1, none⟩) HPB.out).trans CZ.out⟩, ?_⟩
      go_simp
      refine hK _ _ ?_
      clear hK K l6
      refine walk_float rfl rfl (fun K hK => ?_)
      refine gives_move _ rfl ?_
      go_simp
      refine hK _ ?_
      clear hK K
      refine walk_float rfl rfl (fun K hK => ?_)
      refine gives_extract _ 0 rfl _ rfl (.slice pN s cN) rfl ?_
      go_simp
      refine hK _ ?_
      clear hK K
      refine walk_float rfl rfl (fun K hK => ?_)
      refine gives_extract _ 1 rfl _ rfl (.int .i64 0) rfl ?_
      go_simp
      refine hK _ ?_
      clear hK K
      refine walk_float rfl rfl (fun K hK => ?_)
      refine gives_assign _ rfl ?_
      go_simp
      refine hK _ ?_
      clear hK K
      refine walk_float rfl rfl (fun K hK => ?_)
      refine gives_assign _ rfl ?_
      go_simp
      refine hK _ ?_
      clear hK K
      refine walk_nil ?_
      have O7 := Lib.hid (show OwnS 5 1 z1 wb.heap.size z1.heap.size u6 m FF from (HO.out.same (fun B _ hB => L6.out.block B hB)).raise L6.out.size)
      have B7 := Lib.hid (HB.out.trans (L6.out.mono HB.out.size))
      go_wp2_with (first
      | (at_builtin
         obtain ⟨v8, w8, hr8, o8, l8⟩ := append_own_run z1 22 O7.out pN s cN BN.out HATS.out (by have := HF.out; have := size_le HS.out; omega) B7.out.size
         refine wpList_append rfl _ _ _ _ rfl _ _ rfl rfl v8 w8 hr8 ?_
         have O8 := Lib.hid o8
         have B8 := Lib.hid (B7.out.trans l8)
         clear hr8 o8 l8 O7 B7))
      go_roundw
      case rel => exact ⟨k2 + 1, i2, by have := HI2.out; have := HI.out; omega, HLT.out, by go_num, by rw [HNX1.out]; exact O8.out, B8.out⟩
      case measure => have := HLT.out; have := HI.out; have := HI2.out; simp [intOf]; omega
    · have f3 : ¬ (i : Int) < (M : Int) := by have := HM.out; have := HI.out; omega
      obtain rfl : k2 = N := by omega
      have hof := HO.out
      rw [HBN.out] at hof
      have PX2 := PX.out.keep (HB.out.block _ PX.out.lt)
      obtain ⟨c0, c1, c2, c3, c4, c10⟩ := boxCm PX2
      have PL2 := Lib.hid (PL.out.trans (HB.out.mono PL.out.size))
      obtain ⟨v9, w9, hr9, o9, l9⟩ := append_own_run wr 22 hof q n c (HQ.out _ PL2.out) (fun j _ => HAG.out j) (by have := HLC.out; have := HNF.out; omega) HB.out.size
      have HR9 := Lib.hid hr9
      obtain ⟨bp, bc, hv, hbc, -, hby, hlo⟩ := o9.bytes (Nat.le_refl _)
      subst hv
      have HBY := Lib.hid hby
      have HLW := Lib.hid (PL2.out.trans (l9.mono (by have := PL.out.size; omega)))
      clear hlt hk2 hof hby hbc hlo HO HB HOK HAT HGT HNX HRW HFF HBN HF hr9 o9 l9 PX2 PX
      go_wp2_with (first
      | (at_builtin
         refine wpList_append rfl _ _ _ _ rfl _ _ rfl rfl _ _ HR9.out ?_))
      go_ret2
      exact ⟨bp, ⟨bc, rfl⟩, HBY.out, HLW.out⟩
set_option maxRecDepth 100000 in
set_option maxHeartbeats 16000000 in
theorem refEncode_sit {w : World} {q : Option Addr} {n c : Nat} {g : Nat → Nat} {x : CmdOf} (hq : BytesAt w q n g) (hg : goodC x n = true) (h6 : x.k = 6) (hs : x.o.s = true) :
    Calls Try.prog 12 #[.agg (cmA q n c x)] w fun e w' => ∃ p c', e = .returned (.tuple #[.slice p (lenC x + n) c', .bool true]) ∧ BytesAt w' p (lenC x + n) (allC x g) ∧ Below w.heap.size w w' := by
  have HQ := Lib.hid (fun (W : World) (hb : Below w.heap.size w W) => hq.below hb)
  have G := good_iff.1 hg
  have HG := Lib.hid hg
  have HNF := Lib.hid (good_few G)
  have HFL := Lib.hid (show flatN (numsC x) = [1, x.k, 1, x.u, 2, x.b, 2, x.m] ++ [1, x.o.op, 8, x.o.key, 8, x.o.new, 1, x.o.ty, 1, 1] by exact flat_six h6 _ (by rw [hs]; rfl))
  have HST := Lib.hid hs
  have HOK := Lib.hid (fun k (hk : k < (numsC x).length) => nat_of (nums_ok G (atR (numsC x) k) (List.mem_of_getElem? (atR_get hk))))
  have HNX := Lib.hid (fun k (hk : k < (numsC x).length) => bytes_next (l := numsC x) hk)
  have HAT := Lib.hid (fun k (hk : k < (numsC x).length) => all_at (g := g) hk)
  have HGT := Lib.hid (fun k (hk : k < (numsC x).length) => flatn_get (numsC x) k hk)
  have HFW := Lib.hid (fun k => take_few G k)
  have HB0 := Lib.hid (show (bytesN ((numsC x).take 0)).1 = 0 by unfold bytesN; rfl)
  have HBN := Lib.hid (show (bytesN ((numsC x).take (numsC x).length)).1 = lenC x by rw [List.take_of_length_le (Nat.le_refl _)]; unfold lenC; rfl)
  have HFF := Lib.hid (flatn_len (numsC x))
  have HLN := Lib.hid (nums_len x)
  have HAG := Lib.hid (show ∀ j, g j = allC x g (lenC x + j) by intro j; unfold allC cat; rw [if_neg (by omega), Nat.add_sub_cancel_left])
  have HLC := Lib.hid (lenC_le x)
  have e1 : (x.k == 6) = true := by simp [h6]
  obtain ⟨N, hN⟩ : ∃ N, (numsC x).length = N := ⟨_, rfl⟩
  rw [hN] at HOK HNX HAT HGT HBN HLN HFF
  clear hq hg G h6 hN hs
  generalize allC x g = FF at *
  go_enter Try.func12, Try.ntmps12
  go_wp2_with (first
  | (with_reducible show wpList _ _ _ (⟨some 1, Op.box cmT _, _, _, _, none⟩ :: _) _ _
     refine wpList_boxA_of rfl _ rfl (cmA q n c x) rfl ?_
     intro w1 x1 l1 s1
     have X1 := Lib.hid x1
     have L1 := Lib.hid l1
     clear x1 l1 s1)
  | (with_reducible show wpList _ _ _ (⟨some 10, Op.load cmT _, _, _, _, _⟩ :: _) _ _
     refine wpList_boxA_loadw rowCm _ rfl rfl w.heap.size (cmA q n c x) rfl rfl X1.out ?_)
  | (go_at_call 29
     refine refGood_any.mono ?_; rintro e w2 ⟨rfl, l2⟩
     rw [HG.out]
     have X2 := Lib.hid (X1.out.keep (l2.block _ X1.out.lt))
     have L2 := Lib.hid (L1.out.trans (l2.mono L1.out.size))
     obtain ⟨c0, c1, c2, c3, c4, c10⟩ := boxCm X2.out
     clear l2 X1 L1)
  | (with_reducible show wpList _ _ _ (⟨_, Op.buildSlice 63 8 _, _, _, _, none⟩ :: _) _ _
     refine wpList_intsL rfl 8 _ rfl [(0, .int .i64 1), (1, .int .i64 x.k), (2, .int .i64 1), (3, .int .i64 x.u), (4, .int .i64 2), (5, .int .i64 x.b), (6, .int .i64 2), (7, .int .i64 x.m)] rfl [1, x.k, 1, x.u, 2, x.b, 2, x.m] rfl (by decide) (by decide) (fill_int8 1 x.k 1 x.u 2 x.b 2 x.m) ?_
     intro w3 o3 l3 s3
     have O3 := Lib.hid (o3.lower X2.out.lt : OwnL 3 1 intC w3 (w.heap.size + 1) _ _ _)
     have X3 := Lib.hid (X2.out.keep (l3.block _ X2.out.lt))
     have L3 := Lib.hid (L2.out.trans (l3.mono L2.out.size))
     have LX3 := Lib.hid X2.out.lt
     clear o3 l3 s3 X2 L2 c0 c1 c2 c3 c4 c10
     obtain ⟨c0, c1, c2, c3, c4, c10⟩ := boxCm X3.out
     obtain ⟨c5, c6, c7, c8, c9⟩ := boxCmO X3.out
     rw [HST.out] at c10)
  | (with_reducible show wpList _ _ _ (⟨_, Op.buildSlice 63 10 _, _, _, _, none⟩ :: _) _ _
     refine wpList_intsL rfl 10 _ rfl [(0, .int .i64 1), (1, .int .i64 x.o.op), (2, .int .i64 8), (3, .int .i64 x.o.key), (4, .int .i64 8), (5, .int .i64 x.o.new), (6, .int .i64 1), (7, .int .i64 x.o.ty), (8, .int .i64 1), (9, .int .i64 1)] rfl [1, x.o.op, 8, x.o.key, 8, x.o.new, 1, x.o.ty, 1, 1] rfl (by decide) (by decide) (fill_int10 1 x.o.op 8 x.o.key 8 x.o.new 1 x.o.ty 1 1) ?_
     intro w4 o4 l4 s4
     have O4 := Lib.hid (O3.out.below (Nat.le_refl _) l4)
     have T4 := Lib.hid (OwnL.rows2 elemInt.len o4)
     have X4 := Lib.hid (X3.out.keep (l4.block _ X3.out.lt))
     have L4 := Lib.hid (L3.out.trans (l4.mono L3.out.size))
     clear o4 l4 s4 L3 O3 c0 c1 c2 c3 c4 c5 c6 c7 c8 c9 c10)
  | (at_builtin
     refine wpList_append_list elemInt rfl _ _ rfl (w.heap.size + 1) w3.heap.size _ [1, x.k, 1, x.u, 2, x.b, 2, x.m] [1, x.o.op, 8, x.o.key, 8, x.o.new, 1, x.o.ty, 1, 1] _ 10 10 rfl rfl rfl O4.out T4.out (by simp) (by decide) (by have := L4.out.size; have := X4.out.lt; omega) ?_
     intro v5 w5 o5 g5 r5
     have b5 := below_own1 g5 O4.out.block (by have := X4.out.lt; omega)
     have O5 := Lib.hid o5
     have X5 := Lib.hid (X4.out.keep (b5.block _ (Nat.lt_succ_self _)))
     have L5 := Lib.hid (L4.out.trans (b5.mono (Nat.le_succ _)))
     clear o5 g5 r5 b5 O4 T4 X4 L4 X3))
  have hof := O5.out
  rw [← HFL.out] at hof
  obtain ⟨qp, cp, hv, -, -, hrw, -⟩ := hof.rows elemInt.len
  rw [HFF.out] at hv
  obtain ⟨M, hM⟩ : ∃ M, M = 2 * N := ⟨_, rfl⟩
  rw [← hM] at hv
  have HM := Lib.hid hM
  subst hv
  clear hM
  have HRW := Lib.hid hrw
  have PX := Lib.hid X5.out
  have PL := Lib.hid L5.out
  clear hof hrw HFL O5 X5 L5
  generalize w5 = wb at *
  go_loopw [7, 6] (fun v7 v6 wr => ∃ k i : Nat, i = 2 * k ∧ k ≤ N ∧ v7 = .int .i64 i ∧ OwnS 5 1 wr wb.heap.size wr.heap.size v6 (bytesN ((numsC x).take k)).1 FF ∧ Below wb.heap.size wb wr) (fun v7 _ _ => 2 * N - (intOf v7).toNat)
  case atStart => exact ⟨0, 0, rfl, Nat.zero_le _, rfl, by rw [HB0.out]; exact OwnS.nil _ _ _ _ _ _, Below.refl _ _⟩
  case round =>
    obtain ⟨k2, i, hi, hk2, rfl, ho, hb⟩ := hrel
    have HO := Lib.hid ho
    have HB := Lib.hid hb
    have HF := Lib.hid (HFW.out k2)
    have HI := Lib.hid hi
    clear ho hb HB0 HFW hi
    by_cases hlt : k2 < N
    · have f1 : (i : Int) < (M : Int) := by have := HM.out; have := HI.out; omega
      have HLT := Lib.hid hlt
      obtain ⟨i1, hi1⟩ : ∃ i1, i1 = i + 1 := ⟨_, rfl⟩
      obtain ⟨i2, hi2⟩ : ∃ i2, i2 = i + 2 := ⟨_, rfl⟩
      have HK1 := Lib.hid (show IntKind.i64.wrap ((i : Int) + 1) = (i1 : Int) by have := HLN.out; have := HI.out; rw [IntWalk.i64_in _ (by omega)]; omega)
      have f3 : IntKind.i64.wrap ((i : Int) + 2) = (i2 : Int) := by have := HLN.out; have := HI.out; rw [IntWalk.i64_in _ (by omega)]; omega
      have HI1 := Lib.hid hi1
      have HI2 := Lib.hid hi2
      obtain ⟨s, z, hsz, hs, hz'⟩ := HOK.out k2 hlt
      have hat := HAT.out k2 hlt
      have hgt := HGT.out k2 hlt
      have hnx := HNX.out k2 hlt
      rw [hsz] at hat hgt hnx
      rw [step_is] at hnx
      have HS := Lib.hid hs
      have HZ := Lib.hid hz'
      have HNX1 := Lib.hid (show (bytesN ((numsC x).take (k2 + 1))).1 = (bytesN ((numsC x).take k2)).1 + s by rw [hnx])
      have HATS := Lib.hid (show ∀ j, j < s → numF s z j = FF ((bytesN ((numsC x).take k2)).1 + j) from fun j hj => (hat j (by show j < (s : Int).toNat; rw [Int.toNat_natCast]; exact hj)).symm)
      obtain ⟨PB, po, hqp, hPB, hcs⟩ := ints_cells HRW.out (by rw [HFF.out]; omega)
      have CS := Lib.hid (show wr.drew.cell? ⟨PB, po + i, none⟩ = some (.int .i64 s) from ((HB.out.drew).cell (p := ⟨PB, po + i, none⟩) hPB).trans ((hcs i (by rw [HFF.out, HI.out]; omega)).trans (by rw [HI.out, hgt.1])))
      have CZ := Lib.hid (show wr.drew.cell? ⟨PB, po + i1, none⟩ = some (.int .i64 z) from ((HB.out.drew).cell (p := ⟨PB, po + i1, none⟩) hPB).trans ((hcs i1 (by rw [HFF.out, hi1, HI.out]; omega)).trans (by rw [hi1, HI.out, hgt.2])))
      have HPB := Lib.hid (show PB < wr.heap.size from Nat.lt_of_lt_of_le hPB HB.out.size)
      have HIM := Lib.hid (show i < M by have := HM.out; have := HI.out; omega)
      have HIM1 := Lib.hid (show i1 < M by have := HM.out; have := HI.out; omega)
      rw [hqp] at *
      clear hlt hk2 hsz hs hz' hat hgt hnx hPB hcs hi1 hi2 hqp HOK HAT HGT HNX HRW HFF HBN
      generalize (bytesN ((numsC x).take k2)).1 = m at *
      go_wp2
      refine wp_region_sched [(0, true), (1, true), (2, true), (3, true), (4, true), (5, true), (6, true), (7, true), (8, true), (9, false), (10, true), (11, true), (12, true), (13, true), (14, true)] (fun V => V.cell? ⟨PB, po + i, none⟩ = some (.int .i64 s) ∧ V.cell? ⟨PB, po + i1, none⟩ = some (.int .i64 z)) (by kernel_rfl) (by kernel_rfl) ⟨CS.out, CZ.out⟩ ?_
      refine walk_float rfl rfl (fun K hK => ?_)
      refine gives_move _ rfl ?_
      go_simp
      refine hK _ ?_
      clear hK K
      refine walk_float rfl rfl (fun K hK => ?_)
      refine gives_move _ rfl ?_
      go_simp
      refine hK _ ?_
      clear hK K
      refine walk_float rfl rfl (fun K hK => ?_)
      refine gives_int_elem _ _ rfl PB po M cp i rfl rfl HIM.out ?_
      go_simp
      refine hK _ ?_
      clear hK K
      refine walk_float rfl rfl (fun K hK => ?_)
      refine gives_cell 3 _ rfl ⟨PB, po + (i), none⟩ (.int .i64 s) rfl box_int (fun V hV => hV.1) ?_
      go_simp
      refine hK _ ?_
      clear hK K
      refine walk_float rfl rfl (fun K hK => ?_)
      refine gives_move _ rfl ?_
      go_simp
      refine hK _ ?_
      clear hK K
      refine walk_float rfl rfl (fun K hK => ?_)
      refine gives_move _ rfl ?_
      go_simp
      refine hK _ ?_
      clear hK K
      refine walk_float rfl rfl (fun K hK => ?_)
      refine gives_int_sum _ _ rfl (i : Int) 1 (i1 : Int) rfl rfl HK1.out ?_
      go_simp
      refine hK _ ?_
      clear hK K
      refine walk_float rfl rfl (fun K hK => ?_)
      refine gives_int_elem _ _ rfl PB po M cp i1 rfl rfl HIM1.out ?_
      go_simp
      refine hK _ ?_
      clear hK K
      refine walk_float rfl rfl (fun K hK => ?_)
      refine gives_cell 3 _ rfl ⟨PB, po + (i1), none⟩ (.int .i64 z) rfl box_int (fun V hV => hV.2) ?_
      go_simp
      refine hK _ ?_
      clear hK K
      refine walk_done rfl rfl (fun K hK => ?_)
      refine done_call2 _ _ _ _ rfl 30 rfl (.int .i64 s) (.int .i64 z) rfl rfl (enters_of Try.func30 (by kernel_rfl) rfl) ?_
      refine (refNumber_ok s z HS.out HZ.out _).mono ?_
      rintro e z1 ⟨pN, cN, rfl, bN, l6⟩
      have BN := Lib.hid bN
      have l6 : Below wr.heap.size wr z1 := (Below.refl _ wr).drew.trans l6
      have L6 := Lib.hid l6
      refine ⟨_, rfl, ?_⟩
      refine ⟨⟨(l6.cell (p := ⟨PB, po + i, none⟩) HPB.out).trans CS.out, (l6.cell (p := ⟨PB, po + i1, none⟩) HPB.out).trans CZ.out⟩, ?_⟩
      go_simp
      refine hK _ _ ?_
      clear hK K l6
      refine walk_float rfl rfl (fun K hK => ?_)
      refine gives_move _ rfl ?_
      go_simp
      refine hK _ ?_
      clear hK K
      refine walk_float rfl rfl (fun K hK => ?_)
      refine gives_extract _ 0 rfl _ rfl (.slice pN s cN) rfl ?_
      go_simp
      refine hK _ ?_
      clear hK K
      refine walk_float rfl rfl (fun K hK => ?_)
      refine gives_extract _ 1 rfl _ rfl (.int .i64 0) rfl ?_
      go_simp
      refine hK _ ?_
      clear hK K
      refine walk_float rfl rfl (fun K hK => ?_)
      refine gives_assign _ rfl ?_
      go_simp
      refine hK _ ?_
      clear hK K
      refine walk_float rfl rfl (fun K hK => ?_)
      refine gives_assign _ rfl ?_
      go_simp
      refine hK _ ?_
      clear hK K
      refine walk_nil ?_
      have O7 := Lib.hid (show OwnS 5 1 z1 wb.heap.size z1.heap.size u6 m FF from (HO.out.same (fun B _ hB => L6.out.block B hB)).raise L6.out.size)
      have B7 := Lib.hid (HB.out.trans (L6.out.mono HB.out.size))
      go_wp2_with (first
      | (at_builtin
         obtain ⟨v8, w8, hr8, o8, l8⟩ := append_own_run z1 22 O7.out pN s cN BN.out HATS.out (by have := HF.out; have := size_le HS.out; omega) B7.out.size
         refine wpList_append rfl _ _ _ _ rfl _ _ rfl rfl v8 w8 hr8 ?_
         have O8 := Lib.hid o8
         have B8 := Lib.hid (B7.out.trans l8)
         clear hr8 o8 l8 O7 B7))
      go_roundw
      case rel => exact ⟨k2 + 1, i2, by have := HI2.out; have := HI.out; omega, HLT.out, by go_num, by rw [HNX1.out]; exact O8.out, B8.out⟩
      case measure => have := HLT.out; have := HI.out; have := HI2.out; simp [intOf]; omega
    · have f3 : ¬ (i : Int) < (M : Int) := by have := HM.out; have := HI.out; omega
      obtain rfl : k2 = N := by omega
      have hof := HO.out
      rw [HBN.out] at hof
      have PX2 := PX.out.keep (HB.out.block _ PX.out.lt)
      obtain ⟨c0, c1, c2, c3, c4, c10⟩ := boxCm PX2
      have PL2 := Lib.hid (PL.out.trans (HB.out.mono PL.out.size))
      obtain ⟨v9, w9, hr9, o9, l9⟩ := append_own_run wr 22 hof q n c (HQ.out _ PL2.out) (fun j _ => HAG.out j) (by have := HLC.out; have := HNF.out; omega) HB.out.size
      have HR9 := Lib.hid hr9
      obtain ⟨bp, bc, hv, hbc, -, hby, hlo⟩ := o9.bytes (Nat.le_refl _)
      subst hv
      have HBY := Lib.hid hby
      have HLW := Lib.hid (PL2.out.trans (l9.mono (by have := PL.out.size; omega)))
      clear hlt hk2 hof hby hbc hlo HO HB HOK HAT HGT HNX HRW HFF HBN HF hr9 o9 l9 PX2 PX
      go_wp2_with (first
      | (at_builtin
         refine wpList_append rfl _ _ _ _ rfl _ _ rfl rfl _ _ HR9.out ?_))
      go_ret2
      exact ⟨bp, ⟨bc, rfl⟩, HBY.out, HLW.out⟩
set_option maxRecDepth 100000 in
set_option maxHeartbeats 16000000 in
theorem refEncode_off {w : World} {q : Option Addr} {n c : Nat} {g : Nat → Nat} {x : CmdOf} (hq : BytesAt w q n g) (hg : goodC x n = true) (h6 : x.k = 6) (hs : x.o.s = false) :
    Calls Try.prog 12 #[.agg (cmA q n c x)] w fun e w' => ∃ p c', e = .returned (.tuple #[.slice p (lenC x + n) c', .bool true]) ∧ BytesAt w' p (lenC x + n) (allC x g) ∧ Below w.heap.size w w' := by
  have HQ := Lib.hid (fun (W : World) (hb : Below w.heap.size w W) => hq.below hb)
  have G := good_iff.1 hg
  have HG := Lib.hid hg
  have HNF := Lib.hid (good_few G)
  have HFL := Lib.hid (show flatN (numsC x) = [1, x.k, 1, x.u, 2, x.b, 2, x.m] ++ [1, x.o.op, 8, x.o.key, 8, x.o.new, 1, x.o.ty, 1, 0] by exact flat_six h6 _ (by rw [hs]; rfl))
  have HST := Lib.hid hs
  have HOK := Lib.hid (fun k (hk : k < (numsC x).length) => nat_of (nums_ok G (atR (numsC x) k) (List.mem_of_getElem? (atR_get hk))))
  have HNX := Lib.hid (fun k (hk : k < (numsC x).length) => bytes_next (l := numsC x) hk)
  have HAT := Lib.hid (fun k (hk : k < (numsC x).length) => all_at (g := g) hk)
  have HGT := Lib.hid (fun k (hk : k < (numsC x).length) => flatn_get (numsC x) k hk)
  have HFW := Lib.hid (fun k => take_few G k)
  have HB0 := Lib.hid (show (bytesN ((numsC x).take 0)).1 = 0 by unfold bytesN; rfl)
  have HBN := Lib.hid (show (bytesN ((numsC x).take (numsC x).length)).1 = lenC x by rw [List.take_of_length_le (Nat.le_refl _)]; unfold lenC; rfl)
  have HFF := Lib.hid (flatn_len (numsC x))
  have HLN := Lib.hid (nums_len x)
  have HAG := Lib.hid (show ∀ j, g j = allC x g (lenC x + j) by intro j; unfold allC cat; rw [if_neg (by omega), Nat.add_sub_cancel_left])
  have HLC := Lib.hid (lenC_le x)
  have e1 : (x.k == 6) = true := by simp [h6]
  obtain ⟨N, hN⟩ : ∃ N, (numsC x).length = N := ⟨_, rfl⟩
  rw [hN] at HOK HNX HAT HGT HBN HLN HFF
  clear hq hg G h6 hN hs
  generalize allC x g = FF at *
  go_enter Try.func12, Try.ntmps12
  go_wp2_with (first
  | (with_reducible show wpList _ _ _ (⟨some 1, Op.box cmT _, _, _, _, none⟩ :: _) _ _
     refine wpList_boxA_of rfl _ rfl (cmA q n c x) rfl ?_
     intro w1 x1 l1 s1
     have X1 := Lib.hid x1
     have L1 := Lib.hid l1
     clear x1 l1 s1)
  | (with_reducible show wpList _ _ _ (⟨some 10, Op.load cmT _, _, _, _, _⟩ :: _) _ _
     refine wpList_boxA_loadw rowCm _ rfl rfl w.heap.size (cmA q n c x) rfl rfl X1.out ?_)
  | (go_at_call 29
     refine refGood_any.mono ?_; rintro e w2 ⟨rfl, l2⟩
     rw [HG.out]
     have X2 := Lib.hid (X1.out.keep (l2.block _ X1.out.lt))
     have L2 := Lib.hid (L1.out.trans (l2.mono L1.out.size))
     obtain ⟨c0, c1, c2, c3, c4, c10⟩ := boxCm X2.out
     clear l2 X1 L1)
  | (with_reducible show wpList _ _ _ (⟨_, Op.buildSlice 63 8 _, _, _, _, none⟩ :: _) _ _
     refine wpList_intsL rfl 8 _ rfl [(0, .int .i64 1), (1, .int .i64 x.k), (2, .int .i64 1), (3, .int .i64 x.u), (4, .int .i64 2), (5, .int .i64 x.b), (6, .int .i64 2), (7, .int .i64 x.m)] rfl [1, x.k, 1, x.u, 2, x.b, 2, x.m] rfl (by decide) (by decide) (fill_int8 1 x.k 1 x.u 2 x.b 2 x.m) ?_
     intro w3 o3 l3 s3
     have O3 := Lib.hid (o3.lower X2.out.lt : OwnL 3 1 intC w3 (w.heap.size + 1) _ _ _)
     have X3 := Lib.hid (X2.out.keep (l3.block _ X2.out.lt))
     have L3 := Lib.hid (L2.out.trans (l3.mono L2.out.size))
     have LX3 := Lib.hid X2.out.lt
     clear o3 l3 s3 X2 L2 c0 c1 c2 c3 c4 c10
     obtain ⟨c0, c1, c2, c3, c4, c10⟩ := boxCm X3.out
     obtain ⟨c5, c6, c7, c8, c9⟩ := boxCmO X3.out
     rw [HST.out] at c10)
  | (with_reducible show wpList _ _ _ (⟨_, Op.buildSlice 63 10 _, _, _, _, none⟩ :: _) _ _
     refine wpList_intsL rfl 10 _ rfl [(0, .int .i64 1), (1, .int .i64 x.o.op), (2, .int .i64 8), (3, .int .i64 x.o.key), (4, .int .i64 8), (5, .int .i64 x.o.new), (6, .int .i64 1), (7, .int .i64 x.o.ty), (8, .int .i64 1), (9, .int .i64 0)] rfl [1, x.o.op, 8, x.o.key, 8, x.o.new, 1, x.o.ty, 1, 0] rfl (by decide) (by decide) (fill_int10 1 x.o.op 8 x.o.key 8 x.o.new 1 x.o.ty 1 0) ?_
     intro w4 o4 l4 s4
     have O4 := Lib.hid (O3.out.below (Nat.le_refl _) l4)
     have T4 := Lib.hid (OwnL.rows2 elemInt.len o4)
     have X4 := Lib.hid (X3.out.keep (l4.block _ X3.out.lt))
     have L4 := Lib.hid (L3.out.trans (l4.mono L3.out.size))
     clear o4 l4 s4 L3 O3 c0 c1 c2 c3 c4 c5 c6 c7 c8 c9 c10)
  | (at_builtin
     refine wpList_append_list elemInt rfl _ _ rfl (w.heap.size + 1) w3.heap.size _ [1, x.k, 1, x.u, 2, x.b, 2, x.m] [1, x.o.op, 8, x.o.key, 8, x.o.new, 1, x.o.ty, 1, 0] _ 10 10 rfl rfl rfl O4.out T4.out (by simp) (by decide) (by have := L4.out.size; have := X4.out.lt; omega) ?_
     intro v5 w5 o5 g5 r5
     have b5 := below_own1 g5 O4.out.block (by have := X4.out.lt; omega)
     have O5 := Lib.hid o5
     have X5 := Lib.hid (X4.out.keep (b5.block _ (Nat.lt_succ_self _)))
     have L5 := Lib.hid (L4.out.trans (b5.mono (Nat.le_succ _)))
     clear o5 g5 r5 b5 O4 T4 X4 L4 X3))
  have hof := O5.out
  rw [← HFL.out] at hof
  obtain ⟨qp, cp, hv, -, -, hrw, -⟩ := hof.rows elemInt.len
  rw [HFF.out] at hv
  obtain ⟨M, hM⟩ : ∃ M, M = 2 * N := ⟨_, rfl⟩
  rw [← hM] at hv
  have HM := Lib.hid hM
  subst hv
  clear hM
  have HRW := Lib.hid hrw
  have PX := Lib.hid X5.out
  have PL := Lib.hid L5.out
  clear hof hrw HFL O5 X5 L5
  generalize w5 = wb at *
  go_loopw [7, 6] (fun v7 v6 wr => ∃ k i : Nat, i = 2 * k ∧ k ≤ N ∧ v7 = .int .i64 i ∧ OwnS 5 1 wr wb.heap.size wr.heap.size v6 (bytesN ((numsC x).take k)).1 FF ∧ Below wb.heap.size wb wr) (fun v7 _ _ => 2 * N - (intOf v7).toNat)
  case atStart => exact ⟨0, 0, rfl, Nat.zero_le _, rfl, by rw [HB0.out]; exact OwnS.nil _ _ _ _ _ _, Below.refl _ _⟩
  case round =>
    obtain ⟨k2, i, hi, hk2, rfl, ho, hb⟩ := hrel
    have HO := Lib.hid ho
    have HB := Lib.hid hb
    have HF := Lib.hid (HFW.out k2)
    have HI := Lib.hid hi
    clear ho hb HB0 HFW hi
    by_cases hlt : k2 < N
    · have f1 : (i : Int) < (M : Int) := by have := HM.out; have := HI.out; omega
      have HLT := Lib.hid hlt
      obtain ⟨i1, hi1⟩ : ∃ i1, i1 = i + 1 := ⟨_, rfl⟩
      obtain ⟨i2, hi2⟩ : ∃ i2, i2 = i + 2 := ⟨_, rfl⟩
      have HK1 := Lib.hid (show IntKind.i64.wrap ((i : Int) + 1) = (i1 : Int) by have := HLN.out; have := HI.out; rw [IntWalk.i64_in _ (by omega)]; omega)
      have f3 : IntKind.i64.wrap ((i : Int) + 2) = (i2 : Int) := by have := HLN.out; have := HI.out; rw [IntWalk.i64_in _ (by omega)]; omega
      have HI1 := Lib.hid hi1
      have HI2 := Lib.hid hi2
      obtain ⟨s, z, hsz, hs, hz'⟩ := HOK.out k2 hlt
      have hat := HAT.out k2 hlt
      have hgt := HGT.out k2 hlt
      have hnx := HNX.out k2 hlt
      rw [hsz] at hat hgt hnx
      rw [step_is] at hnx
      have HS := Lib.hid hs
      have HZ := Lib.hid hz'
      have HNX1 := Lib.hid (show (bytesN ((numsC x).take (k2 + 1))).1 = (bytesN ((numsC x).take k2)).1 + s by rw [hnx])
      have HATS := Lib.hid (show ∀ j, j < s → numF s z j = FF ((bytesN ((numsC x).take k2)).1 + j) from fun j hj => (hat j (by show j < (s : Int).toNat; rw [Int.toNat_natCast]; exact hj)).symm)
      obtain ⟨PB, po, hqp, hPB, hcs⟩ := ints_cells HRW.out (by rw [HFF.out]; omega)
      have CS := Lib.hid (show wr.drew.cell? ⟨PB, po + i, none⟩ = some (.int .i64 s) from ((HB.out.drew).cell (p := ⟨PB, po + i, none⟩) hPB).trans ((hcs i (by rw [HFF.out, HI.out]; omega)).trans (by rw [HI.out, hgt.1])))
      have CZ := Lib.hid (show wr.drew.cell? ⟨PB, po + i1, none⟩ = some (.int .i64 z) from ((HB.out.drew).cell (p := ⟨PB, po + i1, none⟩) hPB).trans ((hcs i1 (by rw [HFF.out, hi1, HI.out]; omega)).trans (by rw [hi1, HI.out, hgt.2])))
      have HPB := Lib.hid (show PB < wr.heap.size from Nat.lt_of_lt_of_le hPB HB.out.size)
      have HIM := Lib.hid (show i < M by have := HM.out; have := HI.out; omega)
      have HIM1 := Lib.hid (show i1 < M by have := HM.out; have := HI.out; omega)
      rw [hqp] at *
      clear hlt hk2 hsz hs hz' hat hgt hnx hPB hcs hi1 hi2 hqp HOK HAT HGT HNX HRW HFF HBN
      generalize (bytesN ((numsC x).take k2)).1 = m at *
      go_wp2
      refine wp_region_sched [(0, true), (1, true), (2, true), (3, true), (4, true), (5, true), (6, true), (7, true), (8, true), (9, false), (10, true), (11, true), (12, true), (13, true), (14, true)] (fun V => V.cell? ⟨PB, po + i, none⟩ = some (.int .i64 s) ∧ V.cell? ⟨PB, po + i1, none⟩ = some (.int .i64 z)) (by kernel_rfl) (by kernel_rfl) ⟨CS.out, CZ.out⟩ ?_
      refine walk_float rfl rfl (fun K hK => ?_)
      refine gives_move _ rfl ?_
      go_simp
      refine hK _ ?_
      clear hK K
      refine walk_float rfl rfl (fun K hK => ?_)
      refine gives_move _ rfl ?_
      go_simp
      refine hK _ ?_
      clear hK K
      refine walk_float rfl rfl (fun K hK => ?_)
      refine gives_int_elem _ _ rfl PB po M cp i rfl rfl HIM.out ?_
      go_simp
      refine hK _ ?_
      clear hK K
      refine walk_float rfl rfl (fun K hK => ?_)
      refine gives_cell 3 _ rfl ⟨PB, po + (i), none⟩ (.int .i64 s) rfl box_int (fun V hV => hV.1) ?_
      go_simp
      refine hK _ ?_
      clear hK K
      refine walk_float rfl rfl (fun K hK => ?_)
      refine gives_move _ rfl ?_
      go_simp
      refine hK _ ?_
      clear hK K
      refine walk_float rfl rfl (fun K hK => ?_)
      refine gives_move _ rfl ?_
      go_simp
      refine hK _ ?_
      clear hK K
      refine walk_float rfl rfl (fun K hK => ?_)
      refine gives_int_sum _ _ rfl (i : Int) 1 (i1 : Int) rfl rfl HK1.out ?_
      go_simp
      refine hK _ ?_
      clear hK K
      refine walk_float rfl rfl (fun K hK => ?_)
      refine gives_int_elem _ _ rfl PB po M cp i1 rfl rfl HIM1.out ?_
      go_simp
      refine hK _ ?_
      clear hK K
      refine walk_float rfl rfl (fun K hK => ?_)
      refine gives_cell 3 _ rfl ⟨PB, po + (i1), none⟩ (.int .i64 z) rfl box_int (fun V hV => hV.2) ?_
      go_simp
      refine hK _ ?_
      clear hK K
      refine walk_done rfl rfl (fun K hK => ?_)
      refine done_call2 _ _ _ _ rfl 30 rfl (.int .i64 s) (.int .i64 z) rfl rfl (enters_of Try.func30 (by kernel_rfl) rfl) ?_
      refine (refNumber_ok s z HS.out HZ.out _).mono ?_
      rintro e z1 ⟨pN, cN, rfl, bN, l6⟩
      have BN := Lib.hid bN
      have l6 : Below wr.heap.size wr z1 := (Below.refl _ wr).drew.trans l6
      have L6 := Lib.hid l6
      refine ⟨_, rfl, ?_⟩
      refine ⟨⟨(l6.cell (p := ⟨PB, po + i, none⟩) HPB.out).trans CS.out, (l6.cell (p := ⟨PB, po + i1, none⟩) HPB.out).trans CZ.out⟩, ?_⟩
      go_simp
      refine hK _ _ ?_
      clear hK K l6
      refine walk_float rfl rfl (fun K hK => ?_)
      refine gives_move _ rfl ?_
      go_simp
      refine hK _ ?_
      clear hK K
      refine walk_float rfl rfl (fun K hK => ?_)
      refine gives_extract _ 0 rfl _ rfl (.slice pN s cN) rfl ?_
      go_simp
      refine hK _ ?_
      clear hK K
      refine walk_float rfl rfl (fun K hK => ?_)
      refine gives_extract _ 1 rfl _ rfl (.int .i64 0) rfl ?_
      go_simp
      refine hK _ ?_
      clear hK K
      refine walk_float rfl rfl (fun K hK => ?_)
      refine gives_assign _ rfl ?_
      go_simp
      refine hK _ ?_
      clear hK K
      refine walk_float rfl rfl (fun K hK => ?_)
      refine gives_assign _ rfl ?_
      go_simp
      refine hK _ ?_
      clear hK K
      refine walk_nil ?_
      have O7 := Lib.hid (show OwnS 5 1 z1 wb.heap.size z1.heap.size u6 m FF from (HO.out.same (fun B _ hB => L6.out.block B hB)).raise L6.out.size)
      have B7 := Lib.hid (HB.out.trans (L6.out.mono HB.out.size))
      go_wp2_with (first
      | (at_builtin
         obtain ⟨v8, w8, hr8, o8, l8⟩ := append_own_run z1 22 O7.out pN s cN BN.out HATS.out (by have := HF.out; have := size_le HS.out; omega) B7.out.size
         refine wpList_append rfl _ _ _ _ rfl _ _ rfl rfl v8 w8 hr8 ?_
         have O8 := Lib.hid o8
         have B8 := Lib.hid (B7.out.trans l8)
         clear hr8 o8 l8 O7 B7))
      go_roundw
      case rel => exact ⟨k2 + 1, i2, by have := HI2.out; have := HI.out; omega, HLT.out, by go_num, by rw [HNX1.out]; exact O8.out, B8.out⟩
      case measure => have := HLT.out; have := HI.out; have := HI2.out; simp [intOf]; omega
    · have f3 : ¬ (i : Int) < (M : Int) := by have := HM.out; have := HI.out; omega
      obtain rfl : k2 = N := by omega
      have hof := HO.out
      rw [HBN.out] at hof
      have PX2 := PX.out.keep (HB.out.block _ PX.out.lt)
      obtain ⟨c0, c1, c2, c3, c4, c10⟩ := boxCm PX2
      have PL2 := Lib.hid (PL.out.trans (HB.out.mono PL.out.size))
      obtain ⟨v9, w9, hr9, o9, l9⟩ := append_own_run wr 22 hof q n c (HQ.out _ PL2.out) (fun j _ => HAG.out j) (by have := HLC.out; have := HNF.out; omega) HB.out.size
      have HR9 := Lib.hid hr9
      obtain ⟨bp, bc, hv, hbc, -, hby, hlo⟩ := o9.bytes (Nat.le_refl _)
      subst hv
      have HBY := Lib.hid hby
      have HLW := Lib.hid (PL2.out.trans (l9.mono (by have := PL.out.size; omega)))
      clear hlt hk2 hof hby hbc hlo HO HB HOK HAT HGT HNX HRW HFF HBN HF hr9 o9 l9 PX2 PX
      go_wp2_with (first
      | (at_builtin
         refine wpList_append rfl _ _ _ _ rfl _ _ rfl rfl _ _ HR9.out ?_))
      go_ret2
      exact ⟨bp, ⟨bc, rfl⟩, HBY.out, HLW.out⟩
theorem refEncode_ok {w : World} {q : Option Addr} {n c : Nat} {g : Nat → Nat} {x : CmdOf} (hq : BytesAt w q n g) (hg : goodC x n = true) :
    Calls Try.prog 12 #[.agg (cmA q n c x)] w fun e w' => ∃ p c', e = .returned (.tuple #[.slice p (lenC x + n) c', .bool true]) ∧ BytesAt w' p (lenC x + n) (allC x g) ∧ Below w.heap.size w w' := by
  by_cases h : x.k = 6
  · cases hs : x.o.s
    · exact refEncode_off hq hg h hs
    · exact refEncode_sit hq hg h hs
  · exact refEncode_not hq hg h
set_option maxRecDepth 100000 in
set_option maxHeartbeats 8000000 in
theorem refEncode_no {w : World} {q : Option Addr} {n c : Nat} {x : CmdOf} (hg : goodC x n = false) :
    Calls Try.prog 12 #[.agg (cmA q n c x)] w fun e w' => e = .returned (.tuple #[.slice none 0 0, .bool false]) ∧ Below w.heap.size w w' := by
  have HG := Lib.hid hg
  clear hg
  go_enter Try.func12, Try.ntmps12
  go_wp2_with (first
  | (with_reducible show wpList _ _ _ (⟨some 1, Op.box cmT _, _, _, _, none⟩ :: _) _ _
     refine wpList_boxA_of rfl _ rfl (cmA q n c x) rfl ?_
     intro w1 x1 l1 s1
     have X1 := Lib.hid x1
     have L1 := Lib.hid l1
     clear x1 l1 s1)
  | (with_reducible show wpList _ _ _ (⟨some 10, Op.load cmT _, _, _, _, _⟩ :: _) _ _
     refine wpList_boxA_loadw rowCm _ rfl rfl w.heap.size (cmA q n c x) rfl rfl X1.out ?_)
  | (go_at_call 29
     refine refGood_any.mono ?_; rintro e w2 ⟨rfl, l2⟩
     rw [HG.out]
     have L2 := Lib.hid (L1.out.trans (l2.mono L1.out.size))
     clear l2 X1 L1))
  go_ret2
  exact ⟨rfl, L2.out⟩
end Go.Proofs.Ytkibeddfkenlkaa
