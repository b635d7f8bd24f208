/- The document's Note. -/
import Derived.Test.YtfnkdmdcjliebaaRvTd
/- What the document's Note stands on: the list of numbers and sizes as ints, where each number's bytes lie. Conditions: as each says. -/
namespace Go.Proofs.Ytfnkdmdcjliebaa
open Go.ChangeShapes Go.WideShapes Go.ChangeAt Go.RowKit
set_option linter.unusedVariables false
set_option linter.unusedSimpArgs false
def flatN (l : List (Int × Int)) : List Int := l.flatMap fun p => [p.1, p.2]
theorem flatn_len : ∀ l : List (Int × Int), (flatN l).length = 2 * l.length
  | [] => rfl
  | p :: l => by have h := flatn_len l; show (flatN l).length + 1 + 1 = 2 * (l.length + 1); omega
theorem flatn_get : ∀ (l : List (Int × Int)) (k : Nat), k < l.length → (flatN l).getD (2 * k) 0 = (atR l k).1 ∧ (flatN l).getD (2 * k + 1) 0 = (atR l k).2
  | [], k, h => by simp at h
  | p :: l, 0, h => ⟨rfl, rfl⟩
  | p :: l, k + 1, h => by
    have ih := flatn_get l k (by simpa using h)
    show (p.1 :: p.2 :: flatN l).getD (2 * k + 2) 0 = _ ∧ (p.1 :: p.2 :: flatN l).getD (2 * k + 2 + 1) 0 = _
    exact ih
theorem flatn_append (a b : List (Int × Int)) : flatN (a ++ b) = flatN a ++ flatN b := List.flatMap_append
theorem flatn_nums (r : ResvOf) : flatN (numsR r) = [8, r.g, 1, (if r.s then 1 else 0), 1, r.t, 1, (r.regs.length : Int), 8, IntKind.i64.wrap (r.h + 1)] ++ flatN (pairsR r.regs) := by
  show flatN (_ ++ pairsR r.regs) = _
  rw [flatn_append]; rfl
theorem flatn_next {ks : List (Int × Int)} {k : Nat} (hk : k < ks.length) : flatN (pairsR (ks.take (k + 1))) = flatN (pairsR (ks.take k)) ++ [8, (atR ks k).1, 8, (atR ks k).2] := by
  rw [pairs_next hk, flatn_append]; rfl
theorem flatn_zero (ks : List (Int × Int)) : flatN (pairsR (ks.take 0)) = [] := rfl
/-- Where a number's bytes lie. -/
theorem fold_split (l : List (Int × Int)) (k : Nat) (hk : k < l.length) : l = l.take k ++ atR l k :: l.drop (k + 1) := by
  rw [← drop_consR hk, List.take_append_drop]
theorem nums_at {l : List (Int × Int)} {k : Nat} (hk : k < l.length) : ∀ j, j < (atR l k).1.toNat → (bytesN l).2 ((bytesN (l.take k)).1 + j) = numF (atR l k).1.toNat (atR l k).2 j := by
  have h := (fold_laid l (0, zeroK)).2
  have hs := fold_size (l.take k) (0, zeroK)
  have e := fold_split l k hk
  have h2 : Laid (bytesN l).2 0 (l.take k ++ atR l k :: l.drop (k + 1)) := by rw [← e]; exact h
  have h3 := (laid_append _ _ _ h2).2
  intro j hj
  have h4 := h3.1 j hj
  have e2 : (bytesN (l.take k)).1 = 0 + sizeL (l.take k) := hs
  rw [e2]; exact h4
theorem ext_zero (F : Nat → Nat) : mk 128 (extF 0 F) = mk 128 zeroK := mk_ext fun j _ => by unfold extF; rw [if_neg (by omega)]; rfl
theorem ext_next (F : Nat → Nat) (i : Nat) : (mk 128 (extF i F)).set i ((F i : Nat) : Int) = mk 128 (extF (i + 1) F) :=
  mk_set_is rfl fun j _ => by
    unfold extF
    by_cases h : j = i
    · subst h; rw [if_pos rfl, if_pos (by omega)]
    · rw [if_neg h]
      by_cases h2 : j < i
      · rw [if_pos h2, if_pos (by omega)]
      · rw [if_neg h2, if_neg (by omega)]
section
variable {ops : Array Oper} {rest : List Oper} {o : Oper} {a : Act} {w : World} {Q : Exit → Act → World → Prop}
theorem gives_extr {C : World → Prop} {K : Act → Prop} (x : Operand) (i : Nat) (ho : o.op = .extract x i) (vs : Array Value) (v : Value) (hx : a.eval x = .tuple vs) (hv : vs[i]? = some v) (hk : K (a.put o.dst v)) : ∃ v, Gives Try.prog C o a v ∧ K (a.put o.dst v) :=
  ⟨_, fun w _ => by
    unfold execOp
    simp only [ho, hx]
    simp [go_sem, hv], hk⟩
/-- A slice of ints built with elements in it: its row. -/
theorem wpList_intsR (hgd : o.guard = none) (n : Nat) (xs : Array (Nat × Operand)) (ho : o.op = .buildSlice 65 n xs) (ys : List (Nat × Value)) (hx : xs.toList.map (fun (i, x) => (i, a.eval x)) = ys) (l : List Int) (hn : l.length = n) (hn0 : n ≠ 0) (hl : n ≤ 1000)
    (hf : Instr.fill (fun i => some (i * 1, 1)) ((Array.range (n * 1)).map ((Value.int .i64 0).cells[· % (Value.int .i64 0).cells.size]!)) ys = some (l.flatMap intC).toArray)
    (h : ∀ w', RowI w' w.heap.size l → Below w.heap.size w w' → w'.heap.size = w.heap.size + 1 → wpList Try.prog ops Q rest (a.put o.dst (.slice (some ⟨w.heap.size, 0, none⟩) n n)) w') : wpList Try.prog ops Q (o :: rest) a w :=
  wpList_plain hgd fun _ hK => by
    have e := run_intsL n hn0 hl ys.toArray l w hf
    have hx2 : xs.map (fun (i, x) => (i, a.eval x)) = ys.toArray := by rw [← hx]; apply Array.ext'; simp
    have ec : (l.flatMap intC).toArray = cellsOf .i64 l := by apply Array.ext'; rw [cells_flat]
    rw [ec] at e
    unfold Oper.wp execOp
    simp only [ho]
    rw [Sem.run_bind, hx2, e]
    exact hK _ _ (h _ (BoxA.alloc w 3 _) ((Below.refl _ _).alloc (Nat.le_refl _) _) (World.size_alloc _ _))
end
end Go.Proofs.Ytfnkdmdcjliebaa

/- The contract of the document's own Note. Conditions: the registrations lie in memory. -/
namespace Go.Proofs.Ytfnkdmdcjliebaa
open Go.ChangeShapes Go.WideShapes Go.ChangeAt Go.RowKit
set_option linter.unusedVariables false
set_option linter.unusedSimpArgs false
structure RnP (w : World) (A : Array Value) (V : World) : Prop where
  box : BoxA V w.heap.size rvT A
  res : BoxA V (w.heap.size + 1) ceT (cellsOf .u8 (mk 128 zeroK))
  low : Below w.heap.size w V
theorem RnP.mono {w V V' : World} {A : Array Value} (h : RnP w A V) (hb : Below V.heap.size V V') : RnP w A V' :=
  ⟨h.box.keep (hb.block _ h.box.lt), h.res.keep (hb.block _ h.res.lt), h.low.trans (hb.mono h.low.size)⟩
def secF (r : ResvOf) : Nat → Nat := if goodR r then noteF r else zeroK
theorem set3_is (g t m h : Int) : (cellsOf .i64 [8, g, 1, 0, 1, t, 1, m, 8, h]).setIfInBounds 3 (.int .i64 1) = cellsOf .i64 [8, g, 1, 1, 1, t, 1, m, 8, h] := by
  apply Array.ext'
  simp [cellsOf]
theorem set3_lt (g t m h : Int) : 3 < (cellsOf .i64 [8, g, 1, 0, 1, t, 1, m, 8, h]).size := by rw [cellsOf_size]; exact (by decide : 3 < 10)
attribute [local irreducible] regC atR pairsR numsR bytesN stepN cat numF mk extF zeroK regA flatN intC noteF
attribute [local go_sem] Oper.semAt_some
set_option maxRecDepth 100000 in
set_option maxHeartbeats 16000000 in
theorem refNote_yes {w : World} {q : Option Addr} {n c : Nat} {r : ResvOf} (hq : RvAt w q n c r) (hg : goodR r = true) (hs : r.s = true) :
    Calls Try.prog 24 #[.agg (resvA q n c r)] w fun e w' => e = .returned (.tuple #[.agg (cellsOf .u8 (mk 128 (noteF r))), .bool true]) ∧ Below w.heap.size w w' := by
  have HGD := Lib.hid (fun (W : World) (hb : Below w.heap.size w W) => (by have h := refGood_any (c := c) (RowsAt.below hq.at_ hb) hq.len hq.few; rw [hg] at h; exact h : Calls Try.prog 15 #[.agg (resvA q n c r)] W fun e w' => e = .returned (.bool true) ∧ Below W.heap.size W w'))
  have G := good_iff.1 hg
  have HR := Lib.hid (fun i (hi : i < r.regs.length) => regs_at hq.at_ (k := i) hi)
  have HFX := Lib.hid (fun i (hi : i < r.regs.length) => flatn_next (ks := r.regs) hi)
  have HFZ := Lib.hid (flatn_zero r.regs)
  have HFL := Lib.hid (fun i => (flatn_len (pairsR (r.regs.take i))).trans (by rw [pairs_len, List.length_take] : _ = 2 * (2 * min i r.regs.length)))
  have HALL := Lib.hid (show r.regs.take r.regs.length = r.regs from List.take_length)
  have HFN := Lib.hid (by have h := flatn_nums r; rw [hs] at h; exact h : flatN (numsR r) = [8, r.g, 1, 1, 1, r.t, 1, (r.regs.length : Int), 8, IntKind.i64.wrap (r.h + 1)] ++ flatN (pairsR r.regs))
  have HOK := Lib.hid (fun k (hk : k < (numsR r).length) => nat_of (nums_ok G (atR (numsR r) k) (List.mem_of_getElem? (atR_get hk))))
  have HNX := Lib.hid (fun k (hk : k < (numsR r).length) => bytes_next (l := numsR r) hk)
  have HAT := Lib.hid (fun k (hk : k < (numsR r).length) => nums_at (l := numsR r) hk)
  have HGT := Lib.hid (fun k (hk : k < (numsR r).length) => flatn_get (numsR r) k hk)
  have HFW := Lib.hid (fun k => take_few G k)
  have HB0 := Lib.hid (show (bytesN ((numsR r).take 0)).1 = 0 by unfold bytesN; rfl)
  have HBN := Lib.hid (show (bytesN ((numsR r).take (numsR r).length)).1 = noteL r by rw [List.take_of_length_le (Nat.le_refl _)]; rfl)
  have HNL := Lib.hid (show noteL r ≤ 104 by have h := take_few G (numsR r).length; rw [HBN.out] at h; exact h)
  have HNF := Lib.hid (show extF (noteL r) (bytesN (numsR r)).2 = noteF r by unfold noteF; rfl)
  have HFF := Lib.hid (flatn_len (numsR r))
  have HLN := Lib.hid (show (numsR r).length ≤ 13 by have h := nums_len r; have h2 := G.few; omega)
  have HN4 := Lib.hid (show n ≤ 4 by rw [← hq.len]; exact G.few)
  have HST := Lib.hid hs
  obtain ⟨N, hN⟩ : ∃ N, (numsR r).length = N := ⟨_, rfl⟩
  rw [hN] at HOK HNX HAT HGT HBN HLN HFF
  have HQN := Lib.hid hq.len
  rw [hq.len] at HR HFX HALL HFN HFL
  clear hq hg G hs hN
  obtain ⟨hz, hhz⟩ : ∃ hz, hz = IntKind.i64.wrap (r.h + 1) := ⟨_, rfl⟩
  rw [← hhz] at HFN
  have HHZ := Lib.hid hhz.symm
  clear hhz
  generalize (bytesN (numsR r)).2 = FF at HAT HNF
  go_enter Try.func24, Try.ntmps24
  go_wp2_with (first
  | (with_reducible show wpList _ _ _ (⟨_, Op.box rvT _, _, _, _, none⟩ :: _) _ _
     refine wpList_boxA_of rfl _ rfl (resvA q n c r) rfl ?_
     intro w1 x1 l1 s1
     have X1 := Lib.hid x1
     have L1 := Lib.hid l1
     have S1 := Lib.hid s1
     clear x1 l1 s1)
  | (with_reducible show wpList _ _ _ (⟨some 2, Op.alloc ceT, _, _, _, _⟩ :: _) _ _
     refine wpList_boxA_new rowCe rfl rfl (w.heap.size + 1) S1.out ?_
     intro w2 x2 l2 s2
     have P2 := Lib.hid (show RnP w (resvA q n c r) w2 from ⟨X1.out.keep (l2.block _ X1.out.lt), x2, L1.out.trans (l2.mono L1.out.size)⟩)
     clear x2 l2 s2 X1 L1 S1)
  | (with_reducible show wpList _ _ _ (⟨some 12, Op.load rvT _, _, _, _, none⟩ :: _) _ _
     refine wpList_boxA_load rowRv rfl _ rfl w.heap.size (resvA q n c r) rfl rfl P2.out.box ?_)
  | (go_at_call 15
     refine (HGD.out _ P2.out.low).mono ?_; rintro e w3 ⟨rfl, l3⟩
     have P3 := Lib.hid (P2.out.mono l3)
     obtain ⟨c0, c1, c2, c3, c4⟩ := boxRv P3.out.box
     rw [HST.out] at c3
     have hhz := HHZ.out
     clear l3 P2)
  | (with_reducible show wpList _ _ _ (⟨_, Op.buildSlice 65 10 _, _, _, _, none⟩ :: _) _ _
     refine wpList_intsR rfl 10 _ rfl [(0, .int .i64 8), (1, .int .i64 r.g), (2, .int .i64 1), (3, .int .i64 0), (4, .int .i64 1), (5, .int .i64 r.t), (6, .int .i64 1), (7, .int .i64 n), (8, .int .i64 8), (9, .int .i64 hz)] rfl [8, r.g, 1, 0, 1, r.t, 1, (n : Int), 8, hz] rfl (by decide) (by decide) (fill_int10 8 r.g 1 0 1 r.t 1 n 8 hz) ?_
     intro w4 i4 l4 s4
     have I4 := Lib.hid i4
     have L4 := Lib.hid l4
     have S4 := Lib.hid s4
     obtain ⟨c0, c1, c2, c3, c4⟩ := boxRv (P3.out.mono l4).box
     rw [HST.out] at c3
     clear i4 l4 s4 hhz)
  | (with_reducible show wpList _ _ _ (⟨some 30, Op.indexAddr 65 _ _, _, _, _, none⟩ :: _) _ _
     refine wpList_int_elem rfl _ _ rfl w3.heap.size 0 10 10 3 rfl rfl (by decide) ?_)
  | (with_reducible show wpList _ _ _ (⟨_, Op.store 3 _ _, _, _, _, none⟩ :: _) _ _
     refine wpList_boxA_int rfl _ _ rfl rfl w3.heap.size 3 1 rfl rfl I4.out (set3_lt _ _ _ _) ?_
     intro w5 x5 k5 s5
     rw [set3_is] at x5
     have I5 := Lib.hid (show RowI w5 w3.heap.size [8, r.g, 1, 1, 1, r.t, 1, (n : Int), 8, hz] from x5)
     have L5 := Lib.hid (L4.out.trans (k5.below L4.out.size (fun j hj e => by omega)))
     have S5 := Lib.hid (show w5.heap.size = w3.heap.size + 1 from s5.trans S4.out)
     clear x5 k5 s5 I4 L4 S4)
)
  have OP := Lib.hid (RowI.own I5.out (Nat.le_refl _) (Nat.lt_succ_self _) rfl (by decide) : OwnL 3 1 intC w5 w3.heap.size (w3.heap.size + 1) (.slice (some ⟨w3.heap.size, 0, none⟩) 10 10) [8, r.g, 1, 1, 1, r.t, 1, (n : Int), 8, hz])
  have BP := Lib.hid L5.out
  have SP := Lib.hid S5.out
  generalize w5 = wq at *
  clear I5 L5 S5
  clear HHZ HGD HST
  have HB4 := Lib.hid (show w.heap.size < w3.heap.size from P3.out.box.lt)
  have c0 := (P3.out.mono BP.out).box.cell 0
  go_wp2
  go_loopw [6, 5] (fun v6 v5 wr => ∃ k : Nat, k ≤ n ∧ v6 = .int .i64 k ∧ OwnL 3 1 intC wr w3.heap.size wr.heap.size v5 ([8, r.g, 1, 1, 1, r.t, 1, (n : Int), 8, hz] ++ flatN (pairsR (r.regs.take k))) ∧ Below w3.heap.size w3 wr) (fun v6 _ _ => n - (intOf v6).toNat)
  case atStart => exact ⟨0, Nat.zero_le _, rfl, by rw [HFZ.out, List.append_nil]; exact OP.out.raise (by have := SP.out; omega), BP.out⟩
  case round =>
    obtain ⟨k, hk, rfl, ho, hb⟩ := hrel
    have HB := Lib.hid hb
    have P4r := Lib.hid (P3.out.mono hb)
    have HO := Lib.hid ho
    have HLE := Lib.hid (show ([8, r.g, 1, 1, 1, r.t, 1, (n : Int), 8, hz] ++ flatN (pairsR (r.regs.take k))).length ≤ 3000 by have h := HFL.out k; have h2 := HN4.out; have h3 := HQN.out; rw [List.length_append, h]; simp; omega)
    clear ho hb OP BP SP c0
    obtain ⟨c0, c1, c2, c3, c4⟩ := boxRv P4r.out.box
    by_cases hlt : k < n
    · have f1 : (k : Int) < (n : Int) := by omega
      have HLT := Lib.hid hlt
      have f3 : IntKind.i64.wrap ((k : Int) + 1) = ((k + 1 : Nat) : Int) := by have := HN4.out; rw [IntWalk.i64_in _ (by omega)]; omega
      obtain ⟨QB, qo, rfl, hQB, hrg⟩ := HR.out k hlt
      have HFX1 := Lib.hid (HFX.out k hlt)
      have HRG := Lib.hid (fun (W : World) (hb : Below w.heap.size w W) => rangeAt_below hrg hb hQB)
      clear hlt hk HR HFX hrg hQB HFN HOK HNX HAT HGT HFW HFF HALL HFL
      generalize atR r.regs k = p at *
      obtain ⟨pw, pk⟩ := p
      have HL2 := Lib.hid (show [8, r.g, 1, 1, 1, r.t, 1, (n : Int), 8, hz] ++ flatN (pairsR (r.regs.take (k + 1))) = ([8, r.g, 1, 1, 1, r.t, 1, (n : Int), 8, hz] ++ flatN (pairsR (r.regs.take k))) ++ [8, pw, 8, pk] by rw [HFX1.out, List.append_assoc])
      generalize [8, r.g, 1, 1, 1, r.t, 1, (n : Int), 8, hz] ++ flatN (pairsR (r.regs.take k)) = L at *
      clear HFX1
      go_wp2
      refine wp_region_sched [(0, true), (1, true), (2, true), (3, true), (4, true), (5, true), (6, true), (7, true), (8, true), (9, true), (10, true), (11, true), (12, true), (13, false), (14, false), (15, true)] (fun V => Below w3.heap.size wr V) (by kernel_rfl) (by kernel_rfl) (Below.refl _ wr).drew ?_
      refine walk_float rfl rfl (fun K hK => ?_)
      refine gives_move _ rfl ?_
      go_simp
      refine hK _ ?_
      clear hK K
      refine walk_float rfl rfl (fun K hK => ?_)
      refine gives_rvfield _ 0 rfl (by decide) w.heap.size rfl ?_
      go_simp
      refine hK _ ?_
      clear hK K
      refine walk_float rfl rfl (fun K hK => ?_)
      refine gives_cell rgS _ rfl ⟨w.heap.size, 0, none⟩ (.slice (some ⟨QB, qo, none⟩) n c) rfl box_regs (fun V hV => (P4r.out.box.keep (hV.block _ HB4.out)).cell 0) ?_
      go_simp
      refine hK _ ?_
      clear hK K
      refine walk_float rfl rfl (fun K hK => ?_)
      refine gives_move _ rfl ?_
      go_simp
      refine hK _ ?_
      clear hK K
      refine walk_float rfl rfl (fun K hK => ?_)
      refine gives_reg_elem _ _ rfl QB qo n c k rfl rfl HLT.out ?_
      go_simp
      refine hK _ ?_
      clear hK K
      refine walk_float rfl rfl (fun K hK => ?_)
      refine gives_rg_who _ rfl QB (qo + 2 * k) rfl ?_
      go_simp
      refine hK _ ?_
      clear hK K
      refine walk_float rfl rfl (fun K hK => ?_)
      refine gives_cell 3 _ rfl ⟨QB, (qo + 2 * k), none⟩ (.int .i64 pw) rfl box_int (fun V hV => reg_c0 (HRG.out V (P4r.out.low.trans (hV.mono (Nat.le_of_lt HB4.out))))) ?_
      go_simp
      refine hK _ ?_
      clear hK K
      refine walk_float rfl rfl (fun K hK => ?_)
      refine gives_rvfield _ 0 rfl (by decide) w.heap.size rfl ?_
      go_simp
      refine hK _ ?_
      clear hK K
      refine walk_float rfl rfl (fun K hK => ?_)
      refine gives_cell rgS _ rfl ⟨w.heap.size, 0, none⟩ (.slice (some ⟨QB, qo, none⟩) n c) rfl box_regs (fun V hV => (P4r.out.box.keep (hV.block _ HB4.out)).cell 0) ?_
      go_simp
      refine hK _ ?_
      clear hK K
      refine walk_float rfl rfl (fun K hK => ?_)
      refine gives_move _ rfl ?_
      go_simp
      refine hK _ ?_
      clear hK K
      refine walk_float rfl rfl (fun K hK => ?_)
      refine gives_reg_elem _ _ rfl QB qo n c k rfl rfl HLT.out ?_
      go_simp
      refine hK _ ?_
      clear hK K
      refine walk_float rfl rfl (fun K hK => ?_)
      refine gives_rg_key _ rfl QB (qo + 2 * k) rfl ?_
      go_simp
      refine hK _ ?_
      clear hK K
      refine walk_float rfl rfl (fun K hK => ?_)
      refine gives_cell 3 _ rfl ⟨QB, ((qo + 2 * k) + 1), none⟩ (.int .i64 pk) rfl box_int (fun V hV => reg_c1 (HRG.out V (P4r.out.low.trans (hV.mono (Nat.le_of_lt HB4.out))))) ?_
      go_simp
      refine hK _ ?_
      clear hK K
      refine walk_done rfl rfl (fun K hK => ?_)
      refine done_intsL 4 _ rfl [(0, .int .i64 8), (1, .int .i64 pw), (2, .int .i64 8), (3, .int .i64 pk)] rfl [8, pw, 8, pk] rfl (by decide) (by decide) (fill_int4 8 pw 8 pk) ?_
      intro z1 o1 l1 s1
      have b5 : Below w3.heap.size wr z1 := (Below.refl _ wr).drew.trans (l1.mono HB.out.size)
      have O5 := Lib.hid ((HO.out.below (Nat.le_refl _) ((Below.refl _ wr).drew.trans l1)).raise l1.size)
      have O1 := Lib.hid (OwnL.rows2 elemInt.len o1)
      have B5 := Lib.hid b5
      clear o1 l1 s1
      refine ⟨b5, ?_⟩
      go_simp
      refine hK _ _ ?_
      clear hK K b5
      refine walk_done rfl rfl (fun K hK => ?_)
      refine done_grow elemInt _ _ rfl w3.heap.size z1.heap.size _ L [8, pw, 8, pk] _ 4 4 rfl rfl rfl O5.out O1.out (by have := HLE.out; simp; omega) (by decide) (Nat.le_trans HB.out.size B5.out.size) ?_
      intro v2 z2 o2 l2
      have O6 := Lib.hid o2
      have b6 : Below w3.heap.size wr z2 := B5.out.trans l2
      have B6 := Lib.hid b6
      clear o2 l2 O5 O1
      refine ⟨b6, ?_⟩
      go_simp
      refine hK _ _ ?_
      clear hK K b6
      refine walk_float rfl rfl (fun K hK => ?_)
      refine gives_assign _ rfl ?_
      go_simp
      refine hK _ ?_
      clear hK K
      refine walk_nil ?_
      go_wp2
      go_roundw
      case rel => exact ⟨k + 1, HLT.out, by go_num, by rw [HL2.out]; exact O6.out, HB.out.trans B6.out⟩
      case measure => have := HLT.out; simp [intOf]; omega
    · have f3 : ¬ (k : Int) < (n : Int) := by omega
      obtain rfl : k = n := by omega
      have hof := HO.out
      rw [HALL.out, ← HFN.out] at hof
      obtain ⟨qp, cp, hv, -, -, hrw, -⟩ := hof.rows elemInt.len
      rw [HFF.out] at hv
      obtain ⟨M, hM⟩ : ∃ M, M = 2 * N := ⟨_, rfl⟩
      rw [← hM] at hv
      have HM := Lib.hid hM
      subst hv
      clear hM
      have HRW := Lib.hid hrw
      clear hlt hk HR HFX hof hrw HFN HALL HFL HO HLE HFZ P3 HB
      generalize wr = wb at *
      go_wp2
      clear c0 c1 c2 c3 c4
      go_loopw [7, 4] (fun v7 v4 wr => ∃ k i : Nat, i = 2 * k ∧ k ≤ N ∧ v7 = .int .i64 i ∧ OwnS 5 1 wr wb.heap.size wr.heap.size v4 (bytesN ((numsR r).take k)).1 FF ∧ Below wb.heap.size wb wr) (fun v7 _ _ => 2 * N - (intOf v7).toNat)
      case atStart => exact ⟨0, 0, rfl, Nat.zero_le _, rfl, by rw [HB0.out]; exact OwnS.nil _ _ _ _ _ _, Below.refl _ _⟩
      case round =>
        obtain ⟨k2, i, hi, hk2, rfl, ho, hb⟩ := hrel
        have HO := Lib.hid ho
        have HB := Lib.hid hb
        have HF := Lib.hid (HFW.out k2)
        have HI := Lib.hid hi
        clear ho hb HB0 HFW hi
        by_cases hlt : k2 < N
        · have f1 : (i : Int) < (M : Int) := by have := HM.out; have := HI.out; omega
          have HLT := Lib.hid hlt
          obtain ⟨i1, hi1⟩ : ∃ i1, i1 = i + 1 := ⟨_, rfl⟩
          obtain ⟨i2, hi2⟩ : ∃ i2, i2 = i + 2 := ⟨_, rfl⟩
          have HK1 := Lib.hid (show IntKind.i64.wrap ((i : Int) + 1) = (i1 : Int) by have := HLN.out; have := HI.out; rw [IntWalk.i64_in _ (by omega)]; omega)
          have f3 : IntKind.i64.wrap ((i : Int) + 2) = (i2 : Int) := by have := HLN.out; have := HI.out; rw [IntWalk.i64_in _ (by omega)]; omega
          have HI1 := Lib.hid hi1
          have HI2 := Lib.hid hi2
          obtain ⟨s, z, hsz, hs, hz'⟩ := HOK.out k2 hlt
          have hat := HAT.out k2 hlt
          have hgt := HGT.out k2 hlt
          have hnx := HNX.out k2 hlt
          rw [hsz] at hat hgt hnx
          rw [step_is] at hnx
          have HS := Lib.hid hs
          have HZ := Lib.hid hz'
          have HNX1 := Lib.hid (show (bytesN ((numsR r).take (k2 + 1))).1 = (bytesN ((numsR r).take k2)).1 + s by rw [hnx])
          have HATS := Lib.hid (show ∀ j, j < s → numF s z j = FF ((bytesN ((numsR r).take k2)).1 + j) from fun j hj => (hat j (by show j < (s : Int).toNat; rw [Int.toNat_natCast]; exact hj)).symm)
          obtain ⟨PB, po, rfl, hPB, hcs⟩ := ints_cells HRW.out (by rw [HFF.out]; omega)
          have CS := Lib.hid (show wr.drew.cell? ⟨PB, po + i, none⟩ = some (.int .i64 s) from ((HB.out.drew).cell (p := ⟨PB, po + i, none⟩) hPB).trans ((hcs i (by rw [HFF.out, HI.out]; omega)).trans (by rw [HI.out, hgt.1])))
          have CZ := Lib.hid (show wr.drew.cell? ⟨PB, po + i1, none⟩ = some (.int .i64 z) from ((HB.out.drew).cell (p := ⟨PB, po + i1, none⟩) hPB).trans ((hcs i1 (by rw [HFF.out, hi1, HI.out]; omega)).trans (by rw [hi1, HI.out, hgt.2])))
          have HPB := Lib.hid (show PB < wr.heap.size from Nat.lt_of_lt_of_le hPB HB.out.size)
          have HIM := Lib.hid (show i < M by have := HM.out; have := HI.out; omega)
          have HIM1 := Lib.hid (show i1 < M by have := HM.out; have := HI.out; omega)
          clear hlt hk2 hsz hs hz' hat hgt hnx hPB hcs hi1 hi2 HOK HAT HGT HNX HRW HFF HBN
          generalize (bytesN ((numsR r).take k2)).1 = m at *
          go_wp2
          refine wp_region_sched [(0, true), (1, true), (2, true), (3, true), (4, true), (5, true), (6, true), (7, true), (8, true), (9, false), (10, true), (11, true), (12, true), (13, true), (14, true)] (fun V => V.cell? ⟨PB, po + i, none⟩ = some (.int .i64 s) ∧ V.cell? ⟨PB, po + i1, none⟩ = some (.int .i64 z)) (by kernel_rfl) (by kernel_rfl) ⟨CS.out, CZ.out⟩ ?_
          refine walk_float rfl rfl (fun K hK => ?_)
          refine gives_move _ rfl ?_
          go_simp
          refine hK _ ?_
          clear hK K
          refine walk_float rfl rfl (fun K hK => ?_)
          refine gives_move _ rfl ?_
          go_simp
          refine hK _ ?_
          clear hK K
          refine walk_float rfl rfl (fun K hK => ?_)
          refine gives_int_elem _ _ rfl PB po M cp i rfl rfl HIM.out ?_
          go_simp
          refine hK _ ?_
          clear hK K
          refine walk_float rfl rfl (fun K hK => ?_)
          refine gives_cell 3 _ rfl ⟨PB, po + (i), none⟩ (.int .i64 s) rfl box_int (fun V hV => hV.1) ?_
          go_simp
          refine hK _ ?_
          clear hK K
          refine walk_float rfl rfl (fun K hK => ?_)
          refine gives_move _ rfl ?_
          go_simp
          refine hK _ ?_
          clear hK K
          refine walk_float rfl rfl (fun K hK => ?_)
          refine gives_move _ rfl ?_
          go_simp
          refine hK _ ?_
          clear hK K
          refine walk_float rfl rfl (fun K hK => ?_)
          refine gives_int_sum _ _ rfl (i : Int) 1 (i1 : Int) rfl rfl HK1.out ?_
          go_simp
          refine hK _ ?_
          clear hK K
          refine walk_float rfl rfl (fun K hK => ?_)
          refine gives_int_elem _ _ rfl PB po M cp i1 rfl rfl HIM1.out ?_
          go_simp
          refine hK _ ?_
          clear hK K
          refine walk_float rfl rfl (fun K hK => ?_)
          refine gives_cell 3 _ rfl ⟨PB, po + (i1), none⟩ (.int .i64 z) rfl box_int (fun V hV => hV.2) ?_
          go_simp
          refine hK _ ?_
          clear hK K
          refine walk_done rfl rfl (fun K hK => ?_)
          refine done_call2 _ _ _ _ rfl 45 rfl (.int .i64 s) (.int .i64 z) rfl rfl (enters_of Try.func45 (by kernel_rfl) rfl) ?_
          refine (refNumber_ok s z HS.out HZ.out _).mono ?_
          rintro e z1 ⟨pN, cN, rfl, bN, l6⟩
          have BN := Lib.hid bN
          have l6 : Below wr.heap.size wr z1 := (Below.refl _ wr).drew.trans l6
          have L6 := Lib.hid l6
          refine ⟨_, rfl, ?_⟩
          refine ⟨⟨(l6.cell (p := ⟨PB, po + i, none⟩) HPB.out).trans CS.out, (l6.cell (p := ⟨PB, po + i1, none⟩) HPB.out).trans CZ.out⟩, ?_⟩
          go_simp
          refine hK _ _ ?_
          clear hK K l6
          refine walk_float rfl rfl (fun K hK => ?_)
          refine gives_move _ rfl ?_
          go_simp
          refine hK _ ?_
          clear hK K
          refine walk_float rfl rfl (fun K hK => ?_)
          refine gives_extract _ 0 rfl _ rfl (.slice pN s cN) rfl ?_
          go_simp
          refine hK _ ?_
          clear hK K
          refine walk_float rfl rfl (fun K hK => ?_)
          refine gives_extract _ 1 rfl _ rfl (.int .i64 0) rfl ?_
          go_simp
          refine hK _ ?_
          clear hK K
          refine walk_float rfl rfl (fun K hK => ?_)
          refine gives_assign _ rfl ?_
          go_simp
          refine hK _ ?_
          clear hK K
          refine walk_float rfl rfl (fun K hK => ?_)
          refine gives_assign _ rfl ?_
          go_simp
          refine hK _ ?_
          clear hK K
          refine walk_nil ?_
          have O7 := Lib.hid (show OwnS 5 1 z1 wb.heap.size z1.heap.size u4 m FF from (HO.out.same (fun B _ hB => L6.out.block B hB)).raise L6.out.size)
          have B7 := Lib.hid (HB.out.trans (L6.out.mono HB.out.size))
          go_wp2_with (first
          | (at_builtin
             obtain ⟨v8, w8, hr8, o8, l8⟩ := append_own_run z1 75 O7.out pN s cN BN.out HATS.out (by have := HF.out; have := size_le HS.out; omega) B7.out.size
             refine wpList_append rfl _ _ _ _ rfl _ _ rfl rfl v8 w8 hr8 ?_
             have O8 := Lib.hid o8
             have B8 := Lib.hid (B7.out.trans l8)
             clear hr8 o8 l8 O7 B7))
          go_roundw
          case rel => exact ⟨k2 + 1, i2, by have := HI2.out; have := HI.out; omega, HLT.out, by go_num, by rw [HNX1.out]; exact O8.out, B8.out⟩
          case measure => have := HLT.out; have := HI.out; have := HI2.out; simp [intOf]; omega
        · have f3 : ¬ (i : Int) < (M : Int) := by have := HM.out; have := HI.out; omega
          obtain rfl : k2 = N := by omega
          have hof := HO.out
          rw [HBN.out] at hof
          obtain ⟨bp, bc, hv, hbc, -, hby, hlo⟩ := hof.bytes (Nat.le_refl _)
          subst hv
          have PW := Lib.hid (P4r.out.mono HB.out)
          have HBY := Lib.hid hby
          clear hlt hk2 hof hby hbc hlo HO HB HOK HAT HGT HNX HRW HFF HBN P4r HF
          generalize noteL r = m at *
          generalize wr = wc at *
          go_wp2_with (first
          | (with_reducible show wpList _ _ _ (⟨some 10, Op.alloc ceT, _, _, _, _⟩ :: _) _ _
             refine wpList_boxA_new rowCe rfl rfl wc.heap.size rfl ?_
             intro wd x l s
             have CB := Lib.hid (show IntBlk wd wc.heap.size .u8 ceT (mk 128 zeroK) from x)
             have LD := Lib.hid l
             clear x l s))
          go_loopw [11] (fun v11 wr => ∃ i : Nat, i ≤ m ∧ v11 = .int .i64 i ∧ IntBlk wr wc.heap.size .u8 ceT (mk 128 (extF i FF)) ∧ Below wc.heap.size wc wr) (fun v11 _ => m - (intOf v11).toNat)
          case atStart => exact ⟨0, Nat.zero_le _, rfl, by rw [ext_zero]; exact CB.out, LD.out⟩
          case round =>
            obtain ⟨i, hi, rfl, hc, hb⟩ := hrel
            have HC := Lib.hid hc
            have HB := Lib.hid hb
            clear CB LD
            by_cases hlt : i < m
            · have f1 : (i : Int) < (m : Int) := by omega
              have HLT := Lib.hid hlt
              have HNM := HNL.out
              have f4 : (i : Int) < 128 := by omega
              have f5 : i < 128 := by omega
              have f3 : IntKind.i64.wrap ((i : Int) + 1) = ((i + 1 : Nat) : Int) := by rw [IntWalk.i64_in _ (by omega)]; omega
              have hby := HBY.out
              rcases hby with h0 | ⟨BB, bo, rfl, hBB, hcl⟩
              · omega
              · have c1 := (hb.cell (p := ⟨BB, bo + i, none⟩) hBB).trans (hcl i hlt)
                have c2 := hc.cell (i := i) (by rw [mk_len]; exact f5)
                have f6 := hc.free i
                have HX := Lib.hid (ext_next FF i)
                clear hc hb hi hBB hcl HNM HBY PW
                generalize FF i = x at *
                go_wp2
                go_roundw
                case rel => exact ⟨i + 1, HLT.out, by go_num, by rw [← HX.out]; exact HC.out.set i _, HB.out.setCell (Nat.le_refl _) _⟩
                case measure => have := HLT.out; simp [intOf]; omega
            · have f3 : ¬ (i : Int) < (m : Int) := by omega
              obtain rfl : i = m := by omega
              have QW := Lib.hid (PW.out.mono hb)
              rw [HNF.out] at HC
              have HRL := Lib.hid QW.out.low
              clear hc hb hi hlt PW
              go_wp2_with (first
              | (with_reducible show wpList _ _ _ (⟨some 87, Op.load ceT _, _, _, _, none⟩ :: _) _ _
                 refine wpList_sec_load rfl _ rfl wc.heap.size (noteF r) rfl HC.out ?_)
              | (with_reducible show wpList _ _ _ (⟨_, Op.store ceT _ _, _, _, _, none⟩ :: _) _ _
                 refine wpList_boxA_put rowCe rfl _ _ rfl rfl (w.heap.size + 1) (cellsOf .u8 (mk 128 (noteF r))) _ (ce_size _) (ce_one _) (ce_size _) rfl rfl QW.out.res ?_
                 intro w9 x9 k9 s9
                 have R9 := Lib.hid x9
                 have L9 := Lib.hid (HRL.out.trans (k9.below HRL.out.size (fun j hj e => by omega)))
                 clear x9 k9 s9))
              exact bodyPost_ret (results_cell_row_tmp rfl _ _ (w.heap.size + 1) ceT (cellsOf .u8 (mk 128 (noteF r))) (0, 0) _ rfl R9.out secUnder rfl (secSize _)) rfl ⟨rfl, L9.out⟩
set_option maxRecDepth 100000 in
set_option maxHeartbeats 16000000 in
theorem refNote_no {w : World} {q : Option Addr} {n c : Nat} {r : ResvOf} (hq : RvAt w q n c r) (hg : goodR r = true) (hs : r.s = false) :
    Calls Try.prog 24 #[.agg (resvA q n c r)] w fun e w' => e = .returned (.tuple #[.agg (cellsOf .u8 (mk 128 (noteF r))), .bool true]) ∧ Below w.heap.size w w' := by
  have HGD := Lib.hid (fun (W : World) (hb : Below w.heap.size w W) => (by have h := refGood_any (c := c) (RowsAt.below hq.at_ hb) hq.len hq.few; rw [hg] at h; exact h : Calls Try.prog 15 #[.agg (resvA q n c r)] W fun e w' => e = .returned (.bool true) ∧ Below W.heap.size W w'))
  have G := good_iff.1 hg
  have HR := Lib.hid (fun i (hi : i < r.regs.length) => regs_at hq.at_ (k := i) hi)
  have HFX := Lib.hid (fun i (hi : i < r.regs.length) => flatn_next (ks := r.regs) hi)
  have HFZ := Lib.hid (flatn_zero r.regs)
  have HFL := Lib.hid (fun i => (flatn_len (pairsR (r.regs.take i))).trans (by rw [pairs_len, List.length_take] : _ = 2 * (2 * min i r.regs.length)))
  have HALL := Lib.hid (show r.regs.take r.regs.length = r.regs from List.take_length)
  have HFN := Lib.hid (by have h := flatn_nums r; rw [hs] at h; exact h : flatN (numsR r) = [8, r.g, 1, 0, 1, r.t, 1, (r.regs.length : Int), 8, IntKind.i64.wrap (r.h + 1)] ++ flatN (pairsR r.regs))
  have HOK := Lib.hid (fun k (hk : k < (numsR r).length) => nat_of (nums_ok G (atR (numsR r) k) (List.mem_of_getElem? (atR_get hk))))
  have HNX := Lib.hid (fun k (hk : k < (numsR r).length) => bytes_next (l := numsR r) hk)
  have HAT := Lib.hid (fun k (hk : k < (numsR r).length) => nums_at (l := numsR r) hk)
  have HGT := Lib.hid (fun k (hk : k < (numsR r).length) => flatn_get (numsR r) k hk)
  have HFW := Lib.hid (fun k => take_few G k)
  have HB0 := Lib.hid (show (bytesN ((numsR r).take 0)).1 = 0 by unfold bytesN; rfl)
  have HBN := Lib.hid (show (bytesN ((numsR r).take (numsR r).length)).1 = noteL r by rw [List.take_of_length_le (Nat.le_refl _)]; rfl)
  have HNL := Lib.hid (show noteL r ≤ 104 by have h := take_few G (numsR r).length; rw [HBN.out] at h; exact h)
  have HNF := Lib.hid (show extF (noteL r) (bytesN (numsR r)).2 = noteF r by unfold noteF; rfl)
  have HFF := Lib.hid (flatn_len (numsR r))
  have HLN := Lib.hid (show (numsR r).length ≤ 13 by have h := nums_len r; have h2 := G.few; omega)
  have HN4 := Lib.hid (show n ≤ 4 by rw [← hq.len]; exact G.few)
  have HST := Lib.hid hs
  obtain ⟨N, hN⟩ : ∃ N, (numsR r).length = N := ⟨_, rfl⟩
  rw [hN] at HOK HNX HAT HGT HBN HLN HFF
  have HQN := Lib.hid hq.len
  rw [hq.len] at HR HFX HALL HFN HFL
  clear hq hg G hs hN
  obtain ⟨hz, hhz⟩ : ∃ hz, hz = IntKind.i64.wrap (r.h + 1) := ⟨_, rfl⟩
  rw [← hhz] at HFN
  have HHZ := Lib.hid hhz.symm
  clear hhz
  generalize (bytesN (numsR r)).2 = FF at HAT HNF
  go_enter Try.func24, Try.ntmps24
  go_wp2_with (first
  | (with_reducible show wpList _ _ _ (⟨_, Op.box rvT _, _, _, _, none⟩ :: _) _ _
     refine wpList_boxA_of rfl _ rfl (resvA q n c r) rfl ?_
     intro w1 x1 l1 s1
     have X1 := Lib.hid x1
     have L1 := Lib.hid l1
     have S1 := Lib.hid s1
     clear x1 l1 s1)
  | (with_reducible show wpList _ _ _ (⟨some 2, Op.alloc ceT, _, _, _, _⟩ :: _) _ _
     refine wpList_boxA_new rowCe rfl rfl (w.heap.size + 1) S1.out ?_
     intro w2 x2 l2 s2
     have P2 := Lib.hid (show RnP w (resvA q n c r) w2 from ⟨X1.out.keep (l2.block _ X1.out.lt), x2, L1.out.trans (l2.mono L1.out.size)⟩)
     clear x2 l2 s2 X1 L1 S1)
  | (with_reducible show wpList _ _ _ (⟨some 12, Op.load rvT _, _, _, _, none⟩ :: _) _ _
     refine wpList_boxA_load rowRv rfl _ rfl w.heap.size (resvA q n c r) rfl rfl P2.out.box ?_)
  | (go_at_call 15
     refine (HGD.out _ P2.out.low).mono ?_; rintro e w3 ⟨rfl, l3⟩
     have P3 := Lib.hid (P2.out.mono l3)
     obtain ⟨c0, c1, c2, c3, c4⟩ := boxRv P3.out.box
     rw [HST.out] at c3
     have hhz := HHZ.out
     clear l3 P2)
  | (with_reducible show wpList _ _ _ (⟨_, Op.buildSlice 65 10 _, _, _, _, none⟩ :: _) _ _
     refine wpList_intsR rfl 10 _ rfl [(0, .int .i64 8), (1, .int .i64 r.g), (2, .int .i64 1), (3, .int .i64 0), (4, .int .i64 1), (5, .int .i64 r.t), (6, .int .i64 1), (7, .int .i64 n), (8, .int .i64 8), (9, .int .i64 hz)] rfl [8, r.g, 1, 0, 1, r.t, 1, (n : Int), 8, hz] rfl (by decide) (by decide) (fill_int10 8 r.g 1 0 1 r.t 1 n 8 hz) ?_
     intro w4 i4 l4 s4
     have I4 := Lib.hid i4
     have L4 := Lib.hid l4
     have S4 := Lib.hid s4
     obtain ⟨c0, c1, c2, c3, c4⟩ := boxRv (P3.out.mono l4).box
     rw [HST.out] at c3
     clear i4 l4 s4 hhz)
)
  have OP := Lib.hid (RowI.own I4.out (Nat.le_refl _) (Nat.lt_succ_self _) rfl (by decide) : OwnL 3 1 intC w4 w3.heap.size (w3.heap.size + 1) (.slice (some ⟨w3.heap.size, 0, none⟩) 10 10) [8, r.g, 1, 0, 1, r.t, 1, (n : Int), 8, hz])
  have BP := Lib.hid L4.out
  have SP := Lib.hid S4.out
  generalize w4 = wq at *
  clear I4 L4 S4
  clear HHZ HGD HST
  have HB4 := Lib.hid (show w.heap.size < w3.heap.size from P3.out.box.lt)
  have c0 := (P3.out.mono BP.out).box.cell 0
  go_wp2
  go_loopw [6, 5] (fun v6 v5 wr => ∃ k : Nat, k ≤ n ∧ v6 = .int .i64 k ∧ OwnL 3 1 intC wr w3.heap.size wr.heap.size v5 ([8, r.g, 1, 0, 1, r.t, 1, (n : Int), 8, hz] ++ flatN (pairsR (r.regs.take k))) ∧ Below w3.heap.size w3 wr) (fun v6 _ _ => n - (intOf v6).toNat)
  case atStart => exact ⟨0, Nat.zero_le _, rfl, by rw [HFZ.out, List.append_nil]; exact OP.out.raise (by have := SP.out; omega), BP.out⟩
  case round =>
    obtain ⟨k, hk, rfl, ho, hb⟩ := hrel
    have HB := Lib.hid hb
    have P4r := Lib.hid (P3.out.mono hb)
    have HO := Lib.hid ho
    have HLE := Lib.hid (show ([8, r.g, 1, 0, 1, r.t, 1, (n : Int), 8, hz] ++ flatN (pairsR (r.regs.take k))).length ≤ 3000 by have h := HFL.out k; have h2 := HN4.out; have h3 := HQN.out; rw [List.length_append, h]; simp; omega)
    clear ho hb OP BP SP c0
    obtain ⟨c0, c1, c2, c3, c4⟩ := boxRv P4r.out.box
    by_cases hlt : k < n
    · have f1 : (k : Int) < (n : Int) := by omega
      have HLT := Lib.hid hlt
      have f3 : IntKind.i64.wrap ((k : Int) + 1) = ((k + 1 : Nat) : Int) := by have := HN4.out; rw [IntWalk.i64_in _ (by omega)]; omega
      obtain ⟨QB, qo, rfl, hQB, hrg⟩ := HR.out k hlt
      have HFX1 := Lib.hid (HFX.out k hlt)
      have HRG := Lib.hid (fun (W : World) (hb : Below w.heap.size w W) => rangeAt_below hrg hb hQB)
      clear hlt hk HR HFX hrg hQB HFN HOK HNX HAT HGT HFW HFF HALL HFL
      generalize atR r.regs k = p at *
      obtain ⟨pw, pk⟩ := p
      have HL2 := Lib.hid (show [8, r.g, 1, 0, 1, r.t, 1, (n : Int), 8, hz] ++ flatN (pairsR (r.regs.take (k + 1))) = ([8, r.g, 1, 0, 1, r.t, 1, (n : Int), 8, hz] ++ flatN (pairsR (r.regs.take k))) ++ [8, pw, 8, pk] by rw [HFX1.out, List.append_assoc])
      generalize [8, r.g, 1, 0, 1, r.t, 1, (n : Int), 8, hz] ++ flatN (pairsR (r.regs.take k)) = L at *
      clear HFX1
      go_wp2
      refine wp_region_sched [(0, true), (1, true), (2, true), (3, true), (4, true), (5, true), (6, true), (7, true), (8, true), (9, true), (10, true), (11, true), (12, true), (13, false), (14, false), (15, true)] (fun V => Below w3.heap.size wr V) (by kernel_rfl) (by kernel_rfl) (Below.refl _ wr).drew ?_
      refine walk_float rfl rfl (fun K hK => ?_)
      refine gives_move _ rfl ?_
      go_simp
      refine hK _ ?_
      clear hK K
      refine walk_float rfl rfl (fun K hK => ?_)
      refine gives_rvfield _ 0 rfl (by decide) w.heap.size rfl ?_
      go_simp
      refine hK _ ?_
      clear hK K
      refine walk_float rfl rfl (fun K hK => ?_)
      refine gives_cell rgS _ rfl ⟨w.heap.size, 0, none⟩ (.slice (some ⟨QB, qo, none⟩) n c) rfl box_regs (fun V hV => (P4r.out.box.keep (hV.block _ HB4.out)).cell 0) ?_
      go_simp
      refine hK _ ?_
      clear hK K
      refine walk_float rfl rfl (fun K hK => ?_)
      refine gives_move _ rfl ?_
      go_simp
      refine hK _ ?_
      clear hK K
      refine walk_float rfl rfl (fun K hK => ?_)
      refine gives_reg_elem _ _ rfl QB qo n c k rfl rfl HLT.out ?_
      go_simp
      refine hK _ ?_
      clear hK K
      refine walk_float rfl rfl (fun K hK => ?_)
      refine gives_rg_who _ rfl QB (qo + 2 * k) rfl ?_
      go_simp
      refine hK _ ?_
      clear hK K
      refine walk_float rfl rfl (fun K hK => ?_)
      refine gives_cell 3 _ rfl ⟨QB, (qo + 2 * k), none⟩ (.int .i64 pw) rfl box_int (fun V hV => reg_c0 (HRG.out V (P4r.out.low.trans (hV.mono (Nat.le_of_lt HB4.out))))) ?_
      go_simp
      refine hK _ ?_
      clear hK K
      refine walk_float rfl rfl (fun K hK => ?_)
      refine gives_rvfield _ 0 rfl (by decide) w.heap.size rfl ?_
      go_simp
      refine hK _ ?_
      clear hK K
      refine walk_float rfl rfl (fun K hK => ?_)
      refine gives_cell rgS _ rfl ⟨w.heap.size, 0, none⟩ (.slice (some ⟨QB, qo, none⟩) n c) rfl box_regs (fun V hV => (P4r.out.box.keep (hV.block _ HB4.out)).cell 0) ?_
      go_simp
      refine hK _ ?_
      clear hK K
      refine walk_float rfl rfl (fun K hK => ?_)
      refine gives_move _ rfl ?_
      go_simp
      refine hK _ ?_
      clear hK K
      refine walk_float rfl rfl (fun K hK => ?_)
      refine gives_reg_elem _ _ rfl QB qo n c k rfl rfl HLT.out ?_
      go_simp
      refine hK _ ?_
      clear hK K
      refine walk_float rfl rfl (fun K hK => ?_)
      refine gives_rg_key _ rfl QB (qo + 2 * k) rfl ?_
      go_simp
      refine hK _ ?_
      clear hK K
      refine walk_float rfl rfl (fun K hK => ?_)
      refine gives_cell 3 _ rfl ⟨QB, ((qo + 2 * k) + 1), none⟩ (.int .i64 pk) rfl box_int (fun V hV => reg_c1 (HRG.out V (P4r.out.low.trans (hV.mono (Nat.le_of_lt HB4.out))))) ?_
      go_simp
      refine hK _ ?_
      clear hK K
      refine walk_done rfl rfl (fun K hK => ?_)
      refine done_intsL 4 _ rfl [(0, .int .i64 8), (1, .int .i64 pw), (2, .int .i64 8), (3, .int .i64 pk)] rfl [8, pw, 8, pk] rfl (by decide) (by decide) (fill_int4 8 pw 8 pk) ?_
      intro z1 o1 l1 s1
      have b5 : Below w3.heap.size wr z1 := (Below.refl _ wr).drew.trans (l1.mono HB.out.size)
      have O5 := Lib.hid ((HO.out.below (Nat.le_refl _) ((Below.refl _ wr).drew.trans l1)).raise l1.size)
      have O1 := Lib.hid (OwnL.rows2 elemInt.len o1)
      have B5 := Lib.hid b5
      clear o1 l1 s1
      refine ⟨b5, ?_⟩
      go_simp
      refine hK _ _ ?_
      clear hK K b5
      refine walk_done rfl rfl (fun K hK => ?_)
      refine done_grow elemInt _ _ rfl w3.heap.size z1.heap.size _ L [8, pw, 8, pk] _ 4 4 rfl rfl rfl O5.out O1.out (by have := HLE.out; simp; omega) (by decide) (Nat.le_trans HB.out.size B5.out.size) ?_
      intro v2 z2 o2 l2
      have O6 := Lib.hid o2
      have b6 : Below w3.heap.size wr z2 := B5.out.trans l2
      have B6 := Lib.hid b6
      clear o2 l2 O5 O1
      refine ⟨b6, ?_⟩
      go_simp
      refine hK _ _ ?_
      clear hK K b6
      refine walk_float rfl rfl (fun K hK => ?_)
      refine gives_assign _ rfl ?_
      go_simp
      refine hK _ ?_
      clear hK K
      refine walk_nil ?_
      go_wp2
      go_roundw
      case rel => exact ⟨k + 1, HLT.out, by go_num, by rw [HL2.out]; exact O6.out, HB.out.trans B6.out⟩
      case measure => have := HLT.out; simp [intOf]; omega
    · have f3 : ¬ (k : Int) < (n : Int) := by omega
      obtain rfl : k = n := by omega
      have hof := HO.out
      rw [HALL.out, ← HFN.out] at hof
      obtain ⟨qp, cp, hv, -, -, hrw, -⟩ := hof.rows elemInt.len
      rw [HFF.out] at hv
      obtain ⟨M, hM⟩ : ∃ M, M = 2 * N := ⟨_, rfl⟩
      rw [← hM] at hv
      have HM := Lib.hid hM
      subst hv
      clear hM
      have HRW := Lib.hid hrw
      clear hlt hk HR HFX hof hrw HFN HALL HFL HO HLE HFZ P3 HB
      generalize wr = wb at *
      go_wp2
      clear c0 c1 c2 c3 c4
      go_loopw [7, 4] (fun v7 v4 wr => ∃ k i : Nat, i = 2 * k ∧ k ≤ N ∧ v7 = .int .i64 i ∧ OwnS 5 1 wr wb.heap.size wr.heap.size v4 (bytesN ((numsR r).take k)).1 FF ∧ Below wb.heap.size wb wr) (fun v7 _ _ => 2 * N - (intOf v7).toNat)
      case atStart => exact ⟨0, 0, rfl, Nat.zero_le _, rfl, by rw [HB0.out]; exact OwnS.nil _ _ _ _ _ _, Below.refl _ _⟩
      case round =>
        obtain ⟨k2, i, hi, hk2, rfl, ho, hb⟩ := hrel
        have HO := Lib.hid ho
        have HB := Lib.hid hb
        have HF := Lib.hid (HFW.out k2)
        have HI := Lib.hid hi
        clear ho hb HB0 HFW hi
        by_cases hlt : k2 < N
        · have f1 : (i : Int) < (M : Int) := by have := HM.out; have := HI.out; omega
          have HLT := Lib.hid hlt
          obtain ⟨i1, hi1⟩ : ∃ i1, i1 = i + 1 := ⟨_, rfl⟩
          obtain ⟨i2, hi2⟩ : ∃ i2, i2 = i + 2 := ⟨_, rfl⟩
          have HK1 := Lib.hid (show IntKind.i64.wrap ((i : Int) + 1) = (i1 : Int) by have := HLN.out; have := HI.out; rw [IntWalk.i64_in _ (by omega)]; omega)
          have f3 : IntKind.i64.wrap ((i : Int) + 2) = (i2 : Int) := by have := HLN.out; have := HI.out; rw [IntWalk.i64_in _ (by omega)]; omega
          have HI1 := Lib.hid hi1
          have HI2 := Lib.hid hi2
          obtain ⟨s, z, hsz, hs, hz'⟩ := HOK.out k2 hlt
          have hat := HAT.out k2 hlt
          have hgt := HGT.out k2 hlt
          have hnx := HNX.out k2 hlt
          rw [hsz] at hat hgt hnx
          rw [step_is] at hnx
          have HS := Lib.hid hs
          have HZ := Lib.hid hz'
          have HNX1 := Lib.hid (show (bytesN ((numsR r).take (k2 + 1))).1 = (bytesN ((numsR r).take k2)).1 + s by rw [hnx])
          have HATS := Lib.hid (show ∀ j, j < s → numF s z j = FF ((bytesN ((numsR r).take k2)).1 + j) from fun j hj => (hat j (by show j < (s : Int).toNat; rw [Int.toNat_natCast]; exact hj)).symm)
          obtain ⟨PB, po, rfl, hPB, hcs⟩ := ints_cells HRW.out (by rw [HFF.out]; omega)
          have CS := Lib.hid (show wr.drew.cell? ⟨PB, po + i, none⟩ = some (.int .i64 s) from ((HB.out.drew).cell (p := ⟨PB, po + i, none⟩) hPB).trans ((hcs i (by rw [HFF.out, HI.out]; omega)).trans (by rw [HI.out, hgt.1])))
          have CZ := Lib.hid (show wr.drew.cell? ⟨PB, po + i1, none⟩ = some (.int .i64 z) from ((HB.out.drew).cell (p := ⟨PB, po + i1, none⟩) hPB).trans ((hcs i1 (by rw [HFF.out, hi1, HI.out]; omega)).trans (by rw [hi1, HI.out, hgt.2])))
          have HPB := Lib.hid (show PB < wr.heap.size from Nat.lt_of_lt_of_le hPB HB.out.size)
          have HIM := Lib.hid (show i < M by have := HM.out; have := HI.out; omega)
          have HIM1 := Lib.hid (show i1 < M by have := HM.out; have := HI.out; omega)
          clear hlt hk2 hsz hs hz' hat hgt hnx hPB hcs hi1 hi2 HOK HAT HGT HNX HRW HFF HBN
          generalize (bytesN ((numsR r).take k2)).1 = m at *
          go_wp2
          refine wp_region_sched [(0, true), (1, true), (2, true), (3, true), (4, true), (5, true), (6, true), (7, true), (8, true), (9, false), (10, true), (11, true), (12, true), (13, true), (14, true)] (fun V => V.cell? ⟨PB, po + i, none⟩ = some (.int .i64 s) ∧ V.cell? ⟨PB, po + i1, none⟩ = some (.int .i64 z)) (by kernel_rfl) (by kernel_rfl) ⟨CS.out, CZ.out⟩ ?_
          refine walk_float rfl rfl (fun K hK => ?_)
          refine gives_move _ rfl ?_
          go_simp
          refine hK _ ?_
          clear hK K
          refine walk_float rfl rfl (fun K hK => ?_)
          refine gives_move _ rfl ?_
          go_simp
          refine hK _ ?_
          clear hK K
          refine walk_float rfl rfl (fun K hK => ?_)
          refine gives_int_elem _ _ rfl PB po M cp i rfl rfl HIM.out ?_
          go_simp
          refine hK _ ?_
          clear hK K
          refine walk_float rfl rfl (fun K hK => ?_)
          refine gives_cell 3 _ rfl ⟨PB, po + (i), none⟩ (.int .i64 s) rfl box_int (fun V hV => hV.1) ?_
          go_simp
          refine hK _ ?_
          clear hK K
          refine walk_float rfl rfl (fun K hK => ?_)
          refine gives_move _ rfl ?_
          go_simp
          refine hK _ ?_
          clear hK K
          refine walk_float rfl rfl (fun K hK => ?_)
          refine gives_move _ rfl ?_
          go_simp
          refine hK _ ?_
          clear hK K
          refine walk_float rfl rfl (fun K hK => ?_)
          refine gives_int_sum _ _ rfl (i : Int) 1 (i1 : Int) rfl rfl HK1.out ?_
          go_simp
          refine hK _ ?_
          clear hK K
          refine walk_float rfl rfl (fun K hK => ?_)
          refine gives_int_elem _ _ rfl PB po M cp i1 rfl rfl HIM1.out ?_
          go_simp
          refine hK _ ?_
          clear hK K
          refine walk_float rfl rfl (fun K hK => ?_)
          refine gives_cell 3 _ rfl ⟨PB, po + (i1), none⟩ (.int .i64 z) rfl box_int (fun V hV => hV.2) ?_
          go_simp
          refine hK _ ?_
          clear hK K
          refine walk_done rfl rfl (fun K hK => ?_)
          refine done_call2 _ _ _ _ rfl 45 rfl (.int .i64 s) (.int .i64 z) rfl rfl (enters_of Try.func45 (by kernel_rfl) rfl) ?_
          refine (refNumber_ok s z HS.out HZ.out _).mono ?_
          rintro e z1 ⟨pN, cN, rfl, bN, l6⟩
          have BN := Lib.hid bN
          have l6 : Below wr.heap.size wr z1 := (Below.refl _ wr).drew.trans l6
          have L6 := Lib.hid l6
          refine ⟨_, rfl, ?_⟩
          refine ⟨⟨(l6.cell (p := ⟨PB, po + i, none⟩) HPB.out).trans CS.out, (l6.cell (p := ⟨PB, po + i1, none⟩) HPB.out).trans CZ.out⟩, ?_⟩
          go_simp
          refine hK _ _ ?_
          clear hK K l6
          refine walk_float rfl rfl (fun K hK => ?_)
          refine gives_move _ rfl ?_
          go_simp
          refine hK _ ?_
          clear hK K
          refine walk_float rfl rfl (fun K hK => ?_)
          refine gives_extract _ 0 rfl _ rfl (.slice pN s cN) rfl ?_
          go_simp
          refine hK _ ?_
          clear hK K
          refine walk_float rfl rfl (fun K hK => ?_)
          refine gives_extract _ 1 rfl _ rfl (.int .i64 0) rfl ?_
          go_simp
          refine hK _ ?_
          clear hK K
          refine walk_float rfl rfl (fun K hK => ?_)
          refine gives_assign _ rfl ?_
          go_simp
          refine hK _ ?_
          clear hK K
          refine walk_float rfl rfl (fun K hK => ?_)
          refine gives_assign _ rfl ?_
          go_simp
          refine hK _ ?_
          clear hK K
          refine walk_nil ?_
          have O7 := Lib.hid (show OwnS 5 1 z1 wb.heap.size z1.heap.size u4 m FF from (HO.out.same (fun B _ hB => L6.out.block B hB)).raise L6.out.size)
          have B7 := Lib.hid (HB.out.trans (L6.out.mono HB.out.size))
          go_wp2_with (first
          | (at_builtin
             obtain ⟨v8, w8, hr8, o8, l8⟩ := append_own_run z1 75 O7.out pN s cN BN.out HATS.out (by have := HF.out; have := size_le HS.out; omega) B7.out.size
             refine wpList_append rfl _ _ _ _ rfl _ _ rfl rfl v8 w8 hr8 ?_
             have O8 := Lib.hid o8
             have B8 := Lib.hid (B7.out.trans l8)
             clear hr8 o8 l8 O7 B7))
          go_roundw
          case rel => exact ⟨k2 + 1, i2, by have := HI2.out; have := HI.out; omega, HLT.out, by go_num, by rw [HNX1.out]; exact O8.out, B8.out⟩
          case measure => have := HLT.out; have := HI.out; have := HI2.out; simp [intOf]; omega
        · have f3 : ¬ (i : Int) < (M : Int) := by have := HM.out; have := HI.out; omega
          obtain rfl : k2 = N := by omega
          have hof := HO.out
          rw [HBN.out] at hof
          obtain ⟨bp, bc, hv, hbc, -, hby, hlo⟩ := hof.bytes (Nat.le_refl _)
          subst hv
          have PW := Lib.hid (P4r.out.mono HB.out)
          have HBY := Lib.hid hby
          clear hlt hk2 hof hby hbc hlo HO HB HOK HAT HGT HNX HRW HFF HBN P4r HF
          generalize noteL r = m at *
          generalize wr = wc at *
          go_wp2_with (first
          | (with_reducible show wpList _ _ _ (⟨some 10, Op.alloc ceT, _, _, _, _⟩ :: _) _ _
             refine wpList_boxA_new rowCe rfl rfl wc.heap.size rfl ?_
             intro wd x l s
             have CB := Lib.hid (show IntBlk wd wc.heap.size .u8 ceT (mk 128 zeroK) from x)
             have LD := Lib.hid l
             clear x l s))
          go_loopw [11] (fun v11 wr => ∃ i : Nat, i ≤ m ∧ v11 = .int .i64 i ∧ IntBlk wr wc.heap.size .u8 ceT (mk 128 (extF i FF)) ∧ Below wc.heap.size wc wr) (fun v11 _ => m - (intOf v11).toNat)
          case atStart => exact ⟨0, Nat.zero_le _, rfl, by rw [ext_zero]; exact CB.out, LD.out⟩
          case round =>
            obtain ⟨i, hi, rfl, hc, hb⟩ := hrel
            have HC := Lib.hid hc
            have HB := Lib.hid hb
            clear CB LD
            by_cases hlt : i < m
            · have f1 : (i : Int) < (m : Int) := by omega
              have HLT := Lib.hid hlt
              have HNM := HNL.out
              have f4 : (i : Int) < 128 := by omega
              have f5 : i < 128 := by omega
              have f3 : IntKind.i64.wrap ((i : Int) + 1) = ((i + 1 : Nat) : Int) := by rw [IntWalk.i64_in _ (by omega)]; omega
              have hby := HBY.out
              rcases hby with h0 | ⟨BB, bo, rfl, hBB, hcl⟩
              · omega
              · have c1 := (hb.cell (p := ⟨BB, bo + i, none⟩) hBB).trans (hcl i hlt)
                have c2 := hc.cell (i := i) (by rw [mk_len]; exact f5)
                have f6 := hc.free i
                have HX := Lib.hid (ext_next FF i)
                clear hc hb hi hBB hcl HNM HBY PW
                generalize FF i = x at *
                go_wp2
                go_roundw
                case rel => exact ⟨i + 1, HLT.out, by go_num, by rw [← HX.out]; exact HC.out.set i _, HB.out.setCell (Nat.le_refl _) _⟩
                case measure => have := HLT.out; simp [intOf]; omega
            · have f3 : ¬ (i : Int) < (m : Int) := by omega
              obtain rfl : i = m := by omega
              have QW := Lib.hid (PW.out.mono hb)
              rw [HNF.out] at HC
              have HRL := Lib.hid QW.out.low
              clear hc hb hi hlt PW
              go_wp2_with (first
              | (with_reducible show wpList _ _ _ (⟨some 87, Op.load ceT _, _, _, _, none⟩ :: _) _ _
                 refine wpList_sec_load rfl _ rfl wc.heap.size (noteF r) rfl HC.out ?_)
              | (with_reducible show wpList _ _ _ (⟨_, Op.store ceT _ _, _, _, _, none⟩ :: _) _ _
                 refine wpList_boxA_put rowCe rfl _ _ rfl rfl (w.heap.size + 1) (cellsOf .u8 (mk 128 (noteF r))) _ (ce_size _) (ce_one _) (ce_size _) rfl rfl QW.out.res ?_
                 intro w9 x9 k9 s9
                 have R9 := Lib.hid x9
                 have L9 := Lib.hid (HRL.out.trans (k9.below HRL.out.size (fun j hj e => by omega)))
                 clear x9 k9 s9))
              exact bodyPost_ret (results_cell_row_tmp rfl _ _ (w.heap.size + 1) ceT (cellsOf .u8 (mk 128 (noteF r))) (0, 0) _ rfl R9.out secUnder rfl (secSize _)) rfl ⟨rfl, L9.out⟩
set_option maxRecDepth 100000 in
set_option maxHeartbeats 8000000 in
theorem refNote_bad {w : World} {q : Option Addr} {n c : Nat} {r : ResvOf} (hq : RvAt w q n c r) (hg : goodR r = false) :
    Calls Try.prog 24 #[.agg (resvA q n c r)] w fun e w' => e = .returned (.tuple #[.agg (cellsOf .u8 (mk 128 zeroK)), .bool false]) ∧ Below w.heap.size w w' := by
  have HGD := Lib.hid (fun (W : World) (hb : Below w.heap.size w W) => (by have h := refGood_any (c := c) (RowsAt.below hq.at_ hb) hq.len hq.few; rw [hg] at h; exact h : Calls Try.prog 15 #[.agg (resvA q n c r)] W fun e w' => e = .returned (.bool false) ∧ Below W.heap.size W w'))
  clear hq hg
  go_enter Try.func24, Try.ntmps24
  go_wp2_with (first
  | (with_reducible show wpList _ _ _ (⟨_, Op.box rvT _, _, _, _, none⟩ :: _) _ _
     refine wpList_boxA_of rfl _ rfl (resvA q n c r) rfl ?_
     intro w1 x1 l1 s1
     have X1 := Lib.hid x1
     have L1 := Lib.hid l1
     have S1 := Lib.hid s1
     clear x1 l1 s1)
  | (with_reducible show wpList _ _ _ (⟨some 2, Op.alloc ceT, _, _, _, _⟩ :: _) _ _
     refine wpList_boxA_new rowCe rfl rfl (w.heap.size + 1) S1.out ?_
     intro w2 x2 l2 s2
     have P2 := Lib.hid (show RnP w (resvA q n c r) w2 from ⟨X1.out.keep (l2.block _ X1.out.lt), x2, L1.out.trans (l2.mono L1.out.size)⟩)
     clear x2 l2 s2 X1 L1 S1)
  | (with_reducible show wpList _ _ _ (⟨some 12, Op.load rvT _, _, _, _, none⟩ :: _) _ _
     refine wpList_boxA_load rowRv rfl _ rfl w.heap.size (resvA q n c r) rfl rfl P2.out.box ?_)
  | (go_at_call 15
     refine (HGD.out _ P2.out.low).mono ?_; rintro e w3 ⟨rfl, l3⟩
     have P3 := Lib.hid (P2.out.mono l3)
     clear l3 P2)
  | (with_reducible show wpList _ _ _ (⟨_, Op.build ceT _, _, _, _, none⟩ :: _) _ _
     refine wpList_sec_build0 rfl rfl ?_)
  | (with_reducible show wpList _ _ _ (⟨_, Op.store ceT _ _, _, _, _, none⟩ :: _) _ _
     refine wpList_boxA_put rowCe rfl _ _ rfl rfl (w.heap.size + 1) (cellsOf .u8 (mk 128 zeroK)) _ (ce_size _) (ce_one _) (ce_size _) rfl rfl P3.out.res ?_
     intro w9 x9 k9 s9
     have R9 := Lib.hid x9
     have L9 := Lib.hid (P3.out.low.trans (k9.below P3.out.low.size (fun j hj e => by omega)))
     clear x9 k9 s9 P3))
  exact bodyPost_ret (results_cell_row_tmp rfl _ _ (w.heap.size + 1) ceT (cellsOf .u8 (mk 128 zeroK)) (0, 0) _ rfl R9.out secUnder rfl (secSize _)) rfl ⟨rfl, L9.out⟩
theorem refNote_any {w : World} {q : Option Addr} {n c : Nat} {r : ResvOf} (hq : RvAt w q n c r) :
    Calls Try.prog 24 #[.agg (resvA q n c r)] w fun e w' => e = .returned (.tuple #[.agg (cellsOf .u8 (mk 128 (secF r))), .bool (goodR r)]) ∧ Below w.heap.size w w' := by
  cases hg : goodR r with
  | false => rw [show secF r = zeroK by unfold secF; rw [hg]; rfl]; exact refNote_bad hq hg
  | true =>
    rw [show secF r = noteF r by unfold secF; rw [hg]; rfl]
    cases hs : r.s with
    | true => exact refNote_yes hq hg hs
    | false => exact refNote_no hq hg hs
theorem Note_any {w : World} {q : Option Addr} {n c : Nat} {r : ResvOf} (hq : RvAt w q n c r) :
    Calls Try.prog 23 #[.agg (resvA q n c r)] w fun e w' => e = .returned (.tuple #[.agg (cellsOf .u8 (mk 128 (secF r))), errN (if goodR r then 0 else 2)]) ∧ Below w.heap.size w w' := by
  cases hg : goodR r with
  | false => rw [show secF r = zeroK by unfold secF; rw [hg]; rfl, if_neg (by decide), errN_not (by decide)]; exact Note_no hq hg
  | true => rw [show secF r = noteF r by unfold secF; rw [hg]; rfl, if_pos rfl, errN_zero]; exact Note_ok hq hg
end Go.Proofs.Ytfnkdmdcjliebaa
