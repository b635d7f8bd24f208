/- The contract of the program's register. Conditions: the reservations lie in memory, in form. -/
import Derived.Test.YtfnkdmdcjliebaaRvSrt
namespace Go.Proofs.Ytfnkdmdcjliebaa
open Go.ChangeShapes Go.WideShapes Go.ChangeAt Go.RowKit
set_option linter.unusedVariables false
set_option linter.unusedSimpArgs false
theorem endP_g (r : ResvOf) (who : Int) (ks : List (Int × Int)) : (endP r who ks).g = r.g := by
  unfold endP
  split
  · rfl
  · split <;> rfl
theorem endP_regs (r : ResvOf) (who : Int) (ks : List (Int × Int)) : (endP r who ks).regs = ks := by
  unfold endP
  split
  · rfl
  · split <;> rfl
section
variable {ops : Array Oper} {rest : List Oper} {o : Oper} {a : Act} {w : World} {Q : Exit → Act → World → Prop} {T : TypeId} {A : Array Value}
theorem wpList_boxA_bool (hgd : o.guard = none) (x y : Operand) (ho : o.op = .store 4 x y) (hd : o.dst = none) (O k : Nat) (z : Bool) (hx : a.eval x = .pointer (some ⟨O, k, none⟩)) (hy : a.eval y = .bool z) (hO : BoxA w O T A) (hk : k < A.size)
    (h : ∀ w', BoxA w' O T (A.setIfInBounds k (.bool z)) → Keeps (fun j => j = O) w w' → w'.heap.size = w.heap.size → wpList Try.prog ops Q rest a w') : wpList Try.prog ops Q (o :: rest) a w :=
  wpList_plain hgd fun K hK => by
    have hc : w.cell? ⟨O, k, none⟩ = some A[k] := (hO.cell k).trans (Array.getElem?_eq_getElem hk)
    have hf := hO.free k
    have hh := hK _ _ (h _ (hO.set k (.bool z)) ((Keeps.refl (fun j => j = O) w).setCell rfl k (.bool z)) (by simp [World.setCell]))
    unfold Oper.wp execOp
    simp only [ho, hx, hy]
    simp [go_sem, hc, hf, hd]
    exact hh
end
theorem ThS.keepB {w V V' : World} {S P R B : Nat} {A A2 : Array Value} {o : ROp} (h : ThS w S P R A A2 o V) (k : Keeps (fun j => j = B) V V') (hB : R < B) : ThS w S P R A A2 o V' :=
  ⟨h.s.keep (k.block _ h.s.lt (by have := h.sp; have := h.pr; omega)), h.p.keep (k.block _ h.p.lt (by have := h.pr; omega)), h.r.keep (k.block _ h.r.lt (by omega)), h.low.trans (k.below h.low.size (fun j hj e => by have := h.lo; have := h.sp; have := h.pr; omega)), h.lo, h.sp, h.pr⟩
theorem PB.all {w : World} {base top B cap n : Nat} {l : List (Int × Int)} (h : PB w B cap l) (h2 : base ≤ B) (h3 : B < top) (h5 : l.length ≤ cap) (h6 : cap ≤ maxLen) (hn : l.length = n) : OwnL rgT 2 regC w base top (.slice (some ⟨B, 0, none⟩) n cap) l := by
  have := PB.own h h2 h3 h5 h6 n (by omega)
  rwa [List.take_of_length_le (by omega)] at this
theorem others_rise {r : ResvOf} (g : GoodR r) (o : ROp) : risesR (r.regs.filter fun p => !(selfF o p)) (-1) = true := rises_filter _ _ _ g.rises
theorem others_not (r : ResvOf) (o : ROp) : ∀ p ∈ (r.regs.filter fun p => !(selfF o p)), p.1 ≠ o.who := fun p hp => by
  have := (List.mem_filter.1 hp).2
  simpa [selfF] using this
theorem others_with {r : ResvOf} (g : GoodR r) (o : ROp) : withL (r.regs.filter fun p => !(selfF o p)) o.who o.new false = withL r.regs o.who o.new false := with_others o.who o.new r.regs _ g.rises
theorem others_withlen {r : ResvOf} (g : GoodR r) (o : ROp) : (withL r.regs o.who o.new false).length = (r.regs.filter fun p => !(selfF o p)).length + 1 := with_len o.who o.new r.regs _ g.rises
theorem regP_end {r : ResvOf} {o : ROp} (h : o.new = 0) : regP r o = ({ endP r o.who (r.regs.filter fun p => !(selfF o p)) with s := o.s, g := incR r.g }, 0) := by
  unfold regP
  rw [if_pos (by simpa using h)]; rfl
theorem regP_full {r : ResvOf} {o : ROp} (h : o.new ≠ 0) (hf : (r.regs.filter fun p => !(selfF o p)).length = 4) : regP r o = (zeroR, 7) := by
  unfold regP
  rw [if_neg (by simpa using h), if_pos (by simpa [others_are] using hf)]
theorem regP_new {r : ResvOf} {o : ROp} (h : o.new ≠ 0) (hf : (r.regs.filter fun p => !(selfF o p)).length ≠ 4) : regP r o = ({ r with regs := withL r.regs o.who o.new false, s := o.s, g := incR r.g }, 0) := by
  unfold regP
  rw [if_neg (by simpa using h), if_neg (by simpa [others_are] using hf)]
theorem ownR_rows {w : World} {base top : Nat} {q : Option Addr} {m c : Nat} {ks : List (Int × Int)} (h : OwnL rgT 2 regC w base top (.slice q m c) ks) : RegsAt w q ks := by
  obtain ⟨p, c', hv, -, -, h3, -⟩ := h.rows elemReg.len
  cases hv; exact h3
theorem own_some {w : World} {base top : Nat} {v : Value} {ks : List (Int × Int)} {x : Int × Int} (h : OwnL rgT 2 regC w base top v (ks ++ [x])) (hx : True) : ∃ B cp, v = .slice (some ⟨B, 0, none⟩) (ks.length + 1) cp ∧ base ≤ B ∧ B < top ∧ PB w B cp (ks ++ [x]) ∧ ks.length + 1 ≤ cp ∧ cp ≤ maxLen := by
  rcases h with ⟨h1, h2⟩ | ⟨B, cp, cur, h1, h2, h3, h4, h5, h6, h7, h8⟩
  · simp at h2
  · have hl : (ks ++ [x]).length = ks.length + 1 := by simp
    refine ⟨B, cp, by rw [h1, hl], h2, h3, ?_, by rw [← hl]; exact h5, h6⟩
    exact ⟨cur, cur.toList.drop ((ks ++ [x]).length * 2), h4, h7, by rw [← h8, List.take_append_drop]⟩
theorem wo_slice {w w' : World} {q : Option Addr} {m c : Nat} {ks : List (Int × Int)} (h : OwnR w w' q m c ks) : m = ks.length := by
  obtain ⟨p, c', hv, -⟩ := h.rows elemReg.len
  cases hv; rfl
attribute [local irreducible] regC atR keyR inR risesR formR allR holdersR holdsR allowedR goneF hasR selfF withL PB endP
attribute [local go_sem] Oper.semAt_some
section
variable {ops : Array Oper} {rest : List Oper} {o : Oper} {a : Act} {w : World} {Q : Exit → Act → World → Prop}
theorem wpList_closure (hgd : o.guard = none) {f : Fn} (x : Operand) (ho : o.op = .makeFunc f #[] #[x]) (v : Value) (hx : a.eval x = v)
    (h : wpList Try.prog ops Q rest (a.put o.dst (.func f #[] #[v])) w) : wpList Try.prog ops Q (o :: rest) a w :=
  wpList_plain hgd fun K hK => by
    have e : (execOp a.eval o).run Try.prog w = .ok (.value (.func f #[] #[v])) w := by
      unfold execOp
      simp only [ho]
      have hx' := hx
      simp [go_sem] at hx' ⊢
      exact hx'
    unfold Oper.wp
    rw [e]
    exact hK _ _ h
end
set_option maxRecDepth 100000 in
set_option maxHeartbeats 8000000 in
theorem register_end {w : World} {q : Option Addr} {n c : Nat} {r : ResvOf} (hq : RvAt w q n c r) (hg : GoodR r) (o : ROp) (h0 : o.new = 0) :
    Calls Try.prog 52 #[.agg (resvA q n c r), .agg (ropA o)] w fun e w' => ∃ q' m c', e = .returned (.tuple #[.agg (resvA q' m c' { endP r o.who (r.regs.filter fun p => !(selfF o p)) with s := o.s, g := incR r.g }), .nilIface]) ∧ OwnR w w' q' m c' (r.regs.filter fun p => !(selfF o p)) ∧ Below w.heap.size w w' := by
  have HW := Lib.hid (fun (W : World) (hb : Below w.heap.size w W) (hP : BoxA W (w.heap.size + 1) roT (ropA o)) => without_self (c := c) (RowsAt.below hq.at_ hb) hq.len hq.few hP)
  have HI := Lib.hid (inc64 r.g)
  have HI := Lib.hid (show wrap64 ((endP r o.who (r.regs.filter fun p => !(selfF o p))).g + 1) = incR r.g from by rw [endP_g]; exact inc64 r.g)
  clear hq hg
  go_enter Try.func52, Try.ntmps52
  generalize r.regs.filter (fun p => !(selfF o p)) = L at *
  go_wp2_with (first
    | (with_reducible show wpList _ _ _ (⟨_, Op.box rvT _, _, _, _, none⟩ :: _) _ _
       refine wpList_boxA_of rfl _ rfl (resvA q n c r) rfl ?_
       intro w1 x1 l1 s1
       have X1 := Lib.hid x1
       have L1 := Lib.hid l1
       have S1 := Lib.hid s1
       clear x1 l1 s1)
    | (with_reducible show wpList _ _ _ (⟨_, Op.box roT _, _, _, _, none⟩ :: _) _ _
       refine wpList_boxA_of rfl _ rfl (ropA o) rfl ?_
       intro w2 x2 l2 s2
       rw [S1.out] at x2 s2
       rw [S1.out]
       have X2 := Lib.hid x2
       have L2 := Lib.hid l2
       have S2 := Lib.hid s2
       clear x2 l2 s2)
    | (with_reducible show wpList _ _ _ (⟨_, Op.alloc rvT, _, _, _, _⟩ :: _) _ _
       refine wpList_boxA_new rowRv rfl rfl (w.heap.size + 1 + 1) S2.out ?_
       intro w3 x3 l3 s3
       have T3 := Lib.hid (new3 X1.out L1.out S1.out X2.out L2.out S2.out x3 l3)
       obtain ⟨c0, c1, c2, c3, c4⟩ := T3.out.c
       obtain ⟨d0, d1, d2, d3, d4, d5⟩ := T3.out.d
       clear x3 l3 s3 X1 L1 S1 X2 L2 S2)
    | (with_reducible show wpList _ _ _ (⟨_, Op.makeFunc _ _ _, _, _, _, none⟩ :: _) _ _
       refine wpList_closure rfl _ rfl (.pointer (some ⟨w.heap.size + 1, 0, none⟩)) rfl ?_)
    | (go_at_call 67
       refine (HW.out _ T3.out.low T3.out.p).mono ?_; rintro e w4 ⟨q1, m1, e1, rfl, ho, hb4⟩
       have M4 := Lib.hid (wo_slice ho)
       have T4 := Lib.hid (T3.out.mono hb4)
       have O4 := Lib.hid (OwnL.lower ho T3.out.r.lt)
       clear ho hb4 T3 c0 c1 c2 c3 c4 d0 d1 d2 d3 d4 d5 HW
       obtain ⟨c0, c1, c2, c3, c4⟩ := T4.out.c
       obtain ⟨d0, d1, d2, d3, d4, d5⟩ := T4.out.d
       rw [h0] at d3
       have HEN := Lib.hid (fun (W : World) (hb : Below w4.heap.size w4 W) => end_any q n c r o.who (d := e1) (RowsAt.below (ownR_rows O4.out) hb) M4.out.symm))
    | (with_reducible show wpList _ _ _ (⟨_, Op.load rvT _, _, _, _, none⟩ :: _) _ _
       refine wpList_boxA_load rowRv rfl _ rfl w.heap.size (resvA q n c r) rfl rfl T4.out.s ?_)
    | (go_at_call 70
       refine (HEN.out _ (Below.refl _ _)).mono ?_; rintro e w5 ⟨rfl, hb5⟩
       have T5 := Lib.hid (T4.out.mono hb5)
       have O5 := Lib.hid ((OwnL.below O4.out (Nat.le_refl _) hb5).raise hb5.size)
       clear hb5 T4 O4 HEN c0 c1 c2 c3 c4 d0 d1 d2 d3 d4 d5)
    | (with_reducible show wpList _ _ _ (⟨_, Op.store rvT (.tmp 2) _, _, _, _, none⟩ :: _) _ _
       refine wpList_boxA_put rowRv rfl _ _ rfl rfl w.heap.size (resvA q1 m1 e1 (endP r o.who L)) _ rfl (rvA_one _ _ _ _) rfl rfl rfl T5.out.s ?_
       intro w6 x k s
       have T6 := Lib.hid (T5.out.setS x k)
       have O6 := Lib.hid ((OwnL.same O5.out (w' := w6) (fun B hB hB2 => k.block B hB2 (by omega))).raise (show _ ≤ w6.heap.size by omega))
       clear x k s T5 O5
       obtain ⟨d0, d1, d2, d3, d4, d5⟩ := T6.out.d
       obtain ⟨c0, c1, c2, c3, c4⟩ := T6.out.c)
    | (with_reducible show wpList _ _ _ (⟨_, Op.store 4 _ _, _, _, _, none⟩ :: _) _ _
       refine wpList_boxA_bool rfl _ _ rfl rfl w.heap.size 3 o.s rfl rfl T6.out.s (by simp [resvA]) ?_
       intro u1 x k s
       rw [set3] at x
       have U1 := Lib.hid (T6.out.setS x k)
       have V1 := Lib.hid ((OwnL.same O6.out (w' := u1) (fun B hB hB2 => k.block B hB2 (by omega))).raise (show _ ≤ u1.heap.size by omega))
       clear x k s T6 O6 c0 c1 c2 c3 c4 d0 d1 d2 d3 d4 d5
       obtain ⟨c0, c1, c2, c3, c4⟩ := U1.out.c)
    | (with_reducible show wpList _ _ _ (⟨_, Op.store 3 _ _, _, _, _, none⟩ :: _) _ _
       refine wpList_boxA_int rfl _ _ rfl rfl w.heap.size 4 _ rfl rfl U1.out.s (by simp [resvA]) ?_
       intro u2 x k s
       rw [set4, HI.out] at x
       have U2 := Lib.hid (U1.out.setS x k)
       have V2 := Lib.hid ((OwnL.same V1.out (w' := u2) (fun B hB hB2 => k.block B hB2 (by omega))).raise (show _ ≤ u2.heap.size by omega))
       clear x k s U1 V1 c0 c1 c2 c3 c4)
    | (with_reducible show wpList _ _ _ (⟨_, Op.load rvT _, _, _, _, none⟩ :: _) _ _
       refine wpList_boxA_load rowRv rfl _ rfl w.heap.size (resvA q1 m1 e1 { endP r o.who L with s := o.s, g := incR r.g }) rfl rfl U2.out.s ?_)
    | (with_reducible show wpList _ _ _ (⟨_, Op.store rvT (.tmp 4) _, _, _, _, none⟩ :: _) _ _
       refine wpList_boxA_put rowRv rfl _ _ rfl rfl (w.heap.size + 1 + 1) (resvA q1 m1 e1 { endP r o.who L with s := o.s, g := incR r.g }) _ rfl (rvA_one _ _ _ _) rfl rfl rfl U2.out.r ?_
       intro w9 x9 k9 s9
       have T9 := Lib.hid (U2.out.setR x9 k9)
       have O9 := Lib.hid ((OwnL.same V2.out (w' := w9) (fun B hB hB2 => k9.block B hB2 (by omega))).raise (show _ ≤ w9.heap.size by omega))
       clear x9 k9 s9))
  exact bodyPost_ret (results_cell_row_tmp rfl _ _ (w.heap.size + 1 + 1) rvT (resvA q1 m1 e1 { endP r o.who L with s := o.s, g := incR r.g }) (0, 0) _ rfl T9.out.r Try.underlying24 rfl (rvA_size _ _ _ _)) rfl ⟨q1, m1, e1, rfl, OwnL.lower O9.out (by omega), T9.out.low⟩
set_option maxRecDepth 100000 in
set_option maxHeartbeats 8000000 in
theorem register_full {w : World} {q : Option Addr} {n c : Nat} {r : ResvOf} (hq : RvAt w q n c r) (hg : GoodR r) (o : ROp) (h0 : o.new ≠ 0) (h4 : (r.regs.filter fun p => !(selfF o p)).length = 4) :
    Calls Try.prog 52 #[.agg (resvA q n c r), .agg (ropA o)] w fun e w' => e = .returned (.tuple #[.agg (resvA none 0 0 zeroR), errN 7]) ∧ Below w.heap.size w w' := by
  have HW := Lib.hid (fun (W : World) (hb : Below w.heap.size w W) (hP : BoxA W (w.heap.size + 1) roT (ropA o)) => without_self (c := c) (RowsAt.below hq.at_ hb) hq.len hq.few hP)
  have HI := Lib.hid (inc64 r.g)
  have g1 : (o.new == 0) = false := beq_eq_false_iff_ne.2 h0
  clear hq hg
  go_enter Try.func52, Try.ntmps52
  generalize r.regs.filter (fun p => !(selfF o p)) = L at *
  have H4 := Lib.hid h4
  clear h4
  go_wp2_with (first
    | (with_reducible show wpList _ _ _ (⟨_, Op.box rvT _, _, _, _, none⟩ :: _) _ _
       refine wpList_boxA_of rfl _ rfl (resvA q n c r) rfl ?_
       intro w1 x1 l1 s1
       have X1 := Lib.hid x1
       have L1 := Lib.hid l1
       have S1 := Lib.hid s1
       clear x1 l1 s1)
    | (with_reducible show wpList _ _ _ (⟨_, Op.box roT _, _, _, _, none⟩ :: _) _ _
       refine wpList_boxA_of rfl _ rfl (ropA o) rfl ?_
       intro w2 x2 l2 s2
       rw [S1.out] at x2 s2
       rw [S1.out]
       have X2 := Lib.hid x2
       have L2 := Lib.hid l2
       have S2 := Lib.hid s2
       clear x2 l2 s2)
    | (with_reducible show wpList _ _ _ (⟨_, Op.alloc rvT, _, _, _, _⟩ :: _) _ _
       refine wpList_boxA_new rowRv rfl rfl (w.heap.size + 1 + 1) S2.out ?_
       intro w3 x3 l3 s3
       have T3 := Lib.hid (new3 X1.out L1.out S1.out X2.out L2.out S2.out x3 l3)
       obtain ⟨c0, c1, c2, c3, c4⟩ := T3.out.c
       obtain ⟨d0, d1, d2, d3, d4, d5⟩ := T3.out.d
       clear x3 l3 s3 X1 L1 S1 X2 L2 S2)
    | (with_reducible show wpList _ _ _ (⟨_, Op.makeFunc _ _ _, _, _, _, none⟩ :: _) _ _
       refine wpList_closure rfl _ rfl (.pointer (some ⟨w.heap.size + 1, 0, none⟩)) rfl ?_)
    | (go_at_call 67
       refine (HW.out _ T3.out.low T3.out.p).mono ?_; rintro e w4 ⟨q1, m1, e1, rfl, ho, hb4⟩
       have M4 := Lib.hid (wo_slice ho)
       have T4 := Lib.hid (T3.out.mono hb4)
       have O4 := Lib.hid (OwnL.lower ho T3.out.r.lt)
       clear ho hb4 T3 c0 c1 c2 c3 c4 d0 d1 d2 d3 d4 d5 HW
       obtain ⟨c0, c1, c2, c3, c4⟩ := T4.out.c
       obtain ⟨d0, d1, d2, d3, d4, d5⟩ := T4.out.d
       rw [H4.out] at M4
       obtain rfl : m1 = 4 := M4.out)
    | (with_reducible show wpList _ _ _ (⟨_, Op.build _ _, _, _, _, none⟩ :: _) _ _
       refine wpList_build_any rfl rvT #[] #[] _ rfl rfl (fun w => run_build w rvT #[] _ rv_built0) ?_)
    | (with_reducible show wpList _ _ _ (⟨_, Op.store rvT _ _, _, _, _, none⟩ :: _) _ _
       refine wpList_boxA_put rowRv rfl _ _ rfl rfl (w.heap.size + 1 + 1) (resvA none 0 0 zeroR) _ rfl (rvA_one _ _ _ _) rfl rfl rfl T4.out.r ?_
       intro w9 x9 k9 s9
       have T9 := Lib.hid (T4.out.setR x9 k9)
       clear x9 k9 s9))
  exact bodyPost_ret (results_cell_row_tmp rfl _ _ (w.heap.size + 1 + 1) rvT (resvA none 0 0 zeroR) (0, 0) _ rfl T9.out.r Try.underlying24 rfl (rvA_size _ _ _ _)) rfl ⟨rfl, T9.out.low⟩
set_option maxRecDepth 100000 in
set_option maxHeartbeats 8000000 in
theorem register_new {w : World} {q : Option Addr} {n c : Nat} {r : ResvOf} (hq : RvAt w q n c r) (hg : GoodR r) (o : ROp) (h0 : o.new ≠ 0) (h4 : (r.regs.filter fun p => !(selfF o p)).length ≠ 4) :
    Calls Try.prog 52 #[.agg (resvA q n c r), .agg (ropA o)] w fun e w' => ∃ q' m c', e = .returned (.tuple #[.agg (resvA q' m c' { r with regs := withL r.regs o.who o.new false, s := o.s, g := incR r.g }), .nilIface]) ∧ OwnR w w' q' m c' (withL r.regs o.who o.new false) ∧ Below w.heap.size w w' := by
  have HW := Lib.hid (fun (W : World) (hb : Below w.heap.size w W) (hP : BoxA W (w.heap.size + 1) roT (ropA o)) => without_self (c := c) (RowsAt.below hq.at_ hb) hq.len hq.few hP)
  have HI := Lib.hid (inc64 r.g)
  have g1 : (o.new == 0) = false := beq_eq_false_iff_ne.2 h0
  have HLE := Lib.hid (show (r.regs.filter fun p => !(selfF o p)).length ≤ 4 from Nat.le_trans (List.length_filter_le _ _) hg.few)
  have HRI := Lib.hid (others_rise hg o)
  have HNO := Lib.hid (others_not r o)
  have HWI := Lib.hid (others_with hg o)
  have HWL := Lib.hid (others_withlen hg o)
  clear hq hg
  go_enter Try.func52, Try.ntmps52
  generalize r.regs.filter (fun p => !(selfF o p)) = L at *
  have H4 := Lib.hid h4
  clear h4
  generalize hWL : withL r.regs o.who o.new false = WL at *
  clear hWL
  go_wp2_with (first
    | (with_reducible show wpList _ _ _ (⟨_, Op.box rvT _, _, _, _, none⟩ :: _) _ _
       refine wpList_boxA_of rfl _ rfl (resvA q n c r) rfl ?_
       intro w1 x1 l1 s1
       have X1 := Lib.hid x1
       have L1 := Lib.hid l1
       have S1 := Lib.hid s1
       clear x1 l1 s1)
    | (with_reducible show wpList _ _ _ (⟨_, Op.box roT _, _, _, _, none⟩ :: _) _ _
       refine wpList_boxA_of rfl _ rfl (ropA o) rfl ?_
       intro w2 x2 l2 s2
       rw [S1.out] at x2 s2
       rw [S1.out]
       have X2 := Lib.hid x2
       have L2 := Lib.hid l2
       have S2 := Lib.hid s2
       clear x2 l2 s2)
    | (with_reducible show wpList _ _ _ (⟨_, Op.alloc rvT, _, _, _, _⟩ :: _) _ _
       refine wpList_boxA_new rowRv rfl rfl (w.heap.size + 1 + 1) S2.out ?_
       intro w3 x3 l3 s3
       have T3 := Lib.hid (new3 X1.out L1.out S1.out X2.out L2.out S2.out x3 l3)
       obtain ⟨c0, c1, c2, c3, c4⟩ := T3.out.c
       obtain ⟨d0, d1, d2, d3, d4, d5⟩ := T3.out.d
       clear x3 l3 s3 X1 L1 S1 X2 L2 S2)
    | (with_reducible show wpList _ _ _ (⟨_, Op.makeFunc _ _ _, _, _, _, none⟩ :: _) _ _
       refine wpList_closure rfl _ rfl (.pointer (some ⟨w.heap.size + 1, 0, none⟩)) rfl ?_)
    | (go_at_call 67
       refine (HW.out _ T3.out.low T3.out.p).mono ?_; rintro e w4 ⟨q1, m1, e1, rfl, ho, hb4⟩
       have M4 := Lib.hid (wo_slice ho)
       have T4 := Lib.hid (T3.out.mono hb4)
       have O4 := Lib.hid (OwnL.lower ho T3.out.r.lt)
       clear ho hb4 T3 c0 c1 c2 c3 c4 d0 d1 d2 d3 d4 d5 HW
       obtain ⟨c0, c1, c2, c3, c4⟩ := T4.out.c
       obtain ⟨d0, d1, d2, d3, d4, d5⟩ := T4.out.d
       have f4 : ((m1 : Int) == 4) = false := beq_eq_false_iff_ne.2 (by have := H4.out; have := M4.out; omega)
       obtain rfl : m1 = L.length := M4.out)
    | (with_reducible show wpList _ _ _ (⟨_, Op.build _ _, _, _, _, none⟩ :: _) _ _
       refine wpList_build_any rfl rgT _ #[(0, .int .i64 o.who), (1, .int .i64 o.new)] _ rfl rfl (fun w => run_build w rgT #[(0, .int .i64 o.who), (1, .int .i64 o.new)] _ (reg_built o.who o.new)) ?_)
    | (with_reducible show wpList _ _ _ (⟨_, Op.buildSlice _ _ _, _, _, _, none⟩ :: _) _ _
       refine wpList_reg1 rfl _ rfl (o.who, o.new) rfl ?_
       intro a1 r1 b1 s1
       have RA1 := Lib.hid r1
       have T5 := Lib.hid (T4.out.mono b1)
       have O5 := Lib.hid ((OwnL.below O4.out (Nat.le_refl _) b1).raise b1.size)
       clear r1 b1 s1 T4 O4 c0 c1 c2 c3 c4 d0 d1 d2 d3 d4 d5)
    | (at_builtin
       refine wpList_regs_grow rfl _ _ rfl (w.heap.size + 1 + 1 + 1) a1.heap.size _ L [(o.who, o.new)] _ 1 1 rfl rfl rfl O5.out RA1.out (by have := HLE.out; simp; omega) (Nat.succ_le_of_lt T5.out.r.lt) ?_
       intro v2 a2 o2 b2
       have T6 := Lib.hid (T5.out.above b2)
       have O6 := Lib.hid o2
       clear o2 b2 RA1 T5 O5
       obtain ⟨B, cp, rfl, hB1, hB2, hpb, hlc, hcm⟩ := own_some O6.out (by simp)
       have HB1 := Lib.hid hB1
       have HB2 := Lib.hid hB2
       have HPB := Lib.hid hpb
       have HLC := Lib.hid hlc
       have HCM := Lib.hid hcm
       clear hB1 hB2 hpb hlc hcm O6)
    | (with_reducible show wpList _ _ _ (⟨_, Op.store rgS _ _, _, _, _, none⟩ :: _) _ _
       refine wpList_boxA_slice rfl _ _ rfl rfl w.heap.size 0 (some ⟨B, 0, none⟩) (L.length + 1) cp rfl rfl T6.out.s (by simp [resvA]) ?_
       intro w7 x k s
       rw [set0] at x
       have T7 := Lib.hid (T6.out.setS x k)
       have P7 := Lib.hid (HPB.out.keep (k.block _ HPB.out.lt (by have := HB1.out; omega)))
       have Z7 := Lib.hid s
       clear x k s T6 HPB
       obtain ⟨c0, c1, c2, c3, c4⟩ := T7.out.c)
    | (go_at_call 71
       refine (SortFunc_any P7.out rfl (by have := HLE.out; have := H4.out; omega) HRI.out HNO.out).mono ?_; rintro e w8 ⟨rfl, hp8, hk8⟩
       rw [HWI.out] at hp8
       have T8 := Lib.hid (T7.out.keepB hk8 (by have := HB1.out; omega))
       have O8 := Lib.hid (PB.all hp8 HB1.out (show B < w8.heap.size from hp8.lt) (by rw [HWL.out]; exact HLC.out) HCM.out HWL.out)
       clear hp8 hk8 T7 P7 Z7 c0 c1 c2 c3 c4
       obtain ⟨d0, d1, d2, d3, d4, d5⟩ := T8.out.d
       obtain ⟨c0, c1, c2, c3, c4⟩ := T8.out.c)
    | (with_reducible show wpList _ _ _ (⟨_, Op.store 4 _ _, _, _, _, none⟩ :: _) _ _
       refine wpList_boxA_bool rfl _ _ rfl rfl w.heap.size 3 o.s rfl rfl T8.out.s (by simp [resvA]) ?_
       intro u1 x k s
       rw [set3] at x
       have U1 := Lib.hid (T8.out.setS x k)
       have V1 := Lib.hid ((OwnL.same O8.out (w' := u1) (fun B hB hB2 => k.block B hB2 (by omega))).raise (show _ ≤ u1.heap.size by omega))
       clear x k s T8 O8 c0 c1 c2 c3 c4 d0 d1 d2 d3 d4 d5
       obtain ⟨c0, c1, c2, c3, c4⟩ := U1.out.c)
    | (with_reducible show wpList _ _ _ (⟨_, Op.store 3 _ _, _, _, _, none⟩ :: _) _ _
       refine wpList_boxA_int rfl _ _ rfl rfl w.heap.size 4 _ rfl rfl U1.out.s (by simp [resvA]) ?_
       intro u2 x k s
       rw [set4, HI.out] at x
       have U2 := Lib.hid (U1.out.setS x k)
       have V2 := Lib.hid ((OwnL.same V1.out (w' := u2) (fun B hB hB2 => k.block B hB2 (by omega))).raise (show _ ≤ u2.heap.size by omega))
       clear x k s U1 V1 c0 c1 c2 c3 c4)
    | (with_reducible show wpList _ _ _ (⟨_, Op.load rvT _, _, _, _, none⟩ :: _) _ _
       refine wpList_boxA_load rowRv rfl _ rfl w.heap.size (resvA (some ⟨B, 0, none⟩) (L.length + 1) cp { r with regs := WL, s := o.s, g := incR r.g }) rfl rfl U2.out.s ?_)
    | (with_reducible show wpList _ _ _ (⟨_, Op.store rvT (.tmp 4) _, _, _, _, none⟩ :: _) _ _
       refine wpList_boxA_put rowRv rfl _ _ rfl rfl (w.heap.size + 1 + 1) (resvA (some ⟨B, 0, none⟩) (L.length + 1) cp { r with regs := WL, s := o.s, g := incR r.g }) _ rfl (rvA_one _ _ _ _) rfl rfl rfl U2.out.r ?_
       intro w9 x9 k9 s9
       have T9 := Lib.hid (U2.out.setR x9 k9)
       have O9 := Lib.hid ((OwnL.same V2.out (w' := w9) (fun B hB hB2 => k9.block B hB2 (by omega))).raise (show _ ≤ w9.heap.size by omega))
       clear x9 k9 s9))
  exact bodyPost_ret (results_cell_row_tmp rfl _ _ (w.heap.size + 1 + 1) rvT (resvA (some ⟨B, 0, none⟩) (L.length + 1) cp { r with regs := WL, s := o.s, g := incR r.g }) (0, 0) _ rfl T9.out.r Try.underlying24 rfl (rvA_size _ _ _ _)) rfl ⟨some ⟨B, 0, none⟩, L.length + 1, cp, rfl, OwnL.lower O9.out (by omega), T9.out.low⟩
end Go.Proofs.Ytfnkdmdcjliebaa
