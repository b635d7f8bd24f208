/- ResvDoes: what every operation does to any reservations. Condition: none but the arguments' own forms; package resv by resvSpec. -/
import Derived.Test.YtfnkdmdcjliebaaRvAlive
import Derived.Test.YtfnkdmdcjliebaaRvOps
import Derived.Test.YtfnkdmdcjliebaaRvDo
import Derived.Test.YtfnkdmdcjliebaaRvRdE
namespace Go.Proofs.Ytfnkdmdcjliebaa
open Go.ChangeShapes Go.WideShapes Go.ChangeAt Go.RowKit
namespace resvDoes
set_option linter.unusedVariables false
set_option linter.unusedSimpArgs false
theorem own : ownKnob Try.prog.godebug = none := by kernel_rfl
theorem num_errN (z : Int) (w : World) : Calls Try.prog 13 #[errN z] w fun e w' => e = .returned (.int .i64 z) ∧ w = w' := by
  by_cases hz : z = 0
  · subst hz; exact Num_nil w
  · rw [errN_not hz]
    exact Num_err z (beq_eq_false_iff_ne.2 hz) w
section
variable {o : Oper} {a : Act} {C : World → Prop} {K : Act → Prop}
set_option maxRecDepth 100000 in
theorem gives_err_nil (x : Operand) (ho : o.op = .binOp .eql 29 x (.const .nilIface) 29) (b : Bool) (z : Int) (hx : a.eval x = (if b then .nilIface else .iface 45 (.int .i64 z))) (hk : K (a.put o.dst (.bool b))) : ∃ v, Gives Try.prog C o a v ∧ K (a.put o.dst v) :=
  ⟨_, fun w _ => by
    unfold execOp
    simp only [ho, hx]
    cases b <;> simp [go_sem, eqGuard], hk⟩
theorem gives_bool_sameN (x y : Operand) (ho : o.op = .binOp .neq 4 x y 4) (i : Bool) (hx : a.eval x = .bool i) (hy : a.eval y = .bool i) (hk : K (a.put o.dst (.bool false))) : ∃ v, Gives Try.prog C o a v ∧ K (a.put o.dst v) :=
  ⟨_, fun w _ => by
    unfold execOp
    simp only [ho, hx, hy]
    simp [go_sem], hk⟩
end
section
variable {ops : Array Oper} {rest : List Oper} {o : Oper} {a : Act} {w : World} {Q : Exit → Act → World → Prop}
theorem wpList_reg_put (hgd : o.guard = none) (x y : Operand) (ho : o.op = .store rgT x y) (hd : o.dst = none) (B cap k : Nat) (l : List (Int × Int)) (u c : Int) (off : Nat) (hoff : off = 2 * k) (hx : a.eval x = .pointer (some ⟨B, off, none⟩)) (hy : a.eval y = .agg #[.int .i64 u, .int .i64 c]) (hB : PB w B cap l) (hk : k < l.length)
    (h : ∀ w', PB w' B cap (l.set k (u, c)) → Keeps (fun j => j = B) w w' → w'.heap.size = w.heap.size → wpList Try.prog ops Q rest a w') : wpList Try.prog ops Q (o :: rest) a w :=
  wpList_store_mid hgd rgT x y ho B (2 * k) #[.int .i64 u, .int .i64 c] (by rw [← hoff]; exact hx) hy (hB.there (by show 2 * k + 2 ≤ _; omega)) regSize (by simp [Value.oneCell']) (by
    have hh := h _ (hB.set hk u c) (keeps_setCells B _ _ w) (size_setCells B _ _ w)
    rw [hd]
    exact hh)
end
theorem reg_built0 : Try.prog.built rgT [] = some #[.int .i64 0, .int .i64 0] := by kernel_rfl
/-- What stands between the calls of the law. -/
structure DoX (w : World) (JC JX JY : Nat) (q : Option Addr) (n c : Nat) (r : ResvOf) (qc : Option Addr) (cc : Nat) (qx : Option Addr) (m cx : Nat) (qy : Option Addr) (cy : Nat) (rx : ResvOf) (V : World) : Prop where
  s : BoxA V w.heap.size rvT (resvA q n c r)
  c : BoxA V JC rvT (resvA qc n cc r)
  x : BoxA V JX rvT (resvA qx m cx rx)
  y : BoxA V JY rvT (resvA qy m cy rx)
  rs : RegsAt V q r.regs
  rc : RegsAt V qc r.regs
  rxx : RegsAt V qx rx.regs
  ry : RegsAt V qy rx.regs
  low : Below w.heap.size w V
namespace DoX
variable {w V V' : World} {JC JX JY n c cc m cx cy : Nat} {q qc qx qy : Option Addr} {r rx : ResvOf}
theorem mono (h : DoX w JC JX JY q n c r qc cc qx m cx qy cy rx V) (hb : Below V.heap.size V V') : DoX w JC JX JY q n c r qc cc qx m cx qy cy rx V' :=
  ⟨h.s.keep (hb.block _ h.s.lt), h.c.keep (hb.block _ h.c.lt), h.x.keep (hb.block _ h.x.lt), h.y.keep (hb.block _ h.y.lt), RowsAt.below h.rs hb, RowsAt.below h.rc hb, RowsAt.below h.rxx hb, RowsAt.below h.ry hb, h.low.trans (hb.mono h.low.size)⟩
theorem drew (h : DoX w JC JX JY q n c r qc cc qx m cx qy cy rx V) : DoX w JC JX JY q n c r qc cc qx m cx qy cy rx V.drew := h.mono ((Below.refl V.heap.size V).drew)
end DoX
theorem rows_keep {V V' : World} {B : Nat} {q : Option Addr} {ks : List (Int × Int)} (h : RegsAt V q ks) (k : Keeps (fun j => j = B) V V') (hs : V'.heap.size = V.heap.size) (hn : ∀ b, AtB q b → b < V.heap.size → b ≠ B) : RegsAt V' q ks := by
  rcases h with h1 | ⟨b, o, h1, h2, h3⟩
  · exact .inl h1
  · exact .inr ⟨b, o, h1, by omega, fun i x hx j v hv => (World.cell?_of_block (w := V) (a := ⟨b, o + 2 * i + j, none⟩) (k.block b h2 (hn b ⟨o, h1⟩ h2))).trans (h3 i x hx j v hv)⟩
theorem own_cases {w : World} {base top : Nat} {q : Option Addr} {m c : Nat} {ks : List (Int × Int)} (h : OwnL rgT 2 regC w base top (.slice q m c) ks) : (q = none ∧ m = 0 ∧ c = 0 ∧ ks = []) ∨ ∃ B, q = some ⟨B, 0, none⟩ ∧ m = ks.length ∧ base ≤ B ∧ PB w B c ks := by
  rcases h with ⟨hx1, hx2⟩ | ⟨B, cp, cur, hx1, hx2, hx3, hx4, hx5, hx6, hx7, hx8⟩
  · cases hx1; exact .inl ⟨rfl, rfl, rfl, hx2⟩
  · cases hx1; exact .inr ⟨B, rfl, rfl, hx2, cur, cur.toList.drop (ks.length * 2), hx4, hx7, by rw [← hx8, List.take_append_drop]⟩
theorem rows_keep2 {V V' : World} {B : Nat} {q : Option Addr} {ks : List (Int × Int)} (h : RegsAt V q ks) (hb : ks = [] ∨ ∃ b, (∀ k, AtB q k ↔ k = b) ∧ b < B) (k : Keeps (fun j => j = B) V V') (hs : V'.heap.size = V.heap.size) : RegsAt V' q ks := by
  rcases hb with h1 | ⟨b, h1, h2⟩
  · exact .inl h1
  · exact rows_keep h k hs (fun b' hb' _ => by rw [(h1 b').1 hb']; omega)
theorem rvAt_any {W : World} {base top : Nat} {q : Option Addr} {n c : Nat} {r : ResvOf} (h : OwnL rgT 2 regC W base top (.slice q n c) r.regs) (hk : r.ok) (hn : r.regs.length = n) (hl : n ≤ 100) : RvAt W q n c r := by
  obtain ⟨p, c', hv, h1, h2, h3, -⟩ := h.rows elemReg.len
  cases hv
  exact ⟨h3, rfl, h1, h2, hk, by omega⟩
theorem pb_ne {V : World} {B cap J : Nat} {l : List (Int × Int)} {A : Array Value} (h : PB V B cap l) (hJ : BoxA V J rvT A) : J ≠ B := by
  rintro rfl
  obtain ⟨cur, rest, q1, q2⟩ := h
  rw [hJ] at q1
  have h6 := Option.some.inj q1
  injection h6 with e1 e2 e3
  exact absurd e2 (by decide)
theorem regs_block {V : World} {q : Option Addr} {ks : List (Int × Int)} (h : RegsAt V q ks) : ks = [] ∨ ∃ b, (∀ k, AtB q k ↔ k = b) ∧ b < V.heap.size := by
  rcases h with h1 | ⟨b, o, h1, h2, h3⟩
  · exact .inl h1
  · refine .inr ⟨b, fun k => ⟨fun ⟨o', e⟩ => ?_, fun e => ⟨o, by rw [h1, e]⟩⟩, h2⟩
    rw [h1] at e; cases e; rfl
attribute [local irreducible] regC atR keyR inR risesR formR goodR allR holdersR holdsR allowedR doR errN PB
attribute [local go_sem] Oper.semAt_some
set_option maxRecDepth 100000 in
set_option maxHeartbeats 16000000 in
theorem walk (K : ResvSpec) (q : Option Addr) (c : Nat) (r : ResvOf) (hok : r.ok) {w : World} (hq : RegsAt w q r.regs) (hnc : r.regs.length ≤ c) (hc : c ≤ maxLen) (o : ROp) (hoo : o.ok) : Calls Try.prog 3 #[.agg (resvA q r.regs.length c r), .agg (ropA o)] w fun e w' => e = .returned (.bool true) ∧ Below w.heap.size w w' := by
  have HK := Lib.hid K
  have HOO := Lib.hid hoo
  have HOK := Lib.hid hok
  have HQ := Lib.hid hq
  have HRV := Lib.hid (fun (hl : r.regs.length ≤ 100) (W : World) (hb : Below w.heap.size w W) => (show RvAt W q r.regs.length c r from ⟨RowsAt.below hq hb, rfl, hnc, hc, hok, by omega⟩))
  obtain ⟨n, hn⟩ : ∃ n, r.regs.length = n := ⟨_, rfl⟩
  have HN := Lib.hid hn
  rw [hn] at HRV
  rw [hn]
  clear hq hnc hc hok hoo hn K
  go_enter Try.func3, Try.ntmps3
  by_cases h100 : 100 < n
  · have f2 : (100 : Int) < (n : Int) := by omega
    have f1 : decide ((100 : Int) < (n : Int)) = true := by simp; omega
    clear h100 HRV
    go_wp2_with (first
    | (with_reducible show wpList _ _ _ (⟨_, Op.box rvT _, _, _, _, none⟩ :: _) _ _
       refine wpList_boxA_of rfl _ rfl (resvA q n c r) rfl ?_
       intro w1 x1 l1 s1
       have X1 := Lib.hid x1
       have L1 := Lib.hid l1
       have S1 := Lib.hid s1
       clear x1 l1 s1)
    | (with_reducible show wpList _ _ _ (⟨_, Op.box roT _, _, _, _, none⟩ :: _) _ _
       refine wpList_boxA_of rfl _ rfl (ropA o) rfl ?_
       intro w2 x2 l2 s2
       rw [S1.out] at x2 s2
       rw [S1.out]
       have P2 := Lib.hid x2
       have X2 := Lib.hid (X1.out.keep (l2.block _ X1.out.lt))
       have L2 := Lib.hid (L1.out.trans (l2.mono L1.out.size))
       clear x2 l2 s2 X1 L1 S1)
    | (go_at_call 9
       refine (alive_any HK.out w2).mono ?_; rintro e w3 ⟨rfl, hb3⟩
       have P3 := Lib.hid (P2.out.keep (hb3.block _ P2.out.lt))
       have X3 := Lib.hid (X2.out.keep (hb3.block _ X2.out.lt))
       have L3 := Lib.hid (L2.out.trans (hb3.mono L2.out.size))
       obtain ⟨c0, c1, c2, c3, c4⟩ := boxRv X3.out
       clear hb3 P2 X2 L2))
    go_ret
    exact ⟨rfl, L3.out⟩
  · have H100 := Lib.hid (show n ≤ 100 by omega)
    have HNL := Lib.hid (show n ≤ 1000 by omega)
    have f2 : ¬ (100 : Int) < (n : Int) := by omega
    have f1 : decide ((100 : Int) < (n : Int)) = false := by simp; omega
    have HCK := Lib.hid (fun (W : World) q2 c2 (h : RegsAt W q2 r.regs) (hnc : n ≤ c2) (hc : c2 ≤ maxLen) => (by
      refine (HK.out.check (show RvAt W q2 n c2 r from ⟨h, HN.out, hnc, hc, HOK.out, HNL.out⟩)).mono ?_
      rintro e w' ⟨rfl, hb⟩
      refine ⟨?_, hb⟩
      cases goodR r with
      | true => rw [if_pos rfl, if_pos rfl, errN_zero]
      | false => rw [if_neg (by decide), if_neg (by decide), errN_not (by decide)] : Calls Try.prog 14 #[.agg (resvA q2 n c2 r)] W fun e w' => e = .returned (if goodR r then .nilIface else .iface 45 (.int .i64 2)) ∧ Below W.heap.size W w'))
    clear h100
    go_wp2_with (first
    | (with_reducible show wpList _ _ _ (⟨_, Op.box rvT _, _, _, _, none⟩ :: _) _ _
       refine wpList_boxA_of rfl _ rfl (resvA q n c r) rfl ?_
       intro w1 x1 l1 s1
       have X1 := Lib.hid x1
       have L1 := Lib.hid l1
       have S1 := Lib.hid s1
       clear x1 l1 s1)
    | (with_reducible show wpList _ _ _ (⟨_, Op.box roT _, _, _, _, none⟩ :: _) _ _
       refine wpList_boxA_of rfl _ rfl (ropA o) rfl ?_
       intro w2 x2 l2 s2
       rw [S1.out] at x2 s2
       rw [S1.out]
       have P2 := Lib.hid x2
       have X2 := Lib.hid (X1.out.keep (l2.block _ X1.out.lt))
       have L2 := Lib.hid (L1.out.trans (l2.mono L1.out.size))
       clear x2 l2 s2 X1 L1 S1)
    | (go_at_call 9
       refine (alive_any HK.out w2).mono ?_; rintro e w3 ⟨rfl, hb3⟩
       have P3 := Lib.hid (P2.out.keep (hb3.block _ P2.out.lt))
       have X3 := Lib.hid (X2.out.keep (hb3.block _ X2.out.lt))
       have L3 := Lib.hid (L2.out.trans (hb3.mono L2.out.size))
       obtain ⟨c0, c1, c2, c3, c4⟩ := boxRv X3.out
       clear hb3 P2 X2 L2)
    | (with_reducible show wpList _ _ _ (⟨_, Op.load rvT (.tmp 2), _, _, _, none⟩ :: _) _ _
       refine wpList_boxA_load rowRv rfl _ rfl w.heap.size (resvA q n c r) rfl rfl X3.out ?_)
    | (with_reducible show wpList _ _ _ (⟨some 5, Op.alloc rvT, _, _, _, _⟩ :: _) _ _
       refine wpList_boxA_new rowRv rfl rfl w3.heap.size rfl ?_
       intro w4 x l s
       have C4 := Lib.hid x
       have P4 := Lib.hid (P3.out.keep (l.block _ P3.out.lt))
       have X4 := Lib.hid (X3.out.keep (l.block _ X3.out.lt))
       have L4 := Lib.hid (L3.out.trans (l.mono L3.out.size))
       have HJC := Lib.hid (show w.heap.size + 1 < w3.heap.size from P3.out.lt)
       clear x l s P3 X3 L3 c0 c1 c2 c3 c4
       generalize w3.heap.size = JC at *)
    | (with_reducible show wpList _ _ _ (⟨_, Op.store rvT (.tmp 5) _, _, _, _, none⟩ :: _) _ _
       refine wpList_boxA_put rowRv rfl _ _ rfl rfl JC (resvA q n c r) _ rfl (rvA_one _ _ _ _) rfl rfl rfl C4.out ?_
       intro w5 x k s
       have C5 := Lib.hid x
       have P5 := Lib.hid (P4.out.keep (k.block _ P4.out.lt (by have := HJC.out; omega)))
       have X5 := Lib.hid (X4.out.keep (k.block _ X4.out.lt (by have := HJC.out; omega)))
       have L5 := Lib.hid (L4.out.trans (k.below L4.out.size (fun j hj e => by have := HJC.out; omega)))
       clear x k s P4 X4 L4 C4
       obtain ⟨c0, c1, c2, c3, c4⟩ := boxRv X5.out)
    | (with_reducible show wpList _ _ _ (⟨_, Op.buildSlice _ _ _, _, _, _, none⟩ :: _) _ _
       refine wpList_list0 elemReg rfl rfl ?_
       have O6 := Lib.hid (OwnL.empty rgT 2 regC w5 w5.heap.size (Nat.le_refl _))
       have l := box_below w5 (.cells #[] rgT)
       have C6 := Lib.hid (C5.out.keep (l.block _ C5.out.lt))
       have P6 := Lib.hid (P5.out.keep (l.block _ P5.out.lt))
       have X6 := Lib.hid (X5.out.keep (l.block _ X5.out.lt))
       have L6 := Lib.hid (L5.out.trans (l.mono L5.out.size))
       have Q6 := Lib.hid (RowsAt.below HQ.out L6.out)
       have B6 := Lib.hid l.size
       have HC5 := Lib.hid (show JC < w5.heap.size from C5.out.lt)
       clear l P5 X5 L5 C5 c0 c1 c2 c3 c4
       generalize w5.alloc (.cells #[] rgT) = w6 at *
       obtain ⟨c0, c1, c2, c3, c4⟩ := boxRv X6.out)
    | (at_builtin
       refine wpList_regs_grow rfl _ _ rfl w5.heap.size (w5.heap.size + 1) _ [] r.regs q n c rfl rfl HN.out.symm O6.out Q6.out (by have := HN.out; have := H100.out; simp; omega) B6.out ?_
       intro v7 w7 o7 b7
       have O7 := Lib.hid (show OwnL rgT 2 regC w7 w5.heap.size w7.heap.size v7 r.regs from o7)
       have C7 := Lib.hid (C6.out.keep (b7.block _ HC5.out))
       have P7 := Lib.hid (P6.out.keep (b7.block _ (by have := HC5.out; have := HJC.out; omega)))
       have X7 := Lib.hid (X6.out.keep (b7.block _ (by have := HC5.out; have := HJC.out; omega)))
       have L7 := Lib.hid (L6.out.trans (b7.mono (by have := HC5.out; have := HJC.out; omega)))
       clear o7 b7 C6 P6 X6 L6 Q6 B6 O6 c0 c1 c2 c3 c4
       obtain ⟨qc, cc, hv, hc1, hc2, -, -⟩ := O7.out.rows elemReg.len
       rw [HN.out] at hv hc1
       subst hv
       have HCC := Lib.hid (And.intro hc1 hc2)
       clear hc1 hc2)
    | (with_reducible show wpList _ _ _ (⟨_, Op.store rgS _ _, _, _, _, none⟩ :: _) _ _
       refine wpList_boxA_slice rfl _ _ rfl rfl JC 0 qc n cc rfl rfl C7.out (by simp [resvA]) ?_
       intro w8 x k s
       rw [set0] at x
       have C8 := Lib.hid x
       have P8 := Lib.hid (P7.out.keep (k.block _ P7.out.lt (by have := HJC.out; omega)))
       have X8 := Lib.hid (X7.out.keep (k.block _ X7.out.lt (by have := HJC.out; omega)))
       have L8 := Lib.hid (L7.out.trans (k.below L7.out.size (fun j hj e => by have := HJC.out; omega)))
       have O8 := Lib.hid (keepR O7.out k s (own_ne_box O7.out C7.out))
       clear x k s P7 X7 L7 C7 O7)
    | (with_reducible show wpList _ _ _ (⟨_, Op.load rvT (.tmp 5), _, _, _, none⟩ :: _) _ _
       refine wpList_boxA_load rowRv rfl _ rfl JC (resvA qc n cc r) rfl rfl C8.out ?_)
    | (with_reducible show wpList _ _ _ (⟨_, Op.load roT _, _, _, _, none⟩ :: _) _ _
       refine wpList_boxA_load rowOp rfl _ rfl (w.heap.size + 1) (ropA o) rfl rfl P8.out ?_)
    | (go_at_call 10
       have RC8 := rvAt_any O8.out HOK.out HN.out H100.out
       refine (HK.out.do_ o RC8 HOO.out).mono ?_; clear RC8; rintro e w9 ⟨qx, m, cx, rfl, ox, b9⟩
       have OX9 := Lib.hid ox
       have OC9 := Lib.hid ((OwnL.below O8.out (Nat.le_refl _) b9))
       have HS8 := Lib.hid b9.size
       have HM := Lib.hid (own_len ox)
       have C9 := Lib.hid (C8.out.keep (b9.block _ C8.out.lt))
       have P9 := Lib.hid (P8.out.keep (b9.block _ P8.out.lt))
       have X9 := Lib.hid (X8.out.keep (b9.block _ X8.out.lt))
       have L9 := Lib.hid (L8.out.trans (b9.mono L8.out.size))
       have B8 := Lib.hid (show w.heap.size ≤ w8.heap.size from L8.out.size)
       clear ox b9 C8 P8 X8 L8 O8)
    | (with_reducible show wpList _ _ _ (⟨some 6, Op.alloc rvT, _, _, _, _⟩ :: _) _ _
       refine wpList_boxA_new rowRv rfl rfl w9.heap.size rfl ?_
       intro wa x l s
       have XA := Lib.hid x
       have OXA := Lib.hid ((OwnL.below OX9.out (Nat.le_refl _) l).raise l.size)
       have OCA := Lib.hid ((OwnL.below OC9.out HS8.out l))
       have CA := Lib.hid (C9.out.keep (l.block _ C9.out.lt))
       have PA := Lib.hid (P9.out.keep (l.block _ P9.out.lt))
       have SA := Lib.hid (X9.out.keep (l.block _ X9.out.lt))
       have LA := Lib.hid (L9.out.trans (l.mono L9.out.size))
       have HJX := Lib.hid (show w8.heap.size ≤ w9.heap.size from HS8.out)
       have HJX2 := Lib.hid (show JC < w9.heap.size from C9.out.lt)
       clear x l s C9 P9 X9 L9 OX9 OC9 HS8
       generalize w9.heap.size = JX at *)
    | (with_reducible show wpList _ _ _ (⟨_, Op.store rvT (.tmp 6) _, _, _, _, none⟩ :: _) _ _
       refine wpList_boxA_put rowRv rfl _ _ rfl rfl JX (resvA qx m cx (doR r o).1) _ rfl (rvA_one _ _ _ _) rfl rfl rfl XA.out ?_
       intro wb x k s
       have XB := Lib.hid x
       have OXB := Lib.hid (keepR OXA.out k s (own_ne_box OXA.out XA.out))
       have OCB := Lib.hid (OwnL.same OCA.out (w' := wb) (fun B hB hB2 => k.block B (by have := LA.out.size; have := XA.out.lt; have := HJX.out; omega) (by have := HJX.out; omega)))
       have CB := Lib.hid (CA.out.keep (k.block _ CA.out.lt (by have := HJX2.out; omega)))
       have PB' := Lib.hid (PA.out.keep (k.block _ PA.out.lt (by have := HJC.out; have := HJX2.out; omega)))
       have SB := Lib.hid (SA.out.keep (k.block _ SA.out.lt (by have := HJC.out; have := HJX2.out; omega)))
       have LB := Lib.hid (LA.out.trans (k.below LA.out.size (fun j hj e => by have := HJC.out; have := HJX2.out; omega)))
       clear x k s XA OXA OCA CA PA SA LA)
    | (with_reducible show wpList _ _ _ (⟨_, Op.load rvT (.tmp 2), _, _, _, none⟩ :: _) _ _
       refine wpList_boxA_load rowRv rfl _ rfl w.heap.size (resvA q n c r) rfl rfl SB.out ?_)
    | (with_reducible show wpList _ _ _ (⟨_, Op.load roT _, _, _, _, none⟩ :: _) _ _
       refine wpList_boxA_load rowOp rfl _ rfl (w.heap.size + 1) (ropA o) rfl rfl PB'.out ?_)
    | (go_at_call 11
       refine (refDo_any (HRV.out H100.out _ LB.out) o).mono ?_; rintro e wc ⟨qy, my, cy, rfl, hy, hmy, bc⟩
       obtain rfl : my = m := by rw [← hmy]; exact HM.out.symm
       have YC := Lib.hid hy
       have XC := Lib.hid (XB.out.keep (bc.block _ XB.out.lt))
       have OXC := Lib.hid ((OwnL.below OXB.out (Nat.le_refl _) bc).raise bc.size)
       have OCC := Lib.hid ((OwnL.below OCB.out (by have := XB.out.lt; have := HJX.out; omega) bc))
       have CC := Lib.hid (CB.out.keep (bc.block _ CB.out.lt))
       have SC := Lib.hid (SB.out.keep (bc.block _ SB.out.lt))
       have LC := Lib.hid (LB.out.trans (bc.mono LB.out.size))
       have HJXC := Lib.hid (show JX < wc.heap.size from Nat.lt_of_lt_of_le XB.out.lt bc.size)
       clear hy hmy bc XB OXB OCB CB PB' SB LB)
    | (with_reducible show wpList _ _ _ (⟨some 8, Op.alloc rvT, _, _, _, _⟩ :: _) _ _
       refine wpList_boxA_new rowRv rfl rfl wc.heap.size rfl ?_
       intro wd x l s
       have YD := Lib.hid x
       have RY := Lib.hid (RowsAt.below YC.out l)
       have XD := Lib.hid (XC.out.keep (l.block _ XC.out.lt))
       have OXD := Lib.hid ((OwnL.below OXC.out (Nat.le_refl _) l).raise l.size)
       have OCD := Lib.hid ((OwnL.below OCC.out (by have := HJXC.out; have := HJX.out; omega) l))
       have CD := Lib.hid (CC.out.keep (l.block _ CC.out.lt))
       have SD := Lib.hid (SC.out.keep (l.block _ SC.out.lt))
       have LD := Lib.hid (LC.out.trans (l.mono LC.out.size))
       have RYB := Lib.hid (regs_block YC.out)
       clear x l s YC XC OXC OCC CC SC LC
       generalize wc.heap.size = JY at *)
    | (with_reducible show wpList _ _ _ (⟨_, Op.store rvT (.tmp 8) _, _, _, _, none⟩ :: _) _ _
       refine wpList_boxA_put rowRv rfl _ _ rfl rfl JY (resvA qy my cy (doR r o).1) _ rfl (rvA_one _ _ _ _) rfl rfl rfl YD.out ?_
       intro we x k s
       have OXE := Lib.hid (keepR OXD.out k s (own_ne_box OXD.out YD.out))
       have OCE := Lib.hid (OwnL.same OCD.out (w' := we) (fun B hB hB2 => k.block B (by have := YD.out.lt; have := HJXC.out; have := HJX.out; omega) (by have := HJXC.out; have := HJX.out; omega)))
       have LE := Lib.hid (LD.out.trans (k.below LD.out.size (fun j hj e => by have := HJXC.out; have := HJX2.out; have := HJC.out; omega)))
       have DE := Lib.hid (show DoX w JC JX JY q n c r qc cc qx my cx qy cy (doR r o).1 we from ⟨SD.out.keep (k.block _ SD.out.lt (by have := HJXC.out; have := HJX2.out; have := HJC.out; omega)), CD.out.keep (k.block _ CD.out.lt (by have := HJXC.out; have := HJX2.out; omega)), XD.out.keep (k.block _ XD.out.lt (by have := HJXC.out; omega)), x, RowsAt.below HQ.out LE.out, (own_rows OCE.out).1, (own_rows OXE.out).1, rows_keep2 RY.out RYB.out k s, LE.out⟩)
       clear x k s YD RY XD OXD OCD CD SD LD RYB))
    have DOF := Lib.hid (do_few r o)
    have HML := Lib.hid (show my ≤ 1000 by rw [HM.out]; have := DOF.out; omega)
    generalize my = m at *
    refine wp_region_sched [(0, true), (1, true), (2, false), (3, true), (4, true), (5, true), (7, true), (6, false), (8, true), (9, true), (10, true), (11, true), (12, true), (13, false), (14, true), (15, true), (16, true), (17, true), (20, true), (18, false), (19, true), (21, false), (22, true), (23, true)] (DoX w JC JX JY q n c r qc cc qx m cx qy cy (doR r o).1) (by kernel_rfl) (by kernel_rfl) DE.out.drew ?_
    have D0 := Lib.hid DE.out.drew
    have O0 := Lib.hid (show OwnL rgT 2 regC we.drew w8.heap.size we.drew.heap.size (.slice qx m cx) (doR r o).1.regs from OwnL.same OXE.out (fun _ _ _ => rfl))
    refine walk_float rfl rfl (fun K hK => ?_)
    refine gives_boxA_load rowRv _ rfl JX (resvA qx m cx (doR r o).1) rfl rfl (fun V hV => hV.x) ?_
    go_simp
    refine hK _ ?_
    clear hK K
    refine walk_float rfl rfl (fun K hK => ?_)
    refine gives_boxA_load rowRv _ rfl JY (resvA qy m cy (doR r o).1) rfl rfl (fun V hV => hV.y) ?_
    go_simp
    refine hK _ ?_
    clear hK K
    refine walk_done rfl rfl (fun K hK => ?_)
    refine done_call2 _ _ _ _ rfl 12 rfl (.agg (resvA qx m cx (doR r o).1)) (.agg (resvA qy m cy (doR r o).1)) rfl rfl (enters_of Try.func12 (by kernel_rfl) rfl) ?_
    refine (refSame_eq D0.out.rxx D0.out.ry HM.out.symm HML.out).mono ?_
    rintro e z1 ⟨rfl, hb⟩
    have Dz1 := Lib.hid (D0.out.mono hb)
    have Oz1 := Lib.hid ((OwnL.below O0.out (Nat.le_refl _) hb).raise hb.size)
    clear hb
    refine ⟨_, rfl, Dz1.out, ?_⟩
    go_simp
    refine hK _ _ ?_
    clear hK K
    refine walk_float rfl rfl (fun K hK => ?_)
    refine gives_not2 _ _ rfl true false rfl rfl ?_
    go_simp
    refine hK _ ?_
    clear hK K
    refine walk_float rfl rfl (fun K hK => ?_)
    refine gives_move _ rfl ?_
    go_simp
    refine hK _ ?_
    clear hK K
    refine walk_float rfl rfl (fun K hK => ?_)
    refine gives_move _ rfl ?_
    go_simp
    refine hK _ ?_
    clear hK K
    refine walk_float rfl rfl (fun K hK => ?_)
    refine gives_move _ rfl ?_
    go_simp
    refine hK _ ?_
    clear hK K
    refine walk_done rfl rfl (fun K hK => ?_)
    refine done_call1' _ _ _ rfl 13 rfl (errN (doR r o).2) rfl (enters_of Try.func13 (by kernel_rfl) rfl) ?_
    refine (num_errN (doR r o).2 _).mono ?_
    rintro e z2 ⟨rfl, hb⟩
    subst hb
    have Dz2 := Lib.hid Dz1.out
    have Oz2 := Lib.hid Oz1.out
    refine ⟨_, rfl, Dz2.out, ?_⟩
    go_simp
    refine hK _ _ ?_
    clear hK K
    refine walk_float rfl rfl (fun K hK => ?_)
    refine gives_int_isnt _ _ rfl (doR r o).2 (doR r o).2 rfl rfl false (by simp) ?_
    go_simp
    refine hK _ ?_
    clear hK K
    refine walk_float rfl rfl (fun K hK => ?_)
    refine gives_pickF _ _ _ rfl rfl (.bool false) rfl ?_
    go_simp
    refine hK _ ?_
    clear hK K
    refine walk_float rfl rfl (fun K hK => ?_)
    refine gives_move _ rfl ?_
    go_simp
    refine hK _ ?_
    clear hK K
    refine walk_float rfl rfl (fun K hK => ?_)
    refine gives_boxA_load rowRv _ rfl JC (resvA qc n cc r) rfl rfl (fun V hV => hV.c) ?_
    go_simp
    refine hK _ ?_
    clear hK K
    refine walk_float rfl rfl (fun K hK => ?_)
    refine gives_boxA_load rowRv _ rfl w.heap.size (resvA q n c r) rfl rfl (fun V hV => hV.s) ?_
    go_simp
    refine hK _ ?_
    clear hK K
    refine walk_done rfl rfl (fun K hK => ?_)
    refine done_call2 _ _ _ _ rfl 12 rfl (.agg (resvA qc n cc r)) (.agg (resvA q n c r)) rfl rfl (enters_of Try.func12 (by kernel_rfl) rfl) ?_
    refine (refSame_eq Dz2.out.rc Dz2.out.rs HN.out HNL.out).mono ?_
    rintro e z3 ⟨rfl, hb⟩
    have Dz3 := Lib.hid (Dz2.out.mono hb)
    have Oz3 := Lib.hid ((OwnL.below Oz2.out (Nat.le_refl _) hb).raise hb.size)
    clear hb
    refine ⟨_, rfl, Dz3.out, ?_⟩
    go_simp
    refine hK _ _ ?_
    clear hK K
    refine walk_float rfl rfl (fun K hK => ?_)
    refine gives_not2 _ _ rfl true false rfl rfl ?_
    go_simp
    refine hK _ ?_
    clear hK K
    refine walk_float rfl rfl (fun K hK => ?_)
    refine gives_pickF _ _ _ rfl rfl (.bool false) rfl ?_
    go_simp
    refine hK _ ?_
    clear hK K
    refine walk_float rfl rfl (fun K hK => ?_)
    refine gives_move _ rfl ?_
    go_simp
    refine hK _ ?_
    clear hK K
    refine walk_float rfl rfl (fun K hK => ?_)
    refine gives_boxA_load rowRv _ rfl JC (resvA qc n cc r) rfl rfl (fun V hV => hV.c) ?_
    go_simp
    refine hK _ ?_
    clear hK K
    refine walk_float rfl rfl (fun K hK => ?_)
    refine gives_boxA_load rowRv _ rfl w.heap.size (resvA q n c r) rfl rfl (fun V hV => hV.s) ?_
    go_simp
    refine hK _ ?_
    clear hK K
    refine walk_done rfl rfl (fun K hK => ?_)
    refine done_call1' _ _ _ rfl 14 rfl (.agg (resvA qc n cc r)) rfl (enters_of Try.func14 (by kernel_rfl) rfl) ?_
    refine (HCK.out _ _ _ Dz3.out.rc HCC.out.1 HCC.out.2).mono ?_
    rintro e z4 ⟨rfl, hb⟩
    have Dz4 := Lib.hid (Dz3.out.mono hb)
    have Oz4 := Lib.hid ((OwnL.below Oz3.out (Nat.le_refl _) hb).raise hb.size)
    clear hb
    refine ⟨_, rfl, Dz4.out, ?_⟩
    go_simp
    refine hK _ _ ?_
    clear hK K
    refine walk_float rfl rfl (fun K hK => ?_)
    refine gives_err_nil _ rfl (goodR r) 2 rfl ?_
    go_simp
    refine hK _ ?_
    clear hK K
    refine walk_done rfl rfl (fun K hK => ?_)
    refine done_call1' _ _ _ rfl 15 rfl (.agg (resvA q n c r)) rfl (enters_of Try.func15 (by kernel_rfl) rfl) ?_
    refine (refGood_any (c := c) Dz4.out.rs HN.out HNL.out).mono ?_
    rintro e z5 ⟨rfl, hb⟩
    have Dz5 := Lib.hid (Dz4.out.mono hb)
    have Oz5 := Lib.hid ((OwnL.below Oz4.out (Nat.le_refl _) hb).raise hb.size)
    clear hb
    refine ⟨_, rfl, Dz5.out, ?_⟩
    go_simp
    refine hK _ _ ?_
    clear hK K
    refine walk_float rfl rfl (fun K hK => ?_)
    refine gives_bool_sameN _ _ rfl (goodR r) rfl rfl ?_
    go_simp
    refine hK _ ?_
    clear hK K
    refine walk_float rfl rfl (fun K hK => ?_)
    refine gives_pickF _ _ _ rfl rfl (.bool false) rfl ?_
    go_simp
    refine hK _ ?_
    clear hK K
    refine walk_nil ?_
    generalize (if goodR r = true then Value.nilIface else Value.iface 45 (.int .i64 2)) = vE
    have HQC := Lib.hid (fun k (hk : AtB qc k) => (own_at OCE.out k hk).2)
    have HQS := Lib.hid (show r.regs = [] ∨ ∃ b, (∀ k, AtB q k ↔ k = b) ∧ b < w8.heap.size from by
      rcases regs_block HQ.out with h | ⟨b, h1, h2⟩
      · exact .inl h
      · exact .inr ⟨b, h1, Nat.lt_of_lt_of_le h2 B8.out⟩)
    clear D0 Dz1 Dz2 Dz3 Dz4 DE O0 Oz1 Oz2 Oz3 Oz4 OXE OCE LE HRV HCK HK
    obtain ⟨c0, c1, c2, c3, c4⟩ := boxRv Dz5.out.x
    generalize (doR r o).1 = rx at *
    rcases own_cases Oz5.out with ⟨rfl, rfl, rfl, -⟩ | ⟨B, rfl, hm9, hx2, hp5⟩
    · clear Oz5
      go_wp2
      go_loopw [62, 10] (fun v62 _ wr => v62 = .int .i64 0 ∧ wr = z5) (fun _ _ _ => 0)
      case atStart => exact ⟨rfl, rfl⟩
      case round =>
        obtain ⟨rfl, rfl⟩ := hrel
        go_wp2_with (first
        | (with_reducible show wpList _ _ _ (⟨_, Op.load rvT (.tmp 5), _, _, _, none⟩ :: _) _ _
           refine wpList_boxA_load rowRv rfl _ rfl JC (resvA qc n cc r) rfl rfl Dz5.out.c ?_)
        | (with_reducible show wpList _ _ _ (⟨_, Op.load rvT (.tmp 2), _, _, _, none⟩ :: _) _ _
           refine wpList_boxA_load rowRv rfl _ rfl w.heap.size (resvA q n c r) rfl rfl Dz5.out.s ?_)
        | (go_at_call 12
           refine (refSame_eq Dz5.out.rc Dz5.out.rs HN.out HNL.out).mono ?_; rintro e wf ⟨rfl, hb⟩
           have LF := Lib.hid (Dz5.out.low.trans (hb.mono Dz5.out.low.size))
           clear hb))
        go_ret
        exact ⟨rfl, LF.out⟩
    · have P5 := Lib.hid hp5
      have HB2 := Lib.hid hx2
      have HM9 := Lib.hid hm9
      clear hx2 hm9 hp5 Oz5
      go_wp2
      clear c0 c1 c2 c3 c4
      go_loopw [62, 10] (fun v62 _ wr => ∃ i : Nat, i ≤ m ∧ v62 = .int .i64 i ∧ (∃ L, L.length = m ∧ PB wr B cx L) ∧ Keeps (fun j => j = B) z5 wr ∧ wr.heap.size = z5.heap.size) (fun v62 _ _ => m - (intOf v62).toNat)
      case atStart => exact ⟨0, Nat.zero_le _, rfl, ⟨_, HM9.out.symm, P5.out⟩, Keeps.refl _ _, rfl⟩
      case round =>
        obtain ⟨i, hi, rfl, ⟨L, hL, hp⟩, hk, hs⟩ := hrel
        have HL := Lib.hid hL
        have HP := Lib.hid hp
        have HKE := Lib.hid hk
        have HSZ := Lib.hid hs
        clear hL hp hk hs
        by_cases hlt : i < m
        · have HLT := Lib.hid hlt
          have f3 : (i : Int) < (m : Int) := by omega
          have f4 : IntKind.i64.wrap ((i : Int) + 1) = ((i + 1 : Nat) : Int) := by have := HML.out; rw [IntWalk.i64_in _ (by omega)]; omega
          have c0 := (boxRv (Dz5.out.x.keep (HKE.out.block _ Dz5.out.x.lt (pb_ne P5.out Dz5.out.x)))).1
          clear hlt hi
          go_wp2_with (first
            | (with_reducible show wpList _ _ _ (⟨_, Op.build _ _, _, _, _, none⟩ :: _) _ _
               refine wpList_build_any rfl rgT #[] #[] _ rfl rfl (fun w => run_build w rgT #[] _ reg_built0) ?_)
            | (with_reducible show wpList _ _ _ (⟨_, Op.indexAddr _ _ _, _, _, _, none⟩ :: _) _ _
               refine wpList_reg_elem rfl _ _ rfl B 0 m cx i rfl rfl HLT.out ?_)
            | (with_reducible show wpList _ _ _ (⟨_, Op.store rgT _ _, _, _, _, none⟩ :: _) _ _
               refine wpList_reg_put rfl _ _ rfl rfl B cx i L 0 0 (0 + 2 * i) (by omega) rfl rfl HP.out (by rw [HL.out]; exact HLT.out) ?_
               intro wg x k s
               have HP2 := Lib.hid x
               have HK2 := Lib.hid (HKE.out.trans k)
               have HS2 := Lib.hid (s.trans HSZ.out)
               clear x k s HP HKE HSZ c0))
          go_roundw
          case rel => exact ⟨i + 1, HLT.out, by go_num, ⟨_, by rw [List.length_set]; exact HL.out, HP2.out⟩, HK2.out, HS2.out⟩
          case measure => have := HLT.out; simp [intOf]; omega
        · have f3 : ¬ (i : Int) < (m : Int) := by omega
          obtain rfl : i = m := by omega
          have SF := Lib.hid (Dz5.out.s.keep (HKE.out.block _ Dz5.out.s.lt (pb_ne P5.out Dz5.out.s)))
          have CF := Lib.hid (Dz5.out.c.keep (HKE.out.block _ Dz5.out.c.lt (pb_ne P5.out Dz5.out.c)))
          have RCF := Lib.hid (rows_keep Dz5.out.rc HKE.out HSZ.out (fun b hb _ => by have := HQC.out b hb; have := HB2.out; omega))
          have RSF := Lib.hid (rows_keep2 Dz5.out.rs (by
            rcases HQS.out with h | ⟨b, h1, h2⟩
            · exact .inl h
            · exact .inr ⟨b, h1, Nat.lt_of_lt_of_le h2 HB2.out⟩) HKE.out HSZ.out)
          have LWF := Lib.hid (Dz5.out.low.trans (HKE.out.below Dz5.out.low.size (fun j hj e => by have := HB2.out; have := B8.out; omega)))
          clear hlt hi
          go_wp2_with (first
            | (with_reducible show wpList _ _ _ (⟨_, Op.load rvT (.tmp 5), _, _, _, none⟩ :: _) _ _
               refine wpList_boxA_load rowRv rfl _ rfl JC (resvA qc n cc r) rfl rfl CF.out ?_)
            | (with_reducible show wpList _ _ _ (⟨_, Op.load rvT (.tmp 2), _, _, _, none⟩ :: _) _ _
               refine wpList_boxA_load rowRv rfl _ rfl w.heap.size (resvA q n c r) rfl rfl SF.out ?_)
            | (go_at_call 12
               refine (refSame_eq RCF.out RSF.out HN.out HNL.out).mono ?_; rintro e wf ⟨rfl, hb⟩
               have LF := Lib.hid (LWF.out.trans (hb.mono LWF.out.size))
               clear hb))
          go_ret
          exact ⟨rfl, LF.out⟩
theorem laidOut : laidOutB Try.prog = true := by kernel_rfl
set_option maxRecDepth 100000 in
theorem lifted (os : Os) (started : os.Started) (H : Type) (enc : TypeId × Value → H) :
    ReturnsInHanded {} Try.checked os 3 .any (Rows.resvDoesSpec.pre6 enc Try.prog Try.f3 Rows.resvDoesRow.domain false) (Rows.resvDoesSpec.post enc Try.prog Try.f3 false true false false) := by
  refine returnsInHanded_of_change (C := Try.checked) own started (by kernel_rfl) Try.func3
    (ChangeSpec.witness6 (enc := enc) (C := Try.checked) false ⟨#[], #[.agg #[.slice none 0 0, .int .i64 0, .int .i64 0, .bool false, .int .i64 0], .agg #[.int .i64 0, .int .i64 0, .int .i64 0, .int .i64 0, .int .i64 0, .bool false]], []⟩ 8 (by kernel_rfl) (by kernel_rfl) (by kernel_rfl) (by kernel_rfl)) ?_
  intro W base args ds gs before hval0 hW hcnd _
  have hval : ∀ (j : Nat) t v, Try.f3.params[j]? = some t → args[j]? = some v → Value.okWide Try.prog W .any base t v := hval0
  have hW' := hW
  obtain ⟨p, q, hA0, hV, rfl, hfz, hnd⟩ := hW
  have hA : DataW.TrodAll enc Try.prog W 0 (fun _ => true) true Try.f3.params.toList args.toList ds p := hA0
  rw [Try.params3] at hA hval
  obtain ⟨v0, vs0, d0, ds0, p0, q0, hargs, rfl, rfl, h0, r0⟩ := trodAll_cons hA
  obtain ⟨v1, vs1, d1, ds1, p1, q1, rfl, rfl, rfl, h1, r1⟩ := trodAll_cons r0
  obtain ⟨rfl, rfl, rfl⟩ := trodAll_nil r1
  obtain rfl : args = #[v0, v1] := by cases args; simp_all
  obtain ⟨rfl, rfl⟩ := trodVars_none hV
  have k0 := h0
  have lt0 : ∀ x ∈ p0, x.block < W.heap.size := by obtain ⟨m, hm⟩ := k0; exact DataW.trod_lt m _ _ _ hm
  obtain ⟨q0, c0, z0, rfl, w0, y0, b0, m0⟩ := open_resv (hval 0 24 v0 rfl rfl) h0
  have k1 := h1
  have lt1 : ∀ x ∈ p1, x.block < W.heap.size := by obtain ⟨m, hm⟩ := k1; exact DataW.trod_lt m _ _ _ hm
  obtain ⟨o1, rfl, w1⟩ := open_rop (hval 1 26 v1 rfl rfl) h1
  clear hA0 hval0
  refine (walk resvSpec q0 c0 z0 w0 y0 b0 m0 o1 w1).mono fun e W' ⟨he, bel⟩ => ?_
  subst he
  exact ⟨_, rfl, _, _, _, [], _, [], hW', trodAll_mk1 (shut_bool Try.underlying4 _), (trodAll_cons_mk (Below.trod laidOut (by kernel_rfl) (of_decide_eq_true (by kernel_rfl)) k0 bel lt0) (trodAll_cons_mk (Below.trod laidOut (by kernel_rfl) (of_decide_eq_true (by kernel_rfl)) k1 bel lt1) trodAll_mk0)), rfl, bel.frame _, fun h => by cases h⟩

theorem over : Rows.resvDoesRow.holds Try.pinned (OpenSpec.ofChange Rows.resvDoesSpec) :=
  OpenClaim.holds_of_wide 3 Try.f3 rfl rfl rfl rfl rfl rfl rfl ⟨rfl, rfl, rfl, rfl, rfl⟩ rfl rfl rfl rfl rfl (by kernel_rfl) Try.func3 (by kernel_rfl)
    (of_decide_eq_true (by kernel_rfl)) (by unfold Func.isWrapper; first | (rw [if_pos (by decide +kernel)]; kernel_rfl) | (rw [if_neg (by decide +kernel)]; exact ⟨rfl, rfl⟩))
    (fun os started H enc _ => lifted os started H enc)

theorem proved : Rows.ResvDoesSaid := over
end resvDoes
end Go.Proofs.Ytfnkdmdcjliebaa
