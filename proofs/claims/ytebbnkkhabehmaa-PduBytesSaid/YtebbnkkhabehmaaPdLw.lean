/- What the laws of frames share: the example, strings and errors in drawn regions, frames laid into boxes, the document's Same. Conditions: as each says. -/
import Derived.Test.YtebbnkkhabehmaaPdRefD
namespace Go.Proofs.Ytebbnkkhabehmaa
open Go.ChangeShapes Go.WideShapes Go.ChangeAt Go.RowKit
set_option linter.unusedVariables false
set_option linter.unusedSimpArgs false
theorem run_str (p : Option Addr) (n cap : Nat) (g : Nat → Nat) (w : World) (hp : BytesAt w p n g) : (convert 22 9 (.slice p n cap)).run Try.prog w = .ok (.string (strOfNums (mk n g))) w := by
  by_cases h0 : n = 0
  · subst h0
    rw [run_convert_bytes_string w _ _ 5 p 0 cap bytesUnder byteUnder1 stringUnder1]
    cases p with
    | none => rfl
    | some ad =>
      rw [run_bytesToString w ad 0 cap [] (by simpa using run_loadCells_list (P := Try.prog) w ad [] (fun j v hj => by simp at hj))]
      rfl
  · rcases hp with hp | ⟨B, off, rfl, hB, hc⟩
    · exact absurd hp h0
    · exact run_convert_bytes_arg w _ 5 bytesUnder byteUnder1 B off n cap (mk n g) (mk_len n g) (fun i hi => by rw [mk_get hi]; exact hc i hi) _ stringUnder1
section
variable {o : Oper} {a : Act} {C : World → Prop} {K : Act → Prop}
theorem gives_string (x : Operand) (ho : o.op = .convert 22 9 x) (p : Option Addr) (n cap : Nat) (hx : a.eval x = .slice p n cap) (g : Nat → Nat) (hp : ∀ W, C W → BytesAt W p n g) (hk : K (a.put o.dst (.string (strOfNums (mk n g))))) : ∃ v, Gives Try.prog C o a v ∧ K (a.put o.dst v) :=
  ⟨_, fun w hw => by
    have hr := run_str p n cap g w (hp w hw)
    unfold execOp
    simp only [ho, hx]
    simp [hr], hk⟩
theorem gives_str_same (x y : Operand) (ho : o.op = .binOp .neq 9 x y 9) (s : ByteArray) (hx : a.eval x = .string s) (hy : a.eval y = .string s) (hk : K (a.put o.dst (.bool false))) : ∃ v, Gives Try.prog C o a v ∧ K (a.put o.dst v) :=
  ⟨_, fun w _ => by
    unfold execOp
    simp only [ho, hx, hy]
    simp [go_sem], hk⟩
theorem gives_nil_neq (x : Operand) (ho : o.op = .binOp .neq 26 x (.const .nilIface) 26) (hx : a.eval x = .nilIface) (hk : K (a.put o.dst (.bool false))) : ∃ v, Gives Try.prog C o a v ∧ K (a.put o.dst v) :=
  ⟨_, fun w _ => by
    unfold execOp
    simp only [ho, hx]
    simp [go_sem, Act.eval], hk⟩
theorem gives_nil_eql (x : Operand) (ho : o.op = .binOp .eql 26 x (.const .nilIface) 26) (hx : a.eval x = .nilIface) (hk : K (a.put o.dst (.bool true))) : ∃ v, Gives Try.prog C o a v ∧ K (a.put o.dst v) :=
  ⟨.bool true, fun w _ => by
    unfold execOp
    simp only [ho, hx]
    simp [go_sem, eqGuard], hk⟩
theorem gives_frfield (x : Operand) (k : Nat) (ho : o.op = .fieldAddr 24 x k) (hk5 : k < 4) (B : Nat) (hx : a.eval x = .pointer (some ⟨B, 0, none⟩)) (hk : K (a.put o.dst (.pointer (some ⟨B, k, none⟩)))) : ∃ v, Gives Try.prog C o a v ∧ K (a.put o.dst v) :=
  ⟨_, fun w _ => by
    unfold execOp
    simp only [ho, hx]
    rcases k with _ | _ | _ | _ | k
    all_goals first | (exfalso; omega) | simp [go_sem], hk⟩
end
section
variable {ops : Array Oper} {rest : List Oper} {o : Oper} {a : Act} {w : World} {Q : Exit → Act → World → Prop}
theorem wpList_boxA_bytes (hgd : o.guard = none) (x y : Operand) (ho : o.op = .store 22 x y) (hd : o.dst = none) (O : Nat) {T : TypeId} (A : Array Value) (k : Nat) (p : Option Addr) (m e : Nat) (hx : a.eval x = .pointer (some ⟨O, k, none⟩)) (hy : a.eval y = .slice p m e) (hO : BoxA w O T A) (hk : k < A.size)
    (h : ∀ w', BoxA w' O T (A.setIfInBounds k (.slice p m e)) → Keeps (fun j => j = O) w w' → w'.heap.size = w.heap.size → wpList Try.prog ops Q rest a w') : wpList Try.prog ops Q (o :: rest) a w := by
  have hc : w.cell? ⟨O, k, none⟩ = some A[k] := (hO.cell k).trans (Array.getElem?_eq_getElem hk)
  have hf := hO.free k
  have hh := h _ (hO.set k (.slice p m e)) ((Keeps.refl (fun j => j = O) w).setCell rfl k (.slice p m e)) (by simp [World.setCell])
  refine wpList_plain hgd fun K hK => ?_
  unfold Oper.wp execOp
  simp only [ho, hx, hy]
  simp [go_sem, hc, hf]
  have := hK a (w.setCell ⟨O, k, none⟩ (.slice p m e)) hh
  first | exact this | (rw [hd]; exact this) | (simp [hd]; exact this)
theorem done_call0 {w : World} {K : Value → World → Prop} (x : Operand) (ts : Array TypeId) (ho : o.op = .call { callee := .value x, args := #[], argTypes := ts }) (g : FuncId) (hx : a.eval x = .func (.func g) #[] #[]) (hf : ∀ (args : Array Value) (w : World), (callFunc g args).run Try.prog w = .ok (.enter g args) w)
    (hc : Calls Try.prog g #[] w fun e w' => ∃ v, e = .returned v ∧ K v w') : doneAt Try.prog o a w K :=
  done_call x #[] ts ho g #[] hx (by simp) (hf _ w) hc
end
theorem frA_set (k n c : Int) (p q : Option Addr) (d cd e ce : Nat) : (frA k n c p d cd).setIfInBounds 3 (.slice q e ce) = frA k n c q e ce := rfl
/-- The example. -/
def tenS : ByteArray := ⟨#[7, 0, 0, 0, 0, 10, 0, 0]⟩
theorem ten_any (w : World) : Calls Try.prog 9 #[] w fun e w' => e = .returned (.string tenS) ∧ Below w.heap.size w w' := by
  go_enter Try.func9, Try.ntmps9
  go_wp2
  go_ret
  exact ⟨rfl, Below.refl _ _⟩
theorem num4_0 (j : Nat) : numF 4 0 j = 0 := by unfold numF dig; simp
theorem num2_z (j : Nat) : numF 2 ((0 : Nat) : Int) j = 0 := by unfold numF dig; simp
theorem ten_list (g : Nat → Nat) : mk 8 (frT 7 0 10 0 g) = [7, 0, 0, 0, 0, 10, 0, 0] := by
  unfold mk frT
  simp [List.range_succ, num4_0]
  refine ⟨?_, ?_⟩ <;> exact_mod_cast num2_z _
theorem ten_str (g : Nat → Nat) : strOfNums (mk 8 (frT 7 0 10 0 g)) = tenS := by rw [ten_list]; rfl
theorem ten_in : inF 7 0 10 0 := by decide
theorem fr_built02 : Try.prog.built 24 [(0, .int .i64 7), (2, .int .i64 10)] = some (frA 7 0 10 none 0 0) := by kernel_rfl
theorem wpList_fr02 {ops : Array Oper} {rest : List Oper} {o : Oper} {a : Act} {w : World} {Q : Exit → Act → World → Prop} (hgd : o.guard = none) (ho : o.op = .build 24 #[(0, .const (.int .i64 7)), (2, .const (.int .i64 10))])
    (h : wpList Try.prog ops Q rest (a.put o.dst (.agg (frA 7 0 10 none 0 0))) w) : wpList Try.prog ops Q (o :: rest) a w :=
  wpList_build_any hgd 24 _ #[(0, .int .i64 7), (2, .int .i64 10)] _ ho (by simp [Act.eval]) (fun w => run_build w 24 #[(0, .int .i64 7), (2, .int .i64 10)] _ fr_built02) h
attribute [local irreducible] mk zeroK
attribute [local go_sem] Oper.semAt_some
set_option maxRecDepth 100000 in
set_option maxHeartbeats 4000000 in
theorem refSame_yes {w : World} (k n c : Int) {p q : Option Addr} {d cp cq : Nat} {g g' : Nat → Nat} (he : ∀ j, j < d → g j = g' j) (hp : BytesAt w p d g) (hq : BytesAt w q d g') :
    Calls Try.prog 18 #[.agg (frA k n c p d cp), .agg (frA k n c q d cq)] w fun e w' => e = .returned (.bool true) ∧ Below w.heap.size w w' := by
  have HP := Lib.hid (fun (W : World) (hb : Below w.heap.size w W) => hp.below hb)
  have HQ := Lib.hid (fun (W : World) (hb : Below w.heap.size w W) => bytes_congr (fun j hj => (he j hj).symm) (hq.below hb))
  clear hp hq he
  go_enter Try.func18, Try.ntmps18
  go_wp2_with (first
  | (with_reducible show wpList _ _ _ (⟨some 2, Op.box 24 _, _, _, _, none⟩ :: _) _ _
     refine wpList_boxA_of rfl _ rfl (frA k n c p d cp) rfl ?_
     intro w1 x1 l1 s1
     have P1 := Lib.hid (show LwB w [bxO w.heap.size 24 (frA k n c p d cp)] w1 from (LwB.none w).add l1 x1 (Nat.le_refl _))
     clear x1 l1 s1)
  | (with_reducible show wpList _ _ _ (⟨some 3, Op.box 24 _, _, _, _, none⟩ :: _) _ _
     refine wpList_boxA_of rfl _ rfl (frA k n c q d cq) rfl ?_
     intro w2 x2 l2 s2
     have P2 := Lib.hid (show LwB w [bxO w1.heap.size 24 (frA k n c q d cq), bxO w.heap.size 24 (frA k n c p d cp)] w2 from P1.out.add l2 x2 (Nat.le_refl _))
     obtain ⟨d0, d1, d2, d3⟩ := boxFr (P2.out.bx (i := 1) rfl)
     obtain ⟨e0, e1, e2, e3⟩ := boxFr (P2.out.bx (i := 0) rfl)
     clear x2 l2 s2 P1)
  | (with_reducible show wpList _ _ _ (⟨some 27, Op.convert _ _ _, _, _, _, _⟩ :: _) _ _
     refine wpList_string_w rfl _ rfl p d cp rfl g (HP.out _ P2.out.low) ?_)
  | (with_reducible show wpList _ _ _ (⟨some 30, Op.convert _ _ _, _, _, _, _⟩ :: _) _ _
     refine wpList_string_w rfl _ rfl q d cq rfl g (HQ.out _ P2.out.low) ?_))
  go_ret
  exact ⟨rfl, P2.out.low⟩
end Go.Proofs.Ytebbnkkhabehmaa
