/- What ChapRights and ChapBound share: laws of drawn regions over the struct Asked, Same as a decision. Conditions: as each says. -/
import Derived.Test.YtccpecajbfpjdaaDoorChLaw
namespace Go.Proofs.YtccpecajbfpjdaaDoor
open Go.ChangeShapes Go.WideShapes Go.ChangeAt Go.RowKit Go.Shelf
set_option linter.unusedVariables false
set_option linter.unusedSimpArgs false
theorem Same_dec (p : Option Addr) (n cap : Nat) (q : Option Addr) (m c : Nat) (g g' : Nat → Nat) (hg : ∀ j, j < n → g j < 256) (hg' : ∀ j, j < m → g' j < 256) (w : World) (hp : BytesAt w p n g) (hq : BytesAt w q m g') :
    Calls Tryd.prog 14 #[.slice p n cap, .slice q m c] w fun e w' => e = .returned (.bool (decide (mk n g = mk m g'))) ∧ w = w' := by
  by_cases h : mk n g = mk m g'
  · rw [decide_eq_true h]
    obtain rfl : n = m := by have := congrArg List.length h; rwa [mk_len, mk_len] at this
    refine Same_true p n cap q c g g' (fun j hj => ?_) w hp hq
    have := congrArg (fun l => l.getD j 0) h
    simp only [mk_get hj] at this
    omega
  · rw [decide_eq_false h]
    exact Same_not p n cap q m c g g' hg hg' h w hp hq
section
variable {o : Oper} {a : Act} {C : World → Prop} {K : Act → Prop}
theorem gives_askfield (x : Operand) (k : Nat) (ho : o.op = .fieldAddr 30 x k) (hk5 : k < 6) (B : Nat) (hx : a.eval x = .pointer (some ⟨B, 0, none⟩)) (hk : K (a.put o.dst (.pointer (some ⟨B, k, none⟩)))) : ∃ v, Gives Tryd.prog C o a v ∧ K (a.put o.dst v) :=
  ⟨_, fun w _ => by
    unfold execOp
    simp only [ho, hx]
    rcases k with _ | _ | _ | _ | _ | _ | k
    all_goals first | (exfalso; omega) | simp [go_sem], hk⟩
theorem gives_uptoSum (x : Operand) (ho : o.op = .slice 25 x none (some (.const (.int .i64 31))) none) (B : Nat) (hx : a.eval x = .pointer (some ⟨B, 0, none⟩)) (hk : K (a.put o.dst (.slice (some ⟨B, 0, none⟩) 31 32))) : ∃ v, Gives Tryd.prog C o a v ∧ K (a.put o.dst v) :=
  ⟨.slice (some ⟨B, 0, none⟩) 31 32, fun w _ => by
    have hs := byteElem.run_size (P := Tryd.prog) w
    unfold execOp
    simp only [ho, hx]
    simp [go_sem, hs, Act.eval], hk⟩
theorem gives_beql (x y : Operand) (ho : o.op = .binOp .eql 4 x y 4) (b c r : Bool) (hx : a.eval x = .bool b) (hy : a.eval y = .bool c) (h : (b == c) = r) (hk : K (a.put o.dst (.bool r))) : ∃ v, Gives Tryd.prog C o a v ∧ K (a.put o.dst v) :=
  ⟨_, fun w _ => by unfold execOp; simp only [ho, hx, hy]; simp [go_sem, h], hk⟩
end
theorem done_call4c {o : Oper} {a : Act} {w : World} {K : Value → World → Prop} (x y z u t : Operand) (ts : Array TypeId) (ho : o.op = .call { callee := .value x, args := #[y, z, u, t], argTypes := ts }) (g : FuncId) (hx : a.eval x = .func (.func g) #[] #[])
    (hf : ∀ (args : Array Value) (w : World), (callFunc g args).run Tryd.prog w = .ok (.enter g args) w) (v1 v2 v3 v4 : Value) (h1 : a.eval y = v1) (h2 : a.eval z = v2) (h3 : a.eval u = v3) (h4 : a.eval t = v4) (R : Ending → World → Prop) (hc : Calls Tryd.prog g #[v1, v2, v3, v4] w R) (hk : ∀ e w', R e w' → ∃ u, e = .returned u ∧ K u w') : doneAt Tryd.prog o a w K :=
  done_call x #[y, z, u, t] ts ho g #[v1, v2, v3, v4] hx (by simp only [List.map_toArray, List.map_cons, List.map_nil, h1, h2, h3, h4]) (hf _ w) (hc.mono hk)
theorem wpList_bit {ops : Array Oper} {rest : List Oper} {o : Oper} {a : Act} {w : World} {Q : Exit → Act → World → Prop} (hgd : o.guard = none) (y : Operand) (ho : o.op = .binOp .shl 5 (.const (.int .u8 1)) y 32) (e P : Nat) (he : e < 8) (hP : 2 ^ e = P) (hy : a.eval y = .int .u64 (e : Nat))
    (h : wpList Tryd.prog ops Q rest (a.put o.dst (.int .u8 (P : Nat))) w) : wpList Tryd.prog ops Q (o :: rest) a w :=
  wpList_plain hgd fun K hK => by
    subst hP
    have h' := hK _ _ h
    have e0 : a.eval (.const (.int .u8 1)) = .int .u8 1 := rfl
    unfold Oper.wp execOp
    simp only [ho, hy, e0]
    rcases (show e = 0 ∨ e = 1 ∨ e = 2 ∨ e = 3 ∨ e = 4 ∨ e = 5 ∨ e = 6 ∨ e = 7 by omega) with rfl | rfl | rfl | rfl | rfl | rfl | rfl | rfl <;> simp [go_sem] <;> exact h'
/-- A digest with one bit changed. -/
def bitD (A : Nat → Nat) (d e : Nat) : Nat → Nat := fun j => if j = d then A j ^^^ 2 ^ e else A j
theorem bitD_lt {A : Nat → Nat} (hA : ∀ j, A j < 256) {d e : Nat} (he : e < 8) (j : Nat) : bitD A d e j < 256 := by
  unfold bitD
  split
  · have h2 : 2 ^ e < 256 := by
      rcases (show e = 0 ∨ e = 1 ∨ e = 2 ∨ e = 3 ∨ e = 4 ∨ e = 5 ∨ e = 6 ∨ e = 7 by omega) with rfl | rfl | rfl | rfl | rfl | rfl | rfl | rfl <;> decide
    exact xor_lt (hA j) h2
  · exact hA j
theorem bitD_ne {A : Nat → Nat} {d e : Nat} (hd : d < 32) : mk 32 A ≠ mk 32 (bitD A d e) := fun h => by
  have := congrArg (fun l => l.getD d 0) h
  simp only [mk_get hd] at this
  have h1 : A d = bitD A d e d := by omega
  unfold bitD at h1
  rw [if_pos rfl] at h1
  have h2 : A d ^^^ (A d ^^^ 2 ^ e) = 0 := by rw [← h1]; exact Nat.xor_self _
  rw [← Nat.xor_assoc, Nat.xor_self, Nat.zero_xor] at h2
  exact absurd h2 (Nat.ne_of_gt (Nat.two_pow_pos e))
theorem bitD_set (A : Nat → Nat) (d e : Nat) {v : Int} (hv : v = ((A d ^^^ 2 ^ e : Nat) : Int)) : (mk 32 A).set d v = mk 32 (bitD A d e) :=
  mk_set_is hv fun j hj => by
    unfold bitD
    by_cases h : j = d
    · subst h; simp
    · simp [h]
theorem ansD_same {z z' : Int} {n1 n2 : Nat} {g1 g2 g1' g2' : Nat → Nat} (hz : IntKind.u8.wrap z = IntKind.u8.wrap z') (h1 : mk n1 g1 = mk n1 g1') (h2 : mk n2 g2 = mk n2 g2') : ansD z n1 g1 n2 g2 = ansD z' n1 g1' n2 g2' := by
  have e1 : ∀ j, j < n1 → g1 j = g1' j := fun j hj => by
    have := congrArg (fun l => l.getD j 0) h1
    simp only [mk_get hj] at this
    omega
  have e2 : ∀ j, j < n2 → g2 j = g2' j := fun j hj => by
    have := congrArg (fun l => l.getD j 0) h2
    simp only [mk_get hj] at this
    omega
  unfold ansD
  refine digF_congr fun j hj => ?_
  unfold ansT
  by_cases h0 : j = 0
  · rw [if_pos h0, if_pos h0, hz]
  · rw [if_neg h0, if_neg h0]
    by_cases h3 : j < 1 + n1
    · rw [if_pos h3, if_pos h3]; exact e1 _ (by omega)
    · rw [if_neg h3, if_neg h3]; exact e2 _ (by omega)
end Go.Proofs.YtccpecajbfpjdaaDoor
