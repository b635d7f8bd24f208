/- Regions whose order Go leaves open: places of arrays, cells, words, whole arrays as slices; bytes copied into an array. Condition: what the class keeps. -/
import Derived.Test.YtfjbehobpkmjbaaDoorQuietG
import Derived.Test.YtfjbehobpkmjbaaDoorRowsS
import Derived.Test.YtfjbehobpkmjbaaDoorMake
namespace Go.Proofs.YtfjbehobpkmjbaaDoor
open Go.ChangeShapes Go.WideShapes Go.ChangeAt Go.RowKit

section
variable {o : Oper} {a : Act} {C : World → Prop} {K : Act → Prop}
theorem quiet_at {e : TypeId} {kd : IntKind} (t : TypeId) (n : Nat) (x y : Operand) (ho : o.op = .indexAddr t x y) (ht : Tryd.prog.underlying t = some (.array n e)) (he : IntElem Tryd.prog e kd) (B k : Nat) (z : Int) (hx : a.eval x = .pointer (some ⟨B, 0, none⟩)) (hy : a.eval y = .int .i64 z) (hz : z = k) (hk4 : k < n)
    (hk : K (a.put o.dst (.pointer (some ⟨B, k, none⟩)))) : o.quiet Tryd.prog a C K := by
  subst hz
  refine quiet_value _ (fun w _ => ?_) hk
  have h0 : (k : Int) < n := by omega
  have hs := he.run_size (P := Tryd.prog) w
  unfold execOp
  simp only [ho, hx, hy]
  simp [go_sem, ht, h0, hs]
theorem quiet_u32 (x : Operand) (ho : o.op = .load 56 x) (B k : Nat) (v : Value) (hx : a.eval x = .pointer (some ⟨B, k, none⟩)) (hB : ∀ w, C w → w.cell? ⟨B, k, none⟩ = some v) (hk : K (a.put o.dst v)) : o.quiet Tryd.prog a C K := by
  refine quiet_value _ (fun w hw => ?_) hk
  have hc := hB w hw
  unfold execOp
  simp only [ho, hx]
  simp [go_sem, hc]
theorem quiet_u8 (x : Operand) (ho : o.op = .load 5 x) (B k : Nat) (v : Value) (hx : a.eval x = .pointer (some ⟨B, k, none⟩)) (hB : ∀ w, C w → w.cell? ⟨B, k, none⟩ = some v) (hk : K (a.put o.dst v)) : o.quiet Tryd.prog a C K := by
  refine quiet_value _ (fun w hw => ?_) hk
  have hc := hB w hw
  unfold execOp
  simp only [ho, hx]
  simp [go_sem, hc]
theorem quiet_u32_eql (x y : Operand) (ho : o.op = .binOp .eql 56 x y 56) (b c : Int) (r : Bool) (hx : a.eval x = .int .u32 b) (hy : a.eval y = .int .u32 c) (h : (b == c) = r) (hk : K (a.put o.dst (.bool r))) : o.quiet Tryd.prog a C K := by
  refine quiet_value (.bool r) (fun w _ => ?_) hk
  unfold execOp
  simp only [ho, hx, hy]
  simp [go_sem, h]
theorem quiet_u32_neq (x y : Operand) (ho : o.op = .binOp .neq 56 x y 56) (b c : Int) (r : Bool) (hx : a.eval x = .int .u32 b) (hy : a.eval y = .int .u32 c) (h : (b != c) = r) (hk : K (a.put o.dst (.bool r))) : o.quiet Tryd.prog a C K := by
  refine quiet_value (.bool r) (fun w _ => ?_) hk
  unfold execOp
  simp only [ho, hx, hy]
  simp [go_sem, h]
theorem quiet_u8_eql (x y : Operand) (ho : o.op = .binOp .eql 5 x y 5) (b c : Int) (r : Bool) (hx : a.eval x = .int .u8 b) (hy : a.eval y = .int .u8 c) (h : (b == c) = r) (hk : K (a.put o.dst (.bool r))) : o.quiet Tryd.prog a C K := by
  refine quiet_value (.bool r) (fun w _ => ?_) hk
  unfold execOp
  simp only [ho, hx, hy]
  simp [go_sem, h]
theorem quiet_whole (x : Operand) (ho : o.op = .slice 25 x none none none) (B : Nat) (hx : a.eval x = .pointer (some ⟨B, 0, none⟩)) (hk : K (a.put o.dst (.slice (some ⟨B, 0, none⟩) 64 64))) : o.quiet Tryd.prog a C K := by
  refine quiet_value _ (fun w _ => ?_) hk
  have hs := byteElem.run_size (P := Tryd.prog) w
  unfold execOp
  simp only [ho, hx]
  simp [go_sem, hs]
end
/-- Bytes copied to the beginning of an array. -/
def inG (n N : Nat) (g F : Nat → Nat) : Nat → Nat := fun j => if j < n ∧ j < N then g j else F j
theorem inG_lt {n N : Nat} {g F : Nat → Nat} (hg : ∀ i, i < n → g i < 256) (hF : ∀ i, i < N → F i < 256) : ∀ i, i < N → inG n N g F i < 256 := fun i hi => by
  unfold inG; split
  · exact hg i (by omega)
  · exact hF i hi
theorem wpList_copy_in {ops : Array Oper} {rest : List Oper} {o : Oper} {a : Act} {w : World} {Q : Exit → Act → World → Prop} (hgd : o.guard = none) (d s : Operand) (ho : o.op = .call { callee := .builtin .copy, args := #[d, s], argTypes := #[22, 22] })
    (D : Nat) (t : TypeId) (N : Nat) (F g : Nat → Nat) (p : Option Addr) (n cap : Nat) (hd : a.eval d = .slice (some ⟨D, 0, none⟩) N N) (hs : a.eval s = .slice p n cap) (hB : IntBlk w D .u8 t (mk N F)) (hp : BytesAt w p n g)
    (h : ∀ w', IntBlk w' D .u8 t (mk N (inG n N g F)) → Below D w w' → wpList Tryd.prog ops Q rest (a.put o.dst (goInt (Nat.min n N))) w') : wpList Tryd.prog ops Q (o :: rest) a w := by
  by_cases h0 : n = 0
  · subst h0
    refine wpList_plain hgd fun K hK => ?_
    have hm : Nat.min 0 N = 0 := Nat.zero_min N
    have hrun := run_copy_none (P := Tryd.prog) w 22 22 o.type 5 (some ⟨D, 0, none⟩) p N N 0 cap bytesUnder byteInfo hm
    have hf : mk N (inG 0 N g F) = mk N F := mk_ext fun j _ => if_neg (by omega)
    have h1 := h w (by rw [hf]; exact hB) (Below.refl _ _)
    rw [hm] at h1
    unfold Oper.wp
    simp [execOp, ho, resolve, invoke, builtin, hd, hs, hrun, Result.andThen]
    exact hK _ _ h1
  · rcases hp with hp | ⟨B, off, rfl, _, hc⟩
    · exact absurd hp h0
    · obtain ⟨m, hm⟩ : ∃ m, Nat.min n N = m := ⟨_, rfl⟩
      have hmn : m ≤ n := by rw [← hm]; exact Nat.min_le_left _ _
      have hmN : m ≤ N := by rw [← hm]; exact Nat.min_le_right _ _
      have hf : mk N (put F 0 m g) = mk N (inG n N g F) := mk_ext fun j hj => by
        unfold put inG
        have : m = n ∨ m = N := by
          rw [← hm]; rcases Nat.le_total n N with h | h
          · exact .inl (Nat.min_eq_left h)
          · exact .inr (Nat.min_eq_right h)
        by_cases hh : j < n ∧ j < N
        · rw [if_pos (by omega), if_pos hh, Nat.sub_zero]
        · rw [if_neg (by omega), if_neg hh]
      refine wpList_copy_part hgd d s 22 22 ho 5 bytesUnder byteInfo D 0 N N B off n cap m N F g hd hs t hB (by omega) hm.symm (fun j hj => hc j (by omega)) ?_
      rw [hm] at h
      exact h _ (by rw [← hf]; exact hB.setRow .u8 _) (below_setRow (Below.refl _ _) (Nat.le_refl _) _)
end Go.Proofs.YtfjbehobpkmjbaaDoor
