/- What the statement MacParted needs: a key with noughts behind it; appends in regions walked by one order; conversions of integers. Conditions: as each says. -/
import Derived.Test.YtfjbehobpkmjbaaDoorMacS
import Derived.Test.YtfjbehobpkmjbaaDoorZeros
namespace Go.Proofs.YtfjbehobpkmjbaaDoor
open Go.ChangeShapes Go.WideShapes Go.ChangeAt Go.RowKit
set_option linter.unusedVariables false

/-- A key with noughts behind it. -/
def nouB (n : Nat) (g : Nat → Nat) : Nat → Nat := fun j => if j < n then g j else 0
theorem nouB_lt {n m : Nat} {g : Nat → Nat} (hg : ∀ i, i < n → g i < 256) : ∀ i, i < m → nouB n g i < 256 := fun i _ => by
  unfold nouB; split
  · exact hg i (by assumption)
  · omega
theorem tagF_noughts {n k : Nat} {g : Nat → Nat} (h : n + k ≤ 64) (nt : Nat) (gt : Nat → Nat) : tagF (n + k) (nouB n g) nt gt = tagF n g nt gt := by
  have e : pieK (n + k) (nouB n g) = pieK n g := by
    rw [pieK_short h, pieK_short (by omega)]
    funext j
    unfold inG nouB zeroK
    by_cases h1 : j < n
    · rw [if_pos ⟨by omega, by omega⟩, if_pos h1, if_pos ⟨h1, by omega⟩]
    · simp [h1]
  unfold tagF; rw [e]
theorem append_own_run {base top k : Nat} {v : Value} {F f : Nat → Nat} (w : World) (ty : TypeId) (hv : OwnS 5 1 w base top v k F) (p : Option Addr) (n cap : Nat) (hp : BytesAt w p n f) (hf : ∀ j, j < n → f j = F (k + j)) (hk : k + n ≤ 100000) (hbase : base ≤ w.heap.size) :
    ∃ v' w', (Builtin.append_ #[22, 22] ty #[v, .slice p n cap]).run Tryd.prog w = .ok v' w' ∧ OwnS 5 1 w' base w'.heap.size v' (k + n) F ∧ Below base w w' := by
  have hi := byteInfo
  have hz := byteZero1
  have hb := byteBytes1
  cases hq : Tryd.prog.info? 5 with
  | none => rw [hq] at hi; simp at hi
  | some i =>
    rw [hq] at hi hb hz
    have hsz : i.size = 1 := by simpa using hi
    have hzz : i.zero = some (.int .u8 0) := by simpa using hz
    have hby : i.bytes = 1 := by simpa using hb
    by_cases h0 : n = 0
    · subst h0
      have hsrc : Src Tryd.prog i.size 22 (.slice p 0 cap) 0 [] w := by
        cases p with
        | none => exact Src.ofNil w bytesUnder cap
        | some ad => exact Src.ofSlice w bytesUnder ad 0 cap [] (by simp) (fun j u hu => by simp at hu) (fun u hu => by cases hu)
      have hrow := hv.owns
      obtain ⟨q, c, rfl, hc⟩ : ∃ q c, v = .slice q k c ∧ k ≤ c := by
        rcases hv with ⟨h1, h2⟩ | ⟨B, c, cur, h1, _, _, _, h5, _⟩
        · subst h2; exact ⟨none, 0, h1, Nat.le_refl _⟩
        · exact ⟨_, c, h1, h5⟩
      exact ⟨_, w, run_append_nothing (P := Tryd.prog) w 22 22 ty 5 i bytesUnder hq q k c hc (.slice p 0 cap) hsrc, OwnS.of_owns hrow, Below.refl _ _⟩
    · rcases hp with hp | ⟨B, off, rfl, hB, hc⟩
      · exact absurd hp h0
      · obtain ⟨v', w', hrun, r1, r2, _⟩ := run_append_own (P := Tryd.prog) w base 22 ty 5 i (.int .u8 0) 1 1 bytesUnder hq hzz hsz hby rfl (by omega)
          v k (bytesList (k * 1) F) hv.owns ⟨B, off, none⟩ n cap (bytesList n f) (by rw [bytesList_len, Nat.mul_one]) (fun j u hj => by
            obtain ⟨hj1, rfl⟩ := bytesList_get hj
            rw [addr_add]; exact hc j hj1) bytesList_one (by simp only [maxLen]; omega) (by omega) hbase
        rw [bytesList_more (k * 1) n F f (fun j hj => by rw [Nat.mul_one]; exact hf j hj), show k * 1 + n = (k + n) * 1 by omega] at r1
        exact ⟨v', w', hrun, OwnS.of_owns r1, below_own r2 hv.block hbase⟩
theorem done_append {o : Oper} {a : Act} {w : World} {K : Value → World → Prop} (s x : Operand) (t tn : TypeId) (ho : o.op = .call { callee := .builtin .append, args := #[s, x], argTypes := #[t, tn] }) (vs vx : Value) (hs : a.eval s = vs) (hx : a.eval x = vx)
    (v' : Value) (w' : World) (hr : (Builtin.append_ #[t, tn] o.type #[vs, vx]).run Tryd.prog w = .ok v' w') (h : K v' w') : doneAt Tryd.prog o a w K := by
  unfold doneAt execOp
  simp only [ho, resolve, invoke, builtin, Sem.run_bind, Sem.run_pure, Result.andThen_ok, List.map_toArray, List.map_cons, List.map_nil, hs, hx, hr]
  exact h
theorem done_build0 {o : Oper} {a : Act} {w : World} {K : Value → World → Prop} (ho : o.op = .buildSlice 22 0 #[]) (h : K (.slice (some ⟨w.heap.size, 0, none⟩) 0 0) (w.alloc (.cells (cellsOf .u8 []) 5))) : doneAt Tryd.prog o a w K := by
  have e : (Instr.buildSlice 22 0 #[]).run Tryd.prog w = .ok (.slice (some ⟨w.heap.size, 0, none⟩) 0 0) (w.alloc (.cells (cellsOf .u8 []) 5)) := by simp [go_sem, cellsOf]
  unfold doneAt execOp
  simp only [ho]
  simp [e]
  exact h
section
variable {o : Oper} {a : Act} {C : World → Prop} {K : Act → Prop}
theorem gives_to_uint (x : Operand) (ho : o.op = .convert 3 37 x) (z : Int) (r : Int) (hx : a.eval x = .int .i64 z) (h : IntKind.u64.wrap z = r) (hk : K (a.put o.dst (.int .u64 r))) : ∃ v, Gives Tryd.prog C o a v ∧ K (a.put o.dst v) :=
  ⟨_, fun w _ => by
    have e : (convert 3 37 (.int .i64 z)).run Tryd.prog w = .ok (.int .u64 r) w := by subst h; simp [go_sem]
    unfold execOp
    simp only [ho, hx, Sem.run_bind, e]; rfl, hk⟩
theorem gives_to_int (x : Operand) (ho : o.op = .convert 37 3 x) (z : Int) (r : Int) (hx : a.eval x = .int .u64 z) (h : IntKind.i64.wrap z = r) (hk : K (a.put o.dst (.int .i64 r))) : ∃ v, Gives Tryd.prog C o a v ∧ K (a.put o.dst v) :=
  ⟨_, fun w _ => by
    have e : (convert 37 3 (.int .u64 z)).run Tryd.prog w = .ok (.int .i64 r) w := by subst h; simp [go_sem]
    unfold execOp
    simp only [ho, hx, Sem.run_bind, e]; rfl, hk⟩
theorem gives_rem_uint (x y : Operand) (ho : o.op = .binOp .rem 37 x y 37) (i j r : Int) (hx : a.eval x = .int .u64 i) (hy : a.eval y = .int .u64 j) (hj : j ≠ 0) (h : i.tmod j = r) (hk : K (a.put o.dst (.int .u64 r))) : ∃ v, Gives Tryd.prog C o a v ∧ K (a.put o.dst v) :=
  ⟨_, fun w _ => by
    unfold execOp
    simp only [ho, hx, hy]
    simp [go_sem, h, hj], hk⟩
theorem gives_int_sub (x y : Operand) (ho : o.op = .binOp .sub 3 x y 3) (i j r : Int) (hx : a.eval x = .int .i64 i) (hy : a.eval y = .int .i64 j) (h : IntKind.i64.wrap (i - j) = r) (hk : K (a.put o.dst (.int .i64 r))) : ∃ v, Gives Tryd.prog C o a v ∧ K (a.put o.dst v) :=
  ⟨_, fun w _ => by
    unfold execOp
    simp only [ho, hx, hy]
    simp [go_sem, h], hk⟩
end
/-- Whether three lists are too long. -/
theorem large_three {w : World} {B c : Nat} {pa pb pc : Option Addr} {na ca nb cb nc cc : Nat} (ha : na ≤ 140737488351232) (hb : nb ≤ 140737488351232) (hc : nc ≤ 140737488351232) (h0 : w.cell? ⟨B, 0, none⟩ = some (.slice pa na ca)) (h1 : w.cell? ⟨B, 1, none⟩ = some (.slice pb nb cb)) (h2 : w.cell? ⟨B, 2, none⟩ = some (.slice pc nc cc)) :
    Calls Tryd.prog 10 #[.slice (some ⟨B, 0, none⟩) 3 c] w fun e w' => e = .returned (.bool (decide (4096 < na + (nb + nc)))) ∧ w = w' := by
  have hl : lenTo (consP (pa, na, ca) (consP (pb, nb, cb) fun _ => (pc, nc, cc))) 3 = na + (nb + nc) := by rw [consP_len, two_len]
  have := large_any (some ⟨B, 0, none⟩) 3 c (consP (pa, na, ca) (consP (pb, nb, cb) fun _ => (pc, nc, cc))) (by omega) (fun i hi => by
    rcases (show i = 0 ∨ i = 1 ∨ i = 2 by omega) with rfl | rfl | rfl
    · exact ha
    · exact hb
    · exact hc) w (.inr ⟨B, 0, rfl, fun i hi => by
    rcases (show i = 0 ∨ i = 1 ∨ i = 2 by omega) with rfl | rfl | rfl
    · exact h0
    · exact h1
    · exact h2⟩)
  rw [hl] at this; exact this
theorem three_cells (w : World) (x y z : Value) (t : TypeId) : (w.alloc (.cells #[x, y, z] t)).cell? ⟨w.heap.size, 0, none⟩ = some x ∧ (w.alloc (.cells #[x, y, z] t)).cell? ⟨w.heap.size, 1, none⟩ = some y ∧ (w.alloc (.cells #[x, y, z] t)).cell? ⟨w.heap.size, 2, none⟩ = some z := by
  have h := heap_alloc_new w (.cells #[x, y, z] t)
  refine ⟨?_, ?_, ?_⟩
  · rw [cell_of_row _ _ 0 #[x, y, z] t (0, 0) h]; rfl
  · rw [cell_of_row _ _ 1 #[x, y, z] t (0, 0) h]; rfl
  · rw [cell_of_row _ _ 2 #[x, y, z] t (0, 0) h]; rfl
end Go.Proofs.YtfjbehobpkmjbaaDoor
