/- Slices taken of slices of bytes, in plain regions and in those whose order is drawn; operations that only compute; numbers put and taken, rows: the contracts of package words' rowEnd, Put, Take, Row, TakeRow. Conditions: as each says. -/
import Derived.Test.YtfnoiijodcmaeaaWdProg
import Derived.Shelf.Abstract
namespace Go.Proofs.Ytfnoiijodcmaeaa
open Go.ChangeShapes Go.WideShapes Go.ChangeAt Go.RowKit
set_option linter.unusedVariables false

/-- What lies behind the first k of so many bytes. -/
def Behind (p : Option Addr) (n k m : Nat) (p' : Option Addr) : Prop := ∀ (V : World) (g : Nat → Nat), BytesAt V p n g → BytesAt V p' m (fun j => g (k + j))
theorem BytesAt.upto {w : World} {p : Option Addr} {n k : Nat} {g : Nat → Nat} (h : BytesAt w p n g) (hk : k ≤ n) : BytesAt w p k g := by
  rcases h with h | ⟨B, o, hp, hB, hc⟩
  · exact .inl (by omega)
  · exact .inr ⟨B, o, hp, hB, fun j hj => hc j (by omega)⟩
theorem behind_of (p : Option Addr) (n cap k m : Nat) (hm : k + m ≤ n) (hn : n ≤ cap) : Behind p n k m (if cap = k then p else p.map (·.add k)) := fun V g h => by
  by_cases e : m = 0
  · exact .inl e
  · rw [if_neg (by omega)]
    rcases h with h | ⟨B, o, rfl, hB, hc⟩
    · omega
    · refine .inr ⟨B, o + k, by simp [addr_add], hB, fun j hj => ?_⟩
      rw [Nat.add_assoc]; exact hc (k + j) (by omega)
theorem run_upto (p : Option Addr) (n cap k : Nat) (hk : k ≤ cap) (w : World) : (Instr.sliceAt 22 (.slice p n cap) none (some (.int .i64 k)) none).run Try.prog w = .ok (.slice p k cap) w := by
  have hs := byteElem.run_size (P := Try.prog) w
  have e1 : (0 : Int) ≤ k := by omega
  have e2 : (k : Int) ≤ cap := by omega
  simp [go_sem, e1, e2, hs, Program.elem]
theorem run_tail (p : Option Addr) (n cap k : Nat) (hk : k ≤ n) (hn : n ≤ cap) (w : World) : (Instr.sliceAt 22 (.slice p n cap) (some (.int .i64 k)) none none).run Try.prog w = .ok (.slice (if cap = k then p else p.map (·.add k)) (n - k) (cap - k)) w := by
  have hs := byteElem.run_size (P := Try.prog) w
  have e1 : (0 : Int) ≤ k := by omega
  have e2 : (k : Int) ≤ n := by omega
  simp [go_sem, e1, e2, hs, Program.elem]
theorem run_cut (p : Option Addr) (n cap k m : Nat) (hk : k ≤ m) (hm : m ≤ cap) (w : World) : (Instr.sliceAt 22 (.slice p n cap) (some (.int .i64 k)) (some (.int .i64 m)) none).run Try.prog w = .ok (.slice (if cap = k then p else p.map (·.add k)) (m - k) (cap - k)) w := by
  have hs := byteElem.run_size (P := Try.prog) w
  have e1 : (0 : Int) ≤ k := by omega
  have e2 : (k : Int) ≤ m := by omega
  have e3 : (m : Int) ≤ cap := by omega
  simp [go_sem, e1, e2, e3, hs, Program.elem]
section
variable {ops : Array Oper} {rest : List Oper} {o : Oper} {a : Act} {w : World} {Q : Exit → Act → World → Prop}
theorem wanted_step (hw : Region.wanted o (yielded ops a.tmps) = true) (h : ∀ K : Act → World → Prop, (∀ a w, wpList Try.prog ops Q rest a w → K a w) → o.wp Try.prog a w K Q) : wpList Try.prog ops Q (o :: rest) a w :=
  wpList_step fun K hK => by rw [if_pos hw]; exact h K hK
theorem wpList_upto (hgd : o.guard = none) (x y : Operand) (ho : o.op = .slice 22 x none (some y) none) (p : Option Addr) (n cap k : Nat) (z : Int) (hz : z = k) (hx : a.eval x = .slice p n cap) (hy : a.eval y = .int .i64 z) (hk : k ≤ cap)
    (h : wpList Try.prog ops Q rest (a.put o.dst (.slice p k cap)) w) : wpList Try.prog ops Q (o :: rest) a w := by
  subst hz
  refine wpList_plain hgd fun K hK => ?_
  have hr := run_upto p n cap k hk w
  unfold Oper.wp execOp
  simp only [ho, hx]
  simp [hy, hr]
  exact hK _ _ h
/-- The end of a slice; the operation may have a guard that is met. -/
theorem wpList_tail (hw : Region.wanted o (yielded ops a.tmps) = true) (x y : Operand) (ho : o.op = .slice 22 x (some y) none none) (p : Option Addr) (n cap k : Nat) (z : Int) (hz : z = k) (hx : a.eval x = .slice p n cap) (hy : a.eval y = .int .i64 z) (hk : k ≤ n) (hn : n ≤ cap)
    (h : ∀ p', Behind p n k (n - k) p' → (∀ D o o', p = some ⟨D, o, none⟩ → o' = o + k → k < cap → p' = some ⟨D, o', none⟩) → wpList Try.prog ops Q rest (a.put o.dst (.slice p' (n - k) (cap - k))) w) : wpList Try.prog ops Q (o :: rest) a w := by
  subst hz
  have hr := run_tail p n cap k hk hn w
  refine wanted_step hw fun K hK => ?_
  unfold Oper.wp execOp
  simp only [ho, hx]
  simp [hy, hr]
  refine hK _ _ (h _ (behind_of p n cap k (n - k) (by omega) hn) fun D o o' hD ho' hlt => ?_)
  subst hD ho'
  rw [if_neg (by omega)]
  simp [addr_add]
theorem wpList_cut (hgd : o.guard = none) (x y u : Operand) (ho : o.op = .slice 22 x (some y) (some u) none) (p : Option Addr) (n cap k m : Nat) (z v : Int) (hz : z = k) (hv : v = m) (hx : a.eval x = .slice p n cap) (hy : a.eval y = .int .i64 z) (hu : a.eval u = .int .i64 v) (hk : k ≤ m) (hm : m ≤ n) (hn : n ≤ cap)
    (h : ∀ p', Behind p n k (m - k) p' → wpList Try.prog ops Q rest (a.put o.dst (.slice p' (m - k) (cap - k))) w) : wpList Try.prog ops Q (o :: rest) a w := by
  subst hz hv
  have hr := run_cut p n cap k m hk (by omega) w
  refine wpList_plain hgd fun K hK => ?_
  unfold Oper.wp execOp
  simp only [ho, hx]
  simp [hy, hu, hr]
  exact hK _ _ (h _ (behind_of p n cap k (m - k) (by omega) hn))
end
section
variable {o : Oper} {a : Act} {C : World → Prop} {K : Act → Prop}
theorem gives_upto (x y : Operand) (ho : o.op = .slice 22 x none (some y) none) (p : Option Addr) (n cap k : Nat) (z : Int) (hz : z = k) (hx : a.eval x = .slice p n cap) (hy : a.eval y = .int .i64 z) (hk1 : k ≤ cap)
    (hk : K (a.put o.dst (.slice p k cap))) : ∃ v, Gives Try.prog C o a v ∧ K (a.put o.dst v) := by
  subst hz
  refine ⟨_, fun w _ => ?_, hk⟩
  have hr := run_upto p n cap k hk1 w
  unfold execOp
  simp only [ho, hx]
  simp [hy, hr]
theorem gives_tail (x y : Operand) (ho : o.op = .slice 22 x (some y) none none) (p : Option Addr) (n cap k : Nat) (z : Int) (hz : z = k) (hx : a.eval x = .slice p n cap) (hy : a.eval y = .int .i64 z) (hk1 : k ≤ n) (hn : n ≤ cap)
    (hk : ∀ p', Behind p n k (n - k) p' → K (a.put o.dst (.slice p' (n - k) (cap - k)))) : ∃ v, Gives Try.prog C o a v ∧ K (a.put o.dst v) := by
  subst hz
  refine ⟨_, fun w _ => ?_, hk _ (behind_of p n cap k (n - k) (by omega) hn)⟩
  have hr := run_tail p n cap k hk1 hn w
  unfold execOp
  simp only [ho, hx]
  simp [hy, hr]
theorem gives_cut (x y u : Operand) (ho : o.op = .slice 22 x (some y) (some u) none) (p : Option Addr) (n cap k m : Nat) (z v : Int) (hz : z = k) (hv : v = m) (hx : a.eval x = .slice p n cap) (hy : a.eval y = .int .i64 z) (hu : a.eval u = .int .i64 v) (hk1 : k ≤ m) (hm : m ≤ n) (hn : n ≤ cap)
    (hk : ∀ p', Behind p n k (m - k) p' → K (a.put o.dst (.slice p' (m - k) (cap - k)))) : ∃ v, Gives Try.prog C o a v ∧ K (a.put o.dst v) := by
  subst hz hv
  refine ⟨_, fun w _ => ?_, hk _ (behind_of p n cap k (m - k) (by omega) hn)⟩
  have hr := run_cut p n cap k m hk1 (by omega) w
  unfold execOp
  simp only [ho, hx]
  simp [hy, hu, hr]
end
/-- A call in a region walked by one order. -/
theorem done_enter1 {o : Oper} {a : Act} {w : World} {K : Value → World → Prop} (x y : Operand) (ts : Array TypeId) (ho : o.op = .call { callee := .value x, args := #[y], argTypes := ts }) (g : FuncId)
    (hx : a.eval x = .func (.func g) #[] #[]) (hf : ∀ (args : Array Value) (w : World), (callFunc g args).run Try.prog w = .ok (.enter g args) w) (u : Value) (hy : a.eval y = u) (R : Ending → World → Prop) (hc : Calls Try.prog g #[u] w R) (hk : ∀ e w', R e w' → ∃ u, e = .returned u ∧ K u w') : doneAt Try.prog o a w K :=
  done_call x #[y] ts ho g #[u] hx (by simp only [List.map_toArray, List.map_cons, List.map_nil, hy]) (hf _ w) (hc.mono hk)
theorem done_enter2 {o : Oper} {a : Act} {w : World} {K : Value → World → Prop} (x y z : Operand) (ts : Array TypeId) (ho : o.op = .call { callee := .value x, args := #[y, z], argTypes := ts }) (g : FuncId)
    (hx : a.eval x = .func (.func g) #[] #[]) (hf : ∀ (args : Array Value) (w : World), (callFunc g args).run Try.prog w = .ok (.enter g args) w) (u v : Value) (hy : a.eval y = u) (hz : a.eval z = v) (R : Ending → World → Prop) (hc : Calls Try.prog g #[u, v] w R) (hk : ∀ e w', R e w' → ∃ u, e = .returned u ∧ K u w') : doneAt Try.prog o a w K :=
  done_call x #[y, z] ts ho g #[u, v] hx (by simp only [List.map_toArray, List.map_cons, List.map_nil, hy, hz]) (hf _ w) (hc.mono hk)

/-! ### Rows' ends -/
attribute [local irreducible] dig valN
theorem valN_two (g : Nat → Nat) (at' : Nat) : valN 2 (fun j => g (at' + j)) = lenAt g at' := by unfold valN valN valN lenAt; simp
theorem lenAt_lt {g : Nat → Nat} {n p : Nat} (hg : ∀ i, i < n → g i < 256) (h : p + 2 ≤ n) : lenAt g p < 65536 := by
  have := hg p (by omega); have := hg (p + 1) (by omega); unfold lenAt; omega
theorem wrap_len {g : Nat → Nat} {n p : Nat} (hg : ∀ i, i < n → g i < 256) (h : p + 2 ≤ n) : IntKind.i64.wrap (lenAt g p : Nat) = (lenAt g p : Nat) := IntWalk.i64_in _ (by have := lenAt_lt hg h; omega)
set_option maxRecDepth 100000 in
set_option maxHeartbeats 1000000 in
theorem rowEnd_short (p : Option Addr) (n cap at' : Nat) (hn : n ≤ 140737488355328) (hat : at' ≤ n) (h : n < at' + 2) (w : World) :
    Calls Try.prog 33 #[.slice p n cap, .int .i64 at'] w fun e w' => e = .returned (.tuple #[.int .i64 0, .bool false]) ∧ w = w' := by
  have e1 : IntKind.i64.wrap ((n : Int) - (at' : Int)) = (n : Int) - (at' : Int) := IntWalk.i64_in _ (by omega)
  have d1 : decide ((n : Int) - (at' : Int) < 2) = true := by simp; omega
  clear h
  go_enter Try.func33, Try.ntmps33
  go_wp2
  go_ret2
  exact ⟨rfl, rfl⟩
set_option maxRecDepth 100000 in
set_option maxHeartbeats 1000000 in
theorem rowEnd_any (p : Option Addr) (n cap at' : Nat) (g : Nat → Nat) (hg : ∀ i, i < n → g i < 256) (hn : n ≤ 140737488355328) (hcap : n ≤ cap) (h : at' + 2 ≤ n) (w : World) (hp : BytesAt w p n g) :
    Calls Try.prog 33 #[.slice p n cap, .int .i64 at'] w fun e w' => e = .returned (if at' + 2 + lenAt g at' ≤ n then .tuple #[.int .i64 (at' + 2 + lenAt g at' : Nat), .bool true] else .tuple #[.int .i64 0, .bool false]) ∧ w = w' := by
  have e1 : IntKind.i64.wrap ((n : Int) - (at' : Int)) = (n : Int) - (at' : Int) := IntWalk.i64_in _ (by omega)
  have d1 : decide ((n : Int) - (at' : Int) < 2) = false := by simp; omega
  have e2 : IntKind.i64.wrap ((at' : Int) + 2) = ((at' + 2 : Nat) : Int) := by rw [IntWalk.i64_in _ (by omega)]; omega
  have hl := lenAt_lt hg h
  have hL := wrap_len hg h
  obtain ⟨E, hE⟩ : ∃ E, at' + 2 + lenAt g at' = E := ⟨_, rfl⟩
  have e3 : IntKind.i64.wrap (((at' + 2 : Nat) : Int) + (lenAt g at' : Nat)) = (E : Int) := by rw [IntWalk.i64_in _ (by omega)]; omega
  have hmm : at' + 2 - at' = 2 := by omega
  have hbe : ∀ q, Behind p n at' (at' + 2 - at') q → ∀ V, BytesAt V p n g → Calls Try.prog 32 #[.slice q (at' + 2 - at') (cap - at')] V fun e w' => e = .returned (.int .i64 (lenAt g at' : Nat)) ∧ V = w' := fun q hq V hV => by
    have := read_any q (at' + 2 - at') (cap - at') (fun j => g (at' + j)) (fun i hi => hg _ (by omega)) (by omega) V (hq V g hV)
    rw [hmm, valN_two, hL] at this
    rw [hmm]; exact this
  have RC := Lib.hid hbe
  have HP := Lib.hid hp
  have k1 : at' ≤ at' + 2 := by omega
  rw [hE]
  clear hbe hp hmm hL hg
  generalize at' + 2 = f at *
  generalize lenAt g at' = ln at *
  by_cases hle : E ≤ n
  · have d2 : decide ((n : Int) < (E : Int)) = false := by simp; omega
    have d3 : decide (n < E) = false := by simp; omega
    rw [if_pos hle]
    clear hle hE
    go_enter Try.func33, Try.ntmps33
    go_wp2_with (first
      | (refine wpList_cut rfl _ _ _ rfl p n cap at' f at' f rfl rfl rfl rfl rfl k1 h hcap ?_; intro q hq)
      | (go_at_call 32; refine (RC.out q hq w HP.out).mono ?_; rintro e w1 ⟨rfl, rfl⟩))
    go_ret2
    exact ⟨rfl, rfl⟩
  · have d2 : decide ((n : Int) < (E : Int)) = true := by simp; omega
    have d3 : decide (n < E) = true := by simp; omega
    rw [if_neg hle]
    clear hle hE
    go_enter Try.func33, Try.ntmps33
    go_wp2_with (first
      | (refine wpList_cut rfl _ _ _ rfl p n cap at' f at' f rfl rfl rfl rfl rfl k1 h hcap ?_; intro q hq)
      | (go_at_call 32; refine (RC.out q hq w HP.out).mono ?_; rintro e w1 ⟨rfl, rfl⟩))
    go_ret2
    exact ⟨rfl, rfl⟩
end Go.Proofs.Ytfnoiijodcmaeaa
