/- Laws of the operations on keys for regions walked by one order: what only computes, and slices made of keys. No condition. -/
import Derived.Test.YtilfjmpoiiepkaaSched
import Derived.Test.YtilfjmpoiiepkaaPart
import Derived.Great.BuildSlice
namespace Go.Proofs.Ytilfjmpoiiepkaa
open Go.ChangeShapes Go.WideShapes Go.ChangeAt Go.RowKit

section
variable {o : Oper} {a : Act} {C : World → Prop} {K : Act → Prop}
theorem gives_key_load (x : Operand) (ho : o.op = .load 23 x) (B : Nat) (f : Nat → Nat) (hx : a.eval x = .pointer (some ⟨B, 0, none⟩)) (hB : ∀ w, C w → IntBlk w B .u8 23 (mk 16 f)) (hk : K (a.put o.dst (.agg (cellsOf .u8 (mk 16 f))))) :
    ∃ v, Gives Try.prog C o a v ∧ K (a.put o.dst v) :=
  ⟨_, fun w hw => by
    unfold execOp
    simp only [ho, hx, Instr.loadAt, Instr.sureAddr, Sem.run_bind, Sem.run_pure, Result.andThen_ok, run_loadVar_row w B 23 23 _ (0, 0) _ (hB w hw) keyUnder rfl (keySize f)], hk⟩
theorem gives_part (ty : TypeId) (x : Operand) (ho : o.op = .load ty x) (B off n : Nat) (f : Nat → Nat) (hx : a.eval x = .pointer (some ⟨B, off, none⟩)) (hc : ∀ w, C w → Cells w B off n f)
    (m : Nat) (e : TypeId) (hu : Try.prog.underlying ty = some (.array m e)) (hi : (Try.prog.info? ty).map (·.size) = some n) (hk : K (a.put o.dst (.agg (cellsOf .u8 (mk n f))))) :
    ∃ v, Gives Try.prog C o a v ∧ K (a.put o.dst v) :=
  ⟨_, fun w hw => by
    unfold execOp
    simp only [ho, hx, Instr.loadAt, Instr.sureAddr, Sem.run_bind, Sem.run_pure, Result.andThen_ok, run_loadVar_part B off n f ty _ (hc w hw) hu rfl hi], hk⟩
theorem gives_built (ty : TypeId) (xs : List (Nat × Operand)) (ho : o.op = .build ty ⟨xs⟩) (ys : List (Nat × Value)) (hx : xs.map (fun p => (p.1, a.eval p.2)) = ys) (n : Nat) (f : Nat → Nat)
    (hf : Try.prog.built ty ys = some (cellsOf .u8 (mk n f))) (hk : K (a.put o.dst (.agg (cellsOf .u8 (mk n f))))) : ∃ v, Gives Try.prog C o a v ∧ K (a.put o.dst v) :=
  ⟨_, fun w _ => by
    have e := run_build w ty (xs.map (fun p => (p.1, a.eval p.2))).toArray (cellsOf .u8 (mk n f)) (by rw [hx]; exact hf)
    unfold execOp
    simp only [ho]
    rw [Sem.run_bind]
    simp only [List.map_toArray] at *
    rw [e]; rfl, hk⟩
theorem gives_pick (c x y : Operand) (ho : o.op = .pick c x y) (hc : a.eval c = .bool true) (v : Value) (hx : a.eval x = v) (hk : K (a.put o.dst v)) : ∃ v, Gives Try.prog C o a v ∧ K (a.put o.dst v) :=
  ⟨_, fun w _ => by
    unfold execOp
    simp only [ho, hc, hx]
    simp [go_sem], hk⟩
theorem gives_key_eql (x y : Operand) (ho : o.op = .binOp .eql 23 x y 23) (f g : Nat → Nat)
    (hx : a.eval x = .agg (cellsOf .u8 (mk 16 f))) (hy : a.eval y = .agg (cellsOf .u8 (mk 16 g))) (h : mk 16 f = mk 16 g) (hk : K (a.put o.dst (.bool true))) : ∃ v, Gives Try.prog C o a v ∧ K (a.put o.dst v) :=
  ⟨.bool true, fun w _ => by
    have e := key_eq g g w
    unfold execOp
    simp only [ho, hx, hy]
    simp [go_sem, e, h], hk⟩
end

section
variable {o : Oper} {a : Act} {C : World → Prop} {K : Act → Prop}
theorem gives_int_mul (x y : Operand) (ho : o.op = .binOp .mul 3 x y 3) (i j r : Int) (hx : a.eval x = .int .i64 i) (hy : a.eval y = .int .i64 j) (h : IntKind.i64.wrap (i * j) = r) (hk : K (a.put o.dst (.int .i64 r))) : ∃ v, Gives Try.prog C o a v ∧ K (a.put o.dst v) :=
  ⟨_, fun w _ => by unfold execOp; simp only [ho, hx, hy]; simp [go_sem, h], hk⟩
theorem gives_int_add (x y : Operand) (ho : o.op = .binOp .add 3 x y 3) (i j r : Int) (hx : a.eval x = .int .i64 i) (hy : a.eval y = .int .i64 j) (h : IntKind.i64.wrap (i + j) = r) (hk : K (a.put o.dst (.int .i64 r))) : ∃ v, Gives Try.prog C o a v ∧ K (a.put o.dst v) :=
  ⟨_, fun w _ => by unfold execOp; simp only [ho, hx, hy]; simp [go_sem, h], hk⟩
theorem gives_int_sub (x y : Operand) (ho : o.op = .binOp .sub 3 x y 3) (i j r : Int) (hx : a.eval x = .int .i64 i) (hy : a.eval y = .int .i64 j) (h : IntKind.i64.wrap (i - j) = r) (hk : K (a.put o.dst (.int .i64 r))) : ∃ v, Gives Try.prog C o a v ∧ K (a.put o.dst v) :=
  ⟨_, fun w _ => by unfold execOp; simp only [ho, hx, hy]; simp [go_sem, h], hk⟩
theorem gives_place (t : TypeId) (n : Nat) (x y : Operand) (ho : o.op = .indexAddr t x y) (ht : Try.prog.underlying t = some (.array n 5)) (B k : Nat) (hx : a.eval x = .pointer (some ⟨B, 0, none⟩)) (hy : a.eval y = .int .i64 k) (hk4 : k < n)
    (hk : K (a.put o.dst (.pointer (some ⟨B, k, none⟩)))) : ∃ v, Gives Try.prog C o a v ∧ K (a.put o.dst v) :=
  ⟨_, fun w _ => by
    have h0 : (k : Int) < n := by omega
    have hs := byteElem.run_size (P := Try.prog) w
    unfold execOp
    simp only [ho, hx, hy]
    simp [go_sem, ht, h0, hs], hk⟩
theorem gives_byte_load (x : Operand) (ho : o.op = .load 5 x) (B k : Nat) (v : Value) (hx : a.eval x = .pointer (some ⟨B, k, none⟩)) (hB : ∀ w, C w → w.cell? ⟨B, k, none⟩ = some v) (hk : K (a.put o.dst v)) : ∃ v, Gives Try.prog C o a v ∧ K (a.put o.dst v) :=
  ⟨_, fun w hw => by
    have hc := hB w hw
    unfold execOp
    simp only [ho, hx]
    simp [go_sem, hc], hk⟩
/-- An element's place in a slice. -/
theorem gives_elem (t e : TypeId) (sz : Nat) (x y : Operand) (ho : o.op = .indexAddr t x y) (ht : Try.prog.underlying t = some (.slice e)) (hi : (Try.prog.info? e).map (·.size) = some sz)
    (B off n cap k : Nat) (hx : a.eval x = .slice (some ⟨B, off, none⟩) n cap) (hy : a.eval y = .int .i64 k) (hk4 : k < n) (hk : K (a.put o.dst (.pointer (some ⟨B, off + k * sz, none⟩)))) : ∃ v, Gives Try.prog C o a v ∧ K (a.put o.dst v) :=
  ⟨_, fun w _ => by
    have h0 : (k : Int) < n := by omega
    cases hq : Try.prog.info? e with
    | none => simp [hq] at hi
    | some i =>
      have hs : i.size = sz := by simpa [hq] using hi
      unfold execOp
      simp only [ho, hx, hy]
      simp [go_sem, ht, h0, sizeOf, typeInfo, hq, hs, Addr.add], hk⟩
theorem gives_key_neq (x y : Operand) (ho : o.op = .binOp .neq 23 x y 23) (f g : Nat → Nat)
    (hx : a.eval x = .agg (cellsOf .u8 (mk 16 f))) (hy : a.eval y = .agg (cellsOf .u8 (mk 16 g))) (h : mk 16 f = mk 16 g) (hk : K (a.put o.dst (.bool false))) : ∃ v, Gives Try.prog C o a v ∧ K (a.put o.dst v) :=
  ⟨.bool false, fun w _ => by
    have e := key_eq g g w
    unfold execOp
    simp only [ho, hx, hy]
    simp [go_sem, e, h], hk⟩
end
/-- A new variable, a whole array stored, a call of one argument. -/
theorem done_alloc {o : Oper} {a : Act} {w : World} {K : Value → World → Prop} (t : TypeId) (ho : o.op = .alloc t) (cells : Array Value) (hz : (zeroValue t).run Try.prog w = .ok (.agg cells) w)
    (h : K (.pointer (some ⟨w.heap.size, 0, none⟩)) (w.alloc (.cells cells t))) : doneAt Try.prog o a w K := by
  unfold doneAt execOp
  simp only [ho]
  simp [go_sem, hz]
  exact h
theorem done_store {o : Oper} {a : Act} {w : World} {K : Value → World → Prop} (ty : TypeId) (x y : Operand) (ho : o.op = .store ty x y) (g : Nat) (cells : Array Value) (hx : a.eval x = .pointer (some ⟨g, 0, none⟩)) (hy : a.eval y = .agg cells)
    (t : TypeId) (old : Array Value) (hg : w.heap[g]? = some (.cells old t (0, 0))) (hi : (Try.prog.info? ty).map (·.size) = some cells.size) (hold : old.size = cells.size) (h1 : cells.all (·.oneCell') = true) (h : K undef (w.setRow g cells)) : doneAt Try.prog o a w K := by
  unfold doneAt execOp
  simp only [ho, hx, hy, Instr.storeAt, Instr.sureAddr, Sem.run_bind, Sem.run_pure, Result.andThen_ok, run_storeVar_row w g t ty old cells hg hi hold h1]
  exact h
theorem done_call1 {o : Oper} {a : Act} {w : World} {K : Value → World → Prop} (x y : Operand) (ts : Array TypeId) (ho : o.op = .call { callee := .value x, args := #[y], argTypes := ts }) (g : FuncId) (hx : a.eval x = .func (.func g) #[] #[])
    (u : Value) (hy : a.eval y = u) (hf : ∀ (args : Array Value) (w : World), (callFunc g args).run Try.prog w = .ok (.enter g args) w) (r : Value)
    (hc : Calls Try.prog g #[u] w fun e w' => e = .returned r ∧ Below w.heap.size w w') (hk : ∀ w', Below w.heap.size w w' → K r w') : doneAt Try.prog o a w K :=
  done_call x #[y] ts ho g #[u] hx (by simp only [List.map_toArray, List.map_cons, List.map_nil, hy]) (hf _ w) (hc.mono fun _ w' ⟨he, hb⟩ => ⟨r, he, hk w' hb⟩)
theorem wordZero_run (W : World) : (zeroValue 26).run Try.prog W = .ok (.agg (cellsOf .u8 (mk 4 zeroK))) W := by
  have h : (Try.prog.info? 26).bind (·.zero) = some (.agg (cellsOf .u8 (mk 4 zeroK))) := by kernel_rfl
  cases hq : Try.prog.info? 26 with
  | none => rw [hq] at h; simp at h
  | some i =>
    rw [hq] at h
    simp only [Option.bind_some] at h
    simp [zeroValue, typeInfo, hq, h]

/-- Two keys, one behind the other. -/
def twoK (f g : Nat → Nat) : Nat → Nat := fun j => if j < 16 then f j else g (j - 16)
theorem keyZero : (Try.prog.info? 23).bind (·.zero) = some (.agg (cellsOf .u8 (mk 16 zeroK))) := by kernel_rfl
theorem keyInfo1 : (Try.prog.info? 23).map (·.size) = some 16 := by kernel_rfl
theorem keysUnder1 : Try.prog.underlying 31 = some (.slice 23) := Try.underlying31
theorem fill1 (f : Nat → Nat) : Instr.fill (fun i => some (i * 16, 16)) ((Array.range (1 * 16)).map ((cellsOf .u8 (mk 16 zeroK))[· % (cellsOf .u8 (mk 16 zeroK)).size]!)) [(0, .agg (cellsOf .u8 (mk 16 f)))] = some (cellsOf .u8 (mk 16 f)) := by kernel_rfl
theorem fill2 (f g : Nat → Nat) : Instr.fill (fun i => some (i * 16, 16)) ((Array.range (2 * 16)).map ((cellsOf .u8 (mk 16 zeroK))[· % (cellsOf .u8 (mk 16 zeroK)).size]!)) [(0, .agg (cellsOf .u8 (mk 16 f))), (1, .agg (cellsOf .u8 (mk 16 g)))] = some (cellsOf .u8 (mk 32 (twoK f g))) := by kernel_rfl
theorem run_keys1 (f : Nat → Nat) (w : World) : (Instr.buildSlice 31 1 #[(0, .agg (cellsOf .u8 (mk 16 f)))]).run Try.prog w = .ok (.slice (some ⟨w.heap.size, 0, none⟩) 1 1) (w.alloc (.cells (cellsOf .u8 (mk 16 f)) 23)) := by
  have hi := keyInfo1
  have hz := keyZero
  cases hq : Try.prog.info? 23 with
  | none => rw [hq] at hi; simp at hi
  | some i =>
    rw [hq] at hi hz
    have hs : i.size = 16 := by simpa using hi
    have hzz : i.zero = some (.agg (cellsOf .u8 (mk 16 zeroK))) := by simpa using hz
    refine run_buildSlice w 31 23 1 _ _ i _ keysUnder1 hq hzz (by rw [hs]; omega) (by rw [hs]; omega) ?_
    rw [hs]; exact fill1 f
theorem run_keys2 (f g : Nat → Nat) (w : World) : (Instr.buildSlice 31 2 #[(0, .agg (cellsOf .u8 (mk 16 f))), (1, .agg (cellsOf .u8 (mk 16 g)))]).run Try.prog w = .ok (.slice (some ⟨w.heap.size, 0, none⟩) 2 2) (w.alloc (.cells (cellsOf .u8 (mk 32 (twoK f g))) 23)) := by
  have hi := keyInfo1
  have hz := keyZero
  cases hq : Try.prog.info? 23 with
  | none => rw [hq] at hi; simp at hi
  | some i =>
    rw [hq] at hi hz
    have hs : i.size = 16 := by simpa using hi
    have hzz : i.zero = some (.agg (cellsOf .u8 (mk 16 zeroK))) := by simpa using hz
    refine run_buildSlice w 31 23 2 _ _ i _ keysUnder1 hq hzz (by rw [hs]; omega) (by rw [hs]; omega) ?_
    rw [hs]; exact fill2 f g
/-- A slice made of one key, and of two. -/
theorem done_keys1 {o : Oper} {a : Act} {w : World} {K : Value → World → Prop} (x : Operand) (ho : o.op = .buildSlice 31 1 #[(0, x)]) (f : Nat → Nat) (hx : a.eval x = .agg (cellsOf .u8 (mk 16 f)))
    (h : K (.slice (some ⟨w.heap.size, 0, none⟩) 1 1) (w.alloc (.cells (cellsOf .u8 (mk 16 f)) 23))) : doneAt Try.prog o a w K := by
  have e := run_keys1 f w
  unfold doneAt execOp
  simp only [ho]
  simp [hx, e]
  exact h
theorem done_keys2 {o : Oper} {a : Act} {w : World} {K : Value → World → Prop} (x y : Operand) (ho : o.op = .buildSlice 31 2 #[(0, x), (1, y)]) (f g : Nat → Nat) (hx : a.eval x = .agg (cellsOf .u8 (mk 16 f))) (hy : a.eval y = .agg (cellsOf .u8 (mk 16 g)))
    (h : K (.slice (some ⟨w.heap.size, 0, none⟩) 2 2) (w.alloc (.cells (cellsOf .u8 (mk 32 (twoK f g))) 23))) : doneAt Try.prog o a w K := by
  have e := run_keys2 f g w
  unfold doneAt execOp
  simp only [ho]
  simp [hx, hy, e]
  exact h
/-- A call of a function of two arguments, which makes memory of its own alone. -/
theorem done_call2 {o : Oper} {a : Act} {w : World} {K : Value → World → Prop} (x y z : Operand) (ts : Array TypeId) (ho : o.op = .call { callee := .value x, args := #[y, z], argTypes := ts }) (g : FuncId) (hx : a.eval x = .func (.func g) #[] #[])
    (u v : Value) (hy : a.eval y = u) (hz : a.eval z = v) (hf : ∀ (args : Array Value) (w : World), (callFunc g args).run Try.prog w = .ok (.enter g args) w) (r : Value)
    (hc : Calls Try.prog g #[u, v] w fun e w' => e = .returned r ∧ Below w.heap.size w w') (hk : ∀ w', Below w.heap.size w w' → K r w') : doneAt Try.prog o a w K :=
  done_call x #[y, z] ts ho g #[u, v] hx (by simp only [List.map_toArray, List.map_cons, List.map_nil, hy, hz]) (hf _ w) (hc.mono fun _ w' ⟨he, hb⟩ => ⟨r, he, hk w' hb⟩)
end Go.Proofs.Ytilfjmpoiiepkaa
