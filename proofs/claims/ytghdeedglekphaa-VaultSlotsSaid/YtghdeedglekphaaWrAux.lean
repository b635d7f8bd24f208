/- Laws that layer 7's contracts share: all but one block stands; operations in a fence; slices taken of slices and of keys; appends in regions walked by one order. Conditions: as each says. -/
import Derived.Test.YtghdeedglekphaaWrCipher
import Derived.Test.YtghdeedglekphaaWrRefs
import Derived.Test.YtghdeedglekphaaPlBase
import Derived.OneCell
import Derived.OwnWalkIn
import Derived.OwnWalk
import Derived.TacticsInMore
import Derived.LoopNIn
import Derived.LoopIn
namespace Go.Proofs.Ytghdeedglekphaa
open Go.ChangeShapes Go.WideShapes Go.ChangeAt Go.RowKit
set_option linter.unusedVariables false

theorem But.aft {B D : Nat} {w w' : World} (h : But B w w') (hB : B < D) : Aft D w w' := ⟨h.size, fun k hk hi => h.same k hi (by omega)⟩
/-- Round keys that don't lie in block B. -/
def KeysOff (B : Nat) (w : World) (p : Option Addr) (n : Nat) (R : Nat → Nat → Nat) : Prop := n = 0 ∨ ∃ C o, p = some ⟨C, o, none⟩ ∧ C < w.heap.size ∧ C ≠ B ∧ ∀ i, i < n → Cells w C (o + i * 16) 16 (R i)
theorem KeysOff.keys {B : Nat} {w : World} {p : Option Addr} {n : Nat} {R : Nat → Nat → Nat} (h : KeysOff B w p n R) : KeysAt w p n R := by
  rcases h with h | ⟨C, o, hp, hC, _, hc⟩
  · exact .inl h
  · exact .inr ⟨C, o, hp, hC, hc⟩
theorem KeysOff.but {B : Nat} {w w' : World} {p : Option Addr} {n : Nat} {R : Nat → Nat → Nat} (h : KeysOff B w p n R) (hb : But B w w') : KeysOff B w' p n R := by
  rcases h with h | ⟨C, o, hp, hC, hne, hc⟩
  · exact .inl h
  · exact .inr ⟨C, o, hp, Nat.lt_of_lt_of_le hC hb.size, hne, fun i hi j hj => by rw [World.cell?_of_block (hb.same C hC hne)]; exact hc i hi j hj⟩
theorem KeysOff.below {B : Nat} {w w' : World} {p : Option Addr} {n : Nat} {R : Nat → Nat → Nat} (h : KeysOff B w p n R) (hb : Below w.heap.size w w') : KeysOff B w' p n R := h.but (.of hb)
theorem bytesInfo1 : (Try.prog.info? 5).map (·.size) = some 1 := by kernel_rfl
theorem bytesUnder2 : Try.prog.underlying 22 = some (.slice 5) := Try.underlying22
theorem put_whole (N : Nat) (F g : Nat → Nat) : mk N (put F 0 N g) = mk N g := mk_ext fun j hj => by unfold put; rw [if_pos (by omega), Nat.sub_zero]
section
variable {P : Program} {ops : Array Oper} {Q : Exit → Act → World → Prop} {l n : Nat}
theorem upon_fence {o : Oper} {a : Act} {K : Act → World → Prop} {r : Result Next} (h : o.upon P a K Q r) : o.uponIn Fence.wide n P a K Q r := by
  cases r with
  | ok x w' =>
    cases x with
    | value v => exact h
    | skip => exact h
    | defer d => exact h
    | enter f args => exact ⟨fun h => by simp [Fence.wide] at h, callsIn_wide.2 h⟩
    | row row args => exact ⟨fun h => by simp [Fence.wide] at h, fun c cs _ => let ⟨v, w'', r, s⟩ := h c cs; ⟨v, w'', r, stepsIn_wide.2 s⟩⟩
    | _ => exact h.elim
  | halt x w' => cases x <;> first | exact h | exact h.elim
theorem oper_fence {o : Oper} {a : Act} {w : World} {K : Act → World → Prop} (hd : noDefer o = true) (h : o.wp P a w K Q) : o.wpIn Fence.wide n P a w K Q :=
  ⟨fun _ _ => trivial, by rw [Oper.semAt_eq _ _ _ (noDefer_spec hd)]; exact upon_fence h⟩
theorem wpListIn_fence {F : Fence} {o : Oper} {rest : List Oper} {a a2 : Act} {w w2 : World} (hF : F = Fence.wide) (hg : o.guard = none) (hd : noDefer o = true) (h : wpList P ops (fun e a' w' => e = .normal ∧ a' = a2 ∧ w' = w2) [o] a w)
    (hk : wpListIn F n P ops Q rest a2 w2) : wpListIn F n P ops Q (o :: rest) a w := by
  subst hF
  refine wpListIn_plain hg fun K hK => ?_
  exact oper_fence hd (wp_of_list hg h (hK _ _ hk))
end
section
variable {ops : Array Oper} {rest : List Oper} {o : Oper} {a : Act} {w : World} {Q : Exit → Act → World → Prop}
end
theorem cells_setCell {w : World} {B i : Nat} {cs : Array Value} {t : TypeId} {fr : Nat × Nat} (h : w.heap[B]? = some (.cells cs t fr)) (v : Value) : (w.setCell ⟨B, i, none⟩ v).heap[B]? = some (.cells (cs.setIfInBounds i v) t fr) := by
  have hlt := lt_of_block h
  have h' : w.heap[B] = .cells cs t fr := by simpa [Array.getElem?_eq_getElem hlt] using h
  show (w.heap.modify B _)[B]? = _
  rw [Array.getElem?_eq_getElem (by simpa using hlt), Array.getElem_modify_self, h']
  simp
section
variable {o : Oper} {a : Act} {C : World → Prop} {K : Act → Prop}
theorem quiet_lie (t : TypeId) (x : Operand) (ho : o.op = .load t x) (p : Addr) (v : Value) (hx : a.eval x = .pointer (some p)) (hu : ∀ w, (isAgg t).run Try.prog w = .ok false w) (hB : ∀ w, C w → w.cell? p = some v) (hk : K (a.put o.dst v)) : o.quiet Try.prog a C K := by
  refine quiet_value _ (fun w hw => ?_) hk
  have hc := hB w hw
  unfold execOp
  simp only [ho, hx]
  simp [go_sem, hc, hu]
end
theorem box_slice (w : World) : (isAgg 22).run Try.prog w = .ok false w := by simp [go_sem]
theorem box_int (w : World) : (isAgg 3).run Try.prog w = .ok false w := by simp [go_sem]
theorem append_own_run {base top k : Nat} {v : Value} {F f : Nat → Nat} (w : World) (ty : TypeId) (hv : OwnS 5 1 w base top v k F) (p : Option Addr) (n cap : Nat) (hp : BytesAt w p n f) (hf : ∀ j, j < n → f j = F (k + j)) (hk : k + n ≤ 100000) (hbase : base ≤ w.heap.size) :
    ∃ v' w', (Builtin.append_ #[22, 22] ty #[v, .slice p n cap]).run Try.prog w = .ok v' w' ∧ OwnS 5 1 w' base w'.heap.size v' (k + n) F ∧ Below base w w' := by
  have hi := byteInfo
  have hz := byteZero1
  have hb := byteBytes1
  cases hq : Try.prog.info? 5 with
  | none => rw [hq] at hi; simp at hi
  | some i =>
    rw [hq] at hi hb hz
    have hsz : i.size = 1 := by simpa using hi
    have hzz : i.zero = some (.int .u8 0) := by simpa using hz
    have hby : i.bytes = 1 := by simpa using hb
    by_cases h0 : n = 0
    · subst h0
      have hsrc : Src Try.prog i.size 22 (.slice p 0 cap) 0 [] w := by
        cases p with
        | none => exact Src.ofNil w bytesUnder cap
        | some ad => exact Src.ofSlice w bytesUnder ad 0 cap [] (by simp) (fun j u hu => by simp at hu) (fun u hu => by cases hu)
      have hrow := hv.owns
      obtain ⟨q, c, rfl, hc⟩ : ∃ q c, v = .slice q k c ∧ k ≤ c := by
        rcases hv with ⟨h1, h2⟩ | ⟨B, c, cur, h1, _, _, _, h5, _⟩
        · subst h2; exact ⟨none, 0, h1, Nat.le_refl _⟩
        · exact ⟨_, c, h1, h5⟩
      exact ⟨_, w, run_append_nothing (P := Try.prog) w 22 22 ty 5 i bytesUnder hq q k c hc (.slice p 0 cap) hsrc, OwnS.of_owns hrow, Below.refl _ _⟩
    · rcases hp with hp | ⟨B, off, rfl, hB, hc⟩
      · exact absurd hp h0
      · obtain ⟨v', w', hrun, r1, r2, _⟩ := run_append_own (P := Try.prog) w base 22 ty 5 i (.int .u8 0) 1 1 bytesUnder hq hzz hsz hby rfl (by omega)
          v k (bytesList (k * 1) F) hv.owns ⟨B, off, none⟩ n cap (bytesList n f) (by rw [bytesList_len, Nat.mul_one]) (fun j u hj => by
            obtain ⟨hj1, rfl⟩ := bytesList_get hj
            rw [addr_add]; exact hc j hj1) bytesList_one (by simp only [maxLen]; omega) (by omega) hbase
        rw [bytesList_more (k * 1) n F f (fun j hj => by rw [Nat.mul_one]; exact hf j hj), show k * 1 + n = (k + n) * 1 by omega] at r1
        exact ⟨v', w', hrun, OwnS.of_owns r1, below_own r2 hv.block hbase⟩
theorem done_append {o : Oper} {a : Act} {w : World} {K : Value → World → Prop} (s x : Operand) (t tn : TypeId) (ho : o.op = .call { callee := .builtin .append, args := #[s, x], argTypes := #[t, tn] }) (vs vx : Value) (hs : a.eval s = vs) (hx : a.eval x = vx)
    (v' : Value) (w' : World) (hr : (Builtin.append_ #[t, tn] o.type #[vs, vx]).run Try.prog w = .ok v' w') (h : K v' w') : doneAt Try.prog o a w K := by
  unfold doneAt execOp
  simp only [ho, resolve, invoke, builtin, Sem.run_bind, Sem.run_pure, Result.andThen_ok, List.map_toArray, List.map_cons, List.map_nil, hs, hx, hr]
  exact h
theorem done_build0 {o : Oper} {a : Act} {w : World} {K : Value → World → Prop} (ho : o.op = .buildSlice 22 0 #[]) (h : K (.slice (some ⟨w.heap.size, 0, none⟩) 0 0) (w.alloc (.cells (cellsOf .u8 []) 5))) : doneAt Try.prog o a w K := by
  have e : (Instr.buildSlice 22 0 #[]).run Try.prog w = .ok (.slice (some ⟨w.heap.size, 0, none⟩) 0 0) (w.alloc (.cells (cellsOf .u8 []) 5)) := by simp [go_sem, cellsOf]
  unfold doneAt execOp
  simp only [ho]
  simp [e]
  exact h
theorem run_key_row (B : Nat) (w : World) : (Instr.sliceAt 65 (.pointer (some ⟨B, 0, none⟩)) none none none).run Try.prog w = .ok (.slice (some ⟨B, 0, none⟩) 16 16) w := by
  have hs := byteElem.run_size (P := Try.prog) w
  simp [go_sem, hs, addr_add, Program.elem]
theorem gives_key_row {o : Oper} {a : Act} {C : World → Prop} {K : Act → Prop} (x : Operand) (ho : o.op = .slice 65 x none none none) (B : Nat) (hx : a.eval x = .pointer (some ⟨B, 0, none⟩)) (hk : K (a.put o.dst (.slice (some ⟨B, 0, none⟩) 16 16))) : ∃ v, Gives Try.prog C o a v ∧ K (a.put o.dst v) := by
  refine ⟨_, fun w _ => ?_, hk⟩
  have hr := run_key_row B w
  unfold execOp
  simp only [ho, hx]
  simp [hr]
theorem run_key_upto (B k : Nat) (hk : k ≤ 16) (w : World) : (Instr.sliceAt 65 (.pointer (some ⟨B, 0, none⟩)) none (some (.int .i64 k)) none).run Try.prog w = .ok (.slice (some ⟨B, 0, none⟩) k 16) w := by
  have hs := byteElem.run_size (P := Try.prog) w
  have e1 : (0 : Int) ≤ k := by omega
  have e2 : (k : Int) ≤ 16 := by omega
  simp [go_sem, hs, e1, e2, addr_add, Program.elem]
theorem wpList_key_upto {ops : Array Oper} {rest : List Oper} {o : Oper} {a : Act} {w : World} {Q : Exit → Act → World → Prop} (hgd : o.guard = none) (x y : Operand) (ho : o.op = .slice 65 x none (some y) none) (B k : Nat) (z : Int) (hz : z = k) (hx : a.eval x = .pointer (some ⟨B, 0, none⟩)) (hy : a.eval y = .int .i64 z) (hk : k ≤ 16)
    (h : wpList Try.prog ops Q rest (a.put o.dst (.slice (some ⟨B, 0, none⟩) k 16)) w) : wpList Try.prog ops Q (o :: rest) a w := by
  subst hz
  refine wpList_plain hgd fun K hK => ?_
  have hr := run_key_upto B k hk w
  unfold Oper.wp execOp
  simp only [ho, hx]
  simp [hy, hr]
  exact hK _ _ h
theorem run_key_from (B : Nat) (w : World) : (Instr.sliceAt 65 (.pointer (some ⟨B, 0, none⟩)) (some (.int .i64 8)) none none).run Try.prog w = .ok (.slice (some ⟨B, 8, none⟩) 8 8) w := by
  have hs := byteElem.run_size (P := Try.prog) w
  simp [go_sem, hs, addr_add, Program.elem]
theorem wpList_key_from {ops : Array Oper} {rest : List Oper} {o : Oper} {a : Act} {w : World} {Q : Exit → Act → World → Prop} (hgd : o.guard = none) (x y : Operand) (ho : o.op = .slice 65 x (some y) none none) (B : Nat) (hx : a.eval x = .pointer (some ⟨B, 0, none⟩)) (hy : a.eval y = .int .i64 8)
    (h : wpList Try.prog ops Q rest (a.put o.dst (.slice (some ⟨B, 8, none⟩) 8 8)) w) : wpList Try.prog ops Q (o :: rest) a w := by
  refine wpList_plain hgd fun K hK => ?_
  have hr := run_key_from B w
  unfold Oper.wp execOp
  simp only [ho, hx]
  simp [hy, hr]
  exact hK _ _ h
end Go.Proofs.Ytghdeedglekphaa
