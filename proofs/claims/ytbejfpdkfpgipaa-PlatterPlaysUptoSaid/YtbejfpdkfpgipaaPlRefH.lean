/- Small laws of sectors for regions whose order Go leaves open: a slice made of one sector, an append of it, pointers into rows. No condition. -/
import Derived.Test.YtbejfpdkfpgipaaPlRefC
import Derived.Great.BuildSlice
namespace Go.Proofs.Ytbejfpdkfpgipaa
open Go.ChangeShapes Go.WideShapes Go.ChangeAt Go.RowKit
set_option linter.unusedVariables false
theorem secZero2 : (Try.prog.info? 40).bind (·.zero) = some (.agg (cellsOf .u8 (mk 128 zeroK))) := by kernel_rfl
theorem secBytes : (Try.prog.info? 40).map (·.bytes) = some 128 := by kernel_rfl
theorem secsUnder : Try.prog.underlying 53 = some (.slice 40) := Try.underlying53
theorem sec_fill1 (f : Nat → Nat) : Instr.fill (fun i => some (i * 128, 128)) ((Array.range (1 * 128)).map ((cellsOf .u8 (mk 128 zeroK))[· % (cellsOf .u8 (mk 128 zeroK)).size]!)) [(0, .agg (cellsOf .u8 (mk 128 f)))] = some (cellsOf .u8 (mk 128 f)) := by kernel_rfl
theorem run_secs1 (f : Nat → Nat) (w : World) : (Instr.buildSlice 53 1 #[(0, .agg (cellsOf .u8 (mk 128 f)))]).run Try.prog w = .ok (.slice (some ⟨w.heap.size, 0, none⟩) 1 1) (w.alloc (.cells (cellsOf .u8 (mk 128 f)) 40)) := by
  have hi := secInfo3
  have hz := secZero2
  cases hq : Try.prog.info? 40 with
  | none => rw [hq] at hi; simp at hi
  | some i =>
    rw [hq] at hi hz
    have hs : i.size = 128 := by simpa using hi
    have hzz : i.zero = some (.agg (cellsOf .u8 (mk 128 zeroK))) := by simpa using hz
    refine run_buildSlice w 53 40 1 _ _ i _ secsUnder hq hzz (by rw [hs]; omega) (by rw [hs]; omega) ?_
    rw [hs]; exact sec_fill1 f
theorem done_secs1 {o : Oper} {a : Act} {w : World} {K : Value → World → Prop} (x : Operand) (ho : o.op = .buildSlice 53 1 #[(0, x)]) (f : Nat → Nat) (hx : a.eval x = .agg (cellsOf .u8 (mk 128 f)))
    (h : K (.slice (some ⟨w.heap.size, 0, none⟩) 1 1) (w.alloc (.cells (cellsOf .u8 (mk 128 f)) 40))) : doneAt Try.prog o a w K := by
  have e := run_secs1 f w
  unfold doneAt execOp
  simp only [ho]
  simp [hx, e]
  exact h
theorem bytesList_ext (n : Nat) (F F' : Nat → Nat) (h : ∀ j, j < n → F j = F' j) : bytesList n F = bytesList n F' := by
  refine List.ext_getElem? fun j => ?_
  by_cases hj : j < n
  · simp [bytesList, hj, h j hj]
  · simp [bytesList, hj]
/-- The row behind an append of one sector. -/
def moreG (G : Nat → Nat) (n : Nat) (f : Nat → Nat) : Nat → Nat := fun j => if j < n * 128 then G j else f (j - n * 128)
theorem done_sec_append {o : Oper} {a : Act} {w : World} {K : Value → World → Prop} (s x : Operand) (ho : o.op = .call { callee := .builtin .append, args := #[s, x], argTypes := #[53, 53] })
    (base n c : Nat) (v : Value) (G f : Nat → Nat) (D : Nat) (hs : a.eval s = v) (hx : a.eval x = .slice (some ⟨D, 0, none⟩) 1 c) (hv : w.ownsRow base 40 128 v n (bytesList (n * 128) G)) (hc : Cells w D 0 128 f) (hn : n ≤ 100000) (hbase : base ≤ w.heap.size)
    (h : ∀ v' w', w'.ownsRow base 40 128 v' (n + 1) (bytesList ((n + 1) * 128) (moreG G n f)) → w.grownBy w' v.ownBlock → (v'.ownBlock = v.ownBlock ∨ v'.ownBlock = some w.heap.size) → K v' w') : doneAt Try.prog o a w K := by
  have hi := secInfo3
  have hz := secZero2
  have hb := secBytes
  cases hq : Try.prog.info? 40 with
  | none => rw [hq] at hi; simp at hi
  | some i =>
    rw [hq] at hi hz hb
    have hsz : i.size = 128 := by simpa using hi
    have hzz : i.zero = some (.agg (cellsOf .u8 (mk 128 zeroK))) := by simpa using hz
    have hby : i.bytes = 128 := by simpa using hb
    have hG : bytesList (n * 128) G = bytesList (n * 128) (moreG G n f) := bytesList_ext _ _ _ fun j hj => by unfold moreG; rw [if_pos hj]
    rw [hG] at hv
    obtain ⟨v', w', hrun, r1, r2, _, r3⟩ := run_append_own_at (P := Try.prog) w base 53 o.type 40 i (.agg (cellsOf .u8 (mk 128 zeroK))) 128 128 secsUnder hq hzz hsz hby (by show (cellsOf .u8 (mk 128 zeroK)).size = 128; rw [cellsOf_size, mk_len]) (by omega)
      v n (bytesList (n * 128) (moreG G n f)) hv ⟨D, 0, none⟩ 1 c (bytesList 128 f) (by rw [bytesList_len, Nat.one_mul]) (fun j u hj => by
        obtain ⟨hj1, rfl⟩ := bytesList_get hj
        rw [addr_add]; exact hc j hj1) bytesList_one (by simp only [maxLen]; omega) (by omega) hbase
    rw [bytesList_more (n * 128) 128 (moreG G n f) f (fun j hj => by unfold moreG; rw [if_neg (by omega), Nat.add_sub_cancel_left]), show n * 128 + 128 = (n + 1) * 128 by omega] at r1
    unfold doneAt
    simp [execOp, ho, resolve, invoke, builtin, hs, hx, hrun, Result.andThen]
    exact h v' w' r1 r2 r3
section
variable {o : Oper} {a : Act} {C : World → Prop} {K : Act → Prop}
theorem gives_nil_check (x : Operand) (ho : o.op = .nilCheck x) (p : Addr) (hx : a.eval x = .pointer (some p)) (hk : K (a.put o.dst (.pointer (some p)))) : ∃ v, Gives Try.prog C o a v ∧ K (a.put o.dst v) :=
  ⟨_, fun w _ => by
    unfold execOp
    simp only [ho, hx]
    simp [go_sem], hk⟩
theorem gives_field (x : Operand) (k : Nat) (ho : o.op = .fieldAddr 56 x k) (hk7 : k < 7) (B : Nat) (hx : a.eval x = .pointer (some ⟨B, 0, none⟩)) (hk : K (a.put o.dst (.pointer (some ⟨B, k, none⟩)))) : ∃ v, Gives Try.prog C o a v ∧ K (a.put o.dst v) :=
  ⟨_, fun w _ => by
    unfold execOp
    simp only [ho, hx]
    rcases k with _ | _ | _ | _ | _ | _ | _ | k
    all_goals first | (exfalso; omega) | simp [go_sem], hk⟩
theorem gives_box (t : TypeId) (x : Operand) (ho : o.op = .load t x) (p : Addr) (v : Value) (hx : a.eval x = .pointer (some p)) (hu : ∀ w, (isAgg t).run Try.prog w = .ok false w) (hB : ∀ w, C w → w.cell? p = some v) (hk : K (a.put o.dst v)) : ∃ v, Gives Try.prog C o a v ∧ K (a.put o.dst v) :=
  ⟨_, fun w hw => by
    have hc := hB w hw
    unfold execOp
    simp only [ho, hx]
    simp [go_sem, hc, hu], hk⟩
theorem box_tabs (w : World) : (isAgg 54).run Try.prog w = .ok false w := by simp [go_sem]
theorem gives_slot (x y : Operand) (ho : o.op = .indexAddr 54 x y) (B n cap k : Nat) (hx : a.eval x = .slice (some ⟨B, 0, none⟩) n cap) (hy : a.eval y = .int .i64 k) (hk4 : k < n) (hk : K (a.put o.dst (.pointer (some ⟨B, k, none⟩)))) : ∃ v, Gives Try.prog C o a v ∧ K (a.put o.dst v) :=
  ⟨_, fun w _ => by
    have h0 : (k : Int) < n := by omega
    unfold execOp
    simp only [ho, hx, hy]
    simp [go_sem, Try.underlying54, h0, addr_add], hk⟩
theorem gives_sec_load (x : Operand) (ho : o.op = .load 40 x) (B : Nat) (f : Nat → Nat) (hx : a.eval x = .pointer (some ⟨B, 0, none⟩)) (hB : ∀ w, C w → IntBlk w B .u8 40 (mk 128 f)) (hk : K (a.put o.dst (.agg (cellsOf .u8 (mk 128 f))))) : ∃ v, Gives Try.prog C o a v ∧ K (a.put o.dst v) :=
  ⟨_, fun w hw => by
    have hc : Cells w B 0 128 f := by
      have := (hB w hw).cells (o := 0) (n := 128) (by omega)
      intro j hj
      have := this j hj
      simp only [Nat.zero_add] at this ⊢
      exact this
    unfold execOp
    simp only [ho, hx, Instr.loadAt, Instr.sureAddr, Sem.run_bind, Sem.run_pure, Result.andThen_ok, run_loadVar_part B 0 128 f 40 _ hc secUnder rfl secInfo3], hk⟩
end
end Go.Proofs.Ytbejfpdkfpgipaa
