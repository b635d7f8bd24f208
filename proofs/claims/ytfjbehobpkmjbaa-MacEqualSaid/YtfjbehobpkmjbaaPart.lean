/- Parts of blocks of bytes: an array loaded from, stored into, or copied into the middle of a block. Condition: the part lies within the block. -/
import Derived.Test.YtfjbehobpkmjbaaKey
import Derived.Test.YtfjbehobpkmjbaaBlk
import Derived.Laws.CopyOwn
import Derived.Deep.Quiet
namespace Go.Proofs.Ytfjbehobpkmjbaa
open Go Go.RowKit

/-- A function with n values laid in at place o. -/
def put (F : Nat → Nat) (o n : Nat) (g : Nat → Nat) : Nat → Nat := fun j => if o ≤ j ∧ j < o + n then g (j - o) else F j
theorem addr_add (B o j : Nat) : (⟨B, o, none⟩ : Addr).add j = ⟨B, o + j, none⟩ := by unfold Addr.add; split <;> simp_all
/-- Cells that hold bytes. -/
def Cells (w : World) (B o n : Nat) (f : Nat → Nat) : Prop := ∀ j, j < n → w.cell? ⟨B, o + j, none⟩ = some (.int .u8 (f j))
theorem IntBlk.cells {w : World} {B N : Nat} {t : TypeId} {F : Nat → Nat} (h : IntBlk w B .u8 t (mk N F)) {o n : Nat} (hn : o + n ≤ N) : Cells w B o n (fun j => F (o + j)) := fun j hj => by
  have := h.cell (i := o + j) (by rw [mk_len]; omega)
  rwa [mk_get (by omega)] at this
theorem put_list (N : Nat) (F : Nat → Nat) {o n : Nat} (g : Nat → Nat) (h : o + n ≤ N) : (mk N F).take o ++ (mk n g ++ (mk N F).drop (o + n)) = mk N (put F o n g) := by
  apply List.ext_getElem
  · simp [mk_len]; omega
  · intro i h1 h2
    have hi : i < N := by simpa [mk_len] using h2
    have e : (mk N (put F o n g))[i] = ((put F o n g i : Nat) : Int) := by simp [mk]
    rw [e]
    have get : ∀ (G : Nat → Nat) (M k : Nat) (hk : k < (mk M G).length), (mk M G)[k] = (G k : Int) := fun G M k hk => by simp [mk]
    rcases Nat.lt_or_ge i o with l | l
    · rw [List.getElem_append_left (by simp [mk_len]; omega), List.getElem_take, get]
      have : put F o n g i = F i := if_neg (by omega)
      rw [this]
    · rw [List.getElem_append_right (by simp [mk_len]; omega)]
      have eo : ((mk N F).take o).length = o := by simp [mk_len]; omega
      rcases Nat.lt_or_ge i (o + n) with l2 | l2
      · rw [List.getElem_append_left (by simp [mk_len]; omega), get]
        have : put F o n g i = g (i - o) := if_pos ⟨l, l2⟩
        rw [this, eo]
      · rw [List.getElem_append_right (by simp [mk_len]; omega), List.getElem_drop, get]
        have : put F o n g i = F i := if_neg (by omega)
        rw [this]
        congr 2
        simp only [mk_len, eo]; omega
theorem put_cells (N : Nat) (F : Nat → Nat) {o n : Nat} (g : Nat → Nat) (h : o + n ≤ N) : ((cellsOf .u8 (mk N F)).toList.take o ++ ((mk n g).map (Value.int .u8) ++ (cellsOf .u8 (mk N F)).toList.drop (o + n))).toArray = cellsOf .u8 (mk N (put F o n g)) := by
  unfold cellsOf
  rw [← put_list N F g h]
  simp [List.map_append, List.map_take, List.map_drop]
theorem bytes_one (l : List Int) : ∀ v ∈ l.map (Value.int .u8), v.oneCell' = true := fun v hv => by
  obtain ⟨x, _, rfl⟩ := List.mem_map.1 hv; rfl

section
variable {P : Program} {ops : Array Oper} {rest : List Oper} {o : Oper} {a : Act} {w : World} {Q : Exit → Act → World → Prop}
theorem run_loadVar_part (B off n : Nat) (f : Nat → Nat) (ty : TypeId) (d : TypeDesc) (hc : Cells w B off n f)
    (hu : P.underlying ty = some d) (hd : (match d with | .struct _ | .array _ _ => true | _ => false) = true) (hi : (P.info? ty).map (·.size) = some n) :
    (loadVar ty ⟨B, off, none⟩).run P w = .ok (.agg (cellsOf .u8 (mk n f))) w := by
  have hlen : (cellsOf .u8 (mk n f)).toList.length = n := by rw [Array.length_toList, cellsOf_size, mk_len]
  have hl := run_loadCells_list (P := P) w ⟨B, off, none⟩ (cellsOf .u8 (mk n f)).toList (fun j v hv => by
    rw [addr_add]
    have hj : j < n := by
      have h1 : j < (cellsOf .u8 (mk n f)).toList.length := by
        rcases Nat.lt_or_ge j (cellsOf .u8 (mk n f)).toList.length with h | h
        · exact h
        · rw [List.getElem?_eq_none h] at hv; cases hv
      omega
    have h2 : (cellsOf .u8 (mk n f))[j]? = some v := by simpa using hv
    rw [cellsOf_get _ _ (by rw [mk_len]; exact hj), mk_get hj] at h2
    rw [hc j hj]; exact h2)
  rw [hlen] at hl
  cases hq : P.info? ty with
  | none => simp [hq] at hi
  | some i =>
    have hs : i.size = n := by simpa [hq] using hi
    have hagg : (isAgg ty).run P w = .ok true w := by
      unfold isAgg
      rw [Sem.run_bind, run_underlying hu w]
      cases d <;> simp_all
    simp [loadVar, Sem.run_bind, hagg, sizeOf, typeInfo, hq, hs, hl]
theorem wpList_load_part (hgd : o.guard = none) (ty : TypeId) (x : Operand) (ho : o.op = .load ty x) (B off n : Nat) (f : Nat → Nat) (hx : a.eval x = .pointer (some ⟨B, off, none⟩)) (d : TypeDesc) (hc : Cells w B off n f)
    (hu : P.underlying ty = some d) (hd : (match d with | .struct _ | .array _ _ => true | _ => false) = true) (hi : (P.info? ty).map (·.size) = some n)
    (h : wpList P ops Q rest (a.put o.dst (.agg (cellsOf .u8 (mk n f)))) w) : wpList P ops Q (o :: rest) a w :=
  wpList_plain hgd fun _ hK => by
    unfold Oper.wp execOp
    simp only [ho, hx, Instr.loadAt, Instr.sureAddr, Sem.run_bind, Sem.run_pure, Result.andThen_ok, run_loadVar_part B off n f ty d hc hu hd hi]
    exact hK _ _ h
theorem quiet_load_part {C : World → Prop} {K : Act → Prop} (ty : TypeId) (x : Operand) (ho : o.op = .load ty x) (B off n : Nat) (f : Nat → Nat) (hx : a.eval x = .pointer (some ⟨B, off, none⟩)) (d : TypeDesc) (hc : ∀ w, C w → Cells w B off n f)
    (hu : P.underlying ty = some d) (hd : (match d with | .struct _ | .array _ _ => true | _ => false) = true) (hi : (P.info? ty).map (·.size) = some n)
    (hk : K (a.put o.dst (.agg (cellsOf .u8 (mk n f))))) : o.quiet P a C K :=
  ⟨_, fun w hw => by
    unfold Oper.quietAt execOp
    simp only [ho, hx, Instr.loadAt, Instr.sureAddr, Sem.run_bind, Sem.run_pure, Result.andThen_ok, run_loadVar_part B off n f ty d (hc w hw) hu hd hi]
    exact ⟨rfl, rfl⟩, hk⟩
theorem wpList_store_part (hgd : o.guard = none) (ty : TypeId) (x y : Operand) (ho : o.op = .store ty x y) (hdst : o.dst = none) (B off n N : Nat) (F g : Nat → Nat) (hx : a.eval x = .pointer (some ⟨B, off, none⟩)) (hy : a.eval y = .agg (cellsOf .u8 (mk n g)))
    (t : TypeId) (hB : IntBlk w B .u8 t (mk N F)) (hn : off + n ≤ N) (hi : (P.info? ty).map (·.size) = some n)
    (h : wpList P ops Q rest a (w.setRow B (cellsOf .u8 (mk N (put F off n g))))) : wpList P ops Q (o :: rest) a w :=
  wpList_plain hgd fun _ hK => by
    have hlen : (cellsOf .u8 (mk n g)).size = n := by rw [cellsOf_size, mk_len]
    have hst := run_storeCells_at P B off t ((mk n g).map (Value.int .u8)) 0 (cellsOf .u8 (mk N F)) w hB (by rw [cellsOf_size, mk_len, List.length_map, mk_len]; omega) (bytes_one _)
    rw [List.length_map, mk_len, Nat.add_zero, List.append_assoc, put_cells N F g hn] at hst
    have hl : (cellsOf .u8 (mk n g)).toList = (mk n g).map (Value.int .u8) := by simp [cellsOf]
    rw [← hl] at hst
    have hrun : (storeVar ty ⟨B, off, none⟩ (.agg (cellsOf .u8 (mk n g)))).run P w = .ok () (w.setRow B (cellsOf .u8 (mk N (put F off n g)))) := by
      cases hq : P.info? ty with
      | none => simp [hq] at hi
      | some i =>
        have hs : i.size = n := by simpa [hq] using hi
        have hc : (Value.agg (cellsOf .u8 (mk n g))).cells = cellsOf .u8 (mk n g) := rfl
        simp [storeVar, Sem.run_bind, sizeOf, typeInfo, hq, hs, hc, hlen, hst]
    unfold Oper.wp execOp
    simp only [ho, hx, hy, Instr.storeAt, Instr.sureAddr, Sem.run_bind, Sem.run_pure, Result.andThen_ok, hrun]
    have := hK _ _ h
    simpa [Oper.upon, hdst, Act.put] using this
theorem wpList_copy_part (hgd : o.guard = none) (d s : Operand) (dT sT : TypeId) (ho : o.op = .call { callee := .builtin .copy, args := #[d, s], argTypes := #[dT, sT] }) (elem : TypeId) (hu : P.underlying dT = some (.slice elem)) (hsz : (P.info? elem).map (·.size) = some 1)
    (B off dLen dCap b so sLen sCap n N : Nat) (F g : Nat → Nat) (hd : a.eval d = .slice (some ⟨B, off, none⟩) dLen dCap) (hs : a.eval s = .slice (some ⟨b, so, none⟩) sLen sCap) (t : TypeId) (hB : IntBlk w B .u8 t (mk N F)) (hn : off + n ≤ N)
    (hm : n = Nat.min sLen dLen) (hc : Cells w b so n g) (h : wpList P ops Q rest (a.put o.dst (goInt n)) (w.setRow B (cellsOf .u8 (mk N (put F off n g))))) : wpList P ops Q (o :: rest) a w := by
  have hl : ((mk n g).map (Value.int .u8)).length = n := by rw [List.length_map, mk_len]
  refine wpList_copy_own hgd d s dT sT ho elem hu hsz B off dLen dCap ⟨b, so, none⟩ sLen sCap hd hs (cellsOf .u8 (mk N F)) t hB ((mk n g).map (Value.int .u8)) (by rw [hl]; exact hm) (fun j v hv => ?_)
    (by rw [hl, cellsOf_size, mk_len]; exact hn) (bytes_one _) ?_
  · rw [addr_add]
    have hj : j < n := by
      rcases Nat.lt_or_ge j ((mk n g).map (Value.int .u8)).length with h | h
      · omega
      · rw [List.getElem?_eq_none h] at hv; cases hv
    rw [hc j hj, ← hv]; simp [mk, hj]
  · rw [hl, put_cells N F g hn]; exact h
end
end Go.Proofs.Ytfjbehobpkmjbaa
