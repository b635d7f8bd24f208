/- Rows of bytes that grow by append, with all that lies in their room; a byte appended. Condition: as each says. -/
import Derived.Test.YtccpecajbfpjdaaDoorChC2
import Derived.Laws.Append
import Derived.Lib.AppendZeros
namespace Go.Proofs.YtccpecajbfpjdaaDoor
open Go.ChangeShapes Go.WideShapes Go.ChangeAt Go.RowKit Go.Shelf
set_option linter.unusedVariables false
set_option linter.unusedSimpArgs false
theorem zeros_u8 (n : Nat) : (Builtin.zeroCells (Value.int .u8 0).cells n).toList = (mk n zeroK).map (Value.int .u8) := by
  apply List.ext_getElem?
  intro i
  have hs : (Value.int .u8 0).cells.size = 1 := rfl
  by_cases hi : i < n
  · simp [Builtin.zeroCells, hs, mk, zeroK, hi]
    rw [Nat.mod_one]; rfl
  · simp [Builtin.zeroCells, hs, mk, hi]
theorem append_full {w : World} (ty : TypeId) {D s : Nat} {F : Nat → Nat} (h : IntBlk w D .u8 5 (mk s F)) (p : Option Addr) (n cap : Nat) (g : Nat → Nat) (hp : BytesAt w p n g) (h0 : 0 < n) (hk : s + n ≤ 140737488355328) :
    ∃ C w', (Builtin.append_ #[22, 22] ty #[.slice (some ⟨D, 0, none⟩) s s, .slice p n cap]).run Tryd.prog w = .ok (.slice (some ⟨w.heap.size, 0, none⟩) (s + n) C) w' ∧ IntBlk w' w.heap.size .u8 5 (mk C (extF (s + n) (cat s F g))) ∧ s + n ≤ C ∧ Below w.heap.size w w' := by
  have hi := byteInfo
  have hz := byteZero1
  have hb := byteBytes1
  cases hq : Tryd.prog.info? 5 with
  | none => rw [hq] at hi; simp at hi
  | some i =>
    rw [hq] at hi hb hz
    have hsz : i.size = 1 := by simpa using hi
    have hzz : i.zero = some (.int .u8 0) := by simpa using hz
    have hby : i.bytes = 1 := by simpa using hb
    rcases hp with hp | ⟨B, off, rfl, hB, hc⟩
    · omega
    · have e := run_append_grow (P := Tryd.prog) w 22 ty 5 i (.int .u8 0) bytesUnder hq hzz ⟨D, 0, none⟩ s s (bytesList s F) (by rw [bytesList_len, hsz, Nat.mul_one]) (fun j u hj => by
          obtain ⟨hj1, rfl⟩ := bytesList_get hj
          rw [addr_add]
          have := h.cells (o := 0) (n := s) (by omega) j hj1
          simp only [Nat.zero_add] at this ⊢
          exact this) ⟨B, off, none⟩ n cap (bytesList n g) (by rw [bytesList_len, hsz, Nat.mul_one]) (fun j u hj => by
          obtain ⟨hj1, rfl⟩ := bytesList_get hj
          rw [addr_add]; exact hc j hj1) (by omega) (by omega) (growslice_fits (by omega) (by rw [hby]; omega))
      have hge := grownCap_ge w (s + n) s 5
      refine ⟨_, _, e, ?_, hge, (Below.refl _ w).drew.alloc (Nat.le_refl _) _⟩
      obtain ⟨M, hM⟩ : ∃ M, grownCap w (s + n) s 5 = s + n + M := ⟨_, (Nat.add_sub_cancel' hge).symm⟩
      rw [hM, Nat.add_sub_cancel_left]
      have ec : (bytesList s F).toArray ++ (bytesList n g).toArray ++ Builtin.zeroCells (Value.int .u8 0).cells M = cellsOf .u8 (mk (s + n + M) (extF (s + n) (cat s F g))) := by
        apply Array.ext'
        rw [Array.toList_append, Array.toList_append, zeros_u8]
        have e1 : mk (s + n + M) (extF (s + n) (cat s F g)) = mk s F ++ mk n g ++ mk M zeroK := by
          apply List.ext_getElem?
          intro j
          unfold mk extF cat zeroK
          by_cases h1 : j < s
          · rw [List.append_assoc, List.getElem?_append_left (by simpa using h1)]
            simp [h1, show j < s + n + M by omega, show j < s + n by omega]
          · by_cases h2 : j < s + n
            · rw [List.getElem?_append_left (by simp; omega), List.getElem?_append_right (by simp; omega)]
              simp [h1, h2, show j < s + n + M by omega, show j - s < n by omega]
            · rw [List.getElem?_append_right (by simp; omega)]
              by_cases h3 : j < s + n + M
              · simp [h2, h3, show j - (s + n) < M by omega]
              · simp [h3, show ¬ j - (s + n) < M by omega]
        unfold cellsOf
        rw [e1]
        simp [bytesList, mk]
        rfl
      have hw : (w.drew).heap.size = w.heap.size := rfl
      show IntBlk _ _ _ _ _
      unfold IntBlk
      rw [ec]
      exact heap_alloc_new w.drew _

/-- A slice that grows: nil, or all of a row, of which the first k bytes are F's. -/
def OwnZ (w : World) (base top : Nat) (v : Value) (k : Nat) (F : Nat → Nat) : Prop :=
  (v = .slice none 0 0 ∧ k = 0) ∨ ∃ (B C : Nat) (G : Nat → Nat), v = .slice (some ⟨B, 0, none⟩) k C ∧ base ≤ B ∧ B < top ∧ k ≤ C ∧ IntBlk w B .u8 5 (mk C G) ∧ ∀ j, j < k → G j = F j
theorem OwnZ.slice {w : World} {base top k : Nat} {v : Value} {F : Nat → Nat} (h : OwnZ w base top v k F) : ∃ p c, v = .slice p k c := by
  rcases h with ⟨rfl, rfl⟩ | ⟨B, C, G, rfl, _⟩
  · exact ⟨_, _, rfl⟩
  · exact ⟨_, _, rfl⟩
theorem OwnZ.same {w w' : World} {base top k : Nat} {v : Value} {F : Nat → Nat} (h : OwnZ w base top v k F) (hb : ∀ B, base ≤ B → B < top → w'.heap[B]? = w.heap[B]?) : OwnZ w' base top v k F := by
  rcases h with h | ⟨B, C, G, h1, h2, h3, h4, h5, h6⟩
  · exact .inl h
  · exact .inr ⟨B, C, G, h1, h2, h3, h4, (hb B h2 h3).trans h5, h6⟩
theorem OwnZ.raise {w : World} {base top top' k : Nat} {v : Value} {F : Nat → Nat} (h : OwnZ w base top v k F) (ht : top ≤ top') : OwnZ w base top' v k F := by
  rcases h with h | ⟨B, C, G, h1, h2, h3, h4⟩
  · exact .inl h
  · exact .inr ⟨B, C, G, h1, h2, Nat.lt_of_lt_of_le h3 ht, h4⟩
theorem OwnZ.later {w w' : World} {base top k : Nat} {v : Value} {F : Nat → Nat} (h : OwnZ w base top v k F) (ht : top ≤ w.heap.size) (hb : Below w.heap.size w w') : OwnZ w' base top v k F := h.same (fun B _ hB => hb.block B (by omega))
theorem OwnZ.append {w : World} {base top k : Nat} {v : Value} {F : Nat → Nat} (h : OwnZ w base top v k F) (hbase : base ≤ w.heap.size) (ty : TypeId) (B c b : Nat) (hB : w.cell? ⟨B, 0, none⟩ = some (.int .u8 (b : Nat))) (hb : b = F k) (hk : k + 1 ≤ 100000) :
    ∃ v' w', (Builtin.append_ #[22, 22] ty #[v, .slice (some ⟨B, 0, none⟩) 1 1]).run Tryd.prog w = .ok v' w' ∧ OwnZ w' base w'.heap.size v' (k + 1) F ∧ Below base w w' := by
  have hp : BytesAt w (some ⟨B, 0, none⟩) 1 (fun _ => b) := .inr ⟨B, 0, rfl, block_lt_of_cell hB, fun j hj => by
    obtain rfl : j = 0 := by omega
    exact hB⟩
  rcases h with ⟨rfl, rfl⟩ | ⟨D, C, G, rfl, h2, h3, h4, h5, h6⟩
  · have hi := byteInfo
    have hz := byteZero1
    have hbb := byteBytes1
    cases hq : Tryd.prog.info? 5 with
    | none => rw [hq] at hi; simp at hi
    | some i =>
      rw [hq] at hi hbb hz
      have hsz : i.size = 1 := by simpa using hi
      have hzz : i.zero = some (.int .u8 0) := by simpa using hz
      have hby : i.bytes = 1 := by simpa using hbb
      have e := run_append_nil (P := Tryd.prog) w 22 ty 5 i (.int .u8 0) bytesUnder hq hzz ⟨B, 0, none⟩ 1 1 [.int .u8 (b : Nat)] (by rw [hsz]; rfl) (fun j u hj => by
        rcases j with _ | j
        · simp only [List.getElem?_cons_zero, Option.some.injEq] at hj; subst hj; rw [addr_add]; exact hB
        · simp at hj) (by omega) (by omega) (by rw [hby]; omega)
      have hge := grownCap_ge w 1 0 5
      obtain ⟨M, hM⟩ : ∃ M, grownCap w 1 0 5 = 1 + M := ⟨_, (Nat.add_sub_cancel' hge).symm⟩
      rw [hM] at e
      rw [Nat.add_sub_cancel_left] at e
      have ec : [Value.int .u8 (b : Nat)].toArray ++ Builtin.zeroCells (Value.int .u8 0).cells M = cellsOf .u8 (mk (1 + M) (extF 1 (fun _ => b))) := by
        apply Array.ext'
        rw [Array.toList_append, zeros_u8]
        have e1 : mk (1 + M) (extF 1 (fun _ => b)) = mk 1 (fun _ => b) ++ mk M zeroK := by
          apply List.ext_getElem?
          intro j
          unfold mk extF zeroK
          by_cases h1 : j < 1
          · rw [List.getElem?_append_left (by simpa using h1)]
            obtain rfl : j = 0 := by omega
            simp [List.getElem?_range, show 0 < 1 + M by omega]
          · rw [List.getElem?_append_right (by simp; omega)]
            have h0 : j ≠ 0 := by omega
            by_cases h3 : j < 1 + M
            · simp [h0, h3, show j - 1 < M by omega]
            · simp [h3, show ¬ j - 1 < M by omega]
        unfold cellsOf
        rw [e1]
        simp [mk]
      rw [ec] at e
      refine ⟨_, _, e, .inr ⟨w.heap.size, 1 + M, _, rfl, hbase, ?_, by omega, heap_alloc_new w.drew _, fun j hj => ?_⟩, ((Below.refl _ w).drew.alloc (Nat.le_refl _) _).mono hbase⟩
      · rw [World.size_alloc]; exact Nat.lt_succ_self _
      · obtain rfl : j = 0 := by omega
        unfold extF; rw [if_pos (by omega)]; exact hb
  · by_cases hlt : k < C
    · have e := apart.append_room_byte w ty D k C C B 1 b G h5 hlt (Nat.le_refl _) hB
      refine ⟨_, _, e, .inr ⟨D, C, _, rfl, h2, ?_, hlt, h5.setRow .u8 _, fun j hj => ?_⟩, below_setRow (Below.refl _ w) h2 _⟩
      · have := h5.lt; simpa using this
      · unfold put
        by_cases e : j = k
        · subst e; rw [if_pos (by omega)]; exact hb
        · rw [if_neg (by omega)]; exact h6 j (by omega)
    · obtain rfl : k = C := by omega
      obtain ⟨C', w', e, hI, hC, hl⟩ := append_full ty h5 (some ⟨B, 0, none⟩) 1 1 (fun _ => b) hp (by omega) (by omega)
      refine ⟨_, w', e, .inr ⟨w.heap.size, C', _, rfl, hbase, hI.lt, hC, hI, fun j hj => ?_⟩, hl.mono hbase⟩
      unfold extF cat
      rw [if_pos hj]
      by_cases e : j < k
      · rw [if_pos e]; exact h6 j e
      · rw [if_neg e]
        obtain rfl : j = k := by omega
        exact hb
theorem wpList_append_z {ops : Array Oper} {rest : List Oper} {o : Oper} {a : Act} {w : World} {Q : Exit → Act → World → Prop} (hgd : o.guard = none) (s x : Operand) (ho : o.op = .call { callee := .builtin .append, args := #[s, x], argTypes := #[22, 22] }) (base top k : Nat) (v : Value) (F : Nat → Nat) (B b : Nat) (hs : a.eval s = v) (hx : a.eval x = .slice (some ⟨B, 0, none⟩) 1 1)
    (hv : OwnZ w base top v k F) (hbase : base ≤ w.heap.size) (hB : w.cell? ⟨B, 0, none⟩ = some (.int .u8 (b : Nat))) (hb : b = F k) (hk : k + 1 ≤ 100000)
    (h : ∀ v' w', OwnZ w' base w'.heap.size v' (k + 1) F → Below base w w' → wpList Tryd.prog ops Q rest (a.put o.dst v') w') : wpList Tryd.prog ops Q (o :: rest) a w := by
  obtain ⟨v', w', hr, h1, h2⟩ := hv.append hbase o.type B 1 b hB hb hk
  exact Lib.wpList_append_run w hgd s x _ _ ho _ _ hs hx v' w' hr (h v' w' h1 h2)
theorem wpList_bytes_put {ops : Array Oper} {rest : List Oper} {o : Oper} {a : Act} {w : World} {Q : Exit → Act → World → Prop} (hgd : o.guard = none) (x y : Operand) (ho : o.op = .store 22 x y) (hd : o.dst = none) (O : Nat) (u : Value) (p : Option Addr) (n c : Nat) (hx : a.eval x = .pointer (some ⟨O, 0, none⟩)) (hy : a.eval y = .slice p n c) (hO : BoxA w O 22 #[u])
    (h : ∀ w', BoxA w' O 22 #[.slice p n c] → Keeps (fun j => j = O) w w' → w'.heap.size = w.heap.size → wpList Tryd.prog ops Q rest a w') : wpList Tryd.prog ops Q (o :: rest) a w :=
  wpList_plain hgd fun K hK => by
    have hc : w.cell? ⟨O, 0, none⟩ = some u := hO.cell 0
    have hf := hO.free 0
    have hh := hK _ _ (h _ (hO.set 0 (.slice p n c)) ((Keeps.refl (fun j => j = O) w).setCell rfl 0 (.slice p n c)) (by simp [World.setCell]))
    unfold Oper.wp execOp
    simp only [ho, hx, hy]
    simp [go_sem, hc, hf, hd]
    exact hh
theorem LwB.above {w w5 V V' : World} {L : List (Nat × Obj)} (h : LwB w L V) (top : ∀ {i : Nat} {x : Nat × Obj}, L[i]? = some x → x.1 < w5.heap.size) (hw : w.heap.size ≤ w5.heap.size) (hb : Below w5.heap.size V V') : LwB w L V' :=
  ⟨fun hi => ⟨(hb.block _ (top hi)).trans (h.box hi).1, (h.box hi).2⟩, h.low.trans (hb.mono hw), h.dis⟩
/-- What is touched from the loop's beginning on leaves the things as they are. -/
theorem LoS.above {w w5 V V' : World} {T : Nat → Prop} {L : List (Nat × Obj)} {M : Nat} (h : LoS w w5 T L V) (hT : ∀ k, T k → k < w5.heap.size) (hw : w.heap.size ≤ w5.heap.size) (hM : w5.heap.size ≤ M) (hb0 : Below M V V') : LoS w w5 T L V' := by
  have hb := hb0.mono hM
  exact ⟨h.b.above h.top hw hb, h.top, fun k hk => (hb.block k (hT k hk)).trans (h.it k hk), Nat.le_trans h.big hb.size⟩
theorem rec_above {D M : Nat} {V V' : World} (hb : Below M V V') (hM : D + 2 ≤ M) : Rec D V V' := ⟨hb.size, hb.block _ (by omega), hb.block _ (by omega)⟩
theorem run_cut3 (p : Option Addr) (n cap k : Nat) (hk : k ≤ cap) (w : World) : (Instr.sliceAt 22 (.slice p n cap) none (some (.int .i64 k)) (some (.int .i64 k))).run Tryd.prog w = .ok (.slice p k k) w := by
  have hs := byteElem.run_size (P := Tryd.prog) w
  have e1 : (0 : Int) ≤ k := by omega
  have e2 : (k : Int) ≤ cap := by omega
  simp [go_sem, e1, e2, hs, Program.elem]
theorem gives_cut3 {o : Oper} {a : Act} {C : World → Prop} {K : Act → Prop} (x y z : Operand) (ho : o.op = .slice 22 x none (some y) (some z)) (p : Option Addr) (n cap k : Nat) (hx : a.eval x = .slice p n cap) (hy : a.eval y = .int .i64 (k : Nat)) (hz : a.eval z = .int .i64 (k : Nat)) (hk : k ≤ cap) (h : K (a.put o.dst (.slice p k k))) : ∃ v, Gives Tryd.prog C o a v ∧ K (a.put o.dst v) :=
  ⟨_, fun w _ => by
    have hr := run_cut3 p n cap k hk w
    unfold execOp
    simp only [ho, hx]
    simp [hy, hz, hr], h⟩
end Go.Proofs.YtccpecajbfpjdaaDoor
