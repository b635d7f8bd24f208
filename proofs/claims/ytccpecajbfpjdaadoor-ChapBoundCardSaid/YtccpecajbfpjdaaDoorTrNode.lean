/- The contracts of package tree's Leaf and Node and of citadelref11's Leaf and Join: the tags of leaves and over children. Conditions: the package's variable holds the constants; the key has no more than 80,000 bytes; tags have 32 bytes, a sector 128. -/
import Derived.Test.YtccpecajbfpjdaaDoorTrText
import Derived.Test.YtccpecajbfpjdaaDoorMacRef
namespace Go.Proofs.YtccpecajbfpjdaaDoor
open Go.ChangeShapes Go.WideShapes Go.ChangeAt Go.RowKit
set_option linter.unusedVariables false
/-! ### A key in memory, with the constants -/
structure KeyAt (W : World) (q : Option Addr) (n c : Nat) (g : Nat → Nat) : Prop where
  lt : ∀ i, i < n → g i < 256
  cap : n ≤ c
  at' : BytesAt W q n g
  tab : TabAt W
theorem KeyAt.below {W W' : World} {q : Option Addr} {n c : Nat} {g : Nat → Nat} (h : KeyAt W q n c g) (hb : Below W.heap.size W W') : KeyAt W' q n c g := ⟨h.lt, h.cap, h.at'.below hb, h.tab.on hb⟩
theorem KeyAt.none {W : World} (h : TabAt W) : KeyAt W none 0 0 (fun _ => 0) := ⟨fun i hi => absurd hi (Nat.not_lt_zero _), Nat.le_refl _, .inl rfl, h⟩
/-! ### The texts -/
/-- A text's tag with a key of n bytes g. -/
def tauK (n : Nat) (g : Nat → Nat) (t : List Int) : List Int := mk 32 (tagF n g t.length (natF t))
theorem tauK_sum (n : Nat) (g : Nat → Nat) (t : List Int) : IsSum (tauK n g t) := isSum_mk fun i _ => tagP_lt _ _ _ i
theorem tauK_val (n : Nat) (g : Nat → Nat) (t : List Int) : sumVal (tauK n g t) = .agg (cellsOf .u8 (mk 32 (tagF n g t.length (natF t)))) := by
  unfold sumVal
  rw [(tauK_sum n g t).mk']; rfl
def nodeText (z : Int) (l r : List Int) : List Int := [2, z] ++ (l ++ r)
def leafText (z : Int) (c : List Int) : List Int := [1, z] ++ c
def IsB (z : Int) : Prop := 0 ≤ z ∧ z < 256
theorem isB_wrap (z : Int) : IsB (IntKind.u8.wrap z) := by
  have : IntKind.u8.wrap z = z % 256 := rfl
  unfold IsB; rw [this]; omega
theorem pair_bytes {x z : Int} (hx : IsB x) (hz : IsB z) : IsBytes [x, z] := fun y hy => by
  rcases List.mem_cons.1 hy with rfl | hy
  · exact hx
  · rcases List.mem_cons.1 hy with rfl | hy
    · exact hz
    · cases hy
theorem nodeText_bytes {z : Int} {l r : List Int} (hz : IsB z) (hl : IsSum l) (hr : IsSum r) : IsBytes (nodeText z l r) := (pair_bytes ⟨by decide, by decide⟩ hz).append (hl.2.append hr.2)
theorem nodeText_len {z : Int} {l r : List Int} (hl : IsSum l) (hr : IsSum r) : (nodeText z l r).length = 66 := by unfold nodeText; rw [List.length_append, List.length_append, hl.1, hr.1]; rfl
theorem leafText_bytes {z : Int} {c : List Int} (hz : IsB z) (hc : IsBytes c) : IsBytes (leafText z c) := (pair_bytes ⟨by decide, by decide⟩ hz).append hc
/-- The tag over two children. -/
def nodeV (n : Nat) (g : Nat → Nat) (z : Int) (l r : List Int) : List Int := if l = nought ∧ r = nought then nought else tauK n g (nodeText z l r)
theorem nodeV_sum (n : Nat) (g : Nat → Nat) (z : Int) (l r : List Int) : IsSum (nodeV n g z l r) := by
  unfold nodeV; split
  · exact nought_sum
  · exact tauK_sum n g _
/-- The tags of three rows of bytes, as parts. -/
def P3 (A : Option Addr × Nat × Nat) (L R : Option Addr × Nat × Nat) (i : Nat) : Option Addr × Nat × Nat := if i = 0 then A else if i = 1 then L else R
theorem three_cells (w : World) (x y z : Value) (t : TypeId) : ∀ i v, #[x, y, z][i]? = some v → (w.alloc (.cells #[x, y, z] t)).cell? ⟨w.heap.size, i, none⟩ = some v := fun i v h => by
  rw [cell_of_row _ _ i #[x, y, z] t (0, 0) (heap_alloc_new w (.cells #[x, y, z] t))]; exact h
theorem cells_of {w : World} {p : Option Addr} {m : Nat} {f g : Nat → Nat} (h : BytesAt w p m f) (e : ∀ j, j < m → f j = g j) : m = 0 ∨ ∃ b o, p = some ⟨b, o, none⟩ ∧ b < w.heap.size ∧ Cells w b o m g := by
  rcases h with h | ⟨b, o, h1, h2, h3⟩
  · exact .inl h
  · exact .inr ⟨b, o, h1, h2, fun j hj => by rw [← e j hj]; exact h3 j hj⟩
theorem nodeText_at {z : Int} {l r : List Int} (hl : IsSum l) : (∀ j, j < 2 → natF [2, z] j = natF (nodeText z l r) (0 + j)) ∧ (∀ j, j < 32 → natF l j = natF (nodeText z l r) (2 + j)) ∧ (∀ j, j < 32 → natF r j = natF (nodeText z l r) (34 + j)) := by
  unfold nodeText
  refine ⟨fun j hj => ?_, fun j hj => ?_, fun j hj => ?_⟩
  · rw [Nat.zero_add, natF_left (by simpa using hj)]
  · rw [natF_right (by simp), natF_left (by rw [hl.1]; simp; omega)]; simp
  · rw [natF_right (by simp; omega), natF_right (by rw [hl.1]; simp; omega), hl.1]; congr 1; simp; omega
theorem leafText_at (z : Int) (c : List Int) : (∀ j, j < 2 → natF [1, z] j = natF (leafText z c) (0 + j)) ∧ (∀ j, natF c j = natF (leafText z c) (2 + j)) := by
  unfold leafText
  refine ⟨fun j hj => ?_, fun j => ?_⟩
  · rw [Nat.zero_add, natF_left (by simpa using hj)]
  · rw [natF_right (by simp)]; simp
theorem sumsB_bytes {w : World} {B : Nat} {t : List Int} (h : SumsB w B [t]) : BytesAt w (some ⟨B, 0, none⟩) 32 (natF t) := sum_bytes h.one h.lt
/-! ### Calls of Tag -/
theorem tag_node {kp : Option Addr} {n kc : Nat} {g : Nat → Nat} (hn : n ≤ 80000) {z : Int} {l r : List Int} (hz : IsB z) (hl : IsSum l) (hr : IsSum r) {A L R B c : Nat} {w : World} (hk : KeyAt w kp n kc g)
    (hA : BytesAt w (some ⟨A, 0, none⟩) 2 (natF [2, z])) (hL : SumsB w L [l]) (hR : SumsB w R [r]) (hB : B < w.heap.size)
    (hc : ∀ i v, #[Value.slice (some ⟨A, 0, none⟩) 2 2, .slice (some ⟨L, 0, none⟩) 32 32, .slice (some ⟨R, 0, none⟩) 32 32][i]? = some v → w.cell? ⟨B, i, none⟩ = some v) :
    Calls Tryd.prog 28 #[.slice kp n kc, .slice (some ⟨B, 0, none⟩) 3 c] w fun e w' => e = .returned (sumVal (tauK n g (nodeText z l r))) ∧ Below w.heap.size w w' := by
  obtain ⟨t0, t1, t2⟩ := nodeText_at (z := z) (r := r) hl
  have hP : PartsIn w.heap.size w (some ⟨B, 0, none⟩) 3 (P3 (some ⟨A, 0, none⟩, 2, 2) (some ⟨L, 0, none⟩, 32, 32) (some ⟨R, 0, none⟩, 32, 32)) (natF (nodeText z l r)) := by
    refine ⟨.inr ⟨B, 0, rfl, hB, fun i hi => ?_⟩, fun i hi => ?_⟩
    · rw [Nat.zero_add]
      rcases (show i = 0 ∨ i = 1 ∨ i = 2 by omega) with rfl | rfl | rfl
      · exact hc 0 _ rfl
      · exact hc 1 _ rfl
      · exact hc 2 _ rfl
    · rcases (show i = 0 ∨ i = 1 ∨ i = 2 by omega) with rfl | rfl | rfl
      · exact cells_of hA t0
      · exact cells_of (sumsB_bytes hL) t1
      · exact cells_of (sumsB_bytes hR) t2
  have hlen : lenTo (P3 (some ⟨A, 0, none⟩, 2, 2) (some ⟨L, 0, none⟩, 32, 32) (some ⟨R, 0, none⟩, 32, 32)) 3 = 66 := rfl
  have := Tag_any kp n kc g 3 c (some ⟨B, 0, none⟩) _ (natF (nodeText z l r)) (by omega) hk.cap hk.lt (by omega) (by rw [hlen]; omega) (fun i hi => by
    rcases (show i = 0 ∨ i = 1 ∨ i = 2 by omega) with rfl | rfl | rfl <;> exact Nat.le_refl _) (fun i _ => natF_lt (nodeText_bytes hz hl hr) i) w hk.tab hk.at' hP
  rw [hlen, ← nodeText_len (z := z) hl hr, ← tauK_val] at this
  exact this
theorem tag_leaf {kp : Option Addr} {n kc : Nat} {g : Nat → Nat} (hn : n ≤ 80000) {z : Int} {m : Nat} {f : Nat → Nat} (hz : IsB z) (hf : ∀ i, i < 128 → f i < 256) {A L B c : Nat} {w : World} (hk : KeyAt w kp n kc g)
    (hA : BytesAt w (some ⟨A, 0, none⟩) 2 (natF [1, z])) (hL : BytesAt w (some ⟨L, 0, none⟩) 128 f) (hB : B < w.heap.size) (h0 : w.cell? ⟨B, 0, none⟩ = some (.slice (some ⟨A, 0, none⟩) 2 2)) (h1 : w.cell? ⟨B, 1, none⟩ = some (.slice (some ⟨L, 0, none⟩) 128 128)) :
    Calls Tryd.prog 28 #[.slice kp n kc, .slice (some ⟨B, 0, none⟩) 2 c] w fun e w' => e = .returned (sumVal (tauK n g (leafText z (mk 128 f)))) ∧ Below w.heap.size w w' := by
  obtain ⟨t0, t1⟩ := leafText_at z (mk 128 f)
  have hP : PartsIn w.heap.size w (some ⟨B, 0, none⟩) 2 (P3 (some ⟨A, 0, none⟩, 2, 2) (some ⟨L, 0, none⟩, 128, 128) (some ⟨L, 0, none⟩, 128, 128)) (natF (leafText z (mk 128 f))) := by
    refine ⟨.inr ⟨B, 0, rfl, hB, fun i hi => ?_⟩, fun i hi => ?_⟩
    · rw [Nat.zero_add]
      rcases (show i = 0 ∨ i = 1 by omega) with rfl | rfl
      · exact h0
      · exact h1
    · rcases (show i = 0 ∨ i = 1 by omega) with rfl | rfl
      · exact cells_of hA t0
      · exact cells_of hL fun j hj => by rw [← natF_mk (f := f) (show j < 128 from hj)]; exact t1 j
  have hlen : lenTo (P3 (some ⟨A, 0, none⟩, 2, 2) (some ⟨L, 0, none⟩, 128, 128) (some ⟨L, 0, none⟩, 128, 128)) 2 = 130 := rfl
  have := Tag_any kp n kc g 2 c (some ⟨B, 0, none⟩) _ (natF (leafText z (mk 128 f))) (by omega) hk.cap hk.lt (by omega) (by rw [hlen]; omega) (fun i hi => by
    rcases (show i = 0 ∨ i = 1 by omega) with rfl | rfl <;> exact Nat.le_refl _) (fun i _ => natF_lt (leafText_bytes hz (mk_bytes hf)) i) w hk.tab hk.at' hP
  rw [hlen, show 130 = (leafText z (mk 128 f)).length by unfold leafText; rw [List.length_append, mk_len]; rfl, ← tauK_val] at this
  exact this
theorem ref_tag {kp : Option Addr} {n kc : Nat} {g : Nat → Nat} (hn : n ≤ 80000) {t : List Int} (ht : IsBytes t) (hlen : t.length ≤ 80000) {p : Option Addr} {c : Nat} {w : World} (hk : KeyAt w kp n kc g) (hp : RowsAt 1 byteC w p t) :
    Calls Tryd.prog 27 #[.slice kp n kc, .slice p t.length c] w fun e w' => e = .returned (sumVal (tauK n g t)) ∧ Below w.heap.size w w' := by
  have := refTag_any kp n kc g p t.length c (natF t) hn hk.lt hlen (fun i _ => natF_lt ht i) w hk.at' (rows_bytes hp ht)
  rw [← tauK_val] at this
  exact this
/-! ### Two bytes as a slice; append -/
theorem run_bytes2 (x y : Int) (w : World) : (Instr.buildSlice 22 2 #[(0, .int .u8 x), (1, .int .u8 y)]).run Tryd.prog w = .ok (.slice (some ⟨w.heap.size, 0, none⟩) 2 2) (w.alloc (.cells ([x, y].flatMap byteC).toArray 5)) := by
  simp [go_sem, byteC]
theorem own_bytes2 (x y : Int) (w : World) : OwnL 5 1 byteC (w.alloc (.cells ([x, y].flatMap byteC).toArray 5)) w.heap.size (w.heap.size + 1) (.slice (some ⟨w.heap.size, 0, none⟩) 2 2) [x, y] := own_new elemByte.len w [x, y] w.heap.size (Nat.le_refl _) (by simp)
section
variable {ops : Array Oper} {rest : List Oper} {o : Oper} {a : Act} {w : World} {Q : Exit → Act → World → Prop}
theorem wpList_bytes2 (hgd : o.guard = none) (u v : Operand) (ho : o.op = .buildSlice 22 2 #[(0, u), (1, v)]) (x y : Int) (hx : a.eval u = .int .u8 x) (hy : a.eval v = .int .u8 y)
    (h : ∀ w', OwnL 5 1 byteC w' w.heap.size w'.heap.size (.slice (some ⟨w.heap.size, 0, none⟩) 2 2) [x, y] → Below w.heap.size w w' → w'.heap.size = w.heap.size + 1 → wpList Tryd.prog ops Q rest (a.put o.dst (.slice (some ⟨w.heap.size, 0, none⟩) 2 2)) w') : wpList Tryd.prog ops Q (o :: rest) a w :=
  wpList_plain hgd fun K hK => by
    have e := run_bytes2 x y w
    unfold Oper.wp execOp
    simp only [ho]
    simp [hx, hy, e]
    exact hK _ _ (h _ (by rw [World.size_alloc]; exact own_bytes2 x y w) ((Below.refl _ _).alloc (Nat.le_refl _) _) (by simp))
theorem done_bytes2 {K : Value → World → Prop} (u v : Operand) (ho : o.op = .buildSlice 22 2 #[(0, u), (1, v)]) (x y : Int) (hx : a.eval u = .int .u8 x) (hy : a.eval v = .int .u8 y)
    (h : ∀ w', OwnL 5 1 byteC w' w.heap.size w'.heap.size (.slice (some ⟨w.heap.size, 0, none⟩) 2 2) [x, y] → Below w.heap.size w w' → w'.heap.size = w.heap.size + 1 → K (.slice (some ⟨w.heap.size, 0, none⟩) 2 2) w') : doneAt Tryd.prog o a w K := by
  have e := run_bytes2 x y w
  unfold doneAt execOp
  simp only [ho]
  simp [hx, hy, e]
  exact h _ (by rw [World.size_alloc]; exact own_bytes2 x y w) ((Below.refl _ _).alloc (Nat.le_refl _) _) (by simp)
theorem wpList_app {α : Type} {P : Program} {t e : TypeId} {sz by' : Nat} {C : α → List Value} (E : ElemOf P t e sz by' C) (hgd : o.guard = none) (s x : Operand) (ho : o.op = .call { callee := .builtin .append, args := #[s, x], argTypes := #[t, t] }) (base top : Nat) (v : Value) (l m : List α) (p : Option Addr) (n c : Nat) (hs : a.eval s = v) (hx : a.eval x = .slice p n c) (hn : n = m.length)
    (hv : OwnL e sz C w base top v l) (hm : RowsAt sz C w p m) (hk : l.length + m.length ≤ 4000000) (hby : by' ≤ 1000) (hbase : base ≤ w.heap.size)
    (h : ∀ v' w', OwnL e sz C w' base w'.heap.size v' (l ++ m) → Below base w w' → wpList P ops Q rest (a.put o.dst v') w') : wpList P ops Q (o :: rest) a w :=
  wpList_append_list E hgd s x ho base top v l m p n c hs hx hn hv hm hk hby hbase fun v' w' h1 h2 h3 => h v' w' h1 (below_own1 h2 hv.block hbase)
/-- Three slices of bytes as a slice. -/
theorem done_slice3 {K : Value → World → Prop} (x y z : Operand) (ho : o.op = .buildSlice 43 3 #[(0, x), (1, y), (2, z)]) (p q r : Option Addr) (n m k cp cq cr : Nat) (hx : a.eval x = .slice p n cp) (hy : a.eval y = .slice q m cq) (hz : a.eval z = .slice r k cr)
    (h : K (.slice (some ⟨w.heap.size, 0, none⟩) 3 3) (w.alloc (.cells #[.slice p n cp, .slice q m cq, .slice r k cr] 22))) : doneAt Tryd.prog o a w K := by
  have e : (Instr.buildSlice 43 3 #[(0, .slice p n cp), (1, .slice q m cq), (2, .slice r k cr)]).run Tryd.prog w = .ok (.slice (some ⟨w.heap.size, 0, none⟩) 3 3) (w.alloc (.cells #[.slice p n cp, .slice q m cq, .slice r k cr] 22)) := by simp [go_sem]
  unfold doneAt execOp
  simp only [ho]
  simp [hx, hy, hz, e]
  exact h
end
theorem own_bytesAt {w : World} {base top n c B : Nat} {t : List Int} (h : OwnL 5 1 byteC w base top (.slice (some ⟨B, 0, none⟩) n c) t) (ht : IsBytes t) : BytesAt w (some ⟨B, 0, none⟩) t.length (natF t) := by
  obtain ⟨p', c', he, _, _, hr, _⟩ := h.rows elemByte.len
  cases he
  exact rows_bytes hr ht
end Go.Proofs.YtccpecajbfpjdaaDoor
