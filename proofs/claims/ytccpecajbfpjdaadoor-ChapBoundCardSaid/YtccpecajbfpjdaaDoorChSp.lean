/- The contracts of citadelnum's Copy and Kept: a copy holds the same bytes, with two marks behind; Kept sees that it does. Condition: at most 65536 bytes. -/
import Derived.Test.YtccpecajbfpjdaaDoorChEx
namespace Go.Proofs.YtccpecajbfpjdaaDoor
open Go.ChangeShapes Go.WideShapes Go.ChangeAt Go.RowKit Go.Shelf
set_option linter.unusedVariables false
/-- A row of one's own with room for so many bytes. -/
def BlkR (w : World) (D C : Nat) (G : Nat → Nat) : Prop := ∃ R, C ≤ R ∧ IntBlk w D .u8 5 (mk R G)
theorem BlkR.lt {w : World} {D C : Nat} {G : Nat → Nat} (h : BlkR w D C G) : D < w.heap.size := by obtain ⟨R, _, h⟩ := h; exact h.lt
theorem BlkR.below {w w' : World} {D C M : Nat} {G : Nat → Nat} (h : BlkR w D C G) (hb : Below M w w') (hM : D < M) : BlkR w' D C G := by obtain ⟨R, h1, h2⟩ := h; exact ⟨R, h1, h2.below hb hM⟩
/-- What package chap is asked to answer. -/
structure ChapSpec : Prop where
  answer : ∀ {W : World}, TabAt W → ∀ (z : Int) {p : Option Addr} {n1 c1 : Nat} {g1 : Nat → Nat} {q : Option Addr} {n2 c2 : Nat} {g2 : Nat → Nat}, n1 + n2 ≤ 80000 → n1 ≤ c1 → n2 ≤ c2 → (∀ j, j < n1 → g1 j < 256) → (∀ j, j < n2 → g2 j < 256) → BytesAt W p n1 g1 → BytesAt W q n2 g2 →
    Calls Tryd.prog 10 #[.int .i64 z, .slice p n1 c1, .slice q n2 c2] W fun e W' => e = .returned (.agg (cellsOf .u8 (mk 32 (ansD z n1 g1 n2 g2)))) ∧ Below W.heap.size W W'
  right : ∀ {W : World}, TabAt W → ∀ (z : Int) {p : Option Addr} {n1 c1 : Nat} {g1 : Nat → Nat} {q : Option Addr} {n2 c2 : Nat} {g2 : Nat → Nat} {r : Option Addr} {n3 c3 : Nat} {g3 : Nat → Nat}, n1 + n2 ≤ 80000 → n1 ≤ c1 → n2 ≤ c2 → n3 ≤ 140737488351232 → (∀ j, j < n1 → g1 j < 256) → (∀ j, j < n2 → g2 j < 256) → (∀ j, j < n3 → g3 j < 256) → BytesAt W p n1 g1 → BytesAt W q n2 g2 → BytesAt W r n3 g3 →
    Calls Tryd.prog 13 #[.int .i64 z, .slice p n1 c1, .slice q n2 c2, .slice r n3 c3] W fun e W' => e = .returned (.bool (decide (mk 32 (ansD z n1 g1 n2 g2) = mk n3 g3))) ∧ Below W.heap.size W W'
  draw : ∀ {W : World}, TabAt W → ∀ (seed n : Int), okI seed → okI n → Calls Tryd.prog 17 #[.int .i64 seed, .int .i64 n] W fun e W' => e = .returned (.agg (cellsOf .u8 (mk 32 (drwD seed n)))) ∧ Below W.heap.size W W'
  draws : ∀ {W : World}, TabAt W → ∀ (seed b : Int), okI seed → okI b → Calls Tryd.prog 15 #[.int .i64 seed, .int .i64 b] W fun e W' => ∃ gf lb, ∃ T : Nat → Prop, e = .returned (.func (.func gf) #[] lb) ∧ (∀ args v, (callFunc gf args).run Tryd.prog v = .ok (.enter gf args) v) ∧
    (∀ k, T k → k < W'.heap.size ∧ W.heap.size ≤ k) ∧ Below W.heap.size W W' ∧ GivesFr Fence.wide 2 Tryd.prog gf lb (fun z : Int × (Nat → Nat) => #[.int .i64 z.1, .agg (cellsOf .u8 (mk 32 z.2))]) (fun i => (atN b i, drwD seed (atN b i))) 4096 (fun V => TabAt V ∧ ∀ k, T k → V.heap[k]? = W'.heap[k]?)
  fresh : ∀ {W : World}, TabAt W → ∀ (seed b : Int), okI seed → okI b → ∀ m : Nat, 1 ≤ m → m ≤ 4096 → Calls Tryd.prog 18 #[.int .i64 seed, .int .i64 b, .int .i64 m] W fun e W' => ∃ D C, ∃ G : Nat → Nat, e = .returned (.tuple #[.slice (some ⟨D, 0, none⟩) m C, .int .i64 (atN b ((m + 31) / 32))]) ∧ BlkR W' D C G ∧ (∀ j, j < m → G j = freshT seed b j) ∧ m ≤ C ∧ W.heap.size ≤ D ∧ Below W.heap.size W W'
  none : ∀ {W : World} (seed b m : Int), m < 1 ∨ 4096 < m → Calls Tryd.prog 18 #[.int .i64 seed, .int .i64 b, .int .i64 m] W fun e W' => e = .returned (.tuple #[.slice none 0 0, .int .i64 b]) ∧ Below W.heap.size W W'
theorem gives_s32_build {o : Oper} {a : Act} {C : World → Prop} {K : Act → Prop} (ho : o.op = .build 25 #[]) (hk : K (a.put o.dst (.agg (cellsOf .u8 (mk 32 zeroK))))) : ∃ v, Gives Tryd.prog C o a v ∧ K (a.put o.dst v) :=
  ⟨_, fun w _ => by
    have e := run_build (P := Tryd.prog) w 25 #[] (cellsOf .u8 (mk 32 zeroK)) (by kernel_rfl)
    unfold execOp
    simp only [ho]
    simp [e], hk⟩
theorem gives_s32_neq {o : Oper} {a : Act} {C : World → Prop} {K : Act → Prop} (x y : Operand) (ho : o.op = .binOp .neq 25 x y 25) (f g : Nat → Nat) (hx : a.eval x = .agg (cellsOf .u8 (mk 32 f))) (hy : a.eval y = .agg (cellsOf .u8 (mk 32 g))) (v : Bool) (h : (!(mk 32 f == mk 32 g)) = v) (hk : K (a.put o.dst (.bool v))) : ∃ v, Gives Tryd.prog C o a v ∧ K (a.put o.dst v) :=
  ⟨_, fun w _ => by
    have e := sum_eq f g w
    unfold execOp
    simp only [ho, hx, hy]
    simp [go_sem, e, h], hk⟩
theorem gives_s32_eql {o : Oper} {a : Act} {C : World → Prop} {K : Act → Prop} (x y : Operand) (ho : o.op = .binOp .eql 25 x y 25) (f g : Nat → Nat) (hx : a.eval x = .agg (cellsOf .u8 (mk 32 f))) (hy : a.eval y = .agg (cellsOf .u8 (mk 32 g))) (v : Bool) (h : (mk 32 f == mk 32 g) = v) (hk : K (a.put o.dst (.bool v))) : ∃ v, Gives Tryd.prog C o a v ∧ K (a.put o.dst v) :=
  ⟨_, fun w _ => by
    have e := sum_eq f g w
    unfold execOp
    simp only [ho, hx, hy]
    simp [go_sem, e, h], hk⟩
theorem gives_s32_load {o : Oper} {a : Act} {C : World → Prop} {K : Act → Prop} (x : Operand) (ho : o.op = .load 25 x) (B : Nat) (f : Nat → Nat) (hx : a.eval x = .pointer (some ⟨B, 0, none⟩)) (hc : ∀ V, C V → BoxA V B 25 (cellsOf .u8 (mk 32 f))) (hk : K (a.put o.dst (.agg (cellsOf .u8 (mk 32 f))))) : ∃ v, Gives Tryd.prog C o a v ∧ K (a.put o.dst v) :=
  ⟨_, fun w hw => by
    have hl := run_loadVar_row w B 25 25 (cellsOf .u8 (mk 32 f)) (0, 0) _ (hc w hw) sumUnder rfl (by rw [s32_size]; kernel_rfl)
    unfold execOp
    simp only [ho, hx, Instr.loadAt, Instr.sureAddr, Sem.run_bind, Sem.run_pure, Result.andThen_ok, hl], hk⟩
theorem gives_add64 {o : Oper} {a : Act} {C : World → Prop} {K : Act → Prop} (x y : Operand) (ho : o.op = .binOp .add 3 x y 3) (i j r : Int) (hx : a.eval x = .int .i64 i) (hy : a.eval y = .int .i64 j) (h : IntKind.i64.wrap (i + j) = r) (hk : K (a.put o.dst (.int .i64 r))) : ∃ v, Gives Tryd.prog C o a v ∧ K (a.put o.dst v) :=
  ⟨_, fun w _ => by unfold execOp; simp only [ho, hx, hy]; simp [go_sem, h], hk⟩
theorem gives_ne64 {o : Oper} {a : Act} {C : World → Prop} {K : Act → Prop} (x y : Operand) (ho : o.op = .binOp .neq 3 x y 3) (i : Int) (hx : a.eval x = .int .i64 i) (hy : a.eval y = .int .i64 i) (hk : K (a.put o.dst (.bool false))) : ∃ v, Gives Tryd.prog C o a v ∧ K (a.put o.dst v) :=
  ⟨_, fun w _ => by unfold execOp; simp only [ho, hx, hy]; simp [go_sem], hk⟩
section
variable {ops : Array Oper} {rest : List Oper} {o : Oper} {a : Act} {w : World} {Q : Exit → Act → World → Prop}
theorem wpList_s32_build (hw : Region.wanted o (yielded ops a.tmps) = true) (ho : o.op = .build 25 #[]) (h : wpList Tryd.prog ops Q rest (a.put o.dst (.agg (cellsOf .u8 (mk 32 zeroK)))) w) : wpList Tryd.prog ops Q (o :: rest) a w :=
  wanted_step hw fun K hK => by
    have e := run_build (P := Tryd.prog) w 25 #[] (cellsOf .u8 (mk 32 zeroK)) (by kernel_rfl)
    unfold Oper.wp execOp
    simp only [ho]
    simp [e]
    exact hK _ _ h
theorem wpList_s32_eql (hw : Region.wanted o (yielded ops a.tmps) = true) (x y : Operand) (ho : o.op = .binOp .eql 25 x y 25) (f g : Nat → Nat) (hx : a.eval x = .agg (cellsOf .u8 (mk 32 f))) (hy : a.eval y = .agg (cellsOf .u8 (mk 32 g))) (v : Bool) (hv : (mk 32 f == mk 32 g) = v) (h : wpList Tryd.prog ops Q rest (a.put o.dst (.bool v)) w) : wpList Tryd.prog ops Q (o :: rest) a w :=
  wanted_step hw fun K hK => by
    have e := sum_eq f g w
    unfold Oper.wp execOp
    simp only [ho, hx, hy]
    simp [go_sem, e, hv]
    exact hK _ _ h
end
theorem done_call3c {o : Oper} {a : Act} {w : World} {K : Value → World → Prop} (x y z u : Operand) (ts : Array TypeId) (ho : o.op = .call { callee := .value x, args := #[y, z, u], argTypes := ts }) (g : FuncId) (hx : a.eval x = .func (.func g) #[] #[])
    (hf : ∀ (args : Array Value) (w : World), (callFunc g args).run Tryd.prog w = .ok (.enter g args) w) (v1 v2 v3 : Value) (h1 : a.eval y = v1) (h2 : a.eval z = v2) (h3 : a.eval u = v3) (R : Ending → World → Prop) (hc : Calls Tryd.prog g #[v1, v2, v3] w R) (hk : ∀ e w', R e w' → ∃ u, e = .returned u ∧ K u w') : doneAt Tryd.prog o a w K :=
  done_call x #[y, z, u] ts ho g #[v1, v2, v3] hx (by simp only [List.map_toArray, List.map_cons, List.map_nil, h1, h2, h3]) (hf _ w) (hc.mono hk)
theorem bytes_lt {w : World} {D n : Nat} {g : Nat → Nat} (h : BytesAt w (some ⟨D, 0, none⟩) n g) (h0 : n ≠ 0) : D < w.heap.size := by
  rcases h with h | ⟨B, o, h1, h2, -⟩
  · exact absurd h h0
  · cases h1; exact h2
theorem bytes_keep {w w' : World} {D n J : Nat} {g : Nat → Nat} (h : BytesAt w (some ⟨D, 0, none⟩) n g) (k : Keeps (fun j => j = J) w w') (hD : D < J) : BytesAt w' (some ⟨D, 0, none⟩) n g := by
  rcases h with h | ⟨B, o, h1, h2, h3⟩
  · exact .inl h
  · cases h1
    exact .inr ⟨D, 0, rfl, Nat.lt_of_lt_of_le h2 k.size, fun j hj => (World.cell?_of_block (w := w) (a := ⟨D, 0 + j, none⟩) (k.block D h2 (by omega))).trans (h3 j hj)⟩
section
attribute [local irreducible] markF bytesList

set_option maxRecDepth 100000 in
set_option maxHeartbeats 1000000 in
theorem Copy_any (p : Option Addr) (n cap : Nat) (g : Nat → Nat) (hn : n ≤ 65536) (w : World) (hp : BytesAt w p n g) :
    Calls Tryd.prog 9 #[.slice p n cap] w fun e w' => ∃ D m, m = n + 2 ∧ e = .returned (.slice (some ⟨D, 0, none⟩) n m) ∧ BytesAt w' (some ⟨D, 0, none⟩) m (markF n g) ∧ Below w.heap.size w w' := by
  obtain ⟨m, hm⟩ : ∃ m, m = n + 2 := ⟨_, rfl⟩
  have q1 : IntKind.i64.wrap ((n : Int) + 2) = (m : Int) := by rw [IntWalk.i64_in _ (by omega)]; omega
  have q2 : m ≤ 100000 := by omega
  have q3 : n ≤ m := by omega
  have q4 : (n : Int) ≤ (m : Int) := by omega
  have q5 : n + 2 ≤ m := by omega
  have q6 : 0 + n ≤ m := by omega
  have HM := Lib.hid hm
  have HP := Lib.hid hp
  clear hm hp
  go_enter Tryd.func9, Tryd.ntmps9
  go_wp2_with (first
    | (refine wpList_make_bytes rfl _ _ rfl m q2 rfl rfl ?_; intro w1 o1 g1)
    | (refine wpList_append_bytes rfl (.tmp 6) (.tmp 7) rfl w.heap.size w.heap.size m 0 [] rfl o1 p n cap rfl g (HP.out.below (below_own g1 (fun B e => by cases e) (Nat.le_refl _))) q6 ?_; intro w2 o2 g2; simp only [Nat.zero_add, List.nil_append] at o2 ⊢)
    | (refine wpList_marks rfl rfl ?_)
    | (refine wpList_append_bytes rfl (.tmp 8) (.tmp 9) rfl w.heap.size w.heap.size m n (bytesList n g) rfl (owns_same o2 (Below.heap_alloc _ _ _ (owns_lt o2))) _ 2 2 rfl _ (marks_at w2) q5 ?_; intro w3 o3 g3)
    | fail)
  have s1 := g1.size
  have s2 := g2.size
  have b1 : Below w.heap.size w w1 := below_own g1 (fun B e => by cases e) (Nat.le_refl _)
  have b2 : Below w.heap.size w1 w2 := below_own g2 (fun B e => by cases e; exact Nat.le_refl _) s1
  have b3 : Below w.heap.size _ w3 := below_own g3 (fun B e => by cases e; exact Nat.le_refl _) (by rw [World.size_alloc]; omega)
  have bb : Below w.heap.size w w3 := ((b1.trans b2).alloc (by omega) _).trans b3
  rw [marked] at o3
  go_ret
  refine ⟨_, m, HM.out, rfl, ?_, bb⟩
  have := bytesAt_owns o3
  rwa [← HM.out] at this

set_option maxRecDepth 100000 in
set_option maxHeartbeats 1000000 in
theorem Kept_any (p : Option Addr) (n cap m D : Nat) (g : Nat → Nat) (hn : n ≤ 65536) (hm : m = n + 2) (w : World) (hp : BytesAt w p n g) (hd : BytesAt w (some ⟨D, 0, none⟩) m (markF n g)) :
    Calls Tryd.prog 12 #[.slice (some ⟨D, 0, none⟩) n m, .slice p n cap] w fun e w' => e = .returned (.bool true) ∧ w = w' := by
  have q1 : IntKind.i64.wrap ((n : Int) + 2) = (m : Int) := by rw [IntWalk.i64_in _ (by omega)]; omega
  have q2 : IntKind.i64.wrap ((n : Int) + 1) = (n : Int) + 1 := by rw [IntWalk.i64_in _ (by omega)]
  have q3 : (n : Int) < (m : Int) := by omega
  have q4 : n < m := by omega
  have q5 : (n : Int) + 1 < (m : Int) := by omega
  have q6 : (0 : Int) ≤ (n : Int) + 1 := by omega
  have q7 : ((n : Int) + 1).toNat = n + 1 := by omega
  have q8 : n + 1 < m := by omega
  have c1 : w.cell? ⟨D, n, none⟩ = some (.int .u8 165) := by rw [hd.cell (j := n) q4]; simp [markF]
  have c2 : w.cell? ⟨D, n + 1, none⟩ = some (.int .u8 90) := by rw [hd.cell (j := n + 1) q8]; unfold markF; rw [if_neg (show ¬ (n + 1 < n) by omega), if_neg (show ¬ (n + 1 = n) by omega)]; rfl
  have HL := Lib.hid (hd.low hm)
  have HP := Lib.hid hp
  clear hm hp hd
  go_enter Tryd.func12, Tryd.ntmps12
  go_wp2_with (first
    | (refine wpList_string rfl (.tmp 6) rfl _ n m rfl g HL.out ?_)
    | (refine wpList_string rfl (.tmp 8) rfl p n cap rfl g HP.out ?_)
    | fail)
  go_ret
  exact ⟨rfl, rfl⟩
end
end Go.Proofs.YtccpecajbfpjdaaDoor
