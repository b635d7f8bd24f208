/- What MacStream needs of the law's helpers: a copy's row, citadelnum's Over, which turns a copy's bits; loads of boxes in drawn regions within a round. Conditions: as each says. -/
import Derived.Test.YtfjbehobpkmjbaaDoorRefBlk
import Derived.Test.YtfjbehobpkmjbaaDoorDerC
namespace Go.Proofs.YtfjbehobpkmjbaaDoor
open Go.ChangeShapes Go.WideShapes Go.ChangeAt Go.RowKit
set_option linter.unusedVariables false

theorem row_owns {w' : World} {base m D : Nat} {f : Nat → Nat} (h : w'.ownsRow base 5 1 (.slice (some ⟨D, 0, none⟩) m m) m (bytesList m f)) : IntBlk w' D .u8 5 (mk m f) := by
  obtain ⟨_, ⟨h1, _⟩ | ⟨g, c, cur, h1, _, hg, hnc, _, hsz, ht⟩⟩ := h
  · cases h1
  · simp only [Value.slice.injEq, Option.some.injEq, Addr.mk.injEq, and_true, true_and] at h1
    obtain ⟨rfl, rfl⟩ := h1
    have hc : cur = cellsOf .u8 (mk m f) := by
      apply Array.ext'
      have hl : cur.toList.length = m := by simpa using hsz
      rw [Nat.mul_one] at ht
      rw [List.take_of_length_le (by omega)] at ht
      rw [ht]
      unfold bytesList cellsOf mk
      simp
    rw [hc] at hg
    exact hg
section
attribute [local irreducible] markF bytesList
set_option maxRecDepth 100000 in
set_option maxHeartbeats 1000000 in
theorem Copy_row (p : Option Addr) (n cap : Nat) (g : Nat → Nat) (hn : n ≤ 65536) (w : World) (hp : BytesAt w p n g) :
    Calls Tryd.prog 11 #[.slice p n cap] w fun e w' => ∃ m, m = n + 2 ∧ e = .returned (.slice (some ⟨w.heap.size, 0, none⟩) n m) ∧ IntBlk w' w.heap.size .u8 5 (mk m (markF n g)) ∧ Below w.heap.size w w' := by
  obtain ⟨m, hm⟩ : ∃ m, m = n + 2 := ⟨_, rfl⟩
  have q1 : IntKind.i64.wrap ((n : Int) + 2) = (m : Int) := by rw [IntWalk.i64_in _ (by omega)]; omega
  have q2 : m ≤ 100000 := by omega
  have q3 : n ≤ m := by omega
  have q4 : (n : Int) ≤ (m : Int) := by omega
  have q5 : n + 2 ≤ m := by omega
  have q6 : 0 + n ≤ m := by omega
  have HM := Lib.hid hm
  have HP := Lib.hid hp
  clear hm hp
  go_enter Tryd.func11, Tryd.ntmps11
  go_wp2_with (first
    | (refine wpList_make_bytes rfl _ _ rfl m q2 rfl rfl ?_; intro w1 o1 g1)
    | (refine wpList_append_bytes rfl (.tmp 6) (.tmp 7) rfl w.heap.size w.heap.size m 0 [] rfl o1 p n cap rfl g (HP.out.below (below_own g1 (fun B e => by cases e) (Nat.le_refl _))) q6 ?_; intro w2 o2 g2; simp only [Nat.zero_add, List.nil_append] at o2 ⊢)
    | (refine wpList_marks rfl rfl ?_)
    | (refine wpList_append_bytes rfl (.tmp 8) (.tmp 9) rfl w.heap.size w.heap.size m n (bytesList n g) rfl (owns_same o2 (Below.heap_alloc _ _ _ (owns_lt o2))) _ 2 2 rfl _ (marks_at w2) q5 ?_; intro w3 o3 g3)
    | fail)
  have s1 := g1.size
  have s2 := g2.size
  have b1 : Below w.heap.size w w1 := below_own g1 (fun B e => by cases e) (Nat.le_refl _)
  have b2 : Below w.heap.size w1 w2 := below_own g2 (fun B e => by cases e; exact Nat.le_refl _) s1
  have b3 : Below w.heap.size _ w3 := below_own g3 (fun B e => by cases e; exact Nat.le_refl _) (by rw [World.size_alloc]; omega)
  have bb : Below w.heap.size w w3 := ((b1.trans b2).alloc (by omega) _).trans b3
  rw [marked, ← HM.out] at o3
  go_ret
  exact ⟨m, HM.out, rfl, row_owns o3, bb⟩
end

set_option maxRecDepth 100000 in
theorem Over_any (D n cap : Nat) (l : List Int) (hl : n ≤ l.length) (hn : n ≤ 100000) (w : World) (hD : IntBlk w D .u8 5 l) :
    Calls Tryd.prog 20 #[.slice (some ⟨D, 0, none⟩) n cap] w fun e w' => (∃ v, e = .returned v) ∧ Below D w w' ∧ (∀ k, k ≠ D → w'.heap[k]? = w.heap[k]?) ∧ w'.heap.size = w.heap.size := by
  have HD := Lib.hid hD
  clear hD
  go_enter Tryd.func20, Tryd.ntmps20
  go_wp2
  go_loopw [5] (fun v wr => ∃ i : Nat, i ≤ n ∧ v = .int .i64 i ∧ (∃ l : List Int, n ≤ l.length ∧ IntBlk wr D .u8 5 l) ∧ Below D w wr ∧ (∀ k, k ≠ D → wr.heap[k]? = w.heap[k]?) ∧ wr.heap.size = w.heap.size) (fun v _ => n - (intOf v).toNat)
  case atStart => exact ⟨0, by omega, rfl, ⟨l, hl, HD.out⟩, Below.refl _ _, fun _ _ => rfl, rfl⟩
  case round =>
    clear HD
    obtain ⟨i, hi, rfl, ⟨l', hl', hz⟩, hb, hk, hsz⟩ := hrel
    by_cases h : i < n
    · have e1 : (i : Int) < n := by omega
      have cs := hz.cell (i := i) (by omega)
      have fs := hz.free i
      have HZ := Lib.hid hz; have HB := Lib.hid hb; have HK := Lib.hid hk; have HS := Lib.hid hsz
      clear hz hb hk hsz
      generalize l'.getD i 0 = x at *
      go_wp2
      exact ⟨⟨i + 1, by omega, by go_num, ⟨_, by rw [List.length_set]; exact hl', HZ.out.set i _⟩, HB.out.setCell (Nat.le_refl _) _, fun k hk => (Below.heap_setCell _ _ _ k (by show k ≠ D; exact hk)).trans (HK.out k hk), by rw [← HS.out]; simp [World.setCell]⟩, by simp [intOf]; omega⟩
    · have e1 : ¬ (i : Int) < n := by omega
      have HB := Lib.hid hb; have HK := Lib.hid hk; have HS := Lib.hid hsz
      clear hz hb hk hsz
      go_wp2
      go_end0
      exact ⟨⟨_, rfl⟩, HB.out, HK.out, HS.out⟩

/-- What only computes, in the text's order. -/
theorem wpList_gives {ops : Array Oper} {rest : List Oper} {o : Oper} {a : Act} {w : World} {Q : Exit → Act → World → Prop} (hgd : o.guard = none) (h : ∀ K : Act → Prop, (∀ a', wpList Tryd.prog ops Q rest a' w → K a') → ∃ v, Gives Tryd.prog (fun _ => True) o a v ∧ K (a.put o.dst v)) : wpList Tryd.prog ops Q (o :: rest) a w := by
  obtain ⟨v, hv, hk⟩ := h _ (fun _ h => h)
  refine wpList_plain hgd fun K hK => ?_
  unfold Oper.wp
  rw [hv w trivial]
  exact hK _ _ hk
section
variable {o : Oper} {a : Act} {C : World → Prop} {K : Act → Prop}
theorem gives_box (t : TypeId) (x : Operand) (ho : o.op = .load t x) (B : Nat) (v : Value) (hx : a.eval x = .pointer (some ⟨B, 0, none⟩)) (hu : ∀ w, (isAgg t).run Tryd.prog w = .ok false w) (hB : ∀ w, C w → w.cell? ⟨B, 0, none⟩ = some v) (hk : K (a.put o.dst v)) : ∃ v, Gives Tryd.prog C o a v ∧ K (a.put o.dst v) :=
  ⟨_, fun w hw => by
    have hc := hB w hw
    unfold execOp
    simp only [ho, hx]
    simp [go_sem, hc, hu], hk⟩
theorem gives_piece_neq (x y : Operand) (ho : o.op = .binOp .neq 25 x y 25) (f g : Nat → Nat) (hx : a.eval x = .agg (cellsOf .u8 (mk 64 f))) (hy : a.eval y = .agg (cellsOf .u8 (mk 64 g))) (h : (mk 64 f == mk 64 g) = true) (hk : K (a.put o.dst (.bool false))) : ∃ v, Gives Tryd.prog C o a v ∧ K (a.put o.dst v) :=
  ⟨.bool false, fun w _ => by
    have e := piece_eq f g w
    unfold execOp
    simp only [ho, hx, hy]
    simp [go_sem, e, h], hk⟩
theorem box_bytes (w : World) : (isAgg 22).run Tryd.prog w = .ok false w := by simp [go_sem]
theorem box_string (w : World) : (isAgg 9).run Tryd.prog w = .ok false w := by simp [go_sem]
theorem box_int (w : World) : (isAgg 3).run Tryd.prog w = .ok false w := by simp [go_sem]
end
section
variable {P : Program} {Q : Exit → Act → World → Prop} {l n : Nat}
theorem region_round_sched {id : Nat} {a : Act} {w : World} {xs : List Oper} (s : List (Nat × Bool)) (C : World → Prop) (hm : P.follows .mixedOrders = true) (hd : xs.all noDefer = true) (hq : ¬ LetsOut Q)
    (hB : (Region.noSelect xs.toArray && decide (s.length = xs.length) && schedB .any xs.toArray s (Array.replicate xs.length false)) = true) (hC : C w.drew)
    (h : walkS P xs.toArray C (fun a' w' => Q .normal a' w') s a w.drew) : (Code.region id xs.toArray true).wpIn (Fence.wide.inRound l) n P Q a w := by
  simp only [Bool.and_eq_true, decide_eq_true_eq] at hB
  refine wpIn_region_any hm ?_
  have := any_of_anyC (Q := Q) (fun a w _ h => h) _ _ _ _ hC (anyC_sched (md := .any) hB.1.1 s _ a w.drew hC hB.2 h)
  rw [hB.1.2] at this
  exact wpAnyIn_round (fun o ho => List.all_eq_true.1 hd o (by simpa using ho)) hq _ _ _ _ (by simpa using this)
end
end Go.Proofs.YtfjbehobpkmjbaaDoor
