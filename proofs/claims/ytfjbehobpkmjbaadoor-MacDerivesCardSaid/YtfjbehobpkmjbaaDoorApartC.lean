/- The contract of citadelnum's Apart for two slices of bytes, each a row of its own: none shares memory with the other. Conditions: rows of no more than 1024 bytes, in blocks of their own. -/
import Derived.Test.YtfjbehobpkmjbaaDoorRefDer
import Derived.Test.YtfjbehobpkmjbaaDoorOverC
import Derived.Test.YtfjbehobpkmjbaaDoorPartK
namespace Go.Proofs.YtfjbehobpkmjbaaDoor
open Go.ChangeShapes Go.WideShapes Go.ChangeAt Go.RowKit
set_option linter.unusedVariables false

/-- What is written into row k at j. -/
def patK (k : Nat) : Nat → Nat := fun j => (29 * k + 5 * j + 3) % 256
theorem patK_lt (k j : Nat) : patK k j < 256 := Nat.mod_lt _ (by omega)
theorem patK_is (k j : Nat) (hk : k ≤ 2) (hj : j ≤ 2000) : (29 * (k : Int) + 5 * (j : Int) + 3) % 256 = (patK k j : Nat) := by unfold patK; omega
def hA (f : Nat → Nat → Nat) (k j i : Nat) : Nat → Nat := fun x => if i < k ∨ (i = k ∧ x < j) then patK i x else f i x
theorem hA_zero (f : Nat → Nat → Nat) (i : Nat) : hA f 0 0 i = f i := by funext x; unfold hA; rw [if_neg (by omega)]
theorem hA_end (f : Nat → Nat → Nat) (i N : Nat) (hi : i < 2) : mk N (hA f 2 0 i) = mk N (patK i) := mk_ext fun x _ => by unfold hA; rw [if_pos (by omega)]
theorem hA_next (f : Nat → Nat → Nat) (k i N : Nat) : mk N (hA f k N i) = mk N (hA f (k + 1) 0 i) := mk_ext fun x hx => by
  unfold hA
  by_cases h : i < k ∨ (i = k ∧ x < N)
  · rw [if_pos h, if_pos (by omega)]
  · rw [if_neg h, if_neg (by omega)]
theorem hA_step (f : Nat → Nat → Nat) (k j N : Nat) (y : Int) (hy : y = (patK k j : Nat)) : (mk N (hA f k j k)).set j y = mk N (hA f k (j + 1) k) :=
  mk_set_is hy fun x hx => by
    unfold hA
    by_cases e : x = j
    · subst e; rw [if_pos rfl, if_pos (by omega)]
    · rw [if_neg e]
      by_cases h : k < k ∨ (k = k ∧ x < j)
      · rw [if_pos h, if_pos (by omega)]
      · rw [if_neg h, if_neg (by omega)]
theorem hA_other (f : Nat → Nat → Nat) (k j i : Nat) (h : i ≠ k) : hA f k (j + 1) i = hA f k j i := by
  funext x; unfold hA
  by_cases e : i < k
  · rw [if_pos (by omega), if_pos (by omega)]
  · rw [if_neg (by omega), if_neg (by omega)]
/-- The first two loops' state. -/
def StA (T LB N : Nat) (D : Nat → Nat) (f : Nat → Nat → Nat) (w : World) (k j : Nat) (V : World) : Prop :=
  V.heap[LB]? = some (.cells #[.slice (some ⟨D 0, 0, none⟩) N N, .slice (some ⟨D 1, 0, none⟩) N N] 22 (0, 0)) ∧ (∀ i, i < 2 → IntBlk V (D i) .u8 5 (mk N (hA f k j i))) ∧ Below T w V ∧ V.heap.size = w.heap.size
theorem StA.cell {T LB N k j : Nat} {D : Nat → Nat} {f : Nat → Nat → Nat} {w V : World} (h : StA T LB N D f w k j V) {i : Nat} (hi : i < 2) : V.cell? ⟨LB, i, none⟩ = some (.slice (some ⟨D i, 0, none⟩) N N) := by
  have := h.1
  rcases (show i = 0 ∨ i = 1 by omega) with rfl | rfl <;> simp [World.cell?, this]
theorem StA.step {T LB N k j : Nat} {D : Nat → Nat} {f : Nat → Nat → Nat} {w V : World} (h : StA T LB N D f w k j V) (hk : k < 2) (hD : D 0 ≠ D 1) (hT : ∀ i, T ≤ D i) (y : Int) (hy : y = (patK k j : Nat)) : StA T LB N D f w k (j + 1) (V.setCell ⟨D k, j, none⟩ (.int .u8 y)) := by
  have ne : LB ≠ D k := fun e => by
    have h1 := h.2.1 k hk
    have h2 := h.1
    rw [e] at h2
    have := h1.symm.trans h2
    simp at this
  refine ⟨(Below.heap_setCell _ _ _ LB (by show LB ≠ D k; exact ne)).trans h.1, fun i hi => ?_, h.2.2.1.setCell (p := ⟨D k, j, none⟩) (hT k) _, by rw [← h.2.2.2]; simp [World.setCell]⟩
  by_cases e : i = k
  · subst e
    have := (h.2.1 i hi).set j y
    rw [hA_step f i j N y hy] at this
    exact this
  · rw [hA_other f k j i e]
    refine (h.2.1 i hi).other ?_ _
    show D k ≠ D i
    rcases (show (i = 0 ∧ k = 1) ∨ (i = 1 ∧ k = 0) by omega) with ⟨rfl, rfl⟩ | ⟨rfl, rfl⟩
    · exact fun h => hD h.symm
    · exact hD
section
variable {o : Oper} {a : Act} {C : World → Prop} {K : Act → Prop}
theorem gives_lie (t : TypeId) (x : Operand) (ho : o.op = .load t x) (p : Addr) (v : Value) (hx : a.eval x = .pointer (some p)) (hu : ∀ w, (isAgg t).run Tryd.prog w = .ok false w) (hB : ∀ w, C w → w.cell? p = some v) (hk : K (a.put o.dst v)) : ∃ v, Gives Tryd.prog C o a v ∧ K (a.put o.dst v) :=
  ⟨_, fun w hw => by
    have hc := hB w hw
    unfold execOp
    simp only [ho, hx]
    simp [go_sem, hc, hu], hk⟩
theorem box_byte (w : World) : (isAgg 5).run Tryd.prog w = .ok false w := by simp [go_sem]
theorem gives_nth (t e : TypeId) (x y : Operand) (ho : o.op = .indexAddr t x y) (ht : Tryd.prog.underlying t = some (.slice e)) (hi : (Tryd.prog.info? e).map (·.size) = some 1)
    (B n cap k : Nat) (hx : a.eval x = .slice (some ⟨B, 0, none⟩) n cap) (hy : a.eval y = .int .i64 k) (hk4 : k < n) (hk : K (a.put o.dst (.pointer (some ⟨B, k, none⟩)))) : ∃ v, Gives Tryd.prog C o a v ∧ K (a.put o.dst v) :=
  ⟨_, fun w _ => by
    have h0 : (k : Int) < n := by omega
    cases hq : Tryd.prog.info? e with
    | none => simp [hq] at hi
    | some i =>
      have hs : i.size = 1 := by simpa [hq] using hi
      unfold execOp
      simp only [ho, hx, hy]
      simp [go_sem, ht, h0, sizeOf, typeInfo, hq, hs, Addr.add]
      exact fun h => h.symm, hk⟩
theorem gives_times (x y : Operand) (ho : o.op = .binOp .mul 3 x y 3) (i j r : Int) (hx : a.eval x = .int .i64 i) (hy : a.eval y = .int .i64 j) (h : IntKind.i64.wrap (i * j) = r) (hk : K (a.put o.dst (.int .i64 r))) : ∃ v, Gives Tryd.prog C o a v ∧ K (a.put o.dst v) :=
  ⟨_, fun w _ => by unfold execOp; simp only [ho, hx, hy]; simp [go_sem, h], hk⟩
theorem gives_below (x y : Operand) (ho : o.op = .binOp .lss 3 x y 3) (i j : Int) (r : Bool) (hx : a.eval x = .int .i64 i) (hy : a.eval y = .int .i64 j) (h : decide (i < j) = r) (hk : K (a.put o.dst (.bool r))) : ∃ v, Gives Tryd.prog C o a v ∧ K (a.put o.dst v) :=
  ⟨_, fun w _ => by unfold execOp; simp only [ho, hx, hy]; simp [go_sem, h], hk⟩
theorem gives_to_byte (x : Operand) (ho : o.op = .convert 3 5 x) (z r : Int) (hx : a.eval x = .int .i64 z) (h : IntKind.u8.wrap z = r) (hk : K (a.put o.dst (.int .u8 r))) : ∃ v, Gives Tryd.prog C o a v ∧ K (a.put o.dst v) :=
  ⟨_, fun w _ => by
    have e : (convert 3 5 (.int .i64 z)).run Tryd.prog w = .ok (.int .u8 r) w := by subst h; simp [go_sem]
    unfold execOp
    simp only [ho, hx, Sem.run_bind, e]
    simp, hk⟩
end
theorem walk_idle {P : Program} {ops : Array Oper} {C : World → Prop} {R : Act → World → Prop} {i : Nat} {l : List (Nat × Bool)} {a : Act} {w : World} {o : Oper} (hi : ops[i]? = some o) (hw : Region.wanted o (yielded ops a.tmps) = false) (h : walkS P ops C R l (a.put o.dst undef) w) : walkS P ops C R ((i, true) :: l) a w :=
  ⟨o, undef, hi, .inr ⟨hw, rfl⟩, h⟩
theorem owns_below {V V' : World} {S : Nat} {e : TypeId} {sz n : Nat} {v : Value} {xs : List Value} (h : V.ownsRow S e sz v n xs) (hb : Below V.heap.size V V') : V'.ownsRow S e sz v n xs := by
  obtain ⟨h0, h1 | ⟨g, c, cur, hv, hg, hh, r⟩⟩ := h
  · exact ⟨h0, .inl h1⟩
  · exact ⟨h0, .inr ⟨g, c, cur, hv, hg, (hb.block g (lt_of_block hh)).trans hh, r⟩⟩
theorem append_list {w : World} {base n : Nat} {v : Value} {xs : List Value} (ty : TypeId) (h : w.ownsRow base 22 1 v n xs) (B : Nat) (u : Value) (hB : w.cell? ⟨B, 0, none⟩ = some u) (hu : u.oneCell' = true) (hn : n ≤ 1000) (hbase : base ≤ w.heap.size) :
    ∃ v' w', (Builtin.append_ #[46, 46] ty #[v, .slice (some ⟨B, 0, none⟩) 1 1]).run Tryd.prog w = .ok v' w' ∧ w'.ownsRow base 22 1 v' (n + 1) (xs ++ [u]) ∧ w.grownBy w' v.ownBlock := by
  have hi := listInfo
  have hb := listBytes
  have hz := listZero
  cases hq : Tryd.prog.info? 22 with
  | none => rw [hq] at hi; simp at hi
  | some i =>
    rw [hq] at hi hb hz
    obtain ⟨v', w', hr, ho, hg, _⟩ := run_append_own (P := Tryd.prog) (w := w) base 46 ty 22 i (.slice none 0 0) 1 24 Tryd.underlying46 hq (by simpa using hz) (by simpa using hi) (by simpa using hb) rfl (by omega) v n xs h ⟨B, 0, none⟩ 1 1 [u] rfl (fun j y hj => by
      rcases j with _ | j
      · simp only [List.getElem?_cons_zero, Option.some.injEq] at hj; subst hj; rw [addr_add]; exact hB
      · simp at hj) (fun y hy => by simp only [List.mem_singleton] at hy; subst hy; exact hu) (by simp only [maxLen]; omega) (by omega) hbase
    exact ⟨v', w', hr, ho, hg⟩
theorem append_first {w : World} (ty : TypeId) {D N : Nat} {F : Nat → Nat} (h : IntBlk w D .u8 5 (mk N F)) (hN : N ≤ 2000) (B b : Nat) (hB : w.cell? ⟨B, 0, none⟩ = some (.int .u8 (b : Nat))) (hb : F N = b) :
    ∃ v' w', (Builtin.append_ #[22, 22] ty #[.slice (some ⟨D, 0, none⟩) N N, .slice (some ⟨B, 0, none⟩) 1 1]).run Tryd.prog w = .ok v' w' ∧ OwnS 5 1 w' w.heap.size w'.heap.size v' (N + 1) F ∧ w.grownBy w' none := by
  have hi := byteInfo
  have hz := byteZero1
  have hbb := byteBytes1
  cases hq : Tryd.prog.info? 5 with
  | none => rw [hq] at hi; simp at hi
  | some i =>
    rw [hq] at hi hz hbb
    obtain ⟨v', w', hr, ho, hg⟩ := run_append_arg_grows (P := Tryd.prog) (w := w) 22 ty 5 i (.int .u8 0) 1 1 bytesUnder hq (by simpa using hz) (by simpa using hi) (by simpa using hbb) rfl (by omega) ⟨D, 0, none⟩ N N (bytesList N F) (by rw [bytesList_len, Nat.mul_one]) (fun j u hj => by
        obtain ⟨hj1, rfl⟩ := bytesList_get hj
        rw [addr_add]
        have := h.cells0 j hj1
        rw [Nat.zero_add] at this ⊢
        exact this) ⟨B, 0, none⟩ 1 1 [.int .u8 (b : Nat)] rfl (fun j y hj => by
      rcases j with _ | j
      · simp only [List.getElem?_cons_zero, Option.some.injEq] at hj; subst hj; rw [addr_add]; exact hB
      · simp at hj) (by omega) (by simp only [maxLen]; omega) (by omega)
    refine ⟨v', w', hr, OwnS.of_owns ?_, hg⟩
    have : bytesList N F ++ [.int .u8 (b : Nat)] = bytesList ((N + 1) * 1) F := by
      rw [Nat.mul_one]; unfold bytesList; rw [List.range_succ, List.map_append, List.map_singleton, hb]
    rw [← this]; exact ho
def lenV : Value → Nat | .slice _ n _ => n | _ => 0
/-- The next two loops' state: the grown slices. -/
def StB (T LB N S : Nat) (D : Nat → Nat) (wA : World) (k : Nat) (vg : Value) (V : World) : Prop :=
  Below S wA V ∧ ∃ G : Nat → Value, V.ownsRow S 22 1 vg k ((List.range k).map G) ∧ ∀ i, i < k → OwnS 5 1 V S V.heap.size (G i) (N + 10) (patK i)
def StBi (N S : Nat) (D : Nat → Nat) (k : Nat) (V : World) (j : Nat) (v : Value) (wi : World) : Prop :=
  Below V.heap.size V wi ∧ ((j = 0 ∧ v = .slice (some ⟨D k, 0, none⟩) N N) ∨ OwnS 5 1 wi V.heap.size wi.heap.size v (N + j) (patK k))
theorem StBi.append {N S k j : Nat} {D : Nat → Nat} {V wi : World} {u : Value} (h : StBi N S D k V j u wi) (hN : N ≤ 1024) (hj : j < 10) (hrow : IntBlk V (D k) .u8 5 (mk N (patK k))) (pk : Nat) (hpk : patK k (N + j) = pk) (ty : TypeId) :
    ∃ v' w', (Builtin.append_ #[22, 22] ty #[u, .slice (some ⟨wi.heap.size, 0, none⟩) 1 1]).run Tryd.prog (wi.alloc (.cells #[.int .u8 (pk : Nat)] 5)) = .ok v' w' ∧ StBi N S D k V (j + 1) v' w' := by
  have hn := heap_alloc_new wi (.cells #[.int .u8 (pk : Nat)] 5)
  have hc := cell_of_one hn
  have b1 : Below V.heap.size V (wi.alloc (.cells #[.int .u8 (pk : Nat)] 5)) := h.1.alloc h.1.size _
  rcases h.2 with ⟨rfl, rfl⟩ | hv
  · obtain ⟨v', w', hr, ho, hg⟩ := append_first ty (hrow.below b1 hrow.lt) (by omega) wi.heap.size pk hc hpk
    refine ⟨v', w', hr, b1.trans (below_own hg (fun B e => by cases e) b1.size), .inr ?_⟩
    exact ho.lower b1.size
  · have hv2 := hv.same (w' := wi.alloc (.cells #[.int .u8 (pk : Nat)] 5)) (fun B _ hB => Below.heap_alloc _ _ _ hB)
    obtain ⟨v', w', hr, ho, hb⟩ := append_own_run (f := fun _ => pk) (wi.alloc (.cells #[.int .u8 (pk : Nat)] 5)) ty hv2 (some ⟨wi.heap.size, 0, none⟩) 1 1 (.inr ⟨wi.heap.size, 0, rfl, by simp, fun i hi => by
      obtain rfl : i = 0 := by omega
      exact hc⟩) (fun i hi => by
      obtain rfl : i = 0 := by omega
      rw [Nat.add_zero]; exact hpk.symm) (by omega) b1.size
    exact ⟨v', w', hr, b1.trans hb, .inr ho⟩
theorem StB.append {T LB N S k : Nat} {D : Nat → Nat} {wA V wi : World} {vg u : Value} (h : StB T LB N S D wA k vg V) (hk : k < 2) (hS : wA.heap.size = S) (hb : Below V.heap.size V wi) (hu : OwnS 5 1 wi V.heap.size wi.heap.size u (N + 10) (patK k)) (h1 : u.oneCell' = true) (ty : TypeId) :
    ∃ v' w', (Builtin.append_ #[46, 46] ty #[vg, .slice (some ⟨wi.heap.size, 0, none⟩) 1 1]).run Tryd.prog (wi.alloc (.cells #[u] 22)) = .ok v' w' ∧ StB T LB N S D wA (k + 1) v' w' := by
  obtain ⟨hA, G, hg, hG⟩ := h
  have hSV : S ≤ V.heap.size := by have := hA.size; omega
  have hSi : S ≤ wi.heap.size := by have := hb.size; omega
  have a1 : Below wi.heap.size wi (wi.alloc (.cells #[u] 22)) := (Below.refl _ _).alloc (Nat.le_refl _) _
  have hn := heap_alloc_new wi (.cells #[u] 22)
  have hc := cell_of_one hn
  have hg2 := owns_below (owns_below hg hb) a1
  obtain ⟨v', w', hr, ho, hgr⟩ := append_list ty hg2 wi.heap.size u hc h1 (by omega) (by rw [World.size_alloc]; omega)
  have bS : Below S (wi.alloc (.cells #[u] 22)) w' := below_own hgr (fun B hB => by
    obtain ⟨_, ⟨e, _⟩ | ⟨g, c, cur, e, hle, _⟩⟩ := hg2
    · rw [e] at hB; simp [Value.ownBlock] at hB
    · rw [e] at hB; simp [Value.ownBlock] at hB; omega) (by rw [World.size_alloc]; omega)
  have keep : ∀ (x : Value) (i top : Nat), top ≤ wi.heap.size → OwnS 5 1 wi S top x (N + 10) (patK i) → OwnS 5 1 w' S w'.heap.size x (N + 10) (patK i) := fun x i top ht hx => by
    have hx2 := hx.same (w' := wi.alloc (.cells #[u] 22)) (fun B _ hB => Below.heap_alloc _ _ _ (by omega))
    have hx3 := OwnS.kept hx2 (by rw [World.size_alloc]; omega) hgr (by
      rcases hx2 with ⟨e, _⟩ | ⟨B, c, cur, e, _, _, hB, _⟩
      · left; rw [e]; rfl
      · right
        obtain ⟨_, ⟨e2, _⟩ | ⟨g, c2, cur2, e2, _, hgc, _⟩⟩ := hg2
        · rw [e, e2]; simp [Value.ownBlock]
        · rw [e, e2]
          simp only [Value.ownBlock, ne_eq, Option.some.injEq]
          intro he
          subst he
          have := hB.symm.trans hgc
          simp at this)
    exact hx3.raise (by have := bS.size; rw [World.size_alloc] at this; omega)
  refine ⟨v', w', hr, (hA.trans ((hb.mono hSV).trans ((a1.mono hSi).trans bS))), fun i => if i = k then u else G i, ?_, fun i hi => ?_⟩
  · have : (List.range (k + 1)).map (fun i => if i = k then u else G i) = (List.range k).map G ++ [u] := by
      rw [List.range_succ, List.map_append, List.map_singleton, if_pos rfl]
      congr 1
      exact List.map_congr_left fun i hi => if_neg (by have := List.mem_range.1 hi; omega)
    rw [this]; exact ho
  · by_cases e : i = k
    · subst e; show OwnS _ _ _ _ _ (if i = i then u else G i) _ _; rw [if_pos rfl]; exact keep u _ _ (Nat.le_refl _) (hu.lower hSV)
    · show OwnS _ _ _ _ _ (if i = k then u else G i) _ _
      rw [if_neg e]
      refine keep (G i) i V.heap.size hb.size ?_
      exact (hG i (by omega)).same (fun B _ hB => hb.block B hB)
attribute [local irreducible] patK hA

set_option maxRecDepth 100000 in
set_option maxHeartbeats 4000000 in
theorem Apart_two (T LB N : Nat) (D : Nat → Nat) (f : Nat → Nat → Nat) (hN : 1 ≤ N ∧ N ≤ 1024) (hD : D 0 ≠ D 1) (hT : ∀ i, T ≤ D i) (w : World) (hw : T ≤ w.heap.size)
    (hL : w.heap[LB]? = some (.cells #[.slice (some ⟨D 0, 0, none⟩) N N, .slice (some ⟨D 1, 0, none⟩) N N] 22 (0, 0))) (hR : ∀ i, i < 2 → IntBlk w (D i) .u8 5 (mk N (f i))) :
    Calls Tryd.prog 24 #[.slice (some ⟨LB, 0, none⟩) 2 2] w fun e w' => e = .returned (.bool true) ∧ Below T w w' := by
  have A0 : StA T LB N D f w 0 0 w := ⟨hL, fun i hi => by rw [hA_zero]; exact hR i hi, Below.refl _ _, rfl⟩
  have HA0 := Lib.hid A0
  clear A0 hL hR
  go_enter Tryd.func24, Tryd.ntmps24
  go_wp2
  go_loopw [15] (fun v wr => ∃ k : Nat, k ≤ 2 ∧ v = .int .i64 k ∧ StA T LB N D f w k 0 wr) (fun v _ => 2 - (intOf v).toNat)
  case atStart => exact ⟨0, by omega, rfl, HA0.out⟩
  case round =>
    clear HA0
    obtain ⟨k, hk, rfl, hs⟩ := hrel
    by_cases h2 : k < 2
    · have e1 : (k : Int) < 2 := by omega
      have lc := hs.cell h2
      have HS := Lib.hid hs
      clear hs
      go_wp2
      go_loopw [22] (fun v wi => ∃ j : Nat, j ≤ N ∧ v = .int .i64 j ∧ StA T LB N D f w k j wi) (fun v _ => N - (intOf v).toNat)
      case atStart => exact ⟨0, by omega, rfl, HS.out⟩
      case round =>
        clear HS lc
        obtain ⟨j, hj, rfl, hs⟩ := hrel
        by_cases hjn : j < N
        · have e2 : (j : Int) < N := by omega
          have fs := (hs.2.1 k h2).free j
          have cs := (hs.2.1 k h2).cell (i := j) (by rw [mk_len]; omega)
          have q1 := patK_is k j (by omega) (by omega)
          have HS := Lib.hid hs
          clear hs
          go_wp2
          exact ⟨⟨j + 1, by omega, by go_num, HS.out.step h2 hD hT _ rfl⟩, by simp [intOf]; omega⟩
        · have e2 : j = N := by omega
          have e3 : ¬ (j : Int) < N := by omega
          have HS := Lib.hid hs
          clear hs
          go_wp2
          exact ⟨⟨k + 1, by omega, by go_num, HS.out.1, fun i hi => by have := HS.out.2.1 i hi; rw [e2, hA_next] at this; exact this, HS.out.2.2⟩, by simp [intOf]; omega⟩
    · have e2 : k = 2 := by omega
      have e1 : ¬ (k : Int) < 2 := by omega
      rw [e2] at hs
      have HS := Lib.hid hs
      clear hs
      clear hk
      generalize (k : Int) = kk at *
      go_wp2
      obtain ⟨wA, hwA⟩ : ∃ wA, wr = wA := ⟨_, rfl⟩
      obtain ⟨S, hS⟩ : ∃ S, wA.heap.size = S := ⟨_, rfl⟩
      have hwS : w.heap.size = S := by rw [← hS, ← hwA]; exact HS.out.2.2.2.symm
      have B0 : StB T LB N S D wA 0 (.slice (some ⟨wr.heap.size, 0, none⟩) 0 0) (wr.alloc (.cells #[] 22)) := by
        rw [hwA]
        refine ⟨(Below.refl _ _).alloc (by omega) _, fun _ => undef, ⟨rfl, .inr ⟨wA.heap.size, 0, #[], rfl, by omega, heap_alloc_new _ _, Nat.le_refl _, Nat.zero_le _, rfl, rfl⟩⟩, fun i hi => absurd hi (by omega)⟩
      have HB0 := Lib.hid B0
      clear B0
      rw [hwA] at HS
      rw [hwA] at HB0 ⊢
      have HSz := Lib.hid hS; have HwS := Lib.hid hwS
      clear hwA hS hwS
      go_loopw [6, 40] (fun v6 v40 wr => ∃ k : Nat, k ≤ 2 ∧ v40 = .int .i64 k ∧ StB T LB N S D wA k v6 wr) (fun _ v _ => 2 - (intOf v).toNat)
      case atStart => exact ⟨0, by omega, rfl, HB0.out⟩
      case round =>
        clear HB0
        obtain ⟨k, hk, rfl, hs⟩ := hrel
        by_cases h2 : k < 2
        · have e1 : (k : Int) < 2 := by omega
          have bA := hs.1
          have lc : wr.cell? ⟨LB, k, none⟩ = some (.slice (some ⟨D k, 0, none⟩) N N) := by
            have hlt : LB < S := by rw [← HSz.out]; exact lt_of_block HS.out.1
            rw [bA.cell (p := ⟨LB, k, none⟩) hlt]; exact HS.out.cell h2
          have HB := Lib.hid hs
          clear hs bA
          go_wp2
          have hrow : IntBlk wr (D k) .u8 5 (mk N (patK k)) := by
            have := HS.out.2.1 k h2
            rw [hA_end f k N h2] at this
            exact this.below HB.out.1 (by rw [← HSz.out]; exact this.lt)
          have HRow := Lib.hid hrow
          clear hrow lc
          generalize wr = Vk at *
          go_loopw [8] (fun v8 wi => ∃ j : Nat, j ≤ 10 ∧ StBi N S D k Vk j v8 wi) (fun v8 _ => N + 10 - lenV v8)
          case atStart => exact ⟨0, by omega, Below.refl _ _, .inl ⟨rfl, rfl⟩⟩
          case round =>
            obtain ⟨j, hj, hbi, hor⟩ := hrel
            obtain ⟨q, c, hv8⟩ : ∃ q c, u8 = .slice q (N + j) c := by
              rcases hor with ⟨rfl, rfl⟩ | hv
              · exact ⟨_, _, rfl⟩
              · obtain ⟨q, c, rfl, _⟩ := hv.bytes (Nat.le_refl _)
                exact ⟨_, _, rfl⟩
            subst hv8
            have hq10 : IntKind.i64.wrap ((N : Int) + 10) = (N : Int) + 10 := IntWalk.i64_in _ (by omega)
            by_cases h10 : j < 10
            · have e2 : ((N + j : Nat) : Int) < (N : Int) + 10 := by omega
              obtain ⟨L, hLj⟩ : ∃ L, N + j = L := ⟨_, rfl⟩
              have q1 := patK_is k L (by omega) (by omega)
              have hpk := patK_lt k L
              have HBI := Lib.hid hbi; have HOR := Lib.hid hor
              rw [hLj] at HOR e2 ⊢
              clear hbi hor
              generalize hpp : patK k L = pk at *
              have hst : StBi N S D k Vk j (.slice q L c) wr := ⟨HBI.out, by have := HOR.out; rw [← hLj] at this ⊢; exact this⟩
              obtain ⟨v9, w9, hr9, hs9⟩ := StBi.append hst (by omega) h10 HRow.out pk (by rw [hLj]; exact hpp) 22
              obtain ⟨q9, c9, hv9⟩ : ∃ q9 c9, v9 = .slice q9 (L + 1) c9 := by
                rcases hs9.2 with ⟨h0, _⟩ | hv
                · exact absurd h0 (by omega)
                · obtain ⟨q, c, rfl, _⟩ := hv.bytes (Nat.le_refl _)
                  exact ⟨q, c, by rw [← hLj, Nat.add_assoc]⟩
              subst hv9
              have HR9 := Lib.hid hr9; have HS9 := Lib.hid hs9; have HLJ := Lib.hid hLj
              clear hr9 hs9 HBI HOR hst hpp hLj
              go_wp2_with (first
                | (refine Lib.wpList_append_run _ rfl _ _ _ _ rfl _ _ rfl rfl _ _ HR9.out ?_))
              refine ⟨⟨j + 1, by omega, HS9.out⟩, ?_⟩
              have := HLJ.out
              show N + 10 - (L + 1) < N + 10 - L
              omega
            · have e2 : ¬ ((N + j : Nat) : Int) < (N : Int) + 10 := by omega
              have e3 : j = 10 := by omega
              have hvk : OwnS 5 1 wr Vk.heap.size wr.heap.size (.slice q (N + j) c) (N + 10) (patK k) := by
                rcases hor with ⟨h0, _⟩ | hv
                · exact absurd h0 (by omega)
                · rw [e3] at hv ⊢; exact hv
              have HBI := Lib.hid hbi; have HVK := Lib.hid hvk
              obtain ⟨L, hLj⟩ : ∃ L, N + j = L := ⟨_, rfl⟩
              rw [hLj] at HVK e2 ⊢
              clear hbi hor hvk hLj
              obtain ⟨v9, w9, hr9, hs9⟩ := StB.append HB.out h2 HSz.out HBI.out HVK.out rfl 46
              have HR9 := Lib.hid hr9; have HS9 := Lib.hid hs9
              clear hr9 hs9 HBI HVK HB
              go_wp2_with (first
                | (refine Lib.wpList_append_run _ rfl _ _ _ _ rfl _ _ rfl rfl _ _ HR9.out ?_))
              exact ⟨⟨k + 1, by omega, by go_num, HS9.out⟩, by simp [intOf]; omega⟩
        · have e3 : k = 2 := by omega
          have e1 : ¬ (k : Int) < 2 := by omega
          rw [e3] at hs
          obtain ⟨hbA, G, hg, hG⟩ := hs
          obtain ⟨g0, c0, rfl, hgc⟩ : ∃ g0 c0, u6 = .slice (some ⟨g0, 0, none⟩) 2 c0 ∧ ∀ i, i < 2 → wr.cell? ⟨g0, i, none⟩ = some (G i) := by
            obtain ⟨_, ⟨_, h2⟩ | ⟨g, c, cur, e, _, hh, _, _, hcs, ht⟩⟩ := hg
            · simp at h2
            · refine ⟨g, c, e, fun i hi => ?_⟩
              rw [cell_of_row wr g i cur _ (0, 0) hh]
              have : (cur.toList.take (2 * 1))[i]? = ((List.range 2).map G)[i]? := by rw [ht]
              rw [List.getElem?_take_of_lt (by omega)] at this
              simpa [hi] using this
          obtain ⟨Bk, ck, hGk, hBk⟩ : ∃ Bk ck : Nat → Nat, (∀ i, i < 2 → G i = .slice (some ⟨Bk i, 0, none⟩) (N + 10) (ck i)) ∧ ∀ i, i < 2 → BytesAt wr (some ⟨Bk i, 0, none⟩) (N + 10) (patK i) := by
            have each : ∀ i, i < 2 → ∃ b c, G i = .slice (some ⟨b, 0, none⟩) (N + 10) c ∧ BytesAt wr (some ⟨b, 0, none⟩) (N + 10) (patK i) := fun i hi => by
              rcases hG i hi with ⟨_, h0⟩ | ⟨B, c, cur, e, h⟩
              · omega
              · obtain ⟨p, c', e2, _, _, hb, _⟩ := (hG i hi).bytes (Nat.le_refl _)
                rw [e] at e2
                simp only [Value.slice.injEq] at e2
                rw [← e2.1] at hb
                exact ⟨B, c, e, hb⟩
            obtain ⟨b0, x0, p0, r0⟩ := each 0 (by omega)
            obtain ⟨b1, x1, p1, r1⟩ := each 1 (by omega)
            refine ⟨fun i => if i = 0 then b0 else b1, fun i => if i = 0 then x0 else x1, fun i hi => ?_, fun i hi => ?_⟩
            · rcases (show i = 0 ∨ i = 1 by omega) with rfl | rfl
              · simpa using p0
              · simpa using p1
            · rcases (show i = 0 ∨ i = 1 by omega) with rfl | rfl
              · simpa using r0
              · simpa using r1
          have hL2 : ∀ i, i < 2 → wr.cell? ⟨LB, i, none⟩ = some (.slice (some ⟨D i, 0, none⟩) N N) := fun i hi => by
            have hlt : LB < S := by rw [← HSz.out]; exact lt_of_block HS.out.1
            rw [hbA.cell (p := ⟨LB, i, none⟩) hlt]; exact HS.out.cell hi
          have hD2 : ∀ i, i < 2 → BytesAt wr (some ⟨D i, 0, none⟩) N (patK i) := fun i hi => by
            have := HS.out.2.1 i hi
            rw [hA_end f i N hi] at this
            exact (this.below hbA (by rw [← HSz.out]; exact this.lt)).bytes
          have hTw : Below T w wr := HS.out.2.2.1.trans (hbA.mono (by rw [← HwS.out]; exact hw))
          have hTs : T ≤ wr.heap.size := Nat.le_trans hw hTw.size
          have HL2 := Lib.hid hL2; have HD2 := Lib.hid hD2; have HTW := Lib.hid hTw; have HBk := Lib.hid hBk
          have HGC : Hid (∀ i, i < 2 → wr.cell? ⟨g0, i, none⟩ = some (.slice (some ⟨Bk i, 0, none⟩) (N + 10) (ck i))) := Lib.hid (fun i hi => by rw [hgc i hi, hGk i hi])
          have HE3 := Lib.hid e3
          clear hL2 hD2 hTw hBk hgc hGk hG hg hbA HS HSz HwS e3
          generalize (k : Int) = kk2 at *
          go_wp2
          generalize wr = V at *
          go_loopw [70] (fun v wr => ∃ k : Nat, k ≤ 2 ∧ v = .int .i64 k ∧ Below V.heap.size V wr) (fun v _ => 2 - (intOf v).toNat)
          case atStart => exact ⟨0, by omega, rfl, Below.refl _ _⟩
          case round =>
            obtain ⟨k, hk, rfl, hb⟩ := hrel
            by_cases h2 : k < 2
            · have e1 : (k : Int) < 2 := by omega
              have lc : wr.cell? ⟨g0, k, none⟩ = some (.slice (some ⟨Bk k, 0, none⟩) (N + 10) (ck k)) := (hb.cell (p := ⟨g0, k, none⟩) (block_lt_of_cell (HGC.out k h2))).trans (HGC.out k h2)
              have HB := Lib.hid hb
              clear hb
              go_wp2
              go_loopw [77] (fun v wi => ∃ j : Nat, j ≤ N + 10 ∧ v = .int .i64 j ∧ Below V.heap.size V wi) (fun v _ => N + 10 - (intOf v).toNat)
              case atStart => exact ⟨0, by omega, rfl, HB.out⟩
              case round =>
                clear HB lc
                obtain ⟨j, hj, rfl, hb⟩ := hrel
                by_cases hjn : j < N + 10
                · have e4 : (j : Int) < (N : Int) + 10 := by omega
                  have e5 : (j : Int) < ((N + 10 : Nat) : Int) := by omega
                  have HB := Lib.hid hb
                  clear hb
                  have hq : IntKind.u8.wrap (29 * (k : Int) + 5 * (j : Int) + 3) = (patK k j : Nat) := by rw [IntKind.wrap_u8']; exact patK_is k j (by omega) (by omega)
                  have HQ := Lib.hid hq
                  clear hq
                  go_wp2
                  by_cases hjN : j < N
                  · have hdN : decide ((j : Int) < (N : Int)) = true := by simp; omega
                    have c0 : Below wr.heap.size wr wr.drew := (Below.refl _ wr).drew
                    refine wp_region_sched [(0, true), (1, true), (2, true), (3, true), (4, true), (5, true), (6, true), (7, true), (8, true), (9, true), (10, true), (11, true), (12, true), (13, true), (14, true), (15, true), (16, true), (17, true), (18, true), (19, true), (20, true), (21, true), (22, true), (23, true), (24, true), (25, true), (26, true), (27, true), (28, true), (29, true), (30, true), (31, true), (32, true), (33, true), (34, true)] (fun W => Below wr.heap.size wr W) (by kernel_rfl) (by kernel_rfl) c0 ?_
                    refine walk_float rfl rfl (fun K' hK' => ?_)
                    refine gives_move _ rfl ?_
                    go_simp
                    refine hK' _ ?_
                    clear hK' K'
                    refine walk_float rfl rfl (fun K' hK' => ?_)
                    refine gives_move _ rfl ?_
                    go_simp
                    refine hK' _ ?_
                    clear hK' K'
                    refine walk_float rfl rfl (fun K' hK' => ?_)
                    refine gives_nth 22 5 _ _ rfl bytesUnder byteInfo (Bk k) (N + 10) (ck k) j rfl rfl hjn ?_
                    go_simp
                    refine hK' _ ?_
                    clear hK' K'
                    refine walk_float rfl rfl (fun K' hK' => ?_)
                    refine gives_lie 5 _ rfl ⟨Bk k, j, none⟩ (.int .u8 (patK k j : Nat)) rfl box_byte (fun W h => (h.cell (p := ⟨Bk k, j, none⟩) (by show Bk k < wr.heap.size; exact Nat.lt_of_lt_of_le (block_lt_of_cell ((HBk.out k h2).cell hjn)) HB.out.size)).trans ((HB.out.cell (p := ⟨Bk k, j, none⟩) (block_lt_of_cell ((HBk.out k h2).cell hjn))).trans ((HBk.out k h2).cell hjn))) ?_
                    go_simp
                    refine hK' _ ?_
                    clear hK' K'
                    refine walk_float rfl rfl (fun K' hK' => ?_)
                    refine gives_move _ rfl ?_
                    go_simp
                    refine hK' _ ?_
                    clear hK' K'
                    refine walk_float rfl rfl (fun K' hK' => ?_)
                    refine gives_times _ _ rfl 29 k (29 * (k : Int)) rfl rfl (IntWalk.i64_in _ (by omega)) ?_
                    go_simp
                    refine hK' _ ?_
                    clear hK' K'
                    refine walk_float rfl rfl (fun K' hK' => ?_)
                    refine gives_move _ rfl ?_
                    go_simp
                    refine hK' _ ?_
                    clear hK' K'
                    refine walk_float rfl rfl (fun K' hK' => ?_)
                    refine gives_times _ _ rfl 5 j (5 * (j : Int)) rfl rfl (IntWalk.i64_in _ (by omega)) ?_
                    go_simp
                    refine hK' _ ?_
                    clear hK' K'
                    refine walk_float rfl rfl (fun K' hK' => ?_)
                    refine gives_int_add _ _ rfl (29 * (k : Int)) (5 * (j : Int)) (29 * (k : Int) + 5 * (j : Int)) rfl rfl (IntWalk.i64_in _ (by omega)) ?_
                    go_simp
                    refine hK' _ ?_
                    clear hK' K'
                    refine walk_float rfl rfl (fun K' hK' => ?_)
                    refine gives_int_add _ _ rfl (29 * (k : Int) + 5 * (j : Int)) 3 (29 * (k : Int) + 5 * (j : Int) + 3) rfl rfl (IntWalk.i64_in _ (by omega)) ?_
                    go_simp
                    refine hK' _ ?_
                    clear hK' K'
                    refine walk_float rfl rfl (fun K' hK' => ?_)
                    refine gives_to_byte _ rfl (29 * (k : Int) + 5 * (j : Int) + 3) (patK k j : Nat) rfl HQ.out ?_
                    go_simp
                    refine hK' _ ?_
                    clear hK' K'
                    refine walk_float rfl rfl (fun K' hK' => ?_)
                    refine gives_u8_neq _ _ rfl (patK k j : Nat) (patK k j : Nat) false rfl rfl (by simp) ?_
                    go_simp
                    refine hK' _ ?_
                    clear hK' K'
                    refine walk_float rfl rfl (fun K' hK' => ?_)
                    refine gives_move _ rfl ?_
                    go_simp
                    refine hK' _ ?_
                    clear hK' K'
                    refine walk_float rfl rfl (fun K' hK' => ?_)
                    refine gives_move _ rfl ?_
                    go_simp
                    refine hK' _ ?_
                    clear hK' K'
                    refine walk_float rfl rfl (fun K' hK' => ?_)
                    refine gives_move _ rfl ?_
                    go_simp
                    refine hK' _ ?_
                    clear hK' K'
                    refine walk_float rfl rfl (fun K' hK' => ?_)
                    refine gives_move _ rfl ?_
                    go_simp
                    refine hK' _ ?_
                    clear hK' K'
                    refine walk_float rfl rfl (fun K' hK' => ?_)
                    refine gives_nth 46 22 _ _ rfl Tryd.underlying46 listInfo LB 2 2 k rfl rfl h2 ?_
                    go_simp
                    refine hK' _ ?_
                    clear hK' K'
                    refine walk_float rfl rfl (fun K' hK' => ?_)
                    refine gives_lie 22 _ rfl ⟨LB, k, none⟩ (.slice (some ⟨D k, 0, none⟩) N N) rfl box_bytes (fun W h => (h.cell (p := ⟨LB, k, none⟩) (by show LB < wr.heap.size; exact Nat.lt_of_lt_of_le (block_lt_of_cell (HL2.out k h2)) HB.out.size)).trans ((HB.out.cell (p := ⟨LB, k, none⟩) (block_lt_of_cell (HL2.out k h2))).trans (HL2.out k h2))) ?_
                    go_simp
                    refine hK' _ ?_
                    clear hK' K'
                    refine walk_float rfl rfl (fun K' hK' => ?_)
                    refine gives_len _ rfl (some ⟨D k, 0, none⟩) N N rfl ?_
                    go_simp
                    refine hK' _ ?_
                    clear hK' K'
                    refine walk_float rfl rfl (fun K' hK' => ?_)
                    refine gives_below _ _ rfl j N true rfl rfl hdN ?_
                    go_simp
                    refine hK' _ ?_
                    clear hK' K'
                    refine walk_float rfl rfl (fun K' hK' => ?_)
                    refine gives_move _ rfl ?_
                    go_simp
                    refine hK' _ ?_
                    clear hK' K'
                    refine walk_float rfl rfl (fun K' hK' => ?_)
                    refine gives_move _ rfl ?_
                    go_simp
                    refine hK' _ ?_
                    clear hK' K'
                    refine walk_float rfl rfl (fun K' hK' => ?_)
                    refine gives_move _ rfl ?_
                    go_simp
                    refine hK' _ ?_
                    clear hK' K'
                    refine walk_float rfl rfl (fun K' hK' => ?_)
                    refine gives_nth 46 22 _ _ rfl Tryd.underlying46 listInfo LB 2 2 k rfl rfl h2 ?_
                    go_simp
                    refine hK' _ ?_
                    clear hK' K'
                    refine walk_float rfl rfl (fun K' hK' => ?_)
                    refine gives_lie 22 _ rfl ⟨LB, k, none⟩ (.slice (some ⟨D k, 0, none⟩) N N) rfl box_bytes (fun W h => (h.cell (p := ⟨LB, k, none⟩) (by show LB < wr.heap.size; exact Nat.lt_of_lt_of_le (block_lt_of_cell (HL2.out k h2)) HB.out.size)).trans ((HB.out.cell (p := ⟨LB, k, none⟩) (block_lt_of_cell (HL2.out k h2))).trans (HL2.out k h2))) ?_
                    go_simp
                    refine hK' _ ?_
                    clear hK' K'
                    refine walk_float rfl rfl (fun K' hK' => ?_)
                    refine gives_move _ rfl ?_
                    go_simp
                    refine hK' _ ?_
                    clear hK' K'
                    refine walk_float rfl rfl (fun K' hK' => ?_)
                    refine gives_nth 22 5 _ _ rfl bytesUnder byteInfo (D k) N N j rfl rfl hjN ?_
                    go_simp
                    refine hK' _ ?_
                    clear hK' K'
                    refine walk_float rfl rfl (fun K' hK' => ?_)
                    refine gives_lie 5 _ rfl ⟨D k, j, none⟩ (.int .u8 (patK k j : Nat)) rfl box_byte (fun W h => (h.cell (p := ⟨D k, j, none⟩) (by show D k < wr.heap.size; exact Nat.lt_of_lt_of_le (block_lt_of_cell ((HD2.out k h2).cell hjN)) HB.out.size)).trans ((HB.out.cell (p := ⟨D k, j, none⟩) (block_lt_of_cell ((HD2.out k h2).cell hjN))).trans ((HD2.out k h2).cell hjN))) ?_
                    go_simp
                    refine hK' _ ?_
                    clear hK' K'
                    refine walk_float rfl rfl (fun K' hK' => ?_)
                    refine gives_move _ rfl ?_
                    go_simp
                    refine hK' _ ?_
                    clear hK' K'
                    refine walk_float rfl rfl (fun K' hK' => ?_)
                    refine gives_move _ rfl ?_
                    go_simp
                    refine hK' _ ?_
                    clear hK' K'
                    refine walk_float rfl rfl (fun K' hK' => ?_)
                    refine gives_nth 22 5 _ _ rfl bytesUnder byteInfo (Bk k) (N + 10) (ck k) j rfl rfl hjn ?_
                    go_simp
                    refine hK' _ ?_
                    clear hK' K'
                    refine walk_float rfl rfl (fun K' hK' => ?_)
                    refine gives_lie 5 _ rfl ⟨Bk k, j, none⟩ (.int .u8 (patK k j : Nat)) rfl box_byte (fun W h => (h.cell (p := ⟨Bk k, j, none⟩) (by show Bk k < wr.heap.size; exact Nat.lt_of_lt_of_le (block_lt_of_cell ((HBk.out k h2).cell hjn)) HB.out.size)).trans ((HB.out.cell (p := ⟨Bk k, j, none⟩) (block_lt_of_cell ((HBk.out k h2).cell hjn))).trans ((HBk.out k h2).cell hjn))) ?_
                    go_simp
                    refine hK' _ ?_
                    clear hK' K'
                    refine walk_float rfl rfl (fun K' hK' => ?_)
                    refine gives_u8_neq _ _ rfl (patK k j : Nat) (patK k j : Nat) false rfl rfl (by simp) ?_
                    go_simp
                    refine hK' _ ?_
                    clear hK' K'
                    refine walk_float rfl rfl (fun K' hK' => ?_)
                    refine gives_pick_yes _ _ _ rfl rfl (.bool false) rfl ?_
                    go_simp
                    refine hK' _ ?_
                    clear hK' K'
                    refine walk_float rfl rfl (fun K' hK' => ?_)
                    refine gives_pick_no _ _ _ rfl rfl (.bool false) rfl ?_
                    go_simp
                    refine hK' _ ?_
                    clear hK' K'
                    refine walk_nil ?_
                    go_wp2
                    exact ⟨⟨j + 1, by omega, by go_num, HB.out.trans (c0.mono HB.out.size)⟩, by simp [intOf]; omega⟩
                  · have hdN : decide ((j : Int) < (N : Int)) = false := by simp; omega
                    have c0 : Below wr.heap.size wr wr.drew := (Below.refl _ wr).drew
                    refine wp_region_sched [(0, true), (1, true), (2, true), (3, true), (4, true), (5, true), (6, true), (7, true), (8, true), (9, true), (10, true), (11, true), (12, true), (13, true), (14, true), (15, true), (16, true), (17, true), (18, true), (19, true), (20, true), (21, true), (22, true), (23, true), (24, true), (25, true), (26, true), (27, true), (28, true), (29, true), (30, true), (31, true), (32, true), (33, true), (34, true)] (fun W => Below wr.heap.size wr W) (by kernel_rfl) (by kernel_rfl) c0 ?_
                    refine walk_float rfl rfl (fun K' hK' => ?_)
                    refine gives_move _ rfl ?_
                    go_simp
                    refine hK' _ ?_
                    clear hK' K'
                    refine walk_float rfl rfl (fun K' hK' => ?_)
                    refine gives_move _ rfl ?_
                    go_simp
                    refine hK' _ ?_
                    clear hK' K'
                    refine walk_float rfl rfl (fun K' hK' => ?_)
                    refine gives_nth 22 5 _ _ rfl bytesUnder byteInfo (Bk k) (N + 10) (ck k) j rfl rfl hjn ?_
                    go_simp
                    refine hK' _ ?_
                    clear hK' K'
                    refine walk_float rfl rfl (fun K' hK' => ?_)
                    refine gives_lie 5 _ rfl ⟨Bk k, j, none⟩ (.int .u8 (patK k j : Nat)) rfl box_byte (fun W h => (h.cell (p := ⟨Bk k, j, none⟩) (by show Bk k < wr.heap.size; exact Nat.lt_of_lt_of_le (block_lt_of_cell ((HBk.out k h2).cell hjn)) HB.out.size)).trans ((HB.out.cell (p := ⟨Bk k, j, none⟩) (block_lt_of_cell ((HBk.out k h2).cell hjn))).trans ((HBk.out k h2).cell hjn))) ?_
                    go_simp
                    refine hK' _ ?_
                    clear hK' K'
                    refine walk_float rfl rfl (fun K' hK' => ?_)
                    refine gives_move _ rfl ?_
                    go_simp
                    refine hK' _ ?_
                    clear hK' K'
                    refine walk_float rfl rfl (fun K' hK' => ?_)
                    refine gives_times _ _ rfl 29 k (29 * (k : Int)) rfl rfl (IntWalk.i64_in _ (by omega)) ?_
                    go_simp
                    refine hK' _ ?_
                    clear hK' K'
                    refine walk_float rfl rfl (fun K' hK' => ?_)
                    refine gives_move _ rfl ?_
                    go_simp
                    refine hK' _ ?_
                    clear hK' K'
                    refine walk_float rfl rfl (fun K' hK' => ?_)
                    refine gives_times _ _ rfl 5 j (5 * (j : Int)) rfl rfl (IntWalk.i64_in _ (by omega)) ?_
                    go_simp
                    refine hK' _ ?_
                    clear hK' K'
                    refine walk_float rfl rfl (fun K' hK' => ?_)
                    refine gives_int_add _ _ rfl (29 * (k : Int)) (5 * (j : Int)) (29 * (k : Int) + 5 * (j : Int)) rfl rfl (IntWalk.i64_in _ (by omega)) ?_
                    go_simp
                    refine hK' _ ?_
                    clear hK' K'
                    refine walk_float rfl rfl (fun K' hK' => ?_)
                    refine gives_int_add _ _ rfl (29 * (k : Int) + 5 * (j : Int)) 3 (29 * (k : Int) + 5 * (j : Int) + 3) rfl rfl (IntWalk.i64_in _ (by omega)) ?_
                    go_simp
                    refine hK' _ ?_
                    clear hK' K'
                    refine walk_float rfl rfl (fun K' hK' => ?_)
                    refine gives_to_byte _ rfl (29 * (k : Int) + 5 * (j : Int) + 3) (patK k j : Nat) rfl HQ.out ?_
                    go_simp
                    refine hK' _ ?_
                    clear hK' K'
                    refine walk_float rfl rfl (fun K' hK' => ?_)
                    refine gives_u8_neq _ _ rfl (patK k j : Nat) (patK k j : Nat) false rfl rfl (by simp) ?_
                    go_simp
                    refine hK' _ ?_
                    clear hK' K'
                    refine walk_float rfl rfl (fun K' hK' => ?_)
                    refine gives_move _ rfl ?_
                    go_simp
                    refine hK' _ ?_
                    clear hK' K'
                    refine walk_float rfl rfl (fun K' hK' => ?_)
                    refine gives_move _ rfl ?_
                    go_simp
                    refine hK' _ ?_
                    clear hK' K'
                    refine walk_float rfl rfl (fun K' hK' => ?_)
                    refine gives_move _ rfl ?_
                    go_simp
                    refine hK' _ ?_
                    clear hK' K'
                    refine walk_float rfl rfl (fun K' hK' => ?_)
                    refine gives_move _ rfl ?_
                    go_simp
                    refine hK' _ ?_
                    clear hK' K'
                    refine walk_float rfl rfl (fun K' hK' => ?_)
                    refine gives_nth 46 22 _ _ rfl Tryd.underlying46 listInfo LB 2 2 k rfl rfl h2 ?_
                    go_simp
                    refine hK' _ ?_
                    clear hK' K'
                    refine walk_float rfl rfl (fun K' hK' => ?_)
                    refine gives_lie 22 _ rfl ⟨LB, k, none⟩ (.slice (some ⟨D k, 0, none⟩) N N) rfl box_bytes (fun W h => (h.cell (p := ⟨LB, k, none⟩) (by show LB < wr.heap.size; exact Nat.lt_of_lt_of_le (block_lt_of_cell (HL2.out k h2)) HB.out.size)).trans ((HB.out.cell (p := ⟨LB, k, none⟩) (block_lt_of_cell (HL2.out k h2))).trans (HL2.out k h2))) ?_
                    go_simp
                    refine hK' _ ?_
                    clear hK' K'
                    refine walk_float rfl rfl (fun K' hK' => ?_)
                    refine gives_len _ rfl (some ⟨D k, 0, none⟩) N N rfl ?_
                    go_simp
                    refine hK' _ ?_
                    clear hK' K'
                    refine walk_float rfl rfl (fun K' hK' => ?_)
                    refine gives_below _ _ rfl j N false rfl rfl hdN ?_
                    go_simp
                    refine hK' _ ?_
                    clear hK' K'
                    refine walk_float rfl rfl (fun K' hK' => ?_)
                    refine gives_move _ rfl ?_
                    go_simp
                    refine hK' _ ?_
                    clear hK' K'
                    refine walk_idle rfl rfl ?_
                    go_simp
                    refine walk_idle rfl rfl ?_
                    go_simp
                    refine walk_idle rfl rfl ?_
                    go_simp
                    refine walk_idle rfl rfl ?_
                    go_simp
                    refine walk_idle rfl rfl ?_
                    go_simp
                    refine walk_idle rfl rfl ?_
                    go_simp
                    refine walk_idle rfl rfl ?_
                    go_simp
                    refine walk_idle rfl rfl ?_
                    go_simp
                    refine walk_idle rfl rfl ?_
                    go_simp
                    refine walk_idle rfl rfl ?_
                    go_simp
                    refine walk_idle rfl rfl ?_
                    go_simp
                    refine walk_idle rfl rfl ?_
                    go_simp
                    refine walk_float rfl rfl (fun K' hK' => ?_)
                    refine gives_pick_no _ _ _ rfl rfl (.bool false) rfl ?_
                    go_simp
                    refine hK' _ ?_
                    clear hK' K'
                    refine walk_float rfl rfl (fun K' hK' => ?_)
                    refine gives_pick_no _ _ _ rfl rfl (.bool false) rfl ?_
                    go_simp
                    refine hK' _ ?_
                    clear hK' K'
                    refine walk_nil ?_
                    go_wp2
                    exact ⟨⟨j + 1, by omega, by go_num, HB.out.trans (c0.mono HB.out.size)⟩, by simp [intOf]; omega⟩
                · have e4 : ¬ (j : Int) < (N : Int) + 10 := by omega
                  have e5 : ¬ (j : Int) < ((N + 10 : Nat) : Int) := by omega
                  have HB := Lib.hid hb
                  clear hb
                  go_wp2
                  exact ⟨⟨k + 1, by omega, by go_num, HB.out⟩, by simp [intOf]; omega⟩
            · have e1 : ¬ (k : Int) < 2 := by omega
              have HB := Lib.hid hb
              clear hb
              go_wp2
              go_ret
              exact ⟨rfl, HTW.out.trans (HB.out.mono hTs)⟩
end Go.Proofs.YtfjbehobpkmjbaaDoor
