/- The contracts of package redo's Puts and told: what the sectors say, as far as they go on. Condition: sectors have 128 bytes; there are at most 1000. -/
import Derived.Test.YtdeojhcfbiekmaaDoorRdIter
import Derived.Test.YtdeojhcfbiekmaaDoorRdNumOf
import Derived.Test.YtdeojhcfbiekmaaDoorRdStore
import Derived.Test.YtdeojhcfbiekmaaDoorWdSched
import Derived.WalkMore
namespace Go.Proofs.YtdeojhcfbiekmaaDoor
open Go.ChangeShapes Go.WideShapes Go.ChangeAt Go.RowKit
attribute [local go_sem] Oper.semAt_some
set_option linter.unusedVariables false
section
variable {P : Program} {Q : Exit → Act → World → Prop} {l n : Nat}
theorem region_round_sched {id : Nat} {a : Act} {w : World} {xs : List Oper} (s : List (Nat × Bool)) (C : World → Prop) (hm : P.follows .mixedOrders = true) (hd : xs.all noDefer = true) (hq : ¬ LetsOut Q)
    (hB : (Region.noSelect xs.toArray && decide (s.length = xs.length) && schedB .any xs.toArray s (Array.replicate xs.length false)) = true) (hC : C w.drew)
    (h : walkS P xs.toArray C (fun a' w' => Q .normal a' w') s a w.drew) : (Code.region id xs.toArray true).wpIn (Fence.wide.inRound l) n P Q a w := by
  simp only [Bool.and_eq_true, decide_eq_true_eq] at hB
  refine wpIn_region_any hm ?_
  have := any_of_anyC (Q := Q) (fun a w _ h => h) _ _ _ _ hC (anyC_sched (md := .any) hB.1.1 s _ a w.drew hC hB.2 h)
  rw [hB.1.2] at this
  exact wpAnyIn_round (fun o ho => List.all_eq_true.1 hd o (by simpa using ho)) hq _ _ _ _ (by simpa using this)
end
theorem box1_cell {w : World} {B : Nat} {v : Value} {t : TypeId} (h : w.heap[B]? = some (.cells #[v] t (0, 0))) : w.cell? ⟨B, 0, none⟩ = some v := (cell_of_row _ _ _ _ _ _ h).trans rfl
theorem setCell_one {w : World} {b : Nat} {v : Value} {t : TypeId} (h : w.heap[b]? = some (.cells #[v] t (0, 0))) (v' : Value) : w.setCell ⟨b, 0, none⟩ v' = w.putObj b (.cells #[v'] t (0, 0)) := by
  have e : (w.heap.modify b fun x => match x with | .cells c elem frozen => .cells (c.setIfInBounds 0 v') elem frozen | o => o) = w.heap.setIfInBounds b (.cells #[v'] t) := by
    refine Array.ext_getElem? fun k => ?_
    rw [Array.getElem?_modify, Array.getElem?_setIfInBounds]
    split
    · rename_i hk; subst hk; rw [h]; simp [(Array.getElem?_eq_some_iff.1 h).1]
    · rfl
  exact congrArg (fun z => { w with heap := z }) e
theorem done_store1 {o : Oper} {a : Act} {w : World} {K : Value → World → Prop} (ty : TypeId) (x y : Operand) (ho : o.op = .store ty x y) (X : Nat) (v u : Value) (t : TypeId) (hx : a.eval x = .pointer (some ⟨X, 0, none⟩)) (hy : a.eval y = v) (hX : w.heap[X]? = some (.cells #[u] t (0, 0))) (hi : (Tryd.prog.info? ty).map (·.size) = some 1) (h1 : v.oneCell' = true) (h : K undef (w.setRow X #[v])) : doneAt Tryd.prog o a w K := by
  unfold doneAt execOp
  simp only [ho, hx, hy, Instr.storeAt, Instr.sureAddr, Sem.run_bind, Sem.run_pure, Result.andThen_ok, run_storeVar_one w X t ty u v hX hi h1]
  exact h
theorem box_secs (w : World) : (isAgg 25).run Tryd.prog w = .ok false w := by simp [go_sem]
theorem box_puts (w : World) : (isAgg 32).run Tryd.prog w = .ok false w := by simp [go_sem]
theorem wpList_load1 {ops : Array Oper} {rest : List Oper} {o : Oper} {a : Act} {w : World} {Q : Exit → Act → World → Prop} (hw : Region.wanted o (yielded ops a.tmps) = true) (t : TypeId) (x : Operand) (ho : o.op = .load t x) (p : Addr) (v : Value) (hx : a.eval x = .pointer (some p)) (hu : ∀ w, (isAgg t).run Tryd.prog w = .ok false w) (hc : w.cell? p = some v) (h : wpList Tryd.prog ops Q rest (a.put o.dst v) w) : wpList Tryd.prog ops Q (o :: rest) a w :=
  wanted_step hw fun K hK => by
    obtain ⟨u, hv, hk2⟩ := gives_cell (C := fun W => W.cell? p = some v) (K := fun a' => a' = a.put o.dst v) t x ho p v hx hu (fun _ h => h) rfl
    have hv' := hv w hc
    unfold Oper.wp
    rw [hv']
    show K (a.put o.dst u) w
    rw [hk2]
    exact hK _ _ h
/-! ### Lists that stay in their block -/
theorem OwnL.move {α : Type} {e : TypeId} {sz base top : Nat} {C : α → List Value} {w w' : World} {v : Value} {l : List α} (h : OwnL e sz C w base top v l) (hb : ∀ B, v.ownBlock = some B → B < w.heap.size → w'.heap[B]? = w.heap[B]?) (ht : top ≤ w'.heap.size) : OwnL e sz C w' base w'.heap.size v l := by
  rcases h with h | ⟨B, c, cur, h1, h2, h3, h4, h5⟩
  · exact .inl h
  · exact .inr ⟨B, c, cur, h1, h2, by omega, (hb B (by rw [h1]; rfl) (Array.getElem?_eq_some_iff.1 h4).1).trans h4, h5⟩
/-- What the first sector of sectors says. -/
def saysC (cs : List (List Int)) : List Int := if cs = [] then [] else saysL (cs.getD 0 [])
theorem saysC_cons (s : List Int) (r : List (List Int)) : saysC (s :: r) = saysL s := if_neg (List.cons_ne_nil _ _)
theorem saysC_len (cs : List (List Int)) : (saysC cs).length ≤ 56 := by
  unfold saysC; split
  · simp
  · exact saysL_len _
theorem sec_val (s : List Int) : secVal s = .agg (cellsOf .u8 (mk 128 (natF s))) := rfl
theorem boxL_new (w : World) (q : Option Addr) (L : List Int) (c : Nat) (h : RowsAt 1 intC w q L) : BoxL (w.alloc (.cells #[.slice q L.length c] 46)) w.heap.size q c L :=
  ⟨box1_cell (heap_alloc_new _ _), h.below ((Below.refl _ _).alloc (Nat.le_refl _) _), by simp⟩
/-- Between two rounds: the puts told so far are in the box. -/
structure ToS (w : World) (X T C D : Nat) (q : Option Addr) (n cap : Nat) (nq : Option Addr) (nc : Nat) (L : List Int) (l : List PutOf) (V : World) : Prop where
  out : ∃ v, V.heap[X]? = some (.cells #[v] 32 (0, 0)) ∧ OwnL 57 129 putC V D V.heap.size v l ∧ ∀ g, v.ownBlock = some g → D + 2 ≤ g
  arg : V.cell? ⟨T, 0, none⟩ = some (.slice q n cap)
  box : BoxL V C nq nc L
  low : Below w.heap.size w V
  big : D ≤ V.heap.size
/-- Where the blocks of the state lie. -/
structure ToG (w : World) (X T C D : Nat) (nq : Option Addr) (L : List Int) : Prop where
  x : X < D
  t : T < D
  c : C < D
  tx : T ≠ X
  cx : C ≠ X
  n : ∀ B o, nq = some ⟨B, o, none⟩ → L ≠ [] → B < D ∧ B ≠ X
  w0 : w.heap.size ≤ X
theorem boxL_keep {V V' : World} {C D X : Nat} {nq : Option Addr} {nc : Nat} {L : List Int} (h : BoxL V C nq nc L) (hC : C < D) (hX : C ≠ X) (hn : ∀ B o, nq = some ⟨B, o, none⟩ → L ≠ [] → B < D ∧ B ≠ X) (hs : V.heap.size ≤ V'.heap.size) (bl : ∀ k, k < D → k ≠ X → V'.heap[k]? = V.heap[k]?) : BoxL V' C nq nc L := by
  refine ⟨(World.cell?_of_block (w := V) (a := ⟨C, 0, none⟩) (bl C hC hX)).trans h.1, ?_, by have := h.2.2; omega⟩
  rcases h.2.1 with h0 | ⟨B, o, h1, h2, h3⟩
  · exact .inl h0
  · by_cases hl : L = []
    · exact .inl hl
    · obtain ⟨e1, e2⟩ := hn B o h1 hl
      exact .inr ⟨B, o, h1, by omega, fun i c hc j v hv => (World.cell?_of_block (w := V) (a := ⟨B, o + 1 * i + j, none⟩) (bl B e1 e2)).trans (h3 i c hc j v hv)⟩
theorem ToS.save {w : World} {X T C D n cap nc : Nat} {q nq : Option Addr} {L : List Int} {l : List PutOf} {V V' : World} (h : ToS w X T C D q n cap nq nc L l V) (hs : Save D V V') (g : ToG w X T C D nq L) : ToS w X T C D q n cap nq nc L l V' := by
  have hb := h.big
  have gx := g.x; have gt := g.t; have gc := g.c; have g0 := g.w0
  have bl : ∀ k, k < D → V'.heap[k]? = V.heap[k]? := fun k hk => hs.same k (by omega) (by omega) (by omega)
  obtain ⟨v, hv, ho, hg⟩ := h.out
  have hl := h.low
  refine ⟨⟨v, (bl X gx).trans hv, ho.move (fun B hB hlB => ?_) hs.size, hg⟩, (World.cell?_of_block (w := V) (a := ⟨T, 0, none⟩) (bl T gt)).trans h.arg, boxL_keep h.box gc g.cx g.n hs.size fun k hk _ => bl k hk, ⟨hs.os.trans hl.os, hs.tape.trans hl.tape, hs.output.trans hl.output, Nat.le_trans hl.size hs.size, fun k hk => (bl k (by omega)).trans (hl.block k hk)⟩, Nat.le_trans hb hs.size⟩
  have := hg B hB
  exact hs.same B hlB (by omega) (by omega)
theorem ToS.push {w : World} {X T C D n cap nc : Nat} {q nq : Option Addr} {L : List Int} {l l' : List PutOf} {V V1 w1 : World} {v v' : Value} (h : ToS w X T C D q n cap nq nc L l V) (g : ToG w X T C D nq L) (hD : D + 2 ≤ V.heap.size) (hvX : V.heap[X]? = some (.cells #[v] 32 (0, 0))) (hv : ∀ g, v.ownBlock = some g → D + 2 ≤ g)
    (h1 : Below V.heap.size V V1) (hgr : V1.grownBy w1 v.ownBlock) (hat : v'.ownBlock = v.ownBlock ∨ v'.ownBlock = some V1.heap.size) (hown : OwnL 57 129 putC w1 D w1.heap.size v' l') :
    w1.heap[X]? = some (.cells #[v] 32 (0, 0)) ∧ Rec D V (w1.setRow X #[v']) ∧ ToS w X T C D q n cap nq nc L l' (w1.setRow X #[v']) := by
  have gx := g.x; have gt := g.t; have gc := g.c; have g0 := g.w0
  have s1 := h1.size
  have s2 := hgr.size
  have bl : ∀ k, k < D + 2 → w1.heap[k]? = V.heap[k]? := fun k hk =>
    (hgr.block k (by omega) (fun e => by have := hv k e.symm; omega)).trans (h1.block k (by omega))
  have hX1 := (bl X (by omega)).trans hvX
  have b2 : ∀ k, k < D + 2 → k ≠ X → (w1.setRow X #[v']).heap[k]? = V.heap[k]? := fun k hk hne => (setRow_other w1 X k #[v'] hne).trans (bl k hk)
  have hsz : (w1.setRow X #[v']).heap.size = w1.heap.size := by simp
  have gv : ∀ g, v'.ownBlock = some g → D + 2 ≤ g := fun g hg => by
    rcases hat with e | e
    · exact hv g (e.symm.trans hg)
    · rw [e] at hg; cases hg; omega
  have hl := h.low
  refine ⟨hX1, ⟨by rw [hsz]; omega, b2 D (by omega) (by omega), b2 (D + 1) (by omega) (by omega)⟩, ⟨⟨v', setRow_heap w1 X _ _ _ (0, 0) hX1, ?_, gv⟩, ?_, boxL_keep h.box gc g.cx g.n (by rw [hsz]; omega) fun k hk hne => b2 k (by omega) hne, ?_, by rw [hsz]; omega⟩⟩
  · refine hown.move (fun B hB _ => setRow_other w1 X B #[v'] ?_) (by rw [hsz]; exact Nat.le_refl _)
    have := gv B hB
    omega
  · exact (World.cell?_of_block (w := V) (a := ⟨T, 0, none⟩) (b2 T (by omega) g.tx)).trans h.arg
  · exact ⟨(hgr.os.trans h1.os).trans hl.os, (hgr.tape.trans h1.tape).trans hl.tape, (hgr.output.trans h1.output).trans hl.output, by rw [hsz]; have := hl.size; omega, fun k hk => (b2 k (by omega) (by omega)).trans (hl.block k hk)⟩
theorem toldL_step {L : List Int} {r : List (List Int)} {i : Nat} (hi : i < L.length) (hr : i < r.length) : toldL (L.take (i + 1)) r = toldL (L.take i) r ++ [⟨L.getD i 0, r.getD i []⟩] := by
  unfold toldL
  rw [List.take_add_one, List.getElem?_eq_getElem hi, Option.toList_some]
  apply List.ext_getElem
  · simp; omega
  · intro j h1 h2
    have hj : j < i + 1 := by simp at h1; omega
    rw [List.getElem_append]
    split
    · rename_i hlt
      rw [List.getElem_zipWith, List.getElem_zipWith, List.getElem_append_left]
    · rename_i hlt
      have hji : j = i := by simp at hlt; omega
      subst hji
      simp only [List.getElem_zipWith, List.getD_eq_getElem?_getD, List.getElem?_eq_getElem hi, List.getElem?_eq_getElem hr, Option.getD_some]
      congr 1 <;> simp [Nat.min_eq_left (Nat.le_of_lt hi)]
theorem toldL_stop {L : List Int} {r : List (List Int)} {i : Nat} (hr : i = r.length) : toldL (L.take i) r = toldL L r := by
  subst hr
  unfold toldL
  apply List.ext_getElem
  · simp; omega
  · intro j h1 h2
    simp
theorem toldL_none (L : List Int) (r : List (List Int)) : toldL (L.take 0) r = [] := rfl
theorem toldL_full (L : List Int) (r : List (List Int)) : toldL (L.take L.length) r = toldL L r := by rw [List.take_of_length_le (Nat.le_refl _)]
theorem own_one {α : Type} {e : TypeId} {sz base top : Nat} {C : α → List Value} {w : World} {v : Value} {l : List α} (h : OwnL e sz C w base top v l) : v.oneCell' = true := by
  rcases h with ⟨rfl, _⟩ | ⟨B, c, cur, rfl, _⟩ <;> rfl
theorem RowsAt_mk {α : Type} {sz B o : Nat} {C : α → List Value} {W : World} {l : List α} (h2 : B < W.heap.size) (h3 : ∀ i c, l[i]? = some c → W.rangeAt B (o + sz * i) (C c)) : RowsAt sz C W (some ⟨B, o, none⟩) l := .inr ⟨B, o, rfl, h2, h3⟩
theorem puts_step (z : Int) (s : List Int) (w : World) : (Instr.build 57 #[(0, .int .i64 z), (1, secVal s)]).run Tryd.prog w = .ok (putV ⟨z, s⟩) w := run_build2 z (natF s) s rfl w
attribute [local irreducible] intC natF twoAt saysL secC secVal
set_option maxRecDepth 100000 in
set_option maxHeartbeats 1000000 in
theorem Puts_any (q : Option Addr) (cap : Nat) (cs : List (List Int)) (hcs : ∀ s ∈ cs, IsSec s) (w : World) (hp : RowsAt 128 secC w q cs) :
    Calls Tryd.prog 20 #[.slice q cs.length cap] w fun e w' => ∃ C nq nc, e = .returned (.func (.func 51) #[] #[.pointer (some ⟨C, 0, none⟩)]) ∧ BoxL w' C nq nc (saysC cs) ∧ w.heap.size ≤ C ∧ Below w.heap.size w w' := by
  by_cases h0 : cs = []
  · subst h0
    have BX := Lib.hid (boxL_new w none [] 0 (.inl rfl))
    have BB := Lib.hid ((Below.refl _ w).alloc (Nat.le_refl _) (.cells #[.slice none 0 0] 46))
    clear hp hcs
    go_enter Tryd.func20, Tryd.ntmps20
    go_wp2_with (go_at_call 37; refine (All_any none 0 0 w).mono ?_; rintro e w3 ⟨rfl, rfl⟩)
    go_ret
    exact ⟨_, none, 0, rfl, BX.out, Nat.le_refl _, BB.out⟩
  · have hn : 0 < cs.length := List.length_pos_iff.2 h0
    have f1 : (0 : Int) < (cs.length : Int) := by omega
    have HL := Lib.hid hn
    obtain ⟨B, o, rfl, hB, hr⟩ := secsAt_get hp hn
    have hs0 : IsSec (cs.getD 0 []) := by rw [List.getD_eq_getElem?_getD, List.getElem?_eq_getElem hn]; exact hcs _ (List.getElem_mem hn)
    have hsc : saysC cs = saysL (cs.getD 0 []) := if_neg h0
    have HR := Lib.hid hr
    have NC := Lib.hid (numbersOf_any (cs.getD 0 []) hs0 w)
    rw [← sec_val] at NC
    rw [hsc]
    clear hp hcs h0 hn hB hr hs0 hsc
    generalize cs.getD 0 [] = s0 at *
    generalize cs.length = m at *
    go_enter Tryd.func20, Tryd.ntmps20
    go_wp2_with (first
      | (refine wpList_sec_elem rfl _ _ rfl B o m cap 0 rfl rfl HL.out ?_)
      | (refine wpList_sec_mid rfl _ rfl B o rfl s0 HR.out ?_)
      | (go_at_call 36; refine (NC.out).mono ?_; rintro e w2 ⟨np, nc, rfl, hr, hb⟩
         have R2 := Lib.hid hr
         have B2 := Lib.hid hb
         clear hr hb)
      | (go_at_call 37; refine (All_any np _ nc w2).mono ?_; rintro e w3 ⟨rfl, rfl⟩))
    go_ret
    exact ⟨_, np, nc, rfl, boxL_new w2 np _ nc R2.out, B2.out.size, B2.out.alloc B2.out.size _⟩
theorem box_box (w : World) (v : Value) (t : TypeId) : (w.alloc (.cells #[v] t)).heap[w.heap.size]? = some (.cells #[v] t (0, 0)) := heap_alloc_new _ _
theorem rows_turn {α : Type} {sz D : Nat} {C : α → List Value} {W : World} {q : Option Addr} {l : List α} {o o' : Obj} (h : RowsAt sz C W q l) (hd : W.heap[D]? = some o) (hq : ∀ B f, q = some ⟨B, f, none⟩ → B ≠ D) : RowsAt sz C (W.putObj D o') q l := by
  rcases h with h | ⟨B, f, h1, h2, h3⟩
  · exact .inl h
  · exact .inr ⟨B, f, h1, by simpa using h2, fun i c hc j v hv => (World.cell?_of_block (w := W) (a := ⟨B, f + sz * i + j, none⟩) (World.putObj_heap_other (hq B f h1))).trans (h3 i c hc j v hv)⟩
theorem getD_drop (cs : List (List Int)) (i : Nat) : (cs.drop 2).getD i [] = cs.getD (2 + i) [] := by
  rw [List.getD_eq_getElem?_getD, List.getD_eq_getElem?_getD, List.getElem?_drop]
attribute [local irreducible] putC saysC toldL countL
set_option maxRecDepth 100000 in
set_option maxHeartbeats 4000000 in
theorem told_any (q : Option Addr) (cap : Nat) (cs : List (List Int)) (hcs : ∀ s ∈ cs, IsSec s) (h1 : 2 ≤ cs.length) (h2 : cs.length ≤ 1000) (w : World) (hp : RowsAt 128 secC w q cs) :
    Calls Tryd.prog 33 #[.slice q cs.length cap] w fun e w' => (∃ p c, e = .returned (.tuple #[.int .i64 (countL (cs.getD 0 [])), .slice p (toldL (saysC cs) (cs.drop 2)).length c]) ∧ RowsAt 129 putC w' p (toldL (saysC cs) (cs.drop 2))) ∧ Below w.heap.size w w' := by
  refine (callsIn_wide (n := 3)).1 ?_
  refine callsIn_of_wp_marks Tryd.func33 rfl trivial ?_ rfl
  simp only [Tryd.ntmps33, List.size_toArray, List.length_cons, List.length_nil, Nat.reduceAdd, Nat.reduceSub, Array.replicate_succ, Array.replicate_zero, List.push_toArray, List.append_toArray, List.nil_append, List.cons_append]
  refine wpIn_wide.2 ?_
  obtain ⟨B, o, rfl, hB, hr⟩ := secsAt_get hp (show 0 < cs.length by omega)
  have hs0 : IsSec (cs.getD 0 []) := by rw [List.getD_eq_getElem?_getD, List.getElem?_eq_getElem (show 0 < cs.length by omega)]; exact hcs _ (List.getElem_mem _)
  have HSX := Lib.hid (fun i (hi : i < cs.length) => show IsSec (cs.getD i []) from by rw [List.getD_eq_getElem?_getD, List.getElem?_eq_getElem hi]; exact hcs _ (List.getElem_mem hi))
  have HGX := Lib.hid (fun W (hb : Below w.heap.size w W) i (hi : i < cs.length) => show W.rangeAt B (o + 128 * i) (secC (cs.getD i [])) from by
    obtain ⟨B', o', e, hB', hr'⟩ := secsAt_get hp hi
    cases e
    exact rangeAt_below hr' hb hB')
  have PC := Lib.hid (fun W (hb : Below w.heap.size w W) => Puts_any (some ⟨B, o, none⟩) cap cs hcs W (hp.below hb))
  have CT := Lib.hid (show IntKind.i64.wrap (valN 8 (natF (cs.getD 0 [])) : Nat) = countL (cs.getD 0 []) from by unfold countL; rfl)
  have TK := Lib.hid (fun W (hb : Below w.heap.size w W) => Take_ok (some ⟨B, o, none⟩) 128 128 (natF (cs.getD 0 [])) (fun i _ => natF_lt hs0.2 i) 8 (.inr (.inr (.inr rfl))) (by decide) (by decide) (by decide) W (sec_bytes (rangeAt_below hr hb hB) (Nat.lt_of_lt_of_le hB hb.size)))
  have HSL := Lib.hid (saysC_len cs)
  have HN := Lib.hid h2
  have HN1 := Lib.hid h1
  have HDR := Lib.hid (show (cs.drop 2).length = cs.length - 2 from List.length_drop ..)
  have HGD := Lib.hid (fun i => getD_drop cs i)
  clear hcs hp hr hs0 h2
  have B0 := Lib.hid ((Below.refl _ w).alloc (Nat.le_refl _) (.cells #[.slice (some ⟨B, o, none⟩) cs.length cap] 25))
  have X0 := Lib.hid (box_box w (.slice (some ⟨B, o, none⟩) cs.length cap) 25)
  have c0 := box1_cell X0.out
  generalize hm : cs.length = m at *
  go_wp2
  go_step3
  go_wp2_with (first
    | (refine wpList_load1 rfl 25 _ rfl ⟨w.heap.size, 0, none⟩ (.slice (some ⟨B, o, none⟩) m cap) rfl box_secs c0 ?_)
    | (refine wpList_sec_elem rfl _ _ rfl B o m cap 0 rfl rfl (by have := HN1.out; omega) ?_)
    | (refine wpList_arr_slice rfl 31 5 128 secUnder rfl _ rfl B o rfl ?_)
    | (go_at_call 49; refine (TK.out _ B0.out).mono ?_; rintro e w1 ⟨D1, rfl, hd, hD, hb⟩
       rw [CT.out]
       have B1 := Lib.hid (B0.out.trans (hb.mono B0.out.size))
       have X1 := Lib.hid ((hb.block w.heap.size (by simp)).trans X0.out)
       clear hd hD hb B0 X0 TK c0))
  have B2 := Lib.hid (B1.out.trans (((Below.refl _ w1).alloc (Nat.le_refl _) (.cells #[.slice none 0 0] 32)).mono B1.out.size))
  have X2 := Lib.hid (box_box w1 (.slice none 0 0) 32)
  have T1 := Lib.hid (show w.heap.size < w1.heap.size from (Array.getElem?_eq_some_iff.1 X1.out).1)
  have T2 := Lib.hid ((Below.heap_alloc w1 (.cells #[.slice none 0 0] 32) w.heap.size T1.out).trans X1.out)
  have Z2 := Lib.hid (show (w1.alloc (.cells #[.slice none 0 0] 32)).heap.size = w1.heap.size + 1 by simp)
  change Code.wp _ _ _ _ (w1.alloc (.cells #[.slice none 0 0] 32))
  generalize w1.alloc (.cells #[.slice none 0 0] 32) = w2 at *
  generalize w1.heap.size = X at *
  have c2 := box1_cell T2.out
  clear B1 X1
  go_step3
  go_wp2_with (first
    | (refine wpList_load1 rfl 25 _ rfl ⟨w.heap.size, 0, none⟩ (.slice (some ⟨B, o, none⟩) m cap) rfl box_secs c2 ?_)
    | (go_at_call 20; refine (PC.out w2 B2.out).mono ?_; rintro e w4 ⟨C, nq, nc, rfl, hbx, hC, hb⟩
       have s4 := hb.size
       have hX4 := (hb.block X (by have := Z2.out; omega)).trans X2.out
       have G4 := Lib.hid (show ToG w X w.heap.size C w4.heap.size nq (saysC cs) from
         ⟨by have := Z2.out; omega, by have := Z2.out; have := T1.out; omega, hbx.2.2, by have := T1.out; omega, by have := Z2.out; omega, fun B' o' e hne => by
           rcases hbx.2.1 with h0 | ⟨B'', o'', e2, h2, h3⟩
           · exact absurd h0 hne
           · rw [e] at e2
             obtain ⟨rfl, rfl⟩ : B' = B'' ∧ o' = o'' := by cases e2; exact ⟨rfl, rfl⟩
             refine ⟨h2, fun hBX => ?_⟩
             subst hBX
             have h4 := int_cell (RowsAt_mk h2 h3) (List.length_pos_iff.2 hne)
             obtain ⟨B3, o3, e3, _, h5⟩ := h4
             cases e3
             rw [cell_of_row w4 _ _ _ _ _ hX4] at h5
             rcases o' with _ | o'
             · simp at h5
             · simp at h5, by have := T1.out; omega⟩)
       have I0 := Lib.hid (show ToS w X w.heap.size C w4.heap.size (some ⟨B, o, none⟩) m cap nq nc (saysC cs) [] w4 from
         ⟨⟨_, hX4, OwnL.nil _ _ _ _ _ _, fun g hg => by cases hg⟩, (hb.cell (p := ⟨w.heap.size, 0, none⟩) (by show w.heap.size < w2.heap.size; have := Z2.out; have := T1.out; omega)).trans c2, hbx, B2.out.trans (hb.mono B2.out.size), Nat.le_refl _⟩)
       clear hbx hC hb s4 hX4 PC c2 B2 X2 T2 Z2 T1))
  have HSTEP := Lib.hid (fun i (h1 : i < (saysC cs).length) (h2 : i < (cs.drop 2).length) => toldL_step h1 h2)
  have HSTOP := Lib.hid (fun i (h : i = (cs.drop 2).length) => toldL_stop (L := saysC cs) h)
  have HFULL := Lib.hid (toldL_full (saysC cs) (cs.drop 2))
  have HNONE := Lib.hid (toldL_none (saysC cs) (cs.drop 2))
  have HTL := Lib.hid (fun i => show (toldL ((saysC cs).take i) (cs.drop 2)).length ≤ 56 by rw [toldL_len]; have := HSL.out; rw [List.length_take]; omega)
  refine (wpIn_wide (n := 3)).1 ?_
  refine range_free_brk rfl (by omega) (gf := 51) (lb := #[.pointer (some ⟨C, 0, none⟩)]) rfl trivial (enters_of Tryd.func51 (by kernel_rfl) rfl)
    (pairE (saysC cs)) (fun i => i) (saysC cs).length (fun V => BoxL V C nq nc (saysC cs)) (fun _ => rfl)
    (fun i V => i ≤ (cs.drop 2).length ∧ ToS w X w.heap.size C w4.heap.size (some ⟨B, o, none⟩) m cap nq nc (saysC cs) (toldL ((saysC cs).take i) (cs.drop 2)) V) (fun V => ToS w X w.heap.size C w4.heap.size (some ⟨B, o, none⟩) m cap nq nc (saysC cs) (toldL (saysC cs) (cs.drop 2)) V) ?rd ?st ?stx ⟨Nat.zero_le _, by rw [HNONE.out]; exact I0.out⟩ (all_gives _ C nq nc (saysC cs) (by have := HSL.out; omega)) ?round ?done
  case rd => exact fun i V h => h.2.box
  case st => exact fun i V V' h hs => ⟨h.1, h.2.save hs G4.out⟩
  case stx => exact fun V V' h hs => h.save hs G4.out
  case done =>
    intro D W hD hI hd
    have hI' : ToS w X w.heap.size C w4.heap.size (some ⟨B, o, none⟩) m cap nq nc (saysC cs) (toldL (saysC cs) (cs.drop 2)) W := by
      rcases hI with h | h
      · rw [← HFULL.out]; exact h.2
      · exact h
    have hdw := G4.out.w0
    have hdx := G4.out.x
    obtain ⟨v, hX, ho, hg⟩ := hI'.out
    have cX := box1_cell hX
    have hne : ∀ B', v.ownBlock = some B' → B' ≠ D := fun B' hB' e => by
      subst e
      rcases ho with ⟨h1, _⟩ | ⟨B2, c', cur, h1, _, _, h4, _⟩
      · subst h1; cases hB'
      · subst h1; cases hB'
        rw [hd] at h4; cases h4
    obtain ⟨pp, pc, rfl, _, _, hr, hq⟩ := ho.rows elemPut.len
    have HRW := Lib.hid (fun o' => show RowsAt 129 putC (W.drew.putObj D o') pp (toldL (saysC cs) (cs.drop 2)) from rows_turn (W := W.drew) hr hd fun B' f e => by
      subst e; exact hne B' (by obtain ⟨_, _, h3⟩ := hq B' f rfl; subst h3; rfl))
    have HLW := Lib.hid (fun o' => show Below w.heap.size w (W.drew.putObj D o') from below_turn _ hI'.low.drew (by omega))
    have HD := Lib.hid hd
    have HX := Lib.hid hX
    clear hI hI' hd hX ho hg hr hq hne cX hdw hdx I0
    go_wp2
    refine wp_region_sched [(0, true), (1, true), (2, true), (3, true)] (fun V => V.heap[X]? = some (.cells #[.slice pp (toldL (saysC cs) (cs.drop 2)).length pc] 32 (0, 0))) (by kernel_rfl) (by kernel_rfl) HX.out ?_
    iterate 4 (
      refine walk_float rfl rfl (fun K hK => ?_)
      first
        | (refine gives_move _ rfl ?_)
        | (refine gives_cell 32 _ rfl ⟨X, 0, none⟩ (.slice pp (toldL (saysC cs) (cs.drop 2)).length pc) rfl box_puts (fun V h => box1_cell h) ?_)
        | (refine gives_assign _ rfl ?_)
      go_simp
      refine hK _ ?_
      clear hK K)
    refine walk_nil ?_
    go_wp2
    rw [Exit.noGoto_ret]
    refine ⟨by simp, .inl ⟨_, _, rfl, run_takeDeferred HD.out, ?_⟩⟩
    refine ⟨.tuple #[.int .i64 (countL (cs.getD 0 [])), .slice pp (toldL (saysC cs) (cs.drop 2)).length pc], ?_, ⟨⟨_, _, rfl, HRW.out _⟩, HLW.out _⟩⟩
    simp [results, Tryd.f33, go_sem]
  case round =>
    intro l i W hl hi hWs hI
    obtain ⟨hiR, hI⟩ := hI
    have HI := Lib.hid hI
    have HW := Lib.hid hWs
    have HLI := Lib.hid hi
    have HIR := Lib.hid hiR
    clear hI hWs I0 hiR
    unfold pairE
    obtain ⟨x, hxe⟩ : ∃ x, (saysC cs).getD i 0 = x := ⟨_, rfl⟩
    rw [hxe]
    have HXE := Lib.hid hxe
    clear hxe hi
    gi_wp2
    refine ⟨Rec.refl _ _, fun V hVs hVk hVS => ?_⟩
    have hI := HI.out.save hVS G4.out
    have hW := HW.out
    rw [← hVs] at hW
    clear hVk hVS hVs HI HW
    have ca := hI.arg
    have HI := Lib.hid hI
    have HW := Lib.hid hW
    have g0 := HLI.out
    have g1 := HSL.out
    have g2 : IntKind.i64.wrap ((2 : Int) + (i : Int)) = ((2 + i : Nat) : Int) := by rw [IntWalk.i64_in _ (by omega)]; omega
    clear hI hW g0 g1
    generalize hj : 2 + i = j at *
    by_cases hlt : m ≤ j
    · have d1 : (m : Int) ≤ (j : Int) := by omega
      have HJ := Lib.hid (show i = (cs.drop 2).length by have := HIR.out; have := HDR.out; omega)
      have HQ := HI.out
      rw [HSTOP.out i HJ.out] at HQ
      have HQ := Lib.hid HQ
      clear hlt HI hj
      gi_wp2
      exact ⟨Rec.refl _ _, rfl, HQ.out⟩
    · have d1 : ¬ (m : Int) ≤ (j : Int) := by omega
      have HJM := Lib.hid (show j < m by omega)
      have HJI := Lib.hid hj
      clear hlt hj
      obtain ⟨v, hX, ho, hg⟩ := HI.out.out
      have HSV := Lib.hid (HGX.out V HI.out.low j HJM.out)
      have HSS := Lib.hid (HSX.out j HJM.out)
      have HST := Lib.hid (HSTEP.out i HLI.out (by have := HDR.out; have := HJM.out; have := HJI.out; omega))
      have HGE := Lib.hid (HGD.out i)
      rw [HXE.out, HGE.out, HJI.out] at HST
      have HTI := Lib.hid (HTL.out i)
      have HXV := Lib.hid hX
      have HO := Lib.hid ho
      have HG := Lib.hid hg
      have HAV := Lib.hid ca
      have HBD := Lib.hid (show B < w4.heap.size ∧ w.heap.size < w4.heap.size ∧ X < w4.heap.size from ⟨by have := G4.out.w0; have := G4.out.x; omega, G4.out.t, G4.out.x⟩)
      clear hX ho hg
      generalize cs.getD j [] = s at *
      generalize toldL ((saysC cs).take i) (cs.drop 2) = tl at *
      gi_wp2
      have k0 : V.drew.heap[X]? = some (.cells #[v] 32 (0, 0)) ∧ V.drew.cell? ⟨w.heap.size, 0, none⟩ = some (.slice (some ⟨B, o, none⟩) m cap) ∧ V.drew.rangeAt B (o + 128 * j) (secC s) := ⟨HXV.out, HAV.out, HSV.out⟩
      refine wpIn_round_sched (n := 10) [(0, true), (1, true), (2, true), (3, true), (4, true), (5, true), (6, true), (7, true), (8, false), (9, false)] (fun U => U.heap[X]? = some (.cells #[v] 32 (0, 0)) ∧ U.cell? ⟨w.heap.size, 0, none⟩ = some (.slice (some ⟨B, o, none⟩) m cap) ∧ U.rangeAt B (o + 128 * j) (secC s)) (by kernel_rfl) (by kernel_rfl) k0 ?_
      iterate 8 (
        refine walk_float rfl rfl (fun K hK => ?_)
        first
          | (refine gives_move _ rfl ?_)
          | (refine gives_cell 32 _ rfl ⟨X, 0, none⟩ v rfl box_puts (fun U h => box1_cell h.1) ?_)
          | (refine gives_cell 25 _ rfl ⟨w.heap.size, 0, none⟩ (.slice (some ⟨B, o, none⟩) m cap) rfl box_secs (fun U h => h.2.1) ?_)
          | (refine gives_int_sum _ _ rfl 2 i j rfl rfl g2 ?_)
          | (refine gives_sec_elem _ _ rfl B o m cap j rfl rfl HJM.out ?_)
          | (refine gives_sec_mid _ rfl B (o + 128 * j) rfl s (fun U h => h.2.2) ?_)
          | (refine gives_build2 _ _ rfl x (natF s) s rfl rfl (sec_val s) ?_)
        go_simp
        refine hK _ ?_
        clear hK K)
      refine walk_done rfl rfl (fun K hK => ?_)
      refine done_put1 _ rfl ⟨x, s⟩ rfl ?_
      have c1 : Below V.heap.size V (V.drew.alloc (.cells (putC ⟨x, s⟩).toArray 57)) := ((Below.refl _ V).drew).alloc (Nat.le_refl _) _
      have r1 : RowsAt 129 putC (V.drew.alloc (.cells (putC ⟨x, s⟩).toArray 57)) (some ⟨V.drew.heap.size, 0, none⟩) [⟨x, s⟩] := rows_one V.drew ⟨x, s⟩
      have LV := HW.out
      have k1 : (V.drew.alloc (.cells (putC ⟨x, s⟩).toArray 57)).heap[X]? = some (.cells #[v] 32 (0, 0)) ∧ (V.drew.alloc (.cells (putC ⟨x, s⟩).toArray 57)).cell? ⟨w.heap.size, 0, none⟩ = some (.slice (some ⟨B, o, none⟩) m cap) ∧ (V.drew.alloc (.cells (putC ⟨x, s⟩).toArray 57)).rangeAt B (o + 128 * j) (secC s) :=
        ⟨(c1.block X (by have := HBD.out; omega)).trans HXV.out, (c1.cell (p := ⟨w.heap.size, 0, none⟩) (by show w.heap.size < V.heap.size; have := HBD.out; omega)).trans HAV.out, rangeAt_below HSV.out c1 (by have := HBD.out; omega)⟩
      generalize V.drew.alloc (.cells (putC ⟨x, s⟩).toArray 57) = V1 at *
      refine ⟨k1, ?_⟩
      go_simp
      refine hK _ _ ?_
      clear hK K
      refine walk_done rfl rfl (fun K hK => ?_)
      refine done_append_list elemPut _ _ rfl w4.heap.size V.heap.size v tl [⟨x, s⟩] (some ⟨V.drew.heap.size, 0, none⟩) 1 1 rfl rfl rfl (HO.out.below (Nat.le_refl _) c1) r1 (by have := HTI.out; simp; omega) (by decide) (by have := c1.size; omega) (fun v5 w5 ho5 hg5 hr5 => ?_)
      obtain ⟨p1, p2, p3⟩ := HI.out.push G4.out LV HXV.out HG.out c1 hg5 hr5 ho5
      have h1v := own_one ho5
      have nbv : ∀ k, k < w4.heap.size → some k ≠ v.ownBlock := fun k hk e => by have := HG.out k e.symm; omega
      refine ⟨⟨p1, (hg5.cell k1.2.1 (nbv _ HBD.out.2.1)), fun jj u hu => hg5.cell (k1.2.2 jj u hu) (nbv _ HBD.out.1)⟩, ?_⟩
      go_simp
      refine hK _ _ ?_
      clear hK K
      refine walk_nil ?_
      have P1 := Lib.hid p1
      have P2 := Lib.hid p2
      have P3 := Lib.hid p3
      have HOV := Lib.hid h1v
      clear ho5 hg5 hr5 p1 p2 p3 nbv k1 r1 c1 k0 h1v
      simp only [List.drop_succ_cons, List.drop_zero]
      refine wpListIn_of_list rfl rfl rfl (wpList_store_oneTo rfl _ _ _ rfl rfl X v5 rfl rfl HOV.out _ _ P1.out (by kernel_rfl) ⟨rfl, rfl, rfl⟩) ?_
      gi_wp2
      exact ⟨P2.out, by have := HJM.out; have := HDR.out; have := HJI.out; omega, by rw [HST.out]; exact P3.out⟩
end Go.Proofs.YtdeojhcfbiekmaaDoor
