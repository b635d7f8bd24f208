/- A block's path has the document's numbers, as many as are asked for: the statement TreePath, tied to the program's text. No condition. -/
import Derived.Test.YtbdldnhpgpjnoaaDoorTrBox
import Derived.Test.YtbdldnhpgpjnoaaDoorTrRefU
import Derived.WalkMore
namespace Go.Proofs.YtbdldnhpgpjnoaaDoor.treePath
open Go.ChangeShapes Go.WideShapes Go.ChangeAt Go.RowKit Go.Shelf
attribute [local go_sem] Oper.semAt_some
set_option linter.unusedVariables false
theorem own : ownKnob Tryd.prog.godebug = none := by kernel_rfl
attribute [local irreducible] pn nought sumVal sumC treeL
set_option maxRecDepth 100000 in
set_option maxHeartbeats 1000000 in
theorem path_none (m Bn : Nat) (z : Int) (hz : ¬ (0 ≤ z ∧ z < 16)) :
    GivesTo Fence.wide m Tryd.prog 30 #[.pointer (some ⟨Bn, 0, none⟩)] (ptE 0) (fun _ i _ x => x = i) 0 (PtR Bn z) := fun l J Jx W hR hJ hJx hY h0 => by
  refine callsIn_of_wp Tryd.func30 rfl trivial ?_ rfl
  simp only [Tryd.ntmps30, List.size_toArray, List.length_cons, List.length_nil, Nat.reduceAdd, Nat.reduceSub, Array.replicate_succ, Array.replicate_zero, List.push_toArray, List.append_toArray, List.nil_append, List.cons_append]
  have c0 := hR 0 W h0
  unfold PtR at c0
  have HIB := Lib.hid (fun V => isBlock_no z hz V)
  have H0 := Lib.hid h0
  clear hR hJ hJx hY h0 hz
  refine wpIn_wide.2 ?_
  go_wp2_with (first
    | (go_at_call 31; refine (HIB.out _).mono ?_; rintro e w1 ⟨rfl, rfl⟩; clear HIB))
  exact bodyPost_ret (results_none rfl _ _ _) rfl ⟨⟨_, rfl⟩, .inl H0.out⟩
/-- A loop over an iterator that ends, whose body may leave it for the end of the block it stands in: both ways come to the same place. -/
theorem range_ends_brk {L : Nat} {P : Program} {F : Fence} {n : Nat} {g : Operand} {ps : Array Tmp} {assign body : Code} {Q : Exit → Act → World → Prop} {a : Act} {w : World} {X : Type}
    (hro : F.round = none) (h1 : 1 ≤ n) {gf : FuncId} {lb : Array Value} (hg : a.eval g = .func (.func gf) #[] lb) (hFg : F.fn gf) (eg : ∀ args v, (callFunc gf args).run P v = .ok (.enter gf args) v)
    (enc : X → Array Value) (Enc : Nat → Nat → World → X → Prop) (M : Nat) (R : World → Prop) (hps : ∀ x, (enc x).size = ps.size)
    (I : Nat → World → Prop) (J : World → Prop) (hR : ∀ i V, I i V → R V)
    (hI : ∀ i V V', I i V → Below w.heap.size V V' → I i V') (hJ : ∀ V V', J V → Below w.heap.size V V' → J V')
    (h0 : I 0 w) (hit : GivesTo F (n - 1) P gf lb enc Enc M R)
    (hround : ∀ l i x W, l = w.heap.size + 1 → i < M → w.heap.size + 2 ≤ W.heap.size → I i W → Enc (w.heap.size + 2) i W x →
      assign.wpIn (F.inRound l) (n - 1 - 1) P (Exit.then (fun a' W' => Aft w.heap.size W W' ∧ ∀ V, V.heap.size = W'.heap.size → (∀ k, k ≠ w.heap.size + 1 → V.heap[k]? = W'.heap[k]?) → Below w.heap.size W' V →
        body.wpIn (F.inRound l) (n - 1 - 1) P (roundUp w.heap.size I (fun c V => c = .exit L ∧ J V) i V) a' V) (fun _ _ _ => False)) { tmps := (ps.zip (enc x)).foldl (fun t (p, v) => t.setIfInBounds p v) a.tmps, defers := [] } W)
    (hend : ∀ D W, w.heap.size ≤ D → (I M W ∨ J W) → W.heap[D]? = some (.deferred (some [])) → Q .normal { a with defers := { target := .collected D, args := #[] } :: a.defers } W) :
    (Code.rangeFunc g ps assign body).wpIn F n P (Exit.inBlock L Q) a w := by
  refine range_ends hro h1 hg hFg eg enc Enc M R hps I (fun c V => c = .exit L ∧ J V) hR hI (fun c V V' h hb => ⟨h.1, hJ V V' h.2 hb⟩) h0 hit hround (fun D W hD h hd => ?_) ?_
  · exact hend D W hD (.inl h) hd
  · rintro D c W hD ⟨rfl, h⟩ hd
    refine wpIn_exit ?_
    show (if L = L then _ else _)
    rw [if_pos rfl]
    exact hend D W hD (.inr h) hd


/-- The first loop's boxes. -/
structure StP (w : World) (WB KB SB : Nat) (pv : Option Addr) (pc b cnt : Nat) (z mo k : Int) (V : World) : Prop where
  mb : Bx V w.heap.size 3 (.int .i64 mo)
  rb : Bx V (w.heap.size + 1) 4 (.bool false)
  wb : Bx V WB 39 (.slice pv cnt pc)
  kb : Bx V KB 3 (.int .i64 k)
  sb : Bx V SB 3 (.int .i64 z)
  wl : cnt = 0 ∨ (cnt = 5 ∧ ∃ P, pv = some ⟨P, 0, none⟩ ∧ P < WB ∧ PathAt P b V)
  low : Below w.heap.size w V
  far : w.heap.size + 2 ≤ WB ∧ WB < KB ∧ KB < SB ∧ SB < V.heap.size
theorem StP.below {w : World} {WB KB SB : Nat} {pv : Option Addr} {pc b cnt : Nat} {z mo k : Int} {V V' : World} (h : StP w WB KB SB pv pc b cnt z mo k V) (hb : Below (SB + 1) V V') : StP w WB KB SB pv pc b cnt z mo k V' := by
  obtain ⟨f1, f2, f3, f4⟩ := h.far
  refine ⟨h.mb.belowM hb (by omega), h.rb.belowM hb (by omega), h.wb.belowM hb (by omega), h.kb.belowM hb (by omega), h.sb.belowM hb (by omega), ?_, h.low.trans (hb.mono (by omega)), f1, f2, f3, Nat.lt_of_lt_of_le f4 hb.size⟩
  rcases h.wl with h0 | ⟨h5, P, e, hP, hp⟩
  · exact .inl h0
  · exact .inr ⟨h5, P, e, hP, hp.keep (hb.block P (by omega))⟩
theorem StP.step {w : World} {WB KB SB : Nat} {pv : Option Addr} {pc b cnt : Nat} {z mo k : Int} {V : World} (h : StP w WB KB SB pv pc b cnt z mo k V) (k' : Int) : StP w WB KB SB pv pc b cnt z mo k' (V.setCell ⟨KB, 0, none⟩ (.int .i64 k')) := by
  obtain ⟨f1, f2, f3, f4⟩ := h.far
  refine ⟨h.mb.other (by omega) _, h.rb.other (by omega) _, h.wb.other (by omega) _, h.kb.set _, h.sb.other (by omega) _, ?_, h.low.setCell (by show w.heap.size ≤ KB; omega) _, f1, f2, f3, by rw [size_setCell]; exact f4⟩
  rcases h.wl with h0 | ⟨h5, P, e, hP, hp⟩
  · exact .inl h0
  · exact .inr ⟨h5, P, e, hP, hp.keep (Below.heap_setCell _ _ _ _ (by show P ≠ KB; omega))⟩
/-- Behind the first loop. -/
structure PtP (w : World) (WB KB D : Nat) (pv : Option Addr) (pc cnt : Nat) (mo k : Int) (V : World) : Prop where
  mb : Bx V w.heap.size 3 (.int .i64 mo)
  rb : Bx V (w.heap.size + 1) 4 (.bool false)
  wb : Bx V WB 39 (.slice pv cnt pc)
  kb : Bx V KB 3 (.int .i64 k)
  db : V.heap[D]? = some (.deferred (some []))
  low : Below w.heap.size w V
  far : w.heap.size + 2 ≤ WB ∧ WB < KB ∧ KB < D ∧ D < V.heap.size
theorem PtP.below {w : World} {WB KB D : Nat} {pv : Option Addr} {pc cnt : Nat} {mo k : Int} {V V' : World} (h : PtP w WB KB D pv pc cnt mo k V) (hb : Below V.heap.size V V') : PtP w WB KB D pv pc cnt mo k V' :=
  ⟨h.mb.below hb, h.rb.below hb, h.wb.below hb, h.kb.below hb, (hb.block D h.far.2.2.2).trans h.db, h.low.trans (hb.mono h.low.size), h.far.1, h.far.2.1, h.far.2.2.1, Nat.lt_of_lt_of_le h.far.2.2.2 hb.size⟩
theorem PtP.belowM {w : World} {WB KB D M : Nat} {pv : Option Addr} {pc cnt : Nat} {mo k : Int} {V V' : World} (h : PtP w WB KB D pv pc cnt mo k V) (hb : Below M V V') (hM : D < M) : PtP w WB KB D pv pc cnt mo k V' := by
  obtain ⟨f1, f2, f3, f4⟩ := h.far
  exact ⟨h.mb.belowM hb (by omega), h.rb.belowM hb (by omega), h.wb.belowM hb (by omega), h.kb.belowM hb (by omega), (hb.block D hM).trans h.db, h.low.trans (hb.mono (by omega)), f1, f2, f3, Nat.lt_of_lt_of_le f4 hb.size⟩
theorem PtP.but {w : World} {WB KB D C : Nat} {pv : Option Addr} {pc cnt : Nat} {mo k : Int} {V V' : World} (h : PtP w WB KB D pv pc cnt mo k V) (hb : But C V V') (hC : D < C) : PtP w WB KB D pv pc cnt mo k V' := by
  obtain ⟨f1, f2, f3, f4⟩ := h.far
  exact ⟨h.mb.but hb (by omega), h.rb.but hb (by omega), h.wb.but hb (by omega), h.kb.but hb (by omega), (hb.same D f4 (by omega)).trans h.db, h.low.trans (hb.below (by omega) h.low.size), f1, f2, f3, Nat.lt_of_lt_of_le f4 hb.size⟩
/-- The second loop's. -/
structure StV (w : World) (WB KB D TB SC : Nat) (pv : Option Addr) (pc cnt : Nat) (mo k t : Int) (V : World) : Prop where
  p : PtP w WB KB D pv pc cnt mo k V
  tb : Bx V TB 3 (.int .i64 t)
  sb : Bx V SC 3 (.int .i64 5)
  far : D < TB ∧ TB < SC
theorem StV.below {w : World} {WB KB D TB SC : Nat} {pv : Option Addr} {pc cnt : Nat} {mo k t : Int} {V V' : World} (h : StV w WB KB D TB SC pv pc cnt mo k t V) (hb : Below (SC + 1) V V') : StV w WB KB D TB SC pv pc cnt mo k t V' :=
  ⟨h.p.belowM hb (by have := h.far; omega), h.tb.belowM hb (by have := h.far; omega), h.sb.belowM hb (by omega), h.far⟩
theorem StV.set {w : World} {WB KB D TB SC : Nat} {pv : Option Addr} {pc cnt : Nat} {mo k t : Int} {V : World} (h : StV w WB KB D TB SC pv pc cnt mo k t V) (t' : Int) : StV w WB KB D TB SC pv pc cnt mo k t' (V.setCell ⟨TB, 0, none⟩ (.int .i64 t')) :=
  ⟨h.p.but (But.setCell TB 0 V _) h.far.1, h.tb.set _, h.sb.other (by have := h.far; omega) _, h.far⟩
set_option maxRecDepth 100000 in
set_option maxHeartbeats 8000000 in
theorem walk (z y : Int) (hz : (Lit.int .i64 z).wf = true) (hy : (Lit.int .i64 y).wf = true) (w : World) (hT : TabAt w) :
    Calls Tryd.prog 5 #[.int .i64 z, .int .i64 y] w fun e w' => e = .returned (.bool true) ∧ Below w.heap.size w w' := by
  obtain ⟨u, hu⟩ : ∃ u : Nat, IntKind.u64.wrap y = (u : Int) := by
    rw [IntKind.wrap_u64]; exact ⟨(y % 18446744073709551616).toNat, by omega⟩
  obtain ⟨mo, hmo, hmo1, hmo0⟩ : ∃ mo : Nat, mo = 1 + u % 7 ∧ mo ≤ 7 ∧ 1 ≤ mo := ⟨_, rfl, by omega, by omega⟩
  have q1 : IntKind.i64.wrap ((u : Int) % 7) = (u : Int) % 7 := IntWalk.i64_in _ (by omega)
  have q2 : IntKind.i64.wrap (1 + (u : Int) % 7) = 1 + (u : Int) % 7 := IntWalk.i64_in _ (by omega)
  have MO := Lib.hid (show 1 + (u : Int) % 7 = (mo : Int) by omega)
  have B0 := Lib.hid (fun (V : World) (h : Below w.heap.size w V) (B : Nat) (hB : SumsB V B (List.replicate 16 nought)) => Build_any none 0 0 (fun _ => 0) (by decide) (some ⟨B, 0, none⟩) 16 (List.replicate 16 nought) (by simp) (noughts_sum 16) V (KeyAt.none (hT.on h)) hB.at)
  obtain ⟨b, cnt, hc⟩ : ∃ b cnt : Nat, (cnt = 5 ∧ z = (b : Int) ∧ b < 16) ∨ (cnt = 0 ∧ ¬ (0 ≤ z ∧ z < 16)) := by
    by_cases h : 0 ≤ z ∧ z < 16
    · exact ⟨z.toNat, 5, .inl ⟨rfl, by omega, by omega⟩⟩
    · exact ⟨0, 0, .inr ⟨rfl, h⟩⟩
  have RP := Lib.hid (fun V => show Calls Tryd.prog 16 #[.int .i64 z] V fun e V' => ∃ pv pc, e = .returned (.slice pv cnt pc) ∧ (cnt = 0 ∨ (cnt = 5 ∧ ∃ P, pv = some ⟨P, 0, none⟩ ∧ V.heap.size ≤ P ∧ PathAt P b V')) ∧ Below V.heap.size V V' from by
    rcases hc with ⟨rfl, rfl, hb⟩ | ⟨rfl, h⟩
    · refine (refPath_any b hb V).mono ?_
      rintro e V' ⟨pv, pc, rfl, hr, hl, hbl⟩
      exact ⟨pv, pc, rfl, .inr ⟨rfl, pathAt_of hr hl⟩, hbl⟩
    · refine (refPath_none z h V).mono ?_
      rintro e V' ⟨rfl, rfl⟩
      exact ⟨none, 0, rfl, .inl rfl, Below.refl _ _⟩)
  have HG := Lib.hid (show ∃ b', (cnt = 5 → b' = b) ∧ ∀ l Bn, GivesTo Fence.wide l Tryd.prog 30 #[.pointer (some ⟨Bn, 0, none⟩)] (ptE b') (fun _ i _ x => x = i) cnt (PtR Bn z) from by
    rcases hc with ⟨rfl, rfl, hb⟩ | ⟨rfl, h⟩
    · exact ⟨b, fun _ => rfl, fun l Bn => path_gives l Bn b hb⟩
    · exact ⟨0, fun h => by omega, fun l Bn => path_none l Bn z h⟩)
  have G5 := Lib.hid (fun l Bn => path_gives l Bn 5 (by decide))
  have HC := Lib.hid (show cnt = 0 ∨ cnt = 5 from hc.elim (fun h => .inr h.1) (fun h => .inl h.1))
  have PA := Lib.hid (fun V => Path_any z V)
  have P5 := Lib.hid (fun V => Path_any 5 V)
  clear hmo hz hy hc hT
  generalize hS : w.heap.size = S at *
  have HS := Lib.hid hS
  refine (callsIn_wide (n := 3)).1 ?_
  refine callsIn_of_wp_marks Tryd.func5 rfl trivial ?_ rfl
  simp only [Tryd.ntmps5, List.size_toArray, List.length_cons, List.length_nil, Nat.reduceAdd, Nat.reduceSub, Array.replicate_succ, Array.replicate_zero, List.push_toArray, List.append_toArray, List.nil_append, List.cons_append]
  refine wpIn_wide.2 ?_
  clear hS
  go_wp2_with (first
    | (refine wpList_box_int rfl _ rfl y rfl S HS.out ?_; intro w1 hx hb hs
       have M1 := Lib.hid hx; have L1 := Lib.hid hb; have S1 := Lib.hid hs; clear hx hb hs)
    | (refine wpList_alloc_bool rfl rfl (S + 1) S1.out ?_; intro w2 hx hb hs
       have M2 := Lib.hid (M1.out.belowM hb (by omega)); have R2 := Lib.hid hx; have L2 := Lib.hid (L1.out.trans (hb.mono (by omega))); have S2 := Lib.hid hs; clear hx hb hs M1 L1)
    | (refine wpList_make_sums rfl _ _ rfl 16 rfl rfl (by decide) (by decide) ?_; intro w3 hm hb
       have N3 := Lib.hid hm; have M3 := Lib.hid (M2.out.below hb); have R3 := Lib.hid (R2.out.below hb); have L3 := Lib.hid (L2.out.trans (hb.mono (by rw [S2.out]; omega))); have S3 := Lib.hid (show S + 2 ≤ w3.heap.size by have := hb.size; have := S2.out; omega); clear hm hb M2 R2 L2)
    | (go_at_call 15; refine (B0.out w3 L3.out _ N3.out).mono ?_; rintro e w4 ⟨rfl, -, hb⟩
       have M4 := Lib.hid (M3.out.below hb); have R4 := Lib.hid (R3.out.below hb); have L4 := Lib.hid (L3.out.trans (hb.mono (by have := S3.out; omega))); have S4 := Lib.hid (show S + 2 ≤ w4.heap.size by have := hb.size; have := S3.out; omega); clear hb M3 R3 L3 N3 B0)
    | (go_at_call 16; refine (RP.out w4).mono ?_; rintro e w5 ⟨pv, pc, rfl, hp, hb⟩
       have M5 := Lib.hid (M4.out.below hb); have R5 := Lib.hid (R4.out.below hb); have L5 := Lib.hid (L4.out.trans (hb.mono (by have := S4.out; omega))); have S5 := Lib.hid (show S + 2 ≤ w5.heap.size by have := hb.size; have := S4.out; omega)
       have W5 := Lib.hid (show cnt = 0 ∨ (cnt = 5 ∧ ∃ P, pv = some ⟨P, 0, none⟩ ∧ P < w5.heap.size ∧ PathAt P b w5) from hp.elim .inl fun ⟨h5, P, e, _, h⟩ => .inr ⟨h5, P, e, h.lt, h⟩)
       clear hp hb M4 R4 L4 RP)
    | (refine wpList_alloc_ints rfl rfl w5.heap.size rfl ?_; intro w6 hx hb hs
       have M6 := Lib.hid (M5.out.below hb); have R6 := Lib.hid (R5.out.below hb); have L6 := Lib.hid (L5.out.trans (hb.mono (by have := S5.out; omega))); have S6 := Lib.hid hs; have X6 := Lib.hid hx
       have W6 := Lib.hid (show cnt = 0 ∨ (cnt = 5 ∧ ∃ P, pv = some ⟨P, 0, none⟩ ∧ P < w5.heap.size ∧ PathAt P b w6) from W5.out.elim .inl fun ⟨h5, P, e, hP, h⟩ => .inr ⟨h5, P, e, hP, h.keep (hb.block P hP)⟩)
       clear hx hb hs M5 R5 L5 W5)
    | (refine wpList_store_ints rfl _ _ rfl rfl w5.heap.size rfl pv cnt pc rfl _ _ X6.out ?_; intro w7 hx hb hs
       have M7 := Lib.hid (M6.out.but hb (by have := S5.out; omega)); have R7 := Lib.hid (R6.out.but hb (by have := S5.out; omega)); have L7 := Lib.hid (L6.out.trans (hb.below (by have := S5.out; omega) (by have := S6.out; have := S5.out; omega))); have S7 := Lib.hid (show w7.heap.size = w5.heap.size + 1 from hs.trans S6.out); have X7 := Lib.hid hx
       have W7 := Lib.hid (show cnt = 0 ∨ (cnt = 5 ∧ ∃ P, pv = some ⟨P, 0, none⟩ ∧ P < w5.heap.size ∧ PathAt P b w7) from W6.out.elim .inl fun ⟨h5, P, e, hP, h⟩ => .inr ⟨h5, P, e, hP, h.keep (hb.same P (by have := S6.out; omega) (by omega))⟩)
       clear hx hb hs M6 R6 L6 W6 X6 S6
       generalize w5.heap.size = WB at *
       have m7 := M7.out.cell)
    | (refine wpList_store_int rfl _ _ rfl rfl S rfl (1 + (u : Int) % 7) rfl _ _ M7.out ?_; intro w8 hx hb hs
       rw [MO.out] at hx
       have M8 := Lib.hid hx; have R8 := Lib.hid (R7.out.but hb (by omega)); have L8 := Lib.hid (L7.out.trans (hb.below (Nat.le_refl _) (by have := S7.out; have := S5.out; omega))); have S8 := Lib.hid (show w8.heap.size = WB + 1 from hs.trans S7.out); have X8 := Lib.hid (X7.out.but hb (by have := S5.out; omega))
       have W8 := Lib.hid (show cnt = 0 ∨ (cnt = 5 ∧ ∃ P, pv = some ⟨P, 0, none⟩ ∧ P < WB ∧ PathAt P b w8 ∧ P ≠ S) from W7.out.elim .inl fun ⟨h5, P, e, hP, h⟩ => by
         have hne : P ≠ S := fun e => by
           have h1 := h 0 (by decide)
           have h2 := M7.out.cell
           have h3 := h 1 (by decide)
           have h4 : w7.heap[S]? = _ := M7.out
           rw [e] at h3
           simp [World.cell?, h4] at h3
         exact .inr ⟨h5, P, e, hP, h.keep (hb.same P (by have := S7.out; omega) hne), hne⟩)
       clear hx hb hs M7 R7 L7 W7 X7 S7 m7)
    | (refine wpList_alloc_int rfl rfl (WB + 1) S8.out ?_; intro w9 hx hb hs
       have M9 := Lib.hid (M8.out.belowM hb (by have := S5.out; omega)); have R9 := Lib.hid (R8.out.belowM hb (by have := S5.out; omega)); have L9 := Lib.hid (L8.out.trans (hb.mono (by have := S5.out; omega))); have S9 := Lib.hid (show w9.heap.size = WB + 2 from hs); have X9 := Lib.hid (X8.out.belowM hb (by omega)); have K9 := Lib.hid hx
       have W9 := Lib.hid (show cnt = 0 ∨ (cnt = 5 ∧ ∃ P, pv = some ⟨P, 0, none⟩ ∧ P < WB ∧ PathAt P b w9) from W8.out.elim .inl fun ⟨h5, P, e, hP, h, _⟩ => .inr ⟨h5, P, e, hP, h.keep (hb.block P (by omega))⟩)
       clear hx hb hs M8 R8 L8 W8 X8 S8)
    | (refine wpList_store_int rfl _ _ rfl rfl (WB + 1) rfl 0 rfl _ _ K9.out ?_; intro w10 hx hb hs
       have M10 := Lib.hid (M9.out.but hb (by have := S5.out; omega)); have R10 := Lib.hid (R9.out.but hb (by have := S5.out; omega)); have L10 := Lib.hid (L9.out.trans (hb.below (by have := S5.out; omega) (by have := S9.out; have := S5.out; omega))); have S10 := Lib.hid (show w10.heap.size = WB + 2 from hs.trans S9.out); have X10 := Lib.hid (X9.out.but hb (by omega)); have K10 := Lib.hid hx
       have W10 := Lib.hid (show cnt = 0 ∨ (cnt = 5 ∧ ∃ P, pv = some ⟨P, 0, none⟩ ∧ P < WB ∧ PathAt P b w10) from W9.out.elim .inl fun ⟨h5, P, e, hP, h⟩ => .inr ⟨h5, P, e, hP, h.keep (hb.same P (by have := S9.out; omega) (by omega))⟩)
       clear hx hb hs M9 R9 L9 W9 X9 S9 K9)
    | (go_at_call 17; refine (PA.out w10).mono ?_; rintro e w11 ⟨rfl, hw⟩
       have hb : Below w10.heap.size w10 w11 := hw ▸ (Below.refl _ _).alloc (Nat.le_refl _) _
       have hx : Bx w11 (WB + 2) 3 (.int .i64 z) := by rw [← hw, ← S10.out]; exact Bx.new _ _ _
       have hs : w11.heap.size = WB + 2 + 1 := by rw [← hw, World.size_alloc, S10.out]
       have H11 := Lib.hid (show StP w WB (WB + 1) (WB + 2) pv pc b cnt z mo ((0 : Nat) : Int) w11 from
         ⟨HS.out.symm ▸ M10.out.below hb, HS.out.symm ▸ R10.out.below hb, X10.out.below hb, K10.out.below hb, hx, W10.out.elim .inl fun ⟨h5, P, e, hP, h⟩ => .inr ⟨h5, P, e, hP, h.keep (hb.block P (by rw [S10.out]; omega))⟩, HS.out.symm ▸ L10.out.trans (hb.mono (by rw [S10.out]; have := S5.out; omega)), by rw [HS.out]; exact S5.out, by omega, by omega, by omega⟩)
       have S11 := Lib.hid hs
       rw [S10.out]
       clear hw hb hx hs M10 R10 L10 S10 X10 K10 W10 PA))
  obtain ⟨b', hbb, hg⟩ := HG.out
  have GG := Lib.hid hg; have BE := Lib.hid hbb
  clear hg hbb HG q1 q2 hu MO S1 S2 S3 S4
  generalize WB + 1 = KB at *
  generalize WB + 2 = SB at *
  have s8 := S11.out
  clear S11 S5
  refine (wpIn_wide (n := 3)).1 ?_
  refine range_ends_brk rfl (by omega) (gf := 30) (lb := #[.pointer (some ⟨SB, 0, none⟩)]) rfl trivial (enters_of Tryd.func30 (by kernel_rfl) rfl)
    (ptE b') (fun _ i _ x => x = i) cnt (PtR SB z) (fun _ => rfl)
    (fun i V => (i < mo ∧ i ≤ cnt) ∧ StP w WB KB SB pv pc b cnt z mo (i : Nat) V) (fun V => mo ≤ cnt ∧ StP w WB KB SB pv pc b cnt z mo (mo : Nat) V) ?rd ?st ?stx ⟨⟨hmo0, Nat.zero_le _⟩, H11.out⟩ (GG.out _ SB) ?round ?done
  case rd => exact fun i V h => h.2.sb.cell
  case st => exact fun i V V' h hb => ⟨h.1, h.2.below (by rw [s8] at hb; exact hb)⟩
  case stx => exact fun V V' h hb => ⟨h.1, h.2.below (by rw [s8] at hb; exact hb)⟩
  case round =>
    rintro l i0 i U hl hi hus ⟨⟨hlt, _⟩, hI⟩ rfl
    rw [s8] at hus hl
    have h5 : cnt = 5 := by have := HC.out; omega
    have e5 := BE.out h5
    subst e5
    have d1 : decide ((cnt : Int) ≤ (i : Int)) = false := decide_eq_false (by omega)
    have d2 : decide (cnt ≤ i) = false := decide_eq_false (by omega)
    have HI := Lib.hid hI
    have HLT := Lib.hid hi
    have H5 := Lib.hid h5
    clear hI H11 h5
    unfold ptE
    gi_wp2
    refine ⟨Aft.refl _ _, fun V hVs hVk hVb => ?_⟩
    try rw [s8] at hVb
    have qv := HI.out.below hVb
    clear hVs hVk hVb HI
    obtain ⟨P, hpv, hPW, hP⟩ : ∃ P, pv = some ⟨P, 0, none⟩ ∧ P < WB ∧ PathAt P b' V := by
      rcases qv.wl with h0 | ⟨_, P, e, h1, h2⟩
      · have := H5.out; omega
      · exact ⟨P, e, h1, h2⟩
    subst hpv
    have c0 := hP i (by have := H5.out; omega)
    have c1 := qv.kb.cell
    have f1 := qv.kb.free
    have c2 := qv.wb.cell
    have q1 : IntKind.i64.wrap ((i : Int) + 1) = (i : Int) + 1 := IntWalk.i64_in _ (by omega)
    have qw := qv.step ((i : Int) + 1)
    have c5 := qw.kb.cell
    have c6 := qw.mb.cell
    have hA : Aft (SB + 1) V (V.setCell ⟨KB, 0, none⟩ (.int .i64 ((i : Int) + 1))) := Aft.setCell (Aft.refl _ _) (by show KB < SB + 1; have := qv.far; omega) _
    have HA := Lib.hid hA
    have QW := Lib.hid qw
    rw [HS.out] at c6
    clear qv qw hA hPW hP hi hus hl
    gi_wp2_with (first
      | (refine givesIn rfl rfl rfl (int_addr _ _ rfl P 0 cnt pc i rfl rfl HLT.out _) ?_))
    · have hcd : ((i : Int) + 1 == (mo : Int)) = true := by assumption
      have hqN : i + 1 = mo := by simp at hcd; omega
      have hlt5 := HLT.out
      refine ⟨HA.out, rfl, by omega, ?_⟩
      have := QW.out
      rw [show (i : Int) + 1 = ((mo : Nat) : Int) by omega] at this
      rw [show (i : Int) + 1 = ((mo : Nat) : Int) by omega]
      exact this
    · have hcd : ((i : Int) + 1 == (mo : Int)) = false := by assumption
      have hqN : i + 1 ≠ mo := fun h => by
        have hcd2 : ((i : Int) + 1 == (mo : Int)) = true := by simp; omega
        rw [hcd] at hcd2; cases hcd2
      exact ⟨HA.out, ⟨by omega, by have := HLT.out; omega⟩, QW.out⟩
  case done =>
    intro D U hD hend hd
    obtain ⟨k, hk, hI⟩ : ∃ k : Nat, k = min mo cnt ∧ StP w WB KB SB pv pc b cnt z mo k U := by
      rcases hend with ⟨⟨hlt, _⟩, hI⟩ | ⟨hle, hI⟩
      · exact ⟨cnt, by omega, hI⟩
      · exact ⟨mo, by omega, hI⟩
    clear hend HC GG H11 BE
    rw [s8] at hD
    obtain ⟨g1, g2, g3, g4⟩ := hI.far
    have p1 : PtP w WB KB D pv pc cnt mo k U := ⟨hI.mb, hI.rb, hI.wb, hI.kb, hd, hI.low, g1, g2, by omega, (Array.getElem?_eq_some_iff.1 hd).1⟩
    have P1 := Lib.hid p1
    clear p1 hI hd hD s8 g1 g2 g3 g4
    go_wp2_with (first
      | (refine wpList_alloc_int rfl rfl U.heap.size rfl ?_; intro U2 hx hb hs
         have P2 := Lib.hid (P1.out.below hb); have T2 := Lib.hid hx; have S2 := Lib.hid hs; have DL := Lib.hid P1.out.far.2.2.2; clear hx hb hs P1
         generalize U.heap.size = TB at *)
      | (refine wpList_store_int rfl _ _ rfl rfl TB rfl 0 rfl _ _ T2.out ?_; intro U3 hx hb hs
         have P3 := Lib.hid (P2.out.but hb DL.out); have T3 := Lib.hid hx; have S3 := Lib.hid (show U3.heap.size = TB + 1 from hs.trans S2.out); clear hx hb hs P2 T2 S2)
      | (go_at_call 17; refine (P5.out U3).mono ?_; rintro e U4 ⟨rfl, hw⟩
         have hb : Below U3.heap.size U3 U4 := hw ▸ (Below.refl _ _).alloc (Nat.le_refl _) _
         have hx : Bx U4 (TB + 1) 3 (.int .i64 5) := by rw [← hw, ← S3.out]; exact Bx.new _ _ _
         have hs : U4.heap.size = TB + 1 + 1 := by rw [← hw, World.size_alloc, S3.out]
         have H4 := Lib.hid (show StV w WB KB D TB (TB + 1) pv pc cnt mo k ((0 : Nat) : Int) U4 from ⟨P3.out.below hb, T3.out.below hb, hx, DL.out, by omega⟩)
         have S4 := Lib.hid hs
         rw [S3.out]
         clear hw hb hx hs P3 T3 S3 P5))
    generalize TB + 1 = SC at *
    have s4 := S4.out
    clear S4
    have HK := Lib.hid hk
    clear hk DL
    refine (wpIn_wide (n := 3)).1 ?_
    refine range_ends_brk rfl (by omega) (gf := 30) (lb := #[.pointer (some ⟨SC, 0, none⟩)]) rfl trivial (enters_of Tryd.func30 (by kernel_rfl) rfl)
      (ptE 5) (fun _ i _ x => x = i) 5 (PtR SC 5) (fun _ => rfl)
      (fun i V => i ≤ 5 ∧ StV w WB KB D TB SC pv pc cnt mo k (i : Nat) V) (fun _ => False) ?rd2 ?st2 ?stx2 ⟨by omega, H4.out⟩ (G5.out _ SC) ?round2 ?done2
    case rd2 => exact fun i V h => h.2.sb.cell
    case st2 => exact fun i V V' h hb => ⟨h.1, h.2.below (by rw [s4] at hb; exact hb)⟩
    case stx2 => exact fun V V' h hb => h.elim
    case round2 =>
      rintro l i0 i W hl hi hus ⟨_, hI⟩ rfl
      rw [s4] at hus hl
      have HI := Lib.hid hI
      clear hI H4
      obtain ⟨E, hE⟩ : ∃ E, ptE 5 i = #[.int .i64 E] := ⟨_, rfl⟩
      rw [hE]
      gi_wp2
      refine ⟨Aft.refl _ _, fun V hVs hVk hVb => ?_⟩
      try rw [s4] at hVb
      have qv := HI.out.below hVb
      clear hVs hVk hVb HI hE
      have c1 := qv.tb.cell
      have f1 := qv.tb.free
      have q1 : IntKind.i64.wrap ((i : Int) + 1) = (i : Int) + 1 := IntWalk.i64_in _ (by omega)
      have d1 : decide ((9 : Int) < (i : Int) + 1) = false := decide_eq_false (by omega)
      have d2 : decide (9 < i + 1) = false := decide_eq_false (by omega)
      have qw := qv.set ((i : Int) + 1)
      have c5 := qw.tb.cell
      have HA := Lib.hid (show Aft (SC + 1) V (V.setCell ⟨TB, 0, none⟩ (.int .i64 ((i : Int) + 1))) from Aft.setCell (Aft.refl _ _) (by show TB < SC + 1; have := qv.far; omega) _)
      have QW := Lib.hid qw
      clear qv qw
      gi_wp2
      exact ⟨s4 ▸ HA.out, by omega, QW.out⟩
    case done2 =>
      rintro D2 V hD2 (⟨_, hI⟩ | h) hd
      · rw [s4] at hD2
        have c1 := hI.tb.cell
        have c2 := hI.p.kb.cell
        have c3 := hI.p.wb.cell
        have c4 := hI.p.mb.cell
        have c5 := hI.p.rb.cell
        have f5 := hI.p.rb.free
        rw [HS.out] at c4 c5 f5
        have m1 : min (mo : Int) (cnt : Int) = (k : Int) := by rw [HK.out]; omega
        have m2 : min mo cnt = k := HK.out.symm
        have HI := Lib.hid hI; have HD := Lib.hid hd; have HD2 := Lib.hid hD2
        clear hI hd H4 s4 hD2
        go_wp2
        all_goals
          have hk1 := HK.out
          first
            | rw [show ((k : Int) == (cnt : Int)) = true by simp; omega]
            | rw [show ((k : Int) == (mo : Int)) = true by simp; omega]
          have hfin : Below S w (V.setCell ⟨S + 1, 0, none⟩ (.bool true)) := (show Below S w V from HS.out ▸ HI.out.p.low).setCell (by show S ≤ S + 1; omega) _
          have hr : Bx (V.setCell ⟨S + 1, 0, none⟩ (.bool true)) (S + 1) 4 (.bool true) := (HS.out ▸ HI.out.p.rb).set _
          have hfar := HI.out.far; have hfar2 := HI.out.p.far; have hD2 := HD2.out; have hss := HS.out
          have hd2 : (V.setCell ⟨S + 1, 0, none⟩ (.bool true)).heap[D2]? = some (.deferred (some [])) := (Below.heap_setCell V ⟨S + 1, 0, none⟩ _ D2 (by show D2 ≠ S + 1; omega)).trans HD.out
          have hd1 : (V.setCell ⟨S + 1, 0, none⟩ (.bool true)).heap[D]? = some (.deferred (some [])) := (Below.heap_setCell V ⟨S + 1, 0, none⟩ _ D (by show D ≠ S + 1; omega)).trans HI.out.p.db
          have hne : D ≠ D2 := by omega
          generalize V.setCell ⟨S + 1, 0, none⟩ (.bool true) = Z at *
          refine ⟨by simp, .inl ⟨_, _, rfl, run_takeDeferred hd2, ?_⟩⟩
          have hd3 : (Z.putObj D2 (.deferred none)).heap[D]? = some (.deferred (some [])) := (World.putObj_heap_other (by omega)).trans hd1
          refine ⟨by simp, .inl ⟨_, _, rfl, run_takeDeferred hd3, ?_⟩⟩
          have r1 := cells_turn (o' := .deferred none) hr hd2 rfl
          have r2 := cells_turn (o' := .deferred none) r1 hd3 rfl
          have hc := cell_of_one r2
          refine ⟨.bool true, ?_, rfl, below_turn _ (below_turn _ hfin (by omega)) (by omega)⟩
          simp [results, Tryd.f5, go_sem, hc]
      · exact h.elim
set_option maxRecDepth 100000 in
theorem lifted (os : Os) (started : os.Started) (H : Type) (enc : TypeId × Value → H) :
    ReturnsInHanded {} Tryd.checked os 5 .any (fun w args => (Rows.treePathSpec.pre enc Tryd.prog Tryd.f5 Rows.treePathRow.domain false w args ∧ laidMetH Tryd.prog Rows.treePathRow.laid w) ∧ sizedMet enc Tryd.prog Tryd.f5 (OpenSpec.ofChange Rows.treePathSpec) false w args) (Rows.treePathSpec.post enc Tryd.prog Tryd.f5 false true false false) := by
  refine returnsInHanded_of_change_and (C := Tryd.checked) (X := fun w _ => laidMetH Tryd.prog Rows.treePathRow.laid w) (fun _ _ _ hh h => h.of_heap hh) own started (by kernel_rfl) Tryd.func5
    (ChangeSpec.witness_shaped (enc := enc) (C := Tryd.checked) (os := os) (X := fun w _ => laidMetH Tryd.prog Rows.treePathRow.laid w) false (World.laidAll Tryd.prog os Rows.treePathRow.laid) #[.int .i64 0, .int .i64 0] 8 (World.laidAll_os _ _ _)
      (World.shaped_of_ZipB (by kernel_rfl) (by kernel_rfl)) (by kernel_rfl) (by kernel_rfl) (by kernel_rfl)
      (by rw [MakeChecks.laidMetH_plain _ _ _ (by kernel_rfl)]; exact laidMet_laidAll _ (by kernel_rfl) (by kernel_rfl))) ?_
  intro W base args ds gs before hval0 hW hcnd hsz hL _
  have hT := tab_of_laid hL
  have hval : ∀ (j : Nat) t v, Tryd.f5.params[j]? = some t → args[j]? = some v → Value.okWide Tryd.prog W .any base t v := hval0
  have hW' := hW
  obtain ⟨p, q, hA0, hV, rfl, hfz, hnd⟩ := hW
  have hA : DataW.TrodAll enc Tryd.prog W 0 (fun _ => true) true Tryd.f5.params.toList args.toList ds p := hA0
  rw [Tryd.params5] at hA hval
  obtain ⟨v0, vs0, d0, ds0, p0, q0, hargs, rfl, rfl, h0, r0⟩ := trodAll_cons hA
  obtain ⟨v1, vs1, d1, ds1, p1, q1, rfl, rfl, rfl, h1, r1⟩ := trodAll_cons r0
  obtain ⟨rfl, rfl, rfl⟩ := trodAll_nil r1
  obtain rfl : args = #[v0, v1] := by cases args; simp_all
  obtain ⟨rfl, rfl⟩ := trodVars_none hV
  obtain ⟨a0, rfl, rfl, rfl, w0⟩ := open_int Tryd.underlying3 (hval 0 3 v0 rfl rfl) h0
  obtain ⟨a1, rfl, rfl, rfl, w1⟩ := open_int Tryd.underlying3 (hval 1 3 v1 rfl rfl) h1
  clear hA0 hval0
  refine (walk a0 a1 w0 w1 W hT).mono fun e W' ⟨he, bel⟩ => ?_
  subst he
  exact ⟨_, rfl, _, _, _, [], _, [], hW', trodAll_mk1 (shut_bool Tryd.underlying4 _), (trodAll_cons_mk (shut_int Tryd.underlying3 w0) (trodAll_cons_mk (shut_int Tryd.underlying3 w1) trodAll_mk0)), rfl, bel.frame _, fun h => by cases h⟩

theorem over : Rows.treePathRow.holds Tryd.pinned (OpenSpec.ofChange Rows.treePathSpec) :=
  OpenClaim.holds_of_wide 5 Tryd.f5 rfl rfl rfl rfl rfl rfl rfl ⟨rfl, rfl, rfl, rfl, rfl⟩ rfl rfl rfl rfl rfl (by kernel_rfl) Tryd.func5 (by kernel_rfl)
    (of_decide_eq_true (by kernel_rfl)) (by unfold Func.isWrapper; first | (rw [if_pos (by decide +kernel)]; kernel_rfl) | (rw [if_neg (by decide +kernel)]; exact ⟨rfl, rfl⟩))
    (fun os started H enc _ => lifted os started H enc)

set_option maxRecDepth 100000 in
theorem proved : Rows.TreePathCardSaid :=
  Claim7.holds_tied_plain_at .later [] [.data] true (true, "9cdaf957ca4f470c175790aa6dd30bf08ec4d45d6deccd3b138243499fd01b2a") true
    over (fun _ h => by cases h) (by kernel_rfl) (fun _ h => by cases h) treePath_row_tie rfl ⟨rfl, rfl⟩ (by kernel_rfl) rfl
    (fun f fn hf hfn => by
      obtain rfl : f = 5 := Option.some.inj ((show Tryd.prog.funcNamed "citadel/citadellaw11.TreePath" = some 5 by kernel_rfl).symm.trans hf) |>.symm
      obtain rfl : fn = Tryd.f5 := (Option.some.inj (Tryd.func5.symm.trans hfn)).symm
      exact ⟨by kernel_rfl, fun j t ht => by
        rw [Tryd.params5] at ht
        rcases j with _ | _ | j
        · obtain rfl : t = 3 := by simpa using ht.symm
          exact (show Tryd.prog.wantsStandIn 3 = false by kernel_rfl)
        · obtain rfl : t = 3 := by simpa using ht.symm
          exact (show Tryd.prog.wantsStandIn 3 = false by kernel_rfl)
        · simp at ht⟩)
    (by kernel_rfl)
end Go.Proofs.YtbdldnhpgpjnoaaDoor.treePath
