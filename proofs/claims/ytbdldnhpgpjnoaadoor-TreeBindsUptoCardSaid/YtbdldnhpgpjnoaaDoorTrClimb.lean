/- The iterator of package tree's climb: it hands yield a path's numbers, each with the tag that the leaf comes to there. Conditions: the boxes, the key, the constants and the tree stand while the caller goes with it. -/
import Derived.Test.YtbdldnhpgpjnoaaDoorTrPar
import Derived.Test.YtbdldnhpgpjnoaaDoorTrPath
import Derived.Test.YtbdldnhpgpjnoaaDoorTrIn
namespace Go.Proofs.YtbdldnhpgpjnoaaDoor
open Go.ChangeShapes Go.WideShapes Go.ChangeAt Go.RowKit Go.Shelf
attribute [local go_sem] Oper.semAt_some
set_option linter.unusedVariables false
theorem climb_sum {N : Nat → List Int → List Int → List Int} (hN : ∀ i l r, IsSum (N i l r)) {T : Nat → List Int} {b : Nat} {leaf : List Int} (h : IsSum leaf) : ∀ k, IsSum (climbF N T b leaf k)
  | 0 => h
  | k + 1 => by
    unfold climbF parF
    split <;> exact hN _ _ _
/-- What climb keeps: boxes of the key, of the tree, of the block's number and of the leaf. -/
structure CbR (A : Nat) (kp : Option Addr) (n kc : Nat) (g : Nat → Nat) (q : Option Addr) (cap : Nat) (l : List (List Int)) (b : Int) (leaf : List Int) (V : World) : Prop where
  kb : V.cell? ⟨A, 0, none⟩ = some (.slice kp n kc)
  tb : V.cell? ⟨A + 1, 0, none⟩ = some (.slice q 32 cap)
  bb : V.cell? ⟨A + 1 + 1, 0, none⟩ = some (.int .i64 b)
  lb : SumsB V (A + 1 + 1 + 1) [leaf]
  key : KeyAt V kp n kc g
  tree : RowsAt 32 sumC V q l
theorem cell_lt {V : World} {B : Nat} {v : Value} (h : V.cell? ⟨B, 0, none⟩ = some v) : B < V.heap.size := block_lt_of_cell h
theorem CbR.below {A : Nat} {kp : Option Addr} {n kc : Nat} {g : Nat → Nat} {q : Option Addr} {cap : Nat} {l : List (List Int)} {b : Int} {leaf : List Int} {V V' : World} (h : CbR A kp n kc g q cap l b leaf V) (hb : Below V.heap.size V V') : CbR A kp n kc g q cap l b leaf V' :=
  ⟨(hb.cell (p := ⟨A, 0, none⟩) (cell_lt h.kb)).trans h.kb, (hb.cell (p := ⟨A + 1, 0, none⟩) (cell_lt h.tb)).trans h.tb, (hb.cell (p := ⟨A + 1 + 1, 0, none⟩) (cell_lt h.bb)).trans h.bb, h.lb.below hb, h.key.below hb, h.tree.below hb⟩
attribute [local irreducible] nought sumVal sumC tagAt climbF pn parF
set_option maxRecDepth 100000 in
set_option maxHeartbeats 1000000 in
theorem climb_any (kp : Option Addr) (n kc : Nat) (g : Nat → Nat) (q : Option Addr) (cap : Nat) (l : List (List Int)) (b : Int) (leaf : List Int) (w : World) (hk : KeyAt w kp n kc g) (hq : RowsAt 32 sumC w q l) :
    Calls Tryd.prog 36 #[.slice kp n kc, .slice q 32 cap, .int .i64 b, sumVal leaf] w fun e w' => e = .returned (.func (.func 45) #[] #[.pointer (some ⟨w.heap.size + 1 + 1 + 1, 0, none⟩), .pointer (some ⟨w.heap.size + 1 + 1, 0, none⟩), .pointer (some ⟨w.heap.size, 0, none⟩), .pointer (some ⟨w.heap.size + 1, 0, none⟩)]) ∧ CbR w.heap.size kp n kc g q cap l b leaf w' ∧ Below w.heap.size w w' := by
  have HK := Lib.hid hk; have HQ := Lib.hid hq
  clear hk hq
  go_enter Tryd.func36, Tryd.ntmps36
  have C0 := Lib.hid (show ∀ V, Below w.heap.size w V → V = V from fun _ _ => rfl)
  go_wp2_with (first
    | (refine wpList_sum_box rfl _ rfl leaf rfl (w.heap.size + 1 + 1 + 1) (by simp) ?_; intro w1 hL hb hs
       have L1 := Lib.hid hL; have B1 := Lib.hid hb; have S1 := Lib.hid hs; clear hL hb hs))
  go_ret
  have z0 := heap_alloc_new w (.cells #[.slice kp n kc] 22)
  have z1 := heap_alloc_new (w.alloc (.cells #[.slice kp n kc] 22)) (.cells #[.slice q 32 cap] 34)
  have z2 := heap_alloc_new ((w.alloc (.cells #[.slice kp n kc] 22)).alloc (.cells #[.slice q 32 cap] 34)) (.cells #[.int .i64 b] 3)
  rw [World.size_alloc] at z1
  rw [World.size_alloc, World.size_alloc] at z2
  have y0 := heap_keep (heap_keep z0 (.cells #[.slice q 32 cap] 34)) (.cells #[.int .i64 b] 3)
  have y1 := heap_keep z1 (.cells #[.int .i64 b] 3)
  have bb : Below w.heap.size w (((w.alloc (.cells #[.slice kp n kc] 22)).alloc (.cells #[.slice q 32 cap] 34)).alloc (.cells #[.int .i64 b] 3)) := below_three w _ _ _
  have hb := B1.out
  have b3 : Below w.heap.size w w1 := bb.trans (hb.mono (by omega))
  exact ⟨rfl, ⟨cell_of_one ((hb.block _ (by omega)).trans y0), cell_of_one ((hb.block _ (by omega)).trans y1), cell_of_one ((hb.block _ (by omega)).trans z2), L1.out, HK.out.below b3, HQ.out.below b3⟩, b3⟩
theorem climbF_next (N : Nat → List Int → List Int → List Int) (T : Nat → List Int) (b : Nat) (leaf : List Int) (k : Nat) : climbF N T b leaf (k + 1) = parF N T (pn b k) (climbF N T b leaf k) := by rw [climbF]
theorem climbF_zero (N : Nat → List Int → List Int → List Int) (T : Nat → List Int) (b : Nat) (leaf : List Int) : climbF N T b leaf 0 = leaf := by rw [climbF]
def cbE (N : Nat → List Int → List Int → List Int) (T : Nat → List Int) (b : Nat) (leaf : List Int) (k : Nat) : Array Value := #[.int .i64 (pn b k : Nat), sumVal (climbF N T b leaf k)]
/-- What stands between two rounds of climb's loop. -/
structure CbI (E l b : Nat) (N : Nat → List Int → List Int → List Int) (T : Nat → List Int) (leaf : List Int) (J : Nat → World → Prop) (k : Nat) (V : World) : Prop where
  k4 : k ≤ 4
  j : J k V
  yb : V.cell? ⟨E, 0, none⟩ = some (.func (.yield l) #[] #[])
  tg : SumsB V (E + 1) [climbF N T b leaf k]
  pb : V.cell? ⟨E + 1 + 1, 0, none⟩ = some (.int .i64 b)
theorem cell_aft {B C : Nat} {V V' : World} {v : Value} (h : V.cell? ⟨C, 0, none⟩ = some v) (ha : Aft B V V') (hC : B ≤ C) : V'.cell? ⟨C, 0, none⟩ = some v :=
  (World.cell?_of_block (w := V) (w' := V') (a := ⟨C, 0, none⟩) (ha.same C hC (cell_lt h))).trans h
theorem SumsB.aft {B C : Nat} {V V' : World} {l : List (List Int)} (h : SumsB V C l) (ha : Aft B V V') (hC : B ≤ C) : SumsB V' C l := h.keep (ha.same C hC h.lt)
attribute [local irreducible] nodeN
set_option maxRecDepth 100000 in
set_option maxHeartbeats 4000000 in
theorem climb_gives (m A : Nat) (kp : Option Addr) (n kc : Nat) (g : Nat → Nat) (hn : n ≤ 80000) (q : Option Addr) (cap : Nat) (l : List (List Int)) (h32 : l.length = 32) (hs : ∀ t ∈ l, IsSum t) (b : Nat) (hb : b < 16) (leaf : List Int) (hleaf : IsSum leaf) :
    GivesTo Fence.wide m Tryd.prog 45 #[.pointer (some ⟨A + 1 + 1 + 1, 0, none⟩), .pointer (some ⟨A + 1 + 1, 0, none⟩), .pointer (some ⟨A, 0, none⟩), .pointer (some ⟨A + 1, 0, none⟩)] (cbE (nodeN n g) (tagAt l) b leaf) (fun _ i _ x => x = i) 5 (CbR A kp n kc g q cap l b leaf) := fun lp J Jx W hR hJ hJx hY h0 => by
  refine callsIn_wide.2 ((callsIn_wide (n := 3)).1 ?_)
  refine callsIn_of_wp_marks Tryd.func45 rfl trivial ?_ rfl
  simp only [Tryd.ntmps45, List.size_toArray, List.length_cons, List.length_nil, Nat.reduceAdd, Nat.reduceSub, Array.replicate_succ, Array.replicate_zero, List.push_toArray, List.append_toArray, List.nil_append, List.cons_append]
  refine wpIn_wide.2 ?_
  have HSG := Lib.hid (fun m' S => path_gives m' S b hb)
  have HPAR := Lib.hid (fun k (hk : k < 4) (V : World) (hV : CbR A kp n kc g q cap l b leaf V) => parent_any kp n kc g hn q cap l h32 hs (pn b k) ((pn_all b hb k (by omega)).2.2.2.2 hk) (pn_all b hb k (by omega)).2.1 (climbF (nodeN n g) (tagAt l) b leaf k) (climb_sum (nodeN_sum n g) hleaf k) V hV.key hV.tree)
  have HCN := Lib.hid (fun k => show climbF (nodeN n g) (tagAt l) b leaf (k + 1) = parF (nodeN n g) (tagAt l) (pn b k) (climbF (nodeN n g) (tagAt l) b leaf k) from climbF_next _ _ _ _ k)
  have HC0 := Lib.hid (show climbF (nodeN n g) (tagAt l) b leaf 0 = leaf from climbF_zero _ _ _ _)
  have HP1 := Lib.hid (pn_one hb)
  have HPA := Lib.hid (fun k (hk : k < 5) => pn_all b hb k hk)
  have HR := Lib.hid hR; have HJ := Lib.hid hJ; have HJX := Lib.hid hJx; have HY := Lib.hid hY
  have J0 := Lib.hid h0
  clear hR hJ hJx hY h0 hn h32 hs hleaf
  generalize hE : W.heap.size = E at *
  have HE := Lib.hid hE
  clear hE
  have a0 := Lib.hid (show Below E W (W.alloc (.cells #[.func (.yield lp) #[] #[]] 84)) from (Below.refl _ _).alloc (by rw [HE.out]; exact Nat.le_refl _) _)
  have s0 := Lib.hid (show (W.alloc (.cells #[.func (.yield lp) #[] #[]] 84)).heap.size = E + 1 by simp [HE.out])
  have y0 := Lib.hid (cell_of_one (show (W.alloc (.cells #[.func (.yield lp) #[] #[]] 84)).heap[E]? = _ from HE.out ▸ heap_alloc_new W (.cells #[.func (.yield lp) #[] #[]] 84)))
  have R0 := Lib.hid (HR.out 0 _ (HJ.out 0 W _ J0.out a0.out))
  have J1 := Lib.hid (HJ.out 0 W _ J0.out a0.out)
  clear J0
  go_wp2
  rw [HE.out]
  go_step3
  go_wp2_with (first
    | (refine wpList_sum_load rfl _ rfl (A + 1 + 1 + 1) 0 rfl leaf R0.out.lb.one ?_)
    | (refine wpList_sum_alloc rfl rfl (E + 1) s0.out ?_; intro w2 hD hb hs
       have D2 := Lib.hid hD; have y2 := Lib.hid ((hb.cell (p := ⟨E, 0, none⟩) (by show E < E + 1; omega)).trans y0.out); have J2 := Lib.hid (HJ.out 0 _ _ J1.out (hb.mono (by omega))); have S2 := Lib.hid hs; clear hD hb hs R0 J1 y0 s0 a0)
    | (refine wpList_sum_store rfl _ _ rfl rfl (E + 1) 0 rfl leaf rfl [nought] D2.out (by decide) ?_; intro w3 hD hb hs
       have D3 := Lib.hid hD; have y3 := Lib.hid ((World.cell?_of_block (w := w2) (w' := w3) (a := ⟨E, 0, none⟩) (hb.same E (by rw [S2.out]; omega) (by omega))).trans y2.out); have J3 := Lib.hid (HJ.out 0 _ _ J2.out (hb.below (M := E) (by omega) (by rw [S2.out]; omega))); have S3 := Lib.hid (hs.trans S2.out)
       have c3 := (HR.out 0 _ J3.out).bb
       clear hD hb hs D2 y2 J2)
    | (go_at_call 17; refine (Path_any _ _).mono ?_; rintro e w4 ⟨rfl, hw4⟩))
  go_step3
  go_wp2_with (first
    | (refine wpList_sum_load rfl _ rfl (A + 1 + 1 + 1) 0 rfl leaf R0.out.lb.one ?_)
    | (refine wpList_sum_alloc rfl rfl (E + 1) s0.out ?_; intro w2 hD hb hs
       have D2 := Lib.hid hD; have y2 := Lib.hid ((hb.cell (p := ⟨E, 0, none⟩) (by show E < E + 1; omega)).trans y0.out); have J2 := Lib.hid (HJ.out 0 _ _ J1.out (hb.mono (by omega))); have S2 := Lib.hid hs; clear hD hb hs R0 J1 y0 s0 a0)
    | (refine wpList_sum_store rfl _ _ rfl rfl (E + 1) 0 rfl leaf rfl [nought] D2.out (by decide) ?_; intro w3 hD hb hs
       have D3 := Lib.hid hD; have y3 := Lib.hid ((World.cell?_of_block (w := w2) (w' := w3) (a := ⟨E, 0, none⟩) (hb.same E (by rw [S2.out]; omega) (by omega))).trans y2.out); have J3 := Lib.hid (HJ.out 0 _ _ J2.out (hb.below (M := E) (by omega) (by rw [S2.out]; omega))); have S3 := Lib.hid (hs.trans S2.out)
       have c3 := (HR.out 0 _ J3.out).bb
       clear hD hb hs D2 y2 J2)
    | (go_at_call 17; refine (Path_any _ _).mono ?_; rintro e w4 ⟨rfl, hw4⟩))
  have I0 : CbI E lp b (nodeN n g) (tagAt l) leaf J 0 w4 := by
    have hb : Below (E + 1 + 1) w3 w4 := by rw [← hw4]; exact (Below.refl _ _).alloc (by rw [S3.out]; exact Nat.le_refl _) _
    refine ⟨by omega, HJ.out 0 _ _ J3.out (hb.mono (by omega)), (hb.cell (p := ⟨E, 0, none⟩) (by show E < E + 1 + 1; omega)).trans y3.out, ?_, ?_⟩
    · rw [HC0.out]; exact D3.out.belowM hb (by omega)
    · rw [← hw4]
      have := heap_alloc_new w3 (.cells #[.int .i64 (b : Int)] 3)
      rw [S3.out] at this
      exact cell_of_one this
  have s1 : w4.heap.size = E + 1 + 1 + 1 := by rw [← hw4]; simp [S3.out]
  rw [S3.out]
  have HI0 := Lib.hid I0
  clear hw4 I0 J3 D3 y3 c3
  refine (wpIn_wide (n := 3)).1 ?_
  refine range_ends rfl (by omega) (gf := 30) (lb := #[.pointer (some ⟨E + 1 + 1, 0, none⟩)]) rfl trivial (enters_of Tryd.func30 (by kernel_rfl) rfl)
    (ptE b) (fun _ i _ x => x = i) 5 (PtR (E + 1 + 1) b) (fun _ => rfl)
    (CbI E lp b (nodeN n g) (tagAt l) leaf J) (fun c V => c = .exit 0 ∧ (J 5 V ∨ Jx V)) ?rd ?st ?stx HI0.out (HSG.out _ _) ?round ?done ?stop
  case rd => exact fun i V h => h.pb
  case st =>
    intro i V V' h hb
    rw [s1] at hb
    exact ⟨h.k4, HJ.out _ _ _ h.j (hb.mono (by omega)), (hb.cell (p := ⟨E, 0, none⟩) (by show E < E + 1 + 1 + 1; omega)).trans h.yb, h.tg.belowM hb (by omega), (hb.cell (p := ⟨E + 1 + 1, 0, none⟩) (by show E + 1 + 1 < E + 1 + 1 + 1; omega)).trans h.pb⟩
  case stx =>
    intro c V V' h hb
    rw [s1] at hb
    exact ⟨h.1, h.2.elim (fun h => .inl (HJ.out _ _ _ h (hb.mono (by omega)))) (fun h => .inr (HJX.out _ _ h (hb.mono (by omega))))⟩
  case done =>
    rintro D' U hD hI hd
    exact absurd hI.k4 (by omega)
  case stop =>
    rintro D' c U hD ⟨rfl, hx⟩ hd
    rw [s1] at hD
    have HX := Lib.hid hx; have HD := Lib.hid hd
    clear hx hd HI0 s1
    gi_wp2
    refine ⟨by simp, .inl ⟨_, _, rfl, run_takeDeferred HD.out, ?_⟩⟩
    exact ⟨_, results_none rfl _ _ _, ⟨_, rfl⟩, HX.out.elim (fun h => .inl (HJ.out _ _ _ h (below_put _ (by omega)))) (fun h => .inr (HJX.out _ _ h (below_put _ (by omega))))⟩
  case round =>
    rintro l' k x U hl hk hus hI rfl
    have HI := Lib.hid hI
    clear hI HI0
    unfold ptE
    gi_wp2
    refine ⟨Aft.refl _ _, fun V hVs hVk hVb => ?_⟩
    rw [s1] at hVb hus
    have hj : J x V := HJ.out _ _ _ HI.out.j (hVb.mono (by omega))
    have yq : V.cell? ⟨E, 0, none⟩ = some (.func (.yield lp) #[] #[]) := (hVb.cell (p := ⟨E, 0, none⟩) (by show E < E + 1 + 1 + 1; omega)).trans HI.out.yb
    have TG := Lib.hid (show SumsB V (E + 1) [climbF (nodeN n g) (tagAt l) b leaf x] from HI.out.tg.belowM hVb (by omega))
    have pb := Lib.hid ((hVb.cell (p := ⟨E + 1 + 1, 0, none⟩) (by show E + 1 + 1 < E + 1 + 1 + 1; omega)).trans HI.out.pb)
    have hE1 : E ≤ V.heap.size := by have := TG.out.lt; omega
    obtain ⟨fn, tmps, assign, body, hy, hRr⟩ := HY.out x V x hk hE1 hj rfl
    unfold cbE at hy
    have QY := Lib.hid yq
    have KJ := Lib.hid hj
    have HK4 := Lib.hid HI.out.k4
    clear hVs hVk hVb HI hj
    gi_wp2_with (first | (refine sumIn_load rfl rfl rfl _ rfl (E + 1) 0 rfl (climbF (nodeN n g) (tagAt l) b leaf x) TG.out.one ?_))
    refine (roundIn_any hRr).mono ?_
    rintro e W3 (⟨rfl, hj3, ha3⟩ | ⟨rfl, hx3, ha3⟩)
    · have y3 := Lib.hid (cell_aft QY.out ha3 (Nat.le_refl _))
      have T3 := Lib.hid (TG.out.aft ha3 (by omega))
      have p3 := Lib.hid (cell_aft pb.out ha3 (by omega))
      have A3 := Lib.hid (show Aft w4.heap.size V W3 from ⟨ha3.size, fun k hk hv => ha3.same k (by omega) hv⟩)
      have J3 := Lib.hid hj3
      clear hRr hy hj3 ha3 yq QY TG pb KJ
      by_cases h4 : x = 4
      · subst h4
        have e1 := HP1.out
        rw [e1]
        gi_wp2
        exact ⟨A3.out, rfl, .inl J3.out⟩
      · have HX4 := Lib.hid (show x < 4 by have := HK4.out; omega)
        have e2 := (HPA.out x (by have := HX4.out; omega)).2.2.1
        have e3 : ¬ pn b x = 1 := fun h => h4 (e2.2 h)
        have R3 := HR.out (x + 1) W3 J3.out
        have c1 := R3.kb
        have c2 := R3.tb
        have HPX := Lib.hid (HPAR.out x HX4.out W3 R3)
        have HCX := Lib.hid (HCN.out x)
        have d1 : decide (((pn b x : Nat) : Int) = 1) = false := decide_eq_false (by omega)
        clear e2 R3 HPAR HCN HPA HSG h4
        generalize pn b x = px at *
        gi_wp2_with (first
          | (refine sumIn_load rfl rfl rfl _ rfl (E + 1) 0 rfl (climbF (nodeN n g) (tagAt l) b leaf x) T3.out.one ?_))
        refine ⟨trivial, (CallsIn.inRound _ (callsIn_wide.2 HPX.out)).mono ?_⟩
        rintro e W4 ⟨rfl, hb⟩
        have y4 := Lib.hid ((hb.cell (p := ⟨E, 0, none⟩) (cell_lt y3.out)).trans y3.out)
        have T4 := Lib.hid (T3.out.below hb)
        have p4 := Lib.hid ((hb.cell (p := ⟨E + 1 + 1, 0, none⟩) (cell_lt p3.out)).trans p3.out)
        have A4 := Lib.hid (A3.out.trans (Aft.of_below _ hb))
        have J4 := Lib.hid (HJ.out _ _ _ J3.out (hb.mono (by have := cell_lt y3.out; omega)))
        clear hb y3 T3 p3 A3 J3 HPX c1 c2
        gi_wp2_with (first
          | (refine sumIn_store rfl rfl rfl _ _ rfl rfl (E + 1) 0 rfl _ rfl _ T4.out (by simp) ?_; intro W5 hT hb hs
             have T5 := Lib.hid hT
             have y5 := Lib.hid ((World.cell?_of_block (w := W4) (w' := W5) (a := ⟨E, 0, none⟩) (hb.same E (cell_lt y4.out) (by omega))).trans y4.out)
             have p5 := Lib.hid ((World.cell?_of_block (w := W4) (w' := W5) (a := ⟨E + 1 + 1, 0, none⟩) (hb.same (E + 1 + 1) (cell_lt p4.out) (by omega))).trans p4.out)
             have J5 := Lib.hid (HJ.out _ _ _ J4.out (hb.below (M := E) (by omega) (by have := cell_lt y4.out; omega)))
             have A5 := Lib.hid (show Aft w4.heap.size V W5 from A4.out.trans ⟨hb.size, fun k hk hv => hb.same k hv (by omega)⟩)
             clear hT hb hs T4 y4 p4 J4 A4))
        exact ⟨A5.out, by have := HX4.out; omega, J5.out, y5.out, by rw [HCX.out]; exact T5.out, p5.out⟩
    · have A3 := Lib.hid (show Aft w4.heap.size V W3 from ⟨ha3.size, fun k hk hv => ha3.same k (by omega) hv⟩)
      have HX := Lib.hid hx3
      clear hRr hy hx3 ha3 yq QY TG pb KJ
      gi_wp2
      exact ⟨A3.out, rfl, .inr HX.out⟩
end Go.Proofs.YtbdldnhpgpjnoaaDoor
