/- The contract of package tree's Verify, and of what Update and Verify refuse. Conditions: the package's variable holds the constants; the key has no more than 80,000 bytes; tags have 32 bytes. -/
import Derived.Test.YtbdldnhpgpjnoaaDoorTrUpd
import Derived.Test.YtbdldnhpgpjnoaaDoorTrEq
namespace Go.Proofs.YtbdldnhpgpjnoaaDoor
open Go.ChangeShapes Go.WideShapes Go.ChangeAt Go.RowKit Go.Shelf
attribute [local go_sem] Oper.semAt_some
set_option linter.unusedVariables false
theorem eq_sums {x y : List Int} (hx : IsSum x) (hy : IsSum y) : decide (mk 32 (natF x) = mk 32 (natF y)) = decide (x = y) := by rw [hx.mk', hy.mk']
attribute [local irreducible] nought sumVal sumC tagAt climbF pn parF nodeN updT
theorem results_tmp1 {P : Program} {fn : Func} {u : Tmp} (h : fn.results = #[.tmp u]) (tmps : Array Value) (w : World) : (results fn tmps).run P w = .ok (tmps.getD u undef) w := by simp [results, h, go_sem]
/-- Why a tree is refused: its error. -/
def RefusedBy (m : Nat) (b : Int) (z : Int) : Prop := (m ≠ 32 ∧ z = 2) ∨ (m = 32 ∧ ¬ (0 ≤ b ∧ b < 16) ∧ z = 1)
theorem refused_by {m : Nat} {b z : Int} (h : RefusedBy m b z) (q : Option Addr) (cap : Nat) (w : World) : Calls Tryd.prog 35 #[.slice q m cap, .int .i64 b] w fun e w' => e = .returned (.iface 49 (.int .i64 z)) ∧ w = w' := by
  rcases h with ⟨h, rfl⟩ | ⟨rfl, h, rfl⟩
  · exact refused_form q m cap b h w
  · exact refused_range q cap b h w
set_option maxRecDepth 100000 in
set_option maxHeartbeats 1000000 in
theorem Update_no (kp : Option Addr) (n kc : Nat) (q : Option Addr) (m cap : Nat) (b z : Int) (h : RefusedBy m b z) (leaf : List Int) (w : World) :
    Calls Tryd.prog 24 #[.slice kp n kc, .slice q m cap, .int .i64 b, sumVal leaf] w fun e w' => e = .returned (.tuple #[.slice none 0 0, .iface 49 (.int .i64 z)]) ∧ Below w.heap.size w w' := by
  have HR := Lib.hid (fun V => refused_by h q cap V)
  clear h
  go_enter Tryd.func24, Tryd.ntmps24
  go_wp2_with (first
    | (refine wpList_sum_box rfl _ rfl leaf rfl w.heap.size rfl ?_; intro w1 hL hb1 hs1
       have B1 := Lib.hid hb1; clear hL hb1 hs1)
    | (go_at_call 35; refine (HR.out _).mono ?_; rintro e w2 ⟨rfl, rfl⟩; clear HR))
  go_ret2
  exact ⟨rfl, B1.out⟩
set_option maxRecDepth 100000 in
set_option maxHeartbeats 1000000 in
theorem Verify_no (kp : Option Addr) (n kc : Nat) (q : Option Addr) (m cap : Nat) (b z : Int) (h : RefusedBy m b z) (root leaf : List Int) (w : World) :
    Calls Tryd.prog 23 #[.slice kp n kc, .slice q m cap, sumVal root, .int .i64 b, sumVal leaf] w fun e w' => e = .returned (.bool false) ∧ Below w.heap.size w w' := by
  have HR := Lib.hid (fun V => refused_by h q cap V)
  clear h
  go_enter Tryd.func23, Tryd.ntmps23
  go_wp2_with (first
    | (refine wpList_sum_box rfl _ rfl root rfl w.heap.size rfl ?_; intro w1 hL hb1 hs1
       have B1 := Lib.hid hb1; have S1 := Lib.hid hs1; clear hL hb1 hs1)
    | (refine wpList_sum_box rfl _ rfl leaf rfl (w.heap.size + 1) S1.out ?_; intro w2 hL hb1 hs1
       have B2 := Lib.hid (B1.out.trans (hb1.mono (by omega))); clear hL hb1 hs1)
    | (go_at_call 35; refine (HR.out _).mono ?_; rintro e w3 ⟨rfl, rfl⟩; clear HR))
  go_ret
  exact ⟨rfl, B2.out⟩
/-- What Verify has reached. -/
def gotL (n : Nat) (g : Nat → Nat) (l : List (List Int)) (b : Nat) (leaf : List Int) (k : Nat) : List Int := if k = 0 then nought else climbF (nodeN n g) (tagAt l) b leaf (k - 1)
/-- What stands between two rounds of Verify's loop. -/
structure VeI (w : World) (S A : Nat) (kp : Option Addr) (n kc : Nat) (g : Nat → Nat) (q : Option Addr) (cap : Nat) (l : List (List Int)) (b : Nat) (root leaf : List Int) (k : Nat) (V : World) : Prop where
  lo : Below S w V
  r : SumsB V S [root]
  d : SumsB V (S + 1 + 1) [gotL n g l b leaf k]
  kb : V.cell? ⟨A, 0, none⟩ = some (.slice kp n kc)
  tb : V.cell? ⟨A + 1, 0, none⟩ = some (.slice q 32 cap)
  bb : V.cell? ⟨A + 1 + 1, 0, none⟩ = some (.int .i64 b)
  lb : SumsB V (A + 1 + 1 + 1) [leaf]
theorem VeI.below {w : World} {S A : Nat} {kp : Option Addr} {n kc : Nat} {g : Nat → Nat} {q : Option Addr} {cap : Nat} {l : List (List Int)} {b : Nat} {root leaf : List Int} {k M : Nat} {V V' : World} (h : VeI w S A kp n kc g q cap l b root leaf k V) (hb : Below M V V') (h1 : S + 1 + 1 < M) (h4 : A + 1 + 1 + 1 < M) : VeI w S A kp n kc g q cap l b root leaf k V' :=
  ⟨h.lo.trans (hb.mono (by omega)), h.r.belowM hb (by omega), h.d.belowM hb h1, cell_below h.kb hb (by omega), cell_below h.tb hb (by omega), cell_below h.bb hb (by omega), h.lb.belowM hb h4⟩
set_option maxRecDepth 100000 in
set_option maxHeartbeats 4000000 in
theorem Verify_any (kp : Option Addr) (n kc : Nat) (g : Nat → Nat) (hn : n ≤ 80000) (q : Option Addr) (cap : Nat) (l : List (List Int)) (h32 : l.length = 32) (hs : ∀ t ∈ l, IsSum t) (root : List Int) (hroot : IsSum root) (b : Nat) (hb : b < 16) (leaf : List Int) (hleaf : IsSum leaf) (w : World) (hk : KeyAt w kp n kc g) (hq : RowsAt 32 sumC w q l) :
    Calls Tryd.prog 23 #[.slice kp n kc, .slice q 32 cap, sumVal root, .int .i64 b, sumVal leaf] w fun e w' => e = .returned (.bool (decide (climbF (nodeN n g) (tagAt l) b leaf 4 = root))) ∧ Below w.heap.size w w' := by
  have HK := Lib.hid (fun V (h : Below w.heap.size w V) => hk.below h); have HQ := Lib.hid (fun V (h : Below w.heap.size w V) => hq.below h)
  have RO := Lib.hid (fun V => refused_ok q cap b hb V)
  have CB := Lib.hid (fun V h1 h2 => climb_any kp n kc g q cap l b leaf V h1 h2)
  have CG := Lib.hid (fun m A => climb_gives m A kp n kc g hn q cap l h32 hs b hb leaf hleaf)
  have c4 : IsSum (climbF (nodeN n g) (tagAt l) b leaf 4) := climb_sum (nodeN_sum n g) hleaf 4
  have EQ := Lib.hid (fun (V : World) (X Y : Nat) (hX : SumsB V X [climbF (nodeN n g) (tagAt l) b leaf 4]) (hY : SumsB V Y [root]) => Equal_any (some ⟨X, 0, none⟩) 32 32 (natF (climbF (nodeN n g) (tagAt l) b leaf 4)) (some ⟨Y, 0, none⟩) 32 32 (natF root) (fun i _ => natF_lt c4.2 i) (fun i _ => natF_lt hroot.2 i) (by decide) (by decide) V (sumsB_bytes hX) (sumsB_bytes hY))
  have ED := Lib.hid (eq_sums c4 hroot)
  clear hk hq hs hn hleaf hroot c4
  generalize hS : w.heap.size = S at *
  have HS := Lib.hid hS
  clear hS
  refine (callsIn_wide (n := 3)).1 ?_
  refine callsIn_of_wp_marks Tryd.func23 rfl trivial ?_ rfl
  simp only [Tryd.ntmps23, List.size_toArray, List.length_cons, List.length_nil, Nat.reduceAdd, Nat.reduceSub, Array.replicate_succ, Array.replicate_zero, List.push_toArray, List.append_toArray, List.nil_append, List.cons_append]
  refine wpIn_wide.2 ?_
  go_wp2_with (first
    | (refine wpList_sum_box rfl _ rfl root rfl S HS.out ?_; intro w1 hL hb1 hs1
       have R1 := Lib.hid hL; have B1 := Lib.hid hb1; have S1 := Lib.hid hs1; clear hL hb1 hs1)
    | (refine wpList_sum_box rfl _ rfl leaf rfl (S + 1) S1.out ?_; intro w2 hL hb1 hs1
       have R2 := Lib.hid (R1.out.belowM hb1 (by omega)); have L2 := Lib.hid hL; have B2 := Lib.hid (B1.out.trans (hb1.mono (by omega))); have S2 := Lib.hid hs1; clear hL hb1 hs1 R1 B1)
    | (go_at_call 35; refine (RO.out _).mono ?_; rintro e w3 ⟨rfl, rfl⟩; clear RO)
    | (refine wpList_sum_alloc rfl rfl (S + 1 + 1) S2.out ?_; intro w4 hL hb1 hs1
       have D4 := Lib.hid hL; have R4 := Lib.hid (R2.out.belowM hb1 (by omega)); have L4 := Lib.hid (L2.out.belowM hb1 (by omega)); have B4 := Lib.hid (B2.out.trans (hb1.mono (by omega))); have S4 := Lib.hid hs1; clear hL hb1 hs1 R2 B2 L2)
    | (refine wpList_sum_load rfl _ rfl (S + 1) 0 rfl leaf L4.out.one ?_)
    | (go_at_call 36; refine (CB.out w4 (HK.out _ B4.out) (HQ.out _ B4.out)).mono ?_; rintro e w5 ⟨rfl, hc5, hb5⟩
       have I5 := Lib.hid (show VeI w S w4.heap.size kp n kc g q cap l b root leaf 0 w5 from ⟨B4.out.trans (hb5.mono (by rw [S4.out]; omega)), R4.out.below hb5, D4.out.below hb5, hc5.kb, hc5.tb, hc5.bb, hc5.lb⟩)
       have Z5 := Lib.hid (show w4.heap.size + 1 + 1 + 1 < w5.heap.size from hc5.lb.lt)
       clear hc5 hb5 CB B4 D4 R4 L4))
  generalize hA : w4.heap.size = A at *
  have HA := Lib.hid S4.out
  refine (wpIn_wide (n := 3)).1 ?_
  refine range_ends rfl (by omega) (gf := 45) (lb := #[.pointer (some ⟨A + 1 + 1 + 1, 0, none⟩), .pointer (some ⟨A + 1 + 1, 0, none⟩), .pointer (some ⟨A, 0, none⟩), .pointer (some ⟨A + 1, 0, none⟩)]) rfl trivial (enters_of Tryd.func45 (by kernel_rfl) rfl)
    (cbE (nodeN n g) (tagAt l) b leaf) (fun _ i _ x => x = i) 5 (CbR A kp n kc g q cap l b leaf) (fun _ => rfl)
    (VeI w S A kp n kc g q cap l b root leaf) (fun _ _ => False) ?rd ?st ?stx I5.out (CG.out _ _) ?round ?done ?stop
  case rd => exact fun i V h => ⟨h.kb, h.tb, h.bb, h.lb, HK.out _ h.lo, HQ.out _ h.lo⟩
  case st => exact fun i V V' h hb => h.below hb (by have := HA.out; have := Z5.out; omega) Z5.out
  case stx => exact fun _ _ _ h _ => h
  case stop => exact fun _ _ _ _ h _ => h.elim
  case done =>
    rintro D' V hD hI hd
    have e5 : gotL n g l b leaf 5 = climbF (nodeN n g) (tagAt l) b leaf 4 := by unfold gotL; rw [if_neg (by decide)]
    have hdd := hI.d
    rw [e5] at hdd
    have DD := Lib.hid hdd; have RR := Lib.hid hI.r; have LO := Lib.hid hI.lo; have HD := Lib.hid hd
    clear hI hd I5 hdd e5
    go_wp2
    refine wp_region_sched [(0, true), (1, true), (2, false), (3, true)] (fun W => True) (by kernel_rfl) (by kernel_rfl) (trivial) ?_
    refine walk_float rfl rfl (fun K' hK => ?_)
    refine gives_sum_row _ rfl (S + 1 + 1) 0 rfl ?_
    go_simp
    refine hK _ ?_
    clear hK K'
    refine walk_float rfl rfl (fun K' hK => ?_)
    refine gives_sum_row _ rfl S 0 rfl ?_
    go_simp
    refine hK _ ?_
    clear hK K'
    refine walk_done rfl rfl (fun K' hK => ?_)
    refine done_two _ _ _ _ rfl 37 rfl (.slice (some ⟨S + 1 + 1, 0, none⟩) 32 32) (.slice (some ⟨S, 0, none⟩) 32 32) rfl rfl (fun _ w => by simp [go_sem]) ((EQ.out V.drew (S + 1 + 1) S (DD.out.keep rfl) (RR.out.keep rfl)).mono ?_)
    rintro e w6 ⟨rfl, rfl⟩
    rw [ED.out]
    refine ⟨_, rfl, trivial, ?_⟩
    go_simp
    refine hK _ _ ?_
    clear hK K'
    refine walk_float rfl rfl (fun K' hK => ?_)
    refine gives_assign _ rfl ?_
    go_simp
    refine hK _ ?_
    clear hK K'
    refine walk_nil ?_
    go_wp2
    refine ⟨by simp, .inl ⟨_, _, rfl, run_takeDeferred (show V.drew.heap[D']? = _ from HD.out), ?_⟩⟩
    have hbt : Below D' V (V.drew.putObj D' (.deferred none)) := ((Below.refl _ _).drew).trans (below_put _ (Nat.le_refl _))
    exact ⟨_, results_tmp1 rfl _ _, rfl, LO.out.trans (hbt.mono (by have := HA.out; have := Z5.out; omega))⟩
  case round =>
    rintro l' k x V hl hk hus hI rfl
    have HI := Lib.hid hI
    have HX := Lib.hid hk
    clear hI hk I5
    unfold cbE
    go_simp
    gi_wp2_with (first
      | (refine sumIn_alloc rfl rfl rfl rfl V.heap.size rfl ?_; intro V1 hT hb hs
         have T1 := Lib.hid hT; have I1 := Lib.hid (HI.out.below hb HI.out.d.lt HI.out.lb.lt); have A1 := Lib.hid (show Aft w5.heap.size V V1 from Aft.of_below _ hb); have S1 := Lib.hid hs; clear hT hb hs)
      | (refine sumIn_store rfl rfl rfl _ _ rfl rfl V.heap.size 0 rfl _ rfl _ T1.out (by simp) ?_; intro V2 hT hb hs
         have T2 := Lib.hid hT
         have I2 := Lib.hid (show VeI w S A kp n kc g q cap l b root leaf x V2 from I1.out.below (hb.below (M := V.heap.size) (by omega) (by rw [S1.out]; omega)) HI.out.d.lt HI.out.lb.lt)
         have A2 := Lib.hid (show Aft w5.heap.size V V2 from ⟨by rw [hs, S1.out]; omega, fun k hk hv => (hb.same k (by rw [S1.out]; omega) (by omega)).trans (A1.out.same k hk hv)⟩)
         have S2 := Lib.hid (hs.trans S1.out)
         clear hT hb hs T1 I1 A1))
    refine ⟨A2.out, fun V3 h3s h3k h3b => ?_⟩
    have T3 := Lib.hid (show SumsB V3 V.heap.size [climbF (nodeN n g) (tagAt l) b leaf x] from T2.out.keep (h3k _ (by omega)))
    have I3 := Lib.hid (I2.out.below h3b (by have := HA.out; have := Z5.out; omega) Z5.out)
    clear h3s h3k h3b T2 I2 A2 S2 hus
    gi_wp2_with (first
      | (refine sumIn_load rfl rfl rfl _ rfl V.heap.size 0 rfl (climbF (nodeN n g) (tagAt l) b leaf x) T3.out.one ?_)
      | (refine sumIn_store rfl rfl rfl _ _ rfl rfl (S + 1 + 1) 0 rfl _ rfl _ I3.out.d (by simp) ?_; intro V4 hd hb hs
         have I4 := Lib.hid (show VeI w S A kp n kc g q cap l b root leaf (x + 1) V4 from ⟨I3.out.lo.trans (hb.below (by omega) (by have := I3.out.d.lt; omega)), I3.out.r.but hb (by omega), by unfold gotL; rw [if_neg (by omega)]; exact hd, cell_but I3.out.kb hb (by have := HA.out; omega), cell_but I3.out.tb hb (by have := HA.out; omega), cell_but I3.out.bb hb (by have := HA.out; omega), I3.out.lb.but hb (by have := HA.out; omega)⟩)
         have A4 := Lib.hid (show Aft w5.heap.size V3 V4 from ⟨hb.size, fun k hk hv => hb.same k hv (by have := HA.out; have := Z5.out; omega)⟩)
         clear hd hb hs))
    exact ⟨A4.out, I4.out⟩
end Go.Proofs.YtbdldnhpgpjnoaaDoor
