/- The contracts of package tree's refused, Update and Verify, and of slices.Clone at tags. Conditions: the package's variable holds the constants; the key has no more than 80,000 bytes; tags have 32 bytes. -/
import Derived.Test.YtbdldnhpgpjnoaaDoorTrBuildN
import Derived.Test.YtbdldnhpgpjnoaaDoorTrMake
import Derived.Test.YtbdldnhpgpjnoaaDoorTrClimb
namespace Go.Proofs.YtbdldnhpgpjnoaaDoor
open Go.ChangeShapes Go.WideShapes Go.ChangeAt Go.RowKit Go.Shelf
attribute [local go_sem] Oper.semAt_some
set_option linter.unusedVariables false
theorem refused_form (q : Option Addr) (m cap : Nat) (b : Int) (h : m ≠ 32) (w : World) : Calls Tryd.prog 35 #[.slice q m cap, .int .i64 b] w fun e w' => e = .returned (.iface 49 (.int .i64 2)) ∧ w = w' := by
  have d2 : ¬ ((m : Int) = 32) := by omega
  go_enter Tryd.func35, Tryd.ntmps35
  go_wp2
  go_ret
  exact ⟨rfl, rfl⟩
theorem refused_range (q : Option Addr) (cap : Nat) (b : Int) (h : ¬ (0 ≤ b ∧ b < 16)) (w : World) : Calls Tryd.prog 35 #[.slice q 32 cap, .int .i64 b] w fun e w' => e = .returned (.iface 49 (.int .i64 1)) ∧ w = w' := by
  have HB := Lib.hid (isBlock_no b h)
  clear h
  go_enter Tryd.func35, Tryd.ntmps35
  go_wp2_with (first
    | (go_at_call 31; refine (HB.out _).mono ?_; rintro e w1 ⟨rfl, rfl⟩))
  go_ret
  exact ⟨rfl, rfl⟩
theorem refused_ok (q : Option Addr) (cap b : Nat) (h : b < 16) (w : World) : Calls Tryd.prog 35 #[.slice q 32 cap, .int .i64 b] w fun e w' => e = .returned .nilIface ∧ w = w' := by
  have HB := Lib.hid (isBlock_yes b h)
  clear h
  go_enter Tryd.func35, Tryd.ntmps35
  go_wp2_with (first
    | (go_at_call 31; refine (HB.out _).mono ?_; rintro e w1 ⟨rfl, rfl⟩))
  go_ret
  exact ⟨rfl, rfl⟩
attribute [local irreducible] nought sumVal sumC tagAt climbF pn parF nodeN updT
set_option maxRecDepth 100000 in
set_option maxHeartbeats 1000000 in
theorem Clone_any (q : Option Addr) (cap : Nat) (l : List (List Int)) (h32 : l.length = 32) (w : World) (hq : RowsAt 32 sumC w q l) :
    Calls Tryd.prog 38 #[.slice q 32 cap] w fun e w' => ∃ B c, e = .returned (.slice (some ⟨B, 0, none⟩) 32 c) ∧ w.heap.size ≤ B ∧ SumsB w' B l ∧ Below w.heap.size w w' := by
  obtain ⟨B0, o0, rfl, _, _⟩ := sumsAt_get hq (k := 0) (by omega)
  have HQ := Lib.hid hq
  have HL := Lib.hid h32
  have hnil : ∀ W, Sem.run Tryd.prog (binOp .eql 34 (.slice (some ⟨B0, o0, none⟩) 32 cap) (.slice none 0 0)) W = .ok (.bool false) W := fun _ => rfl
  clear hq h32
  go_enter Tryd.func38, Tryd.ntmps38
  go_wp2_with (first
    | (refine wpList_list0 elemSum rfl rfl ?_
       have O1 := Lib.hid (OwnL.empty 27 32 sumC w w.heap.size (Nat.le_refl _))
       have B1 := Lib.hid (show Below w.heap.size w (w.alloc (.cells #[] 27)) from (Below.refl _ _).alloc (Nat.le_refl _) _)
       have S1 := Lib.hid (show (w.alloc (.cells #[] 27)).heap.size = w.heap.size + 1 from World.size_alloc _ _)
       generalize w.alloc (.cells #[] 27) = w1 at *)
    | (refine wpList_app elemSum rfl _ _ rfl w.heap.size w1.heap.size _ [] l (some ⟨B0, o0, none⟩) 32 cap rfl rfl HL.out.symm (S1.out ▸ O1.out) (HQ.out.below B1.out) (by rw [HL.out]; exact (by decide : 0 + 32 ≤ 4000000)) (by decide) (by rw [S1.out]; omega) ?_
       intro v2 w2 ho hb
       rw [List.nil_append] at ho
       obtain ⟨x, m, hl⟩ : ∃ x m, l = x :: m := by
         cases l with
         | nil => exact absurd HL.out (by simp)
         | cons x m => exact ⟨x, m, rfl⟩
       rw [hl] at ho
       obtain ⟨B, c, rfl, hc, hB, _, hs⟩ := ho.sums
       rw [← hl] at hs hc
       have e32 : (x :: m).length = 32 := by rw [← hl]; exact HL.out
       rw [e32]
       have D2 := Lib.hid hs; have C2 := Lib.hid hB; have B2 := Lib.hid (B1.out.trans hb)
       clear ho hb hc hB hs hl e32))
  go_ret
  exact ⟨B, c, rfl, C2.out, D2.out, B2.out⟩
theorem results_tmp2 {P : Program} {fn : Func} {u v : Tmp} (h : fn.results = #[.tmp u, .tmp v]) (tmps : Array Value) (w : World) : (results fn tmps).run P w = .ok (.tuple #[tmps.getD u undef, tmps.getD v undef]) w := by simp [results, h, go_sem]
/-- What stands between two rounds of Update's loop. -/
structure UpI (w : World) (A U D c : Nat) (kp : Option Addr) (n kc : Nat) (g : Nat → Nat) (q : Option Addr) (cap : Nat) (l : List (List Int)) (b : Nat) (leaf : List Int) (k : Nat) (V : World) : Prop where
  lo : Below w.heap.size w V
  d : SumsB V D (updT n g l b leaf k)
  u : V.cell? ⟨U, 0, none⟩ = some (.slice (some ⟨D, 0, none⟩) 32 c)
  kb : V.cell? ⟨A, 0, none⟩ = some (.slice kp n kc)
  tb : V.cell? ⟨A + 1, 0, none⟩ = some (.slice q 32 cap)
  bb : V.cell? ⟨A + 1 + 1, 0, none⟩ = some (.int .i64 b)
  lb : SumsB V (A + 1 + 1 + 1) [leaf]
theorem cell_below {M C : Nat} {V V' : World} {v : Value} (h : V.cell? ⟨C, 0, none⟩ = some v) (hb : Below M V V') (hC : C < M) : V'.cell? ⟨C, 0, none⟩ = some v := (hb.cell (p := ⟨C, 0, none⟩) hC).trans h
theorem cell_but {B C : Nat} {V V' : World} {v : Value} (h : V.cell? ⟨C, 0, none⟩ = some v) (hb : But B V V') (hC : C ≠ B) : V'.cell? ⟨C, 0, none⟩ = some v :=
  (World.cell?_of_block (w := V) (w' := V') (a := ⟨C, 0, none⟩) (hb.same C (cell_lt h) hC)).trans h
theorem UpI.below {w : World} {A U D c : Nat} {kp : Option Addr} {n kc : Nat} {g : Nat → Nat} {q : Option Addr} {cap : Nat} {l : List (List Int)} {b : Nat} {leaf : List Int} {k M : Nat} {V V' : World} (h : UpI w A U D c kp n kc g q cap l b leaf k V) (hb : Below M V V') (h1 : w.heap.size ≤ M) (h2 : D < M) (h3 : U < M) (h4 : A + 1 + 1 + 1 < M) : UpI w A U D c kp n kc g q cap l b leaf k V' :=
  ⟨h.lo.trans (hb.mono h1), h.d.belowM hb h2, cell_below h.u hb h3, cell_below h.kb hb (by omega), cell_below h.tb hb (by omega), cell_below h.bb hb (by omega), h.lb.belowM hb h4⟩
set_option maxRecDepth 100000 in
set_option maxHeartbeats 4000000 in
theorem Update_any (kp : Option Addr) (n kc : Nat) (g : Nat → Nat) (hn : n ≤ 80000) (q : Option Addr) (cap : Nat) (l : List (List Int)) (h32 : l.length = 32) (hs : ∀ t ∈ l, IsSum t) (b : Nat) (hb : b < 16) (leaf : List Int) (hleaf : IsSum leaf) (w : World) (hk : KeyAt w kp n kc g) (hq : RowsAt 32 sumC w q l) :
    Calls Tryd.prog 24 #[.slice kp n kc, .slice q 32 cap, .int .i64 b, sumVal leaf] w fun e w' => ∃ B c, e = .returned (.tuple #[.slice (some ⟨B, 0, none⟩) 32 c, .nilIface]) ∧ w.heap.size ≤ B ∧ SumsB w' B (updT n g l b leaf 5) ∧ Below w.heap.size w w' := by
  have HK := Lib.hid hk; have HQ := Lib.hid hq
  have CL := Lib.hid (fun V h => Clone_any q cap l h32 V h)
  have RO := Lib.hid (fun V => refused_ok q cap b hb V)
  have CB := Lib.hid (fun V h1 h2 => climb_any kp n kc g q cap l b leaf V h1 h2)
  have CG := Lib.hid (fun m A => climb_gives m A kp n kc g hn q cap l h32 hs b hb leaf hleaf)
  have U0 := Lib.hid (updT_zero (n := n) (g := g) (b := b) (leaf := leaf) h32)
  have US := Lib.hid (fun k (hk : k < 5) => updT_step (n := n) (g := g) (l := l) (leaf := leaf) hb hk)
  have UL := Lib.hid (fun k => updT_len n g l b leaf k)
  have PA := Lib.hid (fun k (hk : k < 5) => (pn_all b hb k hk).2.1)
  clear hk hq hs hn hleaf
  refine (callsIn_wide (n := 3)).1 ?_
  refine callsIn_of_wp_marks Tryd.func24 rfl trivial ?_ rfl
  simp only [Tryd.ntmps24, List.size_toArray, List.length_cons, List.length_nil, Nat.reduceAdd, Nat.reduceSub, Array.replicate_succ, Array.replicate_zero, List.push_toArray, List.append_toArray, List.nil_append, List.cons_append]
  refine wpIn_wide.2 ?_
  go_wp2_with (first
    | (refine wpList_sum_box rfl _ rfl leaf rfl w.heap.size rfl ?_; intro w1 hL hb1 hs1
       have L1 := Lib.hid hL; have B1 := Lib.hid hb1; have S1 := Lib.hid hs1; clear hL hb1 hs1)
    | (go_at_call 35; refine (RO.out _).mono ?_; rintro e w2 ⟨rfl, rfl⟩; clear RO)
    | (go_at_call 38; refine (CL.out w1 (HQ.out.below B1.out)).mono ?_; rintro e w3 ⟨D, c, rfl, hD, hd, hb3⟩
       have L3 := Lib.hid (L1.out.below hb3); have B3 := Lib.hid (B1.out.trans (hb3.mono B1.out.size)); have D3 := Lib.hid hd; have C3 := Lib.hid (show w.heap.size < D by have := S1.out; omega); have Z3 := Lib.hid (show w1.heap.size ≤ w3.heap.size from hb3.size)
       clear hd hb3 hD CL)
    | (refine wpList_sum_load rfl _ rfl w.heap.size 0 rfl leaf (SumsB.one (L3.out.below ((Below.refl _ _).alloc (Nat.le_refl _) _))) ?_
       have hb4 : Below w3.heap.size w3 (w3.alloc (.cells #[.slice (some ⟨D, 0, none⟩) 32 c] 34)) := (Below.refl _ _).alloc (Nat.le_refl _) _
       have B4 := Lib.hid (B3.out.trans (hb4.mono B3.out.size)); have D4 := Lib.hid (D3.out.below hb4)
       have u4 := Lib.hid (cell_of_one (heap_alloc_new w3 (.cells #[.slice (some ⟨D, 0, none⟩) 32 c] 34)))
       have S4 := Lib.hid (show (w3.alloc (.cells #[.slice (some ⟨D, 0, none⟩) 32 c] 34)).heap.size = w3.heap.size + 1 from World.size_alloc _ _)
       generalize w3.alloc (.cells #[.slice (some ⟨D, 0, none⟩) 32 c] 34) = w4 at *
       have T4 := Lib.hid (show D < w3.heap.size from D3.out.lt)
       clear hb4 L3 B3 D3)
    | (go_at_call 36; refine (CB.out w4 (HK.out.below B4.out) (HQ.out.below B4.out)).mono ?_; rintro e w5 ⟨rfl, hc5, hb5⟩
       have I5 := Lib.hid (show UpI w w4.heap.size w3.heap.size D c kp n kc g q cap l b leaf 0 w5 from ⟨B4.out.trans (hb5.mono B4.out.size), by rw [U0.out]; exact D4.out.below hb5, cell_below u4.out hb5 (by rw [S4.out]; omega), hc5.kb, hc5.tb, hc5.bb, hc5.lb⟩)
       have Z5 := Lib.hid (show w4.heap.size + 1 + 1 + 1 < w5.heap.size from hc5.lb.lt)
       clear hc5 hb5 CB B4 D4 u4))
  generalize hA : w4.heap.size = A at *
  generalize hU : w3.heap.size = U at *
  have HW := Lib.hid (show w.heap.size ≤ w5.heap.size from I5.out.lo.size)
  refine (wpIn_wide (n := 3)).1 ?_
  refine range_ends rfl (by omega) (gf := 45) (lb := #[.pointer (some ⟨A + 1 + 1 + 1, 0, none⟩), .pointer (some ⟨A + 1 + 1, 0, none⟩), .pointer (some ⟨A, 0, none⟩), .pointer (some ⟨A + 1, 0, none⟩)]) rfl trivial (enters_of Tryd.func45 (by kernel_rfl) rfl)
    (cbE (nodeN n g) (tagAt l) b leaf) (fun _ i _ x => x = i) 5 (CbR A kp n kc g q cap l b leaf) (fun _ => rfl)
    (UpI w A U D c kp n kc g q cap l b leaf) (fun _ _ => False) ?rd ?st ?stx I5.out (CG.out _ _) ?round ?done ?stop
  case rd => exact fun i V h => ⟨h.kb, h.tb, h.bb, h.lb, HK.out.below h.lo, HQ.out.below h.lo⟩
  case st => exact fun i V V' h hb => h.below hb HW.out (by have := T4.out; have := Z5.out; have := S4.out; omega) (by have := Z5.out; have := S4.out; omega) Z5.out
  case stx => exact fun _ _ _ h _ => h
  case stop => exact fun _ _ _ _ h _ => h.elim
  case done =>
    rintro D' V hD hI hd
    have HI := Lib.hid hI; have HD := Lib.hid hd
    have uc := hI.u
    clear hI hd I5
    go_wp2
    refine ⟨by simp, .inl ⟨_, _, rfl, run_takeDeferred HD.out, ?_⟩⟩
    have hbt : Below D' V (V.putObj D' (.deferred none)) := below_put _ (Nat.le_refl _)
    exact ⟨_, results_tmp2 rfl _ _, D, c, rfl, by have := C3.out; omega, HI.out.d.belowM hbt (by have := T4.out; have := Z5.out; have := S4.out; omega), HI.out.lo.trans (hbt.mono (by have := HW.out; omega))⟩
  case round =>
    rintro l' k x V hl hk hus hI rfl
    have HI := Lib.hid hI
    have HX := Lib.hid hk
    clear hI hk I5
    unfold cbE
    gi_wp2_with (first
      | (refine sumIn_alloc rfl rfl rfl rfl V.heap.size rfl ?_; intro V1 hT hb hs
         have T1 := Lib.hid hT; have I1 := Lib.hid (HI.out.below hb (HI.out.lo.size) HI.out.d.lt (cell_lt HI.out.u) HI.out.lb.lt); have A1 := Lib.hid (show Aft w5.heap.size V V1 from Aft.of_below _ hb); have S1 := Lib.hid hs; clear hT hb hs)
      | (refine sumIn_store rfl rfl rfl _ _ rfl rfl V.heap.size 0 rfl _ rfl _ T1.out (by simp) ?_; intro V2 hT hb hs
         have T2 := Lib.hid hT
         have I2 := Lib.hid (show UpI w A U D c kp n kc g q cap l b leaf x V2 from I1.out.below (hb.below (M := V.heap.size) (by omega) (by rw [S1.out]; omega)) HI.out.lo.size HI.out.d.lt (cell_lt HI.out.u) HI.out.lb.lt)
         have A2 := Lib.hid (show Aft w5.heap.size V V2 from ⟨by rw [hs, S1.out]; omega, fun k hk hv => (hb.same k (by rw [S1.out]; omega) (by omega)).trans (A1.out.same k hk hv)⟩)
         have S2 := Lib.hid (hs.trans S1.out)
         clear hT hb hs T1 I1 A1))
    refine ⟨A2.out, fun V3 h3s h3k h3b => ?_⟩
    have T3 := Lib.hid (show SumsB V3 V.heap.size [climbF (nodeN n g) (tagAt l) b leaf x] from T2.out.keep (h3k _ (by omega)))
    have I3 := Lib.hid (I2.out.below h3b HW.out (by have := T4.out; have := Z5.out; have := S4.out; omega) (by have := Z5.out; have := S4.out; omega) Z5.out)
    have S3 := Lib.hid (h3s.trans S2.out)
    clear h3s h3k h3b T2 I2 A2 S2 hus
    have uc := I3.out.u
    have HPX := Lib.hid (PA.out x HX.out)
    have USX := Lib.hid (US.out x HX.out)
    have ULX := Lib.hid (UL.out x)
    clear US UL PA
    generalize pn b x = px at *
    gi_wp2_with (first
      | (refine sumIn_load rfl rfl rfl _ rfl V.heap.size 0 rfl (climbF (nodeN n g) (tagAt l) b leaf x) T3.out.one ?_)
      | (refine sumIn_elem0 rfl rfl rfl _ _ rfl D 32 c px rfl rfl HPX.out ?_)
      | (refine sumIn_store rfl rfl rfl _ _ rfl rfl D px rfl _ rfl _ I3.out.d (by rw [ULX.out]; exact HPX.out) ?_; intro V4 hd hb hs
         rw [USX.out] at hd
         have D4 := Lib.hid hd
         have I4 := Lib.hid (show UpI w A U D c kp n kc g q cap l b leaf (x + 1) V4 from ⟨I3.out.lo.trans (hb.below (by have := C3.out; omega) (I3.out.lo.size)), hd, cell_but I3.out.u hb (by have := T4.out; omega), cell_but I3.out.kb hb (by have := T4.out; have := S4.out; omega), cell_but I3.out.tb hb (by have := T4.out; have := S4.out; omega), cell_but I3.out.bb hb (by have := T4.out; have := S4.out; omega), I3.out.lb.but hb (by have := T4.out; have := S4.out; omega)⟩)
         have A4 := Lib.hid (show Aft w5.heap.size V3 V4 from ⟨hb.size, fun k hk hv => hb.same k hv (by have := T4.out; have := Z5.out; have := S4.out; omega)⟩)
         clear hd hb hs))
    exact ⟨A4.out, I4.out⟩
end Go.Proofs.YtbdldnhpgpjnoaaDoor
