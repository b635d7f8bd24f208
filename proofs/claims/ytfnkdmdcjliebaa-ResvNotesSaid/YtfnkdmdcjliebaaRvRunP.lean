/- The contract of the program's run. Conditions: the reservations lie in memory of their own, in form; the operation in form. -/
import Derived.Test.YtfnkdmdcjliebaaRvReg
namespace Go.Proofs.Ytfnkdmdcjliebaa
open Go.ChangeShapes Go.WideShapes Go.ChangeAt Go.RowKit
set_option linter.unusedVariables false
set_option linter.unusedSimpArgs false
theorem register_any {w : World} {q : Option Addr} {n c : Nat} {r : ResvOf} (hq : RvAt w q n c r) (hg : GoodR r) (o : ROp) :
    Calls Try.prog 52 #[.agg (resvA q n c r), .agg (ropA o)] w fun e w' => ∃ q' m c' rr z, e = .returned (.tuple #[.agg (resvA q' m c' rr), errN z]) ∧ regP r o = (rr, z) ∧ (z = 0 → OwnR w w' q' m c' rr.regs) ∧ Below w.heap.size w w' := by
  by_cases h0 : o.new = 0
  · refine (register_end hq hg o h0).mono ?_
    rintro e w' ⟨q', m, c', rfl, h1, h2⟩
    exact ⟨q', m, c', _, 0, rfl, regP_end h0, fun _ => by rw [show ({ endP r o.who (r.regs.filter fun p => !(selfF o p)) with s := o.s, g := incR r.g } : ResvOf).regs = _ from endP_regs _ _ _]; exact h1, h2⟩
  · by_cases h4 : (r.regs.filter fun p => !(selfF o p)).length = 4
    · refine (register_full hq hg o h0 h4).mono ?_
      rintro e w' ⟨rfl, h2⟩
      exact ⟨none, 0, 0, zeroR, 7, rfl, regP_full h0 h4, fun h => absurd h (by decide), h2⟩
    · refine (register_new hq hg o h0 h4).mono ?_
      rintro e w' ⟨q', m, c', rfl, h1, h2⟩
      exact ⟨q', m, c', _, 0, rfl, regP_new h0 h4, fun _ => h1, h2⟩
theorem release_anyE {w : World} {q : Option Addr} {n c : Nat} {r : ResvOf} (hq : RvAt w q n c r) (hg : GoodR r) (o : ROp) :
    Calls Try.prog 54 #[.agg (resvA q n c r), .agg (ropA o)] w fun e w' => ∃ q' m c' rr z, e = .returned (.tuple #[.agg (resvA q' m c' rr), errN z]) ∧ releaseP r o = (rr, z) ∧ (z = 0 → q' = q ∧ m = n ∧ c' = c ∧ rr.regs = r.regs) ∧ Below w.heap.size w w' := by
  refine (release_any hq hg o).mono ?_
  rintro e w' ⟨rfl, h2⟩
  have hv : releaseP r o = if !(holdsR r o.who) then (r, 0) else if !(o.ty == r.t) then (zeroR, 2) else (freeR r, 0) := rfl
  by_cases h1 : (!(holdsR r o.who)) = true
  · rw [if_pos h1] at hv
    exact ⟨q, n, c, r, 0, by rw [hv]; rfl, hv, fun _ => ⟨rfl, rfl, rfl, rfl⟩, h2⟩
  · rw [if_neg h1] at hv
    by_cases h3 : (!(o.ty == r.t)) = true
    · rw [if_pos h3] at hv
      exact ⟨none, 0, 0, zeroR, 2, by rw [hv]; rfl, hv, fun h => absurd h (by decide), h2⟩
    · rw [if_neg h3] at hv
      exact ⟨q, n, c, freeR r, 0, by rw [hv]; rfl, hv, fun _ => ⟨rfl, rfl, rfl, rfl⟩, h2⟩
theorem reserve_regs (r : ResvOf) (o : ROp) : (reserveP r o).regs = r.regs := by unfold reserveP; split <;> rfl
theorem run_reg {r : ResvOf} {o : ROp} (h : o.op = 1 ∨ o.op = 6) : runP r o = regP r o := by unfold runP; rcases h with h | h <;> rw [h] <;> rfl
theorem run_resv {r : ResvOf} {o : ROp} (h : o.op = 2) : runP r o = (reserveP r o, 0) := by unfold runP; rw [h]; rfl
theorem run_rel {r : ResvOf} {o : ROp} (h : o.op = 3) : runP r o = releaseP r o := by unfold runP; rw [h]; rfl
theorem run_pre {r : ResvOf} {o : ROp} (h : o.op = 5) : runP r o = (preemptP r o, 0) := by unfold runP; rw [h]; rfl
theorem run_end {r : ResvOf} {o : ROp} (h : o.op = 4) : runP r o = ({ freeR r with regs := [], g := incR r.g }, 0) := by unfold runP; rw [h]; rfl
theorem errN_nil : (.nilIface : Value) = errN 0 := rfl
/-- What run answers. -/
def RunPost (w : World) (base : Nat) (r : ResvOf) (o : ROp) (e : Ending) (w' : World) : Prop := ∃ q' m c' rr z, e = .returned (.tuple #[.agg (resvA q' m c' rr), errN z]) ∧ runP r o = (rr, z) ∧ (z = 0 → OwnL rgT 2 regC w' base w'.heap.size (.slice q' m c') rr.regs) ∧ Below w.heap.size w w'
theorem keepR {w w' : World} {base R : Nat} {q : Option Addr} {m c : Nat} {ks : List (Int × Int)} (h : OwnL rgT 2 regC w base w.heap.size (.slice q m c) ks) (k : Keeps (fun j => j = R) w w') (hs : w'.heap.size = w.heap.size) (hn : ∀ B, AtB q B → B ≠ R) : OwnL rgT 2 regC w' base w'.heap.size (.slice q m c) ks := by
  rcases h with h1 | ⟨B, cp, cur, h1, h2, h3, h4, h5⟩
  · exact .inl h1
  · have hB : B ≠ R := hn B ⟨0, by cases h1; rfl⟩
    exact .inr ⟨B, cp, cur, h1, h2, by omega, (k.block B h3 hB).trans h4, h5⟩
theorem own_at {w : World} {base top : Nat} {q : Option Addr} {m c : Nat} {ks : List (Int × Int)} (h : OwnL rgT 2 regC w base top (.slice q m c) ks) : ∀ B, AtB q B → base ≤ B ∧ B < top := by
  rintro B ⟨o, e⟩
  rcases h with ⟨h1, _⟩ | ⟨B', cp, cur, h1, h2, h3, h4, h5⟩
  · cases h1; cases e
  · cases h1; cases e; exact ⟨h2, h3⟩
attribute [local irreducible] regC atR keyR inR risesR formR allR holdersR holdsR allowedR goneF hasR selfF withL PB endP errN runP regP releaseP reserveP preemptP
attribute [local go_sem] Oper.semAt_some
set_option maxRecDepth 100000 in
set_option maxHeartbeats 8000000 in
theorem run_1 {w : World} {base : Nat} {q : Option Addr} {n c : Nat} {r : ResvOf} (ho : OwnL rgT 2 regC w base w.heap.size (.slice q n c) r.regs) (hb0 : base ≤ w.heap.size) (hq : RvAt w q n c r) (hg : GoodR r) {o : ROp} (hop : o.op = 1) :
    Calls Try.prog 32 #[.agg (resvA q n c r), .agg (ropA o)] w (RunPost w base r o) := by
  have HC := Lib.hid (fun (W : World) (hb : Below w.heap.size w W) => register_any (RvAt.below hq hb) hg o)
  have HO := Lib.hid ho
  have HB0 := Lib.hid hb0
  have HP := Lib.hid hop
  clear ho hq hg hb0
  unfold RunPost
  go_enter Try.func32, Try.ntmps32
  go_wp2_with (first
    | (with_reducible show wpList _ _ _ (⟨_, Op.box rvT _, _, _, _, none⟩ :: _) _ _
       refine wpList_boxA_of rfl _ rfl (resvA q n c r) rfl ?_
       intro w1 x1 l1 s1
       have X1 := Lib.hid x1
       have L1 := Lib.hid l1
       have S1 := Lib.hid s1
       clear x1 l1 s1)
    | (with_reducible show wpList _ _ _ (⟨_, Op.box roT _, _, _, _, none⟩ :: _) _ _
       refine wpList_boxA_of rfl _ rfl (ropA o) rfl ?_
       intro w2 x2 l2 s2
       rw [S1.out] at x2 s2
       rw [S1.out]
       have X2 := Lib.hid x2
       have L2 := Lib.hid l2
       have S2 := Lib.hid s2
       clear x2 l2 s2)
    | (with_reducible show wpList _ _ _ (⟨_, Op.alloc rvT, _, _, _, _⟩ :: _) _ _
       refine wpList_boxA_new rowRv rfl rfl (w.heap.size + 1 + 1) S2.out ?_
       intro w3 x3 l3 s3
       have T3 := Lib.hid (new3 X1.out L1.out S1.out X2.out L2.out S2.out x3 l3)
       obtain ⟨c0, c1, c2, c3, c4⟩ := T3.out.c
       obtain ⟨d0, d1, d2, d3, d4, d5⟩ := T3.out.d
       rw [hop] at d0
       clear x3 l3 s3 X1 L1 S1 X2 L2 S2)
    | (with_reducible show wpList _ _ _ (⟨_, Op.load rvT _, _, _, _, none⟩ :: _) _ _
       refine wpList_boxA_load rowRv rfl _ rfl w.heap.size (resvA q n c r) rfl rfl T3.out.s ?_)
    | (with_reducible show wpList _ _ _ (⟨_, Op.load roT _, _, _, _, none⟩ :: _) _ _
       refine wpList_boxA_load rowOp rfl _ rfl (w.heap.size + 1) (ropA o) rfl rfl T3.out.p ?_)
    | (go_at_call 52
       refine (HC.out _ T3.out.low).mono ?_; rintro e w4 ⟨q1, m1, c1, rr, z, rfl, hz, ho4, hb4⟩
       have T4 := Lib.hid (T3.out.mono hb4)
       have L34 := Lib.hid hb4
       have Z3 := Lib.hid T3.out.r.lt
       have HZ := Lib.hid hz
       have O4 := Lib.hid ho4
       clear hz ho4
       clear hb4 T3 HC)
    | (with_reducible show wpList _ _ _ (⟨_, Op.store rvT (.tmp 4) _, _, _, _, none⟩ :: _) _ _
       refine wpList_boxA_put rowRv rfl _ _ rfl rfl (w.heap.size + 1 + 1) (resvA q1 m1 c1 rr) _ rfl (rvA_one _ _ _ _) rfl rfl rfl T4.out.r ?_
       intro w9 x9 k9 s9
       have T9 := Lib.hid (T4.out.setR x9 k9)
       have K9 := Lib.hid k9
       have S9 := Lib.hid s9
       clear x9 k9 s9))
  exact bodyPost_ret (results_cell_row_tmp rfl _ _ (w.heap.size + 1 + 1) rvT (resvA q1 m1 c1 rr) (0, 0) _ rfl T9.out.r Try.underlying24 rfl (rvA_size _ _ _ _)) rfl ⟨q1, m1, c1, rr, z, rfl, (run_reg (.inl HP.out)).trans HZ.out, fun h => keepR (OwnL.lower (O4.out h) (by have := T4.out.low.size; have := HB0.out; have := Z3.out; omega)) K9.out S9.out (fun B hB => by have := own_at (O4.out h) B hB; have := Z3.out; omega), T9.out.low⟩
set_option maxRecDepth 100000 in
set_option maxHeartbeats 8000000 in
theorem run_6 {w : World} {base : Nat} {q : Option Addr} {n c : Nat} {r : ResvOf} (ho : OwnL rgT 2 regC w base w.heap.size (.slice q n c) r.regs) (hb0 : base ≤ w.heap.size) (hq : RvAt w q n c r) (hg : GoodR r) {o : ROp} (hop : o.op = 6) :
    Calls Try.prog 32 #[.agg (resvA q n c r), .agg (ropA o)] w (RunPost w base r o) := by
  have HC := Lib.hid (fun (W : World) (hb : Below w.heap.size w W) => register_any (RvAt.below hq hb) hg o)
  have HO := Lib.hid ho
  have HB0 := Lib.hid hb0
  have HP := Lib.hid hop
  clear ho hq hg hb0
  unfold RunPost
  go_enter Try.func32, Try.ntmps32
  go_wp2_with (first
    | (with_reducible show wpList _ _ _ (⟨_, Op.box rvT _, _, _, _, none⟩ :: _) _ _
       refine wpList_boxA_of rfl _ rfl (resvA q n c r) rfl ?_
       intro w1 x1 l1 s1
       have X1 := Lib.hid x1
       have L1 := Lib.hid l1
       have S1 := Lib.hid s1
       clear x1 l1 s1)
    | (with_reducible show wpList _ _ _ (⟨_, Op.box roT _, _, _, _, none⟩ :: _) _ _
       refine wpList_boxA_of rfl _ rfl (ropA o) rfl ?_
       intro w2 x2 l2 s2
       rw [S1.out] at x2 s2
       rw [S1.out]
       have X2 := Lib.hid x2
       have L2 := Lib.hid l2
       have S2 := Lib.hid s2
       clear x2 l2 s2)
    | (with_reducible show wpList _ _ _ (⟨_, Op.alloc rvT, _, _, _, _⟩ :: _) _ _
       refine wpList_boxA_new rowRv rfl rfl (w.heap.size + 1 + 1) S2.out ?_
       intro w3 x3 l3 s3
       have T3 := Lib.hid (new3 X1.out L1.out S1.out X2.out L2.out S2.out x3 l3)
       obtain ⟨c0, c1, c2, c3, c4⟩ := T3.out.c
       obtain ⟨d0, d1, d2, d3, d4, d5⟩ := T3.out.d
       rw [hop] at d0
       clear x3 l3 s3 X1 L1 S1 X2 L2 S2)
    | (with_reducible show wpList _ _ _ (⟨_, Op.load rvT _, _, _, _, none⟩ :: _) _ _
       refine wpList_boxA_load rowRv rfl _ rfl w.heap.size (resvA q n c r) rfl rfl T3.out.s ?_)
    | (with_reducible show wpList _ _ _ (⟨_, Op.load roT _, _, _, _, none⟩ :: _) _ _
       refine wpList_boxA_load rowOp rfl _ rfl (w.heap.size + 1) (ropA o) rfl rfl T3.out.p ?_)
    | (go_at_call 52
       refine (HC.out _ T3.out.low).mono ?_; rintro e w4 ⟨q1, m1, c1, rr, z, rfl, hz, ho4, hb4⟩
       have T4 := Lib.hid (T3.out.mono hb4)
       have L34 := Lib.hid hb4
       have Z3 := Lib.hid T3.out.r.lt
       have HZ := Lib.hid hz
       have O4 := Lib.hid ho4
       clear hz ho4
       clear hb4 T3 HC)
    | (with_reducible show wpList _ _ _ (⟨_, Op.store rvT (.tmp 4) _, _, _, _, none⟩ :: _) _ _
       refine wpList_boxA_put rowRv rfl _ _ rfl rfl (w.heap.size + 1 + 1) (resvA q1 m1 c1 rr) _ rfl (rvA_one _ _ _ _) rfl rfl rfl T4.out.r ?_
       intro w9 x9 k9 s9
       have T9 := Lib.hid (T4.out.setR x9 k9)
       have K9 := Lib.hid k9
       have S9 := Lib.hid s9
       clear x9 k9 s9))
  exact bodyPost_ret (results_cell_row_tmp rfl _ _ (w.heap.size + 1 + 1) rvT (resvA q1 m1 c1 rr) (0, 0) _ rfl T9.out.r Try.underlying24 rfl (rvA_size _ _ _ _)) rfl ⟨q1, m1, c1, rr, z, rfl, (run_reg (.inr HP.out)).trans HZ.out, fun h => keepR (OwnL.lower (O4.out h) (by have := T4.out.low.size; have := HB0.out; have := Z3.out; omega)) K9.out S9.out (fun B hB => by have := own_at (O4.out h) B hB; have := Z3.out; omega), T9.out.low⟩
set_option maxRecDepth 100000 in
set_option maxHeartbeats 8000000 in
theorem run_2 {w : World} {base : Nat} {q : Option Addr} {n c : Nat} {r : ResvOf} (ho : OwnL rgT 2 regC w base w.heap.size (.slice q n c) r.regs) (hb0 : base ≤ w.heap.size) (hq : RvAt w q n c r) (hg : GoodR r) {o : ROp} (hop : o.op = 2) :
    Calls Try.prog 32 #[.agg (resvA q n c r), .agg (ropA o)] w (RunPost w base r o) := by
  have HC := Lib.hid (fun (W : World) (hb : Below w.heap.size w W) => reserve_any (w := W) q n c r o)
  have HO := Lib.hid ho
  have HB0 := Lib.hid hb0
  have HP := Lib.hid hop
  clear ho hq hg hb0
  unfold RunPost
  go_enter Try.func32, Try.ntmps32
  go_wp2_with (first
    | (with_reducible show wpList _ _ _ (⟨_, Op.box rvT _, _, _, _, none⟩ :: _) _ _
       refine wpList_boxA_of rfl _ rfl (resvA q n c r) rfl ?_
       intro w1 x1 l1 s1
       have X1 := Lib.hid x1
       have L1 := Lib.hid l1
       have S1 := Lib.hid s1
       clear x1 l1 s1)
    | (with_reducible show wpList _ _ _ (⟨_, Op.box roT _, _, _, _, none⟩ :: _) _ _
       refine wpList_boxA_of rfl _ rfl (ropA o) rfl ?_
       intro w2 x2 l2 s2
       rw [S1.out] at x2 s2
       rw [S1.out]
       have X2 := Lib.hid x2
       have L2 := Lib.hid l2
       have S2 := Lib.hid s2
       clear x2 l2 s2)
    | (with_reducible show wpList _ _ _ (⟨_, Op.alloc rvT, _, _, _, _⟩ :: _) _ _
       refine wpList_boxA_new rowRv rfl rfl (w.heap.size + 1 + 1) S2.out ?_
       intro w3 x3 l3 s3
       have T3 := Lib.hid (new3 X1.out L1.out S1.out X2.out L2.out S2.out x3 l3)
       obtain ⟨c0, c1, c2, c3, c4⟩ := T3.out.c
       obtain ⟨d0, d1, d2, d3, d4, d5⟩ := T3.out.d
       rw [hop] at d0
       clear x3 l3 s3 X1 L1 S1 X2 L2 S2)
    | (with_reducible show wpList _ _ _ (⟨_, Op.load rvT _, _, _, _, none⟩ :: _) _ _
       refine wpList_boxA_load rowRv rfl _ rfl w.heap.size (resvA q n c r) rfl rfl T3.out.s ?_)
    | (with_reducible show wpList _ _ _ (⟨_, Op.load roT _, _, _, _, none⟩ :: _) _ _
       refine wpList_boxA_load rowOp rfl _ rfl (w.heap.size + 1) (ropA o) rfl rfl T3.out.p ?_)
    | (go_at_call 53
       refine (HC.out _ T3.out.low).mono ?_; rintro e w4 ⟨rfl, hb4⟩
       have T4 := Lib.hid (T3.out.mono hb4)
       have L34 := Lib.hid hb4
       have Z3 := Lib.hid T3.out.r.lt
       skip
       clear hb4 T3 HC)
    | (with_reducible show wpList _ _ _ (⟨_, Op.store rvT (.tmp 4) _, _, _, _, none⟩ :: _) _ _
       refine wpList_boxA_put rowRv rfl _ _ rfl rfl (w.heap.size + 1 + 1) (resvA q n c (reserveP r o)) _ rfl (rvA_one _ _ _ _) rfl rfl rfl T4.out.r ?_
       intro w9 x9 k9 s9
       have T9 := Lib.hid (T4.out.setR x9 k9)
       have K9 := Lib.hid k9
       have S9 := Lib.hid s9
       clear x9 k9 s9))
  exact bodyPost_ret (results_cell_row_tmp rfl _ _ (w.heap.size + 1 + 1) rvT (resvA q n c (reserveP r o)) (0, 0) _ rfl T9.out.r Try.underlying24 rfl (rvA_size _ _ _ _)) rfl ⟨q, n, c, reserveP r o, 0, by rw [← errN_nil]; rfl, run_resv HP.out, fun h => by rw [reserve_regs]; exact keepR ((OwnL.same HO.out (w' := w4) (fun B hB hB2 => T4.out.low.block B hB2)).raise T4.out.low.size) K9.out S9.out (fun B hB => by have := own_at HO.out B hB; omega), T9.out.low⟩
set_option maxRecDepth 100000 in
set_option maxHeartbeats 8000000 in
theorem run_3 {w : World} {base : Nat} {q : Option Addr} {n c : Nat} {r : ResvOf} (ho : OwnL rgT 2 regC w base w.heap.size (.slice q n c) r.regs) (hb0 : base ≤ w.heap.size) (hq : RvAt w q n c r) (hg : GoodR r) {o : ROp} (hop : o.op = 3) :
    Calls Try.prog 32 #[.agg (resvA q n c r), .agg (ropA o)] w (RunPost w base r o) := by
  have HC := Lib.hid (fun (W : World) (hb : Below w.heap.size w W) => release_anyE (RvAt.below hq hb) hg o)
  have HO := Lib.hid ho
  have HB0 := Lib.hid hb0
  have HP := Lib.hid hop
  clear ho hq hg hb0
  unfold RunPost
  go_enter Try.func32, Try.ntmps32
  go_wp2_with (first
    | (with_reducible show wpList _ _ _ (⟨_, Op.box rvT _, _, _, _, none⟩ :: _) _ _
       refine wpList_boxA_of rfl _ rfl (resvA q n c r) rfl ?_
       intro w1 x1 l1 s1
       have X1 := Lib.hid x1
       have L1 := Lib.hid l1
       have S1 := Lib.hid s1
       clear x1 l1 s1)
    | (with_reducible show wpList _ _ _ (⟨_, Op.box roT _, _, _, _, none⟩ :: _) _ _
       refine wpList_boxA_of rfl _ rfl (ropA o) rfl ?_
       intro w2 x2 l2 s2
       rw [S1.out] at x2 s2
       rw [S1.out]
       have X2 := Lib.hid x2
       have L2 := Lib.hid l2
       have S2 := Lib.hid s2
       clear x2 l2 s2)
    | (with_reducible show wpList _ _ _ (⟨_, Op.alloc rvT, _, _, _, _⟩ :: _) _ _
       refine wpList_boxA_new rowRv rfl rfl (w.heap.size + 1 + 1) S2.out ?_
       intro w3 x3 l3 s3
       have T3 := Lib.hid (new3 X1.out L1.out S1.out X2.out L2.out S2.out x3 l3)
       obtain ⟨c0, c1, c2, c3, c4⟩ := T3.out.c
       obtain ⟨d0, d1, d2, d3, d4, d5⟩ := T3.out.d
       rw [hop] at d0
       clear x3 l3 s3 X1 L1 S1 X2 L2 S2)
    | (with_reducible show wpList _ _ _ (⟨_, Op.load rvT _, _, _, _, none⟩ :: _) _ _
       refine wpList_boxA_load rowRv rfl _ rfl w.heap.size (resvA q n c r) rfl rfl T3.out.s ?_)
    | (with_reducible show wpList _ _ _ (⟨_, Op.load roT _, _, _, _, none⟩ :: _) _ _
       refine wpList_boxA_load rowOp rfl _ rfl (w.heap.size + 1) (ropA o) rfl rfl T3.out.p ?_)
    | (go_at_call 54
       refine (HC.out _ T3.out.low).mono ?_; rintro e w4 ⟨q1, m1, c1, rr, z, rfl, hz, ho4, hb4⟩
       have T4 := Lib.hid (T3.out.mono hb4)
       have L34 := Lib.hid hb4
       have Z3 := Lib.hid T3.out.r.lt
       have HZ := Lib.hid hz
       have O4 := Lib.hid ho4
       clear hz ho4
       clear hb4 T3 HC)
    | (with_reducible show wpList _ _ _ (⟨_, Op.store rvT (.tmp 4) _, _, _, _, none⟩ :: _) _ _
       refine wpList_boxA_put rowRv rfl _ _ rfl rfl (w.heap.size + 1 + 1) (resvA q1 m1 c1 rr) _ rfl (rvA_one _ _ _ _) rfl rfl rfl T4.out.r ?_
       intro w9 x9 k9 s9
       have T9 := Lib.hid (T4.out.setR x9 k9)
       have K9 := Lib.hid k9
       have S9 := Lib.hid s9
       clear x9 k9 s9))
  exact bodyPost_ret (results_cell_row_tmp rfl _ _ (w.heap.size + 1 + 1) rvT (resvA q1 m1 c1 rr) (0, 0) _ rfl T9.out.r Try.underlying24 rfl (rvA_size _ _ _ _)) rfl ⟨q1, m1, c1, rr, z, rfl, (run_rel HP.out).trans HZ.out, fun h => by obtain ⟨rfl, rfl, rfl, e⟩ := O4.out h; rw [e]; exact keepR ((OwnL.same HO.out (w' := w4) (fun B hB hB2 => T4.out.low.block B hB2)).raise T4.out.low.size) K9.out S9.out (fun B hB => by have := own_at HO.out B hB; omega), T9.out.low⟩
set_option maxRecDepth 100000 in
set_option maxHeartbeats 8000000 in
theorem run_5 {w : World} {base : Nat} {q : Option Addr} {n c : Nat} {r : ResvOf} (ho : OwnL rgT 2 regC w base w.heap.size (.slice q n c) r.regs) (hb0 : base ≤ w.heap.size) (hq : RvAt w q n c r) (hg : GoodR r) {o : ROp} (hop : o.op = 5) :
    Calls Try.prog 32 #[.agg (resvA q n c r), .agg (ropA o)] w (RunPost w base r o) := by
  have HC := Lib.hid (fun (W : World) (hb : Below w.heap.size w W) => preempt_any (RvAt.below hq hb) o)
  have HO := Lib.hid ho
  have HB0 := Lib.hid hb0
  have HP := Lib.hid hop
  clear ho hq hg hb0
  unfold RunPost
  go_enter Try.func32, Try.ntmps32
  go_wp2_with (first
    | (with_reducible show wpList _ _ _ (⟨_, Op.box rvT _, _, _, _, none⟩ :: _) _ _
       refine wpList_boxA_of rfl _ rfl (resvA q n c r) rfl ?_
       intro w1 x1 l1 s1
       have X1 := Lib.hid x1
       have L1 := Lib.hid l1
       have S1 := Lib.hid s1
       clear x1 l1 s1)
    | (with_reducible show wpList _ _ _ (⟨_, Op.box roT _, _, _, _, none⟩ :: _) _ _
       refine wpList_boxA_of rfl _ rfl (ropA o) rfl ?_
       intro w2 x2 l2 s2
       rw [S1.out] at x2 s2
       rw [S1.out]
       have X2 := Lib.hid x2
       have L2 := Lib.hid l2
       have S2 := Lib.hid s2
       clear x2 l2 s2)
    | (with_reducible show wpList _ _ _ (⟨_, Op.alloc rvT, _, _, _, _⟩ :: _) _ _
       refine wpList_boxA_new rowRv rfl rfl (w.heap.size + 1 + 1) S2.out ?_
       intro w3 x3 l3 s3
       have T3 := Lib.hid (new3 X1.out L1.out S1.out X2.out L2.out S2.out x3 l3)
       obtain ⟨c0, c1, c2, c3, c4⟩ := T3.out.c
       obtain ⟨d0, d1, d2, d3, d4, d5⟩ := T3.out.d
       rw [hop] at d0
       clear x3 l3 s3 X1 L1 S1 X2 L2 S2)
    | (with_reducible show wpList _ _ _ (⟨_, Op.load rvT _, _, _, _, none⟩ :: _) _ _
       refine wpList_boxA_load rowRv rfl _ rfl w.heap.size (resvA q n c r) rfl rfl T3.out.s ?_)
    | (with_reducible show wpList _ _ _ (⟨_, Op.load roT _, _, _, _, none⟩ :: _) _ _
       refine wpList_boxA_load rowOp rfl _ rfl (w.heap.size + 1) (ropA o) rfl rfl T3.out.p ?_)
    | (go_at_call 55
       refine (HC.out _ T3.out.low).mono ?_; rintro e w4 ⟨q1, m1, c1, rfl, ho4, hb4⟩
       have T4 := Lib.hid (T3.out.mono hb4)
       have L34 := Lib.hid hb4
       have Z3 := Lib.hid T3.out.r.lt
       have O4 := Lib.hid ho4
       clear ho4
       clear hb4 T3 HC)
    | (with_reducible show wpList _ _ _ (⟨_, Op.store rvT (.tmp 4) _, _, _, _, none⟩ :: _) _ _
       refine wpList_boxA_put rowRv rfl _ _ rfl rfl (w.heap.size + 1 + 1) (resvA q1 m1 c1 (preemptP r o)) _ rfl (rvA_one _ _ _ _) rfl rfl rfl T4.out.r ?_
       intro w9 x9 k9 s9
       have T9 := Lib.hid (T4.out.setR x9 k9)
       have K9 := Lib.hid k9
       have S9 := Lib.hid s9
       clear x9 k9 s9))
  exact bodyPost_ret (results_cell_row_tmp rfl _ _ (w.heap.size + 1 + 1) rvT (resvA q1 m1 c1 (preemptP r o)) (0, 0) _ rfl T9.out.r Try.underlying24 rfl (rvA_size _ _ _ _)) rfl ⟨q1, m1, c1, preemptP r o, 0, by rw [← errN_nil]; rfl, run_pre HP.out, fun h => keepR (OwnL.lower (O4.out) (by have := T4.out.low.size; have := HB0.out; have := Z3.out; omega)) K9.out S9.out (fun B hB => by have := own_at (O4.out) B hB; have := Z3.out; omega), T9.out.low⟩
set_option maxRecDepth 100000 in
set_option maxHeartbeats 8000000 in
theorem run_4 {w : World} {base : Nat} {q : Option Addr} {n c : Nat} {r : ResvOf} (ho : OwnL rgT 2 regC w base w.heap.size (.slice q n c) r.regs) (hb0 : base ≤ w.heap.size) (hq : RvAt w q n c r) (hg : GoodR r) {o : ROp} (hop : o.op = 4) :
    Calls Try.prog 32 #[.agg (resvA q n c r), .agg (ropA o)] w (RunPost w base r o) := by
  have HC := Lib.hid (fun (W : World) (hb : Below w.heap.size w W) => endAll_any W q n c r)
  have HO := Lib.hid ho
  have HB0 := Lib.hid hb0
  have HP := Lib.hid hop
  clear ho hq hg hb0
  unfold RunPost
  go_enter Try.func32, Try.ntmps32
  go_wp2_with (first
    | (with_reducible show wpList _ _ _ (⟨_, Op.box rvT _, _, _, _, none⟩ :: _) _ _
       refine wpList_boxA_of rfl _ rfl (resvA q n c r) rfl ?_
       intro w1 x1 l1 s1
       have X1 := Lib.hid x1
       have L1 := Lib.hid l1
       have S1 := Lib.hid s1
       clear x1 l1 s1)
    | (with_reducible show wpList _ _ _ (⟨_, Op.box roT _, _, _, _, none⟩ :: _) _ _
       refine wpList_boxA_of rfl _ rfl (ropA o) rfl ?_
       intro w2 x2 l2 s2
       rw [S1.out] at x2 s2
       rw [S1.out]
       have X2 := Lib.hid x2
       have L2 := Lib.hid l2
       have S2 := Lib.hid s2
       clear x2 l2 s2)
    | (with_reducible show wpList _ _ _ (⟨_, Op.alloc rvT, _, _, _, _⟩ :: _) _ _
       refine wpList_boxA_new rowRv rfl rfl (w.heap.size + 1 + 1) S2.out ?_
       intro w3 x3 l3 s3
       have T3 := Lib.hid (new3 X1.out L1.out S1.out X2.out L2.out S2.out x3 l3)
       obtain ⟨c0, c1, c2, c3, c4⟩ := T3.out.c
       obtain ⟨d0, d1, d2, d3, d4, d5⟩ := T3.out.d
       rw [hop] at d0
       clear x3 l3 s3 X1 L1 S1 X2 L2 S2)
    | (with_reducible show wpList _ _ _ (⟨_, Op.load rvT _, _, _, _, none⟩ :: _) _ _
       refine wpList_boxA_load rowRv rfl _ rfl w.heap.size (resvA q n c r) rfl rfl T3.out.s ?_)
    | (with_reducible show wpList _ _ _ (⟨_, Op.load roT _, _, _, _, none⟩ :: _) _ _
       refine wpList_boxA_load rowOp rfl _ rfl (w.heap.size + 1) (ropA o) rfl rfl T3.out.p ?_)
    | (go_at_call 56
       refine (HC.out _ T3.out.low).mono ?_; rintro e w4 ⟨rfl, hb4⟩
       have T4 := Lib.hid (T3.out.mono hb4)
       have L34 := Lib.hid hb4
       have Z3 := Lib.hid T3.out.r.lt
       skip
       clear hb4 T3 HC)
    | (with_reducible show wpList _ _ _ (⟨_, Op.store rvT (.tmp 4) _, _, _, _, none⟩ :: _) _ _
       refine wpList_boxA_put rowRv rfl _ _ rfl rfl (w.heap.size + 1 + 1) (resvA none 0 0 { freeR r with regs := [], g := incR r.g }) _ rfl (rvA_one _ _ _ _) rfl rfl rfl T4.out.r ?_
       intro w9 x9 k9 s9
       have T9 := Lib.hid (T4.out.setR x9 k9)
       have K9 := Lib.hid k9
       have S9 := Lib.hid s9
       clear x9 k9 s9))
  exact bodyPost_ret (results_cell_row_tmp rfl _ _ (w.heap.size + 1 + 1) rvT (resvA none 0 0 { freeR r with regs := [], g := incR r.g }) (0, 0) _ rfl T9.out.r Try.underlying24 rfl (rvA_size _ _ _ _)) rfl ⟨none, 0, 0, _, 0, by rw [← errN_nil]; rfl, run_end HP.out, fun h => OwnL.nil _ _ _ _ _ _, T9.out.low⟩
theorem runP_any {w : World} {base : Nat} {q : Option Addr} {n c : Nat} {r : ResvOf} (ho : OwnL rgT 2 regC w base w.heap.size (.slice q n c) r.regs) (hb0 : base ≤ w.heap.size) (hq : RvAt w q n c r) (hg : GoodR r) {o : ROp} (hw : wellR o = true) :
    Calls Try.prog 32 #[.agg (resvA q n c r), .agg (ropA o)] w (RunPost w base r o) := by
  obtain ⟨h1, h2, -⟩ := well_says (by rw [hw]; rfl : (!(wellR o)) = false)
  obtain h | h | h | h | h | h : o.op = 1 ∨ o.op = 2 ∨ o.op = 3 ∨ o.op = 4 ∨ o.op = 5 ∨ o.op = 6 := by omega
  · exact run_1 ho hb0 hq hg h
  · exact run_2 ho hb0 hq hg h
  · exact run_3 ho hb0 hq hg h
  · exact run_4 ho hb0 hq hg h
  · exact run_5 ho hb0 hq hg h
  · exact run_6 ho hb0 hq hg h
end Go.Proofs.Ytfnkdmdcjliebaa
