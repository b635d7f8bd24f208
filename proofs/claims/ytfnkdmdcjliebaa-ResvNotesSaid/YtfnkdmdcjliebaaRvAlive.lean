/- The contract of the laws' alive. Condition: package resv does as ResvSpec says. -/
import Derived.Test.YtfnkdmdcjliebaaRvRun
namespace Go.Proofs.Ytfnkdmdcjliebaa
open Go.ChangeShapes Go.WideShapes Go.ChangeAt Go.RowKit
set_option linter.unusedVariables false
def os3 : List ROp := [⟨1, 1, 0, 5, 0, false⟩, ⟨2, 1, 5, 0, 1, false⟩, ⟨1, 2, 0, 6, 0, false⟩]
def rA3 : ResvOf := ⟨[(1, 5), (2, 6)], 1, 1, false, 2⟩
def rB3 : ResvOf := ⟨[(2, 6)], 2, 2, false, 3⟩
def o5 : ROp := ⟨5, 2, 6, 5, 2, false⟩
theorem run3 : runR nobodyR os3 = rA3 := by rfl
theorem do5 : doR rA3 o5 = (rB3, 0) := by rfl
theorem good3 : goodR rA3 = true := by rfl
theorem good5 : goodR rB3 = true := by rfl
theorem all3 : allowedR rA3 1 2 = true ∧ allowedR rA3 2 2 = false ∧ allowedR rA3 2 1 = true ∧ allowedR rB3 1 1 = false := ⟨rfl, rfl, rfl, rfl⟩
theorem ok3 : ∀ o ∈ os3, o.ok := by
  intro o ho
  simp only [os3, List.mem_cons, List.mem_nil_iff, or_false] at ho
  rcases ho with rfl | rfl | rfl <;> (unfold ROp.ok okI; decide)
theorem ok5 : o5.ok := by unfold ROp.ok okI o5; decide
theorem okB3 : rB3.ok := by
  refine ⟨fun p hp => ?_, by unfold okI rB3; decide, by unfold okI rB3; decide, by unfold okI rB3; decide⟩
  obtain rfl : p = (2, 6) := by simpa [rB3] using hp
  unfold okI; decide
theorem op_built1 : Try.prog.built roT [(0, .int .i64 1), (1, .int .i64 1), (3, .int .i64 5)] = some (ropA ⟨1, 1, 0, 5, 0, false⟩) := by kernel_rfl
theorem op_built2 : Try.prog.built roT [(0, .int .i64 2), (1, .int .i64 1), (2, .int .i64 5), (4, .int .i64 1)] = some (ropA ⟨2, 1, 5, 0, 1, false⟩) := by kernel_rfl
theorem op_built3 : Try.prog.built roT [(0, .int .i64 1), (1, .int .i64 2), (3, .int .i64 6)] = some (ropA ⟨1, 2, 0, 6, 0, false⟩) := by kernel_rfl
theorem op_built5 : Try.prog.built roT [(0, .int .i64 5), (1, .int .i64 2), (2, .int .i64 6), (3, .int .i64 5), (4, .int .i64 2)] = some (ropA o5) := by kernel_rfl
theorem op_under : Try.prog.underlying 41 = some (.slice roT) := Try.underlying41
theorem fill_ops3 (a b c : ROp) : Instr.fill (fun i => some (i * 6, 6)) ((Array.range (3 * 6)).map ((ropA zeroOp)[· % (ropA zeroOp).size]!)) [(0, .agg (ropA a)), (1, .agg (ropA b)), (2, .agg (ropA c))] = some ([a, b, c].flatMap ropC).toArray := by kernel_rfl
theorem run_ops3 (a b c : ROp) (w : World) : (Instr.buildSlice 41 3 #[(0, .agg (ropA a)), (1, .agg (ropA b)), (2, .agg (ropA c))]).run Try.prog w = .ok (.slice (some ⟨w.heap.size, 0, none⟩) 3 3) (w.alloc (.cells ([a, b, c].flatMap ropC).toArray roT)) := by
  have hi := rowOp.size
  have hz := rowOp.zero
  cases hq : Try.prog.info? roT with
  | none => rw [hq] at hi; simp at hi
  | some i =>
    rw [hq] at hi hz
    have hs : i.size = 6 := by simpa using hi
    have hzz : i.zero = some (.agg (ropA zeroOp)) := by simpa using hz
    refine run_buildSlice w 41 roT 3 _ _ i _ op_under hq hzz (by rw [hs]; omega) (by rw [hs]; omega) ?_
    rw [hs]; exact fill_ops3 a b c
theorem ops3_at (w : World) (a b c : ROp) : OpsAt (w.alloc (.cells ([a, b, c].flatMap ropC).toArray roT)) (some ⟨w.heap.size, 0, none⟩) [a, b, c] :=
  .inr ⟨w.heap.size, 0, rfl, by simp, fun i d hd j v hv => by
    rw [cell_of_row _ _ _ _ _ _ (heap_alloc_new w (.cells ([a, b, c].flatMap ropC).toArray roT))]
    rcases i with _ | _ | _ | i
    · obtain rfl : a = d := by simpa using hd
      rcases j with _ | _ | _ | _ | _ | _ | j <;> simp [ropC] at hv ⊢ <;> exact hv
    · obtain rfl : b = d := by simpa using hd
      rcases j with _ | _ | _ | _ | _ | _ | j <;> simp [ropC] at hv ⊢ <;> exact hv
    · obtain rfl : c = d := by simpa using hd
      rcases j with _ | _ | _ | _ | _ | _ | j <;> simp [ropC] at hv ⊢ <;> exact hv
    · simp at hd⟩
section
variable {ops : Array Oper} {rest : List Oper} {o : Oper} {a : Act} {w : World} {Q : Exit → Act → World → Prop}
theorem wpList_ops3 (hgd : o.guard = none) (x y z : Operand) (ho : o.op = .buildSlice 41 3 #[(0, x), (1, y), (2, z)]) (p q r : ROp) (hx : a.eval x = .agg (ropA p)) (hy : a.eval y = .agg (ropA q)) (hz : a.eval z = .agg (ropA r))
    (h : ∀ w', OpsAt w' (some ⟨w.heap.size, 0, none⟩) [p, q, r] → Below w.heap.size w w' → w'.heap.size = w.heap.size + 1 → wpList Try.prog ops Q rest (a.put o.dst (.slice (some ⟨w.heap.size, 0, none⟩) 3 3)) w') : wpList Try.prog ops Q (o :: rest) a w :=
  wpList_plain hgd fun _ hK => by
    have e := run_ops3 p q r w
    unfold Oper.wp execOp
    simp only [ho]
    simp [hx, hy, hz, e]
    exact hK _ _ (h _ (ops3_at w p q r) ((Below.refl _ _).alloc (Nat.le_refl _) _) (World.size_alloc _ _))
end
/-- Behind operations reservations are in form. -/
theorem step_good {r : ResvOf} (g : GoodR r) (hg : r.g < 9223372036854775807) (o : ROp) : GoodR (stepR r o) ∧ (stepR r o).g ≤ r.g + 1 := by
  unfold stepR
  split
  · rename_i h
    have := do_good g hg h
    exact ⟨this.1, this.2.2⟩
  · exact ⟨g, by omega⟩
theorem runs_good (os : List ROp) (h : os.length ≤ 200) : ∀ k, k ≤ os.length → GoodR (runR nobodyR (os.take k)) ∧ (runR nobodyR (os.take k)).g ≤ k
  | 0, _ => ⟨by unfold runR; exact nobody_good, by unfold runR; exact Int.le_refl _⟩
  | k + 1, hk => by
    have ih := runs_good os h k (by omega)
    rw [run_take (by omega)]
    have := step_good ih.1 (by have := ih.2; omega) (atO os k)
    exact ⟨this.1, by have := this.2; have := ih.2; omega⟩
theorem alive_any (K : ResvSpec) (w : World) : Calls Try.prog 9 #[] w fun e w' => e = .returned (.bool true) ∧ Below w.heap.size w w' := by
  have HK := Lib.hid K
  have H3 := Lib.hid run3
  have H5 := Lib.hid do5
  have A1 := Lib.hid all3.1
  have A2 := Lib.hid all3.2.1
  have A3 := Lib.hid all3.2.2.1
  have A4 := Lib.hid all3.2.2.2
  have b0 : IntKind.i64.wrap 3 = 3 := by decide
  clear K
  go_enter Try.func9, Try.ntmps9
  go_wp2_with (first
    | (refine wpList_build_any rfl roT _ #[(0, .int .i64 1), (1, .int .i64 1), (3, .int .i64 5)] _ rfl rfl (fun w => run_build w roT #[(0, .int .i64 1), (1, .int .i64 1), (3, .int .i64 5)] _ op_built1) ?_)
    | (refine wpList_build_any rfl roT _ #[(0, .int .i64 2), (1, .int .i64 1), (2, .int .i64 5), (4, .int .i64 1)] _ rfl rfl (fun w => run_build w roT #[(0, .int .i64 2), (1, .int .i64 1), (2, .int .i64 5), (4, .int .i64 1)] _ op_built2) ?_)
    | (refine wpList_build_any rfl roT _ #[(0, .int .i64 1), (1, .int .i64 2), (3, .int .i64 6)] _ rfl rfl (fun w => run_build w roT #[(0, .int .i64 1), (1, .int .i64 2), (3, .int .i64 6)] _ op_built3) ?_)
    | (refine wpList_build_any rfl roT _ #[(0, .int .i64 5), (1, .int .i64 2), (2, .int .i64 6), (3, .int .i64 5), (4, .int .i64 2)] _ rfl rfl (fun w => run_build w roT #[(0, .int .i64 5), (1, .int .i64 2), (2, .int .i64 6), (3, .int .i64 5), (4, .int .i64 2)] _ op_built5) ?_)
    | (refine wpList_ops3 rfl _ _ _ rfl ⟨1, 1, 0, 5, 0, false⟩ ⟨2, 1, 5, 0, 1, false⟩ ⟨1, 2, 0, 6, 0, false⟩ rfl rfl rfl ?_
       intro w1 o1 b1 s1
       have O1 := Lib.hid o1
       have B1 := Lib.hid b1
       clear o1 b1 s1)
    | (go_at_call 22
       refine (run_any HK.out O1.out (n := 3) rfl (by unfold maxLen; omega) ok3).mono ?_
       have D3 : decide (((3 : Nat) : Int) ≤ 200) = true := by decide
       have E3 := H3.out
       unfold os3 at E3
       rw [E3, D3]
       clear E3 D3
       rintro e w2 ⟨q, m, d, rfl, r2, -, b2⟩
       have R2 := Lib.hid r2
       have B2 := Lib.hid (B1.out.trans (b2.mono B1.out.size))
       clear r2 b2 O1 B1)
    | (refine wpList_boxA_new rowRv rfl rfl w2.heap.size rfl ?_
       intro w3 x3 l3 s3
       have X3 := Lib.hid x3
       have L3 := Lib.hid l3
       have S3 := Lib.hid s3
       clear x3 l3 s3)
    | (refine wpList_boxA_put rowRv rfl _ _ rfl rfl w2.heap.size (resvA q m d rA3) _ rfl (rvA_one _ _ _ _) rfl rfl rfl X3.out ?_
       intro w4 x4 k4 s4
       have X4 := Lib.hid x4
       have L4 := Lib.hid (L3.out.trans (show Below w2.heap.size w3 w4 from k4.below L3.out.size (fun k hk e => by have := S3.out; omega)))
       have R4 := Lib.hid (R2.out.below L4.out)
       have B4 := Lib.hid (B2.out.trans (L4.out.mono B2.out.size))
       have J4 := Lib.hid X4.out.lt
       clear x4 k4 s4 X3 L3 S3 R2 B2 L4
       generalize w2.heap.size = J at *)
    | (refine wpList_boxA_loadw rowRv _ rfl rfl J (resvA q m d rA3) rfl rfl X4.out ?_)
    | (go_at_call 20
       refine (HK.out.allowed 1 2 (by unfold okI; decide) (by unfold okI; decide) R4.out good3).mono ?_
       rw [A1.out]
       rintro e w5 ⟨rfl, b5⟩
       have X5 := Lib.hid (X4.out.keep (b5.block _ X4.out.lt))
       have R5 := Lib.hid (R4.out.below b5)
       have B5 := Lib.hid (B4.out.trans (b5.mono B4.out.size))
       clear b5 X4 R4 B4 A1)
    | (refine wpList_boxA_loadw rowRv _ rfl rfl J (resvA q m d rA3) rfl rfl X5.out ?_)
    | (go_at_call 20
       refine (HK.out.allowed 2 2 (by unfold okI; decide) (by unfold okI; decide) R5.out good3).mono ?_
       rw [A2.out]
       rintro e w6 ⟨rfl, b6⟩
       have X6 := Lib.hid (X5.out.keep (b6.block _ X5.out.lt))
       have R6 := Lib.hid (R5.out.below b6)
       have B6 := Lib.hid (B5.out.trans (b6.mono B5.out.size))
       clear b6 X5 R5 B5 A2)
    | (refine wpList_boxA_loadw rowRv _ rfl rfl J (resvA q m d rA3) rfl rfl X6.out ?_)
    | (go_at_call 20
       refine (HK.out.allowed 2 1 (by unfold okI; decide) (by unfold okI; decide) R6.out good3).mono ?_
       rw [A3.out]
       rintro e w7 ⟨rfl, b7⟩
       have X7 := Lib.hid (X6.out.keep (b7.block _ X6.out.lt))
       have R7 := Lib.hid (R6.out.below b7)
       have B7 := Lib.hid (B6.out.trans (b7.mono B6.out.size))
       clear b7 X6 R6 B6 A3)
    | (refine wpList_boxA_loadw rowRv _ rfl rfl J (resvA q m d rA3) rfl rfl X7.out ?_)
    | (go_at_call 10
       refine (HK.out.do_ o5 R7.out ok5).mono ?_
       rw [H5.out]
       rintro e w8 ⟨q8, m8, d8, rfl, o8, b8⟩
       have e8 := OwnR.at_ (r := rB3) o8 okB3 (by decide)
       have R8 := Lib.hid e8.1
       have B8 := Lib.hid (B7.out.trans (b8.mono B7.out.size))
       rw [show errN (rB3, (0 : Int)).2 = .nilIface from errN_zero]
       clear e8 b8 o8 X7 R7 B7 H5)
    | (refine wpList_boxA_new rowRv rfl rfl w8.heap.size rfl ?_
       intro w9 x9 l9 s9
       have X9 := Lib.hid x9
       have L9 := Lib.hid l9
       have S9 := Lib.hid s9
       clear x9 l9 s9)
    | (refine wpList_boxA_put rowRv rfl _ _ rfl rfl w8.heap.size (resvA q8 m8 d8 rB3) _ rfl (rvA_one _ _ _ _) rfl rfl rfl X9.out ?_
       intro w10 x10 k10 s10
       have X10 := Lib.hid x10
       have L10 := Lib.hid (L9.out.trans (show Below w8.heap.size w9 w10 from k10.below L9.out.size (fun k hk e => by have := S9.out; omega)))
       have R10 := Lib.hid (R8.out.below L10.out)
       have B10 := Lib.hid (B8.out.trans (L10.out.mono B8.out.size))
       clear x10 k10 s10 X9 L9 S9 R8 B8 L10
       generalize w8.heap.size = J8 at *
       have h1 : w10.cell? ⟨J8, 1, none⟩ = some (.int .i64 2) := X10.out.cell 1
       have h4 : w10.cell? ⟨J8, 4, none⟩ = some (.int .i64 3) := X10.out.cell 4)
    | (refine wpList_boxA_loadw rowRv _ rfl rfl J8 (resvA q8 m8 d8 rB3) rfl rfl X10.out ?_)
    | (go_at_call 20
       refine (HK.out.allowed 1 1 (by unfold okI; decide) (by unfold okI; decide) R10.out good5).mono ?_
       rw [A4.out]
       rintro e w11 ⟨rfl, b11⟩
       have X11 := Lib.hid (X10.out.keep (b11.block _ X10.out.lt))
       have R11 := Lib.hid (R10.out.below b11)
       have B11 := Lib.hid (B10.out.trans (b11.mono B10.out.size))
       clear h1 h4
       have h4 : w11.cell? ⟨J8, 4, none⟩ = some (.int .i64 3) := X11.out.cell 4
       clear b11 X10 R10 B10 A4))
  go_ret
  exact ⟨rfl, B11.out⟩
end Go.Proofs.Ytfnkdmdcjliebaa
