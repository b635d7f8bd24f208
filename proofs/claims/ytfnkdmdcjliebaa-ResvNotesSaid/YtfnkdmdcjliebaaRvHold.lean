/- The contracts of the program's holders and Holders, and of slices.Values over ints with its iterator. Conditions: the reservations are in form. -/
import Derived.Test.YtfnkdmdcjliebaaRvComp
namespace Go.Proofs.Ytfnkdmdcjliebaa
open Go.ChangeShapes Go.WideShapes Go.ChangeAt Go.RowKit
set_option linter.unusedVariables false
set_option linter.unusedSimpArgs false
theorem fill_int1 (z : Int) : Instr.fill (fun i => some (i * 1, 1)) ((Array.range (1 * 1)).map ((Value.int .i64 0).cells[· % (Value.int .i64 0).cells.size]!)) [(0, Value.int .i64 z)] = some ([z].flatMap intC).toArray := by kernel_rfl
theorem run_int1 (z : Int) (w : World) : (Instr.buildSlice 65 1 #[(0, .int .i64 z)]).run Try.prog w = .ok (.slice (some ⟨w.heap.size, 0, none⟩) 1 1) (w.alloc (.cells ([z].flatMap intC).toArray 3)) := by
  have hi : (Try.prog.info? 3).map (·.size) = some 1 := by kernel_rfl
  have hz : (Try.prog.info? 3).bind (·.zero) = some (.int .i64 0) := by kernel_rfl
  cases hq : Try.prog.info? 3 with
  | none => rw [hq] at hi; simp at hi
  | some i =>
    rw [hq] at hi hz
    have hs : i.size = 1 := by simpa using hi
    have hzz : i.zero = some (.int .i64 0) := by simpa using hz
    refine run_buildSlice w 65 3 1 _ _ i _ Try.underlying65 hq hzz (by rw [hs]; omega) (by rw [hs]; omega) ?_
    rw [hs]; exact fill_int1 z
theorem run_intN (n : Nat) (hn : n ≤ 1000) (w : World) : (Instr.makeSlice 65 (.int .i64 n) (.int .i64 n)).run Try.prog w = .ok (.slice (some ⟨w.heap.size, 0, none⟩) n n) (w.alloc (.cells (cellsOf .i64 (List.replicate n 0)) 3)) := by
  have hi : (Try.prog.info? 3).map (·.size) = some 1 := by kernel_rfl
  have hz : (Try.prog.info? 3).bind (·.zero) = some (.int .i64 0) := by kernel_rfl
  have hb : (Try.prog.info? 3).map (·.bytes) = some 8 := by kernel_rfl
  cases hq : Try.prog.info? 3 with
  | none => rw [hq] at hi; simp at hi
  | some i =>
    rw [hq] at hi hz hb
    have hs : i.size = 1 := by simpa using hi
    have hzz : i.zero = some (.int .i64 0) := by simpa using hz
    have hby : i.bytes = 8 := by simpa using hb
    have e := run_make (P := Try.prog) w 65 3 i _ Try.underlying65 hq hzz .i64 .i64 n n (by omega) (by omega) (by rw [hby]; omega) (by omega)
    have hm : madeCells (Value.int .i64 0).cells (n * 1) = cellsOf .i64 (List.replicate n 0) := by
      apply Array.ext
      · rw [size_madeCells, cellsOf_size, List.length_replicate, Nat.mul_one]
      · intro j h1 h2
        have e1 : (madeCells (Value.int .i64 0).cells (n * 1))[j] = .int .i64 0 := by simp [madeCells, Value.cells, Nat.mod_one]
        have e2 := cellsOf_get .i64 (List.replicate n 0) (i := j) (by rw [cellsOf_size] at h2; exact h2)
        rw [Array.getElem?_eq_getElem h2] at e2
        rw [e1, Option.some.inj e2]
        rw [List.getD_eq_getElem?_getD, List.getElem?_replicate]
        split <;> rfl
    rw [hs, Int.toNat_natCast, hm] at e
    exact e
/-- A row of ints in a block of its own. -/
abbrev RowI (W : World) (B : Nat) (l : List Int) : Prop := BoxA W B 3 (cellsOf .i64 l)
theorem RowI.get {W : World} {B : Nat} {l : List Int} (h : RowI W B l) {k : Nat} (hk : k < l.length) : W.cell? ⟨B, k, none⟩ = some (.int .i64 (l.getD k 0)) := (BoxA.cell h k).trans (cellsOf_get _ _ hk)
theorem cells_flat : ∀ l : List Int, (cellsOf .i64 l).toList = l.flatMap intC
  | [] => rfl
  | z :: l => by
    have := cells_flat l
    unfold cellsOf at *
    simp only [List.map_cons, List.flatMap_cons] at *
    rw [← this]; rfl
theorem RowI.own {W : World} {B n base top : Nat} {l : List Int} (h : RowI W B l) (hb : base ≤ B) (ht : B < top) (hn : l.length = n) (hm : n ≤ 1000) : OwnL 3 1 intC W base top (.slice (some ⟨B, 0, none⟩) n n) l :=
  .inr ⟨B, n, cellsOf .i64 l, by rw [hn], hb, ht, h, by omega, by unfold maxLen; omega, by rw [cellsOf_size, hn, Nat.mul_one], by rw [cells_flat, List.take_of_length_le]; rw [← cells_flat]; simp [cellsOf]⟩
theorem RowI.rise {W : World} {B : Nat} {l : List Int} (h : RowI W B l) (hr : l.Pairwise (· < ·)) (hl : l.length ≤ 12) : RiseB W B 0 l := ⟨fun k hk => by rw [Nat.zero_add]; exact h.get hk, fun _ => BoxA.lt h, hr, hl⟩
theorem set_who {L : List Int} {n i : Nat} (hn : L.length = n) (hi : i < n) : (L.take i ++ List.replicate (n - i) 0).set i (L.getD i 0) = L.take (i + 1) ++ List.replicate (n - (i + 1)) 0 := by
  rw [List.set_append_right _ _ (by rw [List.length_take]; omega), List.length_take, show i - min i L.length = 0 by omega, List.take_add_one, List.getD_eq_getElem?_getD, List.getElem?_eq_getElem (by omega)]
  obtain ⟨m, hm⟩ : ∃ m, n - i = m + 1 := ⟨n - i - 1, by omega⟩
  rw [hm, show n - (i + 1) = m by omega, List.replicate_succ, List.set_cons_zero, List.append_assoc]; rfl
section
variable {ops : Array Oper} {rest : List Oper} {o : Oper} {a : Act} {w : World} {Q : Exit → Act → World → Prop}
theorem wpList_int1V (hgd : o.guard = none) (x : Operand) (ho : o.op = .buildSlice 65 1 #[(0, x)]) (z : Int) (hx : a.eval x = .int .i64 z)
    (h : ∀ w', RowI w' w.heap.size [z] → Below w.heap.size w w' → w'.heap.size = w.heap.size + 1 → wpList Try.prog ops Q rest (a.put o.dst (.slice (some ⟨w.heap.size, 0, none⟩) 1 1)) w') : wpList Try.prog ops Q (o :: rest) a w :=
  wpList_plain hgd fun _ hK => by
    have e := run_int1 z w
    rw [show ([z].flatMap intC).toArray = cellsOf .i64 [z] by rfl] at e
    unfold Oper.wp execOp
    simp only [ho]
    simp [hx, e]
    exact hK _ _ (h _ (BoxA.alloc w 3 _) ((Below.refl _ w).alloc (Nat.le_refl _) _) (World.size_alloc _ _))
theorem wpList_intN (hgd : o.guard = none) (x y : Operand) (ho : o.op = .makeSlice 65 x y) (n : Nat) (hn : n ≤ 1000) (hx : a.eval x = .int .i64 n) (hy : a.eval y = .int .i64 n)
    (h : ∀ w', RowI w' w.heap.size (List.replicate n 0) → Below w.heap.size w w' → w'.heap.size = w.heap.size + 1 → wpList Try.prog ops Q rest (a.put o.dst (.slice (some ⟨w.heap.size, 0, none⟩) n n)) w') : wpList Try.prog ops Q (o :: rest) a w :=
  wpList_plain hgd fun _ hK => by
    have e := run_intN n hn w
    unfold Oper.wp execOp
    simp only [ho, hx, hy]
    simp [e]
    exact hK _ _ (h _ (BoxA.alloc w 3 _) ((Below.refl _ w).alloc (Nat.le_refl _) _) (World.size_alloc _ _))
end
theorem whos_get (ks : List (Int × Int)) {k : Nat} (hk : k < ks.length) : (ks.map (·.1)).getD k 0 = (atR ks k).1 := by
  unfold atR
  rw [List.getD_eq_getElem?_getD, List.getD_eq_getElem?_getD, List.getElem?_map, List.getElem?_eq_getElem hk]; rfl
attribute [local irreducible] regC atR keyR inR risesR formR allR
attribute [local go_sem] Oper.semAt_some
set_option maxRecDepth 100000 in
set_option maxHeartbeats 8000000 in
theorem holders_any' {w : World} {q : Option Addr} {n c : Nat} {r : ResvOf} (hq : RvAt w q n c r) (hg : GoodR r) :
    Calls Try.prog 39 #[.agg (resvA q n c r)] w fun e w' => ∃ p m d, e = .returned (.slice p m d) ∧ OwnL 3 1 intC w' w.heap.size w'.heap.size (.slice p m d) (holdersR r) ∧ Below w.heap.size w w' := by
  have HH := Lib.hid (holders_are hg)
  have HN := Lib.hid (show n ≤ 4 from hq.len ▸ hg.few)
  have HLN := Lib.hid hq.len
  have HR := Lib.hid (fun i (hi : i < r.regs.length) => regs_at hq.at_ (k := i) hi)
  have HW := Lib.hid (whos_rise hg.rises)
  have HG := Lib.hid (fun i (hi : i < r.regs.length) => whos_get r.regs hi)
  have HML := Lib.hid (show (r.regs.map (·.1)).length = n by rw [List.length_map]; exact hq.len)
  rw [hq.len] at HR HG
  have hform := hg.form
  clear hq hg
  go_enter Try.func39, Try.ntmps39
  cases h1 : (r.h == -1) with
  | true =>
    have HE := Lib.hid (show holdersR r = [] by rw [HH.out]; unfold holdersP; rw [if_pos h1])
    clear HH HR HW HG HML HLN hform
    go_wp2_with (first
      | (with_reducible show wpList _ _ _ (⟨_, Op.box rvT _, _, _, _, none⟩ :: _) _ _
         refine wpList_boxA_of rfl _ rfl (resvA q n c r) rfl ?_
         intro w1 x1 l1 s1
         obtain ⟨c0, c1, c2, c3, c4⟩ := boxRv x1
         have L1 := Lib.hid l1
         clear x1 l1 s1))
    go_ret
    exact ⟨_, _, _, rfl, by rw [HE.out]; exact OwnL.nil _ _ _ _ _ _, L1.out⟩
  | false =>
    have ht : 1 ≤ r.t ∧ r.t ≤ 6 := by
      rcases hform with ⟨h2, -⟩ | ⟨-, -, h3⟩
      · rw [h2] at h1; exact absurd h1 (by decide)
      · exact h3
    have hrt : (decide (1 ≤ r.t) && decide (r.t ≤ 6)) = true := by rw [decide_eq_true ht.1, decide_eq_true ht.2]; rfl
    have HT := Lib.hid (fun (W : World) => (by have := isType_any r.t W; rw [hrt] at this; exact this : Calls Try.prog 48 #[.int .i64 r.t] W fun e w' => e = .returned (.bool true) ∧ W = w'))
    have HA := Lib.hid (fun (W : World) => allHold_any r.t W)
    clear hform ht hrt
    cases h2 : allR r.t with
    | false =>
      have HE := Lib.hid (show holdersR r = [r.h] by rw [HH.out]; unfold holdersP; rw [if_neg (by rw [h1]; decide), if_neg (by rw [h2]; decide)])
      rw [h2] at HA
      clear HH HR HW HG HML HLN
      go_wp2_with (first
        | (with_reducible show wpList _ _ _ (⟨_, Op.box rvT _, _, _, _, none⟩ :: _) _ _
           refine wpList_boxA_of rfl _ rfl (resvA q n c r) rfl ?_
           intro w1 x1 l1 s1
           obtain ⟨c0, c1, c2, c3, c4⟩ := boxRv x1
           have L1 := Lib.hid l1
           clear x1 l1 s1)
        | (go_at_call 48
           refine (HT.out _).mono ?_; rintro e w2 ⟨rfl, rfl⟩)
        | (go_at_call 59
           refine (HA.out _).mono ?_; rintro e w2 ⟨rfl, rfl⟩)
        | (with_reducible show wpList _ _ _ (⟨_, Op.buildSlice _ _ _, _, _, _, none⟩ :: _) _ _
           refine wpList_int1V rfl _ rfl r.h rfl ?_
           intro w3 x3 l3 s3
           have X3 := Lib.hid x3
           have L3 := Lib.hid (L1.out.trans (l3.mono L1.out.size))
           have S3 := Lib.hid s3
           clear x3 l3 s3))
      go_ret
      exact ⟨_, _, _, rfl, by rw [HE.out]; exact RowI.own X3.out L1.out.size (by rw [S3.out]; omega) rfl (by omega), L3.out⟩
    | true =>
      have HE := Lib.hid (show holdersR r = r.regs.map (·.1) by rw [HH.out]; unfold holdersP; rw [if_neg (by rw [h1]; decide), if_pos h2])
      rw [h2] at HA
      clear HH
      generalize r.regs.map (·.1) = L at *
      go_wp2_with (first
        | (with_reducible show wpList _ _ _ (⟨_, Op.box rvT _, _, _, _, none⟩ :: _) _ _
           refine wpList_boxA_of rfl _ rfl (resvA q n c r) rfl ?_
           intro w1 x1 l1 s1
           obtain ⟨c0, c1, c2, c3, c4⟩ := boxRv x1
           have X1 := Lib.hid x1
           have S1 := Lib.hid s1
           have L1 := Lib.hid l1
           clear x1 l1 s1)
        | (go_at_call 48
           refine (HT.out _).mono ?_; rintro e w2 ⟨rfl, rfl⟩)
        | (go_at_call 59
           refine (HA.out _).mono ?_; rintro e w2 ⟨rfl, rfl⟩)
        | (with_reducible show wpList _ _ _ (⟨_, Op.makeSlice _ _ _, _, _, _, none⟩ :: _) _ _
           refine wpList_intN rfl _ _ rfl n (by have := HN.out; omega) rfl rfl ?_
           intro w3 x3 l3 s3
           rw [S1.out] at x3 s3
           rw [S1.out]
           have X3 := Lib.hid x3
           have L3 := Lib.hid (L1.out.trans (l3.mono L1.out.size))
           have S3 := Lib.hid s3
           have X1b := Lib.hid (X1.out.keep (l3.block _ X1.out.lt))
           obtain ⟨d0, d1, d2, d3, d4⟩ := boxRv X1b.out
           clear x3 l3 s3 X1 c0 c1 c2 c3 c4))
      clear d0 d1 d2 d3 d4
      go_loopw [30, 4] (fun v30 _ wr => ∃ i : Nat, i ≤ n ∧ v30 = .int .i64 i ∧ RowI wr (w.heap.size + 1) (L.take i ++ List.replicate (n - i) 0) ∧ BoxA wr w.heap.size rvT (resvA q n c r) ∧ Below w.heap.size w wr ∧ wr.heap.size = w.heap.size + 1 + 1) (fun v30 _ _ => n - (intOf v30).toNat)
      case atStart => exact ⟨0, Nat.zero_le _, rfl, X3.out, X1b.out, L3.out, S3.out⟩
      case round =>
        obtain ⟨i, hi, rfl, hrow, hbox, hlow, hsz⟩ := hrel
        clear X3 X1b L3 S3 L1 S1
        have HX := Lib.hid hrow
        have HB := Lib.hid hbox
        have HLo := Lib.hid hlow
        have HS := Lib.hid hsz
        clear hrow hbox hlow hsz
        by_cases hlt : i < n
        · have f1 : (i : Int) < (n : Int) := by omega
          have HLT := Lib.hid hlt
          have f3 : IntKind.i64.wrap ((i : Int) + 1) = ((i + 1 : Nat) : Int) := by have := HN.out; rw [IntWalk.i64_in _ (by omega)]; omega
          obtain ⟨LB, o, rfl, hB, hrg⟩ := HR.out i hlt
          have kd0 := reg_c0 (rangeAt_below hrg HLo.out hB)
          have HSW := Lib.hid (set_who HML.out hlt)
          rw [HG.out i hlt] at HSW
          obtain ⟨d0, d1, d2, d3, d4⟩ := boxRv HB.out
          have HCL := Lib.hid (show i < (cellsOf .i64 (L.take i ++ List.replicate (n - i) 0)).size by rw [cellsOf_size, List.length_append, List.length_replicate, List.length_take]; have := HML.out; omega)
          clear hi hlt hrg hB HG HR
          generalize atR r.regs i = p at *
          go_wp2_with (first
            | (refine wpList_reg_elem rfl _ _ rfl LB o n c i rfl rfl HLT.out ?_)
            | (with_reducible show wpList _ _ _ (⟨_, Op.store _ _ _, _, _, _, none⟩ :: _) _ _
               refine wpList_boxA_int rfl _ _ rfl rfl (w.heap.size + 1) i p.1 rfl rfl HX.out HCL.out ?_
               intro w5 x5 k5 s5
               rw [cellsOf_set, HSW.out] at x5
               have X5 := Lib.hid x5
               have B5 := Lib.hid (HB.out.keep (k5.block _ HB.out.lt (by omega)))
               have L5 := Lib.hid (k5.below HLo.out.size (fun j hj e => by omega))
               have LL5 := Lib.hid (HLo.out.trans L5.out)
               have S5 := Lib.hid (s5.trans HS.out)
               clear x5 k5 s5 HX HB HLo HS L5 HSW HCL))
          go_roundw
          case rel => exact ⟨i + 1, HLT.out, by go_num, X5.out, B5.out, LL5.out, S5.out⟩
          case measure => have := HLT.out; simp [intOf]; omega
        · have f1 : ¬ (i : Int) < (n : Int) := by omega
          obtain rfl : i = n := by omega
          have HXL := Lib.hid (show RowI wr (w.heap.size + 1) L by have h := HX.out; rw [Nat.sub_self, List.take_of_length_le (by rw [HML.out]; exact Nat.le_refl _), List.replicate_zero, List.append_nil] at h; exact h)
          have HRI := Lib.hid (RowI.rise HXL.out HW.out (by rw [HML.out]; have := HN.out; omega))
          have HSO := Lib.hid (Sort_any (c := i) HRI.out HML.out (by have := HN.out; omega))
          clear hi hlt HX HG HR HB
          go_wp2_with (first
            | (go_at_call 60
               refine HSO.out.mono ?_; rintro e w6 ⟨rfl, hb6⟩
               have L6 := Lib.hid (HLo.out.trans (hb6.mono HLo.out.size))
               have X6 := Lib.hid (BoxA.keep HXL.out (hb6.block _ (BoxA.lt HXL.out)))
               have S6 := Lib.hid (hb6.size)
               have HCO := Lib.hid (Compact_any (c := i) (RowI.rise X6.out HW.out (by rw [HML.out]; have := HN.out; omega)) HML.out)
               clear hb6 HSO HRI HXL)
            | (go_at_call 61
               refine HCO.out.mono ?_; rintro e w7 ⟨rfl, hb7⟩
               have L7 := Lib.hid (L6.out.trans (hb7.mono L6.out.size))
               have X7 := Lib.hid (BoxA.keep X6.out (hb7.block _ (BoxA.lt X6.out)))
               have S7 := Lib.hid (hb7.size)
               clear hb7 HCO))
          go_ret
          exact ⟨_, _, _, rfl, by rw [HE.out]; exact RowI.own X7.out (by omega) (Nat.lt_of_lt_of_le (BoxA.lt X6.out) S7.out) HML.out (by have := HN.out; omega), L7.out⟩
end Go.Proofs.Ytfnkdmdcjliebaa
