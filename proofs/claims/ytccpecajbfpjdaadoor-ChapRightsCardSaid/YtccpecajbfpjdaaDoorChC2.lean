/- The contracts of package chap's Draws and of its iterator: a seed's draws, one behind the other, 4096 of them. Condition: the package's variable holds the constants. -/
import Derived.Test.YtccpecajbfpjdaaDoorChC1
import Derived.Test.YtccpecajbfpjdaaDoorChSi
namespace Go.Proofs.YtccpecajbfpjdaaDoor
open Go.ChangeShapes Go.WideShapes Go.ChangeAt Go.RowKit Go.Shelf
set_option linter.unusedVariables false
set_option linter.unusedSimpArgs false
def encD (z : Int × (Nat → Nat)) : Array Value := #[.int .i64 z.1, .agg (cellsOf .u8 (mk 32 z.2))]
def valD (seed b : Int) (i : Nat) : Int × (Nat → Nat) := (atN b i, drwD seed (atN b i))
def twoB (x y k : Nat) : Prop := k = x ∨ k = y
attribute [local irreducible] ansD drwD mk zeroK atN digF tagF
attribute [local go_sem] Oper.semAt_some
set_option maxRecDepth 100000 in
set_option maxHeartbeats 4000000 in
theorem draws_gives {U : World} {B3 B2 : Nat} {seed b : Int} (h3 : BoxA U B3 3 #[.int .i64 b]) (h2 : BoxA U B2 3 #[.int .i64 seed]) :
    GivesFr Fence.wide 2 Tryd.prog 25 #[.pointer (some ⟨B3, 0, none⟩), .pointer (some ⟨B2, 0, none⟩)] encD (valD seed b) 4096 (fun V => TabAt V ∧ ∀ k, twoB B3 B2 k → V.heap[k]? = U.heap[k]?) := fun l J Jx W hR hJ hJx hY h0 => by
  refine callsIn_of_wp Tryd.func25 rfl trivial ?_ rfl
  simp only [Tryd.ntmps25, List.size_toArray, List.length_cons, List.length_nil, Nat.reduceAdd, Nat.reduceSub, Array.replicate_succ, Array.replicate_zero, List.push_toArray, List.append_toArray, List.nil_append, List.cons_append]
  have HB := Lib.hid (show ∀ i V, J i V → TabAt V ∧ BoxA V B3 3 #[.int .i64 b] ∧ BoxA V B2 3 #[.int .i64 seed] from fun i V hj => ⟨(hR i V hj).1, ((hR i V hj).2 B3 (.inl rfl)).trans h3, ((hR i V hj).2 B2 (.inr rfl)).trans h2⟩)
  have HJ := Lib.hid hJ; have HY := Lib.hid hY; have H0 := Lib.hid h0
  clear hR hJ hJx hY h0 h3 h2
  gi_wp2
  gi_loopw [5] (fun v5 wr => ∃ i : Nat, i ≤ 4096 ∧ v5 = .int .i64 (i : Int) ∧ W.heap.size ≤ wr.heap.size ∧ J i wr) (fun v5 _ => 4096 - (intOf v5).toNat)
  case atStart => exact ⟨0, Nat.zero_le _, rfl, Nat.le_refl _, H0.out⟩
  case round =>
    obtain ⟨i, hi, rfl, hs, hj⟩ := hrel
    clear H0
    by_cases hlt : i < 4096
    · obtain ⟨hT, h3, h2⟩ := HB.out i wr hj
      have e1 : (i : Int) < 4096 := by omega
      have HN := Lib.hid (show IntKind.i64.wrap (b + (i : Int)) = atN b i by unfold atN; rfl)
      have f3 : IntKind.i64.wrap ((i : Int) + 1) = ((i + 1 : Nat) : Int) := by rw [IntWalk.i64_in _ (by omega)]; omega
      have HLT := Lib.hid hlt
      have HS := Lib.hid hs; have HJ1 := Lib.hid hj; have HT := Lib.hid hT; have X3 := Lib.hid h3; have X2 := Lib.hid h2
      have HV := Lib.hid (show valD seed b i = (atN b i, drwD seed (atN b i)) from rfl)
      clear hs hj hT h3 h2 hlt hi
      generalize atN b i = z at *
      gi_wp2
      have c0 : Below wr.heap.size wr wr.drew := (Below.refl _ wr).drew
      refine wideS.wpIn_region_sched (n := 9) [(0, true), (1, true), (2, true), (3, true), (4, true), (5, true), (6, true), (7, true), (8, false)] (fun V => BoxA V B3 3 #[.int .i64 b] ∧ BoxA V B2 3 #[.int .i64 seed]) (by kernel_rfl) (by kernel_rfl) ⟨X3.out, X2.out⟩ ?_
      iterate 8 (
        refine walk_float rfl rfl (fun K hK => ?_)
        first
          | (refine gives_move _ rfl ?_)
          | (refine gives_cell 3 _ rfl ⟨B3, 0, none⟩ (.int .i64 b) rfl box_int (fun V hV => hV.1.cell 0) ?_)
          | (refine gives_cell 3 _ rfl ⟨B2, 0, none⟩ (.int .i64 seed) rfl box_int (fun V hV => hV.2.cell 0) ?_)
          | (refine gives_add64 _ _ rfl b (i : Int) z rfl rfl HN.out ?_)
        go_simp
        refine hK _ ?_
        clear hK K)
      refine walk_done rfl rfl (fun K hK => ?_)
      refine done_enter2 _ _ _ _ rfl 17 rfl (enters_of Tryd.func17 (by kernel_rfl) rfl) _ _ rfl rfl _ (Draw_any (HT.out.on c0) seed z) ?_
      rintro e v3 ⟨rfl, l3⟩
      have b3 : Below wr.heap.size wr v3 := c0.trans l3
      refine ⟨_, rfl, ⟨X3.out.keep (b3.block _ X3.out.lt), X2.out.keep (b3.block _ X2.out.lt)⟩, ?_⟩
      go_simp
      refine hK _ _ ?_
      clear hK K l3
      refine walk_nil ?_
      have j3 := HJ.out i wr v3 HJ1.out b3
      have s3 := b3.size
      obtain ⟨fn, tmps, assign, body, hy, hRr⟩ := HY.out i v3 HLT.out (Nat.le_trans HS.out s3) j3
      rw [HV.out, show encD (z, drwD seed z) = #[.int .i64 z, .agg (cellsOf .u8 (mk 32 (drwD seed z)))] from rfl] at hy
      have HS2 := Lib.hid (Nat.le_trans HS.out s3)
      clear j3 b3 s3 c0 HJ1 HT X3 X2 HV HN HY
      gi_wp2
      refine hRr.mono ?_
      rintro e W3 (⟨rfl, hj3, ha3⟩ | ⟨rfl, hx3, _⟩)
      · have H3 := Lib.hid hj3
        have S3 := Lib.hid (Nat.le_trans HS2.out ha3)
        clear hRr hy hj3 ha3
        gi_wp2
        go_roundw
        case rel => exact ⟨i + 1, HLT.out, by go_num, S3.out, H3.out⟩
        case measure => simp [intOf]; omega
      · gi_wp2
        refine bodyPost_ret (results_none rfl _ _ _) rfl ?_
        exact ⟨⟨_, rfl⟩, .inr hx3⟩
    · obtain rfl : i = 4096 := by omega
      have hd1 : decide (((4096 : Nat) : Int) < 4096) = false := rfl
      have KJ := Lib.hid hj
      clear hj hs hlt hi
      gi_wp2
      go_end0
      exact ⟨⟨_, rfl⟩, .inl KJ.out⟩
set_option maxRecDepth 100000 in
set_option maxHeartbeats 1000000 in
theorem Draws_any {W : World} (hT : TabAt W) (seed b : Int) (hs : okI seed) (hb : okI b) : Calls Tryd.prog 15 #[.int .i64 seed, .int .i64 b] W fun e W' => ∃ gf lb, ∃ T : Nat → Prop, e = .returned (.func (.func gf) #[] lb) ∧ (∀ args v, (callFunc gf args).run Tryd.prog v = .ok (.enter gf args) v) ∧
    (∀ k, T k → k < W'.heap.size ∧ W.heap.size ≤ k) ∧ Below W.heap.size W W' ∧ GivesFr Fence.wide 2 Tryd.prog gf lb (fun z : Int × (Nat → Nat) => #[.int .i64 z.1, .agg (cellsOf .u8 (mk 32 z.2))]) (fun i => (atN b i, drwD seed (atN b i))) 4096 (fun V => TabAt V ∧ ∀ k, T k → V.heap[k]? = W'.heap[k]?) := by
  clear hs hb hT
  go_enter Tryd.func15, Tryd.ntmps15
  go_wp2_with (first
    | (with_reducible show wpList _ _ _ (⟨some 2, Op.box 3 _, _, _, _, none⟩ :: _) _ _
       refine wpList_one_of rfl _ rfl (.int .i64 seed) rfl rfl ?_
       intro w1 x1 l1 s1
       have P1 := Lib.hid (show LwB W [bxO W.heap.size 3 #[.int .i64 seed]] w1 from (LwB.none W).add l1 x1 (Nat.le_refl _))
       clear x1 l1 s1)
    | (with_reducible show wpList _ _ _ (⟨some 3, Op.box 3 _, _, _, _, none⟩ :: _) _ _
       refine wpList_one_of rfl _ rfl (.int .i64 b) rfl rfl ?_
       intro w2 x2 l2 s2
       have P2 := Lib.hid (show LwB W [bxO w1.heap.size 3 #[.int .i64 b], bxO W.heap.size 3 #[.int .i64 seed]] w2 from P1.out.add l2 x2 (Nat.le_refl _))
       have S2 := Lib.hid P1.out.low.size
       clear x2 l2 s2 P1
       generalize w1.heap.size = J1 at *))
  go_ret
  refine ⟨25, #[.pointer (some ⟨J1, 0, none⟩), .pointer (some ⟨W.heap.size, 0, none⟩)], twoB J1 W.heap.size, rfl, enters_of Tryd.func25 (by kernel_rfl) rfl, ?_, P2.out.low, ?_⟩
  · rintro k (rfl | rfl)
    · exact ⟨P2.out.lt (i := 0) rfl, S2.out⟩
    · exact ⟨P2.out.lt (i := 1) rfl, Nat.le_refl _⟩
  · exact draws_gives (seed := seed) (b := b) (P2.out.bx (i := 0) rfl) (P2.out.bx (i := 1) rfl)
end Go.Proofs.YtccpecajbfpjdaaDoor
