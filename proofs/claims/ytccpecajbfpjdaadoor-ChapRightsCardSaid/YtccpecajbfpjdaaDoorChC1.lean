/- The contracts of package chap's number, Answer and Draw. Conditions: the package's variable holds the constants; texts of no more than 80,000 bytes. -/
import Derived.Test.YtccpecajbfpjdaaDoorChLaw
import Derived.Test.YtccpecajbfpjdaaDoorTrEq
namespace Go.Proofs.YtccpecajbfpjdaaDoor
open Go.ChangeShapes Go.WideShapes Go.ChangeAt Go.RowKit Go.Shelf
set_option linter.unusedVariables false
set_option linter.unusedSimpArgs false
def nmTo (n : Int) (k : Nat) : Nat → Nat := fun j => if 8 - k ≤ j then numF 8 n j else 0
theorem nmTo_zero (n : Int) : mk 8 (nmTo n 0) = mk 8 zeroK := mk_ext fun j hj => if_neg (by omega)
theorem nmTo_end (n : Int) : mk 8 (nmTo n 8) = mk 8 (numF 8 n) := mk_ext fun j hj => if_pos (by omega)
theorem nmTo_step (n : Int) (k : Nat) (hk : k < 8) {v : Int} (hv : v = (numF 8 n (7 - k) : Nat)) : (mk 8 (nmTo n k)).set (7 - k) v = mk 8 (nmTo n (k + 1)) :=
  mk_set_is hv fun j hj => by
    unfold nmTo
    by_cases e : j = 7 - k
    · subst e; rw [if_pos rfl, if_pos (by omega)]
    · rw [if_neg e]
      by_cases h2 : 8 - k ≤ j
      · rw [if_pos h2, if_pos (by omega)]
      · rw [if_neg h2, if_neg (by omega)]
theorem numF_shift (n : Int) (k y : Nat) (hk : k < 8) (hy : 8 * k = y) : IntKind.u8.wrap (n / 2 ^ y) = (numF 8 n (7 - k) : Nat) := by
  subst hy
  rw [IntKind.wrap_u8', dig_shift]
  unfold numF
  rw [show 8 - 1 - (7 - k) = k by omega]
attribute [local irreducible] numF mk zeroK nmTo digF tagF ansT ansD drwT drwD
set_option maxRecDepth 100000 in
set_option maxHeartbeats 1000000 in
theorem number_any (n : Int) (w : World) :
    Calls Tryd.prog 29 #[.int .i64 n] w fun e w' => e = .returned (.slice (some ⟨w.heap.size, 0, none⟩) 8 8) ∧ IntBlk w' w.heap.size .u8 5 (mk 8 (numF 8 n)) ∧ Below w.heap.size w w' := by
  have hz : IntBlk (w.alloc (.cells (cellsOf .u8 (mk 8 zeroK)) 5)) w.heap.size .u8 5 (mk 8 (nmTo n 0)) := by rw [nmTo_zero]; exact IntBlk.new w .u8 _ (mk 8 zeroK)
  have HZ := Lib.hid hz
  clear hz
  go_enter Tryd.func29, Tryd.ntmps29
  go_wp2_with (refine wpList_make_noughts rfl _ _ rfl 8 (by omega) rfl rfl ?_)
  go_loopw [8] (fun v wr => ∃ k : Nat, k ≤ 8 ∧ v = .int .i64 k ∧ IntBlk wr w.heap.size .u8 5 (mk 8 (nmTo n k)) ∧ Below w.heap.size w wr) (fun v _ => 8 - (intOf v).toNat)
  case atStart => exact ⟨0, by omega, rfl, HZ.out, (Below.refl _ w).alloc (Nat.le_refl _) _⟩
  case round =>
    clear HZ
    obtain ⟨k, hk, rfl, hz, hb⟩ := hrel
    by_cases h : k < 8
    · have e1 : (k : Int) < 8 := by omega
      obtain ⟨y, hy⟩ : ∃ y, 8 * k = y := ⟨_, rfl⟩
      obtain ⟨d, hd⟩ : ∃ d, 7 - k = d := ⟨_, rfl⟩
      have sv := numF_shift n k y h hy
      have hs := nmTo_step n k h rfl
      rw [hd] at sv hs
      have HS := Lib.hid hs
      have cs := hz.cell (i := d) (by rw [mk_len]; omega)
      have fs := hz.free d
      have p1 : IntKind.i64.wrap (7 - (k : Int)) = (d : Int) := by rw [IntWalk.i64_in _ (by omega)]; omega
      have p2 : IntKind.i64.wrap (8 * (k : Int)) = (y : Int) := by rw [IntWalk.i64_in _ (by omega)]; omega
      have p3 : 7 - (k : Int) = (d : Int) := by omega
      have p4 : 8 * (k : Int) = (y : Int) := by omega
      have l0 : (0 : Int) ≤ d := by omega
      have l1 : (d : Int) < 8 := by omega
      have l2 : (0 : Int) ≤ y := by omega
      have l3 : (y : Int) ≤ 56 := by omega
      have HZ := Lib.hid hz; have HB := Lib.hid hb
      clear hz hb hy hd hs
      generalize numF 8 n d = ov at *
      go_wp2
      go_roundw
      case rel => exact ⟨k + 1, by omega, by go_num, by rw [← HS.out]; exact HZ.out.set d _, HB.out.setCell (Nat.le_refl _) _⟩
      case measure => simp [intOf]; omega
    · have e1 : k = 8 := by omega
      have hd1 : decide ((k : Int) < 8) = false := by simp; omega
      rw [e1, nmTo_end] at hz
      have HZ := Lib.hid hz; have HB := Lib.hid hb
      clear hz hb e1 h
      go_wp2
      go_ret
      exact ⟨rfl, HZ.out, HB.out⟩
/-- Three parts in a list. -/
def thr (x y z : Option Addr × Nat × Nat) : Nat → Option Addr × Nat × Nat := fun i => if i = 0 then x else if i = 1 then y else z
theorem thr_len (x y z : Option Addr × Nat × Nat) : lenTo (thr x y z) 3 = x.2.1 + y.2.1 + z.2.1 := by show 0 + x.2.1 + y.2.1 + z.2.1 = _; omega
theorem part_of {M : Nat} {w : World} {p : Option Addr} {n : Nat} {f g : Nat → Nat} {k : Nat} (h : BytesAt w p n f) (hM : w.heap.size ≤ M) (e : ∀ j, j < n → f j = g (k + j)) : n = 0 ∨ ∃ B o, p = some ⟨B, o, none⟩ ∧ B < M ∧ Cells w B o n (fun j => g (k + j)) := by
  rcases h with h | ⟨B, o, h1, h2, h3⟩
  · exact .inl h
  · exact .inr ⟨B, o, h1, by omega, fun j hj => by show w.cell? _ = some (.int .u8 (g (k + j) : Nat)); rw [← e j hj]; exact h3 j hj⟩
theorem partsIn_three {w : World} {B : Nat} {x y z : Option Addr × Nat × Nat} {f g h t : Nat → Nat} (hB : B < w.heap.size) (h0 : w.cell? ⟨B, 0, none⟩ = some (.slice x.1 x.2.1 x.2.2)) (h1 : w.cell? ⟨B, 1, none⟩ = some (.slice y.1 y.2.1 y.2.2)) (h2 : w.cell? ⟨B, 2, none⟩ = some (.slice z.1 z.2.1 z.2.2))
    (hx : BytesAt w x.1 x.2.1 f) (hy : BytesAt w y.1 y.2.1 g) (hz : BytesAt w z.1 z.2.1 h) (e0 : ∀ j, j < x.2.1 → f j = t j) (e1 : ∀ j, j < y.2.1 → g j = t (x.2.1 + j)) (e2 : ∀ j, j < z.2.1 → h j = t (x.2.1 + y.2.1 + j)) : PartsIn w.heap.size w (some ⟨B, 0, none⟩) 3 (thr x y z) t := by
  refine ⟨.inr ⟨B, 0, rfl, hB, fun i hi => ?_⟩, fun i hi => ?_⟩
  · rcases (show i = 0 ∨ i = 1 ∨ i = 2 by omega) with rfl | rfl | rfl
    · exact h0
    · exact h1
    · exact h2
  · rcases (show i = 0 ∨ i = 1 ∨ i = 2 by omega) with rfl | rfl | rfl
    · exact part_of (k := 0) hx (Nat.le_refl _) (fun j hj => by rw [Nat.zero_add]; exact e0 j hj)
    · exact part_of (k := 0 + x.2.1) hy (Nat.le_refl _) (fun j hj => by rw [Nat.zero_add]; exact e1 j hj)
    · exact part_of (k := 0 + x.2.1 + y.2.1) hz (Nat.le_refl _) (fun j hj => by rw [Nat.zero_add]; exact e2 j hj)
section
variable {ops : Array Oper} {rest : List Oper} {o : Oper} {a : Act} {w : World} {Q : Exit → Act → World → Prop}
theorem wpList_lists3 (hgd : o.guard = none) (x y z : Operand) (ho : o.op = .buildSlice 43 3 #[(0, x), (1, y), (2, z)]) (p q r : Option Addr) (n m k cp cq cr : Nat) (hx : a.eval x = .slice p n cp) (hy : a.eval y = .slice q m cq) (hz : a.eval z = .slice r k cr)
    (h : ∀ w', w'.heap[w.heap.size]? = some (.cells #[.slice p n cp, .slice q m cq, .slice r k cr] 22 (0, 0)) → Below w.heap.size w w' → w.heap.size < w'.heap.size → wpList Tryd.prog ops Q rest (a.put o.dst (.slice (some ⟨w.heap.size, 0, none⟩) 3 3)) w') : wpList Tryd.prog ops Q (o :: rest) a w :=
  wpList_plain hgd fun _ hK => by
    have e : (Instr.buildSlice 43 3 #[(0, .slice p n cp), (1, .slice q m cq), (2, .slice r k cr)]).run Tryd.prog w = .ok (.slice (some ⟨w.heap.size, 0, none⟩) 3 3) (w.alloc (.cells #[.slice p n cp, .slice q m cq, .slice r k cr] 22)) := by simp [go_sem]
    unfold Oper.wp execOp
    simp only [ho]
    simp [hx, hy, hz, e]
    exact hK _ _ (h _ (heap_alloc_new w _) (Below.alloc (Below.refl _ w) (Nat.le_refl _) _) (by rw [World.size_alloc]; exact Nat.lt_succ_self _))
theorem wpList_lists2b (hgd : o.guard = none) (x y : Operand) (ho : o.op = .buildSlice 43 2 #[(0, x), (1, y)]) (p q : Option Addr) (n m cp cq : Nat) (hx : a.eval x = .slice p n cp) (hy : a.eval y = .slice q m cq)
    (h : ∀ w', w'.heap[w.heap.size]? = some (.cells #[.slice p n cp, .slice q m cq] 22 (0, 0)) → Below w.heap.size w w' → w.heap.size < w'.heap.size → wpList Tryd.prog ops Q rest (a.put o.dst (.slice (some ⟨w.heap.size, 0, none⟩) 2 2)) w') : wpList Tryd.prog ops Q (o :: rest) a w :=
  wpList_plain hgd fun _ hK => by
    have e := run_lists2 p q n m cp cq w
    unfold Oper.wp execOp
    simp only [ho]
    simp [hx, hy, e]
    exact hK _ _ (h _ (heap_alloc_new w _) (Below.alloc (Below.refl _ w) (Nat.le_refl _) _) (by rw [World.size_alloc]; exact Nat.lt_succ_self _))
end
attribute [local go_sem] Oper.semAt_some
set_option maxRecDepth 100000 in
set_option maxHeartbeats 1000000 in
theorem Answer_any {w : World} (hT : TabAt w) (z : Int) {p : Option Addr} {n1 c1 : Nat} {g1 : Nat → Nat} {q : Option Addr} {n2 c2 : Nat} {g2 : Nat → Nat} (hl : n1 + n2 ≤ 80000) (hc1 : n1 ≤ c1) (hc2 : n2 ≤ c2) (h1 : ∀ j, j < n1 → g1 j < 256) (h2 : ∀ j, j < n2 → g2 j < 256) (hp : BytesAt w p n1 g1) (hq : BytesAt w q n2 g2) :
    Calls Tryd.prog 10 #[.int .i64 z, .slice p n1 c1, .slice q n2 c2] w fun e w' => e = .returned (.agg (cellsOf .u8 (mk 32 (ansD z n1 g1 n2 g2)))) ∧ Below w.heap.size w w' := by
  have HP := Lib.hid (fun (W : World) (hb : Below w.heap.size w W) => hp.below hb)
  have HQ := Lib.hid (fun (W : World) (hb : Below w.heap.size w W) => hq.below hb)
  have T0 := Lib.hid (show ansT z n1 g1 g2 0 = (IntKind.u8.wrap z).toNat by unfold ansT; rfl)
  have T1 := Lib.hid (show ∀ j, j < n1 → g1 j = ansT z n1 g1 g2 (1 + j) from fun j hj => by unfold ansT; rw [if_neg (by omega), if_pos (by omega)]; congr 1; omega)
  have T2 := Lib.hid (show ∀ j, j < n2 → g2 j = ansT z n1 g1 g2 (1 + n1 + j) from fun j hj => by unfold ansT; rw [if_neg (by omega), if_neg (by omega)]; congr 1; omega)
  have OF := Lib.hid (fun (B D : Nat) (W : World) (t : TabAt W) (hB : B < W.heap.size) (k : PartsIn W.heap.size W (some ⟨B, 0, none⟩) 3 (thr (some ⟨D, 0, none⟩, 1, 1) (p, n1, c1) (q, n2, c2)) (ansT z n1 g1 g2)) => by
    have h := Of_any 3 3 (some ⟨B, 0, none⟩) (thr (some ⟨D, 0, none⟩, 1, 1) (p, n1, c1) (q, n2, c2)) (ansT z n1 g1 g2) (by omega) (by rw [thr_len]; show 1 + n1 + n2 ≤ _; omega) (fun i hi => by
      rcases (show i = 0 ∨ i = 1 ∨ i = 2 by omega) with rfl | rfl | rfl
      · exact Nat.le_refl _
      · exact hc1
      · exact hc2) (by rw [thr_len]; exact ansT_lt (z := z) h1 h2) W t k
    rw [thr_len] at h
    exact (show Calls Tryd.prog 22 #[.slice (some ⟨B, 0, none⟩) 3 3] W fun e W' => e = .returned (.agg (cellsOf .u8 (mk 32 (digF (1 + n1 + n2) (ansT z n1 g1 g2))))) ∧ Below W.heap.size W W' from h))
  have AD := Lib.hid (show digF (1 + n1 + n2) (ansT z n1 g1 g2) = ansD z n1 g1 n2 g2 by unfold ansD; rfl)
  have WZ := Lib.hid (wrap8 z)
  have HT := Lib.hid hT
  clear hl h1 h2 hp hq hT
  generalize ansT z n1 g1 g2 = T at *
  go_enter Tryd.func10, Tryd.ntmps10
  go_wp2_with (first
  | (with_reducible show wpList _ _ _ (⟨some 6, Op.alloc 25, _, _, _, _⟩ :: _) _ _
     refine wpList_boxA_new rowSum rfl rfl _ rfl ?_
     intro w1 x1 l1 s1
     have P1 := Lib.hid (show LwB w [bxO w.heap.size 25 (cellsOf .u8 (mk 32 zeroK))] w1 from (LwB.none w).add l1 x1 (Nat.le_refl _))
     clear x1 l1 s1)
  | (with_reducible show wpList _ _ _ (⟨some 9, Op.buildSlice 22 _ _, _, _, _, _⟩ :: _) _ _
     refine wpList_bytes1 rfl _ rfl (IntKind.u8.wrap z) rfl ?_
     have X2 := Lib.hid (show (w1.alloc (.cells (cellsOf .u8 [IntKind.u8.wrap z]) 5)).cell? ⟨w1.heap.size, 0, none⟩ = some (.int .u8 (T 0 : Nat)) by
       rw [T0.out, WZ.out]; exact cell_of_one (heap_alloc_new w1 _))
     have L2 := Lib.hid (Below.alloc (Below.refl w1.heap.size w1) (Nat.le_refl _) (.cells (cellsOf .u8 [IntKind.u8.wrap z]) 5))
     have P2 := Lib.hid (P1.out.mono L2.out)
     have S2 := Lib.hid (show w1.heap.size < (w1.alloc (.cells (cellsOf .u8 [IntKind.u8.wrap z]) 5)).heap.size by simp)
     clear P1 L2
     generalize w1.alloc (.cells (cellsOf .u8 [IntKind.u8.wrap z]) 5) = w2 at *)
  | (refine wpList_lists3 rfl _ _ _ rfl (some ⟨w1.heap.size, 0, none⟩) p q 1 n1 n2 1 c1 c2 rfl rfl rfl ?_
     intro w3 x3 l3 s3
     have P3 := Lib.hid (P2.out.mono l3)
     have X3 := Lib.hid ((l3.cell (p := ⟨w1.heap.size, 0, none⟩) S2.out).trans X2.out)
     have K3 := Lib.hid (show PartsIn w3.heap.size w3 (some ⟨w2.heap.size, 0, none⟩) 3 (thr (some ⟨w1.heap.size, 0, none⟩, 1, 1) (p, n1, c1) (q, n2, c2)) T from
       partsIn_three s3 (cell_of_row _ _ 0 _ _ _ x3) (cell_of_row _ _ 1 _ _ _ x3) (cell_of_row _ _ 2 _ _ _ x3) (f := T)
         (.inr ⟨w1.heap.size, 0, rfl, Nat.lt_of_lt_of_le S2.out l3.size, fun j (hj : j < 1) => by (obtain rfl : j = 0 := by omega); exact X3.out⟩)
         (HP.out _ P3.out.low) (HQ.out _ P3.out.low) (fun _ _ => rfl) T1.out T2.out)
     have S3 := Lib.hid s3
     clear x3 l3 s3 P2 X2)
  | (go_at_call 22
     refine (OF.out _ _ _ (HT.out.on P3.out.low) S3.out K3.out).mono ?_; rintro e w5 ⟨rfl, l5⟩
     rw [AD.out]
     have P5 := Lib.hid (P3.out.mono l5)
     clear l5 P3)
  | (with_reducible show wpList _ _ _ (⟨_, Op.store 25 _ _, _, _, _, none⟩ :: _) _ _
     refine wpList_boxA_put rowSum rfl _ _ rfl rfl w.heap.size (cellsOf .u8 (mk 32 (ansD z n1 g1 n2 g2))) (cellsOf .u8 (mk 32 zeroK)) (s32_size _) (s32_one _) (s32_size _) rfl rfl (P5.out.bx (i := 0) rfl) ?_
     intro w6 x6 k6 s6
     have P6 := Lib.hid (show LwB w [bxO w.heap.size 25 (cellsOf .u8 (mk 32 (ansD z n1 g1 n2 g2)))] w6 from P5.out.put 0 rfl x6 k6)
     clear x6 k6 s6 P5))
  exact bodyPost_ret (results_s32 rfl _ _ w.heap.size (ansD z n1 g1 n2 g2) rfl (P6.out.bx (i := 0) rfl)) rfl ⟨rfl, P6.out.low⟩
theorem Tag_two {p : Option Addr} {n cap : Nat} {g : Nat → Nat} {B c : Nat} {pa pb : Option Addr} {na ca nb cb : Nat} {ga gb : Nat → Nat} {w : World} (hn : n ≤ 100000) (hcap : n ≤ cap) (hg : ∀ i, i < n → g i < 256) (hnt : na + nb ≤ 800000) (hca : na ≤ ca) (hcb : nb ≤ cb) (hga : ∀ i, i < na → ga i < 256) (hgb : ∀ i, i < nb → gb i < 256)
    (hT : TabAt w) (hp : BytesAt w p n g) (h0 : w.cell? ⟨B, 0, none⟩ = some (.slice pa na ca)) (h1 : w.cell? ⟨B, 1, none⟩ = some (.slice pb nb cb)) (ha : BytesAt w pa na ga) (hb : BytesAt w pb nb gb) :
    Calls Tryd.prog 28 #[.slice p n cap, .slice (some ⟨B, 0, none⟩) 2 c] w fun e w' => e = .returned (.agg (cellsOf .u8 (mk 32 (tagF n g (na + nb) (cat2 na ga gb))))) ∧ Below w.heap.size w w' := by
  have hl : lenTo (consP (pa, na, ca) fun _ => (pb, nb, cb)) 2 = na + nb := two_len _ _
  have := Tag_any p n cap g 2 c (some ⟨B, 0, none⟩) (consP (pa, na, ca) fun _ => (pb, nb, cb)) (cat2 na ga gb) hn hcap hg (by omega) (by rw [hl]; omega) (two_caps hca hcb) (by rw [hl]; exact cat2_lt hga hgb) w hT hp (partsIn_two (block_lt_of_cell h0) h0 h1 ha hb)
  rw [hl] at this; exact this
theorem cat_draw (n : Int) : cat2 4 (drwT n) (numF 8 n) = drwT n := by
  funext j
  unfold cat2
  by_cases h : j < 4
  · rw [if_pos h]
  · rw [if_neg h]; unfold drwT; rw [if_neg h]
set_option maxRecDepth 100000 in
set_option maxHeartbeats 1000000 in
theorem Draw_any {w : World} (hT : TabAt w) (seed n : Int) : Calls Tryd.prog 17 #[.int .i64 seed, .int .i64 n] w fun e w' => e = .returned (.agg (cellsOf .u8 (mk 32 (drwD seed n)))) ∧ Below w.heap.size w w' := by
  have NB1 := Lib.hid (fun (W : World) => number_any seed W)
  have NB2 := Lib.hid (fun (W : World) => number_any n W)
  have TG := Lib.hid (fun (D E B L : Nat) (W : World) (t : TabAt W) (h : BytesAt W (some ⟨D, 0, none⟩) 8 (numF 8 seed)) (h0 : W.cell? ⟨L, 0, none⟩ = some (.slice (some ⟨B, 0, none⟩) 4 4)) (h1 : W.cell? ⟨L, 1, none⟩ = some (.slice (some ⟨E, 0, none⟩) 8 8)) (ha : BytesAt W (some ⟨B, 0, none⟩) 4 (drwT n)) (hb : BytesAt W (some ⟨E, 0, none⟩) 8 (numF 8 n)) => Tag_two (cap := 8) (c := 2) (by omega) (by omega) (fun j _ => numF_lt _ _ j) (by omega) (by omega) (by omega) (fun j _ => drwT_lt n j) (fun j _ => numF_lt _ _ j) t h h0 h1 ha hb)
  have AD := Lib.hid (show tagF 8 (numF 8 seed) (4 + 8) (cat2 4 (drwT n) (numF 8 n)) = drwD seed n by rw [cat_draw]; unfold drwD; rfl)
  have OD := Lib.hid (fun (W : World) => draw_lit W n)
  have HT := Lib.hid hT
  clear hT
  go_enter Tryd.func17, Tryd.ntmps17
  go_wp2_with (first
  | (with_reducible show wpList _ _ _ (⟨some 4, Op.alloc 25, _, _, _, _⟩ :: _) _ _
     refine wpList_boxA_new rowSum rfl rfl _ rfl ?_
     intro w1 x1 l1 s1
     have P1 := Lib.hid (show LwB w [bxO w.heap.size 25 (cellsOf .u8 (mk 32 zeroK))] w1 from (LwB.none w).add l1 x1 (Nat.le_refl _))
     clear x1 l1 s1)
  | (go_at_call 29
     refine (NB1.out w1).mono ?_; rintro e w2 ⟨rfl, b2, l2⟩
     have B2 := Lib.hid b2
     have P2 := Lib.hid (P1.out.mono l2)
     clear b2 l2 P1 NB1)
  | (with_reducible show wpList _ _ _ (⟨some 7, Op.buildSlice 22 _ _, _, _, _, _⟩ :: _) _ _
     refine wpList_draw rfl rfl ?_)
  | (with_reducible show wpList _ _ _ (⟨some 8, Op.convert _ _ _, _, _, _, _⟩ :: _) _ _
     refine wpList_lit1 rfl _ rfl w2.heap.size 4 4 rfl (heap_alloc_new w2 (.cells (cellsOf .u8 drawL) 5)) ?_
     have C4 := Lib.hid (OD.out w2).1
     have L4 := Lib.hid (OD.out w2).2
     have S4 := Lib.hid (show w2.heap.size < ((w2.alloc (.cells (cellsOf .u8 drawL) 5)).freeze ⟨w2.heap.size, 4, none⟩ 1).heap.size by rw [freeze_size, World.size_alloc]; exact Nat.lt_succ_self _)
     have P4 := Lib.hid (P2.out.mono L4.out)
     have B4 := Lib.hid (B2.out.below L4.out B2.out.lt)
     change wpList _ _ _ _ _ ((w2.alloc (.cells (cellsOf .u8 drawL) 5)).freeze ⟨w2.heap.size, 4, none⟩ 1)
     generalize (w2.alloc (.cells (cellsOf .u8 drawL) 5)).freeze ⟨w2.heap.size, 4, none⟩ 1 = w4 at *
     clear P2 B2 L4)
  | (go_at_call 29
     refine (NB2.out w4).mono ?_; rintro e w5 ⟨rfl, b5, l5⟩
     have E5 := Lib.hid b5
     have B5 := Lib.hid (B4.out.below l5 B4.out.lt)
     have C5 := Lib.hid (show BytesAt w5 (some ⟨w2.heap.size, 0, none⟩) 4 (drwT n) from .inr ⟨w2.heap.size, 0, rfl, Nat.lt_of_lt_of_le S4.out l5.size, fun j hj => (l5.cell (p := ⟨w2.heap.size, 0 + j, none⟩) S4.out).trans (C4.out j hj)⟩)
     have P5 := Lib.hid (P4.out.mono l5)
     clear b5 l5 P4 NB2 B4 C4)
  | (refine wpList_lists2b rfl _ _ rfl (some ⟨w2.heap.size, 0, none⟩) (some ⟨w4.heap.size, 0, none⟩) 4 8 4 8 rfl rfl ?_
     intro w6 x6 l6 s6
     have P6 := Lib.hid (P5.out.mono l6)
     have E6 := Lib.hid (E5.out.below l6 E5.out.lt)
     have B6 := Lib.hid (B5.out.below l6 B5.out.lt)
     have C6 := Lib.hid (C5.out.below l6)
     have X6 := Lib.hid x6
     clear x6 l6 s6 P5 E5 B5 C5)
  | (go_at_call 28
     refine (TG.out _ _ _ _ _ (HT.out.on P6.out.low) B6.out.bytes (cell_of_row _ _ 0 _ _ _ X6.out) (cell_of_row _ _ 1 _ _ _ X6.out) C6.out E6.out.bytes).mono ?_; rintro e w7 ⟨rfl, l7⟩
     rw [AD.out]
     have P7 := Lib.hid (P6.out.mono l7)
     clear l7 P6)
  | (with_reducible show wpList _ _ _ (⟨_, Op.store 25 _ _, _, _, _, none⟩ :: _) _ _
     refine wpList_boxA_put rowSum rfl _ _ rfl rfl w.heap.size (cellsOf .u8 (mk 32 (drwD seed n))) (cellsOf .u8 (mk 32 zeroK)) (s32_size _) (s32_one _) (s32_size _) rfl rfl (P7.out.bx (i := 0) rfl) ?_
     intro w8 x8 k8 s8
     have P8 := Lib.hid (show LwB w [bxO w.heap.size 25 (cellsOf .u8 (mk 32 (drwD seed n)))] w8 from P7.out.put 0 rfl x8 k8)
     clear x8 k8 s8 P7))
  exact bodyPost_ret (results_s32 rfl _ _ w.heap.size (drwD seed n) rfl (P8.out.bx (i := 0) rfl)) rfl ⟨rfl, P8.out.low⟩
set_option maxRecDepth 100000 in
set_option maxHeartbeats 1000000 in
theorem Right_any {w : World} (hT : TabAt w) (z : Int) {p : Option Addr} {n1 c1 : Nat} {g1 : Nat → Nat} {q : Option Addr} {n2 c2 : Nat} {g2 : Nat → Nat} {r : Option Addr} {n3 c3 : Nat} {g3 : Nat → Nat} (hl : n1 + n2 ≤ 80000) (hc1 : n1 ≤ c1) (hc2 : n2 ≤ c2) (hn3 : n3 ≤ 140737488351232) (h1 : ∀ j, j < n1 → g1 j < 256) (h2 : ∀ j, j < n2 → g2 j < 256) (h3 : ∀ j, j < n3 → g3 j < 256) (hp : BytesAt w p n1 g1) (hq : BytesAt w q n2 g2) (hr : BytesAt w r n3 g3) :
    Calls Tryd.prog 13 #[.int .i64 z, .slice p n1 c1, .slice q n2 c2, .slice r n3 c3] w fun e w' => e = .returned (.bool (decide (mk 32 (ansD z n1 g1 n2 g2) = mk n3 g3))) ∧ Below w.heap.size w w' := by
  have AN := Lib.hid (Answer_any hT z hl hc1 hc2 h1 h2 hp hq)
  have EQ := Lib.hid (fun (B : Nat) (W : World) (hb : Below w.heap.size w W) (h : BytesAt W (some ⟨B, 0, none⟩) 32 (ansD z n1 g1 n2 g2)) => Equal_any (some ⟨B, 0, none⟩) 32 32 (ansD z n1 g1 n2 g2) r n3 c3 g3 (fun j _ => ansD_lt _ _ _ _ _ j) h3 (by omega) hn3 W h (hr.below hb))
  clear hT hl hc1 hc2 hn3 h1 h2 h3 hp hq hr
  generalize ansD z n1 g1 n2 g2 = A at *
  generalize decide (mk 32 A = mk n3 g3) = d at *
  go_enter Tryd.func13, Tryd.ntmps13
  go_wp2_with (first
  | (go_at_call 10
     refine AN.out.mono ?_; rintro e w1 ⟨rfl, l1⟩
     have P1 := Lib.hid ((LwB.none w).mono l1)
     clear l1 AN)
  | (with_reducible show wpList _ _ _ (⟨some 9, Op.alloc 25, _, _, _, _⟩ :: _) _ _
     refine wpList_boxA_new rowSum rfl rfl _ rfl ?_
     intro w2 x2 l2 s2
     have P2 := Lib.hid (show LwB w [bxO w1.heap.size 25 (cellsOf .u8 (mk 32 zeroK))] w2 from P1.out.add l2 x2 (Nat.le_refl _))
     clear x2 l2 s2 P1
     generalize w1.heap.size = J at *)
  | (with_reducible show wpList _ _ _ (⟨_, Op.store 25 _ _, _, _, _, none⟩ :: _) _ _
     refine wpList_boxA_put rowSum rfl _ _ rfl rfl J (cellsOf .u8 (mk 32 A)) (cellsOf .u8 (mk 32 zeroK)) (s32_size _) (s32_one _) (s32_size _) rfl rfl (P2.out.bx (i := 0) rfl) ?_
     intro w3 x3 k3 s3
     have P3 := Lib.hid (show LwB w [bxO J 25 (cellsOf .u8 (mk 32 A))] w3 from P2.out.put 0 rfl x3 k3)
     clear x3 k3 s3 P2)
  | (refine wpList_arr_slice rfl 25 5 32 sumUnder rfl _ rfl J 0 rfl ?_)
  | (go_at_call 24
     refine (EQ.out J w3 P3.out.low (box_s32 (P3.out.bx (i := 0) rfl))).mono ?_; rintro e w4 ⟨rfl, rfl⟩
     clear EQ))
  go_ret
  exact ⟨rfl, P3.out.low⟩
end Go.Proofs.YtccpecajbfpjdaaDoor
