/- The contract of citadelref11's Update. Conditions: the package's variable holds the constants; the key has no more than 80,000 bytes; tags have 32 bytes; the tree has 32; blocks 0 to 15. -/
import Derived.Test.YtbdldnhpgpjnoaaDoorTrRefB
import Derived.Test.YtbdldnhpgpjnoaaDoorTrUpd
namespace Go.Proofs.YtbdldnhpgpjnoaaDoor
open Go.ChangeShapes Go.WideShapes Go.ChangeAt Go.RowKit
set_option linter.unusedVariables false
theorem int_addr {o : Oper} {a : Act} (x y : Operand) (ho : o.op = .indexAddr 39 x y) (B off n cap k : Nat) (hx : a.eval x = .slice (some ⟨B, off, none⟩) n cap) (hy : a.eval y = .int .i64 k) (hk : k < n) (w : World) : (execOp a.eval o).run Tryd.prog w = .ok (.value (.pointer (some ⟨B, off + k, none⟩))) w := by
  have h0 : (k : Int) < n := by omega
  have hi : (Tryd.prog.info? 3).map (·.size) = some 1 := by kernel_rfl
  cases hq : Tryd.prog.info? 3 with
  | none => simp [hq] at hi
  | some i =>
    have hs : i.size = 1 := by simpa [hq] using hi
    unfold execOp
    simp only [ho, hx, hy]
    simp [go_sem, Tryd.underlying39, h0, sizeOf, typeInfo, hq, hs, addr_add]
theorem gives_int_elem {o : Oper} {a : Act} {C : World → Prop} {K : Act → Prop} (x y : Operand) (ho : o.op = .indexAddr 39 x y) (B off n cap k : Nat) (hx : a.eval x = .slice (some ⟨B, off, none⟩) n cap) (hy : a.eval y = .int .i64 k) (hk' : k < n) (hk : K (a.put o.dst (.pointer (some ⟨B, off + k, none⟩)))) : ∃ v, Gives Tryd.prog C o a v ∧ K (a.put o.dst v) :=
  ⟨_, fun w _ => int_addr x y ho B off n cap k hx hy hk' w, hk⟩
/-- A path's numbers, where they lie. -/
def PathAt (P b : Nat) (W : World) : Prop := ∀ i, i < 5 → W.cell? ⟨P, i, none⟩ = some (.int .i64 (pn b i : Nat))
theorem PathAt.keep {P b : Nat} {W W' : World} (h : PathAt P b W) (hb : W'.heap[P]? = W.heap[P]?) : PathAt P b W' := fun i hi => (World.cell?_of_block (w := W) (w' := W') (a := ⟨P, i, none⟩) hb).trans (h i hi)
theorem PathAt.lt {P b : Nat} {W : World} (h : PathAt P b W) : P < W.heap.size := block_lt_of_cell (h 0 (by decide))
theorem pathAt_of {b : Nat} {w : World} {q : Option Addr} {S : Nat} (h : RowsAt 1 intC w q (pathL b 5)) (hl : ∀ B o, q = some ⟨B, o, none⟩ → S ≤ B ∧ o = 0) : ∃ P, q = some ⟨P, 0, none⟩ ∧ S ≤ P ∧ PathAt P b w := by
  obtain ⟨B, o, rfl, hB, _⟩ := int_cellD h (k := 0) (by rw [pathL_len]; decide)
  obtain ⟨h1, rfl⟩ := hl B o rfl
  refine ⟨B, rfl, h1, fun i hi => ?_⟩
  obtain ⟨B', o', e, _, hc⟩ := int_cellD h (k := i) (by rw [pathL_len]; exact hi)
  cases e
  rw [pathL_at hi, Nat.zero_add] at hc
  exact hc
/-- What stands between two rounds. -/
structure RuI (w : World) (S D P : Nat) (n : Nat) (g : Nat → Nat) (l : List (List Int)) (b : Nat) (leaf : List Int) (k : Nat) (V : World) : Prop where
  lo : Below S w V
  d : SumsB V D (updT n g l b leaf k)
  lf : SumsB V S [leaf]
  pa : PathAt P b V
attribute [local irreducible] nought sumVal sumC tagAt climbF pn parF nodeN nodeV updT intC
set_option maxRecDepth 100000 in
set_option maxHeartbeats 4000000 in
theorem refUpdate_any (kp : Option Addr) (n kc : Nat) (g : Nat → Nat) (hn : n ≤ 80000) (q : Option Addr) (cap : Nat) (l : List (List Int)) (h32 : l.length = 32) (hs : ∀ t ∈ l, IsSum t) (b : Nat) (hb : b < 16) (leaf : List Int) (hleaf : IsSum leaf) (w : World) (hk : KeyAt w kp n kc g) (hq : RowsAt 32 sumC w q l) :
    Calls Tryd.prog 34 #[.slice kp n kc, .slice q 32 cap, .int .i64 b, sumVal leaf] w fun e w' => ∃ B c, e = .returned (.slice (some ⟨B, 0, none⟩) 32 c) ∧ SumsB w' B (updT n g l b leaf 5) ∧ Below w.heap.size w w' := by
  have HQ := Lib.hid (fun V (h : Below w.heap.size w V) => hq.below h)
  have HL := Lib.hid h32
  have RP := Lib.hid (fun V => refPath_any b hb V)
  have U0 := Lib.hid (updT_zero (n := n) (g := g) (b := b) (leaf := leaf) h32)
  have US := Lib.hid (fun k (hk : k < 5) => updT_step (n := n) (g := g) (l := l) (leaf := leaf) hb hk)
  have UL := Lib.hid (fun k => updT_len n g l b leaf k)
  have UR := Lib.hid (fun k (hk : k < 4) => updT_ref (n := n) (g := g) (l := l) (leaf := leaf) hb hk)
  have CZ := Lib.hid (show climbF (nodeN n g) (tagAt l) b leaf 0 = leaf from climbF_zero _ _ _ _)
  have PA := Lib.hid (fun k (hk : k < 5) => pn_all b hb k hk)
  have JN := Lib.hid (fun (k a0 a1 : Nat) (z : Int) (h0 : a0 < 32) (h1 : a1 < 32) (V : World) (h : Below w.heap.size w V) => refJoin_any kp n kc g hn z (tagAt (updT n g l b leaf k) a0) (tagAt (updT n g l b leaf k) a1) (tagAt_sum (updT_sum h32 hs hleaf k) (by rw [updT_len]; exact h0)) (tagAt_sum (updT_sum h32 hs hleaf k) (by rw [updT_len]; exact h1)) V (hk.below h))
  clear hk hq hs hn hleaf
  generalize hS : w.heap.size = S at *
  have HS := Lib.hid hS
  clear hS
  go_enter Tryd.func34, Tryd.ntmps34
  go_wp2_with (first
    | (refine wpList_sum_box rfl _ rfl leaf rfl S HS.out ?_; intro w1 hL hb1 hs1
       have L1 := Lib.hid hL; have B1 := Lib.hid hb1; have S1 := Lib.hid hs1; clear hL hb1 hs1)
    | (refine wpList_list0 elemSum rfl rfl ?_
       have O2 := Lib.hid (OwnL.empty 27 32 sumC w1 w1.heap.size (Nat.le_refl _))
       have B2 := Lib.hid (show Below w1.heap.size w1 (w1.alloc (.cells #[] 27)) from (Below.refl _ _).alloc (Nat.le_refl _) _)
       have S2 := Lib.hid (show (w1.alloc (.cells #[] 27)).heap.size = w1.heap.size + 1 from World.size_alloc _ _)
       generalize w1.alloc (.cells #[] 27) = w2 at *)
    | (refine wpList_grow elemSum rfl _ _ rfl w1.heap.size w2.heap.size _ [] l q 32 cap rfl rfl HL.out.symm (S2.out ▸ O2.out) (HQ.out _ (B1.out.trans (B2.out.mono (HS.out ▸ B1.out.size)))) (by rw [HL.out]; exact (by decide : 0 + 32 ≤ 4000000)) (by decide) (by rw [S2.out]; omega) ?_
       intro v3 w3 ho hb3
       rw [List.nil_append] at ho
       obtain ⟨x, m, hl⟩ : ∃ x m, l = x :: m := by
         cases l with
         | nil => exact absurd HL.out (by simp)
         | cons x m => exact ⟨x, m, rfl⟩
       rw [hl] at ho
       obtain ⟨D, c, rfl, hc, hD, _, hs⟩ := ho.sums
       rw [← hl] at hs hc
       have e32 : (x :: m).length = 32 := by rw [← hl]; exact HL.out
       rw [e32]
       have D3 := Lib.hid hs; have C3 := Lib.hid (show S < D by have := S1.out; omega); have L3 := Lib.hid (L1.out.below (B2.out.trans hb3)); have B3 := Lib.hid (B1.out.trans ((B2.out.trans hb3).mono (HS.out ▸ B1.out.size)))
       clear ho hb3 hc hD hs hl e32 L1 B1 O2 B2 S1 S2)
    | (go_at_call 16; refine (RP.out w3).mono ?_; rintro e w4 ⟨pp, pc, rfl, hr, hlo, hb4⟩
       obtain ⟨P, rfl, hP, hpa⟩ := pathAt_of hr hlo
       have I4 := Lib.hid (show RuI w S D P n g l b leaf 0 w4 from ⟨B3.out.trans (hb4.mono (HS.out ▸ B3.out.size)), by rw [U0.out]; exact D3.out.below hb4, L3.out.below hb4, hpa⟩)
       have HPD := Lib.hid (show D < P from Nat.lt_of_lt_of_le D3.out.lt hP)
       clear hr hlo hb4 hpa hP RP D3 L3 B3))
  go_loopw [11] (fun v11 wr => ∃ k : Nat, k ≤ 5 ∧ v11 = .int .i64 k ∧ RuI w S D P n g l b leaf k wr) (fun v11 _ => 5 - (intOf v11).toNat)
  case atStart => exact ⟨0, Nat.zero_le _, rfl, I4.out⟩
  case round =>
    obtain ⟨k, hk, rfl, hi⟩ := hrel
    have II := Lib.hid hi
    clear hi I4
    by_cases hlt : k < 5
    · have HLT := Lib.hid hlt
      have f1 : (k : Int) < 5 := by omega
      have ULK := Lib.hid (UL.out k)
      have USK := Lib.hid (US.out k hlt)
      have HNW := Lib.hid (show wrap64 ((k : Int) + 1) = ((k + 1 : Nat) : Int) by rw [IntWalk.wrap64_in _ (by omega)]; omega)
      have HPK := Lib.hid ((PA.out k hlt).2.1)
      have HP1 := Lib.hid ((PA.out k hlt).1)
      clear UL US hlt
      by_cases h0 : k = 0
      · subst h0
        rw [CZ.out] at USK
        have HC0 := Lib.hid (fun (W : World) (h : PathAt P b W) => h 0 (by decide))
        generalize pn b 0 = p0 at *
        go_wp2
        refine wp_region_sched [(0, true), (1, true), (2, true), (3, true), (4, true), (5, true), (6, true), (7, false)] (fun W => W.cell? ⟨P, 0, none⟩ = some (.int .i64 (p0 : Nat)) ∧ W.rangeAt S 0 (sumC leaf)) (by kernel_rfl) (by kernel_rfl) (⟨HC0.out _ (II.out.pa.keep rfl), (II.out.lf.keep rfl : SumsB wr.drew S [leaf]).one⟩) ?_
        refine walk_float rfl rfl (fun K' hK => ?_)
        refine gives_move _ rfl ?_
        go_simp
        refine hK _ ?_
        clear hK K'
        refine walk_float rfl rfl (fun K' hK => ?_)
        refine gives_move _ rfl ?_
        go_simp
        refine hK _ ?_
        clear hK K'
        refine walk_float rfl rfl (fun K' hK => ?_)
        refine gives_move _ rfl ?_
        go_simp
        refine hK _ ?_
        clear hK K'
        refine walk_float rfl rfl (fun K' hK => ?_)
        refine gives_int_elem _ _ rfl P 0 5 pc 0 rfl rfl (by decide) ?_
        go_simp
        refine hK _ ?_
        clear hK K'
        refine walk_float rfl rfl (fun K' hK => ?_)
        refine gives_cell 3 _ rfl ⟨P, 0, none⟩ _ rfl box_int (fun W h => h.1) ?_
        go_simp
        refine hK _ ?_
        clear hK K'
        refine walk_float rfl rfl (fun K' hK => ?_)
        refine gives_sum_mid _ rfl S 0 rfl leaf (fun W h => h.2) ?_
        go_simp
        refine hK _ ?_
        clear hK K'
        refine walk_float rfl rfl (fun K' hK => ?_)
        refine gives_sum_elem _ _ rfl D 0 32 c p0 rfl rfl HPK.out ?_
        go_simp
        refine hK _ ?_
        clear hK K'
        have dd : SumsB wr.drew D (updT n g l b leaf 0) := II.out.d.keep rfl
        refine walk_done rfl rfl (fun K' hK => ?_)
        refine done_sum_store _ _ rfl D p0 rfl leaf rfl _ dd (by rw [ULK.out]; exact HPK.out) ?_
        intro w4 h4 hb4 hs4
        rw [USK.out] at h4
        have I4 := Lib.hid (show RuI w S D P n g l b leaf (0 + 1) w4 from ⟨(II.out.lo.drew).trans (hb4.below (M := S) (by have := C3.out; omega) (by have := dd.lt; have := C3.out; omega)), h4, (II.out.lf.keep rfl : SumsB wr.drew S [leaf]).but hb4 (by have := C3.out; omega), (II.out.pa.keep rfl : PathAt P b wr.drew).keep (hb4.same P (II.out.pa.keep rfl : PathAt P b wr.drew).lt (by have := HPD.out; omega))⟩)
        refine ⟨⟨HC0.out _ I4.out.pa, I4.out.lf.one⟩, ?_⟩
        go_simp
        refine hK _ _ ?_
        clear hK K'
        clear dd
        refine walk_nil ?_
        go_wp2
        go_roundw
        case rel => exact ⟨0 + 1, by decide, by first | rfl | go_num, I4.out⟩
        case measure => simp [intOf]
      · obtain ⟨j, rfl⟩ : ∃ j, k = j + 1 := ⟨k - 1, by omega⟩
        have URJ := Lib.hid (UR.out j (by have := HLT.out; omega))
        have HP16 := Lib.hid ((PA.out (j + 1) HLT.out).2.2.2.1 (by omega))
        have d0 : decide (((j + 1 : Nat) : Int) = 0) = false := decide_eq_false (by omega)
        have HCK := Lib.hid (fun (W : World) (h : PathAt P b W) => h (j + 1) HLT.out)
        have NDN := Lib.hid (fun (a c : List Int) => show nodeV n g (IntKind.u8.wrap ((pn b (j + 1) : Nat) : Int)) a c = nodeN n g (pn b (j + 1)) a c by unfold nodeN; rfl)
        clear UR PA CZ
        generalize pn b (j + 1) = pk at *
        obtain ⟨a0, ha0⟩ : ∃ a0, a0 = 2 * pk := ⟨_, rfl⟩
        obtain ⟨a1, ha1⟩ : ∃ a1, a1 = 2 * pk + 1 := ⟨_, rfl⟩
        rw [← ha1, ← ha0] at URJ
        have A0 := Lib.hid ha0; have A1 := Lib.hid ha1
        clear ha0 ha1
        have M0 := Lib.hid (show IntKind.i64.wrap (2 * (pk : Int)) = (a0 : Nat) by have := A0.out; have := HPK.out; rw [IntWalk.i64_in _ (by omega)]; omega)
        have M1 := Lib.hid (show IntKind.i64.wrap ((a0 : Int) + 1) = (a1 : Nat) by have := A0.out; have := A1.out; have := HPK.out; rw [IntWalk.i64_in _ (by omega)]; omega)
        have HL0 := Lib.hid (show a0 < 32 by have := A0.out; have := HP16.out; omega)
        have HL1 := Lib.hid (show a1 < 32 by have := A1.out; have := HP16.out; omega)
        have JNK := Lib.hid (fun V h => JN.out (j + 1) a0 a1 (pk : Int) HL0.out HL1.out V h)
        have HCL := Lib.hid (fun (W : World) (h : SumsB W D (updT n g l b leaf (j + 1))) => (⟨h.tag (by rw [ULK.out]; exact HL0.out), h.tag (by rw [ULK.out]; exact HL1.out)⟩ : W.rangeAt D (32 * a0) (sumC (tagAt (updT n g l b leaf (j + 1)) a0)) ∧ W.rangeAt D (32 * a1) (sumC (tagAt (updT n g l b leaf (j + 1)) a1))))
        have HT := Lib.hid (fun (T : List Int) (a : Nat) (h : a ≠ pk) (ha : a < 32) => show tagAt ((updT n g l b leaf (j + 1)).set pk T) a = tagAt (updT n g l b leaf (j + 1)) a by unfold tagAt; rw [List.getD_eq_getElem?_getD, List.getD_eq_getElem?_getD, List.getElem?_set_ne (fun e => h e.symm)])
        clear JN
        have D5 := Lib.hid (show ((j + 1 : Nat)) < 5 from HLT.out)
        generalize hkk : j + 1 = kk at *
        clear hkk
        go_wp2
        refine wp_region_sched [(0, true), (1, true), (2, true), (3, true), (4, true), (5, true), (6, true), (7, true), (8, true), (9, true), (10, true), (11, true), (12, true), (13, true), (14, true), (15, true), (16, true), (17, true), (18, true), (19, true), (20, true), (21, true), (22, true), (23, true), (24, true), (25, true), (26, true), (27, false), (28, true), (29, false)] (fun W => W.cell? ⟨P, kk, none⟩ = some (.int .i64 (pk : Nat)) ∧ W.rangeAt D (32 * a0) (sumC (tagAt (updT n g l b leaf kk) a0)) ∧ W.rangeAt D (32 * a1) (sumC (tagAt (updT n g l b leaf kk) a1))) (by kernel_rfl) (by kernel_rfl) (⟨HCK.out _ (II.out.pa.keep rfl), HCL.out _ (II.out.d.keep rfl)⟩) ?_
        refine walk_float rfl rfl (fun K' hK => ?_)
        refine gives_move _ rfl ?_
        go_simp
        refine hK _ ?_
        clear hK K'
        refine walk_float rfl rfl (fun K' hK => ?_)
        refine gives_move _ rfl ?_
        go_simp
        refine hK _ ?_
        clear hK K'
        refine walk_float rfl rfl (fun K' hK => ?_)
        refine gives_move _ rfl ?_
        go_simp
        refine hK _ ?_
        clear hK K'
        refine walk_float rfl rfl (fun K' hK => ?_)
        refine gives_int_elem _ _ rfl P 0 5 pc kk rfl rfl D5.out ?_
        go_simp
        refine hK _ ?_
        clear hK K'
        refine walk_float rfl rfl (fun K' hK => ?_)
        refine gives_cell 3 _ rfl ⟨P, kk, none⟩ _ rfl box_int (fun W h => h.1) ?_
        go_simp
        refine hK _ ?_
        clear hK K'
        refine walk_float rfl rfl (fun K' hK => ?_)
        refine gives_move _ rfl ?_
        go_simp
        refine hK _ ?_
        clear hK K'
        refine walk_float rfl rfl (fun K' hK => ?_)
        refine gives_move _ rfl ?_
        go_simp
        refine hK _ ?_
        clear hK K'
        refine walk_float rfl rfl (fun K' hK => ?_)
        refine gives_move _ rfl ?_
        go_simp
        refine hK _ ?_
        clear hK K'
        refine walk_float rfl rfl (fun K' hK => ?_)
        refine gives_int_elem _ _ rfl P 0 5 pc kk rfl rfl D5.out ?_
        go_simp
        refine hK _ ?_
        clear hK K'
        refine walk_float rfl rfl (fun K' hK => ?_)
        refine gives_cell 3 _ rfl ⟨P, kk, none⟩ _ rfl box_int (fun W h => h.1) ?_
        go_simp
        refine hK _ ?_
        clear hK K'
        refine walk_float rfl rfl (fun K' hK => ?_)
        refine gives_move _ rfl ?_
        go_simp
        refine hK _ ?_
        clear hK K'
        refine walk_float rfl rfl (fun K' hK => ?_)
        refine gives_move _ rfl ?_
        go_simp
        refine hK _ ?_
        clear hK K'
        refine walk_float rfl rfl (fun K' hK => ?_)
        refine gives_move _ rfl ?_
        go_simp
        refine hK _ ?_
        clear hK K'
        refine walk_float rfl rfl (fun K' hK => ?_)
        refine gives_int_elem _ _ rfl P 0 5 pc kk rfl rfl D5.out ?_
        go_simp
        refine hK _ ?_
        clear hK K'
        refine walk_float rfl rfl (fun K' hK => ?_)
        refine gives_cell 3 _ rfl ⟨P, kk, none⟩ _ rfl box_int (fun W h => h.1) ?_
        go_simp
        refine hK _ ?_
        clear hK K'
        refine walk_float rfl rfl (fun K' hK => ?_)
        refine gives_int_mul _ _ rfl 2 pk a0 rfl rfl M0.out ?_
        go_simp
        refine hK _ ?_
        clear hK K'
        refine walk_float rfl rfl (fun K' hK => ?_)
        refine gives_sum_elem _ _ rfl D 0 32 c a0 rfl rfl HL0.out ?_
        go_simp
        refine hK _ ?_
        clear hK K'
        refine walk_float rfl rfl (fun K' hK => ?_)
        refine gives_sum_mid _ rfl D (32 * a0) rfl (tagAt (updT n g l b leaf kk) a0) (fun W h => h.2.1) ?_
        go_simp
        refine hK _ ?_
        clear hK K'
        refine walk_float rfl rfl (fun K' hK => ?_)
        refine gives_move _ rfl ?_
        go_simp
        refine hK _ ?_
        clear hK K'
        refine walk_float rfl rfl (fun K' hK => ?_)
        refine gives_move _ rfl ?_
        go_simp
        refine hK _ ?_
        clear hK K'
        refine walk_float rfl rfl (fun K' hK => ?_)
        refine gives_move _ rfl ?_
        go_simp
        refine hK _ ?_
        clear hK K'
        refine walk_float rfl rfl (fun K' hK => ?_)
        refine gives_int_elem _ _ rfl P 0 5 pc kk rfl rfl D5.out ?_
        go_simp
        refine hK _ ?_
        clear hK K'
        refine walk_float rfl rfl (fun K' hK => ?_)
        refine gives_cell 3 _ rfl ⟨P, kk, none⟩ _ rfl box_int (fun W h => h.1) ?_
        go_simp
        refine hK _ ?_
        clear hK K'
        refine walk_float rfl rfl (fun K' hK => ?_)
        refine gives_int_mul _ _ rfl 2 pk a0 rfl rfl M0.out ?_
        go_simp
        refine hK _ ?_
        clear hK K'
        refine walk_float rfl rfl (fun K' hK => ?_)
        refine gives_int_sum _ _ rfl a0 1 a1 rfl rfl M1.out ?_
        go_simp
        refine hK _ ?_
        clear hK K'
        refine walk_float rfl rfl (fun K' hK => ?_)
        refine gives_sum_elem _ _ rfl D 0 32 c a1 rfl rfl HL1.out ?_
        go_simp
        refine hK _ ?_
        clear hK K'
        refine walk_float rfl rfl (fun K' hK => ?_)
        refine gives_sum_mid _ rfl D (32 * a1) rfl (tagAt (updT n g l b leaf kk) a1) (fun W h => h.2.2) ?_
        go_simp
        refine hK _ ?_
        clear hK K'
        have di : RuI w S D P n g l b leaf kk wr.drew := ⟨II.out.lo.drew, II.out.d.keep rfl, II.out.lf.keep rfl, II.out.pa.keep rfl⟩
        refine walk_done rfl rfl (fun K' hK => ?_)
        refine done_four _ _ _ _ _ _ rfl 29 rfl (.slice kp n kc) (.int .i64 pk) (sumVal (tagAt (updT n g l b leaf kk) a0)) (sumVal (tagAt (updT n g l b leaf kk) a1)) rfl rfl rfl rfl (fun _ w => by simp [go_sem]) ((JNK.out wr.drew di.lo).mono ?_)
        rintro e w5 ⟨rfl, hb5⟩
        have d5 : RuI w S D P n g l b leaf kk w5 := ⟨di.lo.trans (hb5.mono (by have := di.d.lt; have := C3.out; omega)), di.d.below hb5, di.lf.below hb5, di.pa.keep (hb5.block P di.pa.lt)⟩
        clear hb5 di
        refine ⟨_, rfl, ⟨HCK.out _ d5.pa, HCL.out _ d5.d⟩, ?_⟩
        go_simp
        refine hK _ _ ?_
        clear hK K'
        refine walk_float rfl rfl (fun K' hK => ?_)
        refine gives_sum_elem _ _ rfl D 0 32 c pk rfl rfl HPK.out ?_
        go_simp
        refine hK _ ?_
        clear hK K'
        refine walk_done rfl rfl (fun K' hK => ?_)
        refine done_sum_store _ _ rfl D pk rfl _ rfl _ d5.d (by rw [ULK.out]; exact HPK.out) ?_
        intro w6 h6 hb6 hs6
        have c60 := h6.tag (k := a0) (by rw [List.length_set, ULK.out]; exact HL0.out)
        have c61 := h6.tag (k := a1) (by rw [List.length_set, ULK.out]; exact HL1.out)
        rw [HT.out _ a0 (by have := A0.out; have := HP1.out; omega) HL0.out] at c60
        rw [HT.out _ a1 (by have := A1.out; have := HP1.out; omega) HL1.out] at c61
        rw [NDN.out, URJ.out, USK.out] at h6
        have I6 := Lib.hid (show RuI w S D P n g l b leaf (kk + 1) w6 from ⟨d5.lo.trans (hb6.below (M := S) (by have := C3.out; omega) (by have := d5.d.lt; have := C3.out; omega)), h6, d5.lf.but hb6 (by have := C3.out; omega), d5.pa.keep (hb6.same P d5.pa.lt (by have := HPD.out; omega))⟩)
        refine ⟨⟨HCK.out _ I6.out.pa, c60, c61⟩, ?_⟩
        go_simp
        refine hK _ _ ?_
        clear hK K'
        clear d5 c60 c61 h6 hb6 hs6
        refine walk_nil ?_
        go_wp2
        go_roundw
        case rel => exact ⟨kk + 1, D5.out, by go_num, I6.out⟩
        case measure => have := D5.out; simp [intOf]; omega
    · obtain rfl : k = 5 := by omega
      have f1 : ¬ ((5 : Nat) : Int) < 5 := by omega
      go_wp2
      go_ret
      first | exact ⟨D, c, rfl, II.out.d, HS.out ▸ II.out.lo⟩ | exact ⟨D, ⟨c, rfl⟩, II.out.d, II.out.lo⟩
end Go.Proofs.YtbdldnhpgpjnoaaDoor
