/- The contracts of package tree's Leaf, Node and parent and of citadelref11's Leaf and Join. Conditions: the package's variable holds the constants; the key has no more than 80,000 bytes; tags have 32 bytes, a sector 128. -/
import Derived.Test.YtbdldnhpgpjnoaaDoorTrNode
namespace Go.Proofs.YtbdldnhpgpjnoaaDoor
open Go.ChangeShapes Go.WideShapes Go.ChangeAt Go.RowKit
set_option linter.unusedVariables false
theorem results_sum {fn : Func} {p : Tmp} (h : fn.results = #[.cell p 27]) (tmps : Array Value) (w : World) (B : Nat) (t : List Int) (hp : tmps.getD p undef = .pointer (some ⟨B, 0, none⟩)) (hB : w.rangeAt B 0 (sumC t)) :
    (results fn tmps).run Tryd.prog w = .ok (sumVal t) w := by
  have hp' : tmps[p]?.getD undef = .pointer (some ⟨B, 0, none⟩) := by simpa using hp
  rw [sumVal_cells]
  simp [results, h, hp', asAddr, run_loadVar_mid w B 0 27 (sumC t) _ hB Tryd.underlying27 rfl (sumC_size t)]
theorem gives_to_byte {o : Oper} {a : Act} {C : World → Prop} {K : Act → Prop} (x : Operand) (ho : o.op = .convert 3 5 x) (z : Int) (hx : a.eval x = .int .i64 z) (v : Int) (hv : IntKind.u8.wrap z = v) (hk : K (a.put o.dst (.int .u8 v))) : ∃ v, Gives Tryd.prog C o a v ∧ K (a.put o.dst v) :=
  ⟨_, fun w _ => by
    subst hv
    unfold execOp
    simp only [ho, hx]
    simp [go_sem], hk⟩
theorem nodeV_none (n : Nat) (g : Nat → Nat) (z : Int) : nodeV n g z nought nought = nought := by unfold nodeV; rw [if_pos ⟨rfl, rfl⟩]
theorem nodeV_some {n : Nat} {g : Nat → Nat} {z : Int} {l r : List Int} (h : ¬ (l = nought ∧ r = nought)) : nodeV n g z l r = tauK n g (nodeText z l r) := by unfold nodeV; rw [if_neg h]
theorem same_not {x y : List Int} (hx : IsSum x) (hy : IsSum y) (h : x ≠ y) : sameSum x y = false := by
  cases e : sameSum x y
  · rfl
  · exact absurd ((sameSum_iff hx hy).1 e) h
theorem same_self {x : List Int} (hx : IsSum x) : sameSum x x = true := (sameSum_iff hx hx).2 rfl
/-- The boxes of a node's walk. -/
structure NB (w : World) (S : Nat) (l r : List Int) (W : World) : Prop where
  L : SumsB W S [l]
  R : SumsB W (S + 1) [r]
  D : SumsB W (S + 1 + 1) [nought]
  b : Below S w W
  s : S + 1 + 1 + 1 ≤ W.heap.size
theorem NB.on {w W W' : World} {S M : Nat} {l r : List Int} (h : NB w S l r W) (hb : Below M W W') (hM : S + 1 + 1 + 1 ≤ M) : NB w S l r W' :=
  ⟨h.L.belowM hb (by omega), h.R.belowM hb (by omega), h.D.belowM hb (by omega), h.b.trans (hb.mono (by omega)), Nat.le_trans h.s hb.size⟩
theorem NB.start {w w1 w2 w3 : World} {S : Nat} {l r : List Int} (hS : w.heap.size = S) (h1 : SumsB w1 S [l]) (b1 : Below S w w1) (s1 : w1.heap.size = S + 1) (h2 : SumsB w2 (S + 1) [r]) (b2 : Below (S + 1) w1 w2) (s2 : w2.heap.size = S + 1 + 1)
    (h3 : SumsB w3 (S + 1 + 1) [nought]) (b3 : Below (S + 1 + 1) w2 w3) (s3 : w3.heap.size = S + 1 + 1 + 1) : NB w S l r w3 :=
  ⟨(h1.belowM b2 (by omega)).belowM b3 (by omega), h2.belowM b3 (by omega), h3, (b1.trans (b2.mono (by omega))).trans (b3.mono (by omega)), by omega⟩

attribute [local irreducible] nought tauK nodeText leafText sumVal sumC
set_option maxRecDepth 100000 in
set_option maxHeartbeats 4000000 in
theorem Node_any (kp : Option Addr) (n kc : Nat) (g : Nat → Nat) (hn : n ≤ 80000) (z : Int) (l r : List Int) (hl : IsSum l) (hr : IsSum r) (w : World) (hk : KeyAt w kp n kc g) :
    Calls Tryd.prog 28 #[.slice kp n kc, .int .i64 z, sumVal l, sumVal r] w fun e w' => e = .returned (sumVal (nodeV n g (IntKind.u8.wrap z) l r)) ∧ Below w.heap.size w w' := by
  have TG := Lib.hid (fun A L R B c (W : World) h1 h2 h3 h4 h5 h6 => tag_node (kp := kp) (n := n) (kc := kc) (g := g) hn (z := IntKind.u8.wrap z) (l := l) (r := r) (isB_wrap z) hl hr (A := A) (L := L) (R := R) (B := B) (c := c) (w := W) h1 h2 h3 h4 h5 h6)
  have YB := Lib.hid (pair_bytes (x := 2) (z := IntKind.u8.wrap z) ⟨by decide, by decide⟩ (isB_wrap z))
  have HK := Lib.hid (fun (W : World) (hb : Below w.heap.size w W) => hk.below hb)
  have EL := Lib.hid (fun h : l ≠ nought => same_not hl nought_sum h)
  have ER := Lib.hid (fun h : r ≠ nought => same_not hr nought_sum h)
  have EN := Lib.hid (same_self nought_sum)
  have NN := Lib.hid (nodeV_none n g (IntKind.u8.wrap z))
  have NS := Lib.hid (fun h => nodeV_some (n := n) (g := g) (z := IntKind.u8.wrap z) (l := l) (r := r) h)
  clear hk hn hl hr
  generalize hzz : IntKind.u8.wrap z = zz at *
  have HZZ := Lib.hid hzz
  clear hzz
  generalize hS : w.heap.size = S at *
  have HS := Lib.hid hS
  clear hS
  by_cases hln : l = nought
  · subst hln
    by_cases hrn : r = nought
    · subst hrn
      go_enter Tryd.func28, Tryd.ntmps28
      go_wp2_with (first
        | (refine wpList_sum_box rfl _ rfl nought rfl S HS.out ?_; intro w1 hL hb hs
           have L1 := Lib.hid hL; have B1 := Lib.hid hb; have S1 := Lib.hid hs; clear hL hb hs)
        | (refine wpList_sum_box rfl _ rfl nought rfl (S + 1) S1.out ?_; intro w2 hR hb hs
           have R2 := Lib.hid hR; have B2 := Lib.hid hb; have S2 := Lib.hid hs; clear hR hb hs)
        | (refine wpList_sum_alloc rfl rfl (S + 1 + 1) S2.out ?_; intro w3 hD hb hs
           have N3 := Lib.hid (NB.start HS.out L1.out B1.out S1.out R2.out B2.out S2.out hD hb hs); have S3 := Lib.hid hs; clear hD hb hs L1 B1 S1 R2 B2 S2)
        | (refine wpList_sum_alloc rfl rfl (S + 1 + 1 + 1) S3.out ?_; intro w4 hE hb hs
           have N4 := Lib.hid (N3.out.on hb (Nat.le_refl _)); have E4 := Lib.hid hE; clear hE hb hs N3)
        | (refine wpList_sum_load rfl _ rfl S 0 rfl nought N4.out.L.one ?_)
        | (refine wpList_sum_load rfl _ rfl (S + 1) 0 rfl nought N4.out.R.one ?_)
        | (refine wpList_sum_load rfl _ rfl (S + 1 + 1 + 1) 0 rfl nought E4.out.one ?_)
        | (refine wpList_sum_eql rfl _ _ rfl nought nought rfl rfl true EN.out ?_)
        | (refine wpList_sum_store rfl _ _ rfl rfl (S + 1 + 1) 0 rfl nought rfl [nought] N4.out.D (by decide) ?_; intro w5 hD hb hs
           have D5 := Lib.hid hD; have B5 := Lib.hid (N4.out.b.trans (hb.below (by omega) (by have := N4.out.s; omega))); clear hD hb hs))
      exact bodyPost_ret (results_sum rfl _ _ (S + 1 + 1) nought rfl D5.out.one) rfl ⟨by rw [NN.out], B5.out⟩
    · skip
      go_enter Tryd.func28, Tryd.ntmps28
      go_wp2_with (first
        | (refine wpList_sum_box rfl _ rfl nought rfl S HS.out ?_; intro w1 hL hb hs
           have L1 := Lib.hid hL; have B1 := Lib.hid hb; have S1 := Lib.hid hs; clear hL hb hs)
        | (refine wpList_sum_box rfl _ rfl r rfl (S + 1) S1.out ?_; intro w2 hR hb hs
           have R2 := Lib.hid hR; have B2 := Lib.hid hb; have S2 := Lib.hid hs; clear hR hb hs)
        | (refine wpList_sum_alloc rfl rfl (S + 1 + 1) S2.out ?_; intro w3 hD hb hs
           have N3 := Lib.hid (NB.start HS.out L1.out B1.out S1.out R2.out B2.out S2.out hD hb hs); have S3 := Lib.hid hs; clear hD hb hs L1 B1 S1 R2 B2 S2)
        | (refine wpList_sum_alloc rfl rfl (S + 1 + 1 + 1) S3.out ?_; intro w4 hE hb hs
           have N4 := Lib.hid (N3.out.on hb (Nat.le_refl _)); have E4 := Lib.hid hE; clear hE hb hs N3)
        | (refine wpList_sum_load rfl _ rfl S 0 rfl nought N4.out.L.one ?_)
        | (refine wpList_sum_load rfl _ rfl (S + 1) 0 rfl r N4.out.R.one ?_)
        | (refine wpList_sum_load rfl _ rfl (S + 1 + 1 + 1) 0 rfl nought E4.out.one ?_)
        | (refine wpList_sum_eql rfl _ _ rfl nought nought rfl rfl true EN.out ?_)
        | (refine wpList_sum_eql rfl _ _ rfl r nought rfl rfl false (ER.out hrn) ?_))
      refine wp_region_sched [(0, true), (1, true), (2, true), (4, true), (5, true), (3, false), (6, false), (7, false), (8, false)] (fun W => True) (by kernel_rfl) (by kernel_rfl) trivial ?_
      refine walk_float rfl rfl (fun K' hK => ?_)
      refine gives_move _ rfl ?_
      go_simp
      refine hK _ ?_
      clear hK K'
      refine walk_float rfl rfl (fun K' hK => ?_)
      refine gives_move _ rfl ?_
      go_simp
      refine hK _ ?_
      clear hK K'
      refine walk_float rfl rfl (fun K' hK => ?_)
      refine gives_to_byte _ rfl z rfl zz HZZ.out ?_
      go_simp
      refine hK _ ?_
      clear hK K'
      refine walk_float rfl rfl (fun K' hK => ?_)
      refine gives_sum_row _ rfl S 0 rfl ?_
      go_simp
      refine hK _ ?_
      clear hK K'
      refine walk_float rfl rfl (fun K' hK => ?_)
      refine gives_sum_row _ rfl (S + 1) 0 rfl ?_
      go_simp
      refine hK _ ?_
      clear hK K'
      have N5 := Lib.hid (N4.out.on (Below.refl _ w4).drew N4.out.s)
      clear N4 E4
      refine walk_done rfl rfl (fun K' hK => ?_)
      refine done_bytes2 _ _ rfl 2 zz rfl rfl ?_
      intro w6 ho hb hs
      have A6 := Lib.hid (own_bytesAt ho YB.out)
      have N6 := Lib.hid (N5.out.on hb N5.out.s)
      have Z6 := Lib.hid N5.out.s
      clear ho hb hs
      refine ⟨trivial, ?_⟩
      go_simp
      refine hK _ _ ?_
      clear hK K'
      refine walk_done rfl rfl (fun K' hK => ?_)
      refine done_slice3 _ _ _ rfl (some ⟨w4.drew.heap.size, 0, none⟩) (some ⟨S, 0, none⟩) (some ⟨S + 1, 0, none⟩) 2 32 32 2 32 32 rfl rfl rfl ?_
      have hb7 : Below w6.heap.size w6 (w6.alloc (.cells #[.slice (some ⟨w4.drew.heap.size, 0, none⟩) 2 2, .slice (some ⟨S, 0, none⟩) 32 32, .slice (some ⟨S + 1, 0, none⟩) 32 32] 22)) := (Below.refl _ _).alloc (Nat.le_refl _) _
      have C7 := Lib.hid (three_cells w6 (.slice (some ⟨w4.drew.heap.size, 0, none⟩) 2 2) (.slice (some ⟨S, 0, none⟩) 32 32) (.slice (some ⟨S + 1, 0, none⟩) 32 32) 22)
      have L7 := Lib.hid (show w6.heap.size < (w6.alloc (.cells #[.slice (some ⟨w4.drew.heap.size, 0, none⟩) 2 2, .slice (some ⟨S, 0, none⟩) 32 32, .slice (some ⟨S + 1, 0, none⟩) 32 32] 22)).heap.size by simp)
      generalize w6.alloc (.cells #[.slice (some ⟨w4.drew.heap.size, 0, none⟩) 2 2, .slice (some ⟨S, 0, none⟩) 32 32, .slice (some ⟨S + 1, 0, none⟩) 32 32] 22) = w7 at *
      have N7 := Lib.hid (N6.out.on hb7 N6.out.s)
      have A7 := Lib.hid (A6.out.below hb7)
      clear hb7 A6
      refine ⟨trivial, ?_⟩
      go_simp
      refine hK _ _ ?_
      clear hK K'
      refine walk_done rfl rfl (fun K' hK => ?_)
      refine done_two _ _ _ _ rfl 26 rfl (.slice kp n kc) (.slice (some ⟨w6.heap.size, 0, none⟩) 3 3) rfl rfl (fun _ w => by simp [go_sem]) ((TG.out w4.drew.heap.size S (S + 1) w6.heap.size 3 w7 (HK.out _ N7.out.b) A7.out N7.out.L N7.out.R L7.out C7.out).mono ?_)
      rintro e w8 ⟨rfl, hb⟩
      have N8 := Lib.hid (N7.out.on hb N7.out.s)
      clear hb N7 A7 C7 L7 N6 N5 Z6 TG
      refine ⟨_, rfl, trivial, ?_⟩
      go_simp
      refine hK _ _ ?_
      clear hK K'
      refine walk_done rfl rfl (fun K' hK => ?_)
      refine done_sum_store _ _ rfl (S + 1 + 1) 0 rfl (tauK n g (nodeText zz nought r)) rfl [nought] N8.out.D (by decide) ?_
      intro w9 hD hb hs
      have D9 := Lib.hid hD; have B9 := Lib.hid (N8.out.b.trans (hb.below (by omega) (by have := N8.out.s; omega))); clear hD hb hs N8
      refine ⟨trivial, ?_⟩
      refine hK _ _ ?_
      clear hK K'
      refine walk_nil ?_
      go_wp2
      exact bodyPost_ret (results_sum rfl _ _ (S + 1 + 1) (tauK n g (nodeText zz nought r)) rfl D9.out.one) rfl ⟨by rw [NS.out (fun h => hrn h.2)], B9.out⟩
  · skip
    go_enter Tryd.func28, Tryd.ntmps28
    go_wp2_with (first
      | (refine wpList_sum_box rfl _ rfl l rfl S HS.out ?_; intro w1 hL hb hs
         have L1 := Lib.hid hL; have B1 := Lib.hid hb; have S1 := Lib.hid hs; clear hL hb hs)
      | (refine wpList_sum_box rfl _ rfl r rfl (S + 1) S1.out ?_; intro w2 hR hb hs
         have R2 := Lib.hid hR; have B2 := Lib.hid hb; have S2 := Lib.hid hs; clear hR hb hs)
      | (refine wpList_sum_alloc rfl rfl (S + 1 + 1) S2.out ?_; intro w3 hD hb hs
         have N3 := Lib.hid (NB.start HS.out L1.out B1.out S1.out R2.out B2.out S2.out hD hb hs); have S3 := Lib.hid hs; clear hD hb hs L1 B1 S1 R2 B2 S2)
      | (refine wpList_sum_alloc rfl rfl (S + 1 + 1 + 1) S3.out ?_; intro w4 hE hb hs
         have N4 := Lib.hid (N3.out.on hb (Nat.le_refl _)); have E4 := Lib.hid hE; clear hE hb hs N3)
      | (refine wpList_sum_load rfl _ rfl S 0 rfl l N4.out.L.one ?_)
      | (refine wpList_sum_load rfl _ rfl (S + 1) 0 rfl r N4.out.R.one ?_)
      | (refine wpList_sum_load rfl _ rfl (S + 1 + 1 + 1) 0 rfl nought E4.out.one ?_)
      | (refine wpList_sum_eql rfl _ _ rfl l nought rfl rfl false (EL.out hln) ?_))
    refine wp_region_sched [(0, true), (1, true), (2, true), (4, true), (5, true), (3, false), (6, false), (7, false), (8, false)] (fun W => True) (by kernel_rfl) (by kernel_rfl) trivial ?_
    refine walk_float rfl rfl (fun K' hK => ?_)
    refine gives_move _ rfl ?_
    go_simp
    refine hK _ ?_
    clear hK K'
    refine walk_float rfl rfl (fun K' hK => ?_)
    refine gives_move _ rfl ?_
    go_simp
    refine hK _ ?_
    clear hK K'
    refine walk_float rfl rfl (fun K' hK => ?_)
    refine gives_to_byte _ rfl z rfl zz HZZ.out ?_
    go_simp
    refine hK _ ?_
    clear hK K'
    refine walk_float rfl rfl (fun K' hK => ?_)
    refine gives_sum_row _ rfl S 0 rfl ?_
    go_simp
    refine hK _ ?_
    clear hK K'
    refine walk_float rfl rfl (fun K' hK => ?_)
    refine gives_sum_row _ rfl (S + 1) 0 rfl ?_
    go_simp
    refine hK _ ?_
    clear hK K'
    have N5 := Lib.hid (N4.out.on (Below.refl _ w4).drew N4.out.s)
    clear N4 E4
    refine walk_done rfl rfl (fun K' hK => ?_)
    refine done_bytes2 _ _ rfl 2 zz rfl rfl ?_
    intro w6 ho hb hs
    have A6 := Lib.hid (own_bytesAt ho YB.out)
    have N6 := Lib.hid (N5.out.on hb N5.out.s)
    have Z6 := Lib.hid N5.out.s
    clear ho hb hs
    refine ⟨trivial, ?_⟩
    go_simp
    refine hK _ _ ?_
    clear hK K'
    refine walk_done rfl rfl (fun K' hK => ?_)
    refine done_slice3 _ _ _ rfl (some ⟨w4.drew.heap.size, 0, none⟩) (some ⟨S, 0, none⟩) (some ⟨S + 1, 0, none⟩) 2 32 32 2 32 32 rfl rfl rfl ?_
    have hb7 : Below w6.heap.size w6 (w6.alloc (.cells #[.slice (some ⟨w4.drew.heap.size, 0, none⟩) 2 2, .slice (some ⟨S, 0, none⟩) 32 32, .slice (some ⟨S + 1, 0, none⟩) 32 32] 22)) := (Below.refl _ _).alloc (Nat.le_refl _) _
    have C7 := Lib.hid (three_cells w6 (.slice (some ⟨w4.drew.heap.size, 0, none⟩) 2 2) (.slice (some ⟨S, 0, none⟩) 32 32) (.slice (some ⟨S + 1, 0, none⟩) 32 32) 22)
    have L7 := Lib.hid (show w6.heap.size < (w6.alloc (.cells #[.slice (some ⟨w4.drew.heap.size, 0, none⟩) 2 2, .slice (some ⟨S, 0, none⟩) 32 32, .slice (some ⟨S + 1, 0, none⟩) 32 32] 22)).heap.size by simp)
    generalize w6.alloc (.cells #[.slice (some ⟨w4.drew.heap.size, 0, none⟩) 2 2, .slice (some ⟨S, 0, none⟩) 32 32, .slice (some ⟨S + 1, 0, none⟩) 32 32] 22) = w7 at *
    have N7 := Lib.hid (N6.out.on hb7 N6.out.s)
    have A7 := Lib.hid (A6.out.below hb7)
    clear hb7 A6
    refine ⟨trivial, ?_⟩
    go_simp
    refine hK _ _ ?_
    clear hK K'
    refine walk_done rfl rfl (fun K' hK => ?_)
    refine done_two _ _ _ _ rfl 26 rfl (.slice kp n kc) (.slice (some ⟨w6.heap.size, 0, none⟩) 3 3) rfl rfl (fun _ w => by simp [go_sem]) ((TG.out w4.drew.heap.size S (S + 1) w6.heap.size 3 w7 (HK.out _ N7.out.b) A7.out N7.out.L N7.out.R L7.out C7.out).mono ?_)
    rintro e w8 ⟨rfl, hb⟩
    have N8 := Lib.hid (N7.out.on hb N7.out.s)
    clear hb N7 A7 C7 L7 N6 N5 Z6 TG
    refine ⟨_, rfl, trivial, ?_⟩
    go_simp
    refine hK _ _ ?_
    clear hK K'
    refine walk_done rfl rfl (fun K' hK => ?_)
    refine done_sum_store _ _ rfl (S + 1 + 1) 0 rfl (tauK n g (nodeText zz l r)) rfl [nought] N8.out.D (by decide) ?_
    intro w9 hD hb hs
    have D9 := Lib.hid hD; have B9 := Lib.hid (N8.out.b.trans (hb.below (by omega) (by have := N8.out.s; omega))); clear hD hb hs N8
    refine ⟨trivial, ?_⟩
    refine hK _ _ ?_
    clear hK K'
    refine walk_nil ?_
    go_wp2
    exact bodyPost_ret (results_sum rfl _ _ (S + 1 + 1) (tauK n g (nodeText zz l r)) rfl D9.out.one) rfl ⟨by rw [NS.out (fun h => hln h.1)], B9.out⟩
set_option maxRecDepth 100000 in
set_option maxHeartbeats 4000000 in
theorem refJoin_any (kp : Option Addr) (n kc : Nat) (g : Nat → Nat) (hn : n ≤ 80000) (z : Int) (l r : List Int) (hl : IsSum l) (hr : IsSum r) (w : World) (hk : KeyAt w kp n kc g) :
    Calls Tryd.prog 29 #[.slice kp n kc, .int .i64 z, sumVal l, sumVal r] w fun e w' => e = .returned (sumVal (nodeV n g (IntKind.u8.wrap z) l r)) ∧ Below w.heap.size w w' := by
  have TG := Lib.hid (fun (P : Option Addr) c (W : World) h1 h2 => ref_tag (kp := kp) (n := n) (kc := kc) (g := g) hn (nodeText_bytes (isB_wrap z) hl hr) (by rw [nodeText_len hl hr]; decide) (p := P) (c := c) (w := W) h1 h2)
  have TL := Lib.hid (nodeText_len (z := IntKind.u8.wrap z) hl hr)
  have RL := Lib.hid (fun (W : World) B (h : SumsB W B [l]) => bytes_rows (l := l) (by rw [hl.1]; exact sumsB_bytes h) hl.2)
  have RR := Lib.hid (fun (W : World) B (h : SumsB W B [r]) => bytes_rows (l := r) (by rw [hr.1]; exact sumsB_bytes h) hr.2)
  have LL := Lib.hid hl.1; have LR := Lib.hid hr.1
  have HK := Lib.hid (fun (W : World) (hb : Below w.heap.size w W) => hk.below hb)
  have EL := Lib.hid (fun h : l ≠ nought => same_not hl nought_sum h)
  have ER := Lib.hid (fun h : r ≠ nought => same_not hr nought_sum h)
  have EN := Lib.hid (same_self nought_sum)
  have NN := Lib.hid (nodeV_none n g (IntKind.u8.wrap z))
  have NS := Lib.hid (fun h => nodeV_some (n := n) (g := g) (z := IntKind.u8.wrap z) (l := l) (r := r) h)
  clear hk hn hl hr
  generalize hzz : IntKind.u8.wrap z = zz at *
  have HZZ := Lib.hid hzz
  clear hzz
  have HTX := Lib.hid (show ([2, zz] ++ l) ++ r = nodeText zz l r by unfold nodeText; rw [List.append_assoc])
  generalize hS : w.heap.size = S at *
  have HS := Lib.hid hS
  clear hS
  by_cases hln : l = nought
  · subst hln
    by_cases hrn : r = nought
    · subst hrn
      go_enter Tryd.func29, Tryd.ntmps29
      go_wp2_with (first
        | (refine wpList_sum_box rfl _ rfl nought rfl S HS.out ?_; intro w1 hL hb hs
           have L1 := Lib.hid hL; have B1 := Lib.hid hb; have S1 := Lib.hid hs; clear hL hb hs)
        | (refine wpList_sum_box rfl _ rfl nought rfl (S + 1) S1.out ?_; intro w2 hR hb hs
           have R2 := Lib.hid hR; have B2 := Lib.hid hb; have S2 := Lib.hid hs; clear hR hb hs)
        | (refine wpList_sum_alloc rfl rfl (S + 1 + 1) S2.out ?_; intro w3 hD hb hs
           have N3 := Lib.hid (NB.start HS.out L1.out B1.out S1.out R2.out B2.out S2.out hD hb hs); have S3 := Lib.hid hs; clear hD hb hs L1 B1 S1 R2 B2 S2)
        | (refine wpList_sum_load rfl _ rfl S 0 rfl nought N3.out.L.one ?_)
        | (refine wpList_sum_load rfl _ rfl (S + 1) 0 rfl nought N3.out.R.one ?_)
        | (refine wpList_sum_build0 rfl rfl ?_)
        | (refine wpList_sum_eql rfl _ _ rfl nought nought rfl rfl true EN.out ?_)
        | (refine wpList_sum_store rfl _ _ rfl rfl (S + 1 + 1) 0 rfl nought rfl [nought] N3.out.D (by decide) ?_; intro w5 hD hb hs
           have D5 := Lib.hid hD; have B5 := Lib.hid (N3.out.b.trans (hb.below (by omega) (by have := N3.out.s; omega))); clear hD hb hs))
      exact bodyPost_ret (results_sum rfl _ _ (S + 1 + 1) nought rfl D5.out.one) rfl ⟨by rw [NN.out], B5.out⟩
    · skip
      go_enter Tryd.func29, Tryd.ntmps29
      go_wp2_with (first
        | (refine wpList_sum_box rfl _ rfl nought rfl S HS.out ?_; intro w1 hL hb hs
           have L1 := Lib.hid hL; have B1 := Lib.hid hb; have S1 := Lib.hid hs; clear hL hb hs)
        | (refine wpList_sum_box rfl _ rfl r rfl (S + 1) S1.out ?_; intro w2 hR hb hs
           have R2 := Lib.hid hR; have B2 := Lib.hid hb; have S2 := Lib.hid hs; clear hR hb hs)
        | (refine wpList_sum_alloc rfl rfl (S + 1 + 1) S2.out ?_; intro w3 hD hb hs
           have N3 := Lib.hid (NB.start HS.out L1.out B1.out S1.out R2.out B2.out S2.out hD hb hs); have S3 := Lib.hid hs; clear hD hb hs L1 B1 S1 R2 B2 S2)
        | (refine wpList_sum_load rfl _ rfl S 0 rfl nought N3.out.L.one ?_)
        | (refine wpList_sum_load rfl _ rfl (S + 1) 0 rfl r N3.out.R.one ?_)
        | (refine wpList_sum_build0 rfl rfl ?_)
        | (refine wpList_sum_eql rfl _ _ rfl nought nought rfl rfl true EN.out ?_)
        | (refine wpList_sum_eql rfl _ _ rfl r nought rfl rfl false (ER.out hrn) ?_)
        | (refine wpList_bytes2 rfl _ _ rfl 2 zz rfl (by show Value.int .u8 (IntKind.u8.wrap z) = _; rw [HZZ.out]) ?_; intro w5 ho hb hs
           have N5 := Lib.hid (N3.out.on hb (by rw [S3.out]; exact Nat.le_refl _)); have O5 := Lib.hid ho; have Z5 := Lib.hid hb.size; clear ho hb hs N3)
        | (refine wpList_sum_row rfl _ rfl S 0 rfl ?_)
        | (refine wpList_sum_row rfl _ rfl (S + 1) 0 rfl ?_)
        | (refine wpList_app elemByte rfl _ _ rfl w3.heap.size w5.heap.size _ [2, zz] nought (some ⟨S, 0, none⟩) 32 32 rfl rfl LL.out.symm O5.out (RL.out _ _ N5.out.L) (by rw [LL.out]; exact (by decide : 2 + 32 ≤ 4000000)) (by decide) Z5.out ?_
           intro v6 w6 ho hb
           have N6 := Lib.hid (N5.out.on hb (by rw [S3.out]; exact Nat.le_refl _)); have O6 := Lib.hid ho; have Z6 := Lib.hid (Nat.le_trans Z5.out hb.size); clear ho hb N5 O5 Z5)
        | (refine wpList_app elemByte rfl _ _ rfl w3.heap.size w6.heap.size _ ([2, zz] ++ nought) r (some ⟨S + 1, 0, none⟩) 32 32 rfl rfl LR.out.symm O6.out (RR.out _ _ N6.out.R) (by rw [List.length_append, LL.out, LR.out]; exact (by decide : 2 + 32 + 32 ≤ 4000000)) (by decide) Z6.out ?_
           intro v7 w7 ho hb
           rw [HTX.out] at ho
           obtain ⟨p7, c7, rfl, _, _, hr7, _⟩ := ho.rows elemByte.len
           rw [TL.out]
           have R7 := Lib.hid hr7; have N7 := Lib.hid (N6.out.on hb (by rw [S3.out]; exact Nat.le_refl _)); clear ho hb N6 O6 hr7)
        | (go_at_call 27
           have TT := TG.out p7 c7 w7 (HK.out _ N7.out.b) R7.out
           rw [TL.out] at TT
           refine TT.mono ?_; rintro e w8 ⟨rfl, hb⟩; clear TT
           have N8 := Lib.hid (N7.out.on hb N7.out.s); clear hb N7 TG)
        | (refine wpList_sum_store rfl _ _ rfl rfl (S + 1 + 1) 0 rfl (tauK n g (nodeText zz nought r)) rfl [nought] N8.out.D (by decide) ?_; intro w9 hD hb hs
           have D9 := Lib.hid hD; have B9 := Lib.hid (N8.out.b.trans (hb.below (by omega) (by have := N8.out.s; omega))); clear hD hb hs))
      exact bodyPost_ret (results_sum rfl _ _ (S + 1 + 1) (tauK n g (nodeText zz nought r)) rfl D9.out.one) rfl ⟨by rw [NS.out (fun h => hrn h.2)], B9.out⟩
  · skip
    go_enter Tryd.func29, Tryd.ntmps29
    go_wp2_with (first
      | (refine wpList_sum_box rfl _ rfl l rfl S HS.out ?_; intro w1 hL hb hs
         have L1 := Lib.hid hL; have B1 := Lib.hid hb; have S1 := Lib.hid hs; clear hL hb hs)
      | (refine wpList_sum_box rfl _ rfl r rfl (S + 1) S1.out ?_; intro w2 hR hb hs
         have R2 := Lib.hid hR; have B2 := Lib.hid hb; have S2 := Lib.hid hs; clear hR hb hs)
      | (refine wpList_sum_alloc rfl rfl (S + 1 + 1) S2.out ?_; intro w3 hD hb hs
         have N3 := Lib.hid (NB.start HS.out L1.out B1.out S1.out R2.out B2.out S2.out hD hb hs); have S3 := Lib.hid hs; clear hD hb hs L1 B1 S1 R2 B2 S2)
      | (refine wpList_sum_load rfl _ rfl S 0 rfl l N3.out.L.one ?_)
      | (refine wpList_sum_load rfl _ rfl (S + 1) 0 rfl r N3.out.R.one ?_)
      | (refine wpList_sum_build0 rfl rfl ?_)
      | (refine wpList_sum_eql rfl _ _ rfl l nought rfl rfl false (EL.out hln) ?_)
      | (refine wpList_bytes2 rfl _ _ rfl 2 zz rfl (by show Value.int .u8 (IntKind.u8.wrap z) = _; rw [HZZ.out]) ?_; intro w5 ho hb hs
         have N5 := Lib.hid (N3.out.on hb (by rw [S3.out]; exact Nat.le_refl _)); have O5 := Lib.hid ho; have Z5 := Lib.hid hb.size; clear ho hb hs N3)
      | (refine wpList_sum_row rfl _ rfl S 0 rfl ?_)
      | (refine wpList_sum_row rfl _ rfl (S + 1) 0 rfl ?_)
      | (refine wpList_app elemByte rfl _ _ rfl w3.heap.size w5.heap.size _ [2, zz] l (some ⟨S, 0, none⟩) 32 32 rfl rfl LL.out.symm O5.out (RL.out _ _ N5.out.L) (by rw [LL.out]; exact (by decide : 2 + 32 ≤ 4000000)) (by decide) Z5.out ?_
         intro v6 w6 ho hb
         have N6 := Lib.hid (N5.out.on hb (by rw [S3.out]; exact Nat.le_refl _)); have O6 := Lib.hid ho; have Z6 := Lib.hid (Nat.le_trans Z5.out hb.size); clear ho hb N5 O5 Z5)
      | (refine wpList_app elemByte rfl _ _ rfl w3.heap.size w6.heap.size _ ([2, zz] ++ l) r (some ⟨S + 1, 0, none⟩) 32 32 rfl rfl LR.out.symm O6.out (RR.out _ _ N6.out.R) (by rw [List.length_append, LL.out, LR.out]; exact (by decide : 2 + 32 + 32 ≤ 4000000)) (by decide) Z6.out ?_
         intro v7 w7 ho hb
         rw [HTX.out] at ho
         obtain ⟨p7, c7, rfl, _, _, hr7, _⟩ := ho.rows elemByte.len
         rw [TL.out]
         have R7 := Lib.hid hr7; have N7 := Lib.hid (N6.out.on hb (by rw [S3.out]; exact Nat.le_refl _)); clear ho hb N6 O6 hr7)
      | (go_at_call 27
         have TT := TG.out p7 c7 w7 (HK.out _ N7.out.b) R7.out
         rw [TL.out] at TT
         refine TT.mono ?_; rintro e w8 ⟨rfl, hb⟩; clear TT
         have N8 := Lib.hid (N7.out.on hb N7.out.s); clear hb N7 TG)
      | (refine wpList_sum_store rfl _ _ rfl rfl (S + 1 + 1) 0 rfl (tauK n g (nodeText zz l r)) rfl [nought] N8.out.D (by decide) ?_; intro w9 hD hb hs
         have D9 := Lib.hid hD; have B9 := Lib.hid (N8.out.b.trans (hb.below (by omega) (by have := N8.out.s; omega))); clear hD hb hs))
    exact bodyPost_ret (results_sum rfl _ _ (S + 1 + 1) (tauK n g (nodeText zz l r)) rfl D9.out.one) rfl ⟨by rw [NS.out (fun h => hln h.1)], B9.out⟩
end Go.Proofs.YtbdldnhpgpjnoaaDoor
