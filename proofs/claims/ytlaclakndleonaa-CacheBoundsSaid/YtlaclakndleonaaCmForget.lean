/- The contracts of forget and remove. Conditions: the cache lies in memory. -/
import Derived.Test.YtlaclakndleonaaCmGives
namespace Go.Proofs.Ytlaclakndleonaa
open Go.ChangeShapes Go.WideShapes Go.ChangeAt Go.RowKit
set_option linter.unusedVariables false
set_option maxRecDepth 100000 in
set_option maxHeartbeats 2000000 in
theorem forget_any {w : World} {B M : Nat} {q : Int} {v : Value} {ls : List LineOf} {ks : List (Int × Int)} (h : CS w B M q v ls ks) (u c : Int) :
    Calls Try.prog 32 #[.pointer (some ⟨B, 0, none⟩), .agg #[.int .i64 u, .int .i64 c]] w fun e w' => e = .returned (.tuple #[]) ∧ CT w w' B M q v ls (without ks u c) := by
  have HC := Lib.hid h
  have HW := Lib.hid (h.below ((Below.refl _ w).alloc (Nat.le_refl _) (.cells #[.int .i64 u, .int .i64 c] plT)))
  have HP := Lib.hid (PlBox.alloc w u c)
  have BW := Lib.hid ((Below.refl w.heap.size w).alloc (Nat.le_refl _) (.cells #[.int .i64 u, .int .i64 c] plT))
  have NO := Lib.hid (show v.ownBlock ≠ some w.heap.size from fun e => absurd (h.own.blockTop _ e) (Nat.lt_irrefl _))
  have LW := Lib.hid (without_len ks u c)
  have c2 := HW.out.c2
  clear h
  obtain ⟨p, cap, hv, -, -, -, -⟩ := HC.out.own.rows elemPlace.len
  generalize List.length _ = n at hv
  subst hv
  have HD := Lib.hid (DeleteFunc_any HW.out.own (by have := HC.out.few; omega) w.heap.size u c HP.out NO.out)
  go_enter Try.func32, Try.ntmps32
  go_wp2_with (first
    | (go_at_call 34
       refine HD.out.mono ?_; rintro e w5 ⟨v5, rfl, o5, r5, k5⟩
       have RT := Lib.hid (HW.out.order k5 o5 (fun k hk => .inl (r5 k hk)) (by have := HC.out.few; have := LW.out; omega))
       have TT := Lib.hid (CT.from HC.out BW.out RT.out.2)
       have d2 : w5.cell? ⟨B, 2, none⟩ = some (.slice p n cap) := cell_of_row _ _ _ _ _ _ RT.out.1
       have d3 : w5.frozen? ⟨B, 2, none⟩ = false := frozen_of_row _ _ _ _ _ RT.out.1
       obtain ⟨p5, c5, hv5, -, -, -, -⟩ := o5.rows elemPlace.len
       generalize List.length _ = n5 at hv5
       subst hv5
       clear o5 r5 k5))
  go_end0
  exact ⟨rfl, TT.out⟩
attribute [local irreducible] findL outL lineC lineAt
set_option maxRecDepth 100000 in
set_option maxHeartbeats 2000000 in
theorem remove_any {w : World} {B M : Nat} {q : Int} {v : Value} {ls : List LineOf} {ks : List (Int × Int)} (h : CS w B M q v ls ks) (ha : Apart ls) {u c : Int} (hu : okI u) (hc : okI c) (hf : findL ls u c < ls.length) :
    Calls Try.prog 31 #[.pointer (some ⟨B, 0, none⟩), .agg #[.int .i64 u, .int .i64 c]] w fun e w' => e = .returned (.tuple #[]) ∧ CT w w' B M q v (outL ls (findL ls u c)) (without ks u c) := by
  have HC := Lib.hid h
  have HW := Lib.hid (h.below ((Below.refl _ w).alloc (Nat.le_refl _) (.cells #[.int .i64 u, .int .i64 c] plT)))
  have HP := Lib.hid (PlBox.alloc w u c)
  have BW := Lib.hid ((Below.refl w.heap.size w).alloc (Nat.le_refl _) (.cells #[.int .i64 u, .int .i64 c] plT))
  have NM := Lib.hid (show w.heap.size ≠ M from fun e => absurd h.map.lt (by omega))
  have HDR := Lib.hid (fun (ty : TypeId) (W : World) (m : MapL W M ls) => MapL.out m ha hu hc hf ty)
  clear h ha hf
  generalize outL ls (findL ls u c) = ls' at *
  go_enter Try.func31, Try.ntmps31
  go_wp2
  generalize w.alloc (.cells #[.int .i64 u, .int .i64 c] plT) = w1 at *
  obtain ⟨w5, r5, m5, k5⟩ := HDR.out 0 w1.drew (HW.out.map.keep rfl)
  have K5 := Lib.hid (show Keeps (fun k => k = M) w1 w5 from ((Keeps.refl (fun k => k = M) w1).drew).trans k5)
  have R5 := Lib.hid r5
  have H5 := Lib.hid (HW.out.turned K5.out m5)
  have T5 := Lib.hid (CT.from HC.out BW.out (HW.out.turn K5.out m5))
  have P5 := Lib.hid (HP.out.keep (K5.out.block _ HP.out.lt NM.out))
  have C1 := Lib.hid HW.out.c1
  have D1 := Lib.hid H5.out.c1
  have HFG := Lib.hid (forget_any H5.out u c)
  clear HDR r5 m5 k5
  refine wp_region_sched [(0, true), (1, true), (2, true), (3, true), (4, true), (5, false)] (fun V => V.cell? ⟨B, 1, none⟩ = some (.map (some M)) ∧ PlBox V w.heap.size u c) (by kernel_rfl) (by kernel_rfl) ⟨C1.out, HP.out⟩ ?_
  refine walk_float rfl rfl (fun K hK => ?_)
  refine gives_move _ rfl ?_
  go_simp
  refine hK _ ?_
  clear hK K
  refine walk_float rfl rfl (fun K hK => ?_)
  refine gives_nil_check _ rfl ⟨B, 0, none⟩ rfl ?_
  go_simp
  refine hK _ ?_
  clear hK K
  refine walk_float rfl rfl (fun K hK => ?_)
  refine gives_cafield _ 1 rfl (by decide) B rfl ?_
  go_simp
  refine hK _ ?_
  clear hK K
  refine walk_float rfl rfl (fun K hK => ?_)
  refine gives_cell mapT _ rfl ⟨B, 1, none⟩ _ rfl box_map (fun V hV => hV.1) ?_
  go_simp
  refine hK _ ?_
  clear hK K
  refine walk_float rfl rfl (fun K hK => ?_)
  refine gives_pl_load _ rfl w.heap.size 0 rfl u c (fun V hV => hV.2.range) ?_
  go_simp
  refine hK _ ?_
  clear hK K
  refine walk_done rfl rfl (fun K hK => ?_)
  refine done_delete _ _ rfl M u c rfl rfl w5 R5.out ?_
  refine ⟨⟨D1.out, P5.out⟩, ?_⟩
  go_simp
  refine hK _ _ ?_
  clear hK K
  refine walk_nil ?_

  go_wp2_with (first
    | (refine wpList_pl_load rfl _ rfl w.heap.size 0 rfl u c P5.out.range ?_)
    | (go_at_call 32
       refine HFG.out.mono ?_; rintro e w6 ⟨rfl, t6⟩
       have T6 := Lib.hid (T5.out.trans fun v1 h1 => by
         obtain rfl : v = v1 := Option.some.inj (H5.out.c2.symm.trans h1.c2)
         exact t6)
       clear t6))
  go_end0
  exact ⟨rfl, T6.out⟩
set_option maxRecDepth 100000 in
set_option maxHeartbeats 2000000 in
theorem use_tree {w : World} {B M : Nat} {q : Int} {v : Value} {ls : List LineOf} {ks : List (Int × Int)} (h : CS w B M q v ls ks) (u c : Int) (hf : ks.length ≤ 99) :
    Calls Try.prog 26 #[.pointer (some ⟨B, 0, none⟩), .agg #[.int .i64 u, .int .i64 c]] w fun e w' => e = .returned (.tuple #[]) ∧ CT w w' B M q v ls (without ks u c ++ [(u, c)]) := by
  have HC := Lib.hid h
  have HW := Lib.hid (h.below ((Below.refl _ w).alloc (Nat.le_refl _) (.cells #[.int .i64 u, .int .i64 c] plT)))
  have HP := Lib.hid (PlBox.alloc w u c)
  have BW := Lib.hid ((Below.refl w.heap.size w).alloc (Nat.le_refl _) (.cells #[.int .i64 u, .int .i64 c] plT))
  have SZ1 := Lib.hid (show (w.alloc (.cells #[.int .i64 u, .int .i64 c] plT)).heap.size = w.heap.size + 1 from World.size_alloc _ _)
  have LW := Lib.hid (show (without ks u c).length ≤ 99 from Nat.le_trans (without_len ks u c) hf)
  have NP := Lib.hid (show ¬ csS B M v w.heap.size from fun e => absurd (h.own_lt e) (Nat.lt_irrefl _))
  have HFG := Lib.hid (forget_any HW.out u c)
  clear h hf
  generalize without ks u c = ks' at *
  go_enter Try.func26, Try.ntmps26
  go_wp2_with (first
    | (refine wpList_pl_load rfl _ rfl w.heap.size 0 rfl u c HP.out.range ?_)
    | (go_at_call 32
       refine HFG.out.mono ?_; rintro e w2 ⟨rfl, t2⟩
       have T2 := Lib.hid t2
       clear t2))
  have P2 := Lib.hid (HP.out.keep (CT.other HW.out T2.out HP.out.lt NP.out))
  have T3 := Lib.hid (CT.from HC.out BW.out T2.out)
  clear HW HP BW HFG
  obtain ⟨v1, h1, -, h3⟩ := T2.out
  have H1 := Lib.hid h1
  have NP1 := Lib.hid (show v1.ownBlock ≠ some w.heap.size from fun e => by
    rcases h3 _ (.inr (.inr e)) with e2 | e2
    · exact NP.out e2
    · have := SZ1.out; omega)
  have NB1 := Lib.hid (show w.heap.size ≠ B from fun e => by
    have := HC.out.lt; omega)
  clear h1 h3 T2
  obtain ⟨p1, c1, hv1, -, -, -, -⟩ := H1.out.own.rows elemPlace.len
  generalize List.length _ = n1 at hv1
  subst hv1
  have PD := Lib.hid (show PlBox w2.drew w.heap.size u c from P2.out)
  have HD := Lib.hid (show CS w2.drew B M q (.slice p1 n1 c1) ls ks' from H1.out.keep (Nat.le_refl _) fun _ _ => rfl)
  have X2 := Lib.hid (PD.out.keep (Below.heap_alloc w2.drew (.cells #[.int .i64 u, .int .i64 c] plT) _ PD.out.lt))
  have B2 := Lib.hid ((Below.refl w2.drew.heap.size w2.drew).alloc (Nat.le_refl _) (.cells #[.int .i64 u, .int .i64 c] plT))
  refine wp_region_tree (.float 0 (.float 1 (.float 2 (.float 3 (.float 5 (.two 4 (.one 6 (.one 7 (.float 8 (.float 9 (.one 10 .over))))) 6 (.one 4 (.one 7 (.float 8 (.float 9 (.one 10 .over)))))))))) ) (fun V => PlBox V w.heap.size u c) (by kernel_rfl) (by kernel_rfl) PD.out ?_
  refine tree_float rfl rfl (fun K hK => ?_)
  refine gives_move _ rfl ?_
  go_simp
  refine hK _ ?_
  clear hK K
  refine tree_float rfl rfl (fun K hK => ?_)
  refine gives_move _ rfl ?_
  go_simp
  refine hK _ ?_
  clear hK K
  refine tree_float rfl rfl (fun K hK => ?_)
  refine gives_nil_check _ rfl ⟨B, 0, none⟩ rfl ?_
  go_simp
  refine hK _ ?_
  clear hK K
  refine tree_float rfl rfl (fun K hK => ?_)
  refine gives_cafield _ 2 rfl (by decide) B rfl ?_
  go_simp
  refine hK _ ?_
  clear hK K
  refine tree_float rfl rfl (fun K hK => ?_)
  refine gives_pl_load _ rfl w.heap.size 0 rfl u c (fun V hV => hV.range) ?_
  go_simp
  refine hK _ ?_
  clear hK K
  refine tree_two ?_ ?_
  · refine tree_one rfl rfl (fun K hK => ?_)
    refine done_load_box plS _ rfl ⟨B, 2, none⟩ _ rfl box_places (HD.out).c2 ?_
    refine ⟨PD.out, ?_⟩
    go_simp
    refine hK _ _ ?_
    clear hK K
    refine tree_one rfl rfl (fun K hK => ?_)
    refine done_place1 _ rfl u c rfl ?_
    refine ⟨X2.out, ?_⟩
    go_simp
    refine hK _ _ ?_
    clear hK K
    refine tree_one rfl rfl (fun K hK => ?_)
    refine done_append_list elemPlace _ _ rfl 0 _ _ ks' [(u, c)] (some ⟨w2.drew.heap.size, 0, none⟩) 1 1 rfl rfl rfl (HD.out.below B2.out).own (rows_place1 w2.drew u c) (by have := LW.out; simp; omega) (by decide) (Nat.zero_le _) ?_
    intro v5 w5 ho5 hg5 hr5
    have O5 := Lib.hid ho5
    have K5 := Lib.hid (show Keeps (fun k => (Value.slice p1 n1 c1).ownBlock = some k) w2.drew w5 from (Keeps.of (S := fun k => (Value.slice p1 n1 c1).ownBlock = some k) B2.out).grownL hg5 (fun k hk _ => hk))
    have RT := Lib.hid (HD.out.order K5.out ho5 (fun k hk => by
      rcases hr5 with e | e
      · exact .inl (e.symm.trans hk)
      · refine .inr ?_
        rw [← Option.some.inj (e.symm.trans hk)]
        show w2.heap.size ≤ (w2.alloc (.cells #[.int .i64 u, .int .i64 c] plT)).heap.size
        rw [World.size_alloc]; omega) (by have := LW.out; simp; omega))
    have TT := Lib.hid (T3.out.trans fun v1' h1' => by
      obtain rfl : v1' = _ := Option.some.inj (h1'.c2.symm.trans H1.out.c2)
      obtain ⟨y1, y2, y3, y4⟩ := RT.out.2
      exact ⟨y1, y2, ⟨y3.os, y3.tape, y3.output, y3.size, y3.block⟩, y4⟩)
    have BX3 := Lib.hid (PD.out.keep (K5.out.block _ PD.out.lt NP1.out))
    obtain ⟨p5, c5, hv5, -, -, -, -⟩ := ho5.rows elemPlace.len
    generalize List.length _ = n5 at hv5
    subst hv5
    clear ho5 hg5 hr5
    refine ⟨BX3.out, ?_⟩
    go_simp
    refine hK _ _ ?_
    clear hK K
    refine tree_float rfl rfl (fun K hK => ?_)
    refine gives_nil_check _ rfl ⟨B, 0, none⟩ rfl ?_
    go_simp
    refine hK _ ?_
    clear hK K
    refine tree_float rfl rfl (fun K hK => ?_)
    refine gives_cafield _ 2 rfl (by decide) B rfl ?_
    go_simp
    refine hK _ ?_
    clear hK K
    refine tree_one rfl rfl (fun K hK => ?_)
    refine done_store_places _ _ rfl ⟨B, 2, none⟩ p5 n5 c5 rfl rfl _ (cell_of_row _ _ _ _ _ _ RT.out.1) (frozen_of_row _ _ _ _ _ RT.out.1) ?_
    refine ⟨(BX3.out.keep (Below.heap_setCell _ _ _ _ (fun e => NB1.out e))), ?_⟩
    go_simp
    refine hK _ _ ?_
    clear hK K
    refine tree_over ?_
    go_wp2
    go_end0
    exact ⟨rfl, TT.out⟩
  · refine tree_one rfl rfl (fun K hK => ?_)
    refine done_place1 _ rfl u c rfl ?_
    refine ⟨X2.out, ?_⟩
    go_simp
    refine hK _ _ ?_
    clear hK K
    refine tree_one rfl rfl (fun K hK => ?_)
    refine done_load_box plS _ rfl ⟨B, 2, none⟩ _ rfl box_places (HD.out.below B2.out).c2 ?_
    refine ⟨X2.out, ?_⟩
    go_simp
    refine hK _ _ ?_
    clear hK K
    refine tree_one rfl rfl (fun K hK => ?_)
    refine done_append_list elemPlace _ _ rfl 0 _ _ ks' [(u, c)] (some ⟨w2.drew.heap.size, 0, none⟩) 1 1 rfl rfl rfl (HD.out.below B2.out).own (rows_place1 w2.drew u c) (by have := LW.out; simp; omega) (by decide) (Nat.zero_le _) ?_
    intro v5 w5 ho5 hg5 hr5
    have O5 := Lib.hid ho5
    have K5 := Lib.hid (show Keeps (fun k => (Value.slice p1 n1 c1).ownBlock = some k) w2.drew w5 from (Keeps.of (S := fun k => (Value.slice p1 n1 c1).ownBlock = some k) B2.out).grownL hg5 (fun k hk _ => hk))
    have RT := Lib.hid (HD.out.order K5.out ho5 (fun k hk => by
      rcases hr5 with e | e
      · exact .inl (e.symm.trans hk)
      · refine .inr ?_
        rw [← Option.some.inj (e.symm.trans hk)]
        show w2.heap.size ≤ (w2.alloc (.cells #[.int .i64 u, .int .i64 c] plT)).heap.size
        rw [World.size_alloc]; omega) (by have := LW.out; simp; omega))
    have TT := Lib.hid (T3.out.trans fun v1' h1' => by
      obtain rfl : v1' = _ := Option.some.inj (h1'.c2.symm.trans H1.out.c2)
      obtain ⟨y1, y2, y3, y4⟩ := RT.out.2
      exact ⟨y1, y2, ⟨y3.os, y3.tape, y3.output, y3.size, y3.block⟩, y4⟩)
    have BX3 := Lib.hid (PD.out.keep (K5.out.block _ PD.out.lt NP1.out))
    obtain ⟨p5, c5, hv5, -, -, -, -⟩ := ho5.rows elemPlace.len
    generalize List.length _ = n5 at hv5
    subst hv5
    clear ho5 hg5 hr5
    refine ⟨BX3.out, ?_⟩
    go_simp
    refine hK _ _ ?_
    clear hK K
    refine tree_float rfl rfl (fun K hK => ?_)
    refine gives_nil_check _ rfl ⟨B, 0, none⟩ rfl ?_
    go_simp
    refine hK _ ?_
    clear hK K
    refine tree_float rfl rfl (fun K hK => ?_)
    refine gives_cafield _ 2 rfl (by decide) B rfl ?_
    go_simp
    refine hK _ ?_
    clear hK K
    refine tree_one rfl rfl (fun K hK => ?_)
    refine done_store_places _ _ rfl ⟨B, 2, none⟩ p5 n5 c5 rfl rfl _ (cell_of_row _ _ _ _ _ _ RT.out.1) (frozen_of_row _ _ _ _ _ RT.out.1) ?_
    refine ⟨(BX3.out.keep (Below.heap_setCell _ _ _ _ (fun e => NB1.out e))), ?_⟩
    go_simp
    refine hK _ _ ?_
    clear hK K
    refine tree_over ?_
    go_wp2
    go_end0
    exact ⟨rfl, TT.out⟩
end Go.Proofs.Ytlaclakndleonaa
