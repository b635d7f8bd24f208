/- The contracts of Lines and Dirty, and of the iterator that Dirty answers. Conditions: the cache lies in memory, its lines are good. -/
import Derived.Test.YtlaclakndleonaaCmRoom
namespace Go.Proofs.Ytlaclakndleonaa
open Go.ChangeShapes Go.WideShapes Go.ChangeAt Go.RowKit
set_option linter.unusedVariables false
/-! ### Operations under the wide fence -/
section
variable {F : Fence} {m : Nat} {ops : Array Oper} {rest : List Oper} {o : Oper} {a : Act} {w : World} {Q : Exit → Act → World → Prop}
theorem upon_wide {P : Program} {n : Nat} {K : Act → World → Prop} {r : Result Next} (h : o.upon P a K Q r) : o.uponIn Fence.wide n P a K Q r := by
  cases r with
  | ok x w' =>
    cases x with
    | value v => exact h
    | skip => exact h
    | defer d => exact h
    | enter f args => exact ⟨fun h => by simp [Fence.wide] at h, callsIn_wide.2 h⟩
    | row row args => exact ⟨fun h => by simp [Fence.wide] at h, fun c cs _ => let ⟨v, w'', r, s⟩ := h c cs; ⟨v, w'', r, stepsIn_wide.2 s⟩⟩
    | _ => exact h.elim
  | halt x w' => cases x <;> first | exact h | exact h.elim
theorem oper_wide {P : Program} {n : Nat} {K : Act → World → Prop} (hd : noDefer o = true) (h : o.wp P a w K Q) : o.wpIn Fence.wide n P a w K Q :=
  ⟨fun _ _ => trivial, by rw [Oper.semAt_eq _ _ _ (noDefer_spec hd)]; exact upon_wide h⟩
theorem wantW {a2 : Act} {w2 : World} (hF : F = Fence.wide) (hw : Region.wanted o (yielded ops a.tmps) = true) (hd : noDefer o = true) (h : ∀ K : Act → World → Prop, K a2 w2 → o.wp Try.prog a w K Q) (hk : wpListIn F m Try.prog ops Q rest a2 w2) : wpListIn F m Try.prog ops Q (o :: rest) a w := by
  subst hF
  exact wpListIn_step fun K hK => by rw [if_pos hw]; exact oper_wide hd (h K (hK _ _ hk))
theorem lineW_elem (hF : F = Fence.wide) (hw : Region.wanted o (yielded ops a.tmps) = true) (hd : noDefer o = true) (x y : Operand) (ho : o.op = .indexAddr 34 x y) (B off n cap k : Nat) (hx : a.eval x = .slice (some ⟨B, off, none⟩) n cap) (hy : a.eval y = .int .i64 k) (hk : k < n) (h : wpListIn F m Try.prog ops Q rest (a.put o.dst (.pointer (some ⟨B, off + 131 * k, none⟩))) w) : wpListIn F m Try.prog ops Q (o :: rest) a w :=
  wantW hF hw hd (fun K hK => by unfold Oper.wp; rw [line_addr x y ho B off n cap k hx hy hk w]; exact hK) h
theorem lineW_load (hF : F = Fence.wide) (hw : Region.wanted o (yielded ops a.tmps) = true) (hd : noDefer o = true) (x : Operand) (ho : o.op = .load 42 x) (B off : Nat) (hx : a.eval x = .pointer (some ⟨B, off, none⟩)) (c : LineOf) (hc : w.rangeAt B off (lineC c)) (h : wpListIn F m Try.prog ops Q rest (a.put o.dst (lineV c)) w) : wpListIn F m Try.prog ops Q (o :: rest) a w := by
  obtain ⟨v, hv, hk⟩ := gives_line_load (o := o) (a := a) (C := fun W => W = w) (K := fun a' => a' = a.put o.dst (lineV c)) x ho B off hx c (fun W e => by rw [e]; exact hc) rfl
  exact wantW hF hw hd (fun K hK => by unfold Oper.wp; rw [hv w rfl]; exact hK) (by rw [hk]; exact h)
theorem lineW_alloc (hF : F = Fence.wide) (hw : Region.wanted o (yielded ops a.tmps) = true) (hd : noDefer o = true) (ho : o.op = .alloc 42) (S : Nat) (hS : w.heap.size = S)
    (h : wpListIn F m Try.prog ops Q rest (a.put o.dst (.pointer (some ⟨S, 0, none⟩))) (w.alloc (.cells (lineC noLine).toArray 42))) : wpListIn F m Try.prog ops Q (o :: rest) a w := by
  subst hS
  refine wantW hF hw hd (fun K hK => ?_) h
  have e := lineZero_run w
  unfold Oper.wp execOp
  simp only [ho]
  simp [go_sem, e, lineZ]
  exact hK
theorem lineW_store (hF : F = Fence.wide) (hw : Region.wanted o (yielded ops a.tmps) = true) (hd : noDefer o = true) (x y : Operand) (ho : o.op = .store 42 x y) (hds : o.dst = none) (B : Nat) (hx : a.eval x = .pointer (some ⟨B, 0, none⟩)) (c old : LineOf) (hy : a.eval y = lineV c) (hB : LineBox w B old)
    (h : wpListIn F m Try.prog ops Q rest a (w.setRow B (lineC c).toArray)) : wpListIn F m Try.prog ops Q (o :: rest) a w := by
  refine wantW (a2 := a) (w2 := w.setRow B (lineC c).toArray) hF hw hd (fun K hK => ?_) h
  exact wp_store_row 42 x y ho B _ hx hy 42 _ hB (lineA_size c) (lineA_same _ _) (lineA_one c) (by rw [hds]; exact hK)
end
/-! ### Lines -/
attribute [local irreducible] findL outL lineC lineAt cleanL placeC gotL keysL dirtyL
attribute [local go_sem] Oper.semAt_some
theorem Lines_nil (w : World) : Calls Try.prog 22 #[.pointer none] w fun e w' => e = .returned (.slice none 0 0) ∧ w = w' := by
  go_enter Try.func22, Try.ntmps22
  go_wp2
  go_ret
  exact ⟨rfl, rfl⟩
set_option maxRecDepth 100000 in
set_option maxHeartbeats 4000000 in
theorem Lines_any {w : World} {B M : Nat} {q : Int} {v : Value} {ls : List LineOf} (h : CS w B M q v ls (keysL ls)) (g : GoodL q ls) :
    Calls Try.prog 22 #[.pointer (some ⟨B, 0, none⟩)] w fun e w' => ∃ v', e = .returned v' ∧ OwnL 42 131 lineC w' w.heap.size w'.heap.size v' ls ∧ Below w.heap.size w w' := by
  have HA := Lib.hid g.ap
  have HC := Lib.hid h
  have HL8 := Lib.hid (show ls.length ≤ 8 from by have := g.few; have := g.high; omega)
  obtain ⟨p, cap, hv, -, -, -, -⟩ := h.own.rows elemPlace.len
  rw [keysL_len] at hv
  subst hv
  have HCS := Lib.hid (fun (W : World) (hW : Below w.heap.size w W) => h.below hW)
  have HRW := Lib.hid (fun i (hi : i < ls.length) => own_places h.own (i := i) (by rw [keysL_len]; exact hi))
  have HKA := Lib.hid (fun i (hi : i < ls.length) => keys_at (ls := ls) hi)
  have HFA := Lib.hid (fun i (hi : i < ls.length) => find_at HA.out hi)
  have HOK := Lib.hid (fun i (hi : i < ls.length) => g.ok _ (lineAt_mem hi))
  have HTK := Lib.hid (fun i (hi : i < ls.length) => take_snoc (ls := ls) hi)
  have O0 := Lib.hid (OwnL.nil (α := LineOf) 42 131 lineC w w.heap.size w.heap.size)
  have B0 := Lib.hid (Below.refl w.heap.size w)
  have c2 := h.c2
  clear h g
  generalize hn : ls.length = n at *
  go_enter Try.func22, Try.ntmps22
  go_wp2
  go_loopw [13, 3, 5] (fun v13 v3 _ wr => ∃ k : Nat, k ≤ n ∧ v13 = .int .i64 k ∧ OwnL 42 131 lineC wr w.heap.size wr.heap.size v3 (ls.take k) ∧ Below w.heap.size w wr) (fun v13 _ _ _ => n - (intOf v13).toNat)
  case atStart => exact ⟨0, Nat.zero_le _, rfl, by rw [List.take_zero]; exact O0.out, B0.out⟩
  case round =>
    obtain ⟨k, hk, rfl, ho, hb⟩ := hrel
    have HO := Lib.hid ho
    have HB := Lib.hid hb
    clear ho hb O0 B0 c2
    by_cases hlt : k < n
    · have f1 : (k : Int) < (n : Int) := by omega
      have HLT := Lib.hid hlt
      have f3 : IntKind.i64.wrap ((k : Int) + 1) = ((k + 1 : Nat) : Int) := by have := HL8.out; rw [IntWalk.i64_in _ (by omega)]; omega
      obtain ⟨LB, rfl, hLB, hrg⟩ := HRW.out k hlt
      rw [HKA.out k hlt] at hrg
      have HRK := Lib.hid (rangeAt_below hrg HB.out hLB)
      have HF2 := Lib.hid (HFA.out k hlt)
      have HO2 := Lib.hid (HOK.out k hlt)
      have HT2 := Lib.hid (HTK.out k hlt)
      have HL2 := Lib.hid (show (ls.take k).length ≤ 8 from by rw [List.length_take]; have := HL8.out; omega)
      clear hrg hk hlt hLB
      generalize lineAt ls k = l at *
      generalize hm : ls.take k = m at *
      obtain ⟨u, c, s, d⟩ := l
      have hB1 : Below w.heap.size w (wr.alloc (.cells #[.int .i64 u, .int .i64 c] plT)).drew := (HB.out.alloc HB.out.size _).drew
      have P1 := Lib.hid (show PlBox (wr.alloc (.cells #[.int .i64 u, .int .i64 c] plT)).drew wr.heap.size u c from PlBox.alloc wr u c)
      have BB1 := Lib.hid hB1
      have BB2 := Lib.hid (hB1.alloc hB1.size (.cells (lineC ⟨u, c, s, d⟩).toArray 42))
      have P2 := Lib.hid (P1.out.keep (Below.heap_alloc _ (.cells (lineC ⟨u, c, s, d⟩).toArray 42) _ P1.out.lt))
      have O2 := Lib.hid (HO.out.below (w' := (wr.alloc (.cells #[.int .i64 u, .int .i64 c] plT)).drew.alloc (.cells (lineC ⟨u, c, s, d⟩).toArray 42)) (Nat.le_refl _) (((((Below.refl wr.heap.size wr).alloc (Nat.le_refl _) _).drew).alloc (by show wr.heap.size ≤ (wr.alloc _).heap.size; rw [World.size_alloc]; omega) _)))
      have R2 := Lib.hid (show RowsAt 131 lineC ((wr.alloc (.cells #[.int .i64 u, .int .i64 c] plT)).drew.alloc (.cells (lineC ⟨u, c, s, d⟩).toArray 42)) (some ⟨wr.heap.size + 1, 0, none⟩) [⟨u, c, s, d⟩] from by
        have := rows_line1 (wr.alloc (.cells #[.int .i64 u, .int .i64 c] plT)).drew ⟨u, c, s, d⟩
        rwa [show (wr.alloc (.cells #[.int .i64 u, .int .i64 c] plT)).drew.heap.size = wr.heap.size + 1 from World.size_alloc _ _] at this)
      clear hB1
      go_wp2_with (first
        | (refine wpList_pl_elem rfl _ _ rfl LB n cap k rfl rfl HLT.out ?_)
        | (refine wpList_pl_load rfl _ rfl LB (2 * k) rfl u c HRK.out ?_))
      refine wp_region_sched [(0, true), (1, true), (2, true), (3, true), (4, true), (5, true), (6, true), (7, false), (8, false), (9, true)] (fun V => Below w.heap.size w V ∧ PlBox V wr.heap.size u c) (by kernel_rfl) (by kernel_rfl) ⟨BB1.out, P1.out⟩ ?_
      refine walk_float rfl rfl (fun K hK => ?_)
      refine gives_move _ rfl ?_
      go_simp
      refine hK _ ?_
      clear hK K
      refine walk_float rfl rfl (fun K hK => ?_)
      refine gives_move _ rfl ?_
      go_simp
      refine hK _ ?_
      clear hK K
      refine walk_float rfl rfl (fun K hK => ?_)
      refine gives_nil_check _ rfl ⟨B, 0, none⟩ rfl ?_
      go_simp
      refine hK _ ?_
      clear hK K
      refine walk_float rfl rfl (fun K hK => ?_)
      refine gives_cafield _ 1 rfl (by decide) B rfl ?_
      go_simp
      refine hK _ ?_
      clear hK K
      refine walk_float rfl rfl (fun K hK => ?_)
      refine gives_cell mapT _ rfl ⟨B, 1, none⟩ _ rfl box_map (fun V hV => (HCS.out V hV.1).c1) ?_
      go_simp
      refine hK _ ?_
      clear hK K
      refine walk_float rfl rfl (fun K hK => ?_)
      refine gives_pl_load _ rfl wr.heap.size 0 rfl u c (fun V hV => hV.2.range) ?_
      go_simp
      refine hK _ ?_
      clear hK K
      refine walk_float rfl rfl (fun K hK => ?_)
      refine gives_look _ _ rfl M ls u c rfl rfl HO2.out.2.1 HO2.out.2.2 (fun V hV => (HCS.out V hV.1).map) ?_
      rw [HF2.out.2]
      go_simp
      refine hK _ ?_
      clear hK K
      refine walk_done rfl rfl (fun K hK => ?_)
      refine done_line1 _ rfl ⟨u, c, s, d⟩ rfl ?_
      refine ⟨⟨BB2.out, P2.out⟩, ?_⟩
      go_simp
      refine hK _ _ ?_
      clear hK K
      refine walk_done rfl rfl (fun K hK => ?_)
      refine done_append_list elemLine _ _ rfl w.heap.size _ _ m [⟨u, c, s, d⟩] (some ⟨wr.heap.size + 1, 0, none⟩) 1 1 rfl rfl rfl O2.out R2.out (by have := HL2.out; simp; omega) (by decide) BB2.out.size ?_
      intro v5 w5 ho5 hg5 hr5
      have O6 := Lib.hid ho5
      have B6 := Lib.hid (BB2.out.trans (below_own1 hg5 HO.out.block BB2.out.size))
      have P6 := Lib.hid (P2.out.keep (hg5.block _ P2.out.lt (fun e => by have := HO.out.blockTop _ e.symm; omega)))
      clear ho5 hg5 hr5
      refine ⟨⟨B6.out, P6.out⟩, ?_⟩
      go_simp
      refine hK _ _ ?_
      clear hK K
      refine walk_float rfl rfl (fun K hK => ?_)
      refine gives_assign _ rfl ?_
      go_simp
      refine hK _ ?_
      clear hK K
      refine walk_nil ?_
      go_wp2
      go_roundw
      case rel => exact ⟨k + 1, HLT.out, by go_num, by rw [HT2.out]; exact O6.out, B6.out⟩
      case measure => have := HLT.out; simp [intOf]; omega
    · have f1 : ¬ (k : Int) < (n : Int) := by omega
      obtain rfl : k = n := by omega
      have HX := Lib.hid (show ls.take k = ls by rw [List.take_of_length_le (by omega)])
      rw [HX.out] at HO
      clear hlt hk
      go_wp2
      go_ret
      exact ⟨_, rfl, HO.out, HB.out⟩
end Go.Proofs.Ytlaclakndleonaa
