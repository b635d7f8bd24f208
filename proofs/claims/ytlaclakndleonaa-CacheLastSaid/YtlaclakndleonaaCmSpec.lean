/- The program's cache does as CacheSpec says. Conditions: none. -/
import Derived.Test.YtlaclakndleonaaCmClean
namespace Go.Proofs.Ytlaclakndleonaa
open Go.ChangeShapes Go.WideShapes Go.ChangeAt Go.RowKit
set_option linter.unusedVariables false
/-! ### Good lines stay good -/
section
variable {q : Int} {ls : List LineOf}
theorem GoodL.getL (g : GoodL q ls) (u b : Int) : GoodL q (getL ls u b) := by
  by_cases hf : findL ls u b < ls.length
  · have hx := got_is hf
    have e : Go.Proofs.Ytlaclakndleonaa.getL ls u b = outL ls (findL ls (gotL ls u b).u (gotL ls u b).b) ++ [gotL ls u b] := by
      have := LineOf.is_iff.1 hx.2
      rw [this.1, this.2]
      unfold Go.Proofs.Ytlaclakndleonaa.getL gotL
      rw [if_pos hf, if_pos hf]
    have hf2 : findL ls (gotL ls u b).u (gotL ls u b).b < ls.length := by
      have := LineOf.is_iff.1 hx.2
      rw [this.1, this.2]; exact hf
    have hh := got_again g.ap hf2 0 0
    rw [e]
    refine ⟨fun l hl => ?_, by rw [hh.2.2.1]; exact g.few, g.low, g.high, hh.2.2.2⟩
    rcases List.mem_append.1 hl with h | h
    · exact g.ok l (mem_out h)
    · obtain rfl : l = gotL ls u b := by simpa using h
      exact g.ok _ hx.1
  · rw [get_none hf]; exact g
theorem GoodL.placeIn {rs : List LineOf} (ok : ∀ l ∈ rs, l.ok) (ap : Apart rs) (low : 1 ≤ q) (high : q ≤ 8) {l : LineOf} (hl : l.ok) (hfew : (rs.length : Int) < q ∨ (findL rs l.u l.b < rs.length ∧ (rs.length : Int) ≤ q)) : GoodL q (placeIn rs l) := by
  unfold Go.Proofs.Ytlaclakndleonaa.placeIn
  by_cases hf : findL rs l.u l.b < rs.length
  · have hh := got_again ap hf 0 0
    rw [if_pos hf]
    refine ⟨fun y hy => ?_, by rw [hh.2.2.1]; omega, low, high, hh.2.2.2⟩
    rcases List.mem_append.1 hy with h | h
    · exact ok y (mem_out h)
    · obtain rfl : y = l := by simpa using h
      exact hl
  · rw [if_neg hf]
    refine ⟨fun y hy => ?_, ?_, low, high, snoc_apart ap (find_no hf)⟩
    · rcases List.mem_append.1 hy with h | h
      · exact ok y h
      · obtain rfl : y = l := by simpa using h
        exact hl
    · rw [List.length_append]
      rcases hfew with h | h
      · simp; omega
      · exact absurd h.1 hf
theorem GoodL.putS (g : GoodL q ls) (l : LineOf) (hl : l.ok) : GoodL q (putS q ls l) := by
  by_cases hf : findL ls l.u l.b < ls.length
  · rw [(put_old (q := q) hf).2]
    exact GoodL.placeIn g.ok g.ap g.low g.high ⟨hl.1, hl.2.1, hl.2.2⟩ (.inr ⟨hf, g.few⟩)
  · cases hr : roomB q ls with
    | false => rw [(put_full hf hr).2.1]; exact g
    | true =>
      rw [(put_new hf hr).2]
      refine GoodL.placeIn (fun y hy => g.ok y (room_sub hy)) (room_apart g.ap) g.low g.high hl (.inl ?_)
      unfold roomB at hr
      unfold roomL
      have hfew := g.few
      by_cases h1 : (ls.length : Int) < q
      · rw [if_pos h1]; exact h1
      · rw [decide_eq_false h1, Bool.false_or] at hr
        have h3 := of_decide_eq_true hr
        rw [if_neg h1, if_pos h3, outL_len h3]
        omega
theorem GoodL.cleanedL (g : GoodL q ls) : GoodL q (cleanedL ls) := by
  refine ⟨fun l hl => ?_, by unfold Go.Proofs.Ytlaclakndleonaa.cleanedL; rw [List.length_map]; exact g.few, g.low, g.high, ?_⟩
  · obtain ⟨x, hx, rfl⟩ := List.mem_map.1 hl
    exact g.ok x hx
  · unfold Go.Proofs.Ytlaclakndleonaa.cleanedL
    exact List.pairwise_map.2 g.apart
theorem GoodL.dropL (g : GoodL q ls) (u : Int) : GoodL q (dropL ls u) :=
  ⟨fun l hl => g.ok l (List.mem_filter.1 hl).1, Int.le_trans (by have := List.length_filter_le (fun l : LineOf => !(l.u == u)) ls; unfold Go.Proofs.Ytlaclakndleonaa.dropL; omega) g.few, g.low, g.high, filter_apart g.ap _⟩
theorem GoodL.empty (h1 : 1 ≤ q) (h2 : q ≤ 8) : GoodL q [] := ⟨(fun l hl => nomatch hl), (by simp; omega), h1, h2, List.Pairwise.nil⟩
end
/-! ### Clean of nil -/
attribute [local go_sem] Oper.semAt_some
set_option maxRecDepth 100000 in
set_option maxHeartbeats 2000000 in
theorem Clean_nil (w : World) : Calls Try.prog 18 #[.pointer none] w fun e w' => e = .returned (.int .i64 0) ∧ Below w.heap.size w w' := by
  have HDY := Lib.hid (fun W => Dirty_nil W)
  have U2 := Lib.hid (below_two w (.cells #[.pointer none] 24) (.cells #[.int .i64 0] 3))
  have ZU := Lib.hid (show ((w.alloc (.cells #[.pointer none] 24)).alloc (.cells #[.int .i64 0] 3)).heap.size = w.heap.size + 2 from by simp)
  have MU := Lib.hid (show ((w.alloc (.cells #[.pointer none] 24)).alloc (.cells #[.int .i64 0] 3)).heap[w.heap.size + 1]? = some (.cells #[.int .i64 0] 3 (0, 0)) from by
    have h1 := heap_alloc_new (w.alloc (.cells #[.pointer none] 24)) (.cells #[.int .i64 0] 3)
    rw [World.size_alloc] at h1
    exact h1)
  refine (callsIn_wide (n := 3)).1 ?_
  refine callsIn_of_wp_marks Try.func18 rfl trivial ?_ rfl
  simp only [Try.ntmps18, List.size_toArray, List.length_cons, List.length_nil, Nat.reduceAdd, Nat.reduceSub, Array.replicate_succ, Array.replicate_zero, List.push_toArray, List.append_toArray, List.nil_append, List.cons_append]
  refine wpIn_wide.2 ?_
  go_wp2_with (first
    | (go_at_call 30
       generalize (w.alloc (.cells #[.pointer none] 24)).alloc (.cells #[.int .i64 0] 3) = U at *
       refine (HDY.out U).mono ?_; rintro e w4 ⟨fv, T, rfl, ⟨gf, lb, rfl, eg, hTl, hit⟩, hT, hb⟩
       have G4 := Lib.hid (show w.heap.size + 2 ≤ w4.heap.size from by have := ZU.out; have := hb.size; omega)
       have L4 := Lib.hid (U2.out.trans (hb.mono U2.out.size))
       have M4 := Lib.hid ((hb.block _ (by have := ZU.out; omega)).trans MU.out)
       have Q4 := Lib.hid hTl
       have HIT := Lib.hid hit
       have HEG := Lib.hid eg
       clear hb hit hT hTl eg MU U2 ZU HDY))
  refine (wpIn_wide (n := 3)).1 ?_
  refine range_free rfl (by omega) (gf := gf) (lb := lb) rfl trivial HEG.out
    (fun l : LineOf => #[lineV l]) (fun i => lineAt [] i) 0 (fun V => ∀ k, T k → V.heap[k]? = w4.heap[k]?) (fun _ => rfl)
    (fun i V => Below w4.heap.size w4 V) (fun _ _ => False) ?rd ?st ?stx (Below.refl _ _) HIT.out ?round ?done ?stop
  case rd => exact fun i V h k hk => h.block k (Q4.out k hk)
  case st => exact fun i V V' h hs => ⟨hs.os.trans h.os, hs.tape.trans h.tape, hs.output.trans h.output, Nat.le_trans h.size hs.size, fun k hk => (hs.same k (Nat.lt_of_lt_of_le hk h.size) (by omega) (by omega)).trans (h.block k hk)⟩
  case stx => exact fun c V V' h hs => h.elim
  case stop => exact fun D c W hD h => h.elim
  case round => exact fun l i W hl hi => absurd hi (Nat.not_lt_zero _)
  case done =>
    intro D W hD hI hd
    have cm : W.cell? ⟨w.heap.size + 1, 0, none⟩ = some (.int .i64 0) := cell_of_row _ _ _ _ _ _ ((hI.block _ (by have := G4.out; omega)).trans M4.out)
    have HD := Lib.hid hd
    have HI := Lib.hid (L4.out.trans (hI.mono L4.out.size))
    have G := G4.out
    clear hI hd
    go_wp2
    refine ⟨by simp, .inl ⟨_, _, rfl, run_takeDeferred HD.out, ?_⟩⟩
    refine ⟨.int .i64 0, ?_, rfl, below_turn _ HI.out (by omega)⟩
    simp [results, Try.f18, go_sem]
/-! ### The specification -/
/-- The program's cache: its struct in B, its map, its order's row. -/
def AtC (w : World) (S : Nat → Prop) (B : Nat) (q : Int) (ls : List LineOf) (t : Nat) : Prop := ∃ M v, CS w B M q v ls (keysL ls) ∧ GoodL q ls ∧ S = csS B M v
theorem toAt {w w' : World} {B M : Nat} {q : Int} {v : Value} {ls' : List LineOf} {t : Nat} (h : CT w w' B M q v ls' (keysL ls')) (g : GoodL q ls') : ToAt AtC w w' (csS B M v) B q ls' t := by
  obtain ⟨v', h1, h2, h3⟩ := h
  exact ⟨_, ⟨M, v', h1, g, rfl⟩, h2, h3⟩
theorem cacheSpec : CacheSpec AtC where
  lt := fun ⟨M, v, h, g, e⟩ k hk => by subst e; exact h.own_lt hk
  keep := fun ⟨M, v, h, g, e⟩ hs hb => by subst e; exact ⟨M, v, h.keep hs hb, g, rfl⟩
  good := fun ⟨M, v, h, g, e⟩ => g
  new_ok := fun q w h1 h2 => (New_any q ⟨h1, h2⟩ w).mono fun e w' ⟨a, h, b⟩ => ⟨_, _, a, ⟨_, _, h, GoodL.empty h1 h2, rfl⟩, b, fun k hk => by
    rcases hk with rfl | rfl | hk
    · omega
    · omega
    · simp [Value.ownBlock] at hk⟩
  new_no := fun q w hn => (newErr q hn w).mono fun e w' ⟨a, b⟩ => ⟨a, by subst b; exact Below.refl _ _⟩
  quota := fun ⟨M, v, h, g, e⟩ => (Quota_any h).mono fun e w' ⟨a, b⟩ => ⟨a, by subst b; exact Below.refl _ _⟩
  get := fun u b hu hb ⟨M, v, h, g, e⟩ _ => by subst e; exact (Get_any h g u b hu hb).mono fun e w' ⟨a, k⟩ => ⟨a, toAt k (g.getL u b)⟩
  put := fun l hl ⟨M, v, h, g, e⟩ _ => by subst e; exact (Put_any h g l hl).mono fun e w' ⟨a, k⟩ => ⟨a, toAt k (g.putS l hl)⟩
  clean := fun ⟨M, v, h, g, e⟩ _ => by subst e; exact (Clean_any h g).mono fun e w' ⟨a, k⟩ => ⟨a, toAt k g.cleanedL⟩
  drop := fun u hu ⟨M, v, h, g, e⟩ _ => by subst e; exact (Drop_any h g u hu).mono fun e w' ⟨a, k⟩ => ⟨a, toAt k (g.dropL u)⟩
  lines := fun ⟨M, v, h, g, e⟩ => Lines_any h g
  dirty := fun ⟨M, v, h, g, e⟩ => (Dirty_ok h g).mono fun e w' ⟨v', T, a, hi, hT, hb⟩ => ⟨v', T, a, hi, fun k hk => .inr (hT k hk), hb⟩
  nil_quota := fun w => (Quota_nil w).mono fun e w' ⟨a, b⟩ => ⟨a, by subst b; exact Below.refl _ _⟩
  nil_get := fun u b w => Get_nil u b w
  nil_put := fun l w _ => Put_nil l w
  nil_clean := fun w => Clean_nil w
  nil_drop := fun u w => (Drop_nil u w).mono fun e w' ⟨a, b⟩ => ⟨a, by subst b; exact Below.refl _ _⟩
  nil_lines := fun w => (Lines_nil w).mono fun e w' ⟨a, b⟩ => ⟨_, a, by subst b; exact OwnL.nil _ _ _ _ _ _, by subst b; exact Below.refl _ _⟩
  nil_dirty := fun w => Dirty_nil w
end Go.Proofs.Ytlaclakndleonaa
