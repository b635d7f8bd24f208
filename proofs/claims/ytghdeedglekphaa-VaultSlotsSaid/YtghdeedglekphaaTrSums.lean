/- The contracts of citadellaw11's sums and same: bytes as tags; lists of the same tags. Conditions: bytes are bytes; not more than 2,000,000. -/
import Derived.Test.YtghdeedglekphaaTrMake
namespace Go.Proofs.Ytghdeedglekphaa
open Go.ChangeShapes Go.WideShapes Go.ChangeAt Go.RowKit
set_option linter.unusedVariables false
theorem sumVal_is {s : List Int} (h : IsSum s) : sumVal s = .agg (cellsOf .u8 s) := by unfold sumVal; rw [h.mk']
/-- A byte's tag. -/
def sumOf (b : Nat) : List Int := if b = 0 then nought else (b : Int) :: ((b ^^^ 85 : Nat) : Int) :: 7 :: List.replicate 29 0
theorem sumOf_zero : sumOf 0 = nought := if_pos rfl
theorem sumOf_pos {b : Nat} (h : b ≠ 0) : sumOf b = (b : Int) :: ((b ^^^ 85 : Nat) : Int) :: 7 :: List.replicate 29 0 := if_neg h
theorem sumOf_sum {b : Nat} (hb : b < 256) : IsSum (sumOf b) := by
  by_cases h : b = 0
  · rw [h, sumOf_zero]; exact nought_sum
  · rw [sumOf_pos h]
    have hx : b ^^^ 85 < 256 := Nat.xor_lt_two_pow (n := 8) hb (by decide)
    refine ⟨by simp, fun x hx2 => ?_⟩
    simp only [List.mem_cons, List.mem_replicate] at hx2
    rcases hx2 with rfl | rfl | rfl | ⟨_, rfl⟩ <;> omega
theorem sum_built3 (x y : Int) : Try.prog.built 50 [(0, .int .u8 x), (1, .int .u8 y), (2, .int .u8 7)] = some (cellsOf .u8 (x :: y :: 7 :: List.replicate 29 0)) := by kernel_rfl
def sumsL (n : Nat) (g : Nat → Nat) : List (List Int) := (List.range n).map fun i => sumOf (g i)
theorem sumsL_len (n : Nat) (g : Nat → Nat) : (sumsL n g).length = n := by simp [sumsL]
theorem sumsL_next (n : Nat) (g : Nat → Nat) : sumsL (n + 1) g = sumsL n g ++ [sumOf (g n)] := by unfold sumsL; rw [List.range_succ, List.map_append]; rfl
theorem sumsL_sum {n : Nat} {g : Nat → Nat} (h : ∀ i, i < n → g i < 256) : ∀ t ∈ sumsL n g, IsSum t := fun t ht => by
  obtain ⟨i, hi, rfl⟩ := List.mem_map.1 ht
  exact sumOf_sum (h i (List.mem_range.1 hi))
section
variable {ops : Array Oper} {rest : List Oper} {o : Oper} {a : Act} {w : World} {Q : Exit → Act → World → Prop}
theorem wpList_grow {α : Type} {P : Program} {t e : TypeId} {sz by' : Nat} {C : α → List Value} (E : ElemOf P t e sz by' C) (hgd : o.guard = none) (s x : Operand) (ho : o.op = .call { callee := .builtin .append, args := #[s, x], argTypes := #[t, t] }) (base top : Nat) (v : Value) (l m : List α) (p : Option Addr) (n c : Nat) (hs : a.eval s = v) (hx : a.eval x = .slice p n c) (hn : n = m.length)
    (hv : OwnL e sz C w base top v l) (hm : RowsAt sz C w p m) (hk : l.length + m.length ≤ 4000000) (hby : by' ≤ 1000) (hbase : base ≤ w.heap.size)
    (h : ∀ v' w', OwnL e sz C w' base w'.heap.size v' (l ++ m) → Below base w w' → wpList P ops Q rest (a.put o.dst v') w') : wpList P ops Q (o :: rest) a w :=
  wpList_append_list E hgd s x ho base top v l m p n c hs hx hn hv hm hk hby hbase fun v' w' h1 h2 h3 => h v' w' h1 (below_own1 h2 hv.block hbase)
theorem wpList_one (hgd : o.guard = none) (x : Operand) (ho : o.op = .buildSlice 42 1 #[(0, x)]) (s : List Int) (hx : a.eval x = sumVal s)
    (h : ∀ w', RowsAt 32 sumC w' (some ⟨w.heap.size, 0, none⟩) [s] → Below w.heap.size w w' → w'.heap.size = w.heap.size + 1 → wpList Try.prog ops Q rest (a.put o.dst (.slice (some ⟨w.heap.size, 0, none⟩) 1 1)) w') : wpList Try.prog ops Q (o :: rest) a w :=
  wpList_sum1 hgd x ho s hx (h _ (rows_sum1 w s) ((Below.refl _ _).alloc (Nat.le_refl _) _) (World.size_alloc _ _))
theorem wpList_built3 (hgd : o.guard = none) (u v : Operand) (ho : o.op = .build 50 #[(0, u), (1, v), (2, .const (.int .u8 7))]) (b : Nat) (hb : b < 256) (h0 : b ≠ 0) (hu : a.eval u = .int .u8 b) (hv : a.eval v = .int .u8 ((b ^^^ 85 : Nat) : Int))
    (h : wpList Try.prog ops Q rest (a.put o.dst (sumVal (sumOf b))) w) : wpList Try.prog ops Q (o :: rest) a w := by
  rw [sumVal_is (sumOf_sum hb), sumOf_pos h0] at h
  exact wpList_build_any hgd 50 _ #[(0, .int .u8 b), (1, .int .u8 ((b ^^^ 85 : Nat) : Int)), (2, .int .u8 7)] _ ho (by simp only [List.map_toArray, List.map_cons, List.map_nil, hu, hv]; rfl) (fun w => run_build w 50 #[(0, .int .u8 b), (1, .int .u8 ((b ^^^ 85 : Nat) : Int)), (2, .int .u8 7)] _ (sum_built3 _ _)) h
end
/-- A list that grows, never nil. -/
structure OwnG (w : World) (base : Nat) (v : Value) (l : List (List Int)) : Prop where
  own : OwnL 50 32 sumC w base w.heap.size v l
  some : ∃ B c, v = .slice (some ⟨B, 0, none⟩) l.length c
theorem OwnG.of {w : World} {base : Nat} {v : Value} {l : List (List Int)} {x : List Int} (h : OwnL 50 32 sumC w base w.heap.size v (l ++ [x])) : OwnG w base v (l ++ [x]) := by
  refine ⟨h, ?_⟩
  cases l with
  | nil => obtain ⟨B, c, e, _⟩ := OwnL.sums (x := x) (m := []) h; exact ⟨B, c, e⟩
  | cons y l => obtain ⟨B, c, e, _⟩ := OwnL.sums (x := y) (m := l ++ [x]) h; exact ⟨B, c, e⟩
attribute [local irreducible] nought sumVal sumC sumOf sumsL
set_option maxRecDepth 100000 in
set_option maxHeartbeats 4000000 in
theorem sums_any (p : Option Addr) (n cap : Nat) (g : Nat → Nat) (hg : ∀ i, i < n → g i < 256) (hn : n ≤ 2000000) (w : World) (hp : BytesAt w p n g) :
    Calls Try.prog 11 #[.slice p n cap] w fun e w' => ∃ B c, e = .returned (.slice (some ⟨B, 0, none⟩) n c) ∧ OwnL 50 32 sumC w' w.heap.size w'.heap.size (.slice (some ⟨B, 0, none⟩) n c) (sumsL n g) ∧ Below w.heap.size w w' := by
  have HP := Lib.hid hp; have HG := Lib.hid hg; have HN := Lib.hid hn
  have L0 := Lib.hid (show sumsL 0 g = [] by unfold sumsL; rfl)
  have LN := Lib.hid (fun k => sumsL_next k g)
  have LL := Lib.hid (fun k => sumsL_len k g)
  have Z0 := Lib.hid sumOf_zero
  clear hp hg hn
  generalize hS : w.heap.size = S at *
  have HS := Lib.hid hS
  clear hS
  go_enter Try.func11, Try.ntmps11
  go_wp2_with (first
    | (refine wpList_list0 elemSum rfl rfl ?_
       have O1 := Lib.hid (show OwnG (w.alloc (.cells #[] 50)) S (.slice (some ⟨w.heap.size, 0, none⟩) 0 0) (sumsL 0 g) from by rw [L0.out, ← HS.out]; exact ⟨by rw [World.size_alloc]; exact OwnL.empty 50 32 sumC w w.heap.size (Nat.le_refl _), ⟨_, 0, rfl⟩⟩)
       have B1 := Lib.hid (show Below S w (w.alloc (.cells #[] 50)) from (Below.refl _ _).alloc (by rw [HS.out]; exact Nat.le_refl _) _)
       generalize w.alloc (.cells #[] 50) = w1 at *))
  go_loopw [3, 10] (fun v3 v10 wr => ∃ k : Nat, k ≤ n ∧ v10 = .int .i64 k ∧ OwnG wr S v3 (sumsL k g) ∧ Below S w wr) (fun _ v10 _ => n - (intOf v10).toNat)
  case atStart => exact ⟨0, Nat.zero_le _, rfl, O1.out, B1.out⟩
  case round =>
    obtain ⟨k, hk, rfl, ho, hb⟩ := hrel
    have OO := Lib.hid ho; have BB := Lib.hid hb
    clear ho hb O1 B1
    by_cases hlt : k < n
    · have f1 : (k : Int) < (n : Int) := by omega
      have f2 : (0 : Int) ≤ k := by omega
      have HLT := Lib.hid hlt
      rcases HP.out.below (HS.out.symm ▸ BB.out) with h0 | ⟨B, o, rfl, hB, hc⟩
      · omega
      have cs := hc k hlt
      have gk := HG.out k hlt
      have GK := Lib.hid gk
      have HNX := Lib.hid (LN.out k)
      have HLK := Lib.hid (LL.out k)
      have HNW := Lib.hid (show wrap64 ((k : Int) + 1) = ((k + 1 : Nat) : Int) by have := HN.out; rw [IntWalk.wrap64_in _ (by omega)]; omega)
      have f3 : IntKind.i64.wrap ((k : Int) + 1) = ((k + 1 : Nat) : Int) := by have := HN.out; rw [IntWalk.i64_in _ (by omega)]; omega
      have x1 := bits_xor_u8 (x := g k) (y := 85) gk (by decide)
      have X1 := Lib.hid (show bits .xor .u8 ((g k : Nat) : Int) 85 = ((g k ^^^ 85 : Nat) : Int) from x1)
      clear LN LL hc hlt x1 hB
      generalize hgk : g k = b at *
      have HGK := Lib.hid hgk
      clear hgk
      generalize sumsL k g = L at *
      by_cases hb0 : b = 0
      · subst hb0
        go_wp2_with (first
          | (refine wpList_sum_build0 rfl rfl ?_)
          | (refine wpList_sum_alloc rfl rfl wr.heap.size rfl ?_; intro w2 hD hb hs
             have D2 := Lib.hid hD; have B2 := Lib.hid hb; have S2 := Lib.hid hs; clear hD hb hs)
          | (refine wpList_sum_store rfl _ _ rfl rfl wr.heap.size 0 rfl nought rfl [nought] D2.out (by decide) ?_; intro w3 hD hb hs
             have D3 := Lib.hid hD; have B3 := Lib.hid (B2.out.trans (hb.below (Nat.le_refl _) (by rw [S2.out]; omega))); clear hD hb hs D2 B2)
          | (refine wpList_sum_load rfl _ rfl wr.heap.size 0 rfl nought D3.out.one ?_)
          | (refine wpList_one rfl _ rfl nought rfl ?_; intro w4 hr hb hs
             have R4 := Lib.hid hr; have B4 := Lib.hid (B3.out.trans (hb.mono B3.out.size)); clear hr hb hs D3)
          | (refine wpList_grow elemSum rfl _ _ rfl S wr.heap.size _ L [nought] _ 1 1 rfl rfl rfl (OO.out.own.below (Nat.le_refl _) B4.out) R4.out (by rw [HLK.out]; have := HN.out; have := HLT.out; simp only [List.length_cons, List.length_nil]; omega) (by decide) (Nat.le_trans (HS.out ▸ BB.out.size) B4.out.size) ?_; intro v5 w5 ho hb
             have O5 := Lib.hid (OwnG.of ho); have B5 := Lib.hid ((BB.out.trans (B4.out.mono (HS.out ▸ BB.out.size))).trans hb); clear ho hb R4 B4))
        rw [Z0.out] at HNX
        go_roundw
        case rel => exact ⟨k + 1, HLT.out, by go_num, by rw [HNX.out]; exact O5.out, B5.out⟩
        case measure => have := HLT.out; simp [intOf]; omega
      · have HB0 := Lib.hid hb0
        have g0 : decide ((0 : Int) < (b : Int)) = true := decide_eq_true (by omega)
        have g1 : decide (0 < b) = true := decide_eq_true (by omega)
        go_wp2_with (first
          | (refine wpList_sum_build0 rfl rfl ?_)
          | (refine wpList_sum_alloc rfl rfl wr.heap.size rfl ?_; intro w2 hD hb hs
             have D2 := Lib.hid hD; have B2 := Lib.hid hb; have S2 := Lib.hid hs; clear hD hb hs)
          | (refine wpList_sum_store rfl _ _ rfl rfl wr.heap.size 0 rfl nought rfl [nought] D2.out (by decide) ?_; intro w3 hD hb hs
             have D3 := Lib.hid hD; have B3 := Lib.hid (B2.out.trans (hb.below (Nat.le_refl _) (by rw [S2.out]; omega))); clear hD hb hs D2 B2)
          | (refine wpList_built3 rfl _ _ rfl b GK.out HB0.out rfl (by show Value.int .u8 (bits .xor .u8 ((b : Nat) : Int) 85) = _; rw [X1.out]) ?_)
          | (refine wpList_sum_store rfl _ _ rfl rfl wr.heap.size 0 rfl (sumOf b) rfl [nought] D3.out (by decide) ?_; intro w3b hD hb hs
             have D3b := Lib.hid hD; have B3b := Lib.hid (B3.out.trans (hb.below (Nat.le_refl _) B3.out.size)); clear hD hb hs D3 B3)
          | (refine wpList_sum_load rfl _ rfl wr.heap.size 0 rfl (sumOf b) D3b.out.one ?_)
          | (refine wpList_one rfl _ rfl (sumOf b) rfl ?_; intro w4 hr hb hs
             have R4 := Lib.hid hr; have B4 := Lib.hid (B3b.out.trans (hb.mono B3b.out.size)); clear hr hb hs D3b)
          | (refine wpList_grow elemSum rfl _ _ rfl S wr.heap.size _ L [sumOf b] _ 1 1 rfl rfl rfl (OO.out.own.below (Nat.le_refl _) B4.out) R4.out (by rw [HLK.out]; have := HN.out; have := HLT.out; simp only [List.length_cons, List.length_nil]; omega) (by decide) (Nat.le_trans (HS.out ▸ BB.out.size) B4.out.size) ?_; intro v5 w5 ho hb
             have O5 := Lib.hid (OwnG.of ho); have B5 := Lib.hid ((BB.out.trans (B4.out.mono (HS.out ▸ BB.out.size))).trans hb); clear ho hb R4 B4))
        go_roundw
        case rel => exact ⟨k + 1, HLT.out, by go_num, by rw [HNX.out]; exact O5.out, B5.out⟩
        case measure => have := HLT.out; simp [intOf]; omega
    · obtain rfl : k = n := by omega
      have f1 : ¬ (k : Int) < (k : Int) := by omega
      obtain ⟨B, c, rfl⟩ := OO.out.some
      have LLK := LL.out k
      rw [LLK] at OO ⊢
      go_wp2
      go_ret
      exact ⟨B, c, rfl, OO.out.own, BB.out⟩
end Go.Proofs.Ytghdeedglekphaa
