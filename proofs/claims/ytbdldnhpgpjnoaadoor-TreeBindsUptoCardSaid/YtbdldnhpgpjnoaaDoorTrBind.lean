/- What TreeBinds needs: pairs of tags, a node's depth, regions within a round whose order Go leaves open. Conditions: as each says. -/
import Derived.Test.YtbdldnhpgpjnoaaDoorTrBox
import Derived.Test.YtbdldnhpgpjnoaaDoorTrRefU
import Derived.Test.YtbdldnhpgpjnoaaDoorTrEx
import Derived.DeepKeys
namespace Go.Proofs.YtbdldnhpgpjnoaaDoor
open Go.ChangeShapes Go.WideShapes Go.ChangeAt Go.RowKit
set_option linter.unusedVariables false
/-! ### A path's two children -/
def kidsF (T : Nat → List Int) (c : Nat) (t : List Int) : List (List Int) := [T (2 * (c / 2)), T (2 * (c / 2) + 1)].set (c % 2) t
theorem par_kids (N : Nat → List Int → List Int → List Int) (T : Nat → List Int) (c : Nat) (t : List Int) : ∃ x y, kidsF T c t = [x, y] ∧ parF N T c t = N (c / 2) x y ∧ (c % 2 = 0 → x = t) ∧ (c % 2 = 1 → y = t) := by
  unfold kidsF parF
  rcases Nat.mod_two_eq_zero_or_one c with h | h
  · rw [h, if_pos rfl]
    exact ⟨t, T (2 * (c / 2) + 1), rfl, by rw [show c + 1 = 2 * (c / 2) + 1 by omega], fun _ => rfl, fun h => absurd h (by decide)⟩
  · rw [h, if_neg (by decide)]
    exact ⟨T (2 * (c / 2)), t, rfl, by rw [show c - 1 = 2 * (c / 2) by omega], fun h => absurd h (by decide), fun _ => rfl⟩
def lvF (i : Nat) : Nat := if i < 2 then 0 else if i < 4 then 1 else if i < 8 then 2 else 3
theorem lv_path : ∀ b, b < 16 → ∀ j, j < 4 → lvF (pn b (j + 1)) = 3 - j := by decide
theorem lv_side : ∀ b, b < 16 → ∀ j, j < 4 → b / 2 ^ j % 2 = pn b j % 2 := by decide
theorem lv_step : ∀ c, c < 16 → 1 < c → lvF c = lvF (c / 2) + 1 := by decide
theorem lv_one {c : Nat} (h : c < 2) : lvF c = 0 := if_pos h
attribute [local irreducible] lvF in
set_option maxRecDepth 100000 in
set_option maxHeartbeats 1000000 in
theorem level_any (i : Nat) (h1 : 1 ≤ i) (h16 : i < 16) (w : World) : Calls Tryd.prog 39 #[.int .i64 i] w fun e w' => e = .returned (.int .i64 (lvF i : Nat)) ∧ Below w.heap.size w w' := by
  have LS := Lib.hid lv_step
  have L1 := Lib.hid (show lvF 1 = 0 from lv_one (by decide))
  go_enter Tryd.func39, Tryd.ntmps39
  go_wp2
  go_loopw [0, 3] (fun v0 v3 wr => ∃ c m : Nat, 1 ≤ c ∧ c < 16 ∧ v0 = .int .i64 c ∧ v3 = .int .i64 m ∧ m + lvF c = lvF i ∧ m ≤ 16 ∧ m + c ≤ 16 ∧ Below w.heap.size w wr) (fun v0 _ _ => (intOf v0).toNat)
  case atStart => exact ⟨i, 0, h1, h16, rfl, rfl, by omega, by omega, by omega, Below.refl _ _⟩
  case round =>
    obtain ⟨c, m, hc1, hc16, rfl, rfl, hm, hm16, hmc, hb⟩ := hrel
    have BB := Lib.hid hb
    clear hb
    by_cases hlt : 1 < c
    · have f1 : decide ((1 : Int) < (c : Int)) = true := decide_eq_true (by omega)
      have f2 : decide (1 < c) = true := decide_eq_true hlt
      have f3 : IntKind.i64.wrap ((c : Int) / 2) = ((c / 2 : Nat) : Int) := by rw [IntWalk.i64_in _ (by omega)]; omega
      have f3' : wrap64 ((c : Int) / 2) = ((c / 2 : Nat) : Int) := by rw [IntWalk.wrap64_in _ (by omega)]; omega
      have f4 : IntKind.i64.wrap ((m : Int) + 1) = ((m + 1 : Nat) : Int) := by rw [IntWalk.i64_in _ (by omega)]; omega
      have HC := Lib.hid (show 1 ≤ c / 2 ∧ c / 2 < 16 ∧ c / 2 < c ∧ m + 1 + lvF (c / 2) = lvF i ∧ m + 1 ≤ 16 ∧ m + 1 + c / 2 ≤ 16 from ⟨by omega, by omega, by omega, by have := LS.out c hc16 hlt; omega, by omega, by omega⟩)
      clear hm hmc LS
      go_wp2
      go_roundw
      case rel => exact ⟨c / 2, m + 1, HC.out.1, HC.out.2.1, by go_num, by go_num, HC.out.2.2.2.1, HC.out.2.2.2.2.1, HC.out.2.2.2.2.2, BB.out⟩
      case measure => have := HC.out.2.2.1; simp [intOf]; omega
    · obtain rfl : c = 1 := by omega
      have e : m = lvF i := by rw [L1.out] at hm; omega
      subst e
      clear hm hmc
      go_wp2
      go_ret
      exact ⟨rfl, BB.out⟩
/-! ### Pairs -/
def pairS (x y : List Int) : Value := .agg (sumC x ++ sumC y).toArray
theorem pair_size : (Tryd.prog.info? 74).map (·.size) = some 64 := by kernel_rfl
theorem pair_under : Tryd.prog.underlying 74 = some (.array 2 27) := by kernel_rfl
theorem pair_cut0 (x y : List Int) : (sumC x ++ sumC y).toArray.extract 0 32 = cellsOf .u8 (mk 32 (natF x)) := by kernel_rfl
theorem pair_cut1 (x y : List Int) : (sumC x ++ sumC y).toArray.extract 32 64 = cellsOf .u8 (mk 32 (natF y)) := by kernel_rfl
theorem isAgg_sum (w : World) : (isAgg 27).run Tryd.prog w = .ok true w := by simp [go_sem]
theorem size_sum (w : World) : (sizeOf 27).run Tryd.prog w = .ok 32 w := by
  have h := sumSz
  cases hq : Tryd.prog.info? 27 with
  | none => rw [hq] at h; simp at h
  | some i =>
    rw [hq] at h
    have : i.size = 32 := by simpa using h
    simp [sizeOf, typeInfo, hq, this]
theorem sum_eq9 (f g : Nat → Nat) (w : World) : (Op.equalIn 9999 27 (.agg (cellsOf .u8 (mk 32 f))) (.agg (cellsOf .u8 (mk 32 g)))).run Tryd.prog w = .ok (mk 32 f == mk 32 g) w :=
  run_equalIn_ints w 9997 (mk 32 f) (mk 32 g) (by rw [mk_len]; exact sumUnder) byteElem (by rw [mk_len, mk_len])
theorem part0 (x y : List Int) (w : World) : (part 27 (sumC x ++ sumC y).toArray 0).run Tryd.prog w = .ok (.agg (cellsOf .u8 (mk 32 (natF x)))) w := by
  unfold part
  simp only [Sem.run_bind, isAgg_sum, Result.andThen_ok, if_true, size_sum, Sem.run_pure, pair_cut0, Nat.zero_add]
theorem part1 (x y : List Int) (w : World) : (part 27 (sumC x ++ sumC y).toArray 32).run Tryd.prog w = .ok (.agg (cellsOf .u8 (mk 32 (natF y)))) w := by
  unfold part
  simp only [Sem.run_bind, isAgg_sum, Result.andThen_ok, if_true, size_sum, Sem.run_pure, Nat.reduceAdd, pair_cut1]
attribute [local irreducible] sumC in
theorem pair_eq (x y u v : List Int) (w : World) : (Op.equalIn 10000 74 (pairS x y) (pairS u v)).run Tryd.prog w = .ok (sameSum x u && sameSum y v) w := by
  unfold pairS
  rw [show (10000 : Nat) = 9999 + 1 from rfl, Op.equalIn]
  simp only [Sem.run_bind, run_underlying pair_under, Result.andThen_ok, size_sum]
  simp only [Std.Legacy.Range.forIn_eq_forIn_range', Std.Legacy.Range.size, Nat.sub_zero, Nat.add_sub_cancel, Nat.div_one]
  have e0 := sum_eq9 (natF x) (natF u) w
  have e1 := sum_eq9 (natF y) (natF v) w
  unfold sameSum
  cases h0 : (mk 32 (natF x) == mk 32 (natF u)) <;> cases h1 : (mk 32 (natF y) == mk 32 (natF v)) <;> rw [h0] at e0 <;> rw [h1] at e1 <;> simp [List.range', part0, part1, e0, e1]
theorem pair_apart {x y u v : List Int} (hx : IsSum x) (hy : IsSum y) (hu : IsSum u) (hv : IsSum v) (hne : ¬ (x = u ∧ y = v)) : (sameSum x u && sameSum y v) = false := by
  cases h : (sameSum x u && sameSum y v) with
  | false => rfl
  | true =>
    rw [Bool.and_eq_true] at h
    exact absurd ⟨(sameSum_iff hx hu).1 h.1, (sameSum_iff hy hv).1 h.2⟩ hne
theorem pair_built (x y : List Int) : Tryd.prog.built 74 [(0, sumVal x), (1, sumVal y)] = some (sumC x ++ sumC y).toArray := by kernel_rfl
theorem pair_zero : (Tryd.prog.info? 74).bind (·.zero) = some (pairS [] []) := by kernel_rfl
end Go.Proofs.YtbdldnhpgpjnoaaDoor
