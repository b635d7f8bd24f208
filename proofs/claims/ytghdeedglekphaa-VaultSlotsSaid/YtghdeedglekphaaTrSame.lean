/- The contract of citadellaw11's same, at two lists of the same tags. No condition. -/
import Derived.Test.YtghdeedglekphaaTrSums
namespace Go.Proofs.Ytghdeedglekphaa
open Go.ChangeShapes Go.WideShapes Go.ChangeAt Go.RowKit
set_option linter.unusedVariables false
theorem sameSum_self (x : List Int) : sameSum x x = true := by unfold sameSum; exact beq_self_eq_true _
theorem rows_all {w : World} {q : Option Addr} {l : List (List Int)} {k : Nat} (hk : k < l.length) (h : RowsAt 32 sumC w q l) : ∃ B o, q = some ⟨B, o, none⟩ ∧ ∀ i, i < l.length → ∀ W, Below w.heap.size w W → W.rangeAt B (o + 32 * i) (sumC (l.getD i [])) := by
  obtain ⟨B, o, rfl, _, _⟩ := sumsAt_get h hk
  refine ⟨B, o, rfl, fun i hi W hb => ?_⟩
  obtain ⟨B', o', e, _, hr⟩ := sumsAt_get (h.below hb) hi
  cases e; exact hr
attribute [local irreducible] nought sumVal sumC sameSum
set_option maxRecDepth 100000 in
set_option maxHeartbeats 4000000 in
theorem same_any (p q : Option Addr) (c d m : Nat) (l : List (List Int)) (hm : l.length = m) (hm2 : m ≤ 100000000) (w : World) (hp : RowsAt 32 sumC w p l) (hq : RowsAt 32 sumC w q l) :
    Calls Try.prog 14 #[.slice p m c, .slice q m d] w fun e w' => e = .returned (.bool true) ∧ Below w.heap.size w w' := by
  have HM := Lib.hid hm2
  have HL := Lib.hid hm
  have hpq : m = 0 ∨ ∃ B o E r, p = some ⟨B, o, none⟩ ∧ q = some ⟨E, r, none⟩ ∧ ∀ i, i < m → ∀ W, Below w.heap.size w W → W.rangeAt B (o + 32 * i) (sumC (l.getD i [])) ∧ W.rangeAt E (r + 32 * i) (sumC (l.getD i [])) := by
    by_cases h0 : m = 0
    · exact .inl h0
    · obtain ⟨B, o, rfl, hB⟩ := rows_all (k := 0) (by omega) hp
      obtain ⟨E, r, rfl, hE⟩ := rows_all (k := 0) (by omega) hq
      exact .inr ⟨B, o, E, r, rfl, rfl, fun i hi W hb => ⟨hB i (by omega) W hb, hE i (by omega) W hb⟩⟩
  have HPQ := Lib.hid hpq
  clear hp hq hpq hm hm2
  have k1 : decide ((m : Int) = (m : Int)) = true := decide_eq_true rfl
  go_enter Try.func14, Try.ntmps14
  go_wp2
  go_loopw [13] (fun v13 wr => ∃ k : Nat, k ≤ m ∧ v13 = .int .i64 k ∧ Below w.heap.size w wr) (fun v13 _ => m - (intOf v13).toNat)
  case atStart => exact ⟨0, Nat.zero_le _, rfl, Below.refl _ _⟩
  case round =>
    obtain ⟨k, hk, rfl, hb⟩ := hrel
    have BB := Lib.hid hb
    clear hb
    by_cases hlt : k < m
    · have f1 : (k : Int) < (m : Int) := by omega
      have HLT := Lib.hid hlt
      rcases HPQ.out with h0 | ⟨B, o, E, r, rfl, rfl, hr⟩
      · omega
      have HR := Lib.hid (hr k hlt)
      have HNW := Lib.hid (show wrap64 ((k : Int) + 1) = ((k + 1 : Nat) : Int) by have := HM.out; rw [IntWalk.wrap64_in _ (by omega)]; omega)
      have f3 : IntKind.i64.wrap ((k : Int) + 1) = ((k + 1 : Nat) : Int) := by have := HM.out; rw [IntWalk.i64_in _ (by omega)]; omega
      have HS := Lib.hid (sameSum_self (l.getD k []))
      clear hr HPQ hlt
      generalize l.getD k [] = t at *
      go_wp2
      refine wp_region_sched [(0, true), (1, true), (2, true), (3, true), (4, true), (5, true), (6, true), (7, true), (8, true)] (fun W => Below w.heap.size w W) (by kernel_rfl) (by kernel_rfl) (BB.out.drew) ?_
      refine walk_float rfl rfl (fun K' hK => ?_)
      refine gives_move _ rfl ?_
      go_simp
      refine hK _ ?_
      clear hK K'
      refine walk_float rfl rfl (fun K' hK => ?_)
      refine gives_move _ rfl ?_
      go_simp
      refine hK _ ?_
      clear hK K'
      refine walk_float rfl rfl (fun K' hK => ?_)
      refine gives_sum_elem _ _ rfl B o m c k rfl rfl HLT.out ?_
      go_simp
      refine hK _ ?_
      clear hK K'
      refine walk_float rfl rfl (fun K' hK => ?_)
      refine gives_sum_mid _ rfl B (o + 32 * k) rfl t (fun W h => (HR.out W h).1) ?_
      go_simp
      refine hK _ ?_
      clear hK K'
      refine walk_float rfl rfl (fun K' hK => ?_)
      refine gives_move _ rfl ?_
      go_simp
      refine hK _ ?_
      clear hK K'
      refine walk_float rfl rfl (fun K' hK => ?_)
      refine gives_move _ rfl ?_
      go_simp
      refine hK _ ?_
      clear hK K'
      refine walk_float rfl rfl (fun K' hK => ?_)
      refine gives_sum_elem _ _ rfl E r m d k rfl rfl HLT.out ?_
      go_simp
      refine hK _ ?_
      clear hK K'
      refine walk_float rfl rfl (fun K' hK => ?_)
      refine gives_sum_mid _ rfl E (r + 32 * k) rfl t (fun W h => (HR.out W h).2) ?_
      go_simp
      refine hK _ ?_
      clear hK K'
      refine walk_float rfl rfl (fun K' hK => ?_)
      refine gives_sum_neq2 _ _ rfl t t rfl rfl false (by rw [HS.out]; rfl) ?_
      go_simp
      refine hK _ ?_
      clear hK K'
      refine walk_nil ?_
      have B2 := Lib.hid (show Below w.heap.size w wr.drew from BB.out.drew)
      go_wp2
      go_roundw
      case rel => exact ⟨k + 1, HLT.out, by go_num, B2.out⟩
      case measure => have := HLT.out; simp [intOf]; omega
    · obtain rfl : k = m := by omega
      have f1 : ¬ (k : Int) < (k : Int) := by omega
      go_wp2
      go_ret
      exact ⟨rfl, BB.out⟩
end Go.Proofs.Ytghdeedglekphaa
