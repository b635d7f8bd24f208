/- The contract of package citadelref04's primes: the first so many primes. It writes nothing that was there. Condition: from 1 to 64 of them. -/
import Derived.Test.YtibbnnechjmdmaaDoorRootC
namespace Go.Proofs.YtibbnnechjmdmaaDoor
open Go.ChangeShapes Go.WideShapes Go.ChangeAt Go.RowKit

/-- The primes, one behind the other. -/
def primeF (j : Nat) : Nat := primeL.getD j 0
def goodTo (q : Nat) : Nat → Bool
  | 0 => true
  | i + 1 => goodTo q i && (q % primeF i != 0)
theorem goodTo_step (q i : Nat) : goodTo q (i + 1) = (goodTo q i && (q % primeF i != 0)) := rfl
theorem goodTo_all (q : Nat) : ∀ {i : Nat}, i ≤ 64 → (primeL.take i).all (fun x => q % x != 0) = goodTo q i
  | 0, _ => rfl
  | i + 1, h => by
    have hi : i < primeL.length := by rw [primeL_len]; omega
    rw [List.take_add_one, List.all_append, goodTo_all q (by omega), goodTo_step, List.getElem?_eq_getElem hi]
    have : primeF i = primeL[i] := by unfold primeF; rw [List.getD_eq_getElem?_getD, List.getElem?_eq_getElem hi]; rfl
    rw [this]
    simp
theorem found_le {q : Nat} (h : 2 ≤ q) (hq : q ≤ 312) : (found q).length ≤ 64 := by
  have := (found_prefix h (312 - q)).length_le
  rw [show q + (312 - q) = 312 by omega, show (found 312).length = 64 from primeL_len] at this
  exact this
theorem found_good {q : Nat} (h : 2 ≤ q) (hq : q ≤ 312) : (found q).all (fun x => q % x != 0) = goodTo q (found q).length := by
  rw [← goodTo_all q (found_le h hq), ← found_take h hq rfl]
theorem found_yes {q k : Nat} (h : 2 ≤ q) (hq : q < 312) (hk : (found q).length = k) (hg : goodTo q k = true) : (found (q + 1)).length = k + 1 ∧ primeF k = q := by
  have h1 := found_on h
  rw [found_good h (by omega), hk, hg, if_pos rfl] at h1
  have h2 : (found (q + 1)).length = k + 1 := by rw [h1, List.length_append, hk]; rfl
  refine ⟨h2, ?_⟩
  have h3 := found_take (p := q + 1) (by omega) (by omega) h2
  have h4 : (primeL.take (k + 1))[k]? = some q := by rw [← h3, h1, List.getElem?_append_right (by omega), hk, Nat.sub_self]; rfl
  rw [List.getElem?_take_of_lt (by omega)] at h4
  unfold primeF
  rw [List.getD_eq_getElem?_getD, h4]; rfl
theorem found_no {q k : Nat} (h : 2 ≤ q) (hq : q < 312) (hk : (found q).length = k) (hg : goodTo q k = false) : (found (q + 1)).length = k := by
  rw [found_on h, found_good h (by omega), hk, hg, if_neg (by decide), hk]
set_option maxRecDepth 100000 in
theorem primeF_pos : ∀ j, j < 64 → 2 ≤ primeF j := by decide +kernel
theorem own_slice {e : TypeId} {w : World} {base top k : Nat} {v : Value} {F : Nat → Nat} (h : OwnU e 1 w base top v k F) : ∃ a c, v = .slice a k c := by
  rcases h with ⟨h1, h2⟩ | ⟨B, c, cur, h1, _⟩
  · subst h2; exact ⟨none, 0, h1⟩
  · exact ⟨some ⟨B, 0, none⟩, c, h1⟩
attribute [local irreducible] found primeF goodTo

set_option maxRecDepth 100000 in
set_option maxHeartbeats 4000000 in
theorem primes_any (n : Nat) (hn : 1 ≤ n) (hn64 : n ≤ 64) (w : World) :
    Calls Tryd.prog 25 #[.int .i64 n] w fun e w' => ∃ B c, e = .returned (.slice (some ⟨B, 0, none⟩) n c) ∧ w.heap.size ≤ B ∧ WAt w' B n primeF ∧ Below w.heap.size w w' := by
  have HN := Lib.hid hn; have HN64 := Lib.hid hn64
  clear hn hn64
  go_enter Tryd.func25, Tryd.ntmps25
  go_wp2
  go_loopw [3, 4, 5, 6] (fun v3 v4 _ _ wr => ∃ (q k top : Nat), v4 = .int .u64 q ∧ 2 ≤ q ∧ q ≤ 312 ∧ (found q).length = k ∧ k ≤ n ∧ OwnU 54 1 wr w.heap.size top v3 k primeF ∧ top ≤ wr.heap.size ∧ Below w.heap.size w wr) (fun _ v _ _ _ => 312 - (intOf v).toNat)
  case atStart => exact ⟨2, 0, w.heap.size, rfl, by omega, by omega, by rw [found_two]; rfl, by omega, OwnU.nil _ _ _ _ _ _, Nat.le_refl _, Below.refl _ _⟩
  case round =>
    obtain ⟨q, k, top, rfl, hq2, hq, hk, hkn, hv, htop, hbl⟩ := hrel
    obtain ⟨a3, c3, rfl⟩ := own_slice hv
    have hN64 := HN64.out
    have HV := Lib.hid hv; have HBL := Lib.hid hbl; have HK := Lib.hid hk; have HKN := Lib.hid hkn
    have hsz := hbl.size
    by_cases hlt : k < n
    · have e1 : (k : Int) < n := by omega
      have hq3 : q < 312 := found_bound (by rw [hk]; omega)
      clear hv hbl hk
      go_wp2
      generalize wr = wo at *
      go_loopw [5, 6] (fun v5 v6 wk => ∃ i : Nat, i ≤ k ∧ v6 = .int .i64 i ∧ v5 = .bool (goodTo q i) ∧ wo = wk) (fun _ v _ => k - (intOf v).toNat)
      case atStart => exact ⟨0, by omega, rfl, by unfold goodTo; rfl, rfl⟩
      case round =>
        obtain ⟨i, hi, rfl, rfl, rfl⟩ := hrel
        by_cases hik : i < k
        · have e2 : (i : Int) < k := by omega
          obtain ⟨B, c, he, _, _, _, hwt⟩ := HV.out.words (by omega)
          simp only [Value.slice.injEq, true_and] at he
          obtain ⟨rfl, rfl⟩ := he
          have cx := hwt.2 i hik
          have hx := primeF_pos i (by omega)
          have hst := goodTo_step q i
          obtain ⟨x, hx'⟩ : ∃ x, primeF i = x := ⟨_, rfl⟩
          rw [hx'] at cx hx hst
          obtain ⟨r, hr⟩ : ∃ r, q % x = r := ⟨_, rfl⟩
          rw [hr] at hst
          have m1 : (q : Int).tmod (x : Int) = (r : Int) := by rw [Int.tmod_eq_emod_of_nonneg (by omega), ← hr]; rfl
          have n0 : ¬ (x : Int) = 0 := by omega
          have n0' : ¬ x = 0 := by omega
          clear hwt hr hx' hx
          obtain ⟨b, hb⟩ : ∃ b, goodTo q i = b := ⟨_, rfl⟩
          rw [hb] at hst ⊢
          cases b with
          | true =>
            by_cases h0 : r = 0
            · rw [h0] at hst m1
              have hg : goodTo q (i + 1) = false := hst
              have HG := Lib.hid hg
              clear hst hg hb h0
              go_wp2
              go_roundw
              case rel => exact ⟨i + 1, by omega, by go_num, by rw [HG.out], trivial⟩
              case measure => simp [intOf]; omega
            · have hg : goodTo q (i + 1) = true := by rw [hst]; simp; exact h0
              have HG := Lib.hid hg
              have n1 : ¬ (r : Int) = 0 := by omega
              have n2 : ((r : Int) == 0) = false := by simp; omega
              have n3 : ((r : Int) != 0) = true := by simp; omega
              clear hst hg hb
              go_wp2
              go_roundw
              case rel => exact ⟨i + 1, by omega, by go_num, by rw [HG.out], trivial⟩
              case measure => simp [intOf]; omega
          | false =>
            have hg : goodTo q (i + 1) = false := hst
            have HG := Lib.hid hg
            clear hst hg hb
            go_wp2
            go_roundw
            case rel => exact ⟨i + 1, by omega, by go_num, by rw [HG.out], trivial⟩
            case measure => simp [intOf]; omega
        · have ei : i = k := by omega
          have hd1 : decide ((i : Int) < (k : Int)) = false := by simp; omega
          rw [ei]
          obtain ⟨b, hb⟩ : ∃ b, goodTo q k = b := ⟨_, rfl⟩
          rw [hb]
          have m2 : IntKind.u64.wrap ((q : Int) + 1) = ((q + 1 : Nat) : Int) := by rw [IntWalk.u64_in _ (by omega)]; omega
          obtain ⟨q1, hq1⟩ : ∃ q1, q + 1 = q1 := ⟨_, rfl⟩
          have hk' := HK.out
          cases b with
          | true =>
            obtain ⟨hy1, hy2⟩ := found_yes hq2 hq3 hk' hb
            rw [hq1] at m2 hy1
            have n1 := one_new wo q
            have b1 := below_new wo (.cells (cellsOf .u64 [(q : Int)]) 54)
            have hv1 := HV.out.below b1 htop
            have N1 := Lib.hid n1; have B1 := Lib.hid b1; have HV1 := Lib.hid hv1; have HY1 := Lib.hid hy1; have HY2 := Lib.hid hy2.symm; have HQ1 := Lib.hid hq1
            clear n1 b1 hv1 hy1 hy2 hb ei HV hk' hq1
            go_wp2_with (first
              | (refine wpList_buildFlat rfl 51 54 1 _ rfl .u64 [(q : Int)] wordsUnder64 wordInfo64 (by rw [wordZero64]; rfl) rfl (by omega) (by omega) rfl ?_)
              | (refine wpList_append_u64 rfl (.tmp 30) (.tmp 32) rfl w.heap.size top k 1 (.slice a3 k c3) primeF wo.heap.size q rfl rfl HV1.out N1.out HY2.out (by omega) (by rw [World.size_alloc]; omega) ?_; intro v' w' hv' hb'
                 have HV' := Lib.hid hv'; have HB' := Lib.hid ((HBL.out.trans (B1.out.mono hsz)).trans hb')
                 clear hv' hb' HV1)
              | fail)
            go_roundw
            case rel => exact ⟨q1, k + 1, w'.heap.size, rfl, by have := HQ1.out; omega, by have := HQ1.out; omega, HY1.out, by omega, HV'.out, Nat.le_refl _, HB'.out⟩
            case measure => have := HQ1.out; simp [intOf]; omega
          | false =>
            have hno := found_no hq2 hq3 hk' hb
            rw [hq1] at m2 hno
            have HNO := Lib.hid hno; have HQ1 := Lib.hid hq1
            clear hno hb ei hk' hq1
            go_wp2
            go_roundw
            case rel => exact ⟨q1, k, top, rfl, by have := HQ1.out; omega, by have := HQ1.out; omega, HNO.out, by omega, HV.out, htop, HBL.out⟩
            case measure => have := HQ1.out; simp [intOf]; omega
    · have ek : k = n := by omega
      have hd1 : decide ((k : Int) < (n : Int)) = false := by simp; omega
      have HEK := Lib.hid ek
      clear hv hbl hk ek
      go_wp2
      go_ret
      have hn1 := HN.out
      obtain ⟨B, c, he, hwB, _, _, hwt⟩ := HV.out.words (by have := HEK.out; omega)
      simp only [Value.slice.injEq, true_and] at he
      obtain ⟨rfl, rfl⟩ := he
      exact ⟨B, c3, by rw [← HEK.out]; rfl, hwB, by rw [← HEK.out]; exact hwt, HBL.out⟩
end Go.Proofs.YtibbnnechjmdmaaDoor
