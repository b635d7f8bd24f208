/- What the laws ask besides: citadellaw10's cells and large, an entry of no put. Conditions: as each says. -/
import Derived.Test.YtdeojhcfbiekmaaDoorRdRefD
import Derived.Test.YtdeojhcfbiekmaaDoorRdPuts
import Derived.Test.YtdeojhcfbiekmaaDoorRdSame
import Derived.Test.YtdeojhcfbiekmaaDoorRdErr
import Derived.Test.YtdeojhcfbiekmaaDoorRdLawN
namespace Go.Proofs.YtdeojhcfbiekmaaDoor
open Go.ChangeShapes Go.WideShapes Go.ChangeAt Go.RowKit
set_option linter.unusedVariables false
theorem good_one : goodE 1 [] := ⟨by decide, by decide, fun p hp => by simp at hp, List.nodup_nil⟩
theorem first_one : natF (firstL 1 []) 7 = 1 := by
  unfold firstL
  rw [natF_pad _ (by decide)]
  have h := head_count 1 (([] : List PutOf).map (·.at')) (j := 7) (by decide)
  rw [h]
  decide
/-- An entry of no put. -/
theorem one_any (kp : Option Addr) (nk kc : Nat) (g : Nat → Nat) (hnk : nk ≤ 100000) (hkc : nk ≤ kc) (hg : ∀ i, i < nk → g i < 256) (w : World) (hT : TabAt w) (hk : BytesAt w kp nk g) :
    Calls Tryd.prog 9 #[.slice kp nk kc, .int .i64 1, .slice none 0 0] w fun e w' => (∃ B c, e = .returned (.tuple #[.slice (some ⟨B, 0, none⟩) 2 c, .nilIface]) ∧ w'.cell? ⟨B, 7, none⟩ = some (.int .u8 1)) ∧ Below w.heap.size w w' := by
  have h := Encode_any kp nk kc g hnk hkc hg 1 none 0 [] (by decide) (fun p hp => by simp at hp) (fun p hp => by simp at hp) w hT hk (.inl rfl)
  refine h.mono fun e w' ⟨hs, hb⟩ => ⟨?_, hb⟩
  unfold EncSays at hs
  obtain ⟨_, B, c, rfl, _, _, hr⟩ := hs.resolve_right (fun h => h.1 good_one)
  refine ⟨B, c, rfl, ?_⟩
  obtain ⟨B', o', e, hB, hr'⟩ := secsAt_get hr (k := 0) (by rw [encL_len]; decide)
  cases e
  have := hr' 7 _ (secC_get _ (by decide))
  rw [show (encL (tauK nk g) 1 []).getD 0 [] = firstL 1 [] from rfl, first_one] at this
  exact this
set_option maxRecDepth 100000 in
theorem large_no (p : Option Addr) (n cap : Nat) (q : Option Addr) (m c : Nat) (hn : n ≤ 1000) (hm : m ≤ 70) (w : World) : Calls Tryd.prog 8 #[.slice p n cap, .slice q m c] w fun e w' => e = .returned (.bool false) ∧ w = w' := by
  have d1 : decide ((1000 : Int) < (n : Int)) = false := decide_eq_false (by omega)
  have d2 : decide (1000 < n) = false := decide_eq_false (by omega)
  have d3 : decide ((70 : Int) < (m : Int)) = false := decide_eq_false (by omega)
  have d4 : decide (70 < m) = false := decide_eq_false (by omega)
  go_enter Tryd.func8, Tryd.ntmps8
  go_wp2
  go_ret
  exact ⟨rfl, rfl⟩
set_option maxRecDepth 100000 in
theorem large_yes (p : Option Addr) (n cap : Nat) (q : Option Addr) (m c : Nat) (h : ¬ (n ≤ 1000 ∧ m ≤ 70)) (w : World) : Calls Tryd.prog 8 #[.slice p n cap, .slice q m c] w fun e w' => e = .returned (.bool true) ∧ w = w' := by
  by_cases hn : 1000 < n
  · have d1 : decide ((1000 : Int) < (n : Int)) = true := decide_eq_true (by omega)
    have d2 : decide (1000 < n) = true := decide_eq_true (by omega)
    go_enter Tryd.func8, Tryd.ntmps8
    go_wp2
    go_ret
    exact ⟨rfl, rfl⟩
  · have d1 : decide ((1000 : Int) < (n : Int)) = false := decide_eq_false (by omega)
    have d2 : decide (1000 < n) = false := decide_eq_false (by omega)
    have d3 : decide ((70 : Int) < (m : Int)) = true := decide_eq_true (by omega)
    have d4 : decide (70 < m) = true := decide_eq_true (by omega)
    clear h
    go_enter Tryd.func8, Tryd.ntmps8
    go_wp2
    go_ret
    exact ⟨rfl, rfl⟩
attribute [local irreducible] secC natF sameSec secVal
set_option maxRecDepth 100000 in
set_option maxHeartbeats 4000000 in
theorem cells_any (q q' : Option Addr) (c c' : Nat) (l m : List (List Int)) (hn : l.length ≤ 1000000) (hl : ∀ p ∈ l, IsSec p) (hm : ∀ p ∈ m, IsSec p) (w : World) (hq : RowsAt 128 secC w q l) (hq' : RowsAt 128 secC w q' m) :
    Calls Tryd.prog 13 #[.slice q l.length c, .slice q' m.length c'] w fun e w' => SaysB e (l = m) ∧ Below w.heap.size w w' := by
  by_cases hlen : l.length = m.length
  · have LE := Lib.hid (fun (h : ∀ i, i < l.length → l.getD i [] = m.getD i []) => show l = m from List.ext_getElem hlen fun i h1 h2 => by
      have := h i h1
      rwa [List.getD_eq_getElem?_getD, List.getElem?_eq_getElem h1, List.getD_eq_getElem?_getD, List.getElem?_eq_getElem h2] at this)
    have HQ := Lib.hid hq
    have HQ2 := Lib.hid hq'
    have HN := Lib.hid hn
    have HL := Lib.hid (fun i (h : i < l.length) => show IsSec (l.getD i []) from by rw [List.getD_eq_getElem?_getD, List.getElem?_eq_getElem h]; exact hl _ (List.getElem_mem h))
    have HM := Lib.hid (fun i (h : i < l.length) => show IsSec (m.getD i []) from by rw [List.getD_eq_getElem?_getD, List.getElem?_eq_getElem (hlen ▸ h)]; exact hm _ (List.getElem_mem _))
    have HLM := Lib.hid hlen
    have B0 := Lib.hid (Below.refl w.heap.size w)
    rw [← hlen]
    clear hq hq' hn hl hm hlen
    generalize hnl : l.length = n at *
    go_enter Tryd.func13, Tryd.ntmps13
    go_wp2
    go_loopw [13] (fun v13 wr => ∃ k : Nat, k ≤ n ∧ v13 = .int .i64 k ∧ Below w.heap.size w wr ∧ ∀ i, i < k → l.getD i [] = m.getD i []) (fun v13 _ => n - (intOf v13).toNat)
    case atStart => exact ⟨0, Nat.zero_le _, rfl, B0.out, fun i hi => absurd hi (Nat.not_lt_zero _)⟩
    case round =>
      obtain ⟨k, hk, rfl, hb, hs⟩ := hrel
      have HB := Lib.hid hb
      have HS := Lib.hid hs
      clear hb hs B0
      by_cases hlt : k < n
      · obtain ⟨B, o, rfl, hB, hr⟩ := secsAt_get HQ.out (show k < l.length by omega)
        obtain ⟨B', o', rfl, hB', hr'⟩ := secsAt_get HQ2.out (show k < m.length by have := HLM.out; omega)
        have f1 : (k : Int) < (n : Int) := by omega
        have f2 : (0 : Int) ≤ k := by omega
        have f3 : IntKind.i64.wrap ((k : Int) + 1) = ((k + 1 : Nat) : Int) := by have := HN.out; rw [IntWalk.i64_in _ (by omega)]; omega
        have HR := Lib.hid (fun w' (h : Below w.heap.size w w') => rangeAt_below hr h hB)
        have HR' := Lib.hid (fun w' (h : Below w.heap.size w w') => rangeAt_below hr' h hB')
        have HE := Lib.hid (sameSec_iff (HL.out k (by omega)) (HM.out k (by omega)))
        have HLT := Lib.hid hlt
        have HXT := Lib.hid (fun (h : l.getD k [] = m.getD k []) i (hi : i < k + 1) => show l.getD i [] = m.getD i [] from by
          by_cases e : i = k
          · subst e; exact h
          · exact HS.out i (by omega))
        have HNE := Lib.hid (fun (h : ¬ l.getD k [] = m.getD k []) (e : l = m) => h (by rw [e]))
        clear hr hr' hB hB'
        generalize l.getD k [] = x at *
        generalize m.getD k [] = y at *
        by_cases hxy : x = y
        · have hv : (!(sameSec x y)) = false := by rw [HE.out.2 hxy]; rfl
          have HX := Lib.hid (HXT.out hxy)
          clear hlt hxy
          go_wp2
          refine wp_region_sched [(0, true), (1, true), (2, true), (3, true), (4, true), (5, true), (6, true), (7, true), (8, true)] (fun w' => Below w.heap.size w w') (by kernel_rfl) (by kernel_rfl) HB.out.drew ?_
          iterate 9 (
            refine walk_float rfl rfl (fun K hK => ?_)
            first
              | (refine gives_move _ rfl ?_)
              | (refine gives_sec_elem _ _ rfl B o n c k rfl rfl HLT.out ?_)
              | (refine gives_sec_elem _ _ rfl B' o' n c' k rfl rfl HLT.out ?_)
              | (refine gives_sec_mid _ rfl B (o + 128 * k) rfl x HR.out ?_)
              | (refine gives_sec_mid _ rfl B' (o' + 128 * k) rfl y HR'.out ?_)
              | (refine gives_sec_neq2 _ _ rfl x y rfl rfl _ hv ?_)
            go_simp
            refine hK _ ?_
            clear hK K)
          refine walk_nil ?_
          go_wp2
          go_roundw
          case rel => exact ⟨k + 1, HLT.out, by go_num, HB.out.drew, HX.out⟩
          case measure => have := HLT.out; simp [intOf]; omega
        · have hv : (!(sameSec x y)) = true := by
            cases h : sameSec x y with
            | true => exact absurd (HE.out.1 h) hxy
            | false => rfl
          have HX := Lib.hid (HNE.out hxy)
          clear hlt hxy
          go_wp2
          refine wp_region_sched [(0, true), (1, true), (2, true), (3, true), (4, true), (5, true), (6, true), (7, true), (8, true)] (fun w' => Below w.heap.size w w') (by kernel_rfl) (by kernel_rfl) HB.out.drew ?_
          iterate 9 (
            refine walk_float rfl rfl (fun K hK => ?_)
            first
              | (refine gives_move _ rfl ?_)
              | (refine gives_sec_elem _ _ rfl B o n c k rfl rfl HLT.out ?_)
              | (refine gives_sec_elem _ _ rfl B' o' n c' k rfl rfl HLT.out ?_)
              | (refine gives_sec_mid _ rfl B (o + 128 * k) rfl x HR.out ?_)
              | (refine gives_sec_mid _ rfl B' (o' + 128 * k) rfl y HR'.out ?_)
              | (refine gives_sec_neq2 _ _ rfl x y rfl rfl _ hv ?_)
            go_simp
            refine hK _ ?_
            clear hK K)
          refine walk_nil ?_
          go_wp2
          go_ret
          exact ⟨.no HX.out, HB.out.drew⟩
      · have f1 : ¬ (k : Int) < (n : Int) := by omega
        obtain rfl : k = n := by omega
        have HX := Lib.hid (LE.out fun i hi => HS.out i hi)
        clear hlt hk
        go_wp2
        go_ret
        exact ⟨.yes HX.out, HB.out⟩
  · have d1 : ((l.length : Int) != (m.length : Int)) = true := by simp; omega
    have d2 : ((l.length : Int) == (m.length : Int)) = false := by simp; omega
    have HX := Lib.hid (show ¬ l = m from fun e => hlen (by rw [e]))
    have B0 := Lib.hid (Below.refl w.heap.size w)
    clear hq hq' hl hm hlen
    go_enter Tryd.func13, Tryd.ntmps13
    go_wp2
    go_ret
    exact ⟨.no HX.out, B0.out⟩
end Go.Proofs.YtdeojhcfbiekmaaDoor
