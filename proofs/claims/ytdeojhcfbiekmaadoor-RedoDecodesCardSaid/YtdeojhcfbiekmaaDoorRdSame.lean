/- The contract of citadellaw10.same: are two lists of puts the same? Condition: not more than 1,000,000 each. -/
import Derived.Test.YtdeojhcfbiekmaaDoorRdMerge
namespace Go.Proofs.YtdeojhcfbiekmaaDoor
open Go.ChangeShapes Go.WideShapes Go.ChangeAt Go.RowKit
set_option linter.unusedVariables false
attribute [local irreducible] putC natF samePut
set_option maxRecDepth 100000 in
set_option maxHeartbeats 4000000 in
theorem same_any (q q' : Option Addr) (c c' : Nat) (l m : List PutOf) (hn : l.length ≤ 1000000) (hl : ∀ p ∈ l, p.ok) (hm : ∀ p ∈ m, p.ok) (w : World) (hq : RowsAt 129 putC w q l) (hq' : RowsAt 129 putC w q' m) :
    Calls Tryd.prog 15 #[.slice q l.length c, .slice q' m.length c'] w fun e w' => SaysB e (l = m) ∧ Below w.heap.size w w' := by
  by_cases hlen : l.length = m.length
  · have LE := Lib.hid (fun (h : ∀ i, i < l.length → l.getD i noPut = m.getD i noPut) => show l = m from List.ext_getElem hlen fun i h1 h2 => by
      have := h i h1
      rwa [List.getD_eq_getElem?_getD, List.getElem?_eq_getElem h1, List.getD_eq_getElem?_getD, List.getElem?_eq_getElem h2] at this)
    have HQ := Lib.hid hq
    have HQ2 := Lib.hid hq'
    have HN := Lib.hid hn
    have HL := Lib.hid (fun i (h : i < l.length) => show PutOf.ok (l.getD i noPut) from by rw [List.getD_eq_getElem?_getD, List.getElem?_eq_getElem h]; exact hl _ (List.getElem_mem h))
    have HM := Lib.hid (fun i (h : i < l.length) => show PutOf.ok (m.getD i noPut) from by rw [List.getD_eq_getElem?_getD, List.getElem?_eq_getElem (hlen ▸ h)]; exact hm _ (List.getElem_mem _))
    have HLM := Lib.hid hlen
    have B0 := Lib.hid (Below.refl w.heap.size w)
    rw [← hlen]
    clear hq hq' hn hl hm hlen
    generalize hnl : l.length = n at *
    go_enter Tryd.func15, Tryd.ntmps15
    go_wp2
    go_loopw [13] (fun v13 wr => ∃ k : Nat, k ≤ n ∧ v13 = .int .i64 k ∧ Below w.heap.size w wr ∧ ∀ i, i < k → l.getD i noPut = m.getD i noPut) (fun v13 _ => n - (intOf v13).toNat)
    case atStart => exact ⟨0, Nat.zero_le _, rfl, B0.out, fun i hi => absurd hi (Nat.not_lt_zero _)⟩
    case round =>
      obtain ⟨k, hk, rfl, hb, hs⟩ := hrel
      have HB := Lib.hid hb
      have HS := Lib.hid hs
      clear hb hs B0
      by_cases hlt : k < n
      · obtain ⟨B, o, rfl, hB, hr⟩ := rowsAt_get HQ.out (show k < l.length by omega)
        obtain ⟨B', o', rfl, hB', hr'⟩ := rowsAt_get HQ2.out (show k < m.length by have := HLM.out; omega)
        have f1 : (k : Int) < (n : Int) := by omega
        have f2 : (0 : Int) ≤ k := by omega
        have f3 : IntKind.i64.wrap ((k : Int) + 1) = ((k + 1 : Nat) : Int) := by have := HN.out; rw [IntWalk.i64_in _ (by omega)]; omega
        have HR := Lib.hid (fun w' (h : Below w.heap.size w w') => rangeAt_below hr h hB)
        have HR' := Lib.hid (fun w' (h : Below w.heap.size w w') => rangeAt_below hr' h hB')
        have HE := Lib.hid (samePut_iff (HL.out k (by omega)) (HM.out k (by omega)))
        have HLT := Lib.hid hlt
        have HXT := Lib.hid (fun (h : l.getD k noPut = m.getD k noPut) i (hi : i < k + 1) => show l.getD i noPut = m.getD i noPut from by
          by_cases e : i = k
          · subst e; exact h
          · exact HS.out i (by omega))
        have HNE := Lib.hid (fun (h : ¬ l.getD k noPut = m.getD k noPut) (e : l = m) => h (by rw [e]))
        clear hr hr' hB hB'
        generalize l.getD k noPut = x at *
        generalize m.getD k noPut = y at *
        by_cases hxy : x = y
        · have hv : (!(samePut x y)) = false := by rw [HE.out.2 hxy]; rfl
          have HX := Lib.hid (HXT.out hxy)
          clear hlt hxy
          go_wp2
          refine wp_region_sched [(0, true), (1, true), (2, true), (3, true), (4, true), (5, true), (6, true), (7, true), (8, true)] (fun w' => Below w.heap.size w w') (by kernel_rfl) (by kernel_rfl) HB.out.drew ?_
          iterate 9 (
            refine walk_float rfl rfl (fun K hK => ?_)
            first
              | (refine gives_move _ rfl ?_)
              | (refine gives_put_elem _ _ rfl B o n c k rfl rfl HLT.out ?_)
              | (refine gives_put_elem _ _ rfl B' o' n c' k rfl rfl HLT.out ?_)
              | (refine gives_put_load _ rfl B (o + 129 * k) rfl x HR.out ?_)
              | (refine gives_put_load _ rfl B' (o' + 129 * k) rfl y HR'.out ?_)
              | (refine gives_put_neq _ _ rfl x y rfl rfl _ hv ?_)
            go_simp
            refine hK _ ?_
            clear hK K)
          refine walk_nil ?_
          go_wp2
          go_roundw
          case rel => exact ⟨k + 1, HLT.out, by go_num, HB.out.drew, HX.out⟩
          case measure => have := HLT.out; simp [intOf]; omega
        · have hv : (!(samePut x y)) = true := by
            cases h : samePut x y with
            | true => exact absurd (HE.out.1 h) hxy
            | false => rfl
          have HX := Lib.hid (HNE.out hxy)
          clear hlt hxy
          go_wp2
          refine wp_region_sched [(0, true), (1, true), (2, true), (3, true), (4, true), (5, true), (6, true), (7, true), (8, true)] (fun w' => Below w.heap.size w w') (by kernel_rfl) (by kernel_rfl) HB.out.drew ?_
          iterate 9 (
            refine walk_float rfl rfl (fun K hK => ?_)
            first
              | (refine gives_move _ rfl ?_)
              | (refine gives_put_elem _ _ rfl B o n c k rfl rfl HLT.out ?_)
              | (refine gives_put_elem _ _ rfl B' o' n c' k rfl rfl HLT.out ?_)
              | (refine gives_put_load _ rfl B (o + 129 * k) rfl x HR.out ?_)
              | (refine gives_put_load _ rfl B' (o' + 129 * k) rfl y HR'.out ?_)
              | (refine gives_put_neq _ _ rfl x y rfl rfl _ hv ?_)
            go_simp
            refine hK _ ?_
            clear hK K)
          refine walk_nil ?_
          go_wp2
          go_ret
          exact ⟨.no HX.out, HB.out.drew⟩
      · have f1 : ¬ (k : Int) < (n : Int) := by omega
        obtain rfl : k = n := by omega
        have HX := Lib.hid (LE.out fun i hi => HS.out i hi)
        clear hlt hk
        go_wp2
        go_ret
        exact ⟨.yes HX.out, HB.out⟩
  · have d1 : ((l.length : Int) != (m.length : Int)) = true := by simp; omega
    have d2 : ((l.length : Int) == (m.length : Int)) = false := by simp; omega
    have HX := Lib.hid (show ¬ l = m from fun e => hlen (by rw [e]))
    have B0 := Lib.hid (Below.refl w.heap.size w)
    clear hq hq' hl hm hlen
    go_enter Tryd.func15, Tryd.ntmps15
    go_wp2
    go_ret
    exact ⟨.no HX.out, B0.out⟩
end Go.Proofs.YtdeojhcfbiekmaaDoor
