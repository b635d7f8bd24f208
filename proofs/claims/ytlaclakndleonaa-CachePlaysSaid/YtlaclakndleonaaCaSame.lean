/- The contract of citadellaw13's same. Conditions: the lists lie in memory, their bytes are bytes. -/
import Derived.Test.YtlaclakndleonaaCaRefR
namespace Go.Proofs.Ytlaclakndleonaa
open Go.ChangeShapes Go.WideShapes Go.ChangeAt Go.RowKit
set_option linter.unusedVariables false
theorem lines_ext {l m : List LineOf} (hl : l.length = m.length) (h : ∀ k, k < l.length → lineAt l k = lineAt m k) : l = m := by
  apply List.ext_getElem hl
  intro i h1 h2
  rw [← lineAt_eq h1, ← lineAt_eq h2]; exact h i h1
attribute [local irreducible] lineC lineAt sameLine
set_option maxRecDepth 100000 in
set_option maxHeartbeats 2000000 in
theorem same_any (q q' : Option Addr) (c c' : Nat) (l m : List LineOf) (hn : l.length ≤ 1000000) (hl : ∀ x ∈ l, x.ok) (hm : ∀ x ∈ m, x.ok) (w : World) (hq : RowsAt 131 lineC w q l) (hq' : RowsAt 131 lineC w q' m) :
    Calls Try.prog 24 #[.slice q l.length c, .slice q' m.length c'] w fun e w' => SaysB e (l = m) ∧ Below w.heap.size w w' := by
  have B0 := Lib.hid (Below.refl w.heap.size w)
  by_cases he : l.length = m.length
  · have HE := Lib.hid he
    have HN := Lib.hid hn
    have HQ := Lib.hid hq
    have HQ' := Lib.hid hq'
    have HX := Lib.hid (fun (h : ∀ k, k < l.length → lineAt l k = lineAt m k) => lines_ext he h)
    have HY := Lib.hid (fun k (hk : k < l.length) (hne : lineAt l k ≠ lineAt m k) => show l ≠ m from fun e => hne (by rw [e]))
    have HS := Lib.hid (fun k (hk : k < l.length) => sameLine_iff (hl _ (lineAt_mem hk)) (hm _ (lineAt_mem (show k < m.length by omega))))
    rw [← he]
    clear hq hq' hl hm hn he
    generalize hnn : l.length = n at *
    have d0 : decide ((n : Int) = (n : Int)) = true := by simp
    go_enter Try.func24, Try.ntmps24
    go_wp2
    go_loopw [13] (fun v13 wr => ∃ k : Nat, k ≤ n ∧ v13 = .int .i64 k ∧ (∀ j, j < k → lineAt l j = lineAt m j) ∧ Below w.heap.size w wr) (fun v13 _ => n - (intOf v13).toNat)
    case atStart => exact ⟨0, Nat.zero_le _, rfl, fun j hj => absurd hj (Nat.not_lt_zero _), B0.out⟩
    case round =>
      obtain ⟨k, hk, rfl, hs, hb⟩ := hrel
      have HB := Lib.hid hb
      have HSO := Lib.hid hs
      clear hb hs B0
      by_cases hlt : k < n
      · obtain ⟨LB, o, rfl, hB, hrg⟩ := line_rows HQ.out (show k < l.length by omega)
        obtain ⟨MB, o', rfl, hB', hrg'⟩ := line_rows HQ'.out (show k < m.length by have := HE.out; omega)
        have HR := Lib.hid (fun (V : World) (hV : Below w.heap.size w V) => rangeAt_below hrg hV hB)
        have HR' := Lib.hid (fun (V : World) (hV : Below w.heap.size w V) => rangeAt_below hrg' hV hB')
        have HLT := Lib.hid hlt
        have f1 : (k : Int) < (n : Int) := by omega
        have f3 : IntKind.i64.wrap ((k : Int) + 1) = ((k + 1 : Nat) : Int) := by have := HN.out; rw [IntWalk.i64_in _ (by omega)]; omega
        have HSK := Lib.hid (HS.out k hlt)
        have HYK := Lib.hid (HY.out k hlt)
        have HNX := Lib.hid (show lineAt l k = lineAt m k → ∀ j, j < k + 1 → lineAt l j = lineAt m j from fun e j hj => by
          rcases Nat.lt_or_ge j k with h | h
          · exact HSO.out j h
          · obtain rfl : j = k := by omega
            exact e)
        clear hrg hrg' hB hB' hlt hk
        generalize lineAt l k = x at *
        generalize lineAt m k = y at *
        cases hxy : sameLine x y with
        | true =>
          have HX2 := Lib.hid (HNX.out (HSK.out.1 hxy))
          have dv : (!(sameLine x y)) = false := by rw [hxy]; rfl
          clear HSK HYK HNX hxy
          go_wp2
          refine wp_region_sched [(0, true), (1, true), (2, true), (3, true), (4, true), (5, true), (6, true), (7, true), (8, true)] (fun V => Below w.heap.size w V) (by kernel_rfl) (by kernel_rfl) HB.out.drew ?_
          refine walk_float rfl rfl (fun K hK => ?_)
          refine gives_move _ rfl ?_
          go_simp
          refine hK _ ?_
          clear hK K
          refine walk_float rfl rfl (fun K hK => ?_)
          refine gives_move _ rfl ?_
          go_simp
          refine hK _ ?_
          clear hK K
          refine walk_float rfl rfl (fun K hK => ?_)
          refine gives_line_elem _ _ rfl LB o n c k rfl rfl HLT.out ?_
          go_simp
          refine hK _ ?_
          clear hK K
          refine walk_float rfl rfl (fun K hK => ?_)
          refine gives_line_load _ rfl LB (o + 131 * k) rfl x (fun V hV => HR.out V hV) ?_
          go_simp
          refine hK _ ?_
          clear hK K
          refine walk_float rfl rfl (fun K hK => ?_)
          refine gives_move _ rfl ?_
          go_simp
          refine hK _ ?_
          clear hK K
          refine walk_float rfl rfl (fun K hK => ?_)
          refine gives_move _ rfl ?_
          go_simp
          refine hK _ ?_
          clear hK K
          refine walk_float rfl rfl (fun K hK => ?_)
          refine gives_line_elem _ _ rfl MB o' n c' k rfl rfl HLT.out ?_
          go_simp
          refine hK _ ?_
          clear hK K
          refine walk_float rfl rfl (fun K hK => ?_)
          refine gives_line_load _ rfl MB (o' + 131 * k) rfl y (fun V hV => HR'.out V hV) ?_
          go_simp
          refine hK _ ?_
          clear hK K
          refine walk_float rfl rfl (fun K hK => ?_)
          refine gives_line_neq _ _ rfl x y rfl rfl _ dv ?_
          go_simp
          refine hK _ ?_
          clear hK K
          refine walk_nil ?_
          go_wp2
          go_roundw
          case rel => exact ⟨k + 1, HLT.out, by go_num, HX2.out, HB.out.drew⟩
          case measure => have := HLT.out; simp [intOf]; omega
        | false =>
          have HX2 := Lib.hid (HYK.out (fun e => by have := HSK.out.2 e; rw [hxy] at this; cases this))
          have dv : (!(sameLine x y)) = true := by rw [hxy]; rfl
          clear HSK HYK HNX hxy
          go_wp2
          refine wp_region_sched [(0, true), (1, true), (2, true), (3, true), (4, true), (5, true), (6, true), (7, true), (8, true)] (fun V => Below w.heap.size w V) (by kernel_rfl) (by kernel_rfl) HB.out.drew ?_
          refine walk_float rfl rfl (fun K hK => ?_)
          refine gives_move _ rfl ?_
          go_simp
          refine hK _ ?_
          clear hK K
          refine walk_float rfl rfl (fun K hK => ?_)
          refine gives_move _ rfl ?_
          go_simp
          refine hK _ ?_
          clear hK K
          refine walk_float rfl rfl (fun K hK => ?_)
          refine gives_line_elem _ _ rfl LB o n c k rfl rfl HLT.out ?_
          go_simp
          refine hK _ ?_
          clear hK K
          refine walk_float rfl rfl (fun K hK => ?_)
          refine gives_line_load _ rfl LB (o + 131 * k) rfl x (fun V hV => HR.out V hV) ?_
          go_simp
          refine hK _ ?_
          clear hK K
          refine walk_float rfl rfl (fun K hK => ?_)
          refine gives_move _ rfl ?_
          go_simp
          refine hK _ ?_
          clear hK K
          refine walk_float rfl rfl (fun K hK => ?_)
          refine gives_move _ rfl ?_
          go_simp
          refine hK _ ?_
          clear hK K
          refine walk_float rfl rfl (fun K hK => ?_)
          refine gives_line_elem _ _ rfl MB o' n c' k rfl rfl HLT.out ?_
          go_simp
          refine hK _ ?_
          clear hK K
          refine walk_float rfl rfl (fun K hK => ?_)
          refine gives_line_load _ rfl MB (o' + 131 * k) rfl y (fun V hV => HR'.out V hV) ?_
          go_simp
          refine hK _ ?_
          clear hK K
          refine walk_float rfl rfl (fun K hK => ?_)
          refine gives_line_neq _ _ rfl x y rfl rfl _ dv ?_
          go_simp
          refine hK _ ?_
          clear hK K
          refine walk_nil ?_
          go_wp2
          go_ret
          exact ⟨.no HX2.out, HB.out.drew⟩
      · have f1 : ¬ (k : Int) < (n : Int) := by omega
        obtain rfl : k = n := by omega
        have HX2 := Lib.hid (HX.out HSO.out)
        clear hlt hk
        go_wp2
        go_ret
        exact ⟨.yes HX2.out, HB.out⟩
  · have HNE := Lib.hid (show l ≠ m from fun e => he (by rw [e]))
    have d0 : decide ((l.length : Int) = (m.length : Int)) = false := by simp; omega
    have d1 : ¬ (l.length : Int) = (m.length : Int) := by omega
    generalize l.length = n at *
    generalize m.length = n' at *
    clear he
    go_enter Try.func24, Try.ntmps24
    go_wp2
    go_ret
    exact ⟨.no HNE.out, B0.out⟩
end Go.Proofs.Ytlaclakndleonaa
