/- The contract of citadelref10's Good: is this an entry? Condition: there are at most 1000 puts. -/
import Derived.Test.YtdeojhcfbiekmaaDoorRdGood
namespace Go.Proofs.YtdeojhcfbiekmaaDoor
open Go.ChangeShapes Go.WideShapes Go.ChangeAt Go.RowKit
set_option linter.unusedVariables false
theorem at_cellG {W : World} {B o : Nat} {c : PutOf} (h : W.rangeAt B o (putC c)) : W.cell? ⟨B, o, none⟩ = some (.int .i64 c.at') := h 0 _ (putC_at c)
/-- Good so far: the first i numbers. -/
def GoodTo (l : List PutOf) (i : Nat) : Prop := ∀ j, j < i → (0 ≤ (l.getD j noPut).at' ∧ (l.getD j noPut).at' ≤ 65535) ∧ ∀ k, k < j → (l.getD k noPut).at' ≠ (l.getD j noPut).at'
theorem goodTo_end {count : Int} {l : List PutOf} (h0 : 0 ≤ count) (h1 : l.length ≤ 56) : goodE count l ↔ GoodTo l l.length := by
  have hg : ∀ {j}, (hj : j < l.length) → l.getD j noPut = l[j] := fun hj => by rw [List.getD_eq_getElem?_getD, List.getElem?_eq_getElem hj]; rfl
  constructor
  · rintro ⟨_, _, h2, h3⟩ j hj
    rw [hg hj]
    refine ⟨h2 _ (List.getElem_mem hj), fun k hk he => ?_⟩
    rw [hg (by omega)] at he
    have h4 := List.pairwise_iff_getElem.1 h3 k j (by rw [List.length_map]; omega) (by rw [List.length_map]; exact hj) hk
    rw [List.getElem_map, List.getElem_map] at h4
    exact h4 he
  · intro h
    refine ⟨h0, h1, fun p hp => ?_, ?_⟩
    · obtain ⟨j, hj, rfl⟩ := List.getElem_of_mem hp
      have := (h j hj).1
      rwa [hg hj] at this
    · refine List.pairwise_iff_getElem.2 fun k j hk hj hkj => ?_
      rw [List.length_map] at hk hj
      rw [List.getElem_map, List.getElem_map]
      have := (h j hj).2 k hkj
      rwa [hg hj, hg hk] at this
theorem goodTo_zero (l : List PutOf) : GoodTo l 0 := fun j hj => absurd hj (Nat.not_lt_zero _)
theorem goodTo_next {l : List PutOf} {i : Nat} (h : GoodTo l i) (h1 : 0 ≤ (l.getD i noPut).at' ∧ (l.getD i noPut).at' ≤ 65535) (h2 : ∀ k, k < i → (l.getD k noPut).at' ≠ (l.getD i noPut).at') : GoodTo l (i + 1) := fun j hj => by
  by_cases e : j = i
  · subst e; exact ⟨h1, h2⟩
  · exact h j (by omega)
section
variable {ops : Array Oper} {rest : List Oper} {o : Oper} {a : Act} {w : World} {Q : Exit → Act → World → Prop}
theorem wpList_put_elemG (hw : Region.wanted o (yielded ops a.tmps) = true) (x y : Operand) (ho : o.op = .indexAddr 32 x y) (B off n cap k : Nat) (hx : a.eval x = .slice (some ⟨B, off, none⟩) n cap) (hy : a.eval y = .int .i64 k) (hk : k < n) (h : wpList Tryd.prog ops Q rest (a.put o.dst (.pointer (some ⟨B, off + 129 * k, none⟩))) w) : wpList Tryd.prog ops Q (o :: rest) a w :=
  wanted_step hw fun K hK => by
    unfold Oper.wp
    rw [elem_addr x y ho B off n cap k hx hy hk w]
    exact hK _ _ h
theorem wpList_putfieldG (hw : Region.wanted o (yielded ops a.tmps) = true) (x : Operand) (k : Nat) (ho : o.op = .fieldAddr 57 x k) (hk : k < 2) (O o' : Nat) (hx : a.eval x = .pointer (some ⟨O, o', none⟩)) (h : wpList Tryd.prog ops Q rest (a.put o.dst (.pointer (some ⟨O, o' + k, none⟩))) w) : wpList Tryd.prog ops Q (o :: rest) a w :=
  wanted_step hw fun K hK => by
    obtain ⟨v, hv, hk2⟩ := gives_putfield (C := fun _ => True) (K := fun a' => a' = a.put o.dst (.pointer (some ⟨O, o' + k, none⟩))) x k ho hk O o' hx rfl
    have hv' := hv w trivial
    unfold Oper.wp
    rw [hv']
    show K (a.put o.dst v) w
    rw [hk2]
    exact hK _ _ h
end
attribute [local irreducible] putC natF goodE GoodTo
set_option maxRecDepth 100000 in
set_option maxHeartbeats 4000000 in
theorem refGood_any (count : Int) (q : Option Addr) (cap : Nat) (l : List PutOf) (hn : l.length ≤ 1000) (w : World) (hp : RowsAt 129 putC w q l) :
    Calls Tryd.prog 29 #[.int .i64 count, .slice q l.length cap] w fun e w' => SaysB e (goodE count l) ∧ Below w.heap.size w w' := by
  have HB0 := Lib.hid (Below.refl w.heap.size w)
  by_cases hc0 : count < 0
  · have d1 : decide (count < 0) = true := decide_eq_true hc0
    have HX := Lib.hid (show ¬ goodE count l from fun h => by unfold goodE at h; omega)
    clear hp
    go_enter Tryd.func29, Tryd.ntmps29
    go_wp2
    go_ret
    exact ⟨.no HX.out, HB0.out⟩
  have d1 : decide (count < 0) = false := decide_eq_false hc0
  by_cases hc1 : 56 < l.length
  · have d2 : decide ((56 : Int) < (l.length : Int)) = true := decide_eq_true (by omega)
    have d2' : decide (56 < l.length) = true := decide_eq_true hc1
    have HX := Lib.hid (show ¬ goodE count l from fun h => by unfold goodE at h; omega)
    clear hp
    go_enter Tryd.func29, Tryd.ntmps29
    go_wp2
    go_ret
    exact ⟨.no HX.out, HB0.out⟩
  have d2 : decide ((56 : Int) < (l.length : Int)) = false := decide_eq_false (by omega)
  have d2' : decide (56 < l.length) = false := decide_eq_false hc1
  have HG := Lib.hid (goodTo_end (count := count) (l := l) (by omega) (by omega))
  have HP := Lib.hid hp
  have HN := Lib.hid (show l.length ≤ 56 by omega)
  have HNX := Lib.hid (fun i (h : GoodTo l i) h1 h2 => goodTo_next h h1 h2)
  have HNO := Lib.hid (fun i (hi : i < l.length) (h : GoodTo l l.length) => show (0 ≤ (l.getD i noPut).at' ∧ (l.getD i noPut).at' ≤ 65535) ∧ ∀ k, k < i → (l.getD k noPut).at' ≠ (l.getD i noPut).at' from by unfold GoodTo at h; exact h i hi)
  have HZ := Lib.hid (goodTo_zero l)
  clear hp hc0 hc1 hn
  generalize hL : l.length = n at *
  go_enter Tryd.func29, Tryd.ntmps29
  go_wp2
  go_loopw [5] (fun v5 wr => ∃ i : Nat, i ≤ n ∧ v5 = .int .i64 i ∧ GoodTo l i ∧ Below w.heap.size w wr) (fun v5 _ => n - (intOf v5).toNat)
  case atStart => exact ⟨0, Nat.zero_le _, rfl, HZ.out, HB0.out⟩
  case round =>
    obtain ⟨i, hi, rfl, hgt, hb⟩ := hrel
    have HGT := Lib.hid hgt
    have HB := Lib.hid hb
    clear hgt hb
    by_cases hlt : i < n
    · obtain ⟨B, o, hqe, hB, hr⟩ := rowsAt_get HP.out (show i < l.length by omega)
      subst hqe
      have HCX := Lib.hid (fun b (hbn : b < n) W (h : Below w.heap.size w W) => show W.cell? ⟨B, o + 129 * b, none⟩ = some (.int .i64 (l.getD b noPut).at') from by
        obtain ⟨B', o', e, hB', hr'⟩ := rowsAt_get HP.out (show b < l.length by omega)
        cases e
        exact at_cellG (rangeAt_below hr' h hB'))
      have c1 := HCX.out i hlt wr HB.out
      have f1 : (i : Int) < (n : Int) := by omega
      have f2 : (0 : Int) ≤ i := by omega
      have f3 : IntKind.i64.wrap ((i : Int) + 1) = ((i + 1 : Nat) : Int) := by have := HN.out; rw [IntWalk.i64_in _ (by omega)]; omega
      have HLT := Lib.hid hlt
      have HNI := Lib.hid (HNO.out i hlt)
      have HNXI := Lib.hid (HNX.out i HGT.out)
      clear hlt hr hB
      generalize hz : (l.getD i noPut).at' = z at *
      have HZZ := Lib.hid hz
      clear hz
      by_cases hz0 : z < 0
      · have e1 : decide (z < 0) = true := decide_eq_true hz0
        have HX := Lib.hid (show ¬ goodE count l from fun h => by have := (HNI.out (HG.out.1 h)).1; omega)
        clear hz0
        go_wp2_with (first
          | (refine wpList_put_elemG rfl _ _ rfl B o n cap i rfl rfl HLT.out ?_)
          | (refine wpList_putfieldG rfl _ 0 rfl (by decide) B (o + 129 * i) rfl ?_))
        go_ret
        exact ⟨.no HX.out, HB.out⟩
      have e1 : decide (z < 0) = false := decide_eq_false hz0
      by_cases hz1 : 65535 < z
      · have e2 : decide (65535 < z) = true := decide_eq_true hz1
        have HX := Lib.hid (show ¬ goodE count l from fun h => by have := (HNI.out (HG.out.1 h)).1; omega)
        clear hz0 hz1
        go_wp2_with (first
          | (refine wpList_put_elemG rfl _ _ rfl B o n cap i rfl rfl HLT.out ?_)
          | (refine wpList_putfieldG rfl _ 0 rfl (by decide) B (o + 129 * i) rfl ?_))
        go_ret
        exact ⟨.no HX.out, HB.out⟩
      have e2 : decide (65535 < z) = false := decide_eq_false hz1
      have HZ3 := Lib.hid (show 0 ≤ z ∧ z ≤ 65535 from ⟨by omega, by omega⟩)
      clear hz0 hz1
      go_wp2_with (first
        | (refine wpList_put_elemG rfl _ _ rfl B o n cap i rfl rfl HLT.out ?_)
        | (refine wpList_putfieldG rfl _ 0 rfl (by decide) B (o + 129 * i) rfl ?_))
      generalize wr = w1 at *
      go_loopw [6] (fun v6 wr => ∃ k : Nat, k ≤ i ∧ v6 = .int .i64 k ∧ (∀ m, m < k → (l.getD m noPut).at' ≠ z) ∧ Below w.heap.size w wr) (fun v6 _ => i - (intOf v6).toNat)
      case atStart => exact ⟨0, Nat.zero_le _, rfl, fun m hm => absurd hm (Nat.not_lt_zero _), HB.out⟩
      case round =>
        obtain ⟨k, hk, rfl, hne, hb2⟩ := hrel
        have HNE := Lib.hid hne
        have HB2 := Lib.hid hb2
        clear hne hb2
        by_cases hki : k < i
        · have g1 : (k : Int) < (i : Int) := by omega
          have g2 : (0 : Int) ≤ k := by omega
          have g3 : IntKind.i64.wrap ((k : Int) + 1) = ((k + 1 : Nat) : Int) := by have := HN.out; rw [IntWalk.i64_in _ (by omega)]; omega
          have HKI := Lib.hid hki
          have HKN := Lib.hid (show k < n by have := HLT.out; omega)
          have HCK := Lib.hid (fun W h => HCX.out k HKN.out W h)
          have HCI := Lib.hid (fun W h => HCX.out i HLT.out W h)
          rw [HZZ.out] at HCI
          have HNK := Lib.hid (fun (h : GoodTo l n) => (HNI.out h).2 k HKI.out)
          have HXT := Lib.hid (fun (h : (l.getD k noPut).at' ≠ z) m (hm : m < k + 1) => show (l.getD m noPut).at' ≠ z from by
            by_cases e : m = k
            · subst e; exact h
            · exact HNE.out m (by omega))
          clear hki c1
          generalize (l.getD k noPut).at' = y at *
          by_cases hyz : y = z
          · have dq : (y == z) = true := by rw [hyz]; simp
            have HX := Lib.hid (show ¬ goodE count l from fun h => HNK.out (HG.out.1 h) hyz)
            clear hyz
            go_wp2
            refine wp_region_sched [(0, true), (1, true), (2, true), (3, true), (4, true), (5, true), (6, true), (7, true), (8, true), (9, true), (10, true)] (fun W => Below w.heap.size w W) (by kernel_rfl) (by kernel_rfl) (HB2.out.drew) ?_
            iterate 11 (
              refine walk_float rfl rfl (fun K hK => ?_)
              first
                | (refine gives_move _ rfl ?_)
                | (refine gives_put_elem _ _ rfl B o n cap k rfl rfl HKN.out ?_)
                | (refine gives_put_elem _ _ rfl B o n cap i rfl rfl HLT.out ?_)
                | (refine gives_putfield _ 0 rfl (by decide) B (o + 129 * k) rfl ?_)
                | (refine gives_putfield _ 0 rfl (by decide) B (o + 129 * i) rfl ?_)
                | (refine gives_cell 3 _ rfl ⟨B, o + 129 * k, none⟩ (.int .i64 y) rfl box_int HCK.out ?_)
                | (refine gives_cell 3 _ rfl ⟨B, o + 129 * i, none⟩ (.int .i64 z) rfl box_int HCI.out ?_)
                | (refine gives_int_is _ _ rfl y z rfl rfl _ dq ?_)
              go_simp
              refine hK _ ?_
              clear hK K)
            refine walk_nil ?_
            go_wp2
            go_ret
            exact ⟨.no HX.out, HB2.out.drew⟩
          · have dq : (y == z) = false := by simpa using hyz
            have HXX := Lib.hid (HXT.out hyz)
            clear hyz
            go_wp2
            refine wp_region_sched [(0, true), (1, true), (2, true), (3, true), (4, true), (5, true), (6, true), (7, true), (8, true), (9, true), (10, true)] (fun W => Below w.heap.size w W) (by kernel_rfl) (by kernel_rfl) (HB2.out.drew) ?_
            iterate 11 (
              refine walk_float rfl rfl (fun K hK => ?_)
              first
                | (refine gives_move _ rfl ?_)
                | (refine gives_put_elem _ _ rfl B o n cap k rfl rfl HKN.out ?_)
                | (refine gives_put_elem _ _ rfl B o n cap i rfl rfl HLT.out ?_)
                | (refine gives_putfield _ 0 rfl (by decide) B (o + 129 * k) rfl ?_)
                | (refine gives_putfield _ 0 rfl (by decide) B (o + 129 * i) rfl ?_)
                | (refine gives_cell 3 _ rfl ⟨B, o + 129 * k, none⟩ (.int .i64 y) rfl box_int HCK.out ?_)
                | (refine gives_cell 3 _ rfl ⟨B, o + 129 * i, none⟩ (.int .i64 z) rfl box_int HCI.out ?_)
                | (refine gives_int_is _ _ rfl y z rfl rfl _ dq ?_)
              go_simp
              refine hK _ ?_
              clear hK K)
            refine walk_nil ?_
            go_wp2
            go_roundw
            case rel => exact ⟨k + 1, HKI.out, by go_num, HXX.out, HB2.out.drew⟩
            case measure => have := HKI.out; simp [intOf]; omega
        · have g1 : ¬ (k : Int) < (i : Int) := by omega
          obtain rfl : k = i := by omega
          have HXX := Lib.hid (HNXI.out HZ3.out HNE.out)
          clear hki c1 hk
          go_wp2
          go_roundw
          case rel => exact ⟨k + 1, HLT.out, by go_num, HXX.out, HB2.out⟩
          case measure => have := HLT.out; simp [intOf]; omega
    · have f1 : ¬ (i : Int) < (n : Int) := by omega
      obtain rfl : i = n := by omega
      have HX := Lib.hid (HG.out.2 HGT.out)
      clear hlt hi
      go_wp2
      go_ret
      exact ⟨.yes HX.out, HB.out⟩
end Go.Proofs.YtdeojhcfbiekmaaDoor
