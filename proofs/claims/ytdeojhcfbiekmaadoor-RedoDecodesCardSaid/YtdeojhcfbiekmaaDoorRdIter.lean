/- The iterator of slices.All at integers: it hands over the list's places and numbers, one behind the other. Condition: the box and the list stand while the caller goes with it. -/
import Derived.Test.YtdeojhcfbiekmaaDoorRdKeys
import Derived.Test.YtdeojhcfbiekmaaDoorPlFree
import Derived.WalkMore
namespace Go.Proofs.YtdeojhcfbiekmaaDoor
open Go.ChangeShapes Go.WideShapes Go.ChangeAt Go.RowKit Go.Shelf
attribute [local go_sem] Oper.semAt_some
set_option linter.unusedVariables false
/-- A list of integers in a box. -/
def BoxL (V : World) (C : Nat) (q : Option Addr) (c : Nat) (L : List Int) : Prop := V.cell? ⟨C, 0, none⟩ = some (.slice q L.length c) ∧ RowsAt 1 intC V q L ∧ C < V.heap.size
theorem intL_cell {w : World} {q : Option Addr} {l : List Int} (h : RowsAt 1 intC w q l) {k : Nat} (hk : k < l.length) : ∃ B o, q = some ⟨B, o, none⟩ ∧ B < w.heap.size ∧ w.cell? ⟨B, o + k, none⟩ = some (.int .i64 (l.getD k 0)) := by
  rw [show l.getD k 0 = l[k] by rw [List.getD_eq_getElem?_getD, List.getElem?_eq_getElem hk]; rfl]; exact int_cell h hk
def pairE (L : List Int) (i : Nat) : Array Value := #[.int .i64 i, .int .i64 (L.getD i 0)]
set_option maxRecDepth 100000 in
theorem All_any (p : Option Addr) (n cap : Nat) (w : World) : Calls Tryd.prog 37 #[.slice p n cap] w fun e w' => e = .returned (.func (.func 51) #[] #[.pointer (some ⟨w.heap.size, 0, none⟩)]) ∧ w.alloc (.cells #[.slice p n cap] 46) = w' := by
  go_enter Tryd.func37, Tryd.ntmps37
  go_wp2
  go_ret
  exact ⟨rfl, rfl⟩
set_option maxRecDepth 100000 in
set_option maxHeartbeats 1000000 in
theorem all_gives (m C : Nat) (q : Option Addr) (c : Nat) (L : List Int) (hL : L.length ≤ 100000) :
    GivesFr Fence.wide m Tryd.prog 51 #[.pointer (some ⟨C, 0, none⟩)] (pairE L) (fun i => i) L.length (fun V => BoxL V C q c L) := fun l J Jx W hR hJ hJx hY h0 => by
  refine callsIn_of_wp Tryd.func51 rfl trivial ?_ rfl
  simp only [Tryd.ntmps51, List.size_toArray, List.length_cons, List.length_nil, Nat.reduceAdd, Nat.reduceSub, Array.replicate_succ, Array.replicate_zero, List.push_toArray, List.append_toArray, List.nil_append, List.cons_append]
  have c0 := (hR 0 W h0).1
  have HR := Lib.hid hR; have HJ := Lib.hid hJ; have HY := Lib.hid hY; have H0 := Lib.hid h0
  clear hR hJ hJx hY h0
  gi_wp2
  gi_loopw [7] (fun v7 wr => ∃ i : Nat, i ≤ L.length ∧ v7 = .int .i64 i ∧ W.heap.size ≤ wr.heap.size ∧ J i wr) (fun v7 _ => L.length - (intOf v7).toNat)
  case atStart => exact ⟨0, Nat.zero_le _, rfl, Nat.le_refl _, H0.out⟩
  case round =>
    obtain ⟨i, hi, rfl, hs, hj⟩ := hrel
    clear H0 c0
    have hr := HR.out i wr hj
    by_cases hlt : i < L.length
    · obtain ⟨B, o, rfl, hB, cl⟩ := intL_cell hr.2.1 hlt
      obtain ⟨fn, tmps, assign, body, hy, hRr⟩ := HY.out i wr hlt hs hj
      unfold pairE at hy
      have HS := Lib.hid hs; have HJ1 := Lib.hid hj
      have NX := Lib.hid (show i + 1 ≤ L.length from hlt)
      have f1 : (i : Int) < (L.length : Int) := by omega
      have f2 : (0 : Int) ≤ i := by omega
      have f3 : IntKind.i64.wrap ((i : Int) + 1) = ((i + 1 : Nat) : Int) := by rw [IntWalk.i64_in _ (by omega)]; omega
      clear hs hj hr hB hlt
      generalize L.getD i 0 = x at *
      gi_wp2
      refine ⟨(fun h => by cases h), hRr.mono ?_⟩
      rintro e W3 (⟨rfl, hj3, ha3⟩ | ⟨rfl, hx3, _⟩)
      · have H3 := Lib.hid hj3
        have S3 := Lib.hid (Nat.le_trans HS.out ha3)
        clear hRr hy hj3 ha3 HS HJ1
        gi_wp2
        go_roundw
        case rel => exact ⟨i + 1, NX.out, by go_num, S3.out, H3.out⟩
        case measure => have := NX.out; simp [intOf]; omega
      · have HX := Lib.hid hx3
        clear hRr hy hx3 HS HJ1
        gi_wp2
        exact bodyPost_ret (results_none rfl _ _ _) rfl ⟨⟨_, rfl⟩, .inr HX.out⟩
    · have f1 : ¬ (i : Int) < (L.length : Int) := by omega
      obtain rfl : i = L.length := by omega
      have HJ1 := Lib.hid hj
      clear hs hj hr
      gi_wp2
      refine bodyPost_end (results_none rfl _ _ _) rfl ?_
      exact ⟨⟨_, rfl⟩, .inl HJ1.out⟩
end Go.Proofs.YtdeojhcfbiekmaaDoor
