/- The iterator of slices.Values at integers: it hands over the list's numbers, one behind the other. Condition: the box and the list stand while the caller goes with it. -/
import Derived.Test.YtbejfpdkfpgipaaPlOpen
import Derived.Test.YtbejfpdkfpgipaaPlFree
import Derived.WalkMore
namespace Go.Proofs.Ytbejfpdkfpgipaa
open Go.ChangeShapes Go.WideShapes Go.ChangeAt Go.RowKit Go.Shelf
attribute [local go_sem] Oper.semAt_some
set_option linter.unusedVariables false
def valE (L : List Int) (i : Nat) : Array Value := #[.int .i64 (L.getD i 0)]
set_option maxRecDepth 100000 in
set_option maxHeartbeats 1000000 in
theorem values_gives (m C : Nat) (q : Option Addr) (c : Nat) (L : List Int) (hL : L.length ≤ 100000) :
    GivesFr Fence.wide m Try.prog 61 #[.pointer (some ⟨C, 0, none⟩)] (valE L) (fun i => i) L.length (fun V => BoxQ V C q c L) := fun l J Jx W hR hJ hJx hY h0 => by
  refine callsIn_of_wp Try.func61 rfl trivial ?_ rfl
  simp only [Try.ntmps61, List.size_toArray, List.length_cons, List.length_nil, Nat.reduceAdd, Nat.reduceSub, Array.replicate_succ, Array.replicate_zero, List.push_toArray, List.append_toArray, List.nil_append, List.cons_append]
  have c0 := (hR 0 W h0).1
  have HR := Lib.hid hR; have HJ := Lib.hid hJ; have HY := Lib.hid hY; have H0 := Lib.hid h0
  clear hR hJ hJx hY h0
  gi_wp2
  gi_loopw [7] (fun v7 wr => ∃ i : Nat, i ≤ L.length ∧ v7 = .int .i64 i ∧ W.heap.size ≤ wr.heap.size ∧ J i wr) (fun v7 _ => L.length - (intOf v7).toNat)
  case atStart => exact ⟨0, Nat.zero_le _, rfl, Nat.le_refl _, H0.out⟩
  case round =>
    obtain ⟨i, hi, rfl, hs, hj⟩ := hrel
    clear H0 c0
    have hr := HR.out i wr hj
    by_cases hlt : i < L.length
    · rcases hr.2 with he | ⟨B, o, rfl, hB, hc⟩
      · rw [he] at hlt; exact absurd hlt (Nat.not_lt_zero _)
      have cl := hc i hlt
      obtain ⟨fn, tmps, assign, body, hy, hRr⟩ := HY.out i wr hlt hs hj
      unfold valE at hy
      have HS := Lib.hid hs; have HJ1 := Lib.hid hj
      have NX := Lib.hid (show i + 1 ≤ L.length from hlt)
      have f1 : (i : Int) < (L.length : Int) := by omega
      have f2 : (0 : Int) ≤ i := by omega
      have f3 : IntKind.i64.wrap ((i : Int) + 1) = ((i + 1 : Nat) : Int) := by rw [IntWalk.i64_in _ (by omega)]; omega
      clear hs hj hr hB hc hlt
      generalize L.getD i 0 = x at *
      gi_wp2
      refine ⟨(fun h => by cases h), hRr.mono ?_⟩
      rintro e W3 (⟨rfl, hj3, ha3⟩ | ⟨rfl, hx3, _⟩)
      · have H3 := Lib.hid hj3
        have S3 := Lib.hid (Nat.le_trans HS.out ha3)
        clear hRr hy hj3 ha3 HS HJ1
        gi_wp2
        go_roundw
        case rel => exact ⟨i + 1, NX.out, by go_num, S3.out, H3.out⟩
        case measure => have := NX.out; simp [intOf]; omega
      · have HX := Lib.hid hx3
        clear hRr hy hx3 HS HJ1
        gi_wp2
        exact bodyPost_ret (results_none rfl _ _ _) rfl ⟨⟨_, rfl⟩, .inr HX.out⟩
    · have f1 : ¬ (i : Int) < (L.length : Int) := by omega
      obtain rfl : i = L.length := by omega
      have HJ1 := Lib.hid hj
      clear hs hj hr
      gi_wp2
      refine bodyPost_end (results_none rfl _ _ _) rfl ?_
      exact ⟨⟨_, rfl⟩, .inl HJ1.out⟩
end Go.Proofs.Ytbejfpdkfpgipaa
