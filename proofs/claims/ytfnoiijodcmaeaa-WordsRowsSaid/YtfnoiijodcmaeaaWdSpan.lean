/- The iterator of package words' spans: it hands yield the places at which rows begin, and those behind them. Conditions: the bytes are bytes; the box and the bytes stand while the caller goes with it. -/
import Derived.Test.YtfnoiijodcmaeaaWdApp
import Derived.WalkMore
namespace Go.Proofs.Ytfnoiijodcmaeaa
open Go.ChangeShapes Go.WideShapes Go.ChangeAt Go.RowKit Go.Shelf
attribute [local go_sem] Oper.semAt_some
set_option linter.unusedVariables false

theorem spans_any (p : Option Addr) (n cap : Nat) (w : World) : Calls Try.prog 34 #[.slice p n cap] w fun e w' => e = .returned (.func (.func 36) #[] #[.pointer (some ⟨w.heap.size, 0, none⟩)]) ∧ w.alloc (.cells #[.slice p n cap] 22) = w' := by
  go_enter Try.func34, Try.ntmps34
  go_wp2
  go_ret
  exact ⟨rfl, rfl⟩
/-- What the iterator reads. -/
def SpR (Bx : Nat) (p : Option Addr) (n cap : Nat) (g : Nat → Nat) (V : World) : Prop := V.cell? ⟨Bx, 0, none⟩ = some (.slice p n cap) ∧ BytesAt V p n g
/-- A row's place, and the place behind it. -/
def spE (P : Nat → Nat) (x : Nat) : Array Value := #[.int .i64 (P x : Nat), .int .i64 (P (x + 1) : Nat)]
theorem rowEnd_in {n : Nat} {g : Nat → Nat} {M : Nat} {P : Nat → Nat} (RO : RowsOf n g M P) (p : Option Addr) (cap : Nat) (hg : ∀ i, i < n → g i < 256) (hn : n ≤ 140737488355328) (hcap : n ≤ cap) {i : Nat} (hi : i < M) (w : World) (hp : BytesAt w p n g) :
    Calls Try.prog 33 #[.slice p n cap, .int .i64 (P i : Nat)] w fun e w' => e = .returned (.tuple #[.int .i64 (P (i + 1) : Nat), .bool true]) ∧ w = w' := by
  have h := RO.room i hi
  have := rowEnd_any p n cap (P i) g hg hn hcap (by omega) w hp
  rwa [if_pos h, ← RO.next i hi] at this
theorem rowEnd_out {n : Nat} {g : Nat → Nat} {M : Nat} {P : Nat → Nat} (RO : RowsOf n g M P) (p : Option Addr) (cap : Nat) (hg : ∀ i, i < n → g i < 256) (hn : n ≤ 140737488355328) (hcap : n ≤ cap) (w : World) (hp : BytesAt w p n g) :
    Calls Try.prog 33 #[.slice p n cap, .int .i64 (P M : Nat)] w fun e w' => e = .returned (.tuple #[.int .i64 0, .bool false]) ∧ w = w' := by
  by_cases h2 : n < P M + 2
  · exact rowEnd_short p n cap (P M) hn (RO.le M (Nat.le_refl _)) h2 w
  · have := rowEnd_any p n cap (P M) g hg hn hcap (by omega) w hp
    rwa [if_neg (by have := RO.stop; omega)] at this
set_option maxRecDepth 100000 in
set_option maxHeartbeats 1000000 in
theorem spans_gives (m Bx : Nat) (p : Option Addr) (n cap : Nat) (g : Nat → Nat) (hg : ∀ i, i < n → g i < 256) (hcap : n ≤ cap) (hn : n ≤ 140737488351232) (M : Nat) (P : Nat → Nat) (RO : RowsOf n g M P) :
    GivesTo Fence.wide m Try.prog 36 #[.pointer (some ⟨Bx, 0, none⟩)] (spE P) (fun _ i _ x => x = i) M (SpR Bx p n cap g) := fun l J Jx W hR hJ hJx hY h0 => by
  refine callsIn_of_wp Try.func36 rfl trivial ?_ rfl
  simp only [Try.ntmps36, List.size_toArray, List.length_cons, List.length_nil, Nat.reduceAdd, Nat.reduceSub, Array.replicate_succ, Array.replicate_zero, List.push_toArray, List.append_toArray, List.nil_append, List.cons_append]
  have RI := Lib.hid (fun i (hi : i < M) (V : World) (hV : BytesAt V p n g) => rowEnd_in RO p cap hg (by omega) hcap hi V hV)
  have RX := Lib.hid (fun (V : World) (hV : BytesAt V p n g) => rowEnd_out RO p cap hg (by omega) hcap V hV)
  have HPL := Lib.hid (fun i (hi : i ≤ M) => RO.le i hi)
  have HPM := Lib.hid (fun i (hi : i ≤ M) => RO.most i hi)
  have HZ := Lib.hid RO.zero
  have HINC := Lib.hid (fun i (hi : i < M) => show P i < P (i + 1) by rw [RO.next i hi]; omega)
  have HR := Lib.hid hR; have HJ := Lib.hid hJ; have HY := Lib.hid hY; have H0 := Lib.hid h0
  clear hR hJ hJx hY h0 hg RO
  refine wpIn_wide.2 ?_
  go_wp2
  go_step3
  go_wp2
  go_step3
  go_wp2
  refine (wpIn_wide (n := m)).1 ?_
  gi_loopw [3] (fun v3 wr => ∃ i : Nat, i ≤ M ∧ v3 = .int .i64 (P i : Nat) ∧ W.heap.size ≤ wr.heap.size ∧ J i wr) (fun v3 _ => n + 1 - (intOf v3).toNat)
  case atStart => exact ⟨0, by omega, by rw [HZ.out]; rfl, Nat.le_refl _, H0.out⟩
  case round =>
    obtain ⟨i, hi, rfl, hs, hj⟩ := hrel
    clear H0 HZ
    have hr := HR.out i wr hj
    have c1 := hr.1
    have HB := Lib.hid hr.2
    by_cases hlt : i < M
    · obtain ⟨fn, tmps, assign, body, hy, hRr⟩ := HY.out i wr i hlt hs hj rfl
      unfold spE at hy
      have HS := Lib.hid hs; have HJ1 := Lib.hid hj
      have NX := Lib.hid (show i + 1 ≤ M from hlt)
      have m1 := HPM.out i hi
      have hpl := HPL.out i hi
      have hpn := HPL.out (i + 1) hlt
      have hst := Lib.hid (show P i < P (i + 1) from HINC.out i hlt)
      clear hs hj hr m1
      gi_wp2
      refine ⟨trivial, (fun h => by cases h), (callsIn_wide.2 (RI.out i hlt wr HB.out)).mono ?_⟩
      rintro e W4 ⟨rfl, rfl⟩
      gi_wp2
      refine ⟨(fun h => by cases h), hRr.mono ?_⟩
      rintro e W3 (⟨rfl, hj3, ha3⟩ | ⟨rfl, hx3, _⟩)
      · have H3 := Lib.hid hj3
        have S3 := Lib.hid (Nat.le_trans HS.out ha3.size)
        clear hRr hy hj3 ha3 HS HJ1
        gi_wp2
        go_roundw
        case rel => exact ⟨i + 1, NX.out, rfl, S3.out, H3.out⟩
        case measure => have := hst.out; simp [intOf]; omega
      · have HX := Lib.hid hx3
        clear hRr hy hx3 HS HJ1
        gi_wp2
        rw [Exit.noGoto_normal]
        refine bodyPost_end (results_none rfl _ _ _) rfl ?_
        exact ⟨⟨_, rfl⟩, .inr HX.out⟩
    · obtain rfl : i = M := by omega
      have HS := Lib.hid hs; have HJ1 := Lib.hid hj
      clear hs hj hr
      gi_wp2
      refine ⟨trivial, (fun h => by cases h), (callsIn_wide.2 (RX.out wr HB.out)).mono ?_⟩
      rintro e W4 ⟨rfl, rfl⟩
      gi_wp2
      rw [Exit.noGoto_normal]
      refine bodyPost_end (results_none rfl _ _ _) rfl ?_
      exact ⟨⟨_, rfl⟩, .inl HJ1.out⟩
end Go.Proofs.Ytfnoiijodcmaeaa
