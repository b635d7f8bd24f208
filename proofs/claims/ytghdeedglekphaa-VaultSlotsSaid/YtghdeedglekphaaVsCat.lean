/- The contracts of slices.Grow on nil and of slices.Concat on two halves of a unit's keys; of package vault's filled. Conditions: as each says. -/
import Derived.Test.YtghdeedglekphaaVsKeys
namespace Go.Proofs.Ytghdeedglekphaa
open Go.ChangeShapes Go.WideShapes Go.ChangeAt Go.RowKit
set_option linter.unusedVariables false
set_option maxRecDepth 100000 in
set_option maxHeartbeats 2000000 in
theorem Grow_nil (w : World) : Calls Try.prog 27 #[.slice none 0 0, .int .i64 64] w fun e w' => ∃ B c, e = .returned (.slice (some ⟨B, 0, none⟩) 0 c) ∧ OwnL 5 1 byteC w' w.heap.size w'.heap.size (.slice (some ⟨B, 0, none⟩) 0 c) [] ∧ Below w.heap.size w w' := by
  obtain ⟨v1, w1, hr1, ho1, hb1⟩ := append_zeros_own (base := w.heap.size) (top := w.heap.size) (k := 0) (v := .slice none 0 0) (F := fun _ => 0) w 22 (.inl ⟨rfl, rfl⟩) 64 (by decide) (fun _ _ => rfl) (Nat.le_refl _)
  obtain ⟨B, c, rfl, hB, hO⟩ : ∃ B c, v1 = .slice (some ⟨B, 0, none⟩) 64 c ∧ 64 ≤ c ∧ OwnL 5 1 byteC w1 w.heap.size w1.heap.size (.slice (some ⟨B, 0, none⟩) 0 c) [] := by
    rcases ho1 with ⟨_, h⟩ | ⟨B, c, cur, h1, h2, h3, h4, h5, h6, h7, h8⟩
    · exact absurd h (by decide)
    · exact ⟨B, c, h1, by omega, .inr ⟨B, c, cur, rfl, h2, h3, h4, Nat.zero_le _, h6, h7, rfl⟩⟩
  have HR := Lib.hid hr1; have HB := Lib.hid hb1; have HO := Lib.hid hO
  clear hr1 hb1 ho1 hO
  go_enter Try.func27, Try.ntmps27
  go_wp2_with (first
    | (refine Lib.wpList_append_run w rfl _ _ _ _ rfl (.slice none 0 0) (.int .i64 64) rfl rfl _ _ HR.out ?_))
  go_ret
  exact ⟨B, c, rfl, HO.out, HB.out⟩
def accK (lf : Nat → List Int) (k : Nat) : List Int := (List.range k).flatMap lf
theorem accK_next (lf : Nat → List Int) (k : Nat) : accK lf k ++ lf k = accK lf (k + 1) := by unfold accK; rw [List.range_succ, List.flatMap_append]; simp
theorem accK_zero (lf : Nat → List Int) : accK lf 0 = [] := rfl
theorem accK_two (lf : Nat → List Int) : accK lf 2 = lf 0 ++ lf 1 := by unfold accK; simp [List.range_succ]
theorem accK_len {lf : Nat → List Int} (h : ∀ k, k < 2 → (lf k).length = 32) : ∀ k, k ≤ 2 → (accK lf k).length = 32 * k
  | 0, _ => rfl
  | k + 1, hk => by rw [← accK_next, List.length_append, accK_len h k (by omega), h k (by omega)]; omega
attribute [local irreducible] accK
set_option maxRecDepth 100000 in
set_option maxHeartbeats 4000000 in
theorem Concat_two (P cP : Nat) (pf : Nat → Option Addr) (cf : Nat → Nat) (lf : Nat → List Int) (hl : ∀ k, k < 2 → (lf k).length = 32) (w : World) (hc : ∀ k, k < 2 → w.cell? ⟨P, k, none⟩ = some (.slice (pf k) 32 (cf k))) (hr : ∀ k, k < 2 → RowsAt 1 byteC w (pf k) (lf k)) :
    Calls Try.prog 17 #[.slice (some ⟨P, 0, none⟩) 2 cP] w fun e w' => ∃ p c, e = .returned (.slice p 64 c) ∧ RowsAt 1 byteC w' p (lf 0 ++ lf 1) ∧ 64 ≤ c ∧ Below w.heap.size w w' := by
  have HC := Lib.hid (fun (W : World) (h : Below w.heap.size w W) k (hk : k < 2) => (h.cell (p := ⟨P, k, none⟩) (block_lt_of_cell (hc k hk))).trans (hc k hk))
  have HR := Lib.hid (fun (W : World) (h : Below w.heap.size w W) k (hk : k < 2) => (hr k hk).below h)
  have HL := Lib.hid hl; have AL := Lib.hid (accK_len hl); have AN := Lib.hid (accK_next lf); have AZ := Lib.hid (accK_zero lf); have AT := Lib.hid (accK_two lf)
  clear hc hr hl
  generalize hS : w.heap.size = S at *
  have HS := Lib.hid hS
  clear hS
  go_enter Try.func17, Try.ntmps17
  go_wp2
  go_loopw [3, 11] (fun v3 v11 wr => ∃ k m : Nat, k ≤ 2 ∧ m = 32 * k ∧ v3 = .int .i64 m ∧ v11 = .int .i64 k ∧ Below S w wr) (fun _ v11 _ => 2 - (intOf v11).toNat)
  case atStart => exact ⟨0, 0, by omega, rfl, rfl, rfl, HS.out ▸ Below.refl _ _⟩
  case round =>
    obtain ⟨k, m, hk2, hm, rfl, rfl, hb⟩ := hrel
    have BB := Lib.hid hb
    clear hb
    by_cases hlt : k < 2
    · have f1 : (k : Int) < 2 := by omega
      have f2 : (0 : Int) ≤ k := by omega
      have f3 : IntKind.i64.wrap ((k : Int) + 1) = ((k + 1 : Nat) : Int) := by rw [IntWalk.i64_in _ (by omega)]; omega
      have f4 : IntKind.i64.wrap ((m : Int) + 32) = ((m + 32 : Nat) : Int) := by rw [IntWalk.i64_in _ (by omega)]; omega
      have f5 : ¬ (((m + 32 : Nat) : Int) < 0) := by omega
      have f6 : ¬ ((m : Int) + 32 < 0) := by omega
      have cs := HC.out wr BB.out k hlt
      have HLT := Lib.hid hlt; have HM := Lib.hid hm
      clear hlt hm
      go_wp2
      go_roundw
      case rel => exact ⟨k + 1, m + 32, HLT.out, by have := HM.out; omega, by go_num, by go_num, BB.out⟩
      case measure => have := HLT.out; simp [intOf]; omega
    · obtain rfl : k = 2 := by omega
      obtain rfl : m = 64 := by omega
      have f1 : ¬ ((2 : Nat) : Int) < 2 := by omega
      go_wp2_with (first
        | (go_at_call 27; refine (Grow_nil wr).mono ?_; rintro e w2 ⟨B2, c2, rfl, ho, hb⟩
           have O2 := Lib.hid (show OwnL 5 1 byteC w2 S w2.heap.size (.slice (some ⟨B2, 0, none⟩) 0 c2) (accK lf 0) by rw [AZ.out]; exact ho.lower (HS.out ▸ BB.out.size))
           have B2b := Lib.hid (BB.out.trans (hb.mono (HS.out ▸ BB.out.size)))
           clear ho hb))
      go_loopw [6, 27] (fun v6 v27 wr => ∃ k : Nat, k ≤ 2 ∧ v27 = .int .i64 k ∧ OwnL 5 1 byteC wr S wr.heap.size v6 (accK lf k) ∧ Below S w wr) (fun _ v27 _ => 2 - (intOf v27).toNat)
      case atStart => exact ⟨0, by omega, rfl, O2.out, B2b.out⟩
      case round =>
        obtain ⟨k, hk2, rfl, ho, hb⟩ := hrel
        have OO := Lib.hid ho; have BK := Lib.hid hb
        clear ho hb O2 B2b BB
        by_cases hlt : k < 2
        · have f1 : (k : Int) < 2 := by omega
          have f2 : (0 : Int) ≤ k := by omega
          have f3 : IntKind.i64.wrap ((k : Int) + 1) = ((k + 1 : Nat) : Int) := by rw [IntWalk.i64_in _ (by omega)]; omega
          have cs := HC.out wr BK.out k hlt
          have RK := Lib.hid (HR.out wr BK.out k hlt); have LK := Lib.hid (HL.out k hlt); have ALK := Lib.hid (AL.out k hk2); have ANK := Lib.hid (AN.out k)
          have HLT := Lib.hid hlt
          clear hlt AN HL HR AL
          go_wp2_with (first
            | (refine wpList_grow elemByte rfl _ _ rfl S wr.heap.size _ (accK lf k) (lf k) (pf k) 32 (cf k) rfl rfl LK.out.symm OO.out RK.out (by rw [ALK.out, LK.out]; have := HLT.out; omega) (by decide) (HS.out ▸ BK.out.size) ?_; intro v5 w5 ho hb
               rw [ANK.out] at ho
               have O5 := Lib.hid ho; have B5 := Lib.hid (BK.out.trans hb)
               clear ho hb))
          go_roundw
          case rel => exact ⟨k + 1, HLT.out, by go_num, O5.out, B5.out⟩
          case measure => have := HLT.out; simp [intOf]; omega
        · obtain rfl : k = 2 := by omega
          have f1 : ¬ ((2 : Nat) : Int) < 2 := by omega
          have oo := OO.out
          obtain ⟨p9, c9, rfl, hc9, _, hr9, _⟩ := oo.rows elemByte.len
          rw [AL.out 2 (by omega)] at hc9 ⊢
          rw [AT.out] at hr9
          have C9 := Lib.hid hc9; have R9 := Lib.hid hr9
          clear oo hc9 hr9 OO
          go_wp2
          go_ret
          exact ⟨p9, c9, rfl, R9.out, C9.out, BK.out⟩
def padF (n : Nat) (g : Nat → Nat) : List Int := mk 128 fun j => if j < n then g j else 0
theorem padF_sec {n : Nat} {g : Nat → Nat} (h : ∀ i, i < n → g i < 256) : IsSec (padF n g) := isSec_mk fun i _ => by
  show (if i < n then g i else 0) < 256
  split
  · exact h _ (by assumption)
  · decide
theorem FillP_ok {n : Nat} (hn : n ≤ 128) (g : Nat → Nat) (p : Option Addr) (c : Nat) (w : World) (hp : BytesAt w p n g) : Calls Try.prog 19 #[.slice p n c] w fun e w' => e = .returned (.tuple #[secVal (padF n g), .nilIface]) ∧ Below w.heap.size w w' := by
  refine (Fill_ok p n c g hn w hp).mono ?_
  rintro e w' ⟨rfl, hb2⟩
  refine ⟨?_, hb2⟩
  unfold secVal padF
  rw [show mk 128 (natF (mk 128 fun j => if j < n then g j else 0)) = mk 128 (extF n g) from mk_ext fun j hj => by rw [natF_mk hj]; rfl]
attribute [local irreducible] nought sumVal sumC secVal secC bytC noSec fTo keyC keyV noKeys padF
set_option maxRecDepth 100000 in
set_option maxHeartbeats 2000000 in
theorem filled_err (q : Option Addr) (n c : Nat) (z : Int) (w : World) :
    Calls Try.prog 15 #[.slice q n c, .iface 33 (.int .i64 z)] w fun e w' => e = .returned (.tuple #[secVal noSec, .iface 33 (.int .i64 z)]) ∧ Below w.heap.size w w' := by
  go_enter Try.func15, Try.ntmps15
  go_wp2_with (first
    | (refine wpList_cell_alloc rfl rfl w.heap.size rfl ?_; intro w1 hx hb hs
       have R1 := Lib.hid hx; have B1 := Lib.hid hb; clear hx hb hs)
    | (refine wpList_cell_build0 rfl rfl ?_)
    | (refine wpList_cell_store rfl _ _ rfl rfl w.heap.size rfl noSec rfl noSec R1.out ?_; intro w2 hx hb hs
       have R2 := Lib.hid hx; have B2 := Lib.hid (B1.out.trans (hb.below (Nat.le_refl _) B1.out.size)); clear hx hb hs R1 B1))
  exact bodyPost_ret (results_sec_tmp rfl _ _ w.heap.size noSec rfl R2.out) rfl ⟨rfl, B2.out⟩
set_option maxRecDepth 100000 in
set_option maxHeartbeats 2000000 in
theorem filled_ok (q : Option Addr) (n c : Nat) (g : Nat → Nat) (hn : n ≤ 128) (w : World) (hq : BytesAt w q n g) :
    Calls Try.prog 15 #[.slice q n c, .nilIface] w fun e w' => e = .returned (.tuple #[secVal (padF n g), .nilIface]) ∧ Below w.heap.size w w' := by
  have FL := Lib.hid (fun (W : World) (h : Below w.heap.size w W) => FillP_ok hn g q c W (hq.below h))
  clear hq hn
  go_enter Try.func15, Try.ntmps15
  go_wp2_with (first
    | (refine wpList_cell_alloc rfl rfl w.heap.size rfl ?_; intro w1 hx hb hs
       have R1 := Lib.hid hx; have B1 := Lib.hid hb; clear hx hb hs)
    | (go_at_call 19; refine (FL.out w1 B1.out).mono ?_; rintro e w2 ⟨rfl, hb⟩
       have R2 := Lib.hid (R1.out.below hb); have B2 := Lib.hid (B1.out.trans (hb.mono B1.out.size)); clear hb R1 B1)
    | (refine wpList_cell_store rfl _ _ rfl rfl w.heap.size rfl (padF n g) rfl noSec R2.out ?_; intro w3 hx hb hs
       have R3 := Lib.hid hx; have B3 := Lib.hid (B2.out.trans (hb.below (Nat.le_refl _) B2.out.size)); clear hx hb hs R2 B2))
  exact bodyPost_ret (results_sec_tmp rfl _ _ w.heap.size (padF n g) rfl R3.out) rfl ⟨rfl, B3.out⟩
end Go.Proofs.Ytghdeedglekphaa
