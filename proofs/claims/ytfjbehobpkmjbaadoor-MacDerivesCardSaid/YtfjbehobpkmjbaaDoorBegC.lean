/- What MacLonger's helper answers: true, of every key, label and two lengths. Conditions: the package's variable holds the constants; the key and the label are no longer than 2^47 - 4096. -/
import Derived.Test.YtfjbehobpkmjbaaDoorDerC
namespace Go.Proofs.YtfjbehobpkmjbaaDoor
open Go.ChangeShapes Go.WideShapes Go.ChangeAt Go.RowKit
set_option linter.unusedVariables false
attribute [local irreducible] numB digF pieK labB tagF blkF blkT cat2 derF derTo

theorem bytes_pre {w : World} {B M N : Nat} {f : Nat → Nat} {t : TypeId} (h : IntBlk w B .u8 t (mk M f)) (hN : N ≤ M) : BytesAt w (some ⟨B, 0, none⟩) N f := by
  refine .inr ⟨B, 0, rfl, h.lt, fun j hj => ?_⟩
  have := h.cell (i := j) (by rw [mk_len]; omega)
  rw [Nat.zero_add]
  simpa [mk, List.getD_eq_getElem?_getD, List.getElem?_range, show j < M by omega] using this

set_option maxRecDepth 100000 in
set_option maxHeartbeats 4000000 in
theorem begins_any (p : Option Addr) (n cap : Nat) (g : Nat → Nat) (s : ByteArray) (z y : Int) (hg : ∀ i, i < n → g i < 256) (hcap : n ≤ cap) (hmax : n ≤ 140737488351232) (hs : s.size ≤ 140737488351232) (w : World) (hT : TabAt w) (hp : BytesAt w p n g) :
    Calls Tryd.prog 25 #[.slice p n cap, .string s, .int .i64 z, .int .i64 y] w fun e w' => e = .returned (.bool true) ∧ Below w.heap.size w w' := by
  obtain ⟨v1, hv1⟩ : ∃ v1, Lib.bytesWorld w 5 s = v1 := ⟨_, rfl⟩
  have b1 : Below w.heap.size w v1 := by rw [← hv1]; exact (conv_str_world s w hs).2
  have b2 : Below w.heap.size w (v1.alloc (.cells #[.slice p n cap, .slice (some ⟨w.heap.size, 0, none⟩) s.size (grownCap w s.size 0 5)] 22)) := b1.alloc b1.size _
  have cs := two_cells v1 (.slice p n cap) (.slice (some ⟨w.heap.size, 0, none⟩) s.size (grownCap w s.size 0 5)) 22
  have LG := Lib.hid (large_two (c := 2) hmax hs cs.1 cs.2)
  have HB2 := Lib.hid b2
  obtain ⟨n1, hn1⟩ : ∃ n1 : Nat, IntKind.i64.wrap ((IntKind.u64.wrap z).tmod 300) = (n1 : Int) ∧ n1 < 300 := by
    have : IntKind.u64.wrap z = z % 18446744073709551616 := by simp [IntKind.wrap, IntKind.bits, IntKind.signed]
    refine ⟨((IntKind.u64.wrap z).tmod 300).toNat, ?_⟩
    rw [this]
    have h0 : (0 : Int) ≤ (z % 18446744073709551616).tmod 300 := by rw [Int.tmod_eq_emod_of_nonneg (by omega)]; omega
    have h1 : (z % 18446744073709551616).tmod 300 < 300 := by rw [Int.tmod_eq_emod_of_nonneg (by omega)]; omega
    rw [IntWalk.i64_in _ (by omega)]
    omega
  obtain ⟨m1, hm1⟩ : ∃ m1 : Nat, IntKind.i64.wrap ((IntKind.u64.wrap y).tmod 100) = (m1 : Int) ∧ m1 < 100 := by
    have : IntKind.u64.wrap y = y % 18446744073709551616 := by simp [IntKind.wrap, IntKind.bits, IntKind.signed]
    refine ⟨((IntKind.u64.wrap y).tmod 100).toNat, ?_⟩
    rw [this]
    have h0 : (0 : Int) ≤ (y % 18446744073709551616).tmod 100 := by rw [Int.tmod_eq_emod_of_nonneg (by omega)]; omega
    have h1 : (y % 18446744073709551616).tmod 100 < 100 := by rw [Int.tmod_eq_emod_of_nonneg (by omega)]; omega
    rw [IntWalk.i64_in _ (by omega)]
    omega
  have hn2 := hn1.2
  have hm2 := hm1.2
  have hn3 := hn1.1
  have hm3 := hm1.1
  have w1 : IntKind.i64.wrap (1 + (n1 : Int)) = ((1 + n1 : Nat) : Int) := by rw [IntWalk.i64_in _ (by omega)]; omega
  have w2 : IntKind.i64.wrap (((1 + n1 : Nat) : Int) + (m1 : Int)) = ((1 + n1 + m1 : Nat) : Int) := by rw [IntWalk.i64_in _ (by omega)]; omega
  clear hn1 hm1 b1 b2 cs
  obtain ⟨N, hN⟩ : ∃ N, 1 + n1 = N := ⟨_, rfl⟩
  obtain ⟨M, hM⟩ : ∃ M, N + m1 = M := ⟨_, rfl⟩
  rw [hN] at w1 w2
  rw [hM] at w2
  by_cases hl : n + s.size ≤ 4096
  · have hd : decide (4096 < n + s.size) = false := decide_eq_false (by omega)
    rw [hd] at LG
    have D1 := Lib.hid (fun W hT hp => Derive_any p n cap g s N (by omega) (by omega) hcap hg (by omega) W hT hp)
    have D2 := Lib.hid (fun W hT hp => Derive_any p n cap g s M (by omega) (by omega) hcap hg (by omega) W hT hp)
    have HP := Lib.hid hp; have HT := Lib.hid hT
    clear hp hT hd
    go_enter Tryd.func25, Tryd.ntmps25
    go_wp2_with (first
      | (refine wpList_conv_str rfl _ rfl s rfl ?_; rw [hv1])
      | (go_at_call 10; refine LG.out.mono ?_; rintro e w0 ⟨rfl, hw0⟩
         rw [hw0] at HB2
         clear hw0 LG)
      | (go_at_call 22
         first
         | (refine (D1.out _ (HT.out.on HB2.out) (HP.out.below HB2.out)).mono ?_; rintro e w3 ⟨rfl, hb, hb3⟩
            have C1 := Lib.hid hb
            have B3 := Lib.hid (HB2.out.trans (hb3.mono HB2.out.size))
            clear hb hb3 D1)
         | (refine (D2.out _ (HT.out.on B3.out) (HP.out.below B3.out)).mono ?_; rintro e w4 ⟨rfl, hb, hb4⟩
            have C2 := Lib.hid hb
            have C1' := Lib.hid (C1.out.below hb4 C1.out.lt)
            have B4 := Lib.hid (B3.out.trans (hb4.mono B3.out.size))
            clear hb hb4 D2))
      | (go_at_call 13
         refine (Same_eq _ _ N _ _ (derF (pieK n g) s) (derF (pieK n g) s) w4 (bytes_pre C1'.out (Nat.le_refl _)) (bytes_pre C2.out (by omega)) rfl).mono ?_; rintro e w5 ⟨rfl, hw5⟩
         rw [hw5] at B4))
    go_ret
    exact ⟨rfl, B4.out⟩
  · have hd : decide (4096 < n + s.size) = true := decide_eq_true (by omega)
    rw [hd] at LG
    go_enter Tryd.func25, Tryd.ntmps25
    go_wp2_with (first
      | (refine wpList_conv_str rfl _ rfl s rfl ?_; rw [hv1])
      | (go_at_call 10; refine LG.out.mono ?_; rintro e w0 ⟨rfl, hw0⟩
         rw [hw0] at HB2
         clear hw0 LG))
    go_ret
    exact ⟨rfl, HB2.out⟩
end Go.Proofs.YtfjbehobpkmjbaaDoor
