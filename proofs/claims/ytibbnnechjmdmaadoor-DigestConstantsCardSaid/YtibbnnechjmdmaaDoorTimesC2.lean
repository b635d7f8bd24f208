/- The contract of package citadelref04's times: two numbers' product, by places. It writes nothing that was there. Condition: the places are below 65536; at most 100 of them. -/
import Derived.Test.YtibbnnechjmdmaaDoorListC
import Derived.Test.YtibbnnechjmdmaaDoorQuietG
namespace Go.Proofs.YtibbnnechjmdmaaDoor
open Go.ChangeShapes Go.WideShapes Go.ChangeAt Go.RowKit
theorem upd_lt {f : Nat → Nat} {i v : Nat} (hv : v < 65536) (h : ∀ j, f j < 65536) : ∀ j, upd f i v j < 65536 := fun j => by
  unfold upd; split
  · exact hv
  · exact h j
attribute [local irreducible] val

set_option maxRecDepth 100000 in
set_option maxHeartbeats 2000000 in
theorem times_any (A B la lb ca cb : Nat) (f g : Nat → Nat) (hla : la ≤ 100) (hlb : lb ≤ 100) (hf : ∀ j, j < la → f j < 65536) (hg : ∀ j, j < lb → g j < 65536) (w : World) (ha : WAt w A la f) (hb : WAt w B lb g) :
    Calls Tryd.prog 36 #[.slice (some ⟨A, 0, none⟩) la ca, .slice (some ⟨B, 0, none⟩) lb cb] w fun e w' => ∃ F, e = .returned (.slice (some ⟨w.heap.size, 0, none⟩) (la + lb + 1) (la + lb + 1)) ∧ WAt w' w.heap.size (la + lb + 1) F ∧ (∀ j, F j < 65536) ∧
      val F (la + lb + 1) = val f la * val g lb ∧ Below w.heap.size w w' := by
  obtain ⟨N, hN⟩ : ∃ N, la + lb = N := ⟨_, rfl⟩
  obtain ⟨L, hL⟩ : ∃ L, N + 1 = L := ⟨_, rfl⟩
  have q0 : IntKind.i64.wrap ((la : Int) + lb) = (N : Int) := by rw [IntWalk.i64_in _ (by omega)]; omega
  have q1 : IntKind.i64.wrap ((N : Int) + 1) = (L : Int) := by rw [IntWalk.i64_in _ (by omega)]; omega
  rw [hN, hL]
  have HNL := Lib.hid (show la + lb + 1 = L by omega)
  have HA := Lib.hid ha; have HB := Lib.hid hb; have HF := Lib.hid hf; have HG := Lib.hid hg
  have hA := ha.1; have hB := hb.1
  have hL100 : L ≤ 100000 := by omega
  have HI0 := Lib.hid (IntBlk.new w .u64 54 (mk L zeroK))
  have HB0 : Hid (Below w.heap.size w (w.alloc (.cells (cellsOf .u64 (mk L zeroK)) 54))) := Lib.hid ((Below.refl _ w).alloc (Nat.le_refl _) _)
  clear ha hb hf hg hN hL
  go_enter Tryd.func36, Tryd.ntmps36
  go_wp2_with (first
    | (refine wpList_make_noughts64 rfl _ _ rfl L hL100 rfl rfl ?_)
    | fail)
  generalize w.alloc (.cells (cellsOf .u64 (mk L zeroK)) 54) = V at *
  go_loopw [6, 7, 8, 9] (fun v _ _ _ wr => ∃ (i : Nat) (F : Nat → Nat), i ≤ la ∧ v = .int .i64 i ∧ IntBlk wr w.heap.size .u64 54 (mk L F) ∧ (∀ j, F j < 65536) ∧ (∀ j, i + lb ≤ j → F j = 0) ∧ val F L = val f i * val g lb ∧ Below w.heap.size w wr) (fun v _ _ _ _ => la - (intOf v).toNat)
  case atStart => exact ⟨0, zeroK, by omega, rfl, HI0.out, fun _ => by show (0 : Nat) < _; omega, fun _ _ => rfl, by rw [val_zero]; unfold val; rw [Nat.zero_mul], HB0.out⟩
  case round =>
    clear HI0 HB0
    obtain ⟨i, F, hi, rfl, hz, hlt, h0, hv, hbl⟩ := hrel
    have HZ := Lib.hid hz; have HLT := Lib.hid hlt; have H0 := Lib.hid h0; have HV := Lib.hid hv; have HBL := Lib.hid hbl
    clear hz hlt h0 hv hbl
    by_cases hil : i < la
    · have e1 : (i : Int) < la := by omega
      have HX := Lib.hid (HF.out i hil)
      go_wp2
      generalize wr = wo at *
      go_loopw [7, 8, 9] (fun v7 v8 _ wk => ∃ (k c : Nat) (G : Nat → Nat), k ≤ lb ∧ v8 = .int .i64 k ∧ v7 = .int .u64 c ∧ c < 65536 ∧ IntBlk wk w.heap.size .u64 54 (mk L G) ∧ (∀ j, G j < 65536) ∧ (∀ j, i + lb ≤ j → G j = 0) ∧
        val G L + c * 65536 ^ (i + k) = val f i * val g lb + f i * val g k * 65536 ^ i ∧ Below w.heap.size w wk) (fun _ v _ _ => lb - (intOf v).toNat)
      case atStart => exact ⟨0, 0, F, by omega, rfl, rfl, by omega, HZ.out, HLT.out, H0.out, by rw [HV.out]; unfold val; simp, HBL.out⟩
      case round =>
        clear HZ HLT H0 HV HBL
        obtain ⟨k, c, G, hk, rfl, rfl, hc, hz, hlt, h0, hv, hbl⟩ := hrel
        have HZ := Lib.hid hz; have HLT := Lib.hid hlt; have H0 := Lib.hid h0; have HV := Lib.hid hv; have HBL := Lib.hid hbl
        have hNL := HNL.out
        by_cases hkl : k < lb
        · have e2 : (k : Int) < lb := by omega
          have hy := HG.out k hkl
          have hx := HX.out
          have cA := (HA.out.below hbl hA).2 i hil
          have cB := (HB.out.below hbl hB).2 k hkl
          obtain ⟨s, hs⟩ : ∃ s, i + k = s := ⟨_, rfl⟩
          have cF := hz.cell (i := s) (by rw [mk_len]; omega)
          rw [mk_get (by omega)] at cF
          have ff := hz.free s
          have ho := hlt s
          have hsm := row_small hx hy ho hc
          have hst := row_step (F := G) (a := f) (b := g) (i := i) (k := k) (c := c) (V0 := val f i * val g lb) (L := L) (n := G (i + k) + f i * g k + c) (by omega) hv rfl
          rw [hs] at hst
          have hup : (mk L G).set s (((G s + f i * g k + c) % 65536 : Nat) : Int) = mk L (upd G s ((G s + f i * g k + c) % 65536)) := mk_set L G s
          have hul : ∀ j, upd G s ((G s + f i * g k + c) % 65536) j < 65536 := upd_lt (Nat.mod_lt _ (by omega)) hlt
          have hu0 : ∀ j, i + lb ≤ j → upd G s ((G s + f i * g k + c) % 65536) j = 0 := fun j hj => by rw [upd_other G _ (by omega)]; exact h0 j hj
          have HS := Lib.hid hst; have HUP := Lib.hid hup; have HUL := Lib.hid hul; have HU0 := Lib.hid hu0
          clear hst hup hul hu0
          obtain ⟨o, ho'⟩ : ∃ o, G s = o := ⟨_, rfl⟩
          obtain ⟨x, hx'⟩ : ∃ x, f i = x := ⟨_, rfl⟩
          obtain ⟨y, hy'⟩ : ∃ y, g k = y := ⟨_, rfl⟩
          rw [ho'] at cF ho hsm HS HUP HUL HU0
          rw [hx'] at cA hx hsm HS HUP HUL HU0
          have HXE := Lib.hid hx'
          rw [hy'] at cB hy hsm HS HUP HUL HU0
          obtain ⟨xy, hxy⟩ : ∃ xy, x * y = xy := ⟨_, rfl⟩
          rw [hxy] at hsm HS HUP HUL HU0
          obtain ⟨n, hn⟩ : ∃ n, o + xy + c = n := ⟨_, rfl⟩
          rw [hn] at hsm HS HUP HUL HU0
          obtain ⟨v, hv'⟩ : ∃ v, n % 65536 = v := ⟨_, rfl⟩
          obtain ⟨c', hc'⟩ : ∃ c', n / 65536 = c' := ⟨_, rfl⟩
          rw [hv'] at HS HUP HUL HU0
          rw [hc'] at hsm HS
          have m1 : IntKind.u64.wrap ((x : Int) * (y : Int)) = (xy : Int) := by rw [← hxy, ← Int.natCast_mul]; exact IntWalk.u64_in _ (by omega)
          have m2 : IntKind.u64.wrap ((o : Int) + (xy : Int)) = ((o + xy : Nat) : Int) := by rw [IntWalk.u64_in _ (by omega)]; omega
          obtain ⟨t, ht⟩ : ∃ t, o + xy = t := ⟨_, rfl⟩
          rw [ht] at m2 hn
          have m3 : IntKind.u64.wrap ((t : Int) + (c : Int)) = (n : Int) := by rw [IntWalk.u64_in _ (by omega)]; omega
          have m4 : (n : Int).tmod 65536 = (v : Int) := by rw [Int.tmod_eq_emod_of_nonneg (by omega)]; omega
          have m4' : (n : Int) % 65536 = (v : Int) := by omega
          have m5 : IntKind.u64.wrap ((n : Int) / 65536) = (c' : Int) := by rw [IntWalk.u64_in _ (by omega)]; omega
          have m6 : IntKind.i64.wrap ((i : Int) + (k : Int)) = (s : Int) := by rw [IntWalk.i64_in _ (by omega)]; omega
          have l0 : (0 : Int) ≤ i := by omega
          have l1 : (0 : Int) ≤ k := by omega
          have l2 : (0 : Int) ≤ s := by omega
          have l3 : (s : Int) < L := by omega
          have HSN := Lib.hid hsm.1
          clear hz hlt h0 hv hbl hs hn ht hxy hv' hc' hsm hx hy ho ho' hx' hy' hNL
          go_wp2
          refine wp_region_still_tail 18 (by kernel_rfl) (by kernel_rfl) ?_
          simp only [List.take_succ_cons, List.take_zero, List.drop_succ_cons, List.drop_zero]
          change wpStill _ _ wr.drew (fun a' => wpList _ _ _ _ a' wr.drew) _ _
          iterate 18 still_step
          refine wpStill_nil ?_
          go_wp2
          go_roundw
          case rel => exact ⟨k + 1, c', upd G s v, by omega, by go_num, rfl, HSN.out, by rw [← HUP.out]; exact HZ.out.drew.set s _, HUL.out, HU0.out, by rw [HXE.out]; exact HS.out, HBL.out.drew.setCell (Nat.le_refl _) _⟩
          case measure => simp [intOf]; omega
        · have ek : k = lb := by omega
          have hd1 : decide ((k : Int) < (lb : Int)) = false := by simp; omega
          obtain ⟨s, hs⟩ : ∃ s, i + lb = s := ⟨_, rfl⟩
          have hGs : G s = 0 := h0 s (by omega)
          rw [ek] at hv
          have hre := row_end (F := G) (a := f) (b := g) (i := i) (m := lb) (c := c) (L := L) (by omega) hv
          rw [hs, hGs, Nat.zero_add] at hre
          have cF := hz.cell (i := s) (by rw [mk_len]; omega)
          rw [mk_get (by omega), hGs] at cF
          have ff := hz.free s
          have hup : (mk L G).set s (c : Int) = mk L (upd G s c) := mk_set L G s
          have hul : ∀ j, upd G s c j < 65536 := upd_lt hc hlt
          have hu0 : ∀ j, i + 1 + lb ≤ j → upd G s c j = 0 := fun j hj => by rw [upd_other G _ (by omega)]; exact h0 j (by omega)
          have HRE := Lib.hid hre; have HUP := Lib.hid hup; have HUL := Lib.hid hul; have HU0 := Lib.hid hu0
          have m3 : IntKind.u64.wrap ((c : Int)) = (c : Int) := IntWalk.u64_in _ (by omega)
          have m3' : IntKind.u64.wrap ((0 : Int) + (c : Int)) = (c : Int) := by rw [Int.zero_add]; exact m3
          have m6 : IntKind.i64.wrap ((i : Int) + (lb : Int)) = (s : Int) := by rw [IntWalk.i64_in _ (by omega)]; omega
          have l2 : (0 : Int) ≤ s := by omega
          have l3 : (s : Int) < L := by omega
          clear hz hlt h0 hv hbl hs hre hup hul hu0 hGs ek hNL
          go_wp2
          go_roundw
          case rel => exact ⟨i + 1, upd G s c, by omega, by go_num, by rw [← HUP.out]; exact HZ.out.set s _, HUL.out, HU0.out, HRE.out, HBL.out.setCell (Nat.le_refl _) _⟩
          case measure => simp [intOf]; omega
    · have ei : i = la := by omega
      have hd1 : decide ((i : Int) < (la : Int)) = false := by simp; omega
      rw [ei] at HV
      clear ei
      go_wp2
      go_ret
      exact ⟨F, rfl, WAt.of_blk HZ.out, HLT.out, HV.out, HBL.out⟩
theorem times_len (A B la lb ca cb L : Nat) (f g : Nat → Nat) (hL : la + lb + 1 = L) (hla : la ≤ 100) (hlb : lb ≤ 100) (hf : ∀ j, j < la → f j < 65536) (hg : ∀ j, j < lb → g j < 65536) (w : World) (ha : WAt w A la f) (hb : WAt w B lb g) :
    Calls Tryd.prog 36 #[.slice (some ⟨A, 0, none⟩) la ca, .slice (some ⟨B, 0, none⟩) lb cb] w fun e w' => ∃ F, e = .returned (.slice (some ⟨w.heap.size, 0, none⟩) L L) ∧ WAt w' w.heap.size L F ∧ (∀ j, F j < 65536) ∧
      val F L = val f la * val g lb ∧ Below w.heap.size w w' := by
  subst hL; exact times_any A B la lb ca cb f g hla hlb hf hg w ha hb
end Go.Proofs.YtibbnnechjmdmaaDoor
