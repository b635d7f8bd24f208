/- Package cipher's Rounds is the document's, with every key: the same round keys, or ErrKey; and the key stays: the statement CipherRounds. No condition. -/
import Derived.Test.YtilfjmpoiiepkaaSealC
import Derived.Test.YtilfjmpoiiepkaaCopyC
import Derived.Test.YtilfjmpoiiepkaaRefRounds
import Derived.Test.YtilfjmpoiiepkaaGives
namespace Go.Proofs.Ytilfjmpoiiepkaa.cipherRounds
open Go.ChangeShapes Go.WideShapes Go.ChangeAt Go.RowKit
set_option linter.unusedVariables false

theorem own : ownKnob Try.prog.godebug = none := by kernel_rfl
attribute [local irreducible] rkS markF

set_option maxRecDepth 100000 in
set_option maxHeartbeats 8000000 in
theorem walk (p : Option Addr) (n cap : Nat) (g : Nat → Nat) (hg : ∀ i, i < n → g i < 256) (hcap : n ≤ cap) (hmax : cap ≤ maxLen) (w : World) (hp : BytesAt w p n g) :
    Calls Try.prog 5 #[.slice p n cap] w fun e w' => e = .returned (.bool true) ∧ Below w.heap.size w w' := by
  by_cases hbig : 65536 < n
  · have d1 : decide (65536 < n) = true := by simp; omega
    have d2 : decide ((65536 : Int) < (n : Int)) = true := by simp; omega
    go_enter Try.func5, Try.ntmps5
    go_wp2
    go_ret
    exact ⟨rfl, Below.refl _ _⟩
  · have d1 : decide (65536 < n) = false := by simp; omega
    have d2 : decide ((65536 : Int) < (n : Int)) = false := by simp; omega
    have hn6 : n ≤ 65536 := by omega
    have C1 := Lib.hid (Copy_any p n cap g hn6 w hp)
    have HP := Lib.hid hp
    clear hp
    go_enter Try.func5, Try.ntmps5
    go_wp2_with fail
    refine C1.out.mono ?_
    rintro e w1 ⟨D, m, hm, rfl, hd, hb⟩
    have HD := Lib.hid hd
    have L := Lib.hid hb
    have P1 := Lib.hid (HP.out.below hb)
    have HM := Lib.hid hm
    clear hd hb hm C1 HP
    by_cases hok : n = 16 ∨ n = 32
    · obtain ⟨N, hN, hnN⟩ : ∃ N, (N = 4 ∨ N = 8) ∧ n = 4 * N := by
        rcases hok with h | h
        · exact ⟨4, .inl rfl, by omega⟩
        · exact ⟨8, .inr rfl, by omega⟩
      have hr : ∀ i, i < N + 7 → IsKey (rkS N g i) := fun i _ => rkS_key (fun i hi => hg i (by omega)) i
      have RO := Lib.hid (Rounds_ok (some ⟨D, 0, none⟩) n m N g hnN hN (by have := HM.out; omega) hg w1 (HD.out.low HM.out))
      have RR := Lib.hid (fun W h => refRounds_ok p n cap N g hnN hN hg W h)
      have hT : N + 7 ≤ 100 := by omega
      clear hnN hN hok
      generalize rkS N g = R at *
      generalize N + 7 = T at *
      go_wp2_with fail
      refine RO.out.mono ?_
      rintro e w2 ⟨D2, rfl, hk, hb⟩
      have P2 := Lib.hid (P1.out.below hb)
      have H2 := Lib.hid (HD.out.below hb)
      have L2 := Lib.hid (L.out.trans (hb.mono L.out.size))
      have K2 := Lib.hid hk
      clear P1 HD L RO hk hb
      go_wp2_with fail
      refine (RR.out w2 P2.out).mono ?_
      rintro e w3 ⟨q, c, rfl, hk, hb⟩
      have P3 := Lib.hid (P2.out.below hb)
      have H3 := Lib.hid (H2.out.below hb)
      have L3 := Lib.hid (L2.out.trans (hb.mono L2.out.size))
      have K3 := Lib.hid (K2.out.below hb)
      have Q3 := Lib.hid hk
      clear P2 H2 L2 K2 RR hk hb
      go_wp2_with fail
      refine (Kept_any p n cap m D g hn6 HM.out w3 P3.out H3.out).mono ?_
      rintro e w4 ⟨rfl, rfl⟩
      clear P3 H3
      go_wp2
      go_loopw [51] (fun v51 wr => ∃ i : Nat, i ≤ T ∧ v51 = .int .i64 i ∧ Below w3.heap.size w3 wr) (fun v51 _ => T - (intOf v51).toNat)
      case atStart => exact ⟨0, by omega, rfl, Below.refl _ _⟩
      case round =>
        obtain ⟨i, hi, rfl, hw⟩ := hrel
        have B := Lib.hid hw
        clear hw
        by_cases hlt : i < T
        · have t1 : decide ((i : Int) < (T : Int)) = true := by simp; omega
          rcases K3.out.below B.out with h0 | ⟨B1, o1, e1, hB1, hc1⟩
          · omega
          rcases Q3.out.below B.out with h0 | ⟨B2, o2, rfl, hB2, hc2⟩
          · omega
          simp only [Option.some.injEq, Addr.mk.injEq, and_true] at e1
          obtain ⟨rfl, rfl⟩ := e1
          have C1 := Lib.hid (fun (w' : World) (h : Below wr.heap.size wr w') => (hc1 i hlt).below h hB1)
          have C2 := Lib.hid (fun (w' : World) (h : Below wr.heap.size wr w') => (hc2 i hlt).below h hB2)
          have C0 := Lib.hid (fun (w' : World) (h : Below wr.heap.size wr w') => (show Cells w' D2 (i * 16) 16 (R i) by have x := C1.out w' h; simp only [Nat.zero_add] at x; exact x))
          clear hc1 hc2
          go_wp2
          refine wp_region_sched [(0, true), (1, true), (2, true), (3, true), (4, true), (5, true), (6, true), (7, true), (8, true)] (fun w' => Below wr.heap.size wr w') (by kernel_rfl) (by kernel_rfl) ((Below.refl _ _).drew) ?_
          iterate 9 (
            refine walk_float rfl rfl (fun K hK => ?_)
            first
              | (refine gives_move _ rfl ?_)
              | (refine gives_elem 31 23 16 _ _ rfl keysUnder1 keyInfo1 D2 0 T T i rfl rfl hlt ?_)
              | (refine gives_elem 31 23 16 _ _ rfl keysUnder1 keyInfo1 B2 o2 T c i rfl rfl hlt ?_)
              | (refine gives_part 23 _ rfl D2 (0 + i * 16) 16 (R i) rfl C1.out 16 _ keyUnder keyInfo1 ?_)
              | (refine gives_part 23 _ rfl D2 (i * 16) 16 (R i) rfl C0.out 16 _ keyUnder keyInfo1 ?_)
              | (refine gives_part 23 _ rfl B2 (o2 + i * 16) 16 (R i) rfl C2.out 16 _ keyUnder keyInfo1 ?_)
              | (refine gives_key_neq _ _ rfl _ _ rfl rfl rfl ?_)
            go_simp
            refine hK _ ?_
            clear hK K)
          refine walk_nil ?_
          go_wp2
          go_roundw
          case rel => exact ⟨i + 1, by omega, by go_num, B.out.drew⟩
          case measure => simp [intOf]; omega
        · have t2 : decide ((i : Int) < (T : Int)) = false := by simp; omega
          go_wp2
          go_ret
          exact ⟨rfl, L3.out.trans (B.out.mono L3.out.size)⟩
    · have h16 : n ≠ 16 := by omega
      have h32 : n ≠ 32 := by omega
      clear hok
      go_wp2_with fail
      refine (Rounds_bad (some ⟨D, 0, none⟩) n m h16 h32 w1).mono ?_
      rintro e w2 ⟨rfl, rfl⟩
      go_wp2_with fail
      refine (refRounds_bad p n cap h16 h32 w1).mono ?_
      rintro e w3 ⟨rfl, rfl⟩
      go_wp2_with fail
      refine (Kept_any p n cap m D g hn6 HM.out w1 P1.out HD.out).mono ?_
      rintro e w4 ⟨rfl, rfl⟩
      go_wp2_with fail
      refine (Rounds_bad none 0 0 (by omega) (by omega) w1).mono ?_
      rintro e w5 ⟨rfl, rfl⟩
      go_wp2_with (first
        | (go_at_call 21; refine (Is_key _).mono ?_; rintro e w' ⟨rfl, rfl⟩)
        | fail)
      go_ret
      exact ⟨rfl, L.out⟩

theorem laidOut : laidOutB Try.prog = true := by kernel_rfl
set_option maxRecDepth 100000 in
theorem lifted (os : Os) (started : os.Started) (H : Type) (enc : TypeId × Value → H) :
    ReturnsInHanded {} Try.checked os 5 .any (Rows.cipherRoundsSpec.pre6 enc Try.prog Try.f5 Rows.cipherRoundsRow.domain false) (Rows.cipherRoundsSpec.post enc Try.prog Try.f5 false true false false) := by
  refine returnsInHanded_of_change (C := Try.checked) own started (by kernel_rfl) Try.func5
    (ChangeSpec.witness6 (enc := enc) (C := Try.checked) false ⟨#[], #[.slice none 0 0], []⟩ 8 (by kernel_rfl) (by kernel_rfl) (by kernel_rfl) (by kernel_rfl)) ?_
  intro W base args ds gs before hval0 hW hcnd _
  have hval : ∀ (j : Nat) t v, Try.f5.params[j]? = some t → args[j]? = some v → Value.okWide Try.prog W .any base t v := hval0
  have hW' := hW
  obtain ⟨p, q, hA0, hV, rfl, hfz, hnd⟩ := hW
  have hA : DataW.TrodAll enc Try.prog W 0 (fun _ => true) true Try.f5.params.toList args.toList ds p := hA0
  rw [Try.params5] at hA hval
  obtain ⟨v0, vs0, d0, ds0, p0, q0, hargs, rfl, rfl, h0, r0⟩ := trodAll_cons hA
  obtain ⟨rfl, rfl, rfl⟩ := trodAll_nil r0
  obtain rfl : args = #[v0] := by cases args; simp_all
  obtain ⟨rfl, rfl⟩ := trodVars_none hV
  have k0 := h0
  have lt0 : ∀ x ∈ p0, x.block < W.heap.size := by obtain ⟨m, hm⟩ := k0; exact DataW.trod_lt m _ _ _ hm
  obtain ⟨q0, n0, c0, a0, rfl, w0, y0, l0, m0⟩ := open_byteslice (hval 0 29 v0 rfl rfl) h0
  clear hA0 hval0
  refine (walk q0 n0 c0 a0 w0 l0 m0 W y0).mono fun e W' ⟨he, bel⟩ => ?_
  subst he
  exact ⟨_, rfl, _, _, _, [], _, [], hW', trodAll_mk1 (shut_bool Try.underlying4 _), (trodAll_cons_mk (Below.trod laidOut (by kernel_rfl) (of_decide_eq_true (by kernel_rfl)) k0 bel lt0) trodAll_mk0), rfl, bel.frame _, fun h => by cases h⟩

theorem over : Rows.cipherRoundsRow.holds Try.pinned (OpenSpec.ofChange Rows.cipherRoundsSpec) :=
  OpenClaim.holds_of_wide 5 Try.f5 rfl rfl rfl rfl rfl rfl rfl ⟨rfl, rfl, rfl, rfl, rfl⟩ rfl rfl rfl rfl rfl (by kernel_rfl) Try.func5 (by kernel_rfl)
    (of_decide_eq_true (by kernel_rfl)) (by unfold Func.isWrapper; first | (rw [if_pos (by decide +kernel)]; kernel_rfl) | (rw [if_neg (by decide +kernel)]; exact ⟨rfl, rfl⟩))
    (fun os started H enc _ => lifted os started H enc)

theorem proved : Rows.CipherRoundsSaid := over
end Go.Proofs.Ytilfjmpoiiepkaa.cipherRounds
