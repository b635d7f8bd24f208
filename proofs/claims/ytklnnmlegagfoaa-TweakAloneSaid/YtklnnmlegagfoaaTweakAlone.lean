/- Of texts of whole blocks each block is hidden by package tweak by itself: the statement TweakAlone. No condition. -/
import Derived.Test.YtklnnmlegagfoaaAloneN
import Derived.Test.YtklnnmlegagfoaaKeyT
namespace Go.Proofs.Ytklnnmlegagfoaa.tweakAlone
open Go.ChangeShapes Go.WideShapes Go.ChangeAt Go.RowKit
set_option linter.unusedVariables false

theorem own : ownKnob Try.prog.godebug = none := by kernel_rfl
theorem gives_string_eql {o : Oper} {a : Act} {C : World → Prop} {K : Act → Prop} (x y : Operand) (ho : o.op = .binOp .eql 9 x y 9) (s u : ByteArray) (r : Bool) (hx : a.eval x = .string s) (hy : a.eval y = .string u) (hr : (s.toList == u.toList) = r) (hk : K (a.put o.dst (.bool r))) : ∃ v, Gives Try.prog C o a v ∧ K (a.put o.dst v) := by
  refine ⟨.bool r, fun w _ => ?_, hk⟩
  subst hr
  unfold execOp
  simp only [ho, hx, hy]
  simp [go_sem]
attribute [local irreducible] encK rkS twF numK wB txtW twk turnF

set_option maxRecDepth 100000 in
set_option maxHeartbeats 4000000 in
theorem apart_any (p : Option Addr) (n cap : Nat) (g : Nat → Nat) (z : Int) (q : Option Addr) (tn tcap : Nat) (G : Nat → Nat) (at' : Int) (by' : Int) (hg : ∀ i, i < n → g i < 256) (hcap : n ≤ cap) (hG : ∀ i, i < tn → G i < 256) (htcap : tn ≤ tcap) (hat : (Lit.int .i64 at').wf = true) (hby : (Lit.int .u8 by').wf = true) (w : World) (hp : BytesAt w p n g) (hq : BytesAt w q tn G) :
    Calls Try.prog 30 #[.slice p n cap, .int .i64 z, .slice q tn tcap, .int .i64 at', .int .u8 by'] w fun e w' => e = .returned (.bool true) ∧ Below w.heap.size w w' := by
  have AL := Lib.hid (alive_any w)
  by_cases hk : n ≠ 32 ∧ n ≠ 64
  · have t1 : ((n : Int) != 32) = true := by simp; omega
    have t2 : ((n : Int) != 64) = true := by simp; omega
    go_enter Try.func30, Try.ntmps30
    go_wp2_with (first
      | (go_at_call 16; refine AL.out.mono ?_; rintro e w1 ⟨rfl, hb1⟩))
    go_ret
    exact ⟨rfl, hb1⟩
  · obtain ⟨N, hN, hnN⟩ : ∃ N, (N = 4 ∨ N = 8) ∧ n = 8 * N := by
      rcases (show n = 32 ∨ n = 64 by omega) with h | h
      · exact ⟨4, .inl rfl, h⟩
      · exact ⟨8, .inr rfl, h⟩
    rcases (show (((n : Int) != 32) = false) ∨ (((n : Int) != 32) = true ∧ ((n : Int) != 64) = false) by simp; omega) with t1 | ⟨t1, t2⟩
    all_goals
      by_cases hs : tn < 16
      · have d1 : decide ((tn : Int) < 16) = true := by simp; omega
        have d1b : decide (tn < 16) = true := by simp; omega
        clear hN hnN hk
        go_enter Try.func30, Try.ntmps30
        go_wp2_with (first
          | (go_at_call 16; refine AL.out.mono ?_; rintro e w1 ⟨rfl, hb1⟩))
        go_ret
        exact ⟨rfl, hb1⟩
      · have d1 : decide ((tn : Int) < 16) = false := by simp; omega
        have d1b : decide (tn < 16) = false := by simp; omega
        by_cases hl : 2000 < tn
        · have d2 : decide ((2000 : Int) < (tn : Int)) = true := by simp; omega
          have d3 : decide (2000 < tn) = true := by simp; omega
          clear hN hnN hk
          go_enter Try.func30, Try.ntmps30
          go_wp2_with (first
            | (go_at_call 16; refine AL.out.mono ?_; rintro e w1 ⟨rfl, hb1⟩))
          go_ret
          exact ⟨rfl, hb1⟩
        · have d2 : decide ((2000 : Int) < (tn : Int)) = false := by simp; omega
          have d3 : decide (2000 < tn) = false := by simp; omega
          obtain ⟨u, hu⟩ : ∃ u : Nat, IntKind.u64.wrap at' = (u : Int) := by
            rw [IntKind.wrap_u64]; exact ⟨(at' % 18446744073709551616).toNat, by omega⟩
          obtain ⟨b, hb0, hb1⟩ : ∃ b : Nat, by' = (b : Int) ∧ b < 256 := by
            have := bounds_u8 hby; exact ⟨by'.toNat, by omega, by omega⟩
          subst hb0
          obtain ⟨m, hm⟩ : ∃ m, m = tn / 16 * 16 := ⟨_, rfl⟩
          obtain ⟨k, hk2⟩ : ∃ k, k = u % m := ⟨_, rfl⟩
          have hm0 : 16 ≤ m := by omega
          have hm1 : m ≤ tn := by omega
          have hm2 : m % 16 = 0 := by omega
          have hm3 : m ≤ 2000 := by omega
          have hkm : k < m := by rw [hk2]; exact Nat.mod_lt _ (by omega)
          have kt : IsKey (twF N (fun j => g (n / 2 + j)) z) := twF_key z (fun i hi => hg _ (by omega))
          have hr : ∀ i, i < N + 7 → IsKey (rkS N g i) := fun i _ => rkS_key (fun i hi => hg i (by omega)) i
          have hGm : ∀ i, i < m → G i < 256 := fun i hi => hG i (by omega)
          have hy : G k ^^^ (1 ||| b) < 256 := xor_lt (hGm k hkm) (Nat.or_lt_two_pow (n := 8) (by omega) (by omega))
          have hTG := turnF_lt (k := k) hGm hy
          have x1 : bits .or .u8 1 (b : Int) = ((1 ||| b : Nat) : Int) := bits_or_u8 (x := 1) (y := b) (by omega) hb1
          have x2 : bits .xor .u8 (G k : Int) ((1 ||| b : Nat) : Int) = ((G k ^^^ (1 ||| b) : Nat) : Int) := bits_xor_u8 (hGm k hkm) (Nat.or_lt_two_pow (n := 8) (by omega) (by omega))
          have AO := Lib.hid (alone_other (R := rkS N g) (T := N + 7) (t := twF N (fun j => g (n / 2 + j)) z) hr kt hGm hy hm2 hkm (flip_ne (G k) b))
          have AS := Lib.hid (fun (i : Nat) (hi : i < m / 16) (h : k / 16 ≠ i) => alone_same (R := rkS N g) (T := N + 7) (t := twF N (fun j => g (n / 2 + j)) z) (G := G) (k := k) (y := G k ^^^ (1 ||| b)) hm2 hi h)
          have XL := Lib.hid (txtW_lt (b := false) hr kt hGm hm0)
          have YL := Lib.hid (txtW_lt (b := false) hr kt hTG hm0)
          have H1 := Lib.hid (fun (B c : Nat) (W : World) (h1 : BytesAt W p n g) (h2 : BytesAt W (some ⟨B, 0, none⟩) m G) => Hide_ok p n cap N g z (some ⟨B, 0, none⟩) m c G hnN hN hcap hg hm0 (by omega) hGm W h1 h2)
          have H2 := Lib.hid (fun (B c : Nat) (W : World) (h1 : BytesAt W p n g) (h2 : BytesAt W (some ⟨B, 0, none⟩) m (turnF G k (G k ^^^ (1 ||| b)))) => Hide_ok p n cap N g z (some ⟨B, 0, none⟩) m c _ hnN hN hcap hg hm0 (by omega) hTG W h1 h2)
          have HP := Lib.hid hp
          have HQ := Lib.hid (hq.upto hm1)
          have HM := Lib.hid hm; have HM2 := Lib.hid hm2; have HK := Lib.hid hk2; have HT := Lib.hid htcap
          have q1 : (tn : Int) / 16 * 16 = (m : Int) := by omega
          have q2 : IntKind.u64.wrap (m : Int) = (m : Int) := by rw [IntKind.wrap_u64]; omega
          have q3 : (m : Int) ≤ (tcap : Int) := by omega
          have q3b : m ≤ tcap := by omega
          have q5 : ¬ m = 0 := by omega
          have q6 : IntKind.i64.wrap ((u : Int) % (m : Int)) = (k : Int) := by rw [IntWalk.i64_in _ (by omega)]; omega
          have q7 : (k : Int) < (m : Int) := by omega
          clear hN hnN hg hG hGm hy hTG kt hr hp hq hk hs hl hm hm2 hk2 hat hby htcap hcap
          generalize twF N (fun j => g (n / 2 + j)) z = t at *
          generalize rkS N g = R at *
          generalize N + 7 = T at *
          go_enter Try.func30, Try.ntmps30
          go_wp2_with (first
            | (go_at_call 16; refine AL.out.mono ?_; rintro e w1 ⟨rfl, hb1⟩
               have a1 : Below w1.heap.size w1 (w1.alloc (.cells (cellsOf .u8 []) 5)) := (Below.refl _ _).alloc (Nat.le_refl _) _
               have B1 := Lib.hid hb1; have P1 := Lib.hid (HP.out.below hb1); have Q1 := Lib.hid ((HQ.out.below hb1).below a1)
               clear hb1 HQ AL a1)
            | (refine wpList_upto rfl _ _ rfl q tn tcap m _ rfl rfl rfl q3b ?_)
            | (refine wpList_append_own_bytes rfl (.tmp 38) (.tmp 44) rfl w1.heap.size (w1.heap.size + 1) 0 _ G G q m tcap rfl rfl (OwnS.empty w1 G w1.heap.size (Nat.le_refl _)) Q1.out (fun j _ => by rw [Nat.zero_add]) (by omega) (by simp) ?_; intro v2 w2 hv2 hb2
               rw [Nat.zero_add] at hv2
               obtain ⟨B, c, rfl, hB1, hB2, hc1, hc2, hrow⟩ := OwnS.row hv2 q5
               have b2 : Below w1.heap.size w1 w2 := ((Below.refl _ w1).alloc (Nat.le_refl _) _).trans hb2
               have B2 := Lib.hid (B1.out.trans (b2.mono B1.out.size)); have P2 := Lib.hid (P1.out.below b2); have R2 := Lib.hid hrow
               have L2 := Lib.hid (Nat.le_trans B1.out.size hB1)
               clear hv2 hb2 b2 hrow hB1 hB2 hc1 hc2 B1 P1 Q1)
            | (go_at_call 24; refine (H1.out B c w2 P2.out R2.out.bytesAt).mono ?_; rintro e w3 ⟨D, rfl, hr, hD, hb⟩
               have B3 := Lib.hid (B2.out.trans (hb.mono B2.out.size)); have P3 := Lib.hid (P2.out.below hb)
               have r3 := R2.out.below hb R2.out.lt
               have cB := r3.cells k hkm
               rw [Nat.zero_add] at cB
               have fB := r3.free k
               have R3 := Lib.hid (r3.turn k (G k ^^^ (1 ||| b)))
               have L3 := Lib.hid (show B ≠ D by have := R2.out.lt; omega)
               have X3 := Lib.hid (hr.other (a := ⟨B, k, none⟩) L3.out (.int .u8 ((G k ^^^ (1 ||| b) : Nat) : Int)))
               have S3 := Lib.hid (B3.out.setCell (p := ⟨B, k, none⟩) L2.out (.int .u8 ((G k ^^^ (1 ||| b) : Nat) : Int)))
               have P4 := Lib.hid (HP.out.below S3.out)
               clear hr hD hb r3 P2 P3 B3 R2 B2 H1)
            | (go_at_call 24
               change Calls _ _ _ (w3.setCell ⟨B, k, none⟩ (.int .u8 ((G k ^^^ (1 ||| b) : Nat) : Int))) _
               generalize w3.setCell ⟨B, k, none⟩ (.int .u8 ((G k ^^^ (1 ||| b) : Nat) : Int)) = w4 at *
               refine (H2.out B c w4 P4.out R3.out.bytesAt).mono ?_; rintro e w5 ⟨E, rfl, hr, hE, hb⟩
               have B5 := Lib.hid (S3.out.trans (hb.mono S3.out.size)); have X5 := Lib.hid (X3.out.below hb X3.out.lt); have Y5 := Lib.hid hr
               clear hr hE hb X3 S3 P4 R3 H2 cB fB HP))
          have hED := Lib.hid (show m % 16 = 0 from HM2.out)
          go_loopw [16, 17] (fun v16 v17 wr => ∃ x i : Nat, i = 16 * x ∧ i ≤ m ∧ v16 = .int .i64 i ∧ Below w5.heap.size w5 wr) (fun v16 _ _ => m - (intOf v16).toNat)
          case atStart => exact ⟨0, 0, rfl, by omega, rfl, Below.refl _ _⟩
          case round =>
            obtain ⟨x, i, hix, him, rfl, hb⟩ := hrel
            have hmd := hED.out
            by_cases hlt : i < m
            · have e1 : (i : Int) < (m : Int) := by omega
              have hx16 : x < m / 16 := by omega
              have hi16 : i + 16 ≤ m := by omega
              have f2 : (i : Int) / 16 = (x : Int) := by omega
              have E17 := Lib.hid (show IntKind.i64.wrap ((i : Int) + 16) = ((i + 16 : Nat) : Int) by rw [IntWalk.i64_in _ (by omega)]; omega)
              have hX : ∀ W, Below w5.heap.size w5 W → BytesAt W (some ⟨D, i, none⟩) 16 (fun j => txtW false R T t m G (16 * x + j)) := fun W hW => .inr ⟨D, i, rfl, Nat.lt_of_lt_of_le X5.out.lt hW.size, fun j hj => by
                have := (X5.out.below hW X5.out.lt).cells (o := i) (n := 16) hi16 j hj
                rw [hix] at this ⊢; exact this⟩
              have hY : ∀ W, Below w5.heap.size w5 W → BytesAt W (some ⟨E, i, none⟩) 16 (fun j => txtW false R T t m (turnF G k (G k ^^^ (1 ||| b))) (16 * x + j)) := fun W hW => .inr ⟨E, i, rfl, Nat.lt_of_lt_of_le Y5.out.lt hW.size, fun j hj => by
                have := (Y5.out.below hW Y5.out.lt).cells (o := i) (n := 16) hi16 j hj
                rw [hix] at this ⊢; exact this⟩
              have hS := str_eq (n := 16) (m := 16) (f := fun j => txtW false R T t m G (16 * x + j)) (g := fun j => txtW false R T t m (turnF G k (G k ^^^ (1 ||| b))) (16 * x + j)) (fun j hj => XL.out _ (by omega)) (fun j hj => YL.out _ (by omega))
              have HXX := Lib.hid hX; have HYY := Lib.hid hY; have HI16 := Lib.hid hi16
              clear hX hY
              by_cases hkx : k / 16 = x
              · have hne : decide (mk 16 (fun j => txtW false R T t m G (16 * x + j)) = mk 16 (fun j => txtW false R T t m (turnF G k (G k ^^^ (1 ||| b))) (16 * x + j))) = false := decide_eq_false (fun h => AO.out (by rw [hkx]; exact h.symm))
                rw [hne] at hS
                have f1 : (k : Int) / 16 = (x : Int) := by omega
                have HS := Lib.hid hS; have HB := Lib.hid hb; have HIX := Lib.hid hix
                clear hS hne hkx hix hb hi16 hx16 him hmd
                go_wp2
                refine wp_region_tree (.float 0 (.float 1 (.float 2 (.float 3 (.float 4 (.float 5 (.float 6 (.float 7 (.float 8 (.float 9 (.float 10 (.float 11 (.float 12 (.float 13 .over)))))))))))))) (fun W => Below w5.heap.size w5 W) (by kernel_rfl) (by kernel_rfl) HB.out.drew ?_
                iterate 14 (
                  refine tree_float rfl rfl (fun K hK => ?_)
                  first
                    | (refine gives_move _ rfl ?_)
                    | (refine gives_assign _ rfl ?_)
                    | (refine gives_int_add _ _ rfl (i : Int) 16 ((i + 16 : Nat) : Int) rfl rfl E17.out ?_)
                    | (refine gives_range _ _ _ rfl D 0 m m i _ _ rfl rfl rfl rfl rfl HI16.out (Nat.le_refl _) ?_)
                    | (refine gives_range _ _ _ rfl E 0 m m i _ _ rfl rfl rfl rfl rfl HI16.out (Nat.le_refl _) ?_)
                    | (refine gives_string _ rfl (some ⟨D, i, none⟩) 16 (m - i) (fun j => txtW false R T t m G (16 * x + j)) rfl HXX.out ?_)
                    | (refine gives_string _ rfl (some ⟨E, i, none⟩) 16 (m - i) (fun j => txtW false R T t m (turnF G k (G k ^^^ (1 ||| b))) (16 * x + j)) rfl HYY.out ?_)
                    | (refine gives_string_eql _ _ rfl (strOfNums (mk 16 (fun j => txtW false R T t m G (16 * x + j)))) (strOfNums (mk 16 (fun j => txtW false R T t m (turnF G k (G k ^^^ (1 ||| b))) (16 * x + j)))) false rfl rfl HS.out ?_)
                  go_simp
                  refine hK _ ?_
                  clear hK K)
                refine tree_over ?_
                go_wp2
                go_roundw
                case rel => exact ⟨x + 1, i + 16, by have := HIX.out; omega, by have := HI16.out; omega, by go_num, HB.out.drew⟩
                case measure => have := HI16.out; simp [intOf]; omega
              · have heq : decide (mk 16 (fun j => txtW false R T t m G (16 * x + j)) = mk 16 (fun j => txtW false R T t m (turnF G k (G k ^^^ (1 ||| b))) (16 * x + j))) = true := decide_eq_true (AS.out x hx16 hkx).symm
                rw [heq] at hS
                obtain ⟨kd, hkd⟩ : ∃ kd, kd = k / 16 := ⟨_, rfl⟩
                have f1 : (k : Int) / 16 = (kd : Int) := by omega
                have f3 : ((kd : Int) != (x : Int)) = true := by simp; omega
                have HS := Lib.hid hS; have HB := Lib.hid hb; have HIX := Lib.hid hix
                clear hS heq hkx hkd hix hb hi16 hx16 him hmd
                go_wp2
                refine wp_region_tree (.float 0 (.float 1 (.float 2 (.float 3 (.float 4 (.float 5 (.float 6 (.float 7 (.float 8 (.float 9 (.float 10 (.float 11 (.float 12 (.float 13 .over)))))))))))))) (fun W => Below w5.heap.size w5 W) (by kernel_rfl) (by kernel_rfl) HB.out.drew ?_
                iterate 14 (
                  refine tree_float rfl rfl (fun K hK => ?_)
                  first
                    | (refine gives_move _ rfl ?_)
                    | (refine gives_assign _ rfl ?_)
                    | (refine gives_int_add _ _ rfl (i : Int) 16 ((i + 16 : Nat) : Int) rfl rfl E17.out ?_)
                    | (refine gives_range _ _ _ rfl D 0 m m i _ _ rfl rfl rfl rfl rfl HI16.out (Nat.le_refl _) ?_)
                    | (refine gives_range _ _ _ rfl E 0 m m i _ _ rfl rfl rfl rfl rfl HI16.out (Nat.le_refl _) ?_)
                    | (refine gives_string _ rfl (some ⟨D, i, none⟩) 16 (m - i) (fun j => txtW false R T t m G (16 * x + j)) rfl HXX.out ?_)
                    | (refine gives_string _ rfl (some ⟨E, i, none⟩) 16 (m - i) (fun j => txtW false R T t m (turnF G k (G k ^^^ (1 ||| b))) (16 * x + j)) rfl HYY.out ?_)
                    | (refine gives_string_eql _ _ rfl (strOfNums (mk 16 (fun j => txtW false R T t m G (16 * x + j)))) (strOfNums (mk 16 (fun j => txtW false R T t m (turnF G k (G k ^^^ (1 ||| b))) (16 * x + j)))) true rfl rfl HS.out ?_)
                  go_simp
                  refine hK _ ?_
                  clear hK K)
                refine tree_over ?_
                go_wp2
                go_roundw
                case rel => exact ⟨x + 1, i + 16, by have := HIX.out; omega, by have := HI16.out; omega, by go_num, HB.out.drew⟩
                case measure => have := HI16.out; simp [intOf]; omega
            · have e1 : ¬ (i : Int) < (m : Int) := by omega
              have HB := Lib.hid hb
              clear hb him hix hlt
              go_wp2
              go_ret
              exact ⟨rfl, B5.out.trans (HB.out.mono B5.out.size)⟩

set_option maxRecDepth 100000 in
set_option maxHeartbeats 2000000 in
theorem walk (p : Option Addr) (n cap : Nat) (g : Nat → Nat) (z : Int) (q : Option Addr) (tn tcap : Nat) (G : Nat → Nat) (z1 z2 : Int) (h1 : (∀ i, i < n → g i < 256) ∧ n ≤ cap ∧ True) (h2 : (∀ i, i < tn → G i < 256) ∧ tn ≤ tcap ∧ True) (hat : (Lit.int .i64 z1).wf = true) (hby : (Lit.int .u8 z2).wf = true) (w : World) (hp : BytesAt w p n g) (hq : BytesAt w q tn G) :
    Calls Try.prog 9 #[.agg #[.slice p n cap, .int .i64 z, .slice q tn tcap, .int .i64 z1, .int .u8 z2]] w fun e w' => e = .returned (.bool true) ∧ Below w.heap.size w w' := by
  have a0 : Below w.heap.size w (w.alloc (.cells #[.slice p n cap, .int .i64 z, .slice q tn tcap, .int .i64 z1, .int .u8 z2] 59)) := (Below.refl _ w).alloc (Nat.le_refl _) _
  have PA := Lib.hid (apart_any p n cap g z q tn tcap G z1 z2 h1.1 h1.2.1 h2.1 h2.2.1 hat hby _ (hp.below a0) (hq.below a0))
  have HA := Lib.hid a0
  clear a0 h1 h2 hp hq
  go_enter Try.func9, Try.ntmps9
  go_wp2_with (first
    | (go_at_call 30; refine PA.out.mono ?_; rintro e w1 ⟨rfl, hb1⟩))
  go_ret
  exact ⟨rfl, HA.out.trans (hb1.mono HA.out.size)⟩

theorem laidOut : laidOutB Try.prog = true := by kernel_rfl
set_option maxRecDepth 100000 in
theorem lifted (os : Os) (started : os.Started) (H : Type) (enc : TypeId × Value → H) :
    ReturnsInHanded {} Try.checked os 9 .any (Rows.tweakAloneSpec.pre6 enc Try.prog Try.f9 Rows.tweakAloneRow.domain false) (Rows.tweakAloneSpec.post enc Try.prog Try.f9 false true false false) := by
  refine returnsInHanded_of_change (C := Try.checked) own started (by kernel_rfl) Try.func9
    (ChangeSpec.witness6 (enc := enc) (C := Try.checked) false ⟨#[], #[.agg #[.slice none 0 0, .int .i64 0, .slice none 0 0, .int .i64 0, .int .u8 0]], []⟩ 8 (by kernel_rfl) (by kernel_rfl) (by kernel_rfl) (by kernel_rfl)) ?_
  intro W base args ds gs before hval0 hW hcnd _
  have hval : ∀ (j : Nat) t v, Try.f9.params[j]? = some t → args[j]? = some v → Value.okWide Try.prog W .any base t v := hval0
  have hW' := hW
  obtain ⟨p, q, hA0, hV, rfl, hfz, hnd⟩ := hW
  have hA : DataW.TrodAll enc Try.prog W 0 (fun _ => true) true Try.f9.params.toList args.toList ds p := hA0
  rw [Try.params9] at hA hval
  obtain ⟨v0, vs0, d0, ds0, p0, q0, hargs, rfl, rfl, h0, r0⟩ := trodAll_cons hA
  obtain ⟨rfl, rfl, rfl⟩ := trodAll_nil r0
  obtain rfl : args = #[v0] := by cases args; simp_all
  obtain ⟨rfl, rfl⟩ := trodVars_none hV
  have k0 := h0
  have lt0 : ∀ x ∈ p0, x.block < W.heap.size := by obtain ⟨m, hm⟩ := k0; exact DataW.trod_lt m _ _ _ hm
  obtain ⟨q0, n0, c0, g0, z0, q1, n1, c1, g1, z1, z2, rfl, s0, s1, _, hat, hby⟩ := open_turned (hval 0 59 v0 rfl rfl) h0
  clear hA0 hval0
  refine (walk q0 n0 c0 g0 z0 q1 n1 c1 g1 z1 z2 ⟨s0.1, s0.2.1, trivial⟩ ⟨s1.1, s1.2.1, trivial⟩ hat hby W s0.2.2 s1.2.2).mono fun e W' ⟨he, bel⟩ => ?_
  subst he
  exact ⟨_, rfl, _, _, _, [], _, [], hW', trodAll_mk1 (shut_bool Try.underlying4 _), (trodAll_cons_mk (Below.trod laidOut (by kernel_rfl) (of_decide_eq_true (by kernel_rfl)) k0 bel lt0) trodAll_mk0), rfl, bel.frame _, fun h => by cases h⟩

theorem over : Rows.tweakAloneRow.holds Try.pinned (OpenSpec.ofChange Rows.tweakAloneSpec) :=
  OpenClaim.holds_of_wide 9 Try.f9 rfl rfl rfl rfl rfl rfl rfl ⟨rfl, rfl, rfl, rfl, rfl⟩ rfl rfl rfl rfl rfl (by kernel_rfl) Try.func9 (by kernel_rfl)
    (of_decide_eq_true (by kernel_rfl)) (by unfold Func.isWrapper; first | (rw [if_pos (by decide +kernel)]; kernel_rfl) | (rw [if_neg (by decide +kernel)]; exact ⟨rfl, rfl⟩))
    (fun os started H enc _ => lifted os started H enc)

theorem proved : Rows.TweakAloneSaid := over
end Go.Proofs.Ytklnnmlegagfoaa.tweakAlone
