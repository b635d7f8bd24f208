/- Package redo's Encode answers what the document's does, of any key, count and rows, and leaves what it was handed as it was: the statement RedoEncodes, tied to the program's text. No condition. -/
import Derived.Test.YtdeojhcfbiekmaaDoorRdLaw
namespace Go.Proofs.YtdeojhcfbiekmaaDoor.redoEncodes
open Go.ChangeShapes Go.WideShapes Go.ChangeAt Go.RowKit
set_option linter.unusedVariables false

theorem own : ownKnob Tryd.prog.godebug = none := by kernel_rfl
attribute [local irreducible] putC natF putsL encL goodE tauK markF secC
set_option maxRecDepth 100000 in
set_option maxHeartbeats 4000000 in
theorem walk (kp : Option Addr) (n kc : Nat) (g : Nat → Nat) (count : Int) (q : Option Addr) (l0 : List RowOf) (cap : Nat) (hg : ∀ i, i < n → g i < 256) (hkc : n ≤ kc) (hmax : n ≤ 140737488351232) (hwc : (Lit.int .i64 count).wf = true) (w : World) (hT : TabAt w) (hk : BytesAt w kp n g) (hp : RowsIn w q l0) :
    Calls Tryd.prog 3 #[.slice kp n kc, .int .i64 count, .slice q l0.length cap] w fun e w' => e = .returned (.bool true) ∧ Below w.heap.size w w' := by
  have HB0 := Lib.hid (Below.refl w.heap.size w)
  by_cases hlg : n ≤ 1000 ∧ l0.length ≤ 70
  · obtain ⟨hn, hl⟩ := hlg
    have LG := Lib.hid (fun W => large_no kp n kc q l0.length cap hn hl W)
    have OC := Lib.hid (fun W hT => one_any none 0 0 (fun _ => 0) (by decide) (Nat.le_refl _) (fun i hi => absurd hi (Nat.not_lt_zero _)) W hT (.inl rfl))
    have HOK := Lib.hid (putsL_ok hp)
    have HAT := Lib.hid (putsL_ats hp)
    have HNP := Lib.hid (show (putsL l0).length ≤ 70 by rw [putsL_len]; exact hl)
    have HN := Lib.hid (show l0.length ≤ 1000 by omega)
    have HKN := Lib.hid hn
    have EC := Lib.hid (fun (D : Nat) (q' : Option Addr) (c' : Nat) (W : World) hT hk hp => Encode_any (some ⟨D, 0, none⟩) n (n + 2) g (by omega) (by omega) hg count q' c' (putsL l0) (by have := HNP.out; omega) HAT.out HOK.out W hT hk hp)
    have RC := Lib.hid (fun (q' : Option Addr) (c' : Nat) (W : World) hk hp => refEncode_any kp n kc g (by omega) hg count q' c' (putsL l0) (by have := HNP.out; omega) HOK.out W hk hp)
    have HES := Lib.hid (encL_sec (τ := tauK n g) (tauK_bytes n g) (count := count) HOK.out)
    have HEL := Lib.hid (show (encL (tauK n g) count (putsL l0)).length ≤ 1000000 by rw [encL_len]; have := HNP.out; omega)
    have HKA := Lib.hid hk
    have HTA := Lib.hid hT
    have HPA := Lib.hid hp
    clear hk hT hp hg hn hl hkc hmax hwc
    by_cases hgd : goodE count (putsL l0)
    · have HGD := Lib.hid hgd
      clear hgd
      go_enter Tryd.func3, Tryd.ntmps3
      go_wp2_with (first
        | (go_at_call 8; refine (LG.out _).mono ?_; rintro e w1 ⟨rfl, rfl⟩; clear LG)
        | (go_at_call 9; refine (OC.out w HTA.out).mono ?_; rintro e w1 ⟨⟨B1, c1, rfl, hc⟩, hb⟩
           have B1 := Lib.hid hb
           have K1 := Lib.hid (HKA.out.below hb)
           have T1 := Lib.hid (HTA.out.on hb)
           have P1 := Lib.hid (HPA.out.below hb)
           clear hb OC HKA HTA HPA)
        | (refine wpList_sec_elem rfl _ _ rfl _ 0 2 _ 0 rfl rfl (by decide) ?_)
        | (go_at_call 10; refine (puts_any q cap l0 HN.out w1 P1.out).mono ?_; rintro e w2 ⟨v, rfl, ho, hb⟩
           obtain ⟨lp, lc, rfl, _, _, hr, _⟩ := ho.rows elemPut.len
           have L2 := Lib.hid hr
           have B2 := Lib.hid (B1.out.trans (hb.mono B1.out.size))
           have K2 := Lib.hid (K1.out.below hb)
           have T2 := Lib.hid (T1.out.on hb)
           clear ho hb hr B1 K1 T1 P1 hc)
        | (go_at_call 11; refine (Copy_any kp n kc g (by have := HKN.out; omega) w2 K2.out).mono ?_; rintro e w3 ⟨D, m, rfl, rfl, hd, hb⟩
           have D3 := Lib.hid hd
           have B3 := Lib.hid (B2.out.trans (hb.mono B2.out.size))
           have K3 := Lib.hid (K2.out.below hb)
           have T3 := Lib.hid (T2.out.on hb)
           have L3 := Lib.hid (L2.out.below hb)
           clear hd hb B2 K2 T2 L2)
        | (refine wpList_list0 elemPut rfl rfl ?_
           have X4 := Lib.hid ((Below.refl w3.heap.size w3).alloc (Nat.le_refl _) (.cells #[] 57))
           have O4 := Lib.hid (OwnL.empty 57 129 putC w3 w3.heap.size (Nat.le_refl _)))
        | (refine wpList_append_list elemPut rfl _ _ rfl w3.heap.size (w3.heap.size + 1) _ [] (putsL l0) lp _ lc rfl rfl rfl O4.out (L3.out.below X4.out) (by have := HNP.out; simp; omega) (by decide) X4.out.size ?_
           intro v5 w5 ho5 hg5 hr5
           rw [List.nil_append] at ho5
           obtain ⟨cp, cc, rfl, _, _, hr, _⟩ := ho5.rows elemPut.len
           have X5 := Lib.hid (X4.out.trans (below_own1 hg5 (O4.out.block) X4.out.size))
           have C5 := Lib.hid hr
           have L5 := Lib.hid (L3.out.below X5.out)
           have D5 := Lib.hid (D3.out.below X5.out)
           have K5 := Lib.hid (K3.out.below X5.out)
           have T5 := Lib.hid (T3.out.on X5.out)
           have B5 := Lib.hid (B3.out.trans (X5.out.mono B3.out.size))
           clear ho5 hg5 hr5 hr X4 O4 X5 L3 D3 K3 T3 B3)
        | (go_at_call 9; refine (EC.out D cp cc w5 T5.out (D5.out.low rfl) C5.out).mono ?_; rintro e w6 ⟨hs, hb⟩
           unfold EncSays at hs
           obtain ⟨_, XB, xc, rfl, _, _, hr⟩ := hs.resolve_right (fun h => h.1 HGD.out)
           have X6 := Lib.hid hr
           have L6 := Lib.hid (L5.out.below hb)
           have C6 := Lib.hid (C5.out.below hb)
           have D6 := Lib.hid (D5.out.below hb)
           have K6 := Lib.hid (K5.out.below hb)
           have B6 := Lib.hid (B5.out.trans (hb.mono B5.out.size))
           clear hs hb hr L5 C5 D5 K5 T5 B5 EC)
        | (go_at_call 12; refine (RC.out lp lc w6 K6.out L6.out).mono ?_; rintro e w7 ⟨hs, hb⟩
           unfold RefEnc at hs
           obtain ⟨_, yp, yc, rfl, hr⟩ := hs.resolve_right (fun h => h.1 HGD.out)
           have Y7 := Lib.hid hr
           have X7 := Lib.hid (X6.out.below hb)
           have L7 := Lib.hid (L6.out.below hb)
           have C7 := Lib.hid (C6.out.below hb)
           have D7 := Lib.hid (D6.out.below hb)
           have K7 := Lib.hid (K6.out.below hb)
           have B7 := Lib.hid (B6.out.trans (hb.mono B6.out.size))
           clear hs hb hr X6 L6 C6 D6 K6 B6 RC)
        | (go_at_call 13; refine (cells_any (some ⟨XB, 0, none⟩) yp xc yc (encL (tauK n g) count (putsL l0)) (encL (tauK n g) count (putsL l0)) HEL.out HES.out HES.out w7 X7.out Y7.out).mono ?_; rintro e w8 ⟨hs, hb⟩
           have he := hs.is rfl
           subst he
           have L8 := Lib.hid (L7.out.below hb)
           have C8 := Lib.hid (C7.out.below hb)
           have D8 := Lib.hid (D7.out.below hb)
           have K8 := Lib.hid (K7.out.below hb)
           have B8 := Lib.hid (B7.out.trans (hb.mono B7.out.size))
           clear hs hb L7 C7 D7 K7 B7)
        | (go_at_call 15; refine (same_any cp lp cc lc (putsL l0) (putsL l0) (by have := HNP.out; omega) HOK.out HOK.out w8 C8.out L8.out).mono ?_; rintro e w9 ⟨hs, hb⟩
           have he := hs.is rfl
           subst he
           have D9 := Lib.hid (D8.out.below hb)
           have K9 := Lib.hid (K8.out.below hb)
           have B9 := Lib.hid (B8.out.trans (hb.mono B8.out.size))
           clear hs hb C8 L8 D8 K8 B8)
        | (go_at_call 16; refine (Kept_any kp n kc (n + 2) D g (by have := HKN.out; omega) rfl w9 K9.out D9.out).mono ?_; rintro e w10 ⟨rfl, rfl⟩))
      go_ret
      exact ⟨rfl, B9.out⟩
    · have HGD := Lib.hid hgd
      clear hgd
      go_enter Tryd.func3, Tryd.ntmps3
      go_wp2_with (first
        | (go_at_call 8; refine (LG.out _).mono ?_; rintro e w1 ⟨rfl, rfl⟩; clear LG)
        | (go_at_call 9; refine (OC.out w HTA.out).mono ?_; rintro e w1 ⟨⟨B1, c1, rfl, hc⟩, hb⟩
           have B1 := Lib.hid hb
           have K1 := Lib.hid (HKA.out.below hb)
           have T1 := Lib.hid (HTA.out.on hb)
           have P1 := Lib.hid (HPA.out.below hb)
           clear hb OC HKA HTA HPA)
        | (refine wpList_sec_elem rfl _ _ rfl _ 0 2 _ 0 rfl rfl (by decide) ?_)
        | (go_at_call 10; refine (puts_any q cap l0 HN.out w1 P1.out).mono ?_; rintro e w2 ⟨v, rfl, ho, hb⟩
           obtain ⟨lp, lc, rfl, _, _, hr, _⟩ := ho.rows elemPut.len
           have L2 := Lib.hid hr
           have B2 := Lib.hid (B1.out.trans (hb.mono B1.out.size))
           have K2 := Lib.hid (K1.out.below hb)
           have T2 := Lib.hid (T1.out.on hb)
           clear ho hb hr B1 K1 T1 P1 hc)
        | (go_at_call 11; refine (Copy_any kp n kc g (by have := HKN.out; omega) w2 K2.out).mono ?_; rintro e w3 ⟨D, m, rfl, rfl, hd, hb⟩
           have D3 := Lib.hid hd
           have B3 := Lib.hid (B2.out.trans (hb.mono B2.out.size))
           have K3 := Lib.hid (K2.out.below hb)
           have T3 := Lib.hid (T2.out.on hb)
           have L3 := Lib.hid (L2.out.below hb)
           clear hd hb B2 K2 T2 L2)
        | (refine wpList_list0 elemPut rfl rfl ?_
           have X4 := Lib.hid ((Below.refl w3.heap.size w3).alloc (Nat.le_refl _) (.cells #[] 57))
           have O4 := Lib.hid (OwnL.empty 57 129 putC w3 w3.heap.size (Nat.le_refl _)))
        | (refine wpList_append_list elemPut rfl _ _ rfl w3.heap.size (w3.heap.size + 1) _ [] (putsL l0) lp _ lc rfl rfl rfl O4.out (L3.out.below X4.out) (by have := HNP.out; simp; omega) (by decide) X4.out.size ?_
           intro v5 w5 ho5 hg5 hr5
           rw [List.nil_append] at ho5
           obtain ⟨cp, cc, rfl, _, _, hr, _⟩ := ho5.rows elemPut.len
           have X5 := Lib.hid (X4.out.trans (below_own1 hg5 (O4.out.block) X4.out.size))
           have C5 := Lib.hid hr
           have L5 := Lib.hid (L3.out.below X5.out)
           have D5 := Lib.hid (D3.out.below X5.out)
           have K5 := Lib.hid (K3.out.below X5.out)
           have T5 := Lib.hid (T3.out.on X5.out)
           have B5 := Lib.hid (B3.out.trans (X5.out.mono B3.out.size))
           clear ho5 hg5 hr5 hr X4 O4 X5 L3 D3 K3 T3 B3)
        | (go_at_call 9; refine (EC.out D cp cc w5 T5.out (D5.out.low rfl) C5.out).mono ?_; rintro e w6 ⟨hs, hb⟩
           unfold EncSays at hs
           obtain ⟨_, rfl⟩ := hs.resolve_left (fun h => HGD.out h.1)
           have L6 := Lib.hid (L5.out.below hb)
           have C6 := Lib.hid (C5.out.below hb)
           have D6 := Lib.hid (D5.out.below hb)
           have K6 := Lib.hid (K5.out.below hb)
           have B6 := Lib.hid (B5.out.trans (hb.mono B5.out.size))
           clear hs hb L5 C5 D5 K5 T5 B5 EC)
        | (go_at_call 12; refine (RC.out lp lc w6 K6.out L6.out).mono ?_; rintro e w7 ⟨hs, hb⟩
           unfold RefEnc at hs
           obtain ⟨_, rfl⟩ := hs.resolve_left (fun h => HGD.out h.1)
           have L7 := Lib.hid (L6.out.below hb)
           have C7 := Lib.hid (C6.out.below hb)
           have D7 := Lib.hid (D6.out.below hb)
           have K7 := Lib.hid (K6.out.below hb)
           have B7 := Lib.hid (B6.out.trans (hb.mono B6.out.size))
           clear hs hb L6 C6 D6 K6 B6 RC)
        | (go_at_call 13; refine (cells_any none none 0 0 [] [] (by decide) (fun s hs => by simp at hs) (fun s hs => by simp at hs) w7 (.inl rfl) (.inl rfl)).mono ?_; rintro e w8 ⟨hs, hb⟩
           have he := hs.is rfl
           subst he
           have L8 := Lib.hid (L7.out.below hb)
           have C8 := Lib.hid (C7.out.below hb)
           have D8 := Lib.hid (D7.out.below hb)
           have K8 := Lib.hid (K7.out.below hb)
           have B8 := Lib.hid (B7.out.trans (hb.mono B7.out.size))
           clear hs hb L7 C7 D7 K7 B7)
        | (go_at_call 14; refine (Is_err 2 rfl w8).mono ?_; rintro e w9 ⟨rfl, rfl⟩)
        | (go_at_call 15; refine (same_any cp lp cc lc (putsL l0) (putsL l0) (by have := HNP.out; omega) HOK.out HOK.out w8 C8.out L8.out).mono ?_; rintro e w9 ⟨hs, hb⟩
           have he := hs.is rfl
           subst he
           have D9 := Lib.hid (D8.out.below hb)
           have K9 := Lib.hid (K8.out.below hb)
           have B9 := Lib.hid (B8.out.trans (hb.mono B8.out.size))
           clear hs hb C8 L8 D8 K8 B8)
        | (go_at_call 16; refine (Kept_any kp n kc (n + 2) D g (by have := HKN.out; omega) rfl w9 K9.out D9.out).mono ?_; rintro e w10 ⟨rfl, rfl⟩))
      go_ret
      exact ⟨rfl, B9.out⟩
  · have LG := Lib.hid (fun W => large_yes kp n kc q l0.length cap hlg W)
    clear hk hT hp hg hlg
    go_enter Tryd.func3, Tryd.ntmps3
    go_wp2_with (first
      | (go_at_call 8; refine (LG.out _).mono ?_; rintro e w1 ⟨rfl, rfl⟩; clear LG))
    go_ret
    exact ⟨rfl, HB0.out⟩

theorem laidOut : laidOutB Tryd.prog = true := by kernel_rfl
set_option maxRecDepth 100000 in
theorem lifted (os : Os) (started : os.Started) (H : Type) (enc : TypeId × Value → H) :
    ReturnsInHanded {} Tryd.checked os 3 .any (fun w args => (Rows.redoEncodesSpec.pre enc Tryd.prog Tryd.f3 Rows.redoEncodesRow.domain false w args ∧ laidMetH Tryd.prog Rows.redoEncodesRow.laid w) ∧ sizedMet enc Tryd.prog Tryd.f3 (OpenSpec.ofChange Rows.redoEncodesSpec) false w args) (Rows.redoEncodesSpec.post enc Tryd.prog Tryd.f3 false true false false) := by
  refine returnsInHanded_of_change_and (C := Tryd.checked) (X := fun w _ => laidMetH Tryd.prog Rows.redoEncodesRow.laid w) (fun _ _ _ hh h => h.of_heap hh) own started (by kernel_rfl) Tryd.func3
    (ChangeSpec.witness_shaped (enc := enc) (C := Tryd.checked) (os := os) (X := fun w _ => laidMetH Tryd.prog Rows.redoEncodesRow.laid w) false (World.laidAll Tryd.prog os Rows.redoEncodesRow.laid) #[.slice none 0 0, .int .i64 0, .slice none 0 0] 8 (World.laidAll_os _ _ _)
      (World.shaped_of_ZipB (by kernel_rfl) (by kernel_rfl)) (by kernel_rfl) (by kernel_rfl) (by kernel_rfl)
      (by rw [MakeChecks.laidMetH_plain _ _ _ (by kernel_rfl)]; exact laidMet_laidAll _ (by kernel_rfl) (by kernel_rfl))) ?_
  intro W base args ds gs before hval0 hW hcnd hsz hL _
  have hT := tab_of_laid hL
  have hval : ∀ (j : Nat) t v, Tryd.f3.params[j]? = some t → args[j]? = some v → Value.okWide Tryd.prog W .any base t v := hval0
  have hW' := hW
  obtain ⟨p, q, hA0, hV, rfl, hfz, hnd⟩ := hW
  have hA : DataW.TrodAll enc Tryd.prog W 0 (fun _ => true) true Tryd.f3.params.toList args.toList ds p := hA0
  rw [Tryd.params3] at hA hval
  obtain ⟨v0, vs0, d0, ds0, p0, q0, hargs, rfl, rfl, h0, r0⟩ := trodAll_cons hA
  obtain ⟨v1, vs1, d1, ds1, p1, q1, rfl, rfl, rfl, h1, r1⟩ := trodAll_cons r0
  obtain ⟨v2, vs2, d2, ds2, p2, q2, rfl, rfl, rfl, h2, r2⟩ := trodAll_cons r1
  obtain ⟨rfl, rfl, rfl⟩ := trodAll_nil r2
  obtain rfl : args = #[v0, v1, v2] := by cases args; simp_all
  obtain ⟨rfl, rfl⟩ := trodVars_none hV
  have k0 := h0
  have lt0 : ∀ x ∈ p0, x.block < W.heap.size := by obtain ⟨m, hm⟩ := k0; exact DataW.trod_lt m _ _ _ hm
  obtain ⟨q0, n0, c0, a0, rfl, w0, y0, l0, m0⟩ := open_byteslice (hval 0 22 v0 rfl rfl) h0
  obtain ⟨a1, rfl, rfl, rfl, w1⟩ := open_int Tryd.underlying3 (hval 1 3 v1 rfl rfl) h1
  have k2 := h2
  have lt2 : ∀ x ∈ p2, x.block < W.heap.size := by obtain ⟨m, hm⟩ := k2; exact DataW.trod_lt m _ _ _ hm
  obtain ⟨q2, a2, c2, rfl, y2⟩ := open_rows (hval 2 23 v2 rfl rfl) h2
  have z0 := open_size k0 hsz (j := 0) (by rw [Tryd.params3]; rfl) rfl
  clear hA0 hval0
  refine (walk q0 n0 c0 a0 a1 q2 a2 c2 w0 l0 z0 w1  W hT y0 y2).mono fun e W' ⟨he, bel⟩ => ?_
  subst he
  exact ⟨_, rfl, _, _, _, [], _, [], hW', trodAll_mk1 (shut_bool Tryd.underlying4 _), (trodAll_cons_mk (Below.trod laidOut (by kernel_rfl) (of_decide_eq_true (by kernel_rfl)) k0 bel lt0) (trodAll_cons_mk (shut_int Tryd.underlying3 w1) (trodAll_cons_mk (Below.trod laidOut (by kernel_rfl) (of_decide_eq_true (by kernel_rfl)) k2 bel lt2) trodAll_mk0))), rfl, bel.frame _, fun h => by cases h⟩

theorem over : Rows.redoEncodesRow.holds Tryd.pinned (OpenSpec.ofChange Rows.redoEncodesSpec) :=
  OpenClaim.holds_of_wide 3 Tryd.f3 rfl rfl rfl rfl rfl rfl rfl ⟨rfl, rfl, rfl, rfl, rfl⟩ rfl rfl rfl rfl rfl (by kernel_rfl) Tryd.func3 (by kernel_rfl)
    (of_decide_eq_true (by kernel_rfl)) (by unfold Func.isWrapper; first | (rw [if_pos (by decide +kernel)]; kernel_rfl) | (rw [if_neg (by decide +kernel)]; exact ⟨rfl, rfl⟩))
    (fun os started H enc _ => lifted os started H enc)

set_option maxRecDepth 100000 in
theorem proved : Rows.RedoEncodesCardSaid :=
  Claim7.holds_tied_plain_at .later [] [.data] true (true, "02ea7121c43e2a3ca2ba9c5335c4e2fd07ee2246b670e7239163a3305a411b98") true
    over (fun _ h => by cases h) (by kernel_rfl) (fun _ h => by cases h) redoEncodes_row_tie rfl ⟨rfl, rfl⟩ (by kernel_rfl) rfl
    (fun f fn hf hfn => by
      obtain rfl : f = 3 := Option.some.inj ((show Tryd.prog.funcNamed "citadel/citadellaw10.RedoEncodes" = some 3 by kernel_rfl).symm.trans hf) |>.symm
      obtain rfl : fn = Tryd.f3 := (Option.some.inj (Tryd.func3.symm.trans hfn)).symm
      exact ⟨by kernel_rfl, fun j t ht => by
        rw [Tryd.params3] at ht
        rcases j with _ | _ | _ | j
        · obtain rfl : t = 22 := by simpa using ht.symm
          exact (show Tryd.prog.wantsStandIn 22 = false by kernel_rfl)
        · obtain rfl : t = 3 := by simpa using ht.symm
          exact (show Tryd.prog.wantsStandIn 3 = false by kernel_rfl)
        · obtain rfl : t = 23 := by simpa using ht.symm
          exact (show Tryd.prog.wantsStandIn 23 = false by kernel_rfl)
        · simp at ht⟩)
    (by kernel_rfl)
end Go.Proofs.YtdeojhcfbiekmaaDoor.redoEncodes
