/- Which key is derived: the statement MacDerives, tied to the program's text. No condition. -/
import Derived.Test.YtfjbehobpkmjbaaDoorApartZ
import Derived.Test.YtfjbehobpkmjbaaDoorOpenD
import Derived.Test.YtfjbehobpkmjbaaDoorBegC
namespace Go.Proofs.YtfjbehobpkmjbaaDoor.macDerives
open Go.ChangeShapes Go.WideShapes Go.ChangeAt Go.RowKit
set_option linter.unusedVariables false

theorem own : ownKnob Tryd.prog.godebug = none := by kernel_rfl
attribute [local irreducible] numB digF pieK labB tagF blkF blkT cat2 derF derTo patK

set_option maxRecDepth 100000 in
set_option maxHeartbeats 4000000 in
theorem walk (p : Option Addr) (n cap : Nat) (g : Nat → Nat) (s : ByteArray) (z : Int) (hg : ∀ i, i < n → g i < 256) (hcap : n ≤ cap) (hmax : n ≤ 140737488351232) (hs : s.size ≤ 140737488351232) (w : World) (hT : TabAt w) (hp : BytesAt w p n g) :
    Calls Tryd.prog 7 #[.slice p n cap, .string s, .int .i64 z] w fun e w' => e = .returned (.bool true) ∧ Below w.heap.size w w' := by
  obtain ⟨v1, hv1⟩ : ∃ v1, Lib.bytesWorld w 5 s = v1 := ⟨_, rfl⟩
  have b1 : Below w.heap.size w v1 := by rw [← hv1]; exact (conv_str_world s w hs).2
  have b2 : Below w.heap.size w (v1.alloc (.cells #[.slice p n cap, .slice (some ⟨w.heap.size, 0, none⟩) s.size (grownCap w s.size 0 5)] 22)) := b1.alloc b1.size _
  have cs := two_cells v1 (.slice p n cap) (.slice (some ⟨w.heap.size, 0, none⟩) s.size (grownCap w s.size 0 5)) 22
  have LG := Lib.hid (large_two (c := 2) hmax hs cs.1 cs.2)
  have HB2 := Lib.hid b2
  clear b1 b2 cs
  by_cases hl : n + s.size ≤ 4096
  · have hd : decide (4096 < n + s.size) = false := decide_eq_false (by omega)
    rw [hd] at LG
    have HP := Lib.hid hp; have HT := Lib.hid hT
    have DX := Lib.hid (fun B W hT hp => Derive_any (some ⟨B, 0, none⟩) 1 1 (fun _ => 1) ⟨#[120]⟩ 33 (by omega) (by omega) (by omega) (fun _ _ => by omega) (by show 1 ≤ 500000; omega) W hT hp)
    clear hp hT hd
    by_cases hz : z < 1 ∨ 1024 < z
    · have D1 := Lib.hid (fun W => Derive_no p n cap s z hz W)
      have D3 := Lib.hid (fun W => Derive_no p n cap s z hz W)
      have R1 := Lib.hid (fun W => refDerive_no p n cap s z hz W)
      clear hz
      go_enter Tryd.func7, Tryd.ntmps7
      go_wp2_with (first
        | (refine wpList_conv_str rfl _ rfl s rfl ?_; rw [hv1])
        | (go_at_call 10; refine LG.out.mono ?_; rintro e w0 ⟨rfl, hw0⟩
           rw [hw0] at HB2
           clear hw0 LG)
        | (go_at_call 22
           first
           | (refine (D1.out w0).mono ?_; rintro e w3 ⟨rfl, hb3⟩
              have B3 := Lib.hid (HB2.out.trans (hb3.mono HB2.out.size))
              clear hb3 D1)
           | (have a4 : Below w3.heap.size w3 (w3.alloc (.cells #[.int .u8 1] 5)) := (Below.refl _ _).alloc (Nat.le_refl _) _
              have l4 := bytesAt_lit w3 1 (fun _ => 1) [(1 : Int)] rfl
              have b4 := B3.out.trans (a4.mono B3.out.size)
              refine (DX.out w3.heap.size _ (HT.out.on b4) l4).mono ?_; rintro e w5 ⟨rfl, _, hb5⟩
              have B5 := Lib.hid (b4.trans (hb5.mono b4.size))
              clear a4 l4 b4 hb5 DX)
           | (refine (D3.out w5).mono ?_; rintro e w6 ⟨rfl, hb6⟩
              have B6 := Lib.hid (B5.out.trans (hb6.mono B5.out.size))
              clear hb6))
        | (go_at_call 23; refine (R1.out w5).mono ?_; rintro e w7 ⟨rfl, hw7⟩
           subst hw7)
        | (go_at_call 13
           refine (Same_eq none none 0 0 0 zeroK zeroK w5 (.inl rfl) (.inl rfl) rfl).mono ?_; rintro e w8 ⟨rfl, hw8⟩
           subst hw8)
        | (go_at_call 24
           have hl9 := heap_alloc_new w6 (.cells #[.slice none 0 0, .slice none 0 0] 22)
           have b9 : Below w.heap.size w (w6.alloc (.cells #[.slice none 0 0, .slice none 0 0] 22)) := B6.out.alloc B6.out.size _
           refine (Apart_none w.heap.size w6.heap.size 0 rfl _ b9.size hl9).mono ?_; rintro e w9 ⟨rfl, hb9⟩
           have B9 := Lib.hid (b9.trans hb9)
           clear hl9 b9 hb9))
      go_ret
      exact ⟨rfl, B9.out⟩
    · obtain ⟨N, rfl⟩ : ∃ N : Nat, z = (N : Int) := ⟨z.toNat, by omega⟩
      have hN : 1 ≤ N ∧ N ≤ 1024 := by omega
      have D1 := Lib.hid (fun W hT hp => Derive_any p n cap g s N hN (by omega) hcap hg (by omega) W hT hp)
      have D3 := Lib.hid (fun W hT hp => Derive_any p n cap g s N hN (by omega) hcap hg (by omega) W hT hp)
      have R1 := Lib.hid (fun W hp => refDerive_any p n cap g s N hN (by omega) hg (by omega) W hp)
      clear hz
      go_enter Tryd.func7, Tryd.ntmps7
      go_wp2_with (first
        | (refine wpList_conv_str rfl _ rfl s rfl ?_; rw [hv1])
        | (go_at_call 10; refine LG.out.mono ?_; rintro e w0 ⟨rfl, hw0⟩
           rw [hw0] at HB2
           clear hw0 LG)
        | (go_at_call 22
           first
           | (refine (D1.out w0 (HT.out.on HB2.out) (HP.out.below HB2.out)).mono ?_; rintro e w3 ⟨rfl, hr3, hb3⟩
              have B3 := Lib.hid (HB2.out.trans (hb3.mono HB2.out.size))
              have S3 := Lib.hid hb3.size
              have R3 := Lib.hid hr3
              clear hb3 hr3 D1)
           | (have a4 : Below w3.heap.size w3 (w3.alloc (.cells #[.int .u8 1] 5)) := (Below.refl _ _).alloc (Nat.le_refl _) _
              have l4 := bytesAt_lit w3 1 (fun _ => 1) [(1 : Int)] rfl
              have b4 := B3.out.trans (a4.mono B3.out.size)
              refine (DX.out w3.heap.size _ (HT.out.on b4) l4).mono ?_; rintro e w5 ⟨rfl, _, hb5⟩
              have B5 := Lib.hid (b4.trans (hb5.mono b4.size))
              have R5 := Lib.hid (R3.out.below (a4.trans (hb5.mono a4.size)) R3.out.lt)
              clear a4 l4 b4 hb5 R3 DX)
           | (refine (D3.out w7 (HT.out.on B7.out) (HP.out.below B7.out)).mono ?_; rintro e w6 ⟨rfl, hr6, hb6⟩
              have B6 := Lib.hid (B7.out.trans (hb6.mono B7.out.size))
              have R6 := Lib.hid (R7.out.below hb6 R7.out.lt)
              have R6' := Lib.hid hr6
              have L7 := Lib.hid R7.out.lt
              clear hb6 hr6))
        | (go_at_call 23; refine (R1.out w5 (HP.out.below B5.out)).mono ?_; rintro e w7 ⟨⟨Bq, cq, rfl, hcq, hbq, _⟩, hb7⟩
           have B7 := Lib.hid (B5.out.trans (hb7.mono B5.out.size))
           have R7 := Lib.hid (R5.out.below hb7 R5.out.lt)
           have Q7 := Lib.hid hbq
           clear hb7 hbq R5)
        | (go_at_call 13
           refine (Same_eq (some ⟨w0.heap.size + 1, 0, none⟩) Bq N N cq (derF (pieK n g) s) (derF (pieK n g) s) w7 R7.out.bytes Q7.out rfl).mono ?_; rintro e w8 ⟨rfl, hw8⟩
           subst hw8)
        | (go_at_call 24
           have hl9 := heap_alloc_new w6 (.cells #[.slice (some ⟨w0.heap.size + 1, 0, none⟩) N N, .slice (some ⟨w7.heap.size + 1, 0, none⟩) N N] 22)
           have b9 : Below w.heap.size w (w6.alloc (.cells #[.slice (some ⟨w0.heap.size + 1, 0, none⟩) N N, .slice (some ⟨w7.heap.size + 1, 0, none⟩) N N] 22)) := B6.out.alloc B6.out.size _
           have hs0 := HB2.out.size
           have hs7 := B7.out.size
           have hl7 := L7.out
           refine (Apart_two w.heap.size w6.heap.size N (fun i => if i = 0 then w0.heap.size + 1 else w7.heap.size + 1) (fun _ => derF (pieK n g) s) hN (by show w0.heap.size + 1 ≠ w7.heap.size + 1; omega) (fun i => by show w.heap.size ≤ if i = 0 then _ else _; split <;> omega) _ b9.size hl9 (fun i hi => ?_)).mono ?_
           · rcases (show i = 0 ∨ i = 1 by omega) with rfl | rfl
             · exact R6.out.alloc _
             · exact R6'.out.alloc _
           rintro e w9 ⟨rfl, hb9⟩
           have B9 := Lib.hid (b9.trans hb9)
           clear hl9 b9 hb9 hs0 hs7 hl7))
      go_ret
      exact ⟨rfl, B9.out⟩
  · have hd : decide (4096 < n + s.size) = true := decide_eq_true (by omega)
    rw [hd] at LG
    go_enter Tryd.func7, Tryd.ntmps7
    go_wp2_with (first
      | (refine wpList_conv_str rfl _ rfl s rfl ?_; rw [hv1])
      | (go_at_call 10; refine LG.out.mono ?_; rintro e w0 ⟨rfl, hw0⟩
         rw [hw0] at HB2
         clear hw0 LG))
    go_ret
    exact ⟨rfl, HB2.out⟩

theorem laidOut : laidOutB Tryd.prog = true := by kernel_rfl
set_option maxRecDepth 100000 in
theorem lifted (os : Os) (started : os.Started) (H : Type) (enc : TypeId × Value → H) :
    ReturnsInHanded {} Tryd.checked os 7 .any (fun w args => (Rows.macDerivesSpec.pre enc Tryd.prog Tryd.f7 Rows.macDerivesRow.domain false w args ∧ laidMetH Tryd.prog Rows.macDerivesRow.laid w) ∧ sizedMet enc Tryd.prog Tryd.f7 (OpenSpec.ofChange Rows.macDerivesSpec) false w args) (Rows.macDerivesSpec.post enc Tryd.prog Tryd.f7 false true false false) := by
  refine returnsInHanded_of_change_and (C := Tryd.checked) (X := fun w _ => laidMetH Tryd.prog Rows.macDerivesRow.laid w) (fun _ _ _ hh h => h.of_heap hh) own started (by kernel_rfl) Tryd.func7
    (ChangeSpec.witness_shaped (enc := enc) (C := Tryd.checked) (os := os) (X := fun w _ => laidMetH Tryd.prog Rows.macDerivesRow.laid w) false (World.laidAll Tryd.prog os Rows.macDerivesRow.laid) #[.slice none 0 0, .string ⟨#[]⟩, .int .i64 0] 8 (World.laidAll_os _ _ _)
      (World.shaped_of_ZipB (by kernel_rfl) (by kernel_rfl)) (by kernel_rfl) (by kernel_rfl) (by kernel_rfl)
      (by rw [MakeChecks.laidMetH_plain _ _ _ (by kernel_rfl)]; exact laidMet_laidAll _ (by kernel_rfl) (by kernel_rfl))) ?_
  intro W base args ds gs before hval0 hW hcnd hsz hL _
  have hT := tab_of_laid hL
  have hval : ∀ (j : Nat) t v, Tryd.f7.params[j]? = some t → args[j]? = some v → Value.okWide Tryd.prog W .any base t v := hval0
  have hW' := hW
  obtain ⟨p, q, hA0, hV, rfl, hfz, hnd⟩ := hW
  have hA : DataW.TrodAll enc Tryd.prog W 0 (fun _ => true) true Tryd.f7.params.toList args.toList ds p := hA0
  rw [Tryd.params7] at hA hval
  obtain ⟨v0, vs0, d0, ds0, p0, q0, hargs, rfl, rfl, h0, r0⟩ := trodAll_cons hA
  obtain ⟨v1, vs1, d1, ds1, p1, q1, rfl, rfl, rfl, h1, r1⟩ := trodAll_cons r0
  obtain ⟨v2, vs2, d2, ds2, p2, q2, rfl, rfl, rfl, h2, r2⟩ := trodAll_cons r1
  obtain ⟨rfl, rfl, rfl⟩ := trodAll_nil r2
  obtain rfl : args = #[v0, v1, v2] := by cases args; simp_all
  obtain ⟨rfl, rfl⟩ := trodVars_none hV
  have k0 := h0
  have lt0 : ∀ x ∈ p0, x.block < W.heap.size := by obtain ⟨m, hm⟩ := k0; exact DataW.trod_lt m _ _ _ hm
  obtain ⟨q0, n0, c0, a0, rfl, w0, y0, l0, m0⟩ := open_byteslice (hval 0 22 v0 rfl rfl) h0
  have k1 := h1
  have lt1 : ∀ x ∈ p1, x.block < W.heap.size := by obtain ⟨m, hm⟩ := k1; exact DataW.trod_lt m _ _ _ hm
  obtain ⟨a1, rfl, hs1⟩ := open_str (hval 1 9 v1 rfl rfl) h1 hsz (j := 1) (by rw [Tryd.params7]; rfl) rfl
  obtain ⟨a2, rfl, rfl, rfl, w2⟩ := open_int Tryd.underlying3 (hval 2 3 v2 rfl rfl) h2
  have z0 := open_size k0 hsz (j := 0) (by rw [Tryd.params7]; rfl) rfl
  clear hA0 hval0
  refine (walk q0 n0 c0 a0 a1 a2 w0 l0 z0 hs1 W hT y0).mono fun e W' ⟨he, bel⟩ => ?_
  subst he
  exact ⟨_, rfl, _, _, _, [], _, [], hW', trodAll_mk1 (shut_bool Tryd.underlying4 _), (trodAll_cons_mk (Below.trod laidOut (by kernel_rfl) (of_decide_eq_true (by kernel_rfl)) k0 bel lt0) (trodAll_cons_mk (Below.trod laidOut (by kernel_rfl) (of_decide_eq_true (by kernel_rfl)) k1 bel lt1) (trodAll_cons_mk (shut_int Tryd.underlying3 w2) trodAll_mk0))), rfl, bel.frame _, fun h => by cases h⟩

theorem over : Rows.macDerivesRow.holds Tryd.pinned (OpenSpec.ofChange Rows.macDerivesSpec) :=
  OpenClaim.holds_of_wide 7 Tryd.f7 rfl rfl rfl rfl rfl rfl rfl ⟨rfl, rfl, rfl, rfl, rfl⟩ rfl rfl rfl rfl rfl (by kernel_rfl) Tryd.func7 (by kernel_rfl)
    (of_decide_eq_true (by kernel_rfl)) (by unfold Func.isWrapper; first | (rw [if_pos (by decide +kernel)]; kernel_rfl) | (rw [if_neg (by decide +kernel)]; exact ⟨rfl, rfl⟩))
    (fun os started H enc _ => lifted os started H enc)

set_option maxRecDepth 100000 in
theorem proved : Rows.MacDerivesCardSaid :=
  Claim7.holds_tied_plain_at .later [] [.data] true (true, "72f2077fc948681907f26b31a4bacbb36c81689644d2b26bb4272bed603e5c38") false
    over (fun _ h => by cases h) (by kernel_rfl) (fun _ h => by cases h) macDerives_row_tie rfl ⟨rfl, rfl⟩ (by kernel_rfl) rfl
    (fun f fn hf hfn => by
      obtain rfl : f = 7 := Option.some.inj ((show Tryd.prog.funcNamed "citadel/citadellaw05.MacDerives" = some 7 by kernel_rfl).symm.trans hf) |>.symm
      obtain rfl : fn = Tryd.f7 := (Option.some.inj (Tryd.func7.symm.trans hfn)).symm
      exact ⟨by kernel_rfl, fun j t ht => by
        rw [Tryd.params7] at ht
        rcases j with _ | _ | _ | j
        · obtain rfl : t = 22 := by simpa using ht.symm
          exact (show Tryd.prog.wantsStandIn 22 = false by kernel_rfl)
        · obtain rfl : t = 9 := by simpa using ht.symm
          exact (show Tryd.prog.wantsStandIn 9 = false by kernel_rfl)
        · obtain rfl : t = 3 := by simpa using ht.symm
          exact (show Tryd.prog.wantsStandIn 3 = false by kernel_rfl)
        · simp at ht⟩)
    (by kernel_rfl)
end Go.Proofs.YtfjbehobpkmjbaaDoor.macDerives
