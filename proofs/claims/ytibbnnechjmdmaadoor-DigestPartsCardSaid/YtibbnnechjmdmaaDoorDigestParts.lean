/- A digest does not hang on how a text is parted: the statement DigestParts, tied to the program's text. No condition. -/
import Derived.Test.YtibbnnechjmdmaaDoorDigLaw
import Derived.Test.YtibbnnechjmdmaaDoorDoor
import Derived.Test.YtibbnnechjmdmaaDoorOpenSz
namespace Go.Proofs.YtibbnnechjmdmaaDoor.digestParts
open Go.ChangeShapes Go.WideShapes Go.ChangeAt Go.RowKit
set_option linter.unusedVariables false

theorem own : ownKnob Tryd.prog.godebug = none := by kernel_rfl
/-- Three texts, one behind the other. -/
def cat3 (na nb : Nat) (ga gb gc : Nat → Nat) : Nat → Nat := fun j => if j < na then ga j else if j < na + nb then gb (j - na) else gc (j - (na + nb))
def three (x y z : Option Addr × Nat × Nat) : Nat → Option Addr × Nat × Nat := fun i => if i = 0 then x else if i = 1 then y else z
theorem Of_three (B c : Nat) (pa pb pc : Option Addr) (na nb nc ca cb cc : Nat) (ga gb gc : Nat → Nat) (hn : na + nb + nc ≤ 100000) (hca : na ≤ ca) (hcb : nb ≤ cb) (hcc : nc ≤ cc) (ha : ∀ i, i < na → ga i < 256) (hb : ∀ i, i < nb → gb i < 256) (hc : ∀ i, i < nc → gc i < 256) (w : World) (hT : TabAt w)
    (h0 : w.cell? ⟨B, 0, none⟩ = some (.slice pa na ca)) (h1 : w.cell? ⟨B, 1, none⟩ = some (.slice pb nb cb)) (h2 : w.cell? ⟨B, 2, none⟩ = some (.slice pc nc cc)) (xa : BytesAt w pa na ga) (xb : BytesAt w pb nb gb) (xc : BytesAt w pc nc gc) :
    Calls Tryd.prog 17 #[.slice (some ⟨B, 0, none⟩) 3 c] w fun e w' => e = .returned (.agg (cellsOf .u8 (mk 32 (digF (na + nb + nc) (cat3 na nb ga gb gc))))) ∧ Below w.heap.size w w' := by
  have l1 : lenTo (three (pa, na, ca) (pb, nb, cb) (pc, nc, cc)) 1 = na := by show 0 + na = na; omega
  have l2 : lenTo (three (pa, na, ca) (pb, nb, cb) (pc, nc, cc)) 2 = na + nb := by show 0 + na + nb = na + nb; omega
  have l3 : lenTo (three (pa, na, ca) (pb, nb, cb) (pc, nc, cc)) 3 = na + nb + nc := by show 0 + na + nb + nc = _; omega
  have := Of_any 3 c (some ⟨B, 0, none⟩) (three (pa, na, ca) (pb, nb, cb) (pc, nc, cc)) (cat3 na nb ga gb gc) (by omega) (by rw [l3]; omega) (fun i hi => by
      rcases (show i = 0 ∨ i = 1 ∨ i = 2 by omega) with rfl | rfl | rfl
      · exact hca
      · exact hcb
      · exact hcc) (by
      rw [l3]; intro i hi; unfold cat3
      split
      · exact ha _ (by omega)
      · split
        · exact hb _ (by omega)
        · exact hc _ (by omega)) w hT ⟨.inr ⟨B, 0, rfl, block_lt_of_cell h0, fun i hi => by
      rcases (show i = 0 ∨ i = 1 ∨ i = 2 by omega) with rfl | rfl | rfl
      · exact h0
      · exact h1
      · exact h2⟩, fun i hi => by
      rcases (show i = 0 ∨ i = 1 ∨ i = 2 by omega) with rfl | rfl | rfl
      · rcases xa with h | ⟨b, o, e, hb, hx⟩
        · exact .inl h
        · refine .inr ⟨b, o, e, hb, fun j hj => ?_⟩
          have hj' : j < na := hj
          have t : cat3 na nb ga gb gc (lenTo (three (pa, na, ca) (pb, nb, cb) (pc, nc, cc)) 0 + j) = ga j := by
            show cat3 na nb ga gb gc (0 + j) = _
            unfold cat3; rw [Nat.zero_add, if_pos hj']
          show w.cell? _ = some (.int .u8 (cat3 na nb ga gb gc (lenTo _ 0 + j) : Nat))
          rw [t]; exact hx j hj
      · rcases xb with h | ⟨b, o, e, hb, hx⟩
        · exact .inl h
        · refine .inr ⟨b, o, e, hb, fun j hj => ?_⟩
          have hj' : j < nb := hj
          have t : cat3 na nb ga gb gc (lenTo (three (pa, na, ca) (pb, nb, cb) (pc, nc, cc)) 1 + j) = gb j := by
            rw [l1]; unfold cat3; rw [if_neg (by omega), if_pos (by omega), Nat.add_sub_cancel_left]
          show w.cell? _ = some (.int .u8 (cat3 na nb ga gb gc (lenTo _ 1 + j) : Nat))
          rw [t]; exact hx j hj
      · rcases xc with h | ⟨b, o, e, hb, hx⟩
        · exact .inl h
        · refine .inr ⟨b, o, e, hb, fun j hj => ?_⟩
          have hj' : j < nc := hj
          have t : cat3 na nb ga gb gc (lenTo (three (pa, na, ca) (pb, nb, cb) (pc, nc, cc)) 2 + j) = gc j := by
            rw [l2]; unfold cat3; rw [if_neg (by omega), if_neg (by omega), Nat.add_sub_cancel_left]
          show w.cell? _ = some (.int .u8 (cat3 na nb ga gb gc (lenTo _ 2 + j) : Nat))
          rw [t]; exact hx j hj⟩
  rw [l3] at this; exact this
theorem three_cells (w : World) (x y z : Value) (t : TypeId) : (w.alloc (.cells #[x, y, z] t)).cell? ⟨w.heap.size, 0, none⟩ = some x ∧ (w.alloc (.cells #[x, y, z] t)).cell? ⟨w.heap.size, 1, none⟩ = some y ∧ (w.alloc (.cells #[x, y, z] t)).cell? ⟨w.heap.size, 2, none⟩ = some z := by
  have h := heap_alloc_new w (.cells #[x, y, z] t)
  refine ⟨?_, ?_, ?_⟩
  · rw [cell_of_row _ _ 0 #[x, y, z] t (0, 0) h]; rfl
  · rw [cell_of_row _ _ 1 #[x, y, z] t (0, 0) h]; rfl
  · rw [cell_of_row _ _ 2 #[x, y, z] t (0, 0) h]; rfl
attribute [local irreducible] digF cat3

set_option maxRecDepth 100000 in
set_option maxHeartbeats 2000000 in
theorem walk (pa : Option Addr) (na ca : Nat) (ga : Nat → Nat) (pb : Option Addr) (nb cb : Nat) (gb : Nat → Nat) (pc : Option Addr) (nc cc : Nat) (gc : Nat → Nat)
    (hga : ∀ i, i < na → ga i < 256) (hca : na ≤ ca) (hma : na ≤ 140737488351232) (hgb : ∀ i, i < nb → gb i < 256) (hcb : nb ≤ cb) (hmb : nb ≤ 140737488351232) (hgc : ∀ i, i < nc → gc i < 256) (hcc : nc ≤ cc) (hmc : nc ≤ 140737488351232) (w : World) (hT : TabAt w) (xa : BytesAt w pa na ga) (xb : BytesAt w pb nb gb) (xc : BytesAt w pc nc gc) :
    Calls Tryd.prog 6 #[.slice pa na ca, .slice pb nb cb, .slice pc nc cc] w fun e w' => e = .returned (.bool true) ∧ Below w.heap.size w w' := by
  have q1 : IntKind.i64.wrap ((na : Int) + nb) = (na : Int) + nb := IntWalk.i64_in _ (by omega)
  have q2 : IntKind.i64.wrap ((na : Int) + nb + nc) = (na : Int) + nb + nc := IntWalk.i64_in _ (by omega)
  by_cases hn : na + nb + nc ≤ 16384
  · have e1 : ¬ 16384 < (na : Int) + nb + nc := by omega
    have HA := Lib.hid xa; have HB := Lib.hid xb; have HC := Lib.hid xc; have HT := Lib.hid hT
    have F1 := Lib.hid (show ∀ j, j < na → ga j = cat3 na nb ga gb gc (0 + j) from fun j hj => by unfold cat3; rw [Nat.zero_add, if_pos hj])
    have F2 := Lib.hid (show ∀ j, j < nb → gb j = cat3 na nb ga gb gc (na + j) from fun j hj => by unfold cat3; rw [if_neg (by omega), if_pos (by omega), Nat.add_sub_cancel_left])
    have F3 := Lib.hid (show ∀ j, j < nc → gc j = cat3 na nb ga gb gc (na + nb + j) from fun j hj => by unfold cat3; rw [if_neg (by omega), if_neg (by omega), Nat.add_sub_cancel_left])
    have hcg : ∀ i, i < na + nb + nc → cat3 na nb ga gb gc i < 256 := fun i hi => by
      unfold cat3; split
      · exact hga _ (by omega)
      · split
        · exact hgb _ (by omega)
        · exact hgc _ (by omega)
    have HG := Lib.hid hcg
    have O3 := Lib.hid (fun B c W hT h0 h1 h2 xa xb xc => Of_three B c pa pb pc na nb nc ca cb cc ga gb gc (by omega) hca hcb hcc hga hgb hgc W hT h0 h1 h2 xa xb xc)
    have ix : ∀ W, (Instr.index 37 (.agg (cellsOf .u8 (mk 32 (digF 0 zeroK)))) (.int .i64 31)).run Tryd.prog W = .ok (.int .u8 85) W := fun W => by
      have := run_index_at (P := Tryd.prog) 37 32 (digF 0 zeroK) sumUnder byteElem (i := 31) (by omega) W
      rw [dig_none.2] at this; exact this
    have sq : ∀ W, (Op.equalIn 10000 37 (.agg (cellsOf .u8 (mk 32 (digF (na + nb + nc) (cat3 na nb ga gb gc))))) (.agg (cellsOf .u8 (mk 32 (digF (na + nb + nc) (cat3 na nb ga gb gc)))))).run Tryd.prog W = .ok true W := fun W => by
      have := sum_eq (digF (na + nb + nc) (cat3 na nb ga gb gc)) (digF (na + nb + nc) (cat3 na nb ga gb gc)) W
      simpa using this
    have A0 : Below w.heap.size w (w.alloc (.cells (cellsOf .u8 []) 5)) := (Below.refl _ w).alloc (Nat.le_refl _) _
    have HA1 := Lib.hid (xa.below A0); have L0 := Lib.hid A0
    clear A0 xa xb xc hT hga hgb hgc hcg hca hcb
    generalize cat3 na nb ga gb gc = gg at *
    go_enter Tryd.func6, Tryd.ntmps6
    go_wp2_with (first
      | (refine wpList_append_own_bytes rfl (.tmp 17) (.tmp 18) rfl w.heap.size (w.heap.size + 1) 0 _ gg ga pa na ca rfl rfl (OwnS.empty w gg w.heap.size (Nat.le_refl _)) HA1.out F1.out (by omega) (by simp) ?_; intro v1 w1 hv1 hb1
         rw [Nat.zero_add] at hv1
         have HV1 := Lib.hid hv1
         have L1 := Lib.hid (L0.out.trans hb1)
         have HB2 := Lib.hid (HB.out.below (L0.out.trans hb1))
         clear hv1 hb1)
      | (refine wpList_append_own_bytes rfl (.tmp 19) (.tmp 20) rfl w.heap.size w1.heap.size na v1 gg gb pb nb cb rfl rfl HV1.out HB2.out F2.out (by omega) L1.out.size ?_; intro v2 w2 hv2 hb2
         have HV2 := Lib.hid hv2
         have L2 := Lib.hid (L1.out.trans hb2)
         have HC2 := Lib.hid (HC.out.below (L1.out.trans hb2))
         clear hv2 hb2)
      | (refine wpList_append_own_bytes rfl (.tmp 21) (.tmp 22) rfl w.heap.size w2.heap.size (na + nb) v2 gg gc pc nc cc rfl rfl HV2.out HC2.out F3.out (by omega) L2.out.size ?_; intro v3 w3 hv3 hb3
         obtain ⟨p3, c3, rfl, hc3, _, hp3, _⟩ := hv3.bytes (Nat.le_refl _)
         have HP3 := Lib.hid hp3
         have L3 := Lib.hid (L2.out.trans hb3)
         have HA3 := Lib.hid (HA.out.below (L2.out.trans hb3)); have HB3 := Lib.hid (HB.out.below (L2.out.trans hb3)); have HC3 := Lib.hid (HC.out.below (L2.out.trans hb3)); have HT3 := Lib.hid (HT.out.on (L2.out.trans hb3))
         clear hv3 hb3 hp3 HV1 HV2 L0 L1 L2)
      | (go_at_call 17; refine (Of_none w3 HT3.out).mono ?_; rintro e w4 ⟨rfl, hb4⟩
         have M3 := Lib.hid (HP3.out.below hb4); have MA := Lib.hid (HA3.out.below hb4); have MB := Lib.hid (HB3.out.below hb4); have MC := Lib.hid (HC3.out.below hb4); have MT := Lib.hid (HT3.out.on hb4); have ML := Lib.hid (L3.out.trans (hb4.mono L3.out.size))
         have A4 : Below w4.heap.size w4 (w4.alloc (.cells #[.slice pa na ca, .slice pb nb cb, .slice pc nc cc] 34)) := (Below.refl _ w4).alloc (Nat.le_refl _) _
         have D4 := Lib.hid (three_cells w4 (.slice pa na ca) (.slice pb nb cb) (.slice pc nc cc) 34)
         have LA4 := Lib.hid A4
         clear hb4 HP3 HA3 HB3 HC3 HT3 L3 A4)
      | (go_at_call 17; refine (O3.out w4.heap.size 3 _ (MT.out.on LA4.out) D4.out.1 D4.out.2.1 D4.out.2.2 (MA.out.below LA4.out) (MB.out.below LA4.out) (MC.out.below LA4.out)).mono ?_; rintro e w5 ⟨rfl, hb5⟩
         have b5 := LA4.out.trans (hb5.mono LA4.out.size)
         have N3 := Lib.hid (M3.out.below b5); have NT := Lib.hid (MT.out.on b5); have NL := Lib.hid (ML.out.trans (b5.mono ML.out.size))
         have A5 : Below w5.heap.size w5 (w5.alloc (.cells #[.slice p3 (na + nb + nc) c3] 34)) := (Below.refl _ w5).alloc (Nat.le_refl _) _
         have D5 := Lib.hid (cell_of_one (heap_alloc_new w5 (.cells #[.slice p3 (na + nb + nc) c3] 34)))
         have LA5 := Lib.hid A5
         clear hb5 b5 A5 O3 M3 MT ML MA MB MC D4 LA4)
      | (go_at_call 17; refine (Of_one w5.heap.size 1 p3 (na + nb + nc) c3 gg (by omega) hc3 HG.out _ (NT.out.on LA5.out) D5.out (N3.out.below LA5.out)).mono ?_; rintro e w6 ⟨rfl, hb6⟩
         have RL := Lib.hid (NL.out.trans ((LA5.out.trans (hb6.mono LA5.out.size)).mono NL.out.size))
         clear hb6))
    go_ret
    exact ⟨rfl, RL.out⟩
  · have e1 : 16384 < (na : Int) + nb + nc := by omega
    clear hn hT xa xb xc
    go_enter Tryd.func6, Tryd.ntmps6
    go_wp2
    go_ret
    exact ⟨rfl, Below.refl _ _⟩

theorem laidOut : laidOutB Tryd.prog = true := by kernel_rfl
set_option maxRecDepth 100000 in
theorem lifted (os : Os) (started : os.Started) (H : Type) (enc : TypeId × Value → H) :
    ReturnsInHanded {} Tryd.checked os 6 .any (fun w args => (Rows.digestPartsSpec.pre enc Tryd.prog Tryd.f6 Rows.digestPartsRow.domain false w args ∧ laidMetH Tryd.prog Rows.digestPartsRow.laid w) ∧ sizedMet enc Tryd.prog Tryd.f6 (OpenSpec.ofChange Rows.digestPartsSpec) false w args) (Rows.digestPartsSpec.post enc Tryd.prog Tryd.f6 false true false false) := by
  refine returnsInHanded_of_change_and (C := Tryd.checked) (X := fun w _ => laidMetH Tryd.prog Rows.digestPartsRow.laid w) (fun _ _ _ hh h => h.of_heap hh) own started (by kernel_rfl) Tryd.func6
    (ChangeSpec.witness_shaped (enc := enc) (C := Tryd.checked) (os := os) (X := fun w _ => laidMetH Tryd.prog Rows.digestPartsRow.laid w) false (World.laidAll Tryd.prog os Rows.digestPartsRow.laid) #[.slice none 0 0, .slice none 0 0, .slice none 0 0] 8 (World.laidAll_os _ _ _)
      (World.shaped_of_ZipB (by kernel_rfl) (by kernel_rfl)) (by kernel_rfl) (by kernel_rfl) (by kernel_rfl)
      (by rw [MakeChecks.laidMetH_plain _ _ _ (by kernel_rfl)]; exact laidMet_laidAll _ (by kernel_rfl) (by kernel_rfl))) ?_
  intro W base args ds gs before hval0 hW hcnd hsz hL _
  have hT := tab_of_laid hL
  have hval : ∀ (j : Nat) t v, Tryd.f6.params[j]? = some t → args[j]? = some v → Value.okWide Tryd.prog W .any base t v := hval0
  have hW' := hW
  obtain ⟨p, q, hA0, hV, rfl, hfz, hnd⟩ := hW
  have hA : DataW.TrodAll enc Tryd.prog W 0 (fun _ => true) true Tryd.f6.params.toList args.toList ds p := hA0
  rw [Tryd.params6] at hA hval
  obtain ⟨v0, vs0, d0, ds0, p0, q0, hargs, rfl, rfl, h0, r0⟩ := trodAll_cons hA
  obtain ⟨v1, vs1, d1, ds1, p1, q1, rfl, rfl, rfl, h1, r1⟩ := trodAll_cons r0
  obtain ⟨v2, vs2, d2, ds2, p2, q2, rfl, rfl, rfl, h2, r2⟩ := trodAll_cons r1
  obtain ⟨rfl, rfl, rfl⟩ := trodAll_nil r2
  obtain rfl : args = #[v0, v1, v2] := by cases args; simp_all
  obtain ⟨rfl, rfl⟩ := trodVars_none hV
  have k0 := h0
  have lt0 : ∀ x ∈ p0, x.block < W.heap.size := by obtain ⟨m, hm⟩ := k0; exact DataW.trod_lt m _ _ _ hm
  obtain ⟨q0, n0, c0, a0, rfl, w0, y0, l0, m0⟩ := open_byteslice (hval 0 34 v0 rfl rfl) h0
  have k1 := h1
  have lt1 : ∀ x ∈ p1, x.block < W.heap.size := by obtain ⟨m, hm⟩ := k1; exact DataW.trod_lt m _ _ _ hm
  obtain ⟨q1, n1, c1, a1, rfl, w1, y1, l1, m1⟩ := open_byteslice (hval 1 34 v1 rfl rfl) h1
  have k2 := h2
  have lt2 : ∀ x ∈ p2, x.block < W.heap.size := by obtain ⟨m, hm⟩ := k2; exact DataW.trod_lt m _ _ _ hm
  obtain ⟨q2, n2, c2, a2, rfl, w2, y2, l2, m2⟩ := open_byteslice (hval 2 34 v2 rfl rfl) h2
  have z0 := open_size k0 hsz (j := 0) (by rw [Tryd.params6]; rfl) rfl
  have z1 := open_size k1 hsz (j := 1) (by rw [Tryd.params6]; rfl) rfl
  have z2 := open_size k2 hsz (j := 2) (by rw [Tryd.params6]; rfl) rfl
  clear hA0 hval0
  refine (walk q0 n0 c0 a0 q1 n1 c1 a1 q2 n2 c2 a2 w0 l0 z0 w1 l1 z1 w2 l2 z2 W hT y0 y1 y2).mono fun e W' ⟨he, bel⟩ => ?_
  subst he
  exact ⟨_, rfl, _, _, _, [], _, [], hW', trodAll_mk1 (shut_bool Tryd.underlying4 _), (trodAll_cons_mk (Below.trod laidOut (by kernel_rfl) (of_decide_eq_true (by kernel_rfl)) k0 bel lt0) (trodAll_cons_mk (Below.trod laidOut (by kernel_rfl) (of_decide_eq_true (by kernel_rfl)) k1 bel lt1) (trodAll_cons_mk (Below.trod laidOut (by kernel_rfl) (of_decide_eq_true (by kernel_rfl)) k2 bel lt2) trodAll_mk0))), rfl, bel.frame _, fun h => by cases h⟩

theorem over : Rows.digestPartsRow.holds Tryd.pinned (OpenSpec.ofChange Rows.digestPartsSpec) :=
  OpenClaim.holds_of_wide 6 Tryd.f6 rfl rfl rfl rfl rfl rfl rfl ⟨rfl, rfl, rfl, rfl, rfl⟩ rfl rfl rfl rfl rfl (by kernel_rfl) Tryd.func6 (by kernel_rfl)
    (of_decide_eq_true (by kernel_rfl)) (by unfold Func.isWrapper; first | (rw [if_pos (by decide +kernel)]; kernel_rfl) | (rw [if_neg (by decide +kernel)]; exact ⟨rfl, rfl⟩))
    (fun os started H enc _ => lifted os started H enc)

set_option maxRecDepth 100000 in
theorem proved : Rows.DigestPartsCardSaid :=
  Claim7.holds_tied_plain_at .later [] [.data] true (true, "f7205cfd815a6bad1c86f1bccfe71f72fe6628e239341f6fbb660aec02113458") false
    over (fun _ h => by cases h) (by kernel_rfl) (fun _ h => by cases h) digestParts_row_tie rfl ⟨rfl, rfl⟩ (by kernel_rfl) rfl
    (fun f fn hf hfn => by
      obtain rfl : f = 6 := Option.some.inj ((show Tryd.prog.funcNamed "citadel/citadellaw04.DigestParts" = some 6 by kernel_rfl).symm.trans hf) |>.symm
      obtain rfl : fn = Tryd.f6 := (Option.some.inj (Tryd.func6.symm.trans hfn)).symm
      exact ⟨by kernel_rfl, fun j t ht => by
        rw [Tryd.params6] at ht
        rcases j with _ | _ | _ | j
        · obtain rfl : t = 34 := by simpa using ht.symm
          exact (show Tryd.prog.wantsStandIn 34 = false by kernel_rfl)
        · obtain rfl : t = 34 := by simpa using ht.symm
          exact (show Tryd.prog.wantsStandIn 34 = false by kernel_rfl)
        · obtain rfl : t = 34 := by simpa using ht.symm
          exact (show Tryd.prog.wantsStandIn 34 = false by kernel_rfl)
        · simp at ht⟩)
    (by kernel_rfl)
end Go.Proofs.YtibbnnechjmdmaaDoor.digestParts
