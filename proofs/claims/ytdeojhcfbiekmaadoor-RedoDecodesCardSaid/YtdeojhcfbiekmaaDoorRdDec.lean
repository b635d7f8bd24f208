/- The contract of package redo's Decode: the entry that sectors begin with. Conditions: the key has at most 100,000 bytes; sectors have 128 bytes; there are at most 1000. -/
import Derived.Test.YtdeojhcfbiekmaaDoorRdEncode
import Derived.Test.YtdeojhcfbiekmaaDoorRdTold
import Derived.Test.YtdeojhcfbiekmaaDoorRdEq
namespace Go.Proofs.YtdeojhcfbiekmaaDoor
open Go.ChangeShapes Go.WideShapes Go.ChangeAt Go.RowKit
set_option linter.unusedVariables false
/-- What Decode answers. -/
def DecSays (o : Option (Int × List PutOf)) (w' : World) (e : Ending) : Prop := match o with
  | none => e = .returned (.tuple #[.int .i64 0, .slice none 0 0, .bool false])
  | some (c, l) => ∃ p cap, e = .returned (.tuple #[.int .i64 c, .slice p l.length cap, .bool true]) ∧ RowsAt 129 putC w' p l
theorem DecSays.none' {o : Option (Int × List PutOf)} {w' : World} (h : o = none) : DecSays o w' (.returned (.tuple #[.int .i64 0, .slice none 0 0, .bool false])) := by subst h; rfl
theorem DecSays.some' {o : Option (Int × List PutOf)} {w' : World} {c : Int} {l : List PutOf} {p : Option Addr} {cap : Nat} (h : o = some (c, l)) (hr : RowsAt 129 putC w' p l) : DecSays o w' (.returned (.tuple #[.int .i64 c, .slice p l.length cap, .bool true])) := by subst h; exact ⟨p, cap, rfl, hr⟩
theorem prefix_iff {E cs : List (List Int)} (h : E.length ≤ cs.length) : (∀ j, j < E.length → E.getD j [] = cs.getD j []) ↔ E <+: cs := by
  rw [List.prefix_iff_eq_take]
  constructor
  · intro hj
    apply List.ext_getElem
    · rw [List.length_take]; omega
    · intro i h1 h2
      have := hj i h1
      rw [List.getD_eq_getElem?_getD, List.getD_eq_getElem?_getD, List.getElem?_eq_getElem h1, List.getElem?_eq_getElem (by omega)] at this
      rw [List.getElem_take]; exact this
  · intro he j hj
    have hc : j < cs.length := by omega
    rw [List.getD_eq_getElem?_getD, List.getD_eq_getElem?_getD, he, List.getElem?_take_of_lt hj]
theorem decE_is (τ : List Int → List Int) {cs : List (List Int)} (h2 : 2 ≤ cs.length) : decE τ cs = if goodE (countL (cs.getD 0 [])) (toldL (saysC cs) (cs.drop 2)) ∧ encL τ (countL (cs.getD 0 [])) (toldL (saysC cs) (cs.drop 2)) <+: cs then some (countL (cs.getD 0 []), toldL (saysC cs) (cs.drop 2)) else none := by
  match cs, h2 with
  | s0 :: s1 :: r, _ => rw [saysC_cons, decE_two]; rfl
theorem told_ats (cs : List (List Int)) (hcs : ∀ s ∈ cs, IsSec s) (h2 : 2 ≤ cs.length) : ∀ p ∈ toldL (saysC cs) (cs.drop 2), (0 ≤ p.at' ∧ p.at' ≤ 65535) ∧ p.ok := by
  match cs, hcs, h2 with
  | s0 :: s1 :: r, hcs, _ =>
    rw [saysC_cons]
    intro p hp
    unfold toldL at hp
    obtain ⟨i, hi, rfl⟩ := List.getElem_of_mem hp
    rw [List.getElem_zipWith]
    constructor
    · have hm := List.getElem_mem (l := saysL s0) (n := i) (by simp at hi; omega)
      generalize (saysL s0)[i]'(by simp at hi; omega) = z at *
      unfold saysL at hm
      split at hm
      · obtain ⟨k, _, rfl⟩ := List.mem_map.1 hm
        have := twoAt_lt (hcs s0 (List.mem_cons_self ..)) (10 + 2 * k)
        show 0 ≤ ((twoAt s0 (10 + 2 * k) : Nat) : Int) ∧ ((twoAt s0 (10 + 2 * k) : Nat) : Int) ≤ 65535
        omega
      · simp at hm
    · exact hcs _ (List.mem_cons_of_mem _ (List.mem_cons_of_mem _ (List.getElem_mem (l := r) (n := i) (by simp at hi; omega))))
theorem told_short (cs : List (List Int)) (h2 : 2 ≤ cs.length) : 2 + (toldL (saysC cs) (cs.drop 2)).length ≤ cs.length := by
  rw [toldL_len, List.length_drop]; omega
theorem encL_sec {τ : List Int → List Int} (hτ : ∀ t, IsBytes (τ t)) {count : Int} {l : List PutOf} (hl : ∀ p ∈ l, p.ok) : ∀ s ∈ encL τ count l, IsSec s := fun s hs => by
  unfold encL at hs
  rcases List.mem_cons.1 hs with rfl | hs
  · exact firstL_sec _ _
  · rcases List.mem_cons.1 hs with rfl | hs
    · exact padS_sec (hτ _)
    · obtain ⟨p, hp, rfl⟩ := List.mem_map.1 hs
      exact hl p hp
theorem getD_mem {α : Type} {l : List α} {i : Nat} (d : α) (h : i < l.length) : l.getD i d ∈ l := by
  rw [List.getD_eq_getElem?_getD, List.getElem?_eq_getElem h]; exact List.getElem_mem h
attribute [local irreducible] putC natF secC encL countL toldL saysC goodE tauK decE
set_option maxRecDepth 100000 in
set_option maxHeartbeats 4000000 in
theorem Decode_any (kp : Option Addr) (nk kc : Nat) (g : Nat → Nat) (hnk : nk ≤ 100000) (hkc : nk ≤ kc) (hg : ∀ i, i < nk → g i < 256) (q : Option Addr) (cap : Nat) (cs : List (List Int)) (hcs : ∀ s ∈ cs, IsSec s) (hn : cs.length ≤ 1000) (w : World) (hT : TabAt w) (hk : BytesAt w kp nk g) (hp : RowsAt 128 secC w q cs) :
    Calls Tryd.prog 17 #[.slice kp nk kc, .slice q cs.length cap] w fun e w' => DecSays (decE (tauK nk g) cs) w' e ∧ Below w.heap.size w w' := by
  have HB0 := Lib.hid (Below.refl w.heap.size w)
  by_cases h2 : cs.length < 2
  · have HX := Lib.hid (dec_none (tauK nk g) h2)
    have d1 : decide ((cs.length : Int) < 2) = true := decide_eq_true (by omega)
    have d2 : decide (cs.length < 2) = true := decide_eq_true h2
    clear hp hk hT hcs hg h2
    generalize cs.length = m at *
    go_enter Tryd.func17, Tryd.ntmps17
    go_wp2
    go_ret3
    exact ⟨.none' HX.out, HB0.out⟩
  have h2' : 2 ≤ cs.length := by omega
  have d1 : decide ((cs.length : Int) < 2) = false := decide_eq_false (by omega)
  have d2 : decide (cs.length < 2) = false := decide_eq_false h2
  have hta := told_ats cs hcs h2'
  have hsh := told_short cs h2'
  have HTO := Lib.hid (fun W hp => told_any q cap cs hcs h2' hn W hp)
  have HDE := Lib.hid (decE_is (tauK nk g) h2')
  have HCI := Lib.hid (fun i (hi : i < cs.length) => hcs _ (getD_mem [] hi))
  have h56 : (toldL (saysC cs) (cs.drop 2)).length ≤ 56 := by rw [toldL_len]; have := saysC_len cs; omega
  have HEN := Lib.hid (fun (p : Option Addr) (c : Nat) (W : World) hT hk hp => Encode_any kp nk kc g hnk hkc hg (countL (cs.getD 0 [])) p c (toldL (saysC cs) (cs.drop 2)) (by omega) (fun x hx => ⟨by have := (hta x hx).1.1; omega, by have := (hta x hx).1.2; omega⟩) (fun x hx => (hta x hx).2) W hT hk hp)
  have HES := Lib.hid (encL_sec (τ := tauK nk g) (tauK_bytes nk g) (count := countL (cs.getD 0 [])) (l := toldL (saysC cs) (cs.drop 2)) (fun x hx => (hta x hx).2))
  have HEL := Lib.hid (encL_len (tauK nk g) (countL (cs.getD 0 [])) (toldL (saysC cs) (cs.drop 2)))
  have hpf := prefix_iff (E := encL (tauK nk g) (countL (cs.getD 0 [])) (toldL (saysC cs) (cs.drop 2))) (cs := cs) (by rw [HEL.out]; exact hsh)
  have HPF := Lib.hid hpf
  have HSH := Lib.hid hsh
  have HP := Lib.hid hp
  have HK := Lib.hid hk
  have HT := Lib.hid hT
  have HN := Lib.hid hn
  clear hpf hta hsh hp hk hT hcs hg h2 h2' hn h56
  generalize hm : cs.length = m at *
  generalize hct : countL (cs.getD 0 []) = ct at *
  generalize hl : toldL (saysC cs) (cs.drop 2) = l at *
  have HCT := Lib.hid hct
  have HLL := Lib.hid hl
  clear hct hl
  go_enter Tryd.func17, Tryd.ntmps17
  by_cases hgd : goodE ct l
  · have HGD := Lib.hid hgd
    clear hgd
    go_wp2_with (first
      | (go_at_call 33; refine (HTO.out w HP.out).mono ?_; rintro e w1 ⟨⟨pp, pc, rfl, hr⟩, hb⟩
         have R1 := Lib.hid hr
         have B1 := Lib.hid hb
         have T1 := Lib.hid (HT.out.on hb)
         have K1 := Lib.hid (HK.out.below hb)
         have P1 := Lib.hid (HP.out.below hb)
         clear hr hb HTO)
      | (go_at_call 9; refine (HEN.out pp pc w1 T1.out K1.out R1.out).mono ?_; rintro e w2 ⟨hs, hb⟩
         unfold EncSays at hs
         obtain ⟨_, E, c, rfl, hE, hc, hr⟩ := hs.resolve_right (fun h => h.1 HGD.out)
         have R2 := Lib.hid hr
         have Q2 := Lib.hid (R1.out.below hb)
         have P2 := Lib.hid (P1.out.below hb)
         have B2 := Lib.hid (B1.out.trans (hb.mono B1.out.size))
         clear hs hb hE hc hr R1 P1 B1 T1 K1 HEN))
    generalize hN : (encL (tauK nk g) ct l).length = N at *
    have HNM := Lib.hid (show N ≤ m by have := HSH.out; have := HEL.out; omega)
    go_loopw [31] (fun v31 wr => ∃ i : Nat, i ≤ N ∧ v31 = .int .i64 i ∧ (∀ j, j < i → (encL (tauK nk g) ct l).getD j [] = cs.getD j []) ∧ Below w2.heap.size w2 wr) (fun v31 _ => N - (intOf v31).toNat)
    case atStart => exact ⟨0, Nat.zero_le _, rfl, fun j hj => absurd hj (Nat.not_lt_zero _), Below.refl _ _⟩
    case round =>
      obtain ⟨i, hi, rfl, hj, hb⟩ := hrel
      have HJ := Lib.hid hj
      have HB := Lib.hid hb
      clear hj hb
      by_cases hlt : i < N
      · have him : i < m := by have := HNM.out; omega
        obtain ⟨Bc, oc, rfl, hBc, hrc⟩ := secsAt_get (P2.out.below HB.out) (show i < cs.length by omega)
        obtain ⟨Be, oe, he, hBe, hre⟩ := secsAt_get (R2.out.below HB.out) (show i < (encL (tauK nk g) ct l).length by omega)
        cases he
        rw [Nat.zero_add] at hre
        have hse := HES.out _ (getD_mem [] (show i < (encL (tauK nk g) ct l).length by omega))
        have hsc := HCI.out i him
        have HSE := Lib.hid (show mk 128 (natF ((encL (tauK nk g) ct l).getD i [])) = (encL (tauK nk g) ct l).getD i [] from hse.mk')
        have HSC := Lib.hid (show mk 128 (natF (cs.getD i [])) = cs.getD i [] from hsc.mk')
        have EQ := Lib.hid (Equal_any (some ⟨E, 128 * i, none⟩) 128 128 (natF ((encL (tauK nk g) ct l).getD i [])) (some ⟨Bc, oc + 128 * i, none⟩) 128 128 (natF (cs.getD i [])) (fun j _ => natF_lt hse.2 j) (fun j _ => natF_lt hsc.2 j) (by decide) (by decide) wr.drew (sec_bytes (W := wr.drew) hre hBe) (sec_bytes (W := wr.drew) hrc hBc))
        rw [HSE.out, HSC.out] at EQ
        have HXT := Lib.hid (fun (h : (encL (tauK nk g) ct l).getD i [] = cs.getD i []) j (hj : j < i + 1) => show (encL (tauK nk g) ct l).getD j [] = cs.getD j [] from by
          by_cases e : j = i
          · subst e; exact h
          · exact HJ.out j (by omega))
        have HXN := Lib.hid (fun (h : ¬ (encL (tauK nk g) ct l).getD i [] = cs.getD i []) (hp : encL (tauK nk g) ct l <+: cs) => h (HPF.out.2 hp i (by omega)))
        have f1 : (i : Int) < (N : Int) := by omega
        have f2 : (0 : Int) ≤ i := by omega
        have f3 : IntKind.i64.wrap ((i : Int) + 1) = ((i + 1 : Nat) : Int) := by have := HN.out; rw [IntWalk.i64_in _ (by omega)]; omega
        have HLT := Lib.hid hlt
        have HIM := Lib.hid him
        clear hlt him hBc hrc hBe hre hse hsc HSE HSC
        generalize (encL (tauK nk g) ct l).getD i [] = x at *
        generalize cs.getD i [] = y at *
        go_wp2
        refine wp_region_sched [(0, true), (1, true), (2, true), (3, true), (4, true), (5, true), (6, true), (7, true), (8, false), (9, true)] (fun _ => True) (by kernel_rfl) (by kernel_rfl) trivial ?_
        iterate 8 (
          refine walk_float rfl rfl (fun K hK => ?_)
          first
            | (refine gives_move _ rfl ?_)
            | (refine gives_sec_elem _ _ rfl E 0 N c i rfl rfl HLT.out ?_)
            | (refine gives_sec_elem _ _ rfl Bc oc m cap i rfl rfl HIM.out ?_)
            | (refine gives_arr_slice 31 5 128 secUnder rfl _ rfl E (128 * i) rfl ?_)
            | (refine gives_arr_slice 31 5 128 secUnder rfl _ rfl Bc (oc + 128 * i) rfl ?_)
          go_simp
          refine hK _ ?_
          clear hK K)
        refine walk_done rfl rfl (fun K hK => ?_)
        refine done_enter2 _ _ _ _ rfl 34 rfl (enters_of Tryd.func34 (by kernel_rfl) rfl) _ _ rfl rfl _ EQ.out (fun e w5 h5 => ?_)
        obtain ⟨rfl, h5w⟩ := h5
        subst h5w
        refine ⟨_, rfl, trivial, ?_⟩
        go_simp
        refine hK _ _ ?_
        clear hK K EQ
        by_cases hxy : x = y
        · rw [decide_eq_true hxy]
          have HX := Lib.hid (HXT.out hxy)
          clear hxy
          refine walk_float rfl rfl (fun K hK => ?_)
          refine gives_not2 _ _ rfl true false rfl rfl ?_
          go_simp
          refine hK _ ?_
          clear hK K
          refine walk_nil ?_
          go_wp2
          go_roundw
          case rel => exact ⟨i + 1, HLT.out, by go_num, HX.out, HB.out.drew⟩
          case measure => have := HLT.out; simp [intOf]; omega
        · rw [decide_eq_false hxy]
          have HX := Lib.hid (HXN.out hxy)
          clear hxy
          refine walk_float rfl rfl (fun K hK => ?_)
          refine gives_not2 _ _ rfl false true rfl rfl ?_
          go_simp
          refine hK _ ?_
          clear hK K
          refine walk_nil ?_
          go_wp2
          go_ret3
          exact ⟨.none' (by rw [HDE.out, if_neg fun h => HX.out h.2]), B2.out.trans (HB.out.drew.mono B2.out.size)⟩
      · have f1 : ¬ (i : Int) < (N : Int) := by omega
        obtain rfl : i = N := by omega
        have HX := Lib.hid (HPF.out.1 HJ.out)
        clear hlt hi
        go_wp2
        go_ret3
        exact ⟨.some' (by rw [HDE.out, if_pos ⟨HGD.out, HX.out⟩]) (Q2.out.below HB.out), B2.out.trans (HB.out.mono B2.out.size)⟩
  · have HGD := Lib.hid hgd
    clear hgd
    go_wp2_with (first
      | (go_at_call 33; refine (HTO.out w HP.out).mono ?_; rintro e w1 ⟨⟨pp, pc, rfl, hr⟩, hb⟩
         have R1 := Lib.hid hr
         have B1 := Lib.hid hb
         have T1 := Lib.hid (HT.out.on hb)
         have K1 := Lib.hid (HK.out.below hb)
         have P1 := Lib.hid (HP.out.below hb)
         clear hr hb HTO)
      | (go_at_call 9; refine (HEN.out pp pc w1 T1.out K1.out R1.out).mono ?_; rintro e w2 ⟨hs, hb⟩
         unfold EncSays at hs
         obtain ⟨_, rfl⟩ := hs.resolve_left (fun h => HGD.out h.1)
         have B2 := Lib.hid (B1.out.trans (hb.mono B1.out.size))
         clear hs hb R1 P1 B1 T1 K1 HEN))
    go_ret3
    exact ⟨.none' (by rw [HDE.out, if_neg fun h => HGD.out h.1]), B2.out⟩
end Go.Proofs.YtdeojhcfbiekmaaDoor
