/- The contract of slices.DeleteFunc over places, with the closure that asks for one place. Conditions: the places lie in memory, at most 1000; the place asked for lies in a box apart. -/
import Derived.Test.YtlaclakndleonaaCmDel
namespace Go.Proofs.Ytlaclakndleonaa
open Go.ChangeShapes Go.WideShapes Go.ChangeAt Go.RowKit
set_option linter.unusedVariables false
theorem take_snocP {ks : List (Int × Int)} {j : Nat} (hj : j < ks.length) : ks.take (j + 1) = ks.take j ++ [atP ks j] := by
  rw [List.take_add_one, List.getElem?_eq_getElem hj, atP_eq hj]; rfl
/-- Between two rounds: the first i places are those of the first j that stay, and all from the j-th on is as it was. -/
structure DelI (ks : List (Int × Int)) (u c : Int) (i j : Nat) (cur : List (Int × Int)) : Prop where
  lt : i < j
  le : j ≤ ks.length
  len : cur.length = ks.length
  take : cur.take i = without (ks.take j) u c
  drop : cur.drop j = ks.drop j
section
variable {ks cur : List (Int × Int)} {u c : Int} {i j : Nat}
theorem without_app (a b : List (Int × Int)) (u c : Int) : without (a ++ b) u c = without a u c ++ without b u c := List.filter_append ..
theorem without_yes {p : Int × Int} (h : isP p u c = true) : without [p] u c = [] := by unfold isP at h; unfold without; simp only [List.filter_cons, List.filter_nil]; rw [h]; rfl
theorem without_not {p : Int × Int} (h : isP p u c = false) : without [p] u c = [p] := by unfold isP at h; unfold without; simp only [List.filter_cons, List.filter_nil]; rw [h]; rfl
theorem DelI.start (h : idxP ks u c < ks.length) : DelI ks u c (idxP ks u c) (idxP ks u c + 1) ks := by
  refine ⟨by omega, h, rfl, ?_, rfl⟩
  have hp : isP (atP ks (idxP ks u c)) u c = true := by rw [atP_eq h]; exact List.findIdx_getElem (w := h)
  rw [take_snocP h, without_app, without_yes hp, List.append_nil]
  refine (List.filter_eq_self.2 fun p hp => ?_).symm
  obtain ⟨m, hm, e⟩ := List.mem_iff_getElem.1 hp
  rw [List.length_take] at hm
  rw [List.getElem_take] at e
  have := List.not_of_lt_findIdx (p := fun p => isP p u c) (xs := ks) (i := m) (by unfold idxP at hm; omega)
  rw [e] at this
  show (!(isP p u c)) = true
  rw [this]; rfl
theorem DelI.at (h : DelI ks u c i j cur) (hj : j < ks.length) : atP cur j = atP ks j := by
  have e := congrArg (fun l => l[0]?) h.drop
  simp only [List.getElem?_drop, Nat.add_zero] at e
  have h2 : j < cur.length := by rw [h.len]; exact hj
  rw [atP_get hj, atP_get h2] at e
  exact Option.some.inj e
theorem DelI.skip (h : DelI ks u c i j cur) (hj : j < ks.length) (hp : isP (atP ks j) u c = true) : DelI ks u c i (j + 1) cur := by
  refine ⟨by have := h.lt; omega, hj, h.len, ?_, ?_⟩
  · rw [take_snocP hj, without_app, without_yes hp, List.append_nil]; exact h.take
  · rw [← List.drop_drop, ← List.drop_drop, h.drop]
theorem DelI.move (h : DelI ks u c i j cur) (hj : j < ks.length) (hp : isP (atP ks j) u c = false) : DelI ks u c (i + 1) (j + 1) (cur.set i (atP ks j)) := by
  have h1 := h.lt
  have hl := h.len
  refine ⟨by omega, hj, by rw [List.length_set]; exact h.len, ?_, ?_⟩
  · rw [take_snocP hj, without_app, without_not hp, ← h.take, List.take_set]
    rw [List.take_add_one, List.set_append_right _ _ (by rw [List.length_take]; omega), List.length_take, Nat.min_eq_left (by omega), Nat.sub_self, List.getElem?_eq_getElem (by omega)]
    rfl
  · rw [List.drop_set_of_lt (by omega), ← List.drop_drop, ← List.drop_drop, h.drop]
theorem DelI.done (h : DelI ks u c i j cur) (hj : j = ks.length) : cur.take i = without ks u c := by
  have := h.take
  rw [hj, List.take_length] at this
  exact this
end
theorem without_none {ks : List (Int × Int)} {u c : Int} (h : ¬ idxP ks u c < ks.length) : without ks u c = ks := List.filter_eq_self.2 fun p hp => by
  show (!(isP p u c)) = true
  cases hq : isP p u c with
  | false => rfl
  | true => exact absurd (List.findIdx_lt_length_of_exists ⟨p, hp, hq⟩) h
attribute [local irreducible] placeC atP isP
attribute [local go_sem] Oper.semAt_some
theorem IndexFunc_nil (w : World) (fv : Value) :
    Calls Try.prog 36 #[.slice none 0 0, fv] w fun e w' => e = .returned (.int .i64 (-1)) ∧ w = w' := by
  go_enter Try.func36, Try.ntmps36
  go_wp2
  go_loopw [8] (fun v8 wr => v8 = .int .i64 0 ∧ wr = w) (fun _ _ => 0)
  case atStart => exact ⟨rfl, rfl⟩
  case round =>
    obtain ⟨rfl, rfl⟩ := hrel
    go_wp2
    go_ret
    exact ⟨rfl, rfl⟩
set_option maxRecDepth 100000 in
set_option maxHeartbeats 2000000 in
theorem DeleteFunc_row {w : World} {B cap : Nat} {ks : List (Int × Int)} (hB : PB w B cap ks) (hk : ks.length ≤ 1000) (hc : ks.length ≤ cap) (P : Nat) (u c : Int) (hP : PlBox w P u c) (hne : P ≠ B) :
    Calls Try.prog 34 #[.slice (some ⟨B, 0, none⟩) ks.length cap, .func (.func 35) #[] #[.pointer (some ⟨P, 0, none⟩)]] w fun e w' =>
      ∃ cur k, e = .returned (.slice (some ⟨B, 0, none⟩) k cap) ∧ PB w' B cap cur ∧ k ≤ cur.length ∧ cur.length ≤ cap ∧ cur.take k = without ks u c ∧ Keeps (fun j => j = B) w w' := by
  have HR := Lib.hid hB
  have HP := Lib.hid hP
  have HK := Lib.hid hk
  have HC := Lib.hid hc
  have HNE := Lib.hid hne
  have HF := Lib.hid (IndexFunc_any hB hk P u c hP cap)
  have KW := Lib.hid (fun (W : World) (l : List (Int × Int)) (h : Keeps (fun j => j = B) w W) => (show PlBox W P u c from hP.keep (h.block P hP.lt hne)))
  clear hB hP hk hc hne
  generalize hn : ks.length = n at *
  go_enter Try.func34, Try.ntmps34
  by_cases hix : idxP ks u c < n
  · have HS := Lib.hid (DelI.start (show idxP ks u c < ks.length by omega))
    have eZ : idxZ ks u c = (idxP ks u c : Nat) := by unfold idxZ; rw [if_pos (by omega)]
    rw [eZ] at HF
    have HIX := Lib.hid hix
    clear hix eZ
    generalize idxP ks u c = ix at *
    have g1 : ((ix : Int) == -1) = false := beq_eq_false_iff_ne.2 (by omega)
    have f3 : IntKind.i64.wrap ((ix : Int) + 1) = ((ix + 1 : Nat) : Int) := by have := HK.out; have := HIX.out; rw [IntWalk.i64_in _ (by omega)]; omega
    go_wp2_with (go_at_call 36
                 refine HF.out.mono ?_; rintro e w1 ⟨rfl, hb1⟩
                 have H1 := Lib.hid (Keeps.of (S := fun j => j = B) hb1)
                 have HB1 := Lib.hid (HR.out.keep (hb1.block B HR.out.lt))
                 clear hb1)
    go_loopw [6, 5, 7] (fun v6 v5 _ wr => ∃ (i j : Nat) (cur : List (Int × Int)), v6 = .int .i64 j ∧ v5 = .int .i64 i ∧ DelI ks u c i j cur ∧ PB wr B cap cur ∧ Keeps (fun k => k = B) w wr) (fun v6 _ _ _ => n - (intOf v6).toNat)
    case atStart => exact ⟨ix, ix + 1, ks, by go_num, rfl, HS.out, HB1.out, H1.out⟩
    case round =>
      obtain ⟨i, j, cur, rfl, rfl, hi, hb, hkk⟩ := hrel
      have HI := Lib.hid hi
      have HB := Lib.hid hb
      have HKK := Lib.hid hkk
      have HPW := Lib.hid (KW.out wr cur hkk)
      clear hi hb hkk H1 HB1 HS HF
      by_cases hlt : j < n
      · have f1 : (j : Int) < (n : Int) := by omega
        have HLT := Lib.hid hlt
        have f3 : IntKind.i64.wrap ((j : Int) + 1) = ((j + 1 : Nat) : Int) := by have := HK.out; rw [IntWalk.i64_in _ (by omega)]; omega
        have f4 : IntKind.i64.wrap ((i : Int) + 1) = ((i + 1 : Nat) : Int) := by have := HK.out; have := HI.out.lt; rw [IntWalk.i64_in _ (by omega)]; omega
        have HLI := Lib.hid (show i < n by have := HI.out.lt; omega)
        have HLC := Lib.hid (show cur.length = n from HI.out.len.trans hn)
        have HAT := Lib.hid (show atP cur j = atP ks j from HI.out.at (by omega))
        have HRK := Lib.hid (show wr.rangeAt B (2 * j) (placeC (atP ks j)) from by rw [← HAT.out]; exact HB.out.at (by rw [HLC.out]; exact hlt))
        have HSK := Lib.hid (HI.out.skip (by omega))
        have HMV := Lib.hid (HI.out.move (by omega))
        clear hlt HAT
        generalize atP ks j = p at *
        obtain ⟨x, y⟩ := p
        have HA := Lib.hid (fun W (h : PlBox W P u c) => asks_any P u c x y h)
        generalize hd : isP (x, y) u c = d at *
        cases d with
        | true =>
          have HS2 := Lib.hid (HSK.out rfl)
          clear HSK HMV HI
          go_wp2_with (first
            | (refine wpList_pl_elem rfl _ _ rfl B n cap j rfl rfl HLT.out ?_)
            | (refine wpList_pl_load rfl _ rfl B (2 * j) rfl x y HRK.out ?_)
            | (go_at_call 35
               refine (HA.out _ (HPW.out.keep (Below.heap_alloc _ _ _ HPW.out.lt))).mono ?_; rintro e w4 ⟨rfl, hb4⟩
               have L4 := Lib.hid (((Below.refl wr.heap.size wr).alloc (Nat.le_refl _) (.cells #[.int .i64 x, .int .i64 y] plT)).trans (hb4.mono (by rw [World.size_alloc]; omega)))
               have X4 := Lib.hid (show PlBox w4 wr.heap.size x y from (PlBox.alloc wr x y).keep (hb4.block _ (by rw [World.size_alloc]; omega)))
               have B4 := Lib.hid (HB.out.keep (L4.out.block B HB.out.lt))
               have K4 := Lib.hid (HKK.out.trans (Keeps.of L4.out))
               clear hb4))
          go_roundw
          case rel => exact ⟨i, j + 1, cur, by go_num, rfl, HS2.out, B4.out, K4.out⟩
          case measure => have := HLT.out; simp [intOf]; omega
        | false =>
          have HS2 := Lib.hid (HMV.out rfl)
          clear HSK HMV HI
          go_wp2_with (first
            | (refine wpList_pl_elem rfl _ _ rfl B n cap j rfl rfl HLT.out ?_)
            | (refine wpList_pl_load rfl _ rfl B (2 * j) rfl x y HRK.out ?_)
            | (go_at_call 35
               refine (HA.out _ (HPW.out.keep (Below.heap_alloc _ _ _ HPW.out.lt))).mono ?_; rintro e w4 ⟨rfl, hb4⟩
               have L4 := Lib.hid (((Below.refl wr.heap.size wr).alloc (Nat.le_refl _) (.cells #[.int .i64 x, .int .i64 y] plT)).trans (hb4.mono (by rw [World.size_alloc]; omega)))
               have X4 := Lib.hid (show PlBox w4 wr.heap.size x y from (PlBox.alloc wr x y).keep (hb4.block _ (by rw [World.size_alloc]; omega)))
               have B4 := Lib.hid (HB.out.keep (L4.out.block B HB.out.lt))
               have K4 := Lib.hid (HKK.out.trans (Keeps.of L4.out))
               clear hb4)
            | (refine wpList_pl_load rfl _ rfl wr.heap.size 0 rfl x y X4.out.range ?_)
            | (refine wpList_pl_elem rfl _ _ rfl B n cap i rfl rfl HLI.out ?_)
            | (refine wpList_pl_put rfl _ _ rfl rfl B (2 * i) rfl x y rfl (B4.out.there (by have := HLI.out; have := HLC.out; omega)) ?_
               have B5 := Lib.hid (B4.out.set (i := i) (by have := HLI.out; have := HLC.out; omega) x y)
               have K5 := Lib.hid (K4.out.trans (keeps_setCells B (placeC (x, y)) (2 * i) w4))
               clear B4 K4))
          go_roundw
          case rel => exact ⟨i + 1, j + 1, cur.set i (x, y), by go_num, by go_num, HS2.out, B5.out, K5.out⟩
          case measure => have := HLT.out; simp [intOf]; omega
      · have f1 : ¬ (j : Int) < (n : Int) := by omega
        have hj : j = n := by have := HI.out.le; omega
        have HD := Lib.hid (HI.out.done (by omega))
        have HLI := Lib.hid (show i ≤ n by have := HI.out.lt; omega)
        have HLC := Lib.hid (show cur.length = n from HI.out.len.trans hn)
        clear hj hlt HI
        go_wp2_with (first
          | (refine wpList_pl_from rfl _ _ rfl (some ⟨B, 0, none⟩) n cap i rfl rfl HLI.out HC.out ?_
             intro q0 hq0; have HQ0 := Lib.hid hq0; clear hq0)
          | (refine wpList_pl_clear rfl _ rfl B n cap i _ rfl HQ0.out HLI.out HC.out cur HLC.out HB.out ?_
             intro w5 B5 K5
             have H5 := Lib.hid B5
             have K6 := Lib.hid (HKK.out.trans K5)
             clear B5 K5)
          | (refine wpList_pl_upto rfl _ _ rfl (some ⟨B, 0, none⟩) n cap i rfl rfl (by have := HLI.out; have := HC.out; omega) ?_))
        go_ret
        have hl : (cur.take i).length = i := by rw [List.length_take, HLC.out]; have := HLI.out; omega
        exact ⟨cur.take i, i, rfl, H5.out, by omega, by have := HLI.out; have := HC.out; omega, by rw [List.take_of_length_le (by omega)]; exact HD.out, K6.out⟩
  · have eZ : idxZ ks u c = -1 := by unfold idxZ; rw [if_neg (by omega)]
    rw [eZ] at HF
    have HW := Lib.hid (without_none (show ¬ idxP ks u c < ks.length by rw [hn]; exact hix))
    clear hix eZ
    go_wp2_with (go_at_call 36
                 refine HF.out.mono ?_; rintro e w1 ⟨rfl, hb1⟩
                 have H1 := Lib.hid (Keeps.of (S := fun j => j = B) hb1)
                 have HB1 := Lib.hid (HR.out.keep (hb1.block B HR.out.lt))
                 clear hb1)
    go_ret
    exact ⟨ks, n, rfl, HB1.out, by omega, by rw [hn]; exact HC.out, by rw [HW.out, List.take_of_length_le (by omega)], H1.out⟩
end Go.Proofs.Ytlaclakndleonaa
