/- The contracts of slices.IndexFunc and slices.DeleteFunc over places, with the closure that asks for one place. Conditions: the places lie in memory, at most 1000; the place asked for lies in a box apart. -/
import Derived.Test.YtlaclakndleonaaCmRow
import Derived.WalkMore
namespace Go.Proofs.Ytlaclakndleonaa
open Go.ChangeShapes Go.WideShapes Go.ChangeAt Go.RowKit
set_option linter.unusedVariables false
def idxP (ks : List (Int × Int)) (u c : Int) : Nat := ks.findIdx fun p => isP p u c
def idxZ (ks : List (Int × Int)) (u c : Int) : Int := if idxP ks u c < ks.length then (idxP ks u c : Nat) else -1
def atP (ks : List (Int × Int)) (k : Nat) : Int × Int := ks.getD k (0, 0)
theorem atP_get {ks : List (Int × Int)} {k : Nat} (h : k < ks.length) : ks[k]? = some (atP ks k) := by unfold atP; rw [List.getD_eq_getElem?_getD, List.getElem?_eq_getElem h]; rfl
theorem atP_eq {ks : List (Int × Int)} {k : Nat} (h : k < ks.length) : atP ks k = ks[k] := by have := atP_get h; rw [List.getElem?_eq_getElem h] at this; exact (Option.some.inj this).symm
theorem idxP_here {ks : List (Int × Int)} {u c : Int} {i : Nat} (hi : i < ks.length) (h : i ≤ idxP ks u c) (hp : isP (atP ks i) u c = true) : idxP ks u c = i := by
  rw [atP_eq hi] at hp
  unfold idxP at h ⊢
  rcases Nat.lt_or_ge i (ks.findIdx fun p => isP p u c) with hlt | hge
  · rw [List.not_of_lt_findIdx hlt] at hp; cases hp
  · omega
theorem idxP_next {ks : List (Int × Int)} {u c : Int} {i : Nat} (hi : i < ks.length) (h : i ≤ idxP ks u c) (hp : isP (atP ks i) u c = false) : i + 1 ≤ idxP ks u c := by
  rw [atP_eq hi] at hp
  unfold idxP at h ⊢
  rcases Nat.lt_or_ge i (ks.findIdx fun p => isP p u c) with hlt | hge
  · exact hlt
  · have e : ks.findIdx (fun p => isP p u c) = i := by omega
    have h2 : ks.findIdx (fun p => isP p u c) < ks.length := by omega
    have := List.findIdx_getElem (w := h2)
    simp only [e] at this
    rw [hp] at this; cases this
theorem PB.at {W : World} {B cap : Nat} {l : List (Int × Int)} (h : PB W B cap l) {k : Nat} (hk : k < l.length) : W.rangeAt B (2 * k) (placeC (atP l k)) := h.range hk
attribute [local irreducible] placeC atP isP
attribute [local go_sem] Oper.semAt_some
set_option maxRecDepth 100000 in
set_option maxHeartbeats 1000000 in
theorem IndexFunc_any {w : World} {B cap : Nat} {ks : List (Int × Int)} (hB : PB w B cap ks) (hk : ks.length ≤ 1000) (P : Nat) (u c : Int) (hP : PlBox w P u c) (c2 : Nat) :
    Calls Try.prog 36 #[.slice (some ⟨B, 0, none⟩) ks.length c2, .func (.func 35) #[] #[.pointer (some ⟨P, 0, none⟩)]] w fun e w' => e = .returned (.int .i64 (idxZ ks u c)) ∧ Below w.heap.size w w' := by
  have HR := Lib.hid hB
  have HP := Lib.hid hP
  have HK := Lib.hid hk
  have HN := Lib.hid (show ∀ i, i < ks.length → i ≤ idxP ks u c → isP (atP ks i) u c = false → i + 1 ≤ idxP ks u c from fun i h1 h2 h3 => idxP_next h1 h2 h3)
  have HH := Lib.hid (show ∀ i, i < ks.length → i ≤ idxP ks u c → isP (atP ks i) u c = true → idxZ ks u c = (i : Nat) from fun i h1 h2 h3 => by
    have e := idxP_here h1 h2 h3
    unfold idxZ; rw [e, if_pos h1])
  have HE := Lib.hid (show ks.length ≤ idxP ks u c → idxZ ks u c = -1 from fun h => by unfold idxZ; rw [if_neg (by omega)])
  have B0 := Lib.hid (Below.refl w.heap.size w)
  clear hB hP hk
  generalize hn : ks.length = n at *
  go_enter Try.func36, Try.ntmps36
  go_wp2
  go_loopw [8, 5] (fun v8 v5 wr => ∃ i : Nat, i ≤ n ∧ v8 = .int .i64 i ∧ i ≤ idxP ks u c ∧ Below w.heap.size w wr) (fun v8 _ _ => n - (intOf v8).toNat)
  case atStart => exact ⟨0, Nat.zero_le _, rfl, Nat.zero_le _, B0.out⟩
  case round =>
    obtain ⟨i, hi, rfl, hf, hb⟩ := hrel
    have HB := Lib.hid hb
    have HF := Lib.hid hf
    clear hb hf B0
    by_cases hlt : i < n
    · have f1 : (i : Int) < (n : Int) := by omega
      have HLT := Lib.hid hlt
      have f3 : IntKind.i64.wrap ((i : Int) + 1) = ((i + 1 : Nat) : Int) := by have := HK.out; rw [IntWalk.i64_in _ (by omega)]; omega
      have HRK := Lib.hid (show wr.rangeAt B (2 * i) (placeC (atP ks i)) from rangeAt_below (HR.out.at (k := i) (by omega)) HB.out HR.out.lt)
      have HPW := Lib.hid (HP.out.keep (HB.out.block P HP.out.lt))
      have HXN := Lib.hid (HN.out i hlt HF.out)
      have HXH := Lib.hid (HH.out i hlt HF.out)
      clear hi hlt
      generalize atP ks i = p at *
      obtain ⟨x, y⟩ := p
      have HC := Lib.hid (asks_any P u c x y HPW.out)
      generalize hd : isP (x, y) u c = d at *
      cases d with
      | false =>
        go_wp2_with (first
          | (refine wpList_pl_elem rfl _ _ rfl B n c2 i rfl rfl HLT.out ?_)
          | (refine wpList_pl_load rfl _ rfl B (2 * i) rfl x y HRK.out ?_)
          | (go_at_call 35
             refine HC.out.mono ?_; rintro e w4 ⟨rfl, hb4⟩
             have H4 := Lib.hid (HB.out.trans (hb4.mono HB.out.size))
             clear hb4))
        go_roundw
        case rel => exact ⟨i + 1, HLT.out, by go_num, HXN.out trivial, H4.out⟩
        case measure => have := HLT.out; simp [intOf]; omega
      | true =>
        go_wp2_with (first
          | (refine wpList_pl_elem rfl _ _ rfl B n c2 i rfl rfl HLT.out ?_)
          | (refine wpList_pl_load rfl _ rfl B (2 * i) rfl x y HRK.out ?_)
          | (go_at_call 35
             refine HC.out.mono ?_; rintro e w4 ⟨rfl, hb4⟩
             have H4 := Lib.hid (HB.out.trans (hb4.mono HB.out.size))
             clear hb4))
        go_ret
        exact ⟨by rw [HXH.out trivial]; rfl, H4.out⟩
    · have f1 : ¬ (i : Int) < (n : Int) := by omega
      obtain rfl : i = n := by omega
      have e := HE.out HF.out
      clear hlt hi
      go_wp2
      go_ret
      exact ⟨rfl, HB.out⟩
end Go.Proofs.Ytlaclakndleonaa
