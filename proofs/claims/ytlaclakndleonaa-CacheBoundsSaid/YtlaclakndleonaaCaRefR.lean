/- The contract of the document's Drop. Condition: the cache lies in memory. -/
import Derived.Test.YtlaclakndleonaaCaRefC
namespace Go.Proofs.Ytlaclakndleonaa
open Go.ChangeShapes Go.WideShapes Go.ChangeAt Go.RowKit
set_option linter.unusedVariables false
/-- The lines behind the k-th on without a unit's. -/
def dropK (ls : List LineOf) (u : Int) (k : Nat) : List LineOf := ls.take k ++ dropL (ls.drop k) u
theorem dropK_zero (ls : List LineOf) (u : Int) : dropK ls u 0 = dropL ls u := by unfold dropK; simp
theorem dropK_all (ls : List LineOf) (u : Int) : dropK ls u ls.length = ls := by unfold dropK dropL; simp
theorem dropK_len (ls : List LineOf) (u : Int) {k : Nat} (hk : k ≤ ls.length) : k ≤ (dropK ls u k).length ∧ (dropK ls u k).length ≤ ls.length := by
  unfold dropK dropL
  have := List.length_filter_le (fun l : LineOf => !(l.u == u)) (ls.drop k)
  simp at this ⊢
  omega
theorem drop_cons {ls : List LineOf} {k : Nat} (hk : k < ls.length) : ls.drop k = lineAt ls k :: ls.drop (k + 1) := by rw [List.drop_eq_getElem_cons hk, lineAt_eq hk]
theorem dropK_at {ls : List LineOf} {u : Int} {k : Nat} (hk : k < ls.length) : lineAt (dropK ls u (k + 1)) k = lineAt ls k := by
  have h1 : (dropK ls u (k + 1))[k]? = some (lineAt ls k) := by
    unfold dropK
    rw [List.getElem?_append_left (by simp; omega), List.getElem?_take_of_lt (by omega)]
    exact lineAt_get hk
  have h2 := lineAt_get (ls := dropK ls u (k + 1)) (i := k) (by have := (dropK_len ls u (k := k + 1) hk).1; omega)
  rw [h1] at h2
  exact (Option.some.inj h2).symm
theorem dropK_off {ls : List LineOf} {u : Int} {k : Nat} (hk : k < ls.length) (h : (lineAt ls k).u = u) : dropK ls u k = outL (dropK ls u (k + 1)) k := by
  have e1 : (ls.take k).length = k := by rw [List.length_take]; omega
  unfold dropK outL dropL
  rw [drop_cons hk, List.filter_cons_of_neg (by simp [h]), take_snoc hk, List.append_assoc, List.eraseIdx_append_of_length_le (by omega), e1, Nat.sub_self]
  rfl
theorem dropK_on {ls : List LineOf} {u : Int} {k : Nat} (hk : k < ls.length) (h : (lineAt ls k).u ≠ u) : dropK ls u k = dropK ls u (k + 1) := by
  unfold dropK dropL
  rw [drop_cons hk, List.filter_cons_of_pos (by simp [h]), take_snoc hk, List.append_assoc]
  rfl
theorem dropK_ok {ls : List LineOf} (h : ∀ l ∈ ls, l.ok) (u : Int) (k : Nat) : ∀ l ∈ dropK ls u k, l.ok := fun l hl => by
  unfold dropK dropL at hl
  rcases List.mem_append.1 hl with e | e
  · exact h l (List.mem_of_mem_take e)
  · exact h l (List.mem_of_mem_drop ((List.mem_filter.1 e).1))
attribute [local irreducible] dropK outL lineC lineAt dropL
set_option maxRecDepth 100000 in
set_option maxHeartbeats 4000000 in
theorem refDrop_any {w : World} {B : Nat} {q : Int} {v : Value} {ls : List LineOf} (h : RefC w B q v ls) (u : Int) :
    Calls Try.prog 21 #[.pointer (some ⟨B, 0, none⟩), .int .i64 u] w fun e w' => e = .returned (.int .i64 ((ls.length - (dropL ls u).length : Nat) : Int)) ∧ RefTo w w' B q v (dropL ls u) := by
  obtain ⟨p, c, hv, -, -, -, -⟩ := h.own.rows elemLine.len
  have c1 := h.c1
  rw [hv] at c1
  have HF := Lib.hid h.few
  have HZ := Lib.hid (dropK_zero ls u)
  have HA := Lib.hid (dropK_all ls u)
  have HL := Lib.hid (fun k (hk : k ≤ ls.length) => dropK_len ls u hk)
  have HAT := Lib.hid (fun k (hk : k < ls.length) => dropK_at (ls := ls) (u := u) hk)
  have HOF := Lib.hid (fun k (hk : k < ls.length) (he : (lineAt ls k).u = u) => dropK_off (ls := ls) (u := u) hk he)
  have HON := Lib.hid (fun k (hk : k < ls.length) (he : (lineAt ls k).u ≠ u) => dropK_on (ls := ls) (u := u) hk he)
  have HS := Lib.hid (show RefTo w w B q v (dropK ls u ls.length) from by rw [HA.out]; exact h.self)
  have HLA := Lib.hid (show (dropK ls u ls.length).length = ls.length from by rw [HA.out])
  clear h hv HA
  generalize hn : ls.length = n at *
  have g1 : IntKind.i64.wrap ((n : Int) - 1) = (n : Int) - 1 := by have := HF.out; rw [IntWalk.i64_in _ (by omega)]
  go_enter Try.func21, Try.ntmps21
  go_wp2
  go_loopw [6, 5] (fun v6 v5 wr => ∃ k : Nat, k ≤ n ∧ v6 = .int .i64 ((k : Int) - 1) ∧ v5 = .int .i64 ((n - (dropK ls u k).length : Nat) : Int) ∧ RefTo w wr B q v (dropK ls u k)) (fun v6 _ _ => (intOf v6 + 1).toNat)
  case atStart => exact ⟨n, Nat.le_refl _, rfl, by rw [HLA.out, Nat.sub_self]; rfl, HS.out⟩
  case round =>
    obtain ⟨k, hk, rfl, rfl, ht⟩ := hrel
    have HT := Lib.hid ht
    clear ht HS
    rcases k with _ | k
    · have f1 : ¬ (0 : Int) ≤ ((0 : Nat) : Int) - 1 := by omega
      have f2 : decide ((0 : Int) ≤ ((0 : Nat) : Int) - 1) = false := by simp
      rw [HZ.out] at HT ⊢
      clear hk
      go_wp2
      go_ret
      exact ⟨rfl, HT.out⟩
    · have hkk : k < n := by omega
      have HKN := Lib.hid hkk
      obtain ⟨v1, h1, h2, h3⟩ := HT.out
      have H1 := Lib.hid h1
      obtain ⟨p1, c1', hv1, -, -, hr1, -⟩ := h1.own.rows elemLine.len
      subst hv1
      obtain ⟨LB, o, rfl, hB, hrg⟩ := line_rows hr1 (show k < (dropK ls u (k + 1)).length by have := (HL.out (k + 1) (by omega)).1; omega)
      rw [HAT.out k hkk] at hrg
      have k0 := line_c0 hrg
      have c1 := h1.c1
      have HKL := Lib.hid (show k < (dropK ls u (k + 1)).length by have := (HL.out (k + 1) (by omega)).1; omega)
      have HLL := Lib.hid (HL.out (k + 1) hkk).2
      have z1 : (((k + 1 : Nat) : Int) - 1) = (k : Int) := by omega
      have z2 : IntKind.i64.wrap ((k : Int) - 1) = (k : Int) - 1 := by have := HF.out; rw [IntWalk.i64_in _ (by omega)]
      have f1 : (0 : Int) ≤ (k : Int) := by omega
      rw [z1]
      clear hrg hB hr1 h1 h2 h3 hk
      by_cases hu : (lineAt ls k).u = u
      · have HX := Lib.hid (HOF.out k hkk hu)
        have HO := Lib.hid (refOut_any H1.out k HKL.out)
        have e1 : decide ((lineAt ls k).u = u) = true := by simp [hu]
        have e2 : ((lineAt ls k).u == u) = true := by simp [hu]
        have HLX := Lib.hid (show (dropK ls u k).length = (dropK ls u (k + 1)).length - 1 from by rw [HX.out, outL_len HKL.out])
        generalize hm : (dropK ls u (k + 1)).length = m at *
        have z3 : IntKind.i64.wrap (((n - m : Nat) : Int) + 1) = ((n - m + 1 : Nat) : Int) := by have := HF.out; rw [IntWalk.i64_in _ (by omega)]; omega
        clear hkk hu
        generalize (lineAt ls k).u = lu at *
        go_wp2_with (first
          | (refine wpList_line_elem rfl _ _ rfl LB o m c1' k rfl rfl HKL.out ?_)
          | (go_at_call 28; refine (HO.out).mono ?_; rintro e w1 ⟨rfl, v2, h1, h2, h3⟩
             have T2 := Lib.hid (HT.out.trans fun v1' h1' => by
               obtain rfl : v1' = _ := ref_val h1' H1.out
               exact RefTo.of_out h1 h2 h3)
             clear h1 h2 h3))
        go_roundw
        case rel => exact ⟨k, Nat.le_of_lt HKN.out, by go_num, by rw [HLX.out]; have := HKL.out; have := HLL.out; congr 2; omega, by rw [HX.out]; exact T2.out⟩
        case measure => have := HKN.out; simp [intOf]
      · have HX := Lib.hid (HON.out k hkk hu)
        have e1 : decide ((lineAt ls k).u = u) = false := by simp [hu]
        have e2 : ((lineAt ls k).u == u) = false := by simp [hu]
        generalize hm : (dropK ls u (k + 1)).length = m at *
        have HM := Lib.hid hm
        clear hkk hu hm
        generalize (lineAt ls k).u = lu at *
        go_wp2_with (first
          | (refine wpList_line_elem rfl _ _ rfl LB o m c1' k rfl rfl HKL.out ?_))
        go_roundw
        case rel => exact ⟨k, Nat.le_of_lt HKN.out, by go_num, by rw [HX.out, HM.out], by rw [HX.out]; exact HT.out⟩
        case measure => have := HKN.out; simp [intOf]
end Go.Proofs.Ytlaclakndleonaa
