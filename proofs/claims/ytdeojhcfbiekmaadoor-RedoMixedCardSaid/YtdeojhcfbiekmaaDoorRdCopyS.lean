/- Sectors copied from list to list; bytes copied into a sector, as many as fit; sectors' heads as strings. Conditions: as each says. -/
import Derived.Test.YtdeojhcfbiekmaaDoorRdLaw
import Derived.Test.YtdeojhcfbiekmaaDoorRdOpen
namespace Go.Proofs.YtdeojhcfbiekmaaDoor
open Go.ChangeShapes Go.WideShapes Go.ChangeAt Go.RowKit
set_option linter.unusedVariables false
theorem run_copy_wide {P : Program} (sz : Nat) (w : World) (dT sT ty elem : TypeId) (b o dLen dCap : Nat) (a : Addr) (sLen sCap : Nat) (cs : List Value)
    (hu : P.underlying dT = some (.slice elem)) (hs : (P.info? elem).map (·.size) = some sz) (hn : cs.length = Nat.min sLen dLen * sz)
    (hsrc : ∀ j v, cs[j]? = some v → w.cell? (a.add j) = some v) (ht : w.there b o cs.length) (h1 : ∀ v ∈ cs, v.oneCell' = true) :
    (Builtin.copy_ #[dT, sT] ty #[.slice (some ⟨b, o, none⟩) dLen dCap, .slice (some a) sLen sCap]).run P w = .ok (goInt (Nat.min sLen dLen)) (w.setCells b o cs) := by
  have hl := run_loadCells_list (P := P) w a cs hsrc
  have hst := run_storeCells_cells (P := P) b o cs 0 w (by simpa using fun j hj => (ht j hj).1) (by simpa using fun j hj => (ht j hj).2) h1
  cases hq : P.info? elem with
  | none => simp [hq] at hs
  | some i =>
    have hi : i.size = sz := by simpa [hq] using hs
    simp [Builtin.copy_, run_underlying hu, Builtin.lenOf, Builtin.firstCells, sizeOf, typeInfo, hq, hi, ← hn, hl, hst]
/-- Sectors written over a list's first ones. -/
theorem rows_over {w : World} {B : Nat} {l m : List (List Int)} (h : RowsAt 128 secC w (some ⟨B, 0, none⟩) l) (hm : m.length ≤ l.length) (ht : w.there B 0 (m.length * 128)) : RowsAt 128 secC (w.setCells B 0 (m.flatMap secC)) (some ⟨B, 0, none⟩) (m ++ l.drop m.length) := by
  have hvl : (m.flatMap secC).length = m.length * 128 := flatMap_len secC_len m
  have same := World.rangeAt_setCells_same w B 0 (m.flatMap secC) (by rw [hvl]; exact ht)
  rcases h with rfl | ⟨B', o, e, hB, hr⟩
  · have : m = [] := List.eq_nil_of_length_eq_zero (by simpa using hm)
    subst this; exact .inl rfl
  cases e
  refine .inr ⟨B, 0, rfl, by rw [size_setCells]; exact hB, fun k c hk j v hv => ?_⟩
  have hj : j < 128 := by rw [← secC_len c]; exact (List.getElem?_eq_some_iff.1 hv).1
  rw [Nat.zero_add]
  by_cases hkm : k < m.length
  · rw [List.getElem?_append_left hkm] at hk
    have e1 := flatMap_at secC_len m k j c hk hj
    rw [hv] at e1
    have := same (k * 128 + j) v e1
    rwa [Nat.zero_add, Nat.mul_comm k 128] at this
  · rw [List.getElem?_append_right (by omega), List.getElem?_drop, show m.length + (k - m.length) = k by omega] at hk
    rw [World.cell?_setCells_out B _ 0 w ⟨B, 128 * k + j, none⟩ (fun _ _ => by right; show 0 + (m.flatMap secC).length ≤ 128 * k + j; rw [hvl]; omega)]
    have := hr k c hk j v hv
    rwa [Nat.zero_add] at this
theorem sec_len1 (l : List (List Int)) : ∀ v ∈ l.flatMap secC, v.oneCell' = true := fun v hv => by
  obtain ⟨s, _, hs⟩ := List.mem_flatMap.1 hv
  exact secC_one s v hs
theorem rows_src {w : World} {B o : Nat} {m : List (List Int)} (h : RowsAt 128 secC w (some ⟨B, o, none⟩) m) : ∀ j v, (m.flatMap secC)[j]? = some v → w.cell? ((⟨B, o, none⟩ : Addr).add j) = some v := fun j v hv => by
  have hl : j < m.length * 128 := by rw [← flatMap_len secC_len m]; exact (List.getElem?_eq_some_iff.1 hv).1
  have hi : j / 128 < m.length := by omega
  rcases h with rfl | ⟨B', o', e, hB, hr⟩
  · simp at hi
  cases e
  rw [addr_add]
  have e1 := flatMap_at secC_len m (j / 128) (j % 128) m[j / 128] (List.getElem?_eq_getElem hi) (Nat.mod_lt _ (by decide))
  rw [show j / 128 * 128 + j % 128 = j by omega, hv] at e1
  have := hr (j / 128) m[j / 128] (List.getElem?_eq_getElem hi) (j % 128) v e1.symm
  rwa [show o + 128 * (j / 128) + j % 128 = o + j by omega] at this
section
variable {ops : Array Oper} {rest : List Oper} {o : Oper} {a : Act} {w : World} {Q : Exit → Act → World → Prop} {C : World → Prop} {K : Act → Prop}
theorem wpList_copy_secs (hgd : o.guard = none) (d s : Operand) (ho : o.op = .call { callee := .builtin .copy, args := #[d, s], argTypes := #[25, 25] }) (B N dCap : Nat) (Bs os n sCap : Nat) (m : List (List Int)) (hd : a.eval d = .slice (some ⟨B, 0, none⟩) N dCap) (hs : a.eval s = .slice (some ⟨Bs, os, none⟩) n sCap) (hn : n = m.length) (hN : n ≤ N)
    (hm : RowsAt 128 secC w (some ⟨Bs, os, none⟩) m) (ht : w.there B 0 (m.length * 128))
    (h : ∀ v, wpList Tryd.prog ops Q rest (a.put o.dst v) (w.setCells B 0 (m.flatMap secC))) : wpList Tryd.prog ops Q (o :: rest) a w := by
  subst hn
  have hl : (m.flatMap secC).length = m.length * 128 := flatMap_len secC_len m
  have hrun := run_copy_wide (P := Tryd.prog) 128 w 25 25 o.type 31 B 0 N dCap ⟨Bs, os, none⟩ m.length sCap (m.flatMap secC) Tryd.underlying25 secSz (by rw [hl]; congr 1; exact (Nat.min_eq_left hN).symm) (rows_src hm) (by rw [hl]; exact ht) (sec_len1 m)
  refine wpList_plain hgd fun K hK => ?_
  unfold Oper.wp
  simp [execOp, ho, resolve, invoke, builtin, hd, hs, hrun, Result.andThen]
  exact hK _ _ (h _)
theorem string_run (p : Option Addr) (n cap : Nat) (g : Nat → Nat) (w : World) (hp : BytesAt w p n g) : (convert 22 9 (.slice p n cap)).run Tryd.prog w = .ok (.string (strOfNums (mk n g))) w := by
  by_cases h0 : n = 0
  · subst h0
    rw [run_convert_bytes_string w _ _ 5 p 0 cap bytesUnder byteUnder1 stringUnder1]
    cases p with
    | none => rfl
    | some ad =>
      rw [run_bytesToString w ad 0 cap [] (by simpa using run_loadCells_list (P := Tryd.prog) w ad [] (fun j v hj => by simp at hj))]
      rfl
  · rcases hp with hp | ⟨B, off, rfl, hB, hc⟩
    · exact absurd hp h0
    · exact run_convert_bytes_arg w _ 5 bytesUnder byteUnder1 B off n cap (mk n g) (mk_len n g) (fun i hi => by rw [mk_get hi]; exact hc i hi) _ stringUnder1
theorem gives_string (x : Operand) (ho : o.op = .convert 22 9 x) (p : Option Addr) (n cap : Nat) (g : Nat → Nat) (hx : a.eval x = .slice p n cap) (hp : ∀ w, C w → BytesAt w p n g) (hk : K (a.put o.dst (.string (strOfNums (mk n g))))) : ∃ v, Gives Tryd.prog C o a v ∧ K (a.put o.dst v) :=
  ⟨_, fun w hw => by
    have hr := string_run p n cap g w (hp w hw)
    unfold execOp
    simp only [ho]
    simp [hx, hr], hk⟩
theorem gives_string_is (x y : Operand) (ho : o.op = .binOp .eql 9 x y 9) (s t : ByteArray) (hx : a.eval x = .string s) (hy : a.eval y = .string t) (v : Bool) (hv : (s.toList == t.toList) = v) (hk : K (a.put o.dst (.bool v))) : ∃ v, Gives Tryd.prog C o a v ∧ K (a.put o.dst v) :=
  ⟨.bool v, fun w _ => by
    subst hv
    unfold execOp
    simp only [ho, hx, hy]
    simp [go_sem], hk⟩
theorem gives_arr_upto (x y : Operand) (ho : o.op = .slice 31 x none (some y) none) (B off n : Nat) (z : Int) (hx : a.eval x = .pointer (some ⟨B, off, none⟩)) (hy : a.eval y = .int .i64 z) (hz : z = n) (hn : n ≤ 128) (hk : K (a.put o.dst (.slice (some ⟨B, off, none⟩) n 128))) : ∃ v, Gives Tryd.prog C o a v ∧ K (a.put o.dst v) :=
  ⟨.slice (some ⟨B, off, none⟩) n 128, fun w _ => by
    subst hz
    have hs := byteElem.run_size (P := Tryd.prog) w
    have e1 : (n : Int) ≤ 128 := by omega
    have hr : (Instr.sliceAt 31 (.pointer (some ⟨B, off, none⟩)) none (some (.int .i64 n)) none).run Tryd.prog w = .ok (.slice (some ⟨B, off, none⟩) n 128) w := by simp [go_sem, hs, e1, addr_add, Program.elem]
    unfold execOp
    simp only [ho, hx]
    simp [hy, hr], hk⟩
end
end Go.Proofs.YtdeojhcfbiekmaaDoor
