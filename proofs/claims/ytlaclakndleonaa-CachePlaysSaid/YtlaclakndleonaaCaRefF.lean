/- The document's cache: where it lies; the contracts of its find and out. Conditions: the cache lies in memory, with at most 1000 lines. -/
import Derived.Test.YtlaclakndleonaaCaKeep
namespace Go.Proofs.Ytlaclakndleonaa
open Go.ChangeShapes Go.WideShapes Go.ChangeAt Go.RowKit
set_option linter.unusedVariables false
/-- The document's cache in memory: the struct, its lines. -/
structure RefC (w : World) (B : Nat) (q : Int) (v : Value) (ls : List LineOf) : Prop where
  box : w.heap[B]? = some (.cells #[.int .i64 q, v] 36 (0, 0))
  own : OwnL 42 131 lineC w 0 w.heap.size v ls
  ne : v.ownBlock ≠ some B
  ok : ∀ l ∈ ls, l.ok
  few : ls.length ≤ 1000
/-- The blocks that it owns. -/
def refS (B : Nat) (v : Value) (k : Nat) : Prop := k = B ∨ v.ownBlock = some k
namespace RefC
variable {w w' : World} {B : Nat} {q : Int} {v : Value} {ls : List LineOf}
theorem lt (h : RefC w B q v ls) : B < w.heap.size := (Array.getElem?_eq_some_iff.1 h.box).1
theorem own_lt (h : RefC w B q v ls) {k : Nat} (hk : refS B v k) : k < w.heap.size := by
  rcases hk with rfl | hk
  · exact h.lt
  · exact h.own.blockTop k hk
theorem keep (h : RefC w B q v ls) (hs : w.heap.size ≤ w'.heap.size) (hb : ∀ k, refS B v k → w'.heap[k]? = w.heap[k]?) : RefC w' B q v ls := by
  refine ⟨(hb _ (.inl rfl)).trans h.box, ?_, h.ne, h.ok, h.few⟩
  rcases h.own with h1 | ⟨L, c, cur, h1, h2, h3, h4, h5⟩
  · exact .inl h1
  · exact .inr ⟨L, c, cur, h1, h2, by omega, (hb L (.inr (by rw [h1]; rfl))).trans h4, h5⟩
theorem below (h : RefC w B q v ls) (hb : Below w.heap.size w w') : RefC w' B q v ls := h.keep hb.size fun k hk => hb.block k (h.own_lt hk)
theorem keeps {S : Nat → Prop} (h : RefC w B q v ls) (hk : Keeps S w w') (hS : ∀ k, refS B v k → ¬ S k) : RefC w' B q v ls := h.keep hk.size fun k hb => hk.block k (h.own_lt hb) (hS k hb)
theorem drew (h : RefC w B q v ls) : RefC w.drew B q v ls := h.keep (Nat.le_refl _) fun _ _ => rfl
theorem c0 (h : RefC w B q v ls) : w.cell? ⟨B, 0, none⟩ = some (.int .i64 q) := cell_of_row _ _ _ _ _ _ h.box
theorem c1 (h : RefC w B q v ls) : w.cell? ⟨B, 1, none⟩ = some v := cell_of_row _ _ _ _ _ _ h.box
end RefC
/-- Where it stands as an int. -/
def findZ (ls : List LineOf) (u b : Int) : Int := if findL ls u b < ls.length then (findL ls u b : Nat) else -1
theorem line_c0 {W : World} {B o : Nat} {c : LineOf} (h : W.rangeAt B o (lineC c)) : W.cell? ⟨B, o, none⟩ = some (.int .i64 c.u) := h 0 _ (lineC_0 c)
theorem line_c1 {W : World} {B o : Nat} {c : LineOf} (h : W.rangeAt B o (lineC c)) : W.cell? ⟨B, o + 1, none⟩ = some (.int .i64 c.b) := h 1 _ (lineC_1 c)
theorem line_cd {W : World} {B o : Nat} {c : LineOf} (h : W.rangeAt B o (lineC c)) : W.cell? ⟨B, o + 130, none⟩ = some (.bool c.d) := h 130 _ (lineC_d c)
attribute [local irreducible] findL lineC lineAt
set_option maxRecDepth 100000 in
set_option maxHeartbeats 1000000 in
theorem refFind_any {w : World} {B : Nat} {q : Int} {v : Value} {ls : List LineOf} (h : RefC w B q v ls) (u b : Int) :
    Calls Try.prog 27 #[.pointer (some ⟨B, 0, none⟩), .int .i64 u, .int .i64 b] w fun e w' => e = .returned (.int .i64 (findZ ls u b)) ∧ w = w' := by
  obtain ⟨p, c, rfl, -, -, hr, -⟩ := h.own.rows elemLine.len
  have HR := Lib.hid hr
  have HF := Lib.hid h.few
  have c1 := h.c1
  have HN := Lib.hid (show ∀ i, i < ls.length → i ≤ findL ls u b → (lineAt ls i).is u b = false → i + 1 ≤ findL ls u b from fun i h1 h2 h3 => by unfold findL at h2 ⊢; exact idx_next h1 h2 h3)
  have HH := Lib.hid (show ∀ i, i < ls.length → i ≤ findL ls u b → (lineAt ls i).is u b = true → findZ ls u b = (i : Nat) from fun i h1 h2 h3 => by
    have e : findL ls u b = i := by unfold findL at h2 ⊢; exact idx_here h1 h2 h3
    unfold findZ; rw [e, if_pos h1])
  have HE := Lib.hid (show ls.length ≤ findL ls u b → findZ ls u b = -1 from fun h => by unfold findZ; rw [if_neg (by omega)])
  clear h hr
  generalize hn : ls.length = n at *
  go_enter Try.func27, Try.ntmps27
  go_wp2
  go_loopw [7] (fun v7 wr => ∃ i : Nat, i ≤ n ∧ v7 = .int .i64 i ∧ i ≤ findL ls u b ∧ wr = w) (fun v7 _ => n - (intOf v7).toNat)
  case atStart => exact ⟨0, Nat.zero_le _, rfl, Nat.zero_le _, rfl⟩
  case round =>
    obtain ⟨i, hi, rfl, hf, rfl⟩ := hrel
    by_cases hlt : i < n
    · obtain ⟨LB, o, rfl, hB, hrg⟩ := line_rows HR.out (show i < ls.length by omega)
      have HLT := Lib.hid hlt
      have HFI := Lib.hid hf
      have f1 : (i : Int) < (n : Int) := by omega
      have f3 : IntKind.i64.wrap ((i : Int) + 1) = ((i + 1 : Nat) : Int) := by have := HF.out; rw [IntWalk.i64_in _ (by omega)]; omega
      have HX := Lib.hid (HN.out i (by omega) hf)
      have HY := Lib.hid (HH.out i (by omega) hf)
      have k0 := line_c0 hrg
      have k1 := line_c1 hrg
      clear hrg hB hlt hf hi
      generalize lineAt ls i = l at *
      have elems : True := trivial
      by_cases hu : l.u = u
      · by_cases hb : l.b = b
        · have HZ := Lib.hid (HY.out (LineOf.is_iff.2 ⟨hu, hb⟩))
          have e1 : decide (l.u = u) = true := by simp [hu]
          have e2 : decide (l.b = b) = true := by simp [hb]
          have e3 : (l.u == u) = true := by simp [hu]
          have e4 : (l.b == b) = true := by simp [hb]
          clear HX HY hu hb
          go_wp2_with (first
            | (refine wpList_line_elem rfl _ _ rfl LB o n c i rfl rfl HLT.out ?_)
            | (refine wpList_line_elem_w rfl _ _ rfl LB o n c i rfl rfl HLT.out ?_))
          go_ret
          exact ⟨by rw [HZ.out]; rfl, rfl⟩
        · have HX2 := Lib.hid (HX.out (LineOf.is_not.2 fun h => hb h.2))
          have e1 : decide (l.u = u) = true := by simp [hu]
          have e2 : decide (l.b = b) = false := by simp [hb]
          have e3 : (l.u == u) = true := by simp [hu]
          have e4 : (l.b == b) = false := by simp [hb]
          clear HX HY hu hb
          go_wp2_with (first
            | (refine wpList_line_elem rfl _ _ rfl LB o n c i rfl rfl HLT.out ?_)
            | (refine wpList_line_elem_w rfl _ _ rfl LB o n c i rfl rfl HLT.out ?_))
          go_roundw
          case rel => exact ⟨i + 1, HLT.out, by go_num, HX2.out, trivial⟩
          case measure => have := HLT.out; simp [intOf]; omega
      · have HX2 := Lib.hid (HX.out (LineOf.is_not.2 fun h => hu h.1))
        have e1 : decide (l.u = u) = false := by simp [hu]
        have e3 : (l.u == u) = false := by simp [hu]
        clear HX HY hu
        go_wp2_with (first
          | (refine wpList_line_elem rfl _ _ rfl LB o n c i rfl rfl HLT.out ?_))
        go_roundw
        case rel => exact ⟨i + 1, HLT.out, by go_num, HX2.out, trivial⟩
        case measure => have := HLT.out; simp [intOf]; omega
    · have f1 : ¬ (i : Int) < (n : Int) := by omega
      obtain rfl : i = n := by omega
      have HZ := Lib.hid (HE.out hf)
      clear hlt hi hf
      go_wp2
      go_ret
      exact ⟨by rw [HZ.out]; rfl, rfl⟩
end Go.Proofs.Ytlaclakndleonaa
