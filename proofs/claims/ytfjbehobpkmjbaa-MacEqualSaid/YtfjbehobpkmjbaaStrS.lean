/- Slices of bytes: made with room, filled by append, marked, turned to strings. No condition. -/
import Derived.Test.YtfjbehobpkmjbaaMake
import Derived.Test.YtfjbehobpkmjbaaOwnS
import Derived.Lib.Hide
import Derived.StillTailTactics
import Derived.Outline
import Derived.ProofKit
import Derived.OpenShut
import Derived.ArgAppend
import Derived.Deep.Upon
import Derived.Great.BuildSlice
import Derived.OwnWalk
import Derived.Laws.BytesArg
import Derived.Laws.Strings
namespace Go.Proofs.Ytfjbehobpkmjbaa
open Go.ChangeShapes Go.WideShapes Go.ChangeAt Go.RowKit

theorem stringUnder1 : Try.prog.underlying 9 = some .string := Try.underlying9
/-- n bytes, the two marks behind. -/
def markF (n : Nat) (g : Nat → Nat) : Nat → Nat := fun j => if j < n then g j else if j = n then 165 else 90
theorem markF_low (n : Nat) (g : Nat → Nat) {j : Nat} (h : j < n) : markF n g j = g j := if_pos h
theorem BytesAt.low {w : World} {D n m : Nat} {g : Nat → Nat} (h : BytesAt w (some ⟨D, 0, none⟩) m (markF n g)) (hm : m = n + 2) : BytesAt w (some ⟨D, 0, none⟩) n g := by
  subst hm
  rcases h with h | ⟨B, o, hp, hB, hc⟩
  · omega
  · exact .inr ⟨B, o, hp, hB, fun j hj => by rw [hc j (by omega), markF_low n g hj]⟩
theorem BytesAt.cell {w : World} {D m : Nat} {f : Nat → Nat} (h : BytesAt w (some ⟨D, 0, none⟩) m f) {j : Nat} (hj : j < m) : w.cell? ⟨D, j, none⟩ = some (.int .u8 (f j : Nat)) := by
  rcases h with h | ⟨B, o, hp, hB, hc⟩
  · omega
  · simp only [Option.some.injEq, Addr.mk.injEq, and_true] at hp
    obtain ⟨rfl, rfl⟩ := hp
    have := hc j hj
    rwa [Nat.zero_add] at this
theorem bytesAt_owns {w' : World} {base n m D : Nat} {f : Nat → Nat} (h : w'.ownsRow base 5 1 (.slice (some ⟨D, 0, none⟩) n m) n (bytesList n f)) : BytesAt w' (some ⟨D, 0, none⟩) n f := by
  by_cases h0 : n = 0
  · exact .inl h0
  obtain ⟨_, ⟨h1, _⟩ | ⟨g, c, cur, h1, _, hg, hnc, _, hsz, ht⟩⟩ := h
  · cases h1
  · simp only [Value.slice.injEq, Option.some.injEq, Addr.mk.injEq, and_true, true_and] at h1
    obtain ⟨rfl, rfl⟩ := h1
    refine .inr ⟨D, 0, rfl, (Array.getElem?_eq_some_iff.1 hg).1, fun j hj => ?_⟩
    rw [Nat.zero_add, cell_of_row w' D _ cur _ (0, 0) hg]
    have := bytesList_at (n := n) (F := f) hj
    rw [← ht, List.getElem?_take_of_lt (by omega)] at this
    simpa using this
theorem owns_same {w w' : World} {base : Nat} {e : TypeId} {size n D m : Nat} {xs : List Value} (h : w.ownsRow base e size (.slice (some ⟨D, 0, none⟩) n m) n xs) (hb : w'.heap[D]? = w.heap[D]?) : w'.ownsRow base e size (.slice (some ⟨D, 0, none⟩) n m) n xs := by
  refine ⟨h.1, ?_⟩
  rcases h.2 with ⟨h1, _⟩ | ⟨g, c, cur, h1, h2, hg, h3⟩
  · cases h1
  · have e1 := h1
    simp only [Value.slice.injEq, Option.some.injEq, Addr.mk.injEq, and_true, true_and] at e1
    obtain ⟨e2, e3⟩ := e1
    subst e2 e3
    exact .inr ⟨_, _, cur, h1, h2, by rw [hb]; exact hg, h3⟩
theorem owns_lt {w : World} {base : Nat} {e : TypeId} {size n D m : Nat} {xs : List Value} (h : w.ownsRow base e size (.slice (some ⟨D, 0, none⟩) n m) n xs) : D < w.heap.size := by
  rcases h.2 with ⟨h1, _⟩ | ⟨g, c, cur, h1, h2, hg, h3⟩
  · cases h1
  · simp only [Value.slice.injEq, Option.some.injEq, Addr.mk.injEq, and_true, true_and] at h1
    obtain ⟨rfl, rfl⟩ := h1
    exact (Array.getElem?_eq_some_iff.1 hg).1
section
variable {ops : Array Oper} {rest : List Oper} {o : Oper} {a : Act} {w : World} {Q : Exit → Act → World → Prop}
theorem wpList_make_bytes (hgd : o.guard = none) (x y : Operand) (ho : o.op = .makeSlice 22 x y) (m : Nat) (hm : m ≤ 100000) (hx : a.eval x = .int .i64 0) (hy : a.eval y = .int .i64 m)
    (h : ∀ w', w'.ownsRow w.heap.size 5 1 (.slice (some ⟨w.heap.size, 0, none⟩) 0 m) 0 [] → w.grownBy w' none → wpList Try.prog ops Q rest (a.put o.dst (.slice (some ⟨w.heap.size, 0, none⟩) 0 m)) w') : wpList Try.prog ops Q (o :: rest) a w := by
  have hi := byteInfo
  have hz := byteZero1
  have hb := byteBytes1
  cases hq : Try.prog.info? 5 with
  | none => rw [hq] at hi; simp at hi
  | some i =>
    rw [hq] at hi hz hb
    have hsz : i.size = 1 := by simpa using hi
    have hzz : i.zero = some (.int .u8 0) := by simpa using hz
    have hby : i.bytes = 1 := by simpa using hb
    exact wpList_make_own w hgd x y 22 ho w.heap.size 5 i (.int .u8 0) 1 bytesUnder hq hzz hsz .i64 .i64 m m hx hy rfl (by rw [hby]; omega) (by simp only [maxLen]; omega) (Nat.le_refl _) h
theorem wpList_append_bytes (hgd : o.guard = none) (s x : Operand) (ho : o.op = .call { callee := .builtin .append, args := #[s, x], argTypes := #[22, 22] })
    (base D m k : Nat) (xs : List Value) (hs : a.eval s = .slice (some ⟨D, 0, none⟩) k m) (hown : w.ownsRow base 5 1 (.slice (some ⟨D, 0, none⟩) k m) k xs) (p : Option Addr) (n cap : Nat) (hx : a.eval x = .slice p n cap) (g : Nat → Nat) (hp : BytesAt w p n g) (hroom : k + n ≤ m)
    (h : ∀ w', w'.ownsRow base 5 1 (.slice (some ⟨D, 0, none⟩) (k + n) m) (k + n) (xs ++ bytesList n g) → w.grownBy w' (some D) → wpList Try.prog ops Q rest (a.put o.dst (.slice (some ⟨D, 0, none⟩) (k + n) m)) w') : wpList Try.prog ops Q (o :: rest) a w := by
  have hi := byteInfo
  cases hq : Try.prog.info? 5 with
  | none => rw [hq] at hi; simp at hi
  | some i =>
    rw [hq] at hi
    have hsz : i.size = 1 := by simpa using hi
    by_cases h0 : n = 0
    · subst h0
      have hsrc : Src Try.prog i.size 22 (.slice p 0 cap) 0 [] w := by
        cases p with
        | none => exact Src.ofNil w bytesUnder cap
        | some ad => exact Src.ofSlice w bytesUnder ad 0 cap [] (by simp) (fun j u hu => by simp at hu) (fun u hu => by cases hu)
      refine wpList_plain hgd fun K hK => ?_
      have hrun := run_append_nothing (P := Try.prog) w 22 22 o.type 5 i bytesUnder hq (some ⟨D, 0, none⟩) k m (by omega) (.slice p 0 cap) hsrc
      unfold Oper.wp
      simp [execOp, ho, resolve, invoke, builtin, hs, hx, hrun, Result.andThen]
      exact hK _ _ (h w (by simpa [bytesList] using hown) (World.grownBy.refl _ _))
    · rcases hp with hp | ⟨B, off, rfl, hB, hc⟩
      · exact absurd hp h0
      · refine wpList_append_fits w hgd s x 22 ho base 5 i 1 bytesUnder hq hsz D k m xs hs hown ⟨B, off, none⟩ n cap (bytesList n g) hx (by rw [bytesList_len, Nat.mul_one]) (fun j u hj => ?_) bytesList_one hroom h
        obtain ⟨hj1, rfl⟩ := bytesList_get hj
        rw [addr_add]; exact hc j hj1
theorem wpList_marks (hgd : o.guard = none) (ho : o.op = .buildSlice 22 2 #[(0, .const (.int .u8 165)), (1, .const (.int .u8 90))])
    (h : wpList Try.prog ops Q rest (a.put o.dst (.slice (some ⟨w.heap.size, 0, none⟩) 2 2)) (w.alloc (.cells (cellsOf .u8 [165, 90]) 5))) : wpList Try.prog ops Q (o :: rest) a w :=
  wpList_buildFlat hgd 22 5 2 _ ho .u8 [165, 90] bytesUnder byteInfo (by rw [byteZero1]; rfl) rfl (by omega) (by omega) rfl h
/-- A string of bytes. -/
theorem wpList_string (hgd : o.guard = none) (x : Operand) (ho : o.op = .convert 22 9 x) (p : Option Addr) (n cap : Nat) (hx : a.eval x = .slice p n cap) (g : Nat → Nat) (hp : BytesAt w p n g)
    (h : wpList Try.prog ops Q rest (a.put o.dst (.string (strOfNums (mk n g)))) w) : wpList Try.prog ops Q (o :: rest) a w := by
  have hr : (convert 22 9 (.slice p n cap)).run Try.prog w = .ok (.string (strOfNums (mk n g))) w := by
    by_cases h0 : n = 0
    · subst h0
      rw [run_convert_bytes_string w _ _ 5 p 0 cap bytesUnder byteUnder1 stringUnder1]
      cases p with
      | none => rfl
      | some ad =>
        rw [run_bytesToString w ad 0 cap [] (by simpa using run_loadCells_list (P := Try.prog) w ad [] (fun j v hj => by simp at hj))]
        rfl
    · rcases hp with hp | ⟨B, off, rfl, hB, hc⟩
      · exact absurd hp h0
      · exact run_convert_bytes_arg w _ 5 bytesUnder byteUnder1 B off n cap (mk n g) (mk_len n g) (fun i hi => by rw [mk_get hi]; exact hc i hi) _ stringUnder1
  refine wpList_plain hgd fun K hK => ?_
  unfold Oper.wp execOp
  simp only [ho]
  simp [hx, hr]
  exact hK _ _ h
end
theorem marks_at (w : World) : BytesAt (w.alloc (.cells (cellsOf .u8 [165, 90]) 5)) (some ⟨w.heap.size, 0, none⟩) 2 (fun j => if j = 0 then 165 else 90) := by
  have e : ([165, 90] : List Int) = mk 2 (fun j => if j = 0 then 165 else 90) := rfl
  rw [e]
  exact .inr ⟨_, 0, rfl, by rw [World.size_alloc]; omega, by
    have h := (IntBlk.new w .u8 5 (mk 2 (fun j => if j = 0 then 165 else 90))).cells (o := 0) (n := 2) (by omega)
    simp only [Nat.zero_add] at h
    exact h⟩
theorem marked (n : Nat) (g : Nat → Nat) : bytesList n g ++ bytesList 2 (fun j => if j = 0 then 165 else 90) = bytesList (n + 2) (markF n g) := by
  have e : bytesList n g = bytesList n (markF n g) := by
    unfold bytesList
    refine List.map_congr_left fun t ht => ?_
    rw [markF_low n g (List.mem_range.1 ht)]
  rw [e]
  refine bytesList_more n 2 _ _ fun j hj => ?_
  rcases (show j = 0 ∨ j = 1 by omega) with rfl | rfl
  · simp [markF]
  · unfold markF; rw [if_neg (show ¬ (n + 1 < n) by omega), if_neg (show ¬ (n + 1 = n) by omega)]; rfl
end Go.Proofs.Ytfjbehobpkmjbaa
