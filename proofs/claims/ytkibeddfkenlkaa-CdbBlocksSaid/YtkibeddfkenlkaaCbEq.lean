/- bytes.Equal; slices laid into structs in boxes; lists of a law's boxes. Conditions: as each says. -/
import Derived.Test.YtkibeddfkenlkaaCbRefE
namespace Go.Proofs.Ytkibeddfkenlkaa
open Go.ChangeShapes Go.WideShapes Go.ChangeAt Go.RowKit
set_option linter.unusedVariables false
set_option linter.unusedSimpArgs false
attribute [local go_sem] Oper.semAt_some
set_option maxRecDepth 100000 in
set_option maxHeartbeats 400000 in
theorem Equal_any (p : Option Addr) (n cap : Nat) (q : Option Addr) (m c : Nat) (g g' : Nat → Nat) (hg : ∀ j, j < n → g j < 256) (hg' : ∀ j, j < m → g' j < 256) (w : World) (hp : BytesAt w p n g) (hq : BytesAt w q m g') :
    Calls Try.prog 32 #[.slice p n cap, .slice q m c] w fun e w' => e = .returned (.bool (decide (mk n g = mk m g'))) ∧ w = w' := by
  have e1 := str_eq hg hg'
  have HP := Lib.hid hp
  have HQ := Lib.hid hq
  clear hp hq hg hg'
  generalize decide (mk n g = mk m g') = v at *
  go_enter Try.func32, Try.ntmps32
  go_wp2_with (first
    | (refine wpList_string rfl (.tmp 5) rfl p n cap rfl g HP.out ?_)
    | (refine wpList_string rfl (.tmp 7) rfl q m c rfl g' HQ.out ?_))
  go_ret
  exact ⟨rfl, rfl⟩
set_option maxRecDepth 100000 in
set_option maxHeartbeats 400000 in
theorem Same_any (p : Option Addr) (n cap : Nat) (q : Option Addr) (m c : Nat) (g g' : Nat → Nat) (hg : ∀ j, j < n → g j < 256) (hg' : ∀ j, j < m → g' j < 256) (w : World) (hp : BytesAt w p n g) (hq : BytesAt w q m g') :
    Calls Try.prog 13 #[.slice p n cap, .slice q m c] w fun e w' => e = .returned (.bool (decide (mk n g = mk m g'))) ∧ w = w' := by
  by_cases h : mk n g = mk m g'
  · have hl := (mk_inj h).1
    subst hl
    rw [decide_eq_true h]
    exact Same_true p n cap q c g g' (mk_inj h).2 w hp hq
  · rw [decide_eq_false h]
    exact Same_not p n cap q m c g g' hg hg' h w hp hq
section
variable {ops : Array Oper} {rest : List Oper} {o : Oper} {a : Act} {w : World} {Q : Exit → Act → World → Prop}
theorem wpList_boxA_bytes (hgd : o.guard = none) (x y : Operand) (ho : o.op = .store 22 x y) (hd : o.dst = none) (O : Nat) {T : TypeId} (A : Array Value) (k : Nat) (p : Option Addr) (m e : Nat) (hx : a.eval x = .pointer (some ⟨O, k, none⟩)) (hy : a.eval y = .slice p m e) (hO : BoxA w O T A) (hk : k < A.size)
    (h : ∀ w', BoxA w' O T (A.setIfInBounds k (.slice p m e)) → Keeps (fun j => j = O) w w' → w'.heap.size = w.heap.size → wpList Try.prog ops Q rest a w') : wpList Try.prog ops Q (o :: rest) a w := by
  have hc : w.cell? ⟨O, k, none⟩ = some A[k] := (hO.cell k).trans (Array.getElem?_eq_getElem hk)
  have hf := hO.free k
  have hh := h _ (hO.set k (.slice p m e)) ((Keeps.refl (fun j => j = O) w).setCell rfl k (.slice p m e)) (by simp [World.setCell])
  refine wpList_plain hgd fun K hK => ?_
  unfold Oper.wp execOp
  simp only [ho, hx, hy]
  simp [go_sem, hc, hf]
  have := hK a (w.setCell ⟨O, k, none⟩ (.slice p m e)) hh
  first | exact this | (rw [hd]; exact this) | (simp [hd]; exact this)
end
theorem IntBlk.first {w : World} {D C k : Nat} {F : Nat → Nat} (h : IntBlk w D .u8 5 (mk C F)) (hk : k ≤ C) : BytesAt w (some ⟨D, 0, none⟩) k F := .inr ⟨D, 0, rfl, h.lt, fun j hj => by
    have := h.cells (o := 0) (n := C) (by omega) j (by omega)
    simp only [Nat.zero_add] at this ⊢
    exact this⟩
theorem cmA_set (q : Option Addr) (n c : Nat) (x : CmdOf) (p : Option Addr) (m e : Nat) : (cmA q n c x).setIfInBounds 4 (.slice p m e) = cmA p m e x := rfl
/-- Boxes that lie in a world. -/
structure LwS (w : World) (L : List (Nat × Array Value)) (V : World) : Prop where
  box : ∀ {i : Nat} {x : Nat × Array Value}, L[i]? = some x → BoxA V x.1 cmT x.2
  low : Below w.heap.size w V
theorem LwS.mono {w V V' : World} {L : List (Nat × Array Value)} (h : LwS w L V) (hb : Below V.heap.size V V') : LwS w L V' :=
  ⟨fun hi => (h.box hi).keep (hb.block _ (h.box hi).lt), h.low.trans (hb.mono h.low.size)⟩
/-- A box is made and laid into. -/
theorem LwS.add {w V V1 V2 : World} {L : List (Nat × Array Value)} {J : Nat} {A : Array Value} (h : LwS w L V) (hJ : V.heap.size = J) (hb : Below V.heap.size V V1) (hx : BoxA V2 J cmT A) (k : Keeps (fun j => j = J) V1 V2) : LwS w ((J, A) :: L) V2 := by
  have h1 := h.mono hb
  refine ⟨fun {i x} hi => ?_, h1.low.trans (k.below h1.low.size (fun j hj e => by have := h.low.size; omega))⟩
  rcases i with _ | i
  · obtain rfl : (J, A) = x := by simpa using hi
    exact hx
  · have hi' : L[i]? = some x := by simpa using hi
    exact (h1.box hi').keep (k.block _ (h1.box hi').lt (by have := (h.box hi').lt; omega))
/-- The newest box is laid into. -/
theorem LwS.put {w V V' : World} {L : List (Nat × Array Value)} {J : Nat} {A A' : Array Value} (h : LwS w ((J, A) :: L) V) (hne : ∀ x ∈ L, x.1 < J) (hJ : w.heap.size ≤ J) (hx : BoxA V' J cmT A') (k : Keeps (fun j => j = J) V V') : LwS w ((J, A') :: L) V' := by
  refine ⟨fun {i x} hi => ?_, h.low.trans (k.below h.low.size (fun j hj e => by omega))⟩
  rcases i with _ | i
  · obtain rfl : (J, A') = x := by simpa using hi
    exact hx
  · have hi' : L[i]? = some x := by simpa using hi
    have hb := h.box (i := i + 1) (by simpa using hi')
    exact hb.keep (k.block _ hb.lt (by have := hne x (List.mem_of_getElem? hi'); omega))
/-! ### The example -/
theorem good_ex : goodC exC 0 = true := by decide +kernel
theorem len_ex : lenC exC = 6 := lenC_not (by decide)
theorem bytes_ex : mk 6 (allC exC zeroK) = [1, 1, 0, 2, 0, 3] := by decide +kernel
theorem str_ex : strOfNums [1, 1, 0, 2, 0, 3] = { data := #[1, 1, 0, 2, 0, 3] } := rfl
theorem Encode_ex (W : World) : Calls Try.prog 8 #[.agg (cmA none 0 0 exC)] W fun e w' => ∃ D C, e = .returned (.tuple #[.slice (some ⟨D, 0, none⟩) 6 C, .nilIface]) ∧ BytesAt w' (some ⟨D, 0, none⟩) 6 (allC exC zeroK) ∧ Below W.heap.size W w' := by
  have h := Encode_ok (w := W) (q := none) (n := 0) (c := 0) (g := zeroK) (x := exC) (.inl rfl) good_ex
  rw [len_ex] at h
  refine h.mono ?_
  rintro e w' ⟨D, C, F, rfl, h1, h2, h3, -, h5⟩
  exact ⟨D, C, rfl, .inr ⟨D, 0, rfl, h1.lt, fun j hj => by
    have := h1.cells (o := 0) (n := C) (by omega) j (by omega)
    simp only [Nat.zero_add] at this ⊢
    rw [this, h2 j hj]⟩, h5⟩
end Go.Proofs.Ytkibeddfkenlkaa
