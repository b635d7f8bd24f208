/- What laws with rows share: the contracts of Same, lists of two rows, Apart for rows of one's own. Conditions: as each says. -/
import Derived.Test.YtebbnkkhabehmaaApartW
import Derived.Test.YtebbnkkhabehmaaPdBox
import Derived.Lib.Bytes
namespace Go.Proofs.Ytebbnkkhabehmaa
open Go.ChangeShapes Go.WideShapes Go.ChangeAt Go.RowKit
set_option linter.unusedVariables false

set_option maxRecDepth 100000 in
set_option maxHeartbeats 400000 in
theorem Same_true (p : Option Addr) (n cap : Nat) (q : Option Addr) (c : Nat) (g g' : Nat → Nat) (h : ∀ j, j < n → g j = g' j) (w : World) (hp : BytesAt w p n g) (hq : BytesAt w q n g') :
    Calls Try.prog 12 #[.slice p n cap, .slice q n c] w fun e w' => e = .returned (.bool true) ∧ w = w' := by
  have hp' := bytes_congr h hp
  have HP := Lib.hid hp'
  have HQ := Lib.hid hq
  clear hp hp' hq
  go_enter Try.func12, Try.ntmps12
  go_wp2_with (first
    | (refine wpList_string rfl (.tmp 5) rfl p n cap rfl g' HP.out ?_)
    | (refine wpList_string rfl (.tmp 7) rfl q n c rfl g' HQ.out ?_))
  go_ret
  exact ⟨rfl, rfl⟩
theorem str_inj {n m : Nat} {f g : Nat → Nat} (hf : ∀ i, i < n → f i < 256) (hg : ∀ i, i < m → g i < 256) : strOfNums (mk n f) = strOfNums (mk m g) ↔ mk n f = mk m g := by
  constructor
  · intro h
    have hd := congrArg (fun s => s.data.toList) h
    simp only [strOfNums_data] at hd
    have hl : n = m := by have := congrArg List.length hd; simpa [mk_len] using this
    subst hl
    refine mk_ext fun i hi => ?_
    have h2 := congrArg (fun l => l[i]?) hd
    simp only [mk, List.map_map, List.getElem?_map, List.getElem?_range hi, Option.map_some, Function.comp, Option.some.injEq, Int.toNat_natCast] at h2
    have h3 := congrArg UInt8.toNat h2
    simp only [UInt8.toNat_ofNat'] at h3
    have a := hf i hi
    have b := hg i hi
    omega
  · intro h; rw [h]
theorem str_eq {n m : Nat} {f g : Nat → Nat} (hf : ∀ i, i < n → f i < 256) (hg : ∀ i, i < m → g i < 256) : ((strOfNums (mk n f)).toList == (strOfNums (mk m g)).toList) = decide (mk n f = mk m g) := by
  rw [Lib.strOfNums_toList, Lib.strOfNums_toList]
  by_cases h : mk n f = mk m g
  · rw [h]; simp
  · rw [decide_eq_false h, beq_eq_false_iff_ne]
    intro hb
    refine h ((str_inj hf hg).1 ?_)
    have : (strOfNums (mk n f)).data.toList = (strOfNums (mk m g)).data.toList := hb
    exact congrArg ByteArray.mk (Array.toList_inj.1 this)
set_option maxRecDepth 100000 in
set_option maxHeartbeats 400000 in
theorem Same_not (p : Option Addr) (n cap : Nat) (q : Option Addr) (m c : Nat) (g g' : Nat → Nat) (hg : ∀ j, j < n → g j < 256) (hg' : ∀ j, j < m → g' j < 256) (h : mk n g ≠ mk m g') (w : World) (hp : BytesAt w p n g) (hq : BytesAt w q m g') :
    Calls Try.prog 12 #[.slice p n cap, .slice q m c] w fun e w' => e = .returned (.bool false) ∧ w = w' := by
  have e1 := str_eq hg hg'
  rw [decide_eq_false h] at e1
  have HP := Lib.hid hp
  have HQ := Lib.hid hq
  clear hp hq h hg hg'
  go_enter Try.func12, Try.ntmps12
  go_wp2_with (first
    | (refine wpList_string rfl (.tmp 5) rfl p n cap rfl g HP.out ?_)
    | (refine wpList_string rfl (.tmp 7) rfl q m c rfl g' HQ.out ?_))
  go_ret
  exact ⟨rfl, rfl⟩
section
variable {ops : Array Oper} {rest : List Oper} {o : Oper} {a : Act} {w : World} {Q : Exit → Act → World → Prop}
theorem run_lists2 (p q : Option Addr) (n m cp cq : Nat) (w : World) : (Instr.buildSlice 37 2 #[(0, .slice p n cp), (1, .slice q m cq)]).run Try.prog w = .ok (.slice (some ⟨w.heap.size, 0, none⟩) 2 2) (w.alloc (.cells #[.slice p n cp, .slice q m cq] 22)) := by
  simp [go_sem]
theorem wpList_lists2 (hw : Region.wanted o (yielded ops a.tmps) = true) (x y : Operand) (ho : o.op = .buildSlice 37 2 #[(0, x), (1, y)]) (p q : Option Addr) (n m cp cq : Nat) (hx : a.eval x = .slice p n cp) (hy : a.eval y = .slice q m cq)
    (h : wpList Try.prog ops Q rest (a.put o.dst (.slice (some ⟨w.heap.size, 0, none⟩) 2 2)) (w.alloc (.cells #[.slice p n cp, .slice q m cq] 22))) : wpList Try.prog ops Q (o :: rest) a w :=
  wanted_step hw fun _ hK => by
    have e := run_lists2 p q n m cp cq w
    unfold Oper.wp execOp
    simp only [ho]
    simp [hx, hy, e]
    exact hK _ _ h
end
/-- A list that is nil, or a row of its own from T on. -/
def Own (w : World) (T D N C : Nat) (nl : Bool) (F : Nat → Nat) : Prop := (nl = true ∧ N = 0 ∧ C = 0) ∨ (nl = false ∧ T ≤ D ∧ N ≤ C ∧ N ≤ 140737488351232 ∧ ∃ R, C ≤ R ∧ IntBlk w D .u8 5 (mk R F))
def pOf (D : Nat) (nl : Bool) : Option Addr := if nl then none else some ⟨D, 0, none⟩
open apart in
/-- So many lists, each nil or a row of its own. -/
theorem Apart_own_cap (K cp : Nat) (D N C : Nat → Nat) (nl : Nat → Bool) (F : Nat → Nat → Nat) (T LB : Nat) (LS : Array Value) (w : World) (k1 : 1 ≤ K) (k5 : K ≤ 20000) (hO : ∀ i, i < K → Own w T (D i) (N i) (C i) (nl i) (F i))
    (ne : ∀ i j, i < K → j < K → nl i = false → nl j = false → i ≠ j → D i ≠ D j) (hL : w.heap[LB]? = some (.cells LS 22 (0, 0))) (hLS : ∀ i, i < K → LS[i]? = some (.slice (pOf (D i) (nl i)) (N i) (C i))) (hT : T ≤ w.heap.size) :
    Calls Try.prog 15 #[.slice (some ⟨LB, 0, none⟩) K cp] w fun e w' => e = .returned (.bool true) ∧ Below T w w' := by
  obtain ⟨R, hR⟩ := choice_lt (P := fun i (R : Nat) => C i ≤ R ∧ (nl i = false → IntBlk w (D i) .u8 5 (mk R (F i)))) (K := K) (fun i hi => by
    rcases hO i hi with ⟨h0, _⟩ | ⟨_, _, _, _, R, h1, h2⟩
    · exact ⟨C i, Nat.le_refl _, fun h => by rw [h0] at h; cases h⟩
    · exact ⟨R, h1, fun _ => h2⟩)
  refine Apart_cap ⟨K, D, N, C, nl, R⟩ cp T LB LS F w ⟨k1, k5, ?_, ?_, ne, ?_, hLS, lt_of_block hL, hT, fun i hi => (hR i hi).1⟩ hL (fun i hi hn => (hR i hi).2 hn)
  · intro i hi
    rcases hO i hi with ⟨_, h1, h2⟩ | ⟨_, _, h1, h3, _⟩
    · show N i ≤ C i ∧ N i ≤ N i + 2 ∧ N i ≤ 140737488351232; omega
    · exact ⟨h1, Nat.le_add_right _ _, h3⟩
  · intro i hi hn
    rcases hO i hi with ⟨_, h1, h2⟩ | ⟨h0, _⟩
    · exact ⟨h1, h2⟩
    · have : nl i = true := hn
      rw [h0] at this; cases this
  · intro i hi hn
    rcases hO i hi with ⟨h0, _⟩ | ⟨_, h1, _, _, _, _, h2⟩
    · have : nl i = false := hn
      rw [h0] at this; cases this
    · exact ⟨h1, h2.lt⟩
theorem Apart_two (D0 N0 C0 : Nat) (nl : Bool) (F0 : Nat → Nat) (D1 N1 : Nat) (F1 : Nat → Nat) (T LB : Nat) (w : World) (h0 : Own w T D0 N0 C0 nl F0) (h1 : IntBlk w D1 .u8 5 (mk (N1 + 2) F1)) (hn1 : N1 ≤ 140737488351232) (ne : D0 ≠ D1) (t1 : T ≤ D1) (hT : T ≤ w.heap.size)
    (hL : w.heap[LB]? = some (.cells #[.slice (pOf D0 nl) N0 C0, .slice (some ⟨D1, 0, none⟩) N1 (N1 + 2)] 22 (0, 0))) :
    Calls Try.prog 15 #[.slice (some ⟨LB, 0, none⟩) 2 2] w fun e w' => e = .returned (.bool true) ∧ Below T w w' := by
  have two : ∀ i, i < 2 → i = 0 ∨ i = 1 := fun i hi => by omega
  refine Apart_own_cap 2 2 (fun i => if i = 0 then D0 else D1) (fun i => if i = 0 then N0 else N1) (fun i => if i = 0 then C0 else N1 + 2) (fun i => if i = 0 then nl else false) (fun i => if i = 0 then F0 else F1) T LB _ w (by omega) (by omega) ?_ ?_ hL ?_ hT
  · intro i hi; rcases two i hi with rfl | rfl
    · exact h0
    · exact .inr ⟨rfl, t1, Nat.le_add_right _ _, hn1, _, Nat.le_refl _, h1⟩
  · intro i j hi hj _ _ c
    rcases two i hi with rfl | rfl <;> rcases two j hj with rfl | rfl
    · exact absurd rfl c
    · exact ne
    · exact ne.symm
    · exact absurd rfl c
  · intro i hi; rcases two i hi with rfl | rfl <;> rfl
/-- A row of one's own with room for so many bytes. -/
def BlkR (w : World) (D C : Nat) (G : Nat → Nat) : Prop := ∃ R, C ≤ R ∧ IntBlk w D .u8 5 (mk R G)
theorem BlkR.lt {w : World} {D C : Nat} {G : Nat → Nat} (h : BlkR w D C G) : D < w.heap.size := by obtain ⟨R, _, h⟩ := h; exact h.lt
theorem BlkR.below {w w' : World} {D C M : Nat} {G : Nat → Nat} (h : BlkR w D C G) (hb : Below M w w') (hM : D < M) : BlkR w' D C G := by obtain ⟨R, h1, h2⟩ := h; exact ⟨R, h1, h2.below hb hM⟩
theorem BlkR.bytes {w : World} {D C m : Nat} {G F : Nat → Nat} (h : BlkR w D C G) (hc : m ≤ C) (hf : ∀ j, j < m → G j = F j) : BytesAt w (some ⟨D, 0, none⟩) m F := by
  obtain ⟨R, hR, h⟩ := h
  refine .inr ⟨D, 0, rfl, h.lt, fun j hj => ?_⟩
  rw [← hf j hj]
  have := h.cells (o := 0) (n := R) (by omega) j (by omega)
  simpa using this
theorem Same_dec (p : Option Addr) (n cap : Nat) (q : Option Addr) (m c : Nat) (g g' : Nat → Nat) (hg : ∀ j, j < n → g j < 256) (hg' : ∀ j, j < m → g' j < 256) (w : World) (hp : BytesAt w p n g) (hq : BytesAt w q m g') :
    Calls Try.prog 12 #[.slice p n cap, .slice q m c] w fun e w' => e = .returned (.bool (decide (mk n g = mk m g'))) ∧ w = w' := by
  by_cases h : mk n g = mk m g'
  · rw [decide_eq_true h]
    obtain rfl : n = m := by have := congrArg List.length h; rwa [mk_len, mk_len] at this
    refine Same_true p n cap q c g g' (fun j hj => ?_) w hp hq
    have := congrArg (fun l => l.getD j 0) h
    simp only [mk_get hj] at this
    omega
  · rw [decide_eq_false h]
    exact Same_not p n cap q m c g g' hg hg' h w hp hq
end Go.Proofs.Ytebbnkkhabehmaa
