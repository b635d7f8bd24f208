/- A map from numbers to places, its keys sorted; slices of integers as lists. Conditions: as each says. -/
import Derived.Test.YtdeojhcfbiekmaaDoorPlLay
import Derived.Test.YtdeojhcfbiekmaaDoorRdMergeN
import Derived.Test.YtdeojhcfbiekmaaDoorRdVal
import Derived.Maps.OwnSet
import Derived.Maps.OwnOps
import Derived.Maps.RangeWalk
import Derived.ChangeMaps5
namespace Go.Proofs.YtdeojhcfbiekmaaDoor
open Go.ChangeShapes Go.WideShapes Go.ChangeAt Go.RowKit Go.Maps Go.Sort Go.Shelf
set_option linter.unusedVariables false
theorem wf_i64 (x : Int) (h1 : -9223372036854775808 ≤ x) (h2 : x ≤ 9223372036854775807) : (Lit.int .i64 x).wf = true := WalkArith.wf_i64 (by omega)
theorem intKey : Go.Maps.Keyed Tryd.prog 3 := Go.Maps.int_keyed Tryd.underlying3
theorem key_i64 (x : Int) (h1 : -9223372036854775808 ≤ x) (h2 : x ≤ 9223372036854775807) : keyOf Tryd.prog 3 (.int .i64 x) = some (.int .i64 x) := Go.Maps.keyOf_int_mk Tryd.underlying3 (wf_i64 x h1 h2)
theorem lit_ne {x y : Int} (h : y ≠ x) : (Lit.int .i64 y) ≠ .int .i64 x := fun e => by cases e; exact h rfl
theorem lit_inj {c c' : Int} (h : (DataW.lit (.int .i64 c) : DataW Value) = .lit (.int .i64 c')) : c = c' := by
  injection h with h
  injection h
theorem ownsMap_keep {H : Type} {P : Program} {k : TypeId} {R : Value → Option (DataW H × List MemPlace)} {n mb : Nat} {D : DataW H} {w w' : World} (h : w.ownsMap P k R mb n D) (hb : w'.heap[mb]? = w.heap[mb]?) : w'.ownsMap P k R mb n D := by
  obtain ⟨es, clock, h1, h2⟩ := h
  exact ⟨es, clock, hb.trans h1, h2⟩
theorem sortsA (m : Nat) : AnyZI.SortsIn Tryd.prog sortedA_ren Fence.wide m :=
  ⟨fun blk off cap ss W hH hblk hsz => callsIn_wide.2 (AnyM.slices_Sort_int sortA blk off cap ss W hH hblk hsz),
   fun p cap W => callsIn_wide.2 (AnyM.slices_Sort_int_none sortA p cap W)⟩
theorem maps_keys (mb : Option Nat) (W : World) : Calls Tryd.prog 43 #[.map mb] W fun e w' => e = .returned (.func (.func 59) #[] #[.pointer (some ⟨W.heap.size, 0, none⟩)]) ∧ w' = W.alloc (.cells #[.map mb] 86) :=
  (callsIn_wide (n := 5)).1 (AnyZI.keys_in keysA Fence.wide 5 trivial rfl mb W)
theorem sorted_keys {H : Type} (b nn : Nat) (D0 : DataW H) (R : Value → Option (DataW H × List MemPlace)) (w : World) (hown : w.ownsMap Tryd.prog 3 R b nn D0) (hmax : Maps.size D0 ≤ maxLen) (hbytes : Maps.size D0 * 8 ≤ 140737488355328) :
    Calls Tryd.prog 42 #[.func (.func 59) #[] #[.pointer (some ⟨w.heap.size, 0, none⟩)]] (w.alloc (.cells #[.map (some b)] 86)) fun e w' => ∃ (v : Value) (ss : List Int), e = .returned v ∧ ss.Perm (intKeys D0) ∧
      w'.ownsRow (w.alloc (.cells #[.map (some b)] 86)).heap.size 3 1 v ss.length ((ss.mergeSort (fun x y => decide (x ≤ y))).map encZ) ∧ (v = .slice none 0 0 ↔ ss = []) ∧ Below (w.alloc (.cells #[.map (some b)] 86)).heap.size (w.alloc (.cells #[.map (some b)] 86)) w' := by
  have hbl := hown.lt
  have hseq : SeqGives Fence.wide 2 Tryd.prog 59 #[.pointer (some ⟨w.heap.size, 0, none⟩)] encZ (fun ss => ss.Perm (intKeys D0)) (Maps.size D0) (w.alloc (.cells #[.map (some b)] 86)) :=
    AnyZI.keys_gives (ρ := keysA_ren) { keysA with } Fence.wide _ trivial rfl (by omega) w.heap.size b nn D0 _ (by simp) (by simp) (by
      obtain ⟨es, clock, hb, Ft, hs, hD⟩ := hown
      exact ⟨es, clock, (Below.heap_alloc _ _ b hbl).trans hb, Ft, hs, hD⟩)
  exact (callsIn_wide (n := 5)).1 (AnyZI.sorted_in sortedA Fence.wide 5 trivial trivial trivial trivial rfl (by omega) (sortsA _) (enters_of Tryd.func58 (by kernel_rfl) rfl) 59 #[.pointer (some ⟨w.heap.size, 0, none⟩)] trivial (enters_of Tryd.func59 (by kernel_rfl) rfl) _ _ hmax hbytes _ hseq)
/-- What the keys of a map of integers are. -/
theorem keys_are {w : World} {mb n : Nat} {D : DataW Value} (h : w.ownsMap Tryd.prog 3 (plainElem Tryd.prog 3) mb n D) : (intKeys D).Nodup ∧ ∀ x, x ∈ intKeys D ↔ Maps.has D (.int .i64 x) = true := by
  obtain ⟨es, hD, hpw, _⟩ := h.entries intKey
  obtain ⟨es', hD', hko⟩ := h.keysOf
  obtain rfl : es = es' := by rw [hD] at hD'; simpa using hD'
  subst hD
  have hk : ∀ p ∈ es, ∃ x, p.1 = .int .i64 x := fun p hp => by
    obtain ⟨v, hv⟩ := hko p hp
    obtain ⟨x, _, hx, _⟩ := Maps.keyOf_i64 Tryd.underlying3 hv
    exact ⟨x, hx⟩
  constructor
  · show (es.map fun p => Go.intOf p.1).Nodup
    refine List.pairwise_map.2 (hpw.imp_of_mem fun {p q} hp' hq' hne e => hne ?_)
    obtain ⟨a, ha⟩ := hk p hp'
    obtain ⟨b, hb⟩ := hk q hq'
    rw [ha, hb] at e ⊢
    exact congrArg _ e
  · intro x
    rw [Maps.has_eq, List.any_eq_true]
    show x ∈ (es.map fun p => Go.intOf p.1) ↔ _
    rw [List.mem_map]
    constructor
    · rintro ⟨p, hp', rfl⟩
      obtain ⟨a, ha⟩ := hk p hp'
      exact ⟨p, hp', by rw [ha]; simp [Lit.sameKey, Go.intOf]⟩
    · rintro ⟨p, hp', hs⟩
      obtain ⟨a, ha⟩ := hk p hp'
      rw [ha] at hs
      exact ⟨p, hp', by rw [ha]; simpa [Lit.sameKey, Go.intOf] using hs⟩

/-! ### Slices of integers -/
def intC (z : Int) : List Value := [.int .i64 z]
theorem elemInt : ElemOf Tryd.prog 46 3 1 8 intC where
  under := Tryd.underlying46
  size := by kernel_rfl
  bytes := by kernel_rfl
  zero := ⟨.int .i64 0, by kernel_rfl, rfl⟩
  len := fun _ => rfl
  one := fun c u hu => by
    obtain rfl : u = .int .i64 c := by simpa [intC] using hu
    rfl
  pos := by decide
theorem flat_int (l : List Int) : l.flatMap intC = l.map encZ := by
  induction l with
  | nil => rfl
  | cons a l ih => rw [List.flatMap_cons, ih]; rfl
theorem ints_own {w : World} {base : Nat} {v : Value} {L : List Int} (h : w.ownsRow base 3 1 v L.length (L.map encZ)) : OwnL 3 1 intC w base w.heap.size v L := .of_owns (by rw [flat_int]; exact h)
theorem int_cell {w : World} {q : Option Addr} {l : List Int} (h : RowsAt 1 intC w q l) {k : Nat} (hk : k < l.length) : ∃ B o, q = some ⟨B, o, none⟩ ∧ B < w.heap.size ∧ w.cell? ⟨B, o + k, none⟩ = some (.int .i64 l[k]) := by
  rcases h with rfl | ⟨B, o, h1, h2, h3⟩
  · simp at hk
  · have := h3 k _ (List.getElem?_eq_getElem hk) 0 _ rfl
    rw [Nat.one_mul, Nat.add_zero] at this
    exact ⟨B, o, h1, h2, this⟩

/-! ### A map from numbers to places -/
/-- The datum D says of each number which place it has. -/
structure MapI (D : DataW Value) (f : Int → Option Nat) : Prop where
  has : ∀ x, Maps.has D (.int .i64 x) = (f x).isSome
  val : ∀ x i, f x = some i → ∀ z, D.atKey (.int .i64 x) z = .lit (.int .i64 (i : Nat))
theorem mapI_none : MapI (.map []) fun _ => none := ⟨fun _ => rfl, fun _ _ h => by cases h⟩
theorem MapI.put {D : DataW Value} {f : Int → Option Nat} (h : MapI D f) (hD : Maps.IsMap D) (x : Int) (i : Nat) (g : Int → Option Nat) (hx : g x = some i) (hg : ∀ y, y ≠ x → g y = f y) : MapI (D.put (.int .i64 x) (.lit (.int .i64 (i : Nat)))) g := by
  constructor
  · intro y
    by_cases e : y = x
    · subst e
      rw [hx, Maps.has_put_same hD (by trivial)]; rfl
    · rw [hg y e, Maps.has_put_other (lit_ne e)]; exact h.has y
  · intro y j hj z
    by_cases e : y = x
    · subst e
      rw [hx] at hj
      cases hj
      exact Maps.atKey_put_same hD (by trivial) _ z
    · rw [hg y e] at hj
      rw [Maps.atKey_put_other (lit_ne e)]; exact h.val y j hj z
def LastAt (w : World) (mb : Nat) (l : List PutOf) (k : Nat) : Prop := ∃ D : DataW Value, w.ownsMap Tryd.prog 3 (plainElem Tryd.prog 3) mb k D ∧ MapI D (lastTo l k)
theorem lastAt_new (w : World) (l : List PutOf) : LastAt (w.alloc (.map #[] 0)) w.heap.size l 0 := ⟨_, World.ownsMap_made w Tryd.prog 3 _, mapI_none⟩
theorem LastAt.keep {w w' : World} {mb k : Nat} {l : List PutOf} (h : LastAt w mb l k) (hb : w'.heap[mb]? = w.heap[mb]?) : LastAt w' mb l k := by
  obtain ⟨D, h1, h2⟩ := h
  exact ⟨D, ownsMap_keep h1 hb, h2⟩
theorem LastAt.lt {w : World} {mb k : Nat} {l : List PutOf} (h : LastAt w mb l k) : mb < w.heap.size := by obtain ⟨D, h1, _⟩ := h; exact h1.lt
theorem LastAt.below {w w' : World} {mb k : Nat} {l : List PutOf} (h : LastAt w mb l k) (hb : Below w.heap.size w w') : LastAt w' mb l k := h.keep (hb.block _ h.lt)
theorem MapI.next {D : DataW Value} {l : List PutOf} {k : Nat} (h : MapI D (lastTo l k)) (hD : Maps.IsMap D) : MapI (D.put (.int .i64 (l.getD k noPut).at') (.lit (.int .i64 (k : Nat)))) (lastTo l (k + 1)) :=
  h.put hD _ _ _ (by show (if _ then _ else _) = _; rw [if_pos rfl]) fun y hy => by show (if _ then _ else _) = _; rw [if_neg (fun e => hy e.symm)]
theorem keys_sorted {w : World} {mb n : Nat} {D : DataW Value} {l : List PutOf} (h : w.ownsMap Tryd.prog 3 (plainElem Tryd.prog 3) mb n D) (hr : MapI D (lastTo l l.length)) {ss : List Int} (hs : ss.Perm (intKeys D)) : IsKeys l (ss.mergeSort (fun x y => decide (x ≤ y))) := by
  obtain ⟨hn, hm⟩ := keys_are h
  have hp := List.mergeSort_perm ss (fun x y : Int => decide (x ≤ y))
  have hnd : (ss.mergeSort (fun x y => decide (x ≤ y))).Nodup := (hp.trans hs).nodup_iff.2 hn
  have hso : (ss.mergeSort (fun x y => decide (x ≤ y))).Pairwise (fun a b => decide (a ≤ b) = true) :=
    List.pairwise_mergeSort (fun a b c h1 h2 => by simp only [decide_eq_true_eq] at *; exact Int.le_trans h1 h2) (fun a b => by simp only [Bool.or_eq_true, decide_eq_true_eq]; exact Int.le_total a b) ss
  refine ⟨(List.Pairwise.and hso hnd).imp (fun {a b} hab => ?_), fun x => ?_⟩
  · have h1 := hab.1
    have h2 := hab.2
    simp only [decide_eq_true_eq] at h1
    omega
  · rw [(hp.trans hs).mem_iff, hm, hr.has]
end Go.Proofs.YtdeojhcfbiekmaaDoor
