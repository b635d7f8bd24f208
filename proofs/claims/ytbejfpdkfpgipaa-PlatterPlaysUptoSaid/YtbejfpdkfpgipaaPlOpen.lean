/- The contract of package platter's Open, and of slices.Values: the open sectors, rising. Conditions: the disk lies in memory; not more than 100,000 steps were made. -/
import Derived.Test.YtbejfpdkfpgipaaPlCrash
import Derived.Test.YtbejfpdkfpgipaaPlLay
namespace Go.Proofs.Ytbejfpdkfpgipaa
open Go.ChangeShapes Go.WideShapes Go.ChangeAt Go.RowKit Go.Maps Go.Sort Go.Shelf
set_option linter.unusedVariables false
theorem sortsA (m : Nat) : AnyZI.SortsIn Try.prog sortedA_ren Fence.wide m :=
  ⟨fun blk off cap ss W hH hblk hsz => callsIn_wide.2 (AnyM.slices_Sort_int sortA blk off cap ss W hH hblk hsz),
   fun p cap W => callsIn_wide.2 (AnyM.slices_Sort_int_none sortA p cap W)⟩
theorem maps_keys (mb : Option Nat) (W : World) : Calls Try.prog 56 #[.map mb] W fun e w' => e = .returned (.func (.func 60) #[] #[.pointer (some ⟨W.heap.size, 0, none⟩)]) ∧ w' = W.alloc (.cells #[.map mb] 86) :=
  (callsIn_wide (n := 5)).1 (AnyZI.keys_in keysA Fence.wide 5 trivial rfl mb W)
theorem sorted_keys {H : Type} (b nn : Nat) (D0 : DataW H) (R : Value → Option (DataW H × List MemPlace)) (w : World) (hown : w.ownsMap Try.prog 3 R b nn D0) (hmax : Maps.size D0 ≤ maxLen) (hbytes : Maps.size D0 * 8 ≤ 140737488355328) :
    Calls Try.prog 55 #[.func (.func 60) #[] #[.pointer (some ⟨w.heap.size, 0, none⟩)]] (w.alloc (.cells #[.map (some b)] 86)) fun e w' => ∃ (v : Value) (ss : List Int), e = .returned v ∧ ss.Perm (intKeys D0) ∧
      w'.ownsRow (w.alloc (.cells #[.map (some b)] 86)).heap.size 3 1 v ss.length ((ss.mergeSort (fun x y => decide (x ≤ y))).map encZ) ∧ (v = .slice none 0 0 ↔ ss = []) ∧ Below (w.alloc (.cells #[.map (some b)] 86)).heap.size (w.alloc (.cells #[.map (some b)] 86)) w' := by
  have hbl := hown.lt
  have hseq : SeqGives Fence.wide 2 Try.prog 60 #[.pointer (some ⟨w.heap.size, 0, none⟩)] encZ (fun ss => ss.Perm (intKeys D0)) (Maps.size D0) (w.alloc (.cells #[.map (some b)] 86)) :=
    AnyZI.keys_gives (ρ := keysA_ren) { keysA with } Fence.wide _ trivial rfl (by omega) w.heap.size b nn D0 _ (by simp) (by simp) (by
      obtain ⟨es, clock, hb, Ft, hs, hD⟩ := hown
      exact ⟨es, clock, (Below.heap_alloc _ _ b hbl).trans hb, Ft, hs, hD⟩)
  exact (callsIn_wide (n := 5)).1 (AnyZI.sorted_in sortedA Fence.wide 5 trivial trivial trivial trivial rfl (by omega) (sortsA _) (enters_of Try.func59 (by kernel_rfl) rfl) 60 #[.pointer (some ⟨w.heap.size, 0, none⟩)] trivial (enters_of Try.func60 (by kernel_rfl) rfl) _ _ hmax hbytes _ hseq)
/-- What the keys of a map of integers are. -/
theorem keys_are {w : World} {mb n : Nat} {D : DataW Value} (h : w.ownsMap Try.prog 3 cellR mb n D) : (intKeys D).Nodup ∧ ∀ x, x ∈ intKeys D ↔ Maps.has D (.int .i64 x) = true := by
  obtain ⟨es, hD, hpw, _⟩ := h.entries intKey
  obtain ⟨es', hD', hko⟩ := h.keysOf
  obtain rfl : es = es' := by rw [hD] at hD'; simpa using hD'
  subst hD
  have hk : ∀ p ∈ es, ∃ x, p.1 = .int .i64 x := fun p hp => by
    obtain ⟨v, hv⟩ := hko p hp
    obtain ⟨x, _, hx, _⟩ := Maps.keyOf_i64 Try.underlying3 hv
    exact ⟨x, hx⟩
  constructor
  · show (es.map fun p => Go.intOf p.1).Nodup
    refine List.pairwise_map.2 (hpw.imp_of_mem fun {p q} hp' hq' hne e => hne ?_)
    obtain ⟨a, ha⟩ := hk p hp'
    obtain ⟨b, hb⟩ := hk q hq'
    rw [ha, hb] at e ⊢
    exact congrArg _ e
  · intro x
    rw [Maps.has_eq, List.any_eq_true]
    show x ∈ (es.map fun p => Go.intOf p.1) ↔ _
    rw [List.mem_map]
    constructor
    · rintro ⟨p, hp', rfl⟩
      obtain ⟨a, ha⟩ := hk p hp'
      exact ⟨p, hp', by rw [ha]; simp [Lit.sameKey, Go.intOf]⟩
    · rintro ⟨p, hp', hs⟩
      obtain ⟨a, ha⟩ := hk p hp'
      rw [ha] at hs
      exact ⟨p, hp', by rw [ha]; simpa [Lit.sameKey, Go.intOf] using hs⟩
/-- The list of the open sectors, rising. -/
structure IsOpen (opn : Int → Option (List Int)) (L : List Int) : Prop where
  up : L.Pairwise (· < ·)
  mem : ∀ x, x ∈ L ↔ (opn x).isSome = true
theorem sorted_open {w : World} {mb n : Nat} {D : DataW Value} {opn : Int → Option (List Int)} (h : w.ownsMap Try.prog 3 cellR mb n D) (hr : Reads D opn) {ss : List Int} (hs : ss.Perm (intKeys D)) : IsOpen opn (ss.mergeSort (fun x y => decide (x ≤ y))) := by
  obtain ⟨hn, hm⟩ := keys_are h
  have hp := List.mergeSort_perm ss (fun x y : Int => decide (x ≤ y))
  have hnd : (ss.mergeSort (fun x y => decide (x ≤ y))).Nodup := (hp.trans hs).nodup_iff.2 hn
  have hso : (ss.mergeSort (fun x y => decide (x ≤ y))).Pairwise (fun a b => decide (a ≤ b) = true) :=
    List.pairwise_mergeSort (fun a b c h1 h2 => by simp only [decide_eq_true_eq] at *; exact Int.le_trans h1 h2) (fun a b => by simp only [Bool.or_eq_true, decide_eq_true_eq]; exact Int.le_total a b) ss
  refine ⟨(List.Pairwise.and hso hnd).imp (fun {a b} hab => ?_), fun x => ?_⟩
  · have h1 := hab.1
    have h2 := hab.2
    simp only [decide_eq_true_eq] at h1
    omega
  · rw [(hp.trans hs).mem_iff, hm, hr.has]
theorem isOpen_unique {opn : Int → Option (List Int)} {L L' : List Int} (h : IsOpen opn L) (h' : IsOpen opn L') : L = L' :=
  List.Perm.eq_of_pairwise (le := fun a b => a < b) (fun a b _ _ h1 h2 => absurd h1 (by omega)) h.up h'.up ((List.perm_ext_iff_of_nodup (h.up.imp fun h => by omega) (h'.up.imp fun h => by omega)).2 fun x => by rw [h.mem, h'.mem])
/-- A list of integers in a box. -/
def BoxQ (V : World) (C : Nat) (q : Option Addr) (c : Nat) (L : List Int) : Prop := V.cell? ⟨C, 0, none⟩ = some (.slice q L.length c) ∧ IntsAt V q L
def BoxI (M : Nat) (w : World) (C : Nat) (L : List Int) : Prop := ∃ q c, BoxQ w C q c L ∧ C < w.heap.size ∧ M ≤ C ∧ ∀ B o, q = some ⟨B, o, none⟩ → M ≤ B
theorem ints_of_owns {w : World} {base n : Nat} {v : Value} {L : List Int} (h : w.ownsRow base 3 1 v n (L.map encZ)) (hl : L.length = n) : ∃ q c, v = .slice q L.length c ∧ IntsAt w q L ∧ ∀ B o, q = some ⟨B, o, none⟩ → base ≤ B := by
  rcases h.2 with ⟨rfl, hz⟩ | ⟨gb, cap, cur, rfl, hbase, hgb, r1, r2, r3, r4⟩
  · have : L = [] := List.eq_nil_of_length_eq_zero (by omega)
    subst this
    exact ⟨none, 0, rfl, .inl rfl, fun B o e => by cases e⟩
  · refine ⟨_, cap, by rw [hl], .inr ⟨gb, 0, rfl, (Array.getElem?_eq_some_iff.1 hgb).1, fun j hj => ?_⟩, fun B o e => by cases e; exact hbase⟩
    rw [Nat.zero_add, cell_of_row _ _ _ _ _ _ hgb]
    have e : (cur.toList.take (n * 1))[j]? = (L.map encZ)[j]? := by rw [r4]
    rw [← Array.getElem?_toList]
    have : (cur.toList.take (n * 1))[j]? = cur.toList[j]? := List.getElem?_take_of_lt (by omega)
    rw [← this, e]
    simp [encZ, List.getD_eq_getElem?_getD, hj]
set_option maxRecDepth 100000 in
theorem Values_any (p : Option Addr) (n cap : Nat) (w : World) : Calls Try.prog 57 #[.slice p n cap] w fun e w' => e = .returned (.func (.func 61) #[] #[.pointer (some ⟨w.heap.size, 0, none⟩)]) ∧ w.alloc (.cells #[.slice p n cap] 35) = w' := by
  go_enter Try.func57, Try.ntmps57
  go_wp2
  go_ret
  exact ⟨rfl, rfl⟩
theorem boxI_new (M : Nat) (w : World) (q : Option Addr) (L : List Int) (c : Nat) (h : IntsAt w q L) (hM : M ≤ w.heap.size) (hq : ∀ B o, q = some ⟨B, o, none⟩ → M ≤ B) : BoxI M (w.alloc (.cells #[.slice q L.length c] 35)) w.heap.size L :=
  ⟨q, c, ⟨box_cell (heap_alloc_new _ _), h.below ((Below.refl _ _).alloc (Nat.le_refl _) _)⟩, by simp, hM, hq⟩
set_option maxRecDepth 100000 in
theorem Open_nil (w : World) : Calls Try.prog 54 #[.pointer none] w fun e w' => ∃ C, e = .returned (.func (.func 61) #[] #[.pointer (some ⟨C, 0, none⟩)]) ∧ BoxI w.heap.size w' C [] ∧ Below w.heap.size w w' := by
  have VC := Lib.hid (Values_any none 0 0 w)
  have BX := Lib.hid (boxI_new w.heap.size w none [] 0 (.inl rfl) (Nat.le_refl _) (fun B o e => by cases e))
  have BB := Lib.hid ((Below.refl _ w).alloc (Nat.le_refl _) (.cells #[.slice none 0 0] 35))
  go_enter Try.func54, Try.ntmps54
  go_wp2_with (go_at_call 57; refine (VC.out).mono ?_; rintro e w1 ⟨rfl, rfl⟩)
  go_ret
  exact ⟨_, rfl, BX.out, BB.out⟩
set_option maxRecDepth 100000 in
set_option maxHeartbeats 1000000 in
theorem Open_ok {w : World} {b : Blks} {d : Disk} (h : DiskAt w b d) (hm : d.made ≤ 100000) : Calls Try.prog 54 #[.pointer (some ⟨b.B, 0, none⟩)] w fun e w' => ∃ C L, e = .returned (.func (.func 61) #[] #[.pointer (some ⟨C, 0, none⟩)]) ∧ IsOpen d.opn L ∧ BoxI w.heap.size w' C L ∧ Below w.heap.size w w' := by
  have c5 := h.c5
  obtain ⟨n, D, hn, hown, hr⟩ := h.opn
  have hs := hown.size_le
  have KC := Lib.hid (maps_keys (some b.mb) w)
  have SC := Lib.hid (sorted_keys b.mb n D cellR w hown (by unfold maxLen; omega) (by omega))
  have HO := Lib.hid (fun (ss : List Int) (hp : ss.Perm (intKeys D)) => sorted_open hown hr hp)
  have BB := Lib.hid ((Below.refl _ w).alloc (Nat.le_refl _) (.cells #[.map (some b.mb)] 86))
  clear h hm hn hown hr hs
  go_enter Try.func54, Try.ntmps54
  go_wp2_with (first
    | (go_at_call 56; refine (KC.out).mono ?_; rintro e w1 ⟨rfl, rfl⟩)
    | (go_at_call 55; refine (SC.out).mono ?_; rintro e w2 ⟨v, ss, rfl, hp, hrow, hnil, hb⟩
       have IO := Lib.hid (HO.out ss hp)
       obtain ⟨q, c, hv, hi, hq⟩ := ints_of_owns hrow (List.length_mergeSort ss)
       subst hv
       generalize ss.mergeSort (fun x y => decide (x ≤ y)) = L at *
       have HI := Lib.hid hi
       have HQ := Lib.hid (fun B o e => Nat.le_trans BB.out.size (hq B o e))
       have B2 := Lib.hid (BB.out.trans (hb.mono BB.out.size))
       clear hp hrow hnil hb hi hq)
    | (go_at_call 57; refine (Values_any q _ c w2).mono ?_; rintro e w3 ⟨rfl, rfl⟩))
  go_ret
  exact ⟨_, _, rfl, IO.out, boxI_new w.heap.size w2 q _ c HI.out B2.out.size HQ.out, B2.out.alloc B2.out.size _⟩
end Go.Proofs.Ytbejfpdkfpgipaa
