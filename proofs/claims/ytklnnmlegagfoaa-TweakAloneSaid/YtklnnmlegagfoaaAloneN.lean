/- Bytes of a row changed in one place, and what that changes of a text that is hidden: what the statement TweakAlone stands on. No condition. -/
import Derived.Test.YtklnnmlegagfoaaTwCipher
import Derived.Test.YtklnnmlegagfoaaOpenT
import Derived.Lib.Bytes
namespace Go.Proofs.Ytklnnmlegagfoaa
open Go.ChangeShapes Go.WideShapes Go.ChangeAt Go.RowKit
set_option linter.unusedVariables false

theorem str_inj {n m : Nat} {f g : Nat → Nat} (hf : ∀ i, i < n → f i < 256) (hg : ∀ i, i < m → g i < 256) : strOfNums (mk n f) = strOfNums (mk m g) ↔ mk n f = mk m g := by
  constructor
  · intro h
    have hd := congrArg (fun s => s.data.toList) h
    simp only [strOfNums_data] at hd
    have hl : n = m := by have := congrArg List.length hd; simpa [mk_len] using this
    subst hl
    refine mk_ext fun i hi => ?_
    have h2 := congrArg (fun l => l[i]?) hd
    simp only [mk, List.map_map, List.getElem?_map, List.getElem?_range hi, Option.map_some, Function.comp, Option.some.injEq, Int.toNat_natCast] at h2
    have h3 := congrArg UInt8.toNat h2
    simp only [UInt8.toNat_ofNat'] at h3
    have a := hf i hi
    have b := hg i hi
    omega
  · intro h; rw [h]
theorem str_eq {n m : Nat} {f g : Nat → Nat} (hf : ∀ i, i < n → f i < 256) (hg : ∀ i, i < m → g i < 256) : ((strOfNums (mk n f)).toList == (strOfNums (mk m g)).toList) = decide (mk n f = mk m g) := by
  rw [Lib.strOfNums_toList, Lib.strOfNums_toList]
  by_cases h : mk n f = mk m g
  · rw [h]; simp
  · rw [decide_eq_false h, beq_eq_false_iff_ne]
    intro hb
    refine h ((str_inj hf hg).1 ?_)
    have : (strOfNums (mk n f)).data.toList = (strOfNums (mk m g)).data.toList := hb
    exact congrArg ByteArray.mk (Array.toList_inj.1 this)
/-- A text with another byte in one place. -/
def turnF (G : Nat → Nat) (k y : Nat) : Nat → Nat := fun x => if x = k then y else G x
theorem turnF_lt {G : Nat → Nat} {k y N : Nat} (hG : ∀ i, i < N → G i < 256) (hy : y < 256) : ∀ i, i < N → turnF G k y i < 256 := fun i hi => by
  unfold turnF; split
  · exact hy
  · exact hG i hi
theorem bytesList_turn (N : Nat) (G : Nat → Nat) (k y : Nat) : (bytesList N G).set k (.int .u8 (y : Nat)) = bytesList N (turnF G k y) := by
  apply List.ext_getElem?
  intro i
  rw [List.getElem?_set]
  rcases Nat.lt_or_ge i N with h | h
  · by_cases e : k = i
    · subst e
      rw [if_pos rfl, if_pos (by rw [bytesList_len]; exact h), bytesList_at h]
      unfold turnF; rw [if_pos rfl]
    · rw [if_neg e, bytesList_at h, bytesList_at h]
      unfold turnF; rw [if_neg (fun h => e h.symm)]
  · rw [List.getElem?_eq_none (by rw [bytesList_len]; exact h), List.getElem?_eq_none (by rw [bytesList_len]; exact h)]
    split
    · rw [if_neg (by rw [bytesList_len]; omega)]
    · rfl
/-- A row that begins with n bytes. -/
def RowS (w : World) (B n : Nat) (G : Nat → Nat) : Prop := ∃ cur, w.heap[B]? = some (.cells cur 5 (0, 0)) ∧ cur.toList.take n = bytesList n G
theorem RowS.lt {w : World} {B n : Nat} {G : Nat → Nat} (h : RowS w B n G) : B < w.heap.size := by
  obtain ⟨cur, hh, _⟩ := h; exact lt_of_block hh
theorem RowS.below {w w' : World} {B n M : Nat} {G : Nat → Nat} (h : RowS w B n G) (hb : Below M w w') (hB : B < M) : RowS w' B n G := by
  obtain ⟨cur, hh, r⟩ := h; exact ⟨cur, (hb.block B hB).trans hh, r⟩
theorem RowS.cells {w : World} {B n : Nat} {G : Nat → Nat} (h : RowS w B n G) : Cells w B 0 n G := fun j hj => by
  obtain ⟨cur, hh, hc⟩ := h
  rw [Nat.zero_add, cell_of_row w B j cur _ (0, 0) hh]
  have := bytesList_at (n := n) (F := G) hj
  rw [← hc, List.getElem?_take_of_lt hj] at this
  simpa using this
theorem RowS.bytesAt {w : World} {B n : Nat} {G : Nat → Nat} (h : RowS w B n G) : BytesAt w (some ⟨B, 0, none⟩) n G := .inr ⟨B, 0, rfl, h.lt, h.cells⟩
theorem RowS.free {w : World} {B n : Nat} {G : Nat → Nat} (h : RowS w B n G) (i : Nat) : w.frozen? ⟨B, i, none⟩ = false := by
  obtain ⟨cur, hh, _⟩ := h; exact frozen_of_row w B i _ _ hh
theorem RowS.turn {w : World} {B n : Nat} {G : Nat → Nat} (h : RowS w B n G) (k y : Nat) : RowS (w.setCell ⟨B, k, none⟩ (.int .u8 (y : Nat))) B n (turnF G k y) := by
  have hlt := h.lt
  obtain ⟨cur, hh, hc⟩ := h
  have h' : w.heap[B] = .cells cur 5 (0, 0) := by simpa [Array.getElem?_eq_getElem hlt] using hh
  refine ⟨cur.setIfInBounds k (.int .u8 (y : Nat)), ?_, ?_⟩
  · show (w.heap.modify B _)[B]? = _
    rw [Array.getElem?_eq_getElem (by simpa using hlt), Array.getElem_modify_self, h']
    simp
  · rw [← bytesList_turn, ← hc, Array.toList_setIfInBounds, List.take_set]
theorem OwnS.row {w : World} {base top : Nat} {v : Value} {k : Nat} {F : Nat → Nat} (h : OwnS 5 1 w base top v k F) (hk : k ≠ 0) : ∃ B c, v = .slice (some ⟨B, 0, none⟩) k c ∧ base ≤ B ∧ B < top ∧ k ≤ c ∧ c ≤ maxLen ∧ RowS w B k F := by
  rcases h with ⟨_, h0⟩ | ⟨B, c, cur, h1, h2, h3, h4, h5, h6, h7, h8⟩
  · exact absurd h0 hk
  · rw [Nat.mul_one] at h8; exact ⟨B, c, h1, h2, h3, h5, h6, cur, h4, h8⟩
/-- A block in which no byte was changed is hidden as it was. -/
theorem alone_same {R : Nat → Nat → Nat} {T : Nat} {t G : Nat → Nat} {N k y i : Nat} (hN : N % 16 = 0) (hi : i < N / 16) (hk : k / 16 ≠ i) : mk 16 (fun j => txtW false R T t N (turnF G k y) (16 * i + j)) = mk 16 (fun j => txtW false R T t N G (16 * i + j)) :=
  mk_ext fun j hj => by
    rw [txtW_in (.inl ⟨hN, hi⟩) hj, txtW_in (.inl ⟨hN, hi⟩) hj]
    refine eq_wB false R T _ (fun x hx => ?_) j hj
    unfold blk turnF; rw [if_neg (by omega)]
/-- A block in which one byte was changed is hidden otherwise. -/
theorem alone_other {R : Nat → Nat → Nat} {T : Nat} {t G : Nat → Nat} {N k y : Nat} (hR : ∀ i, i < T → IsKey (R i)) (ht : IsKey t) (hG : ∀ i, i < N → G i < 256) (hy : y < 256) (hN : N % 16 = 0) (hk : k < N) (hne : y ≠ G k) :
    mk 16 (fun j => txtW false R T t N (turnF G k y) (16 * (k / 16) + j)) ≠ mk 16 (fun j => txtW false R T t N G (16 * (k / 16) + j)) := fun h => by
  have hi : k / 16 < N / 16 := by omega
  have hT := turnF_lt (k := k) (y := y) hG hy
  have e : ∀ j, j < 16 → wB false R T (twk t (k / 16)) (blk (turnF G k y) (k / 16)) j = wB false R T (twk t (k / 16)) (blk G (k / 16)) j := fun j hj => by
    have := congrArg (fun l => l.getD j 0) h
    simp only [mk_get hj] at this
    rw [txtW_in (.inl ⟨hN, hi⟩) hj, txtW_in (.inl ⟨hN, hi⟩) hj] at this
    omega
  have e2 := eq_wB true R T (twk t (k / 16)) e (k % 16) (by omega)
  have b1 := wB_back (b := false) hR (twk_key ht (k / 16)) (blk_key hT (i := k / 16) (by omega)) (k % 16) (by omega)
  have b2 := wB_back (b := false) hR (twk_key ht (k / 16)) (blk_key hG (i := k / 16) (by omega)) (k % 16) (by omega)
  simp only [Bool.not_false] at b1 b2
  rw [b1, b2] at e2
  unfold blk turnF at e2
  rw [show 16 * (k / 16) + k % 16 = k by omega, if_pos rfl] at e2
  exact hne e2
/-- What a byte is changed to is another one. -/
theorem flip_ne (x y : Nat) : x ^^^ (1 ||| y) ≠ x := fun h => by
  have h2 : x ^^^ (x ^^^ (1 ||| y)) = x ^^^ x := by rw [h]
  rw [← Nat.xor_assoc, Nat.xor_self, Nat.zero_xor] at h2
  have : 1 ≤ 1 ||| y := Nat.left_le_or
  omega
end Go.Proofs.Ytklnnmlegagfoaa
