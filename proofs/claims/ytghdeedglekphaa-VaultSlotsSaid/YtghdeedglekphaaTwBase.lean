/- TwBase: merged by merge.py out of Blk Arr ByteE Num NumB RefNum Key Part Open BytesS Make KeyS WordS QuietG QuietS QuietW KeyB Range Bool Ends EndR TailQ Sched RoundW OwnS OwnB StrS CopyC OpenSz SubNum KeyD. Conditions: as each part says. -/
import Derived.Below
import Derived.Laws.Rows
import Derived.Laws.Tables
import Derived.IntWalk
import Derived.Laws.StructEq
import Derived.WalkKit
import Derived.Test.YtghdeedglekphaaRows
import Derived.Laws.CopyOwn
import Derived.Deep.Quiet
import Derived.ProofKit
import Derived.OpenShut
import Derived.ChangeOld
import Derived.Deep.Slices
import Derived.Laws.MakeOwn
import Derived.Lib.Hide
import Derived.StillTailTactics
import Derived.Outline
import Derived.BigQuiet
import Derived.RangeFuncNested
import Derived.RangeFuncLeaves
import Derived.StillTail
import Derived.Orders
import Derived.OrdersIn
import Derived.OwnWalkIn
import Derived.Laws.AppendOwn
import Derived.Great.BuildSlice
import Derived.ArgAppend
import Derived.Deep.Upon
import Derived.OwnWalk
import Derived.Laws.BytesArg
import Derived.Laws.Strings
import Derived.SizedLaws
/- A block of memory that holds a list of integers: reading, writing, keeping. No condition. -/
namespace Go.Proofs.Ytghdeedglekphaa
open Go Go.RowKit

/-- An array of integers as a value's cells. -/
def cellsOf (k : IntKind) (l : List Int) : Array Value := (l.map (Value.int k)).toArray
theorem cellsOf_get (k : IntKind) (l : List Int) {i : Nat} (h : i < l.length) : (cellsOf k l)[i]? = some (.int k (l.getD i 0)) := by
  simp [cellsOf, List.getD_eq_getElem?_getD, h]
theorem cellsOf_size (k : IntKind) (l : List Int) : (cellsOf k l).size = l.length := by simp [cellsOf]
theorem cellsOf_one (k : IntKind) (l : List Int) : (cellsOf k l).all (·.oneCell') = true := by
  simp [cellsOf, Value.oneCell']

theorem cellsOf_set (k : IntKind) (l : List Int) (i : Nat) (v : Int) : (cellsOf k l).setIfInBounds i (.int k v) = cellsOf k (l.set i v) := by
  simp [cellsOf, List.map_set]
/-- Block B is an array of integers of kind k, type t: l. -/
def IntBlk (w : World) (B : Nat) (k : IntKind) (t : TypeId) (l : List Int) : Prop := w.heap[B]? = some (.cells (cellsOf k l) t (0, 0))

theorem IntBlk.lt {w : World} {B : Nat} {k : IntKind} {t : TypeId} {l : List Int} (h : IntBlk w B k t l) : B < w.heap.size := by
  rcases Nat.lt_or_ge B w.heap.size with h' | h'
  · exact h'
  · unfold IntBlk at h; simp [Array.getElem?_eq_none h'] at h
theorem IntBlk.cell {w : World} {B : Nat} {k : IntKind} {t : TypeId} {l : List Int} (h : IntBlk w B k t l) {i : Nat} (hi : i < l.length) :
    w.cell? ⟨B, i, none⟩ = some (.int k (l.getD i 0)) := by
  rw [cell_of_row w B i _ t (0, 0) h]; exact cellsOf_get k l hi
theorem IntBlk.free {w : World} {B : Nat} {k : IntKind} {t : TypeId} {l : List Int} (h : IntBlk w B k t l) (i : Nat) : w.frozen? ⟨B, i, none⟩ = false :=
  frozen_of_row w B i _ t h
theorem IntBlk.set {w : World} {B : Nat} {k : IntKind} {t : TypeId} {l : List Int} (h : IntBlk w B k t l) (i : Nat) (v : Int) :
    IntBlk (w.setCell ⟨B, i, none⟩ (.int k v)) B k t (l.set i v) := by
  have hlt := h.lt
  have h' : w.heap[B] = .cells (cellsOf k l) t (0, 0) := by unfold IntBlk at h; simpa [Array.getElem?_eq_getElem hlt] using h
  show (w.heap.modify B _)[B]? = _
  rw [Array.getElem?_eq_getElem (by simpa using hlt), Array.getElem_modify_self, h']
  simp [cellsOf, List.map_set]
theorem IntBlk.drew {w : World} {B : Nat} {k : IntKind} {t : TypeId} {l : List Int} (h : IntBlk w B k t l) : IntBlk w.drew B k t l := h
theorem IntBlk.alloc {w : World} {B : Nat} {k : IntKind} {t : TypeId} {l : List Int} (h : IntBlk w B k t l) (o : Obj) : IntBlk (w.alloc o) B k t l := by
  unfold IntBlk; rw [Below.heap_alloc _ _ _ h.lt]; exact h
theorem IntBlk.other {w : World} {B : Nat} {k : IntKind} {t : TypeId} {l : List Int} (h : IntBlk w B k t l) {a : Addr} (ha : a.block ≠ B) (v : Value) : IntBlk (w.setCell a v) B k t l := by
  unfold IntBlk; rw [heap_setCell_other _ _ _ _ (fun e => ha e.symm)]; exact h
theorem IntBlk.below {w w' : World} {B M : Nat} {k : IntKind} {t : TypeId} {l : List Int} (h : IntBlk w B k t l) (hb : Below M w w') (hM : B < M) : IntBlk w' B k t l := by
  unfold IntBlk; rw [hb.block B hM]; exact h
theorem IntBlk.new (w : World) (k : IntKind) (t : TypeId) (l : List Int) : IntBlk (w.alloc (.cells (cellsOf k l) t)) w.heap.size k t l := heap_alloc_new _ _
theorem IntBlk.setRow {w : World} {B : Nat} {k : IntKind} {t : TypeId} {l : List Int} (h : IntBlk w B k t l) (k' : IntKind) (l' : List Int) : IntBlk (w.setRow B (cellsOf k' l')) B k' t l' :=
  setRow_heap w B _ _ t (0, 0) h
theorem IntBlk.otherRow {w : World} {B C : Nat} {k : IntKind} {t : TypeId} {l : List Int} (h : IntBlk w B k t l) (hc : B ≠ C) (cs : Array Value) : IntBlk (w.setRow C cs) B k t l := by
  unfold IntBlk; rw [setRow_other w C B cs hc]; exact h
theorem below_setRow {M : Nat} {a w : World} (h : Below M a w) {g : Nat} (hg : M ≤ g) (cs : Array Value) : Below M a (w.setRow g cs) :=
  h.trans ⟨rfl, rfl, rfl, by simp, fun k hk => setRow_other w g k cs (by omega)⟩
/-- A new block on top of what a call has left. -/
theorem below_call {M : Nat} {a w w' : World} (h : Below M a w) (hw : Below w.heap.size w w') (hM : M ≤ w.heap.size) : Below M a w' := h.trans (hw.mono hM)
/-- The blocks that a call has just made, by their order. -/
theorem blk_first (w : World) (k : IntKind) (t : TypeId) (l : List Int) (o1 o2 : Obj) : IntBlk (((w.alloc (.cells (cellsOf k l) t)).alloc o1).alloc o2) w.heap.size k t l :=
  ((IntBlk.new w k t l).alloc o1).alloc o2
theorem blk_two (w : World) (k : IntKind) (t : TypeId) (l : List Int) (o0 : Obj) : IntBlk ((w.alloc o0).alloc (.cells (cellsOf k l) t)) (w.heap.size + 1) k t l := by
  have h := IntBlk.new (w.alloc o0) k t l
  rw [World.size_alloc] at h; exact h
theorem blk_second (w : World) (k : IntKind) (t : TypeId) (l : List Int) (o0 o2 : Obj) : IntBlk (((w.alloc o0).alloc (.cells (cellsOf k l) t)).alloc o2) (w.heap.size + 1) k t l := by
  have h := (IntBlk.new (w.alloc o0) k t l).alloc o2
  rw [World.size_alloc] at h; exact h
theorem blk_third (w : World) (k : IntKind) (t : TypeId) (l : List Int) (o0 o1 : Obj) : IntBlk (((w.alloc o0).alloc o1).alloc (.cells (cellsOf k l) t)) (w.heap.size + 1 + 1) k t l := by
  have h := IntBlk.new ((w.alloc o0).alloc o1) k t l
  rw [World.size_alloc, World.size_alloc] at h; exact h
theorem blk_fourth (w : World) (k : IntKind) (t : TypeId) (l : List Int) (o0 o1 o2 : Obj) : IntBlk ((((w.alloc o0).alloc o1).alloc o2).alloc (.cells (cellsOf k l) t)) (w.heap.size + 1 + 1 + 1) k t l := by
  have h := IntBlk.new (((w.alloc o0).alloc o1).alloc o2) k t l
  rw [World.size_alloc, World.size_alloc, World.size_alloc] at h; exact h
theorem blk_fifth (w : World) (k : IntKind) (t : TypeId) (l : List Int) (o0 o1 o2 o3 : Obj) : IntBlk (((((w.alloc o0).alloc o1).alloc o2).alloc o3).alloc (.cells (cellsOf k l) t)) (w.heap.size + 1 + 1 + 1 + 1) k t l := by
  have h := IntBlk.new ((((w.alloc o0).alloc o1).alloc o2).alloc o3) k t l
  rw [World.size_alloc, World.size_alloc, World.size_alloc, World.size_alloc] at h; exact h
theorem below_two (w : World) (o0 o1 : Obj) : Below w.heap.size w ((w.alloc o0).alloc o1) :=
  ((Below.refl _ _).alloc (Nat.le_refl _) _).alloc (by simp) _
theorem below_three (w : World) (o0 o1 o2 : Obj) : Below w.heap.size w (((w.alloc o0).alloc o1).alloc o2) :=
  (below_two w o0 o1).alloc (by simp; omega) _
theorem below_four (w : World) (o0 o1 o2 o3 : Obj) : Below w.heap.size w ((((w.alloc o0).alloc o1).alloc o2).alloc o3) :=
  (below_three w o0 o1 o2).alloc (by simp; omega) _
end Go.Proofs.Ytghdeedglekphaa

/- Arrays of integers by value: an element by its index, and whether two arrays are the same. Conditions: the index is in range; the arrays have the type's length. -/
namespace Go.Proofs.Ytghdeedglekphaa
open Go

section
variable {P : Program} (w : World)
/-- What is asked of the element's type. -/
structure IntElem (P : Program) (e : TypeId) (k : IntKind) : Prop where
  under : P.underlying e = some (.int k)
  size : (P.info? e).map (·.size) = some 1
theorem IntElem.run_size {e : TypeId} {k : IntKind} (h : IntElem P e k) : (sizeOf e).run P w = .ok 1 w := by
  cases hq : P.info? e with
  | none => have := h.size; simp [hq] at this
  | some i => have := h.size; simp [hq] at this; simp [sizeOf, typeInfo, hq, this]
theorem IntElem.run_agg {e : TypeId} {k : IntKind} (h : IntElem P e k) : (isAgg e).run P w = .ok false w := by
  simp [isAgg, Sem.run_bind, run_underlying h.under]
theorem run_part_ints {e : TypeId} {k : IntKind} (h : IntElem P e k) (l : List Int) {i : Nat} (hi : i < l.length) :
    (part e (cellsOf k l) i).run P w = .ok (.int k (l.getD i 0)) w := by
  simp [part, Sem.run_bind, h.run_agg, cellsOf_get k l hi]
theorem run_index_ints {t e : TypeId} {k : IntKind} (l : List Int) (ht : P.underlying t = some (.array l.length e)) (h : IntElem P e k) {i : Nat} (hi : i < l.length) :
    (Instr.index t (.agg (cellsOf k l)) (.int .i64 i)).run P w = .ok (.int k (l.getD i 0)) w := by
  have h0 : (0 : Int) ≤ i ∧ (i : Int) < l.length := by omega
  simp [Instr.index, run_underlying ht, asIntOf, h0, h.run_size, run_part_ints w h l hi]
  omega
/-- The same where the index is of another kind of integers. -/
theorem run_index_kind {t e : TypeId} {k ki : IntKind} (l : List Int) (ht : P.underlying t = some (.array l.length e)) (h : IntElem P e k) {i : Nat} (hi : i < l.length) :
    (Instr.index t (.agg (cellsOf k l)) (.int ki i)).run P w = .ok (.int k (l.getD i 0)) w := by
  have h0 : (0 : Int) ≤ i ∧ (i : Int) < l.length := by omega
  simp [Instr.index, run_underlying ht, asIntOf, h0, h.run_size, run_part_ints w h l hi]
  omega
theorem run_equalIn_ints (d : Nat) {t e : TypeId} {k : IntKind} (xs ys : List Int) (ht : P.underlying t = some (.array xs.length e)) (h : IntElem P e k) (hl : ys.length = xs.length) :
    (Op.equalIn (d + 2) t (.agg (cellsOf k xs)) (.agg (cellsOf k ys))).run P w = .ok (xs == ys) w := by
  rw [show d + 2 = (d + 1) + 1 from rfl, Op.equalIn]
  simp only [Sem.run_bind, run_underlying ht, Result.andThen_ok, h.run_size]
  simp only [Std.Legacy.Range.forIn_eq_forIn_range', Std.Legacy.Range.size, Nat.sub_zero, Nat.add_sub_cancel, Nat.div_one]
  have main : ∀ (n s : Nat), s + n = xs.length →
      (forIn (List.range' s n 1) ((none, ()) : Option Bool × Unit) fun i _ => do
            let a ← part e (cellsOf k xs) (i * 1)
            let b ← part e (cellsOf k ys) (i * 1)
            let r ← Op.equalIn (d + 1) e a b
            if (!r) = true then pure (ForInStep.done (some false, ())) else pure (ForInStep.yield (none, ()))).run P w
        = .ok (if xs.drop s == ys.drop s then (none, ()) else (some false, ())) w := by
    intro n
    induction n with
    | zero =>
      intro s hs
      simp [List.drop_eq_nil_of_le (show xs.length ≤ s by omega), List.drop_eq_nil_of_le (show ys.length ≤ s by omega)]
    | succ n ih =>
      intro s hs
      have h1 : s < xs.length := by omega
      have h2 : s < ys.length := by omega
      rw [List.range'_succ, List.forIn_cons]
      simp only [Nat.mul_one, Sem.run_bind, run_part_ints w h xs h1, run_part_ints w h ys h2, Result.andThen_ok, run_equalIn_int w d e k k _ _ h.under]
      have g1 : xs.getD s 0 = xs[s] := by simp [List.getD_eq_getElem?_getD, h1]
      have g2 : ys.getD s 0 = ys[s] := by simp [List.getD_eq_getElem?_getD, h2]
      have hd : (xs.drop s == ys.drop s) = (xs[s] == ys[s] && xs.drop (s + 1) == ys.drop (s + 1)) := by
        rw [List.drop_eq_getElem_cons h1, List.drop_eq_getElem_cons h2]; rfl
      rw [g1, g2, hd]
      have := ih (s + 1) (by omega)
      simp only [Nat.mul_one] at this
      cases he : xs[s] == ys[s]
      · simp only [Bool.not_false, if_true, Sem.run_pure, Result.andThen_ok, Bool.false_and, Bool.false_eq_true, if_false]
      · simp only [Bool.not_true, Bool.false_eq_true, if_false, Sem.run_pure, Result.andThen_ok, Bool.true_and]
        exact this
  rw [main xs.length 0 (by omega)]
  simp only [List.drop_zero, Result.andThen_ok]
  by_cases he : xs = ys
  · subst he; simp
  · simp [he]
end
end Go.Proofs.Ytghdeedglekphaa

/- The type of bytes. No condition. -/
namespace Go.Proofs.Ytghdeedglekphaa
open Go Go.RowKit

theorem byteElem : IntElem Try.prog 5 .u8 := ⟨Try.underlying5, by kernel_rfl⟩
end Go.Proofs.Ytghdeedglekphaa

/- Plain mathematics of the field of bytes: the products that the code of package field reckons, and their laws. No condition. -/
namespace Go.Proofs.Ytghdeedglekphaa
open Go

/-! ### Bits of bytes -/
theorem bits_xor_u8 {x y : Nat} (hx : x < 256) (hy : y < 256) : bits .xor .u8 (x : Int) (y : Int) = ((x ^^^ y : Nat) : Int) := by
  have h : x ^^^ y < 2 ^ 8 := Nat.xor_lt_two_pow hx hy
  have e1 : x % 2 ^ 8 = x := Nat.mod_eq_of_lt hx
  have e2 : y % 2 ^ 8 = y := Nat.mod_eq_of_lt hy
  have e : (BitVec.ofInt 8 (x : Int) ^^^ BitVec.ofInt 8 (y : Int)).toNat = x ^^^ y := by
    rw [BitVec.toNat_xor, BitVec.ofInt_natCast, BitVec.ofInt_natCast, BitVec.toNat_ofNat, BitVec.toNat_ofNat, e1, e2]
  show IntKind.wrap .u8 ((BitVec.ofInt 8 (x : Int) ^^^ BitVec.ofInt 8 (y : Int)).toNat : Int) = _
  rw [e, IntWalk.u8_in _ ⟨by omega, by omega⟩]
theorem bits_and_u8 {x y : Nat} (hx : x < 256) (hy : y < 256) : bits .and .u8 (x : Int) (y : Int) = ((x &&& y : Nat) : Int) := by
  have h : x &&& y < 2 ^ 8 := Nat.and_lt_two_pow x hy
  have e1 : x % 2 ^ 8 = x := Nat.mod_eq_of_lt hx
  have e2 : y % 2 ^ 8 = y := Nat.mod_eq_of_lt hy
  have e : (BitVec.ofInt 8 (x : Int) &&& BitVec.ofInt 8 (y : Int)).toNat = x &&& y := by
    rw [BitVec.toNat_and, BitVec.ofInt_natCast, BitVec.ofInt_natCast, BitVec.toNat_ofNat, BitVec.toNat_ofNat, e1, e2]
  show IntKind.wrap .u8 ((BitVec.ofInt 8 (x : Int) &&& BitVec.ofInt 8 (y : Int)).toNat : Int) = _
  rw [e, IntWalk.u8_in _ ⟨by omega, by omega⟩]
theorem bits_or_u8 {x y : Nat} (hx : x < 256) (hy : y < 256) : bits .or .u8 (x : Int) (y : Int) = ((x ||| y : Nat) : Int) := by
  have h : x ||| y < 2 ^ 8 := Nat.or_lt_two_pow hx hy
  have e1 : x % 2 ^ 8 = x := Nat.mod_eq_of_lt hx
  have e2 : y % 2 ^ 8 = y := Nat.mod_eq_of_lt hy
  have e : (BitVec.ofInt 8 (x : Int) ||| BitVec.ofInt 8 (y : Int)).toNat = x ||| y := by
    rw [BitVec.toNat_or, BitVec.ofInt_natCast, BitVec.ofInt_natCast, BitVec.toNat_ofNat, BitVec.toNat_ofNat, e1, e2]
  show IntKind.wrap .u8 ((BitVec.ofInt 8 (x : Int) ||| BitVec.ofInt 8 (y : Int)).toNat : Int) = _
  rw [e, IntWalk.u8_in _ ⟨by omega, by omega⟩]
theorem xor_lt {x y : Nat} (hx : x < 256) (hy : y < 256) : x ^^^ y < 256 := Nat.xor_lt_two_pow (n := 8) hx hy

/-! ### Twice, Mul, Inv as the code reckons them -/
/-- A byte times x. -/
def tw (n : Nat) : Nat := if n < 128 then n * 2 else (n * 2 % 256) ^^^ 27
/-- The loop of the product, with so many rounds left. -/
def mulS : Nat → Nat → Nat → Nat → Nat
  | 0, _, _, s => s
  | n + 1, a, b, s => mulS n (tw a) (b / 2) (if b % 2 = 1 then s ^^^ a else s)
/-- A product. -/
def mul (a b : Nat) : Nat := mulS 8 a b 0
/-- The loop of the inverse. -/
def invS : Nat → Nat → Nat → Nat
  | 0, _, p => p
  | n + 1, b, p => invS n (mul b b) (mul p (mul b b))
def inv (b : Nat) : Nat := invS 7 b 1

theorem tw_lt {n : Nat} (h : n < 256) : tw n < 256 := by
  unfold tw; split
  · omega
  · exact xor_lt (by omega) (by omega)
theorem mulS_lt : ∀ (n a b s : Nat), a < 256 → s < 256 → mulS n a b s < 256
  | 0, _, _, _, _, hs => hs
  | n + 1, a, b, s, ha, hs => by
    unfold mulS
    refine mulS_lt n _ _ _ (tw_lt ha) ?_
    split
    · exact xor_lt hs ha
    · exact hs
theorem mul_lt {a b : Nat} (h : a < 256) : mul a b < 256 := mulS_lt 8 a b 0 h (by omega)
theorem mulS_zero : ∀ (n a s : Nat), mulS n a 0 s = s
  | 0, _, _ => rfl
  | n + 1, a, s => by unfold mulS; simp [mulS_zero n]
theorem invS_lt : ∀ (n b p : Nat), b < 256 → p < 256 → invS n b p < 256
  | 0, _, _, _, hp => hp
  | n + 1, b, p, hb, hp => by unfold invS; exact invS_lt n _ _ (mul_lt hb) (mul_lt hp)
theorem inv_lt {b : Nat} (h : b < 256) : inv b < 256 := invS_lt 7 b 1 h (by omega)

/-! ### The same on Go's integers -/
def twI (b : Int) : Int := (tw b.toNat : Nat)
def mulI (a b : Int) : Int := (mul a.toNat b.toNat : Nat)
def invI (b : Int) : Int := (inv b.toNat : Nat)
def xorI (a b : Int) : Int := (a.toNat ^^^ b.toNat : Nat)
theorem twI_bd {b : Int} (h1 : b ≤ 255) : 0 ≤ twI b ∧ twI b ≤ 255 := by
  have := tw_lt (n := b.toNat) (by omega); unfold twI; omega
theorem mulI_bd {a b : Int} (h1 : a ≤ 255) : 0 ≤ mulI a b ∧ mulI a b ≤ 255 := by
  have := mul_lt (a := a.toNat) (b := b.toNat) (by omega); unfold mulI; omega
theorem invI_bd {b : Int} (h1 : b ≤ 255) : 0 ≤ invI b ∧ invI b ≤ 255 := by
  have := inv_lt (b := b.toNat) (by omega); unfold invI; omega
theorem xorI_bd {a b : Int} (h1 : a ≤ 255) (h2 : b ≤ 255) : 0 ≤ xorI a b ∧ xorI a b ≤ 255 := by
  have := xor_lt (x := a.toNat) (y := b.toNat) (by omega) (by omega); unfold xorI; omega
theorem xorI_bits {a b : Int} (h0 : 0 ≤ a) (h1 : a ≤ 255) (g0 : 0 ≤ b) (g1 : b ≤ 255) : bits .xor .u8 a b = xorI a b := by
  have := bits_xor_u8 (x := a.toNat) (y := b.toNat) (by omega) (by omega)
  rw [Int.toNat_of_nonneg h0, Int.toNat_of_nonneg g0] at this; exact this

/-- The form in which the code's steps stand. -/
theorem twI_low {b : Int} (h0 : 0 ≤ b) (h1 : b < 128) : twI b = b * 2 := by
  unfold twI tw; rw [if_pos (by omega)]; omega
theorem twI_high {b : Int} (h0 : 128 ≤ b) (h1 : b ≤ 255) : twI b = bits .xor .u8 (b * 2 % 256) 27 := by
  unfold twI tw; rw [if_neg (by omega)]
  have := bits_xor_u8 (x := b.toNat * 2 % 256) (y := 27) (by omega) (by omega)
  rw [← this]; congr 1; omega
theorem top_low {b : Int} (h0 : 0 ≤ b) (h1 : b < 128) : bits .and .u8 b 128 = 0 := by
  have := bits_and_u8 (x := b.toNat) (y := 128) (by omega) (by omega)
  rw [Int.toNat_of_nonneg h0] at this
  rw [show (128 : Int) = ((128 : Nat) : Int) from rfl, this]
  have h : ∀ n : Fin 128, (n.val &&& 128) = 0 := by decide +kernel
  rw [h ⟨b.toNat, by omega⟩]; rfl
theorem top_high {b : Int} (h0 : 128 ≤ b) (h1 : b ≤ 255) : bits .and .u8 b 128 = 128 := by
  have := bits_and_u8 (x := b.toNat) (y := 128) (by omega) (by omega)
  rw [Int.toNat_of_nonneg (by omega)] at this
  rw [show (128 : Int) = ((128 : Nat) : Int) from rfl, this]
  have h : ∀ n : Fin 128, ((n.val + 128) &&& 128) = 128 := by decide +kernel
  have := h ⟨b.toNat - 128, by omega⟩
  simp only at this
  rw [Nat.sub_add_cancel (by omega)] at this
  rw [this]
theorem low_bit {b : Int} (h0 : 0 ≤ b) (h1 : b ≤ 255) : bits .and .u8 b 1 = b % 2 := by
  have := bits_and_u8 (x := b.toNat) (y := 1) (by omega) (by omega)
  rw [Int.toNat_of_nonneg h0, Nat.and_one_is_mod] at this
  rw [show (1 : Int) = ((1 : Nat) : Int) from rfl, this]; omega

/-! ### Products are bilinear -/
theorem tw_is {n : Nat} (h : n < 256) : tw n = (n <<< 1) ^^^ (if n >>> 7 = 1 then 283 else 0) := by
  have t : ∀ a : Fin 256, tw a.val = (a.val <<< 1) ^^^ (if a.val >>> 7 = 1 then 283 else 0) := by decide +kernel
  exact t ⟨n, h⟩
theorem xor4 (a b c d : Nat) : (a ^^^ b) ^^^ (c ^^^ d) = (a ^^^ c) ^^^ (b ^^^ d) := by
  rw [Nat.xor_assoc, ← Nat.xor_assoc b c d, Nat.xor_comm b c, Nat.xor_assoc c b d, ← Nat.xor_assoc]
theorem top_bit {n : Nat} (h : n < 256) : n >>> 7 = 0 ∨ n >>> 7 = 1 := by rw [Nat.shiftRight_eq_div_pow]; omega
theorem tw_xor {x y : Nat} (hx : x < 256) (hy : y < 256) : tw (x ^^^ y) = tw x ^^^ tw y := by
  rw [tw_is hx, tw_is hy, tw_is (xor_lt hx hy), Nat.shiftLeft_xor_distrib, Nat.shiftRight_xor_distrib, xor4]
  congr 1
  rcases top_bit hx with a | a <;> rcases top_bit hy with b | b <;> rw [a, b] <;> rfl
end Go.Proofs.Ytghdeedglekphaa

/- Plain mathematics of the field of bytes: products are bilinear, commutative and associative, and every byte but 0 has its inverse. No condition. -/
namespace Go.Proofs.Ytghdeedglekphaa
open Go

theorem xor_half (b c : Nat) : (b ^^^ c) / 2 = (b / 2) ^^^ (c / 2) := Nat.xor_div_two
theorem mulS_from : ∀ (n a b s : Nat), mulS n a b s = s ^^^ mulS n a b 0
  | 0, _, _, _ => by simp [mulS]
  | n + 1, a, b, s => by
    unfold mulS
    rw [mulS_from n (tw a) (b / 2) (if b % 2 = 1 then s ^^^ a else s), mulS_from n (tw a) (b / 2) (if b % 2 = 1 then 0 ^^^ a else 0)]
    split
    · rw [Nat.zero_xor, Nat.xor_assoc]
    · rw [Nat.zero_xor]
theorem mulS_right : ∀ (n a b c : Nat), mulS n a (b ^^^ c) 0 = mulS n a b 0 ^^^ mulS n a c 0
  | 0, _, _, _ => by simp [mulS]
  | n + 1, a, b, c => by
    unfold mulS
    rw [mulS_from n (tw a) _ (if (b ^^^ c) % 2 = 1 then 0 ^^^ a else 0), mulS_from n (tw a) _ (if b % 2 = 1 then 0 ^^^ a else 0), mulS_from n (tw a) _ (if c % 2 = 1 then 0 ^^^ a else 0), xor_half, mulS_right n, xor4]
    congr 1
    by_cases hb : b % 2 = 1 <;> by_cases hc : c % 2 = 1 <;> simp [hb, hc]
theorem mulS_left : ∀ (n a c b : Nat), a < 256 → c < 256 → mulS n (a ^^^ c) b 0 = mulS n a b 0 ^^^ mulS n c b 0
  | 0, _, _, _, _, _ => by simp [mulS]
  | n + 1, a, c, b, ha, hc => by
    unfold mulS
    rw [mulS_from n _ _ (if b % 2 = 1 then 0 ^^^ (a ^^^ c) else 0), mulS_from n _ _ (if b % 2 = 1 then 0 ^^^ a else 0), mulS_from n _ _ (if b % 2 = 1 then 0 ^^^ c else 0), tw_xor ha hc, mulS_left n _ _ _ (tw_lt ha) (tw_lt hc), xor4]
    congr 1
    split <;> simp
theorem mul_right (a b c : Nat) : mul a (b ^^^ c) = mul a b ^^^ mul a c := mulS_right 8 a b c
theorem mul_left {a c : Nat} (b : Nat) (ha : a < 256) (hc : c < 256) : mul (a ^^^ c) b = mul a b ^^^ mul c b := mulS_left 8 a c b ha hc

theorem pow_lt {i : Nat} (h : i < 8) : 2 ^ i < 256 := by
  have t : ∀ i : Fin 8, 2 ^ i.val < 256 := by decide
  exact t ⟨i, h⟩
/-- What keeps sums is known from the powers of x. -/
theorem pow_xor (n y : Nat) (hn : n < 8) (hy : y < 2 ^ n) : 2 ^ n ^^^ y = 2 ^ n + y := by
  have h : ∀ m : Fin 8, ∀ z : Fin 256, z.val < 2 ^ m.val → 2 ^ m.val ^^^ z.val = 2 ^ m.val + z.val := by decide +kernel
  have h2 : 2 ^ n ≤ 2 ^ 8 := Nat.pow_le_pow_right (by omega) (by omega)
  exact h ⟨n, hn⟩ ⟨y, by omega⟩ hy
theorem lin_ext (f g : Nat → Nat) (hf : ∀ x y, x < 256 → y < 256 → f (x ^^^ y) = f x ^^^ f y) (hg : ∀ x y, x < 256 → y < 256 → g (x ^^^ y) = g x ^^^ g y)
    (h : ∀ i, i < 8 → f (2 ^ i) = g (2 ^ i)) : ∀ x, x < 256 → f x = g x := by
  have h0 : ∀ k : Nat → Nat, (∀ x y, x < 256 → y < 256 → k (x ^^^ y) = k x ^^^ k y) → k 0 = 0 := fun k hk => by
    have := hk 0 0 (by omega) (by omega); simpa using this
  have main : ∀ n, n ≤ 8 → ∀ x, x < 2 ^ n → f x = g x := by
    intro n
    induction n with
    | zero => intro _ x hx; obtain rfl : x = 0 := by omega
              rw [h0 f hf, h0 g hg]
    | succ n ih =>
      intro hn x hx
      by_cases hl : x < 2 ^ n
      · exact ih (by omega) x hl
      · have e := pow_xor n (x - 2 ^ n) (by omega) (by have := Nat.pow_succ 2 n; omega)
        have b8 : 2 ^ n < 256 := pow_lt (by omega)
        have b9 : x - 2 ^ n < 2 ^ n := by have := Nat.pow_succ 2 n; omega
        have e2 : x = 2 ^ n ^^^ (x - 2 ^ n) := by omega
        rw [e2, hf _ _ b8 (by omega), hg _ _ b8 (by omega), h n (by omega), ih (by omega) _ b9]
  exact fun x hx => main 8 (Nat.le_refl _) x hx

theorem mul_comm' {a b : Nat} (ha : a < 256) (hb : b < 256) : mul a b = mul b a := by
  have base : ∀ i j : Fin 8, mul (2 ^ i.val) (2 ^ j.val) = mul (2 ^ j.val) (2 ^ i.val) := by decide +kernel
  refine lin_ext (fun x => mul x b) (fun x => mul b x) (fun x y hx hy => mul_left b hx hy) (fun x y _ _ => mul_right b x y) (fun i hi => ?_) a ha
  exact lin_ext (fun y => mul (2 ^ i) y) (fun y => mul y (2 ^ i)) (fun x y _ _ => mul_right _ x y) (fun x y hx hy => mul_left _ hx hy) (fun j hj => base ⟨i, hi⟩ ⟨j, hj⟩) b hb
theorem mul_assoc' {a b c : Nat} (ha : a < 256) (hb : b < 256) (hc : c < 256) : mul (mul a b) c = mul a (mul b c) := by
  have base : ∀ i j k : Fin 8, mul (mul (2 ^ i.val) (2 ^ j.val)) (2 ^ k.val) = mul (2 ^ i.val) (mul (2 ^ j.val) (2 ^ k.val)) := by decide +kernel
  refine lin_ext (fun x => mul (mul x b) c) (fun x => mul x (mul b c)) (fun x y hx hy => ?_) (fun x y hx hy => mul_left _ hx hy) (fun i hi => ?_) a ha
  · simp only [mul_left b hx hy]; exact mul_left c (mul_lt hx) (mul_lt hy)
  have pi := pow_lt hi
  refine lin_ext (fun y => mul (mul (2 ^ i) y) c) (fun y => mul (2 ^ i) (mul y c)) (fun x y hx hy => ?_) (fun x y hx hy => ?_) (fun j hj => ?_) b hb
  · simp only [mul_right]; exact mul_left c (mul_lt pi) (mul_lt pi)
  · simp only [mul_left c hx hy]; exact mul_right _ _ _
  have pj := pow_lt hj
  refine lin_ext (fun z => mul (mul (2 ^ i) (2 ^ j)) z) (fun z => mul (2 ^ i) (mul (2 ^ j) z)) (fun x y _ _ => mul_right _ _ _) (fun x y _ _ => ?_) (fun k hk => ?_) c hc
  · simp only [mul_right]
  · exact base ⟨i, hi⟩ ⟨j, hj⟩ ⟨k, hk⟩
theorem mul_one' {a : Nat} : mul a 1 = a := by
  show mulS 8 a 1 0 = a
  rw [show (8 : Nat) = 7 + 1 from rfl]; unfold mulS; simp [mulS_zero]
theorem mul_inv {b : Nat} (h0 : b ≠ 0) (h : b < 256) : mul b (inv b) = 1 := by
  have t : ∀ n : Fin 256, n.val ≠ 0 → mul n.val (inv n.val) = 1 := by decide +kernel
  exact t ⟨b, h⟩ h0

theorem mulI_comm {a b : Int} (ha : a ≤ 255) (hb : b ≤ 255) : mulI a b = mulI b a := by
  unfold mulI; rw [mul_comm' (by omega) (by omega)]
theorem mulI_assoc {a b c : Int} (ha : a ≤ 255) (hb : b ≤ 255) (hc : c ≤ 255) : mulI (mulI a b) c = mulI a (mulI b c) := by
  unfold mulI; rw [Int.toNat_natCast, Int.toNat_natCast, mul_assoc' (by omega) (by omega) (by omega)]
theorem mulI_xor (a b c : Int) : mulI a (xorI b c) = xorI (mulI a b) (mulI a c) := by
  unfold mulI xorI; rw [Int.toNat_natCast, Int.toNat_natCast, Int.toNat_natCast, mul_right]
theorem mulI_one {a : Int} (h : 0 ≤ a) : mulI a 1 = a := by
  unfold mulI; rw [show Int.toNat 1 = 1 from rfl, mul_one']; omega
end Go.Proofs.Ytghdeedglekphaa

/- Plain mathematics of the document's own product of bytes: bit by bit as polynomials, then what stands above x^7 replaced; it is the product that the code reckons. No condition. -/
namespace Go.Proofs.Ytghdeedglekphaa
open Go

/-- A number's bit. -/
def bt (n i : Nat) : Nat := n / 2 ^ i % 2
theorem bt_lt (n i : Nat) : bt n i < 2 := Nat.mod_lt _ (by decide)
theorem bt_test (n i : Nat) : n.testBit i = decide (bt n i = 1) := Nat.testBit_eq_decide_div_mod_eq
theorem bt_of_test {m n i : Nat} (h : m.testBit i = n.testBit i) : bt m i = bt n i := by
  rw [bt_test, bt_test] at h
  have a := bt_lt m i; have b := bt_lt n i
  have := decide_eq_decide.1 h; omega
theorem bt_xor (m n i : Nat) : bt (m ^^^ n) i = (bt m i + bt n i) % 2 := by
  have h : (m ^^^ n).testBit i = (m.testBit i).xor (n.testBit i) := Nat.testBit_xor _ _ _
  rw [bt_test, bt_test, bt_test] at h
  have a := bt_lt m i; have b := bt_lt n i; have c := bt_lt (m ^^^ n) i
  rcases (show bt m i = 0 ∨ bt m i = 1 by omega) with e | e <;> rcases (show bt n i = 0 ∨ bt n i = 1 by omega) with f | f <;> rw [e, f] at h ⊢ <;> simp at h ⊢ <;> omega
theorem bt_shl_same (e j : Nat) (he : e < 2) : bt (e * 2 ^ j) j = e := by
  unfold bt; rw [Nat.mul_div_cancel _ (Nat.pow_pos (by decide))]; omega
theorem bt_shl_other (e j m : Nat) (he : e < 2) (h : m ≠ j) : bt (e * 2 ^ j) m = 0 := by
  have t : (e * 2 ^ j).testBit m = false := by
    rw [← Nat.shiftLeft_eq, Nat.testBit_shiftLeft]
    rcases Nat.lt_or_ge m j with h' | h'
    · simp; omega
    · have : m - j ≠ 0 := by omega
      obtain ⟨q, hq⟩ : ∃ q, m - j = q + 1 := ⟨m - j - 1, by omega⟩
      rw [hq]
      rcases (show e = 0 ∨ e = 1 by omega) with rfl | rfl <;> simp [Nat.testBit_succ]
  rw [bt_test] at t
  have := bt_lt (e * 2 ^ j) m; simp at t; omega

/-- The lowest so many bits, as a list of integers. -/
def bitsOf (len n : Nat) : List Int := (List.range len).map fun i => (bt n i : Int)
theorem bitsOf_len (len n : Nat) : (bitsOf len n).length = len := by simp [bitsOf]
theorem bitsOf_get (len n : Nat) {i : Nat} (h : i < len) : (bitsOf len n).getD i 0 = (bt n i : Int) := by
  simp [bitsOf, List.getD_eq_getElem?_getD, h]
theorem bitsOf_set (len n : Nat) {j e : Nat} (he : e < 2) {v : Int} (hv : v = ((bt n j + e) % 2 : Nat)) : (bitsOf len n).set j v = bitsOf len (n ^^^ (e * 2 ^ j)) := by
  subst hv
  apply List.ext_getElem
  · simp [bitsOf]
  · intro m h1 h2
    have hm : m < len := by simpa [bitsOf] using h2
    rw [List.getElem_set]
    by_cases h : j = m
    · subst h; rw [if_pos rfl]; simp only [bitsOf, List.getElem_map, List.getElem_range]; rw [bt_xor, bt_shl_same e j he]
    · rw [if_neg h]; simp only [bitsOf, List.getElem_map, List.getElem_range]
      rw [bt_xor, bt_shl_other e j m he (fun e => h e.symm), Nat.add_zero, Nat.mod_eq_of_lt (bt_lt n m)]

/-! ### The product -/
def rowP (a b i : Nat) : Nat → Nat → Nat
  | 0, p => p
  | k + 1, p => rowP a b i k p ^^^ (bt a i * bt b k * 2 ^ (i + k))
def allP (a b : Nat) : Nat → Nat
  | 0 => 0
  | i + 1 => rowP a b i 8 (allP a b i)
/-- Bit i replaced. -/
def cutP (i p : Nat) : Nat := if bt p i = 1 then p ^^^ (1 * 2 ^ i) ^^^ (1 * 2 ^ (i - 8)) ^^^ (1 * 2 ^ (i - 7)) ^^^ (1 * 2 ^ (i - 5)) ^^^ (1 * 2 ^ (i - 4)) else p
def redP : Nat → Nat → Nat
  | 0, p => p
  | n + 1, p => cutP (14 - n) (redP n p)
def refMul (a b : Nat) : Nat := redP 7 (allP a b 8) % 256

theorem mul_bt {x y : Nat} (hx : x < 2) (hy : y < 2) : x * y < 2 := by
  rcases (show x = 0 ∨ x = 1 by omega) with rfl | rfl <;> omega

theorem coef_right {x y z : Nat} (m : Nat) (hx : x < 2) (hy : y < 2) (hz : z < 2) : x * ((y + z) % 2) * 2 ^ m = (x * y * 2 ^ m) ^^^ (x * z * 2 ^ m) := by
  rcases (show x = 0 ∨ x = 1 by omega) with rfl | rfl <;> rcases (show y = 0 ∨ y = 1 by omega) with rfl | rfl <;> rcases (show z = 0 ∨ z = 1 by omega) with rfl | rfl <;> simp
theorem coef_left {x y z : Nat} (m : Nat) (hx : x < 2) (hy : y < 2) (hz : z < 2) : (y + z) % 2 * x * 2 ^ m = (y * x * 2 ^ m) ^^^ (z * x * 2 ^ m) := by
  rw [Nat.mul_comm ((y + z) % 2), Nat.mul_comm y, Nat.mul_comm z]; exact coef_right m hx hy hz
theorem rowP_from (a b i : Nat) : ∀ (k p : Nat), rowP a b i k p = p ^^^ rowP a b i k 0
  | 0, p => by simp [rowP]
  | k + 1, p => by unfold rowP; rw [rowP_from a b i k p, Nat.xor_assoc]
theorem rowP_right (a b c i : Nat) : ∀ (k : Nat), rowP a (b ^^^ c) i k 0 = rowP a b i k 0 ^^^ rowP a c i k 0
  | 0 => by simp [rowP]
  | k + 1 => by
    unfold rowP
    rw [rowP_right a b c i k, bt_xor, coef_right _ (bt_lt _ _) (bt_lt _ _) (bt_lt _ _), xor4]
theorem rowP_left (a b c i : Nat) : ∀ (k : Nat), rowP (a ^^^ b) c i k 0 = rowP a c i k 0 ^^^ rowP b c i k 0
  | 0 => by simp [rowP]
  | k + 1 => by
    unfold rowP
    rw [rowP_left a b c i k, bt_xor, coef_left _ (bt_lt _ _) (bt_lt _ _) (bt_lt _ _), xor4]
theorem allP_right (a b c : Nat) : ∀ (i : Nat), allP a (b ^^^ c) i = allP a b i ^^^ allP a c i
  | 0 => by simp [allP]
  | i + 1 => by
    unfold allP
    rw [rowP_from _ _ _ _ (allP a (b ^^^ c) i), rowP_from _ _ _ _ (allP a b i), rowP_from _ _ _ _ (allP a c i), allP_right a b c i, rowP_right, xor4]
theorem allP_left (a b c : Nat) : ∀ (i : Nat), allP (a ^^^ b) c i = allP a c i ^^^ allP b c i
  | 0 => by simp [allP]
  | i + 1 => by
    unfold allP
    rw [rowP_from _ _ _ _ (allP (a ^^^ b) c i), rowP_from _ _ _ _ (allP a c i), rowP_from _ _ _ _ (allP b c i), allP_left a b c i, rowP_left, xor4]
theorem cutP_is (i p : Nat) : cutP i p = p ^^^ (bt p i * ((1 * 2 ^ i) ^^^ (1 * 2 ^ (i - 8)) ^^^ (1 * 2 ^ (i - 7)) ^^^ (1 * 2 ^ (i - 5)) ^^^ (1 * 2 ^ (i - 4)))) := by
  unfold cutP
  rcases (show bt p i = 0 ∨ bt p i = 1 by have := bt_lt p i; omega) with e | e <;> rw [e] <;> simp [Nat.xor_assoc]
theorem cutP_xor (i p q : Nat) : cutP i (p ^^^ q) = cutP i p ^^^ cutP i q := by
  rw [cutP_is, cutP_is, cutP_is, bt_xor, xor4]
  congr 1
  generalize (1 * 2 ^ i ^^^ 1 * 2 ^ (i - 8) ^^^ 1 * 2 ^ (i - 7) ^^^ 1 * 2 ^ (i - 5) ^^^ 1 * 2 ^ (i - 4)) = c
  have a := bt_lt p i; have b := bt_lt q i
  rcases (show bt p i = 0 ∨ bt p i = 1 by omega) with e | e <;> rcases (show bt q i = 0 ∨ bt q i = 1 by omega) with f | f <;> rw [e, f] <;> simp
theorem redP_xor : ∀ (n p q : Nat), redP n (p ^^^ q) = redP n p ^^^ redP n q
  | 0, _, _ => rfl
  | n + 1, p, q => by unfold redP; rw [redP_xor n, cutP_xor]
theorem refMul_right (a b c : Nat) : refMul a (b ^^^ c) = refMul a b ^^^ refMul a c := by
  unfold refMul; rw [allP_right, redP_xor, show (256 : Nat) = 2 ^ 8 from rfl, Nat.xor_mod_two_pow]
theorem refMul_left (a b c : Nat) : refMul (a ^^^ b) c = refMul a c ^^^ refMul b c := by
  unfold refMul; rw [allP_left, redP_xor, show (256 : Nat) = 2 ^ 8 from rfl, Nat.xor_mod_two_pow]
theorem refMul_is {a b : Nat} (ha : a < 256) (hb : b < 256) : refMul a b = mul a b := by
  have base : ∀ i j : Fin 8, refMul (2 ^ i.val) (2 ^ j.val) = mul (2 ^ i.val) (2 ^ j.val) := by decide +kernel
  refine lin_ext (fun x => refMul x b) (fun x => mul x b) (fun x y _ _ => refMul_left x y b) (fun x y hx hy => mul_left b hx hy) (fun i hi => ?_) a ha
  exact lin_ext (fun y => refMul (2 ^ i) y) (fun y => mul (2 ^ i) y) (fun x y _ _ => refMul_right _ x y) (fun x y _ _ => mul_right _ x y) (fun j hj => base ⟨i, hi⟩ ⟨j, hj⟩) b hb
/-- Nothing stands above bit 7 in the end; the bits from the highest on make the number. -/
theorem low_step (p i : Nat) (hi : i < 8) : 2 * (p % 256 / 2 ^ (i + 1)) + bt p i = p % 256 / 2 ^ i := by
  unfold bt
  have e1 : p % 256 / 2 ^ (i + 1) = p % 256 / 2 ^ i / 2 := by rw [Nat.pow_succ, Nat.div_div_eq_div_mul]
  have e2 : p / 2 ^ i % 2 = p % 256 / 2 ^ i % 2 := by
    have e : p % 256 = p % 2 ^ 8 := rfl
    have t : p.testBit i = (p % 2 ^ 8).testBit i := by rw [Nat.testBit_mod_two_pow]; simp [hi]
    exact bt_of_test t
  omega
theorem bt_flip {p i m : Nat} (h : m ≠ i) : bt (p ^^^ (1 * 2 ^ i)) m = bt p m := by
  rw [bt_xor, bt_shl_other 1 i m (by omega) h, Nat.add_zero, Nat.mod_eq_of_lt (bt_lt p m)]
theorem flip_val (p i : Nat) : 1 - (bt p i : Int) = ((bt p i + 1) % 2 : Nat) := by have := bt_lt p i; omega
theorem cut_set {p j : Nat} (h8 : 8 ≤ j) (h0 : bt p j = 1) :
    (((((bitsOf 15 p).set j 0).set (j - 8) (1 - (bt p (j - 8) : Int))).set (j - 7) (1 - (bt p (j - 7) : Int))).set (j - 5) (1 - (bt p (j - 5) : Int))).set (j - 4) (1 - (bt p (j - 4) : Int)) = bitsOf 15 (cutP j p) := by
  rw [bitsOf_set 15 p (j := j) (e := 1) (by omega) (by rw [h0]; rfl),
    bitsOf_set 15 _ (j := j - 8) (e := 1) (by omega) (by rw [flip_val, bt_flip (by omega)]),
    bitsOf_set 15 _ (j := j - 7) (e := 1) (by omega) (by rw [flip_val, bt_flip (by omega), bt_flip (by omega)]),
    bitsOf_set 15 _ (j := j - 5) (e := 1) (by omega) (by rw [flip_val, bt_flip (by omega), bt_flip (by omega), bt_flip (by omega)]),
    bitsOf_set 15 _ (j := j - 4) (e := 1) (by omega) (by rw [flip_val, bt_flip (by omega), bt_flip (by omega), bt_flip (by omega), bt_flip (by omega)])]
  unfold cutP; rw [if_pos h0]
theorem cut_no {p j : Nat} (h0 : bt p j ≠ 1) : cutP j p = p := by unfold cutP; rw [if_neg h0]
theorem redP_step {n j : Nat} (h : n + j = 14) (x : Nat) : redP (n + 1) x = cutP j (redP n x) := by
  show cutP (14 - n) (redP n x) = _
  rw [show 14 - n = j by omega]
/-- What is left to add of the number when bits 7 .. are read. -/
theorem out_start (p : Nat) : p % 256 / 2 ^ 8 = 0 := by omega
theorem refMul_end (a b : Nat) : redP 7 (allP a b 8) % 256 / 2 ^ 0 = refMul a b := by unfold refMul; omega
theorem refI_is {a b : Int} (ha : a ≤ 255) (hb : b ≤ 255) : ((refMul a.toNat b.toNat : Nat) : Int) = mulI a b := by
  rw [refMul_is (by omega) (by omega)]; rfl
theorem out_bd {p m : Nat} {o : Int} (h : o = (p % 256 / 2 ^ m : Nat)) : 0 ≤ o ∧ o ≤ 255 := by
  have e := Nat.div_le_self (p % 256) (2 ^ m)
  generalize p % 256 / 2 ^ m = t at *
  omega
theorem out_step {p m q : Nat} {o : Int} (h1 : o = (p % 256 / 2 ^ (m + 1) : Nat)) (h2 : 2 * (p % 256 / 2 ^ (m + 1)) + q = p % 256 / 2 ^ m) : 2 * o + q = (p % 256 / 2 ^ m : Nat) := by
  rw [← h2, h1]; rfl
end Go.Proofs.Ytghdeedglekphaa

/- Plain mathematics of the field of blocks: keys as functions from places to bytes; doubling, halving, sums. Condition: the bytes are bytes. -/
namespace Go.Proofs.Ytghdeedglekphaa
open Go

/-- The first n values of a function. -/
def mk (n : Nat) (f : Nat → Nat) : List Int := (List.range n).map fun i => (f i : Int)
def upd (f : Nat → Nat) (i v : Nat) : Nat → Nat := fun k => if k = i then v else f k
theorem mk_len (n : Nat) (f : Nat → Nat) : (mk n f).length = n := by simp [mk]
theorem mk_get {n : Nat} {f : Nat → Nat} {i : Nat} (h : i < n) : (mk n f).getD i 0 = (f i : Int) := by simp [mk, List.getD_eq_getElem?_getD, h]
theorem mk_ext {n : Nat} {f g : Nat → Nat} (h : ∀ i, i < n → f i = g i) : mk n f = mk n g := by
  unfold mk; apply List.map_congr_left; intro i hi; rw [h i (by simpa using hi)]
theorem mk_set (n : Nat) (f : Nat → Nat) (i : Nat) {v : Nat} : (mk n f).set i (v : Int) = mk n (upd f i v) := by
  apply List.ext_getElem
  · simp [mk]
  · intro m h1 h2
    rw [List.getElem_set]
    simp only [mk, List.getElem_map, List.getElem_range, upd]
    by_cases h : i = m
    · subst h; simp
    · rw [if_neg h, if_neg (fun e => h e.symm)]
theorem mk_set_is {n : Nat} {f g : Nat → Nat} {i v : Nat} {x : Int} (hx : x = (v : Int)) (h : ∀ j, j < n → (if j = i then v else f j) = g j) : (mk n f).set i x = mk n g := by
  subst hx; rw [mk_set]; exact mk_ext h

/-- All of a key's bytes are bytes. -/
def IsKey (f : Nat → Nat) : Prop := ∀ i, i < 16 → f i < 256
def zeroK : Nat → Nat := fun _ => 0
/-- What is carried to byte j. -/
def carry (f : Nat → Nat) (j : Nat) : Nat := if j = 0 then 0 else f (j - 1) / 128
/-- A key doubled, before x^128 is taken away. -/
def dbl0 (f : Nat → Nat) (j : Nat) : Nat := (f j * 2 % 256) ^^^ carry f j
def dbl (f : Nat → Nat) (j : Nat) : Nat := if j = 0 then dbl0 f 0 ^^^ (f 15 / 128 * 135) else dbl0 f j
theorem carry_lt {f : Nat → Nat} (h : IsKey f) {j : Nat} (hj : j ≤ 16) : carry f j < 2 := by
  unfold carry; split
  · omega
  · have := h (j - 1) (by omega); omega
theorem dbl0_lt {f : Nat → Nat} (h : IsKey f) {j : Nat} (hj : j < 16) : dbl0 f j < 256 := xor_lt (by omega) (by have := carry_lt h (j := j) (by omega); omega)
theorem top_lt {f : Nat → Nat} (h : IsKey f) : f 15 / 128 * 135 < 256 := by have := h 15 (by omega); omega
theorem dbl_key {f : Nat → Nat} (h : IsKey f) : IsKey (dbl f) := fun j hj => by
  unfold dbl; split
  · exact xor_lt (dbl0_lt h (by omega)) (top_lt h)
  · exact dbl0_lt h hj
theorem or_is_xor {x c : Nat} (hx : x < 256) (hc : c < 2) : (x * 2 % 256) ||| c = (x * 2 % 256) ^^^ c := by
  have t : ∀ a : Fin 256, ∀ b : Fin 2, (a.val * 2 % 256) ||| b.val = (a.val * 2 % 256) ^^^ b.val := by decide +kernel
  exact t ⟨x, hx⟩ ⟨c, hc⟩
/-- The doubled bytes up to place k. -/
def dblTo (f : Nat → Nat) (k : Nat) : Nat → Nat := fun j => if j < k then dbl0 f j else 0
theorem dblTo_step (f : Nat → Nat) (k : Nat) : (mk 16 (dblTo f k)).set k (dbl0 f k : Int) = mk 16 (dblTo f (k + 1)) := by
  refine mk_set_is rfl fun j _ => ?_
  unfold dblTo
  by_cases e : j = k
  · subst e; rw [if_pos rfl, if_pos (by omega)]
  · rw [if_neg e]
    by_cases l : j < k
    · rw [if_pos l, if_pos (by omega)]
    · rw [if_neg l, if_neg (by omega)]
theorem dblTo_zero (f : Nat → Nat) : mk 16 (dblTo f 0) = mk 16 zeroK := mk_ext fun j _ => by unfold dblTo zeroK; rw [if_neg (by omega)]
theorem dbl0_or {f : Nat → Nat} (h : IsKey f) {k : Nat} (hk : k < 16) : bits .or .u8 ((f k : Int) * 2 % 256) (carry f k : Int) = (dbl0 f k : Int) := by
  have := bits_or_u8 (x := f k * 2 % 256) (y := carry f k) (by omega) (by have := carry_lt h (j := k) (by omega); omega)
  rw [or_is_xor (h k hk) (carry_lt h (by omega))] at this
  exact this
theorem carry_step (f : Nat → Nat) (k : Nat) : (f k : Int) / 128 = (carry f (k + 1) : Int) := by
  unfold carry; rw [if_neg (by omega)]; simp
theorem dbl_top {f : Nat → Nat} (h : f 15 / 128 = 1) : (mk 16 (dblTo f 16)).set 0 ((dbl0 f 0 ^^^ 135 : Nat) : Int) = mk 16 (dbl f) := by
  refine mk_set_is rfl fun j hj => ?_
  unfold dblTo dbl
  by_cases e : j = 0
  · subst e; rw [if_pos rfl, if_pos rfl, h]
  · rw [if_neg e, if_neg e, if_pos hj]
theorem dbl_low {f : Nat → Nat} (h : f 15 / 128 = 0) : mk 16 (dblTo f 16) = mk 16 (dbl f) := by
  refine mk_ext fun j hj => ?_
  unfold dblTo dbl
  rw [if_pos hj]
  by_cases e : j = 0
  · subst e; rw [if_pos rfl, h]; simp
  · rw [if_neg e]
theorem carry_top (f : Nat → Nat) : carry f 16 = f 15 / 128 := rfl
theorem dblTo_first (f : Nat → Nat) : dblTo f 16 0 = dbl0 f 0 := rfl
theorem top_cases {f : Nat → Nat} (h : IsKey f) : f 15 / 128 = 1 ∨ f 15 / 128 = 0 := by have := h 15 (by omega); omega
theorem xor135 {x : Nat} (h : x < 256) : bits .xor .u8 (x : Int) 135 = ((x ^^^ 135 : Nat) : Int) := bits_xor_u8 (y := 135) h (by decide)

/-! ### Halving -/
/-- The key with x^128 given back, if its lowest bit is set. -/
def hin (f : Nat → Nat) (j : Nat) : Nat := if j = 0 then f 0 ^^^ (f 0 % 2 * 135) else f j
/-- What is carried to place m - 1. -/
def hcm (f : Nat → Nat) (m : Nat) : Nat := if m = 16 then f 0 % 2 * 128 else hin f m * 128 % 256
def hlv (f : Nat → Nat) (j : Nat) : Nat := (hin f j / 2) ^^^ hcm f (j + 1)
def hlvTo (f : Nat → Nat) (m : Nat) : Nat → Nat := fun j => if m ≤ j then hlv f j else 0
theorem hin_key {f : Nat → Nat} (h : IsKey f) : IsKey (hin f) := fun j hj => by
  unfold hin; split
  · exact xor_lt (h 0 (by omega)) (by omega)
  · exact h j hj
theorem hcm_is (f : Nat → Nat) (m : Nat) : ∃ b, b < 2 ∧ hcm f m = b * 128 := by
  unfold hcm; split
  · exact ⟨f 0 % 2, by omega, rfl⟩
  · exact ⟨hin f m % 2, by omega, by omega⟩
theorem hcm_lt (f : Nat → Nat) (m : Nat) : hcm f m < 256 := by obtain ⟨b, hb, e⟩ := hcm_is f m; omega
theorem hlv_key {f : Nat → Nat} (h : IsKey f) : IsKey (hlv f) := fun j hj => by
  have := hin_key h j hj
  exact xor_lt (by omega) (hcm_lt f _)
theorem or_is_xor_high {x b : Nat} (hx : x < 256) (hb : b < 2) : (x / 2) ||| (b * 128) = (x / 2) ^^^ (b * 128) := by
  have t : ∀ a : Fin 256, ∀ b : Fin 2, (a.val / 2) ||| (b.val * 128) = (a.val / 2) ^^^ (b.val * 128) := by decide +kernel
  exact t ⟨x, hx⟩ ⟨b, hb⟩
theorem hlv_or {f : Nat → Nat} (h : IsKey f) {j : Nat} (hj : j < 16) : bits .or .u8 ((hin f j : Int) / 2) (hcm f (j + 1) : Int) = (hlv f j : Int) := by
  have hx := hin_key h j hj
  have := bits_or_u8 (x := hin f j / 2) (y := hcm f (j + 1)) (by omega) (hcm_lt f _)
  obtain ⟨b, hb, e⟩ := hcm_is f (j + 1)
  rw [show hin f j / 2 ||| hcm f (j + 1) = hlv f j by unfold hlv; rw [e]; exact or_is_xor_high hx hb] at this
  exact this
theorem hcm_step (f : Nat → Nat) {j : Nat} (hj : j < 16) : (hin f j : Int) * 128 % 256 = (hcm f j : Int) := by
  unfold hcm; rw [if_neg (by omega)]; simp
theorem hlvTo_step (f : Nat → Nat) (m : Nat) : (mk 16 (hlvTo f (m + 1))).set m (hlv f m : Int) = mk 16 (hlvTo f m) := by
  refine mk_set_is rfl fun j _ => ?_
  unfold hlvTo
  by_cases e : j = m
  · subst e; rw [if_pos rfl, if_pos (by omega)]
  · rw [if_neg e]
    by_cases l : m ≤ j
    · rw [if_pos l, if_pos (by omega)]
    · rw [if_neg l, if_neg (by omega)]
theorem hlvTo_start (f : Nat → Nat) : mk 16 (hlvTo f 16) = mk 16 zeroK := mk_ext fun j hj => by unfold hlvTo zeroK; rw [if_neg (by omega)]
theorem hlvTo_end (f : Nat → Nat) : mk 16 (hlvTo f 0) = mk 16 (hlv f) := mk_ext fun j hj => by unfold hlvTo; rw [if_pos (by omega)]
theorem hin_odd {f : Nat → Nat} (h : f 0 % 2 = 1) : (mk 16 f).set 0 ((f 0 ^^^ 135 : Nat) : Int) = mk 16 (hin f) := by
  refine mk_set_is rfl fun j _ => ?_
  unfold hin
  by_cases e : j = 0
  · subst e; rw [if_pos rfl, if_pos rfl, h]
  · rw [if_neg e, if_neg e]
theorem hin_even {f : Nat → Nat} (h : f 0 % 2 = 0) : mk 16 f = mk 16 (hin f) := mk_ext fun j _ => by
  unfold hin
  by_cases e : j = 0
  · subst e; rw [if_pos rfl, h]; simp
  · rw [if_neg e]

/-! ### Sums -/
def xorK (f g : Nat → Nat) (j : Nat) : Nat := f j ^^^ g j
def xorTo (f g : Nat → Nat) (k : Nat) : Nat → Nat := fun j => if j < k then xorK f g j else 0
theorem xorK_key {f g : Nat → Nat} (hf : IsKey f) (hg : IsKey g) : IsKey (xorK f g) := fun j hj => xor_lt (hf j hj) (hg j hj)
theorem xorTo_step (f g : Nat → Nat) (k : Nat) : (mk 16 (xorTo f g k)).set k (xorK f g k : Int) = mk 16 (xorTo f g (k + 1)) := by
  refine mk_set_is rfl fun j _ => ?_
  unfold xorTo
  by_cases e : j = k
  · subst e; rw [if_pos rfl, if_pos (by omega)]
  · rw [if_neg e]
    by_cases l : j < k
    · rw [if_pos l, if_pos (by omega)]
    · rw [if_neg l, if_neg (by omega)]
theorem xorTo_start (f g : Nat → Nat) : mk 16 (xorTo f g 0) = mk 16 zeroK := mk_ext fun j _ => by unfold xorTo zeroK; rw [if_neg (by omega)]
theorem xorTo_end (f g : Nat → Nat) : mk 16 (xorTo f g 16) = mk 16 (xorK f g) := mk_ext fun j hj => by unfold xorTo; rw [if_pos hj]
theorem xorK_bits {f g : Nat → Nat} {j : Nat} (hf : f j < 256) (hg : g j < 256) : bits .xor .u8 (f j : Int) (g j : Int) = (xorK f g j : Int) := bits_xor_u8 hf hg

/-! ### The laws -/
theorem byte_there {x c : Nat} (hx : x < 256) (hc : c < 2) : ((x * 2 % 256) ^^^ c) / 2 = x % 128 ∧ ((x * 2 % 256) ^^^ c) % 2 = c := by
  have t : ∀ a : Fin 256, ∀ b : Fin 2, ((a.val * 2 % 256) ^^^ b.val) / 2 = a.val % 128 ∧ ((a.val * 2 % 256) ^^^ b.val) % 2 = b.val := by decide +kernel
  exact t ⟨x, hx⟩ ⟨c, hc⟩
theorem byte_join {x : Nat} (hx : x < 256) : (x % 128) ^^^ (x / 128 * 128) = x := by
  have t : ∀ a : Fin 256, (a.val % 128) ^^^ (a.val / 128 * 128) = a.val := by decide +kernel
  exact t ⟨x, hx⟩
theorem odd135 (x : Nat) {c : Nat} (hc : c < 2) : (x * 2 % 256 ^^^ c * 135) % 2 = c := by
  rw [show (2 : Nat) = 2 ^ 1 from rfl, Nat.xor_mod_two_pow]
  rcases (show c = 0 ∨ c = 1 by omega) with rfl | rfl <;> simp <;> omega
theorem hin_dbl {f : Nat → Nat} (h : IsKey f) {j : Nat} (hj : j < 16) : hin (dbl f) j = dbl0 f j := by
  unfold hin
  by_cases e : j = 0
  · subst e
    have c0 : dbl f 0 = (f 0 * 2 % 256) ^^^ (f 15 / 128 * 135) := by unfold dbl dbl0 carry; simp
    have t0 : f 15 / 128 < 2 := by have := h 15 (by omega); omega
    rw [if_pos rfl, c0, odd135 _ t0, Nat.xor_assoc, Nat.xor_self]
    unfold dbl0 carry; simp
  · rw [if_neg e]; unfold dbl; rw [if_neg e]
theorem odd_dbl {f : Nat → Nat} (h : IsKey f) : dbl f 0 % 2 = f 15 / 128 := by
  have c0 : dbl f 0 = (f 0 * 2 % 256) ^^^ (f 15 / 128 * 135) := by unfold dbl dbl0 carry; simp
  rw [c0, odd135 _ (by have := h 15 (by omega); omega)]
theorem hlv_dbl {f : Nat → Nat} (h : IsKey f) {j : Nat} (hj : j < 16) : hlv (dbl f) j = f j := by
  unfold hlv hcm
  rw [hin_dbl h hj]
  have hc := carry_lt h (j := j) (by omega)
  have b := byte_there (h j hj) hc
  rw [show dbl0 f j / 2 = f j % 128 from b.1]
  by_cases e : j + 1 = 16
  · obtain rfl : j = 15 := by omega
    rw [if_pos rfl, odd_dbl h]; exact byte_join (h 15 (by omega))
  · rw [if_neg e, hin_dbl h (by omega)]
    have b2 := byte_there (h (j + 1) (by omega)) (carry_lt h (j := j + 1) (by omega))
    have c2 : carry f (j + 1) = f j / 128 := by unfold carry; rw [if_neg (by omega)]; rfl
    rw [c2] at b2
    have e2 : dbl0 f (j + 1) % 2 = f j / 128 := by unfold dbl0; rw [c2]; exact b2.2
    rw [show dbl0 f (j + 1) * 128 % 256 = f j / 128 * 128 by omega]
    exact byte_join (h j hj)
end Go.Proofs.Ytghdeedglekphaa

/- Parts of blocks of bytes: an array loaded from, stored into, or copied into the middle of a block. Condition: the part lies within the block. -/
namespace Go.Proofs.Ytghdeedglekphaa
open Go Go.RowKit

/-- A function with n values laid in at place o. -/
def put (F : Nat → Nat) (o n : Nat) (g : Nat → Nat) : Nat → Nat := fun j => if o ≤ j ∧ j < o + n then g (j - o) else F j
theorem addr_add (B o j : Nat) : (⟨B, o, none⟩ : Addr).add j = ⟨B, o + j, none⟩ := by unfold Addr.add; split <;> simp_all
/-- Cells that hold bytes. -/
def Cells (w : World) (B o n : Nat) (f : Nat → Nat) : Prop := ∀ j, j < n → w.cell? ⟨B, o + j, none⟩ = some (.int .u8 (f j))
theorem IntBlk.cells {w : World} {B N : Nat} {t : TypeId} {F : Nat → Nat} (h : IntBlk w B .u8 t (mk N F)) {o n : Nat} (hn : o + n ≤ N) : Cells w B o n (fun j => F (o + j)) := fun j hj => by
  have := h.cell (i := o + j) (by rw [mk_len]; omega)
  rwa [mk_get (by omega)] at this
theorem put_list (N : Nat) (F : Nat → Nat) {o n : Nat} (g : Nat → Nat) (h : o + n ≤ N) : (mk N F).take o ++ (mk n g ++ (mk N F).drop (o + n)) = mk N (put F o n g) := by
  apply List.ext_getElem
  · simp [mk_len]; omega
  · intro i h1 h2
    have hi : i < N := by simpa [mk_len] using h2
    have e : (mk N (put F o n g))[i] = ((put F o n g i : Nat) : Int) := by simp [mk]
    rw [e]
    have get : ∀ (G : Nat → Nat) (M k : Nat) (hk : k < (mk M G).length), (mk M G)[k] = (G k : Int) := fun G M k hk => by simp [mk]
    rcases Nat.lt_or_ge i o with l | l
    · rw [List.getElem_append_left (by simp [mk_len]; omega), List.getElem_take, get]
      have : put F o n g i = F i := if_neg (by omega)
      rw [this]
    · rw [List.getElem_append_right (by simp [mk_len]; omega)]
      have eo : ((mk N F).take o).length = o := by simp [mk_len]; omega
      rcases Nat.lt_or_ge i (o + n) with l2 | l2
      · rw [List.getElem_append_left (by simp [mk_len]; omega), get]
        have : put F o n g i = g (i - o) := if_pos ⟨l, l2⟩
        rw [this, eo]
      · rw [List.getElem_append_right (by simp [mk_len]; omega), List.getElem_drop, get]
        have : put F o n g i = F i := if_neg (by omega)
        rw [this]
        congr 2
        simp only [mk_len, eo]; omega
theorem put_cells (N : Nat) (F : Nat → Nat) {o n : Nat} (g : Nat → Nat) (h : o + n ≤ N) : ((cellsOf .u8 (mk N F)).toList.take o ++ ((mk n g).map (Value.int .u8) ++ (cellsOf .u8 (mk N F)).toList.drop (o + n))).toArray = cellsOf .u8 (mk N (put F o n g)) := by
  unfold cellsOf
  rw [← put_list N F g h]
  simp [List.map_append, List.map_take, List.map_drop]
theorem bytes_one (l : List Int) : ∀ v ∈ l.map (Value.int .u8), v.oneCell' = true := fun v hv => by
  obtain ⟨x, _, rfl⟩ := List.mem_map.1 hv; rfl

section
variable {P : Program} {ops : Array Oper} {rest : List Oper} {o : Oper} {a : Act} {w : World} {Q : Exit → Act → World → Prop}
theorem run_loadVar_part (B off n : Nat) (f : Nat → Nat) (ty : TypeId) (d : TypeDesc) (hc : Cells w B off n f)
    (hu : P.underlying ty = some d) (hd : (match d with | .struct _ | .array _ _ => true | _ => false) = true) (hi : (P.info? ty).map (·.size) = some n) :
    (loadVar ty ⟨B, off, none⟩).run P w = .ok (.agg (cellsOf .u8 (mk n f))) w := by
  have hlen : (cellsOf .u8 (mk n f)).toList.length = n := by rw [Array.length_toList, cellsOf_size, mk_len]
  have hl := run_loadCells_list (P := P) w ⟨B, off, none⟩ (cellsOf .u8 (mk n f)).toList (fun j v hv => by
    rw [addr_add]
    have hj : j < n := by
      have h1 : j < (cellsOf .u8 (mk n f)).toList.length := by
        rcases Nat.lt_or_ge j (cellsOf .u8 (mk n f)).toList.length with h | h
        · exact h
        · rw [List.getElem?_eq_none h] at hv; cases hv
      omega
    have h2 : (cellsOf .u8 (mk n f))[j]? = some v := by simpa using hv
    rw [cellsOf_get _ _ (by rw [mk_len]; exact hj), mk_get hj] at h2
    rw [hc j hj]; exact h2)
  rw [hlen] at hl
  cases hq : P.info? ty with
  | none => simp [hq] at hi
  | some i =>
    have hs : i.size = n := by simpa [hq] using hi
    have hagg : (isAgg ty).run P w = .ok true w := by
      unfold isAgg
      rw [Sem.run_bind, run_underlying hu w]
      cases d <;> simp_all
    simp [loadVar, Sem.run_bind, hagg, sizeOf, typeInfo, hq, hs, hl]
theorem wpList_load_part (hgd : o.guard = none) (ty : TypeId) (x : Operand) (ho : o.op = .load ty x) (B off n : Nat) (f : Nat → Nat) (hx : a.eval x = .pointer (some ⟨B, off, none⟩)) (d : TypeDesc) (hc : Cells w B off n f)
    (hu : P.underlying ty = some d) (hd : (match d with | .struct _ | .array _ _ => true | _ => false) = true) (hi : (P.info? ty).map (·.size) = some n)
    (h : wpList P ops Q rest (a.put o.dst (.agg (cellsOf .u8 (mk n f)))) w) : wpList P ops Q (o :: rest) a w :=
  wpList_plain hgd fun _ hK => by
    unfold Oper.wp execOp
    simp only [ho, hx, Instr.loadAt, Instr.sureAddr, Sem.run_bind, Sem.run_pure, Result.andThen_ok, run_loadVar_part B off n f ty d hc hu hd hi]
    exact hK _ _ h
theorem quiet_load_part {C : World → Prop} {K : Act → Prop} (ty : TypeId) (x : Operand) (ho : o.op = .load ty x) (B off n : Nat) (f : Nat → Nat) (hx : a.eval x = .pointer (some ⟨B, off, none⟩)) (d : TypeDesc) (hc : ∀ w, C w → Cells w B off n f)
    (hu : P.underlying ty = some d) (hd : (match d with | .struct _ | .array _ _ => true | _ => false) = true) (hi : (P.info? ty).map (·.size) = some n)
    (hk : K (a.put o.dst (.agg (cellsOf .u8 (mk n f))))) : o.quiet P a C K :=
  ⟨_, fun w hw => by
    unfold Oper.quietAt execOp
    simp only [ho, hx, Instr.loadAt, Instr.sureAddr, Sem.run_bind, Sem.run_pure, Result.andThen_ok, run_loadVar_part B off n f ty d (hc w hw) hu hd hi]
    exact ⟨rfl, rfl⟩, hk⟩
theorem wpList_store_part (hgd : o.guard = none) (ty : TypeId) (x y : Operand) (ho : o.op = .store ty x y) (hdst : o.dst = none) (B off n N : Nat) (F g : Nat → Nat) (hx : a.eval x = .pointer (some ⟨B, off, none⟩)) (hy : a.eval y = .agg (cellsOf .u8 (mk n g)))
    (t : TypeId) (hB : IntBlk w B .u8 t (mk N F)) (hn : off + n ≤ N) (hi : (P.info? ty).map (·.size) = some n)
    (h : wpList P ops Q rest a (w.setRow B (cellsOf .u8 (mk N (put F off n g))))) : wpList P ops Q (o :: rest) a w :=
  wpList_plain hgd fun _ hK => by
    have hlen : (cellsOf .u8 (mk n g)).size = n := by rw [cellsOf_size, mk_len]
    have hst := run_storeCells_at P B off t ((mk n g).map (Value.int .u8)) 0 (cellsOf .u8 (mk N F)) w hB (by rw [cellsOf_size, mk_len, List.length_map, mk_len]; omega) (bytes_one _)
    rw [List.length_map, mk_len, Nat.add_zero, List.append_assoc, put_cells N F g hn] at hst
    have hl : (cellsOf .u8 (mk n g)).toList = (mk n g).map (Value.int .u8) := by simp [cellsOf]
    rw [← hl] at hst
    have hrun : (storeVar ty ⟨B, off, none⟩ (.agg (cellsOf .u8 (mk n g)))).run P w = .ok () (w.setRow B (cellsOf .u8 (mk N (put F off n g)))) := by
      cases hq : P.info? ty with
      | none => simp [hq] at hi
      | some i =>
        have hs : i.size = n := by simpa [hq] using hi
        have hc : (Value.agg (cellsOf .u8 (mk n g))).cells = cellsOf .u8 (mk n g) := rfl
        simp [storeVar, Sem.run_bind, sizeOf, typeInfo, hq, hs, hc, hlen, hst]
    unfold Oper.wp execOp
    simp only [ho, hx, hy, Instr.storeAt, Instr.sureAddr, Sem.run_bind, Sem.run_pure, Result.andThen_ok, hrun]
    have := hK _ _ h
    simpa [Oper.upon, hdst, Act.put] using this
theorem wpList_copy_part (hgd : o.guard = none) (d s : Operand) (dT sT : TypeId) (ho : o.op = .call { callee := .builtin .copy, args := #[d, s], argTypes := #[dT, sT] }) (elem : TypeId) (hu : P.underlying dT = some (.slice elem)) (hsz : (P.info? elem).map (·.size) = some 1)
    (B off dLen dCap b so sLen sCap n N : Nat) (F g : Nat → Nat) (hd : a.eval d = .slice (some ⟨B, off, none⟩) dLen dCap) (hs : a.eval s = .slice (some ⟨b, so, none⟩) sLen sCap) (t : TypeId) (hB : IntBlk w B .u8 t (mk N F)) (hn : off + n ≤ N)
    (hm : n = Nat.min sLen dLen) (hc : Cells w b so n g) (h : wpList P ops Q rest (a.put o.dst (goInt n)) (w.setRow B (cellsOf .u8 (mk N (put F off n g))))) : wpList P ops Q (o :: rest) a w := by
  have hl : ((mk n g).map (Value.int .u8)).length = n := by rw [List.length_map, mk_len]
  refine wpList_copy_own hgd d s dT sT ho elem hu hsz B off dLen dCap ⟨b, so, none⟩ sLen sCap hd hs (cellsOf .u8 (mk N F)) t hB ((mk n g).map (Value.int .u8)) (by rw [hl]; exact hm) (fun j v hv => ?_)
    (by rw [hl, cellsOf_size, mk_len]; exact hn) (bytes_one _) ?_
  · rw [addr_add]
    have hj : j < n := by
      rcases Nat.lt_or_ge j ((mk n g).map (Value.int .u8)).length with h | h
      · omega
      · rw [List.getElem?_eq_none h] at hv; cases hv
    rw [hc j hj, ← hv]; simp [mk, hj]
  · rw [hl, put_cells N F g hn]; exact h
end
end Go.Proofs.Ytghdeedglekphaa

/- A key that comes in as an argument, opened: a function from places to bytes. No condition. -/
namespace Go.Proofs.Ytghdeedglekphaa
open Go.ChangeShapes Go.WideShapes Go.ChangeAt Go.RowKit

/-- An array of bytes that came in, by value. -/
theorem open_bytes {H : Type} {enc : TypeId × Value → H} {P : Program} {W : World} {r : Reach} {b0 base : Nat} {spare : Nat → Bool} {held : Bool} {t e : TypeId} {n : Nat} {v : Value} {d : DataW H} {p : List MemPlace}
    (ht : P.underlying t = some (.array n e)) (he : P.underlying e = some (.int .u8)) (hc : P.cellsOf e = 1) (hn : P.cellsOf t = n)
    (hv : Value.okWide P W r b0 t v) (h : DataW.Trod enc P W base spare held t v d p) : ∃ f : Nat → Nat, (∀ i, i < n → f i < 256) ∧ v = .agg (cellsOf .u8 (mk n f)) := by
  have hv' : ∃ cs, v = .agg cs ∧ cs.size = P.cellsOf t ∧ Row.okWide P W r b0 t cs := by
    unfold Value.okWide at hv; rw [ht] at hv; exact hv
  obtain ⟨cs, rfl, hsz, _⟩ := hv'
  obtain ⟨fuel, hf⟩ := h
  obtain ⟨xs, m, rfl, hx, hlen, hxn, hel⟩ := DataW.trod_array ht hf
  have each : ∀ i, i < n → ∃ a : Nat, a < 256 ∧ cs[i]? = some (.int .u8 a) := by
    intro i hi
    have hi2 := hel i hi
    rw [hc, Nat.mul_one] at hi2
    have hlt : i < xs.length := by omega
    rw [List.getElem?_eq_getElem hlt] at hi2
    obtain ⟨a, ha, _, hw⟩ := DataW.trod_int he hi2
    have hb := bounds_u8 hw
    refine ⟨a.toNat, by omega, ?_⟩
    rw [show ((a.toNat : Nat) : Int) = a by omega]
    have hlc : i < cs.size := by omega
    have hd : (Value.cells (.agg cs)).toList = cs.toList := rfl
    rw [hd, List.drop_eq_getElem_cons (by simpa using hlc)] at ha
    simp at ha
    rw [Array.getElem?_eq_getElem hlc, ha]
  refine ⟨fun i => match cs[i]? with | some (.int _ a) => a.toNat | _ => 0, fun i hi => ?_, ?_⟩
  · obtain ⟨a, ha, hc⟩ := each i hi
    simp only [hc]; omega
  · congr 1
    apply Array.ext
    · rw [cellsOf_size, mk_len]; omega
    · intro i h1 h2
      obtain ⟨a, ha, hc⟩ := each i (by omega)
      have hg := cellsOf_get .u8 (mk n fun i => match cs[i]? with | some (.int _ a) => a.toNat | _ => 0) (i := i) (by rw [mk_len]; omega)
      rw [mk_get (by omega), hc] at hg
      rw [Array.getElem?_eq_getElem h1] at hc
      rw [Array.getElem?_eq_getElem h2] at hg
      simp at hc hg
      rw [hc, hg]
end Go.Proofs.Ytghdeedglekphaa

/- Bytes behind a pointer; a slice of bytes that comes in as an argument, opened. No condition. -/
namespace Go.Proofs.Ytghdeedglekphaa
open Go.ChangeShapes Go.WideShapes Go.ChangeAt Go.RowKit

set_option maxRecDepth 100000 in
theorem Cells.below {w w' : World} {B o n M : Nat} {f : Nat → Nat} (h : Cells w B o n f) (hb : Below M w w') (hB : B < M) : Cells w' B o n f := fun j hj => by rw [hb.cell (p := ⟨B, o + j, none⟩) hB]; exact h j hj
/-- What a cell holds, as a byte. -/
def byteAt (W : World) (B o : Nat) : Nat := match W.cell? ⟨B, o, none⟩ with | some (.int _ a) => a.toNat | _ => 0
set_option maxRecDepth 100000 in
theorem byteAt_is {W : World} {B o a : Nat} (h : W.cell? ⟨B, o, none⟩ = some (.int .u8 (a : Int))) : byteAt W B o = a := by
  unfold byteAt; rw [h]; rfl

/-- n bytes lie behind a pointer. -/
def BytesAt (w : World) (p : Option Addr) (n : Nat) (g : Nat → Nat) : Prop := n = 0 ∨ ∃ B o, p = some ⟨B, o, none⟩ ∧ B < w.heap.size ∧ Cells w B o n g
set_option maxRecDepth 100000 in
theorem BytesAt.below {w w' : World} {p : Option Addr} {n : Nat} {g : Nat → Nat} (h : BytesAt w p n g) (hb : Below w.heap.size w w') : BytesAt w' p n g := by
  rcases h with h | ⟨B, o, hp, hB, hc⟩
  · exact .inl h
  · exact .inr ⟨B, o, hp, Nat.lt_of_lt_of_le hB hb.size, hc.below hb hB⟩
set_option maxRecDepth 100000 in
theorem open_byteslice {H : Type} {enc : TypeId × Value → H} {W : World} {r : Reach} {b0 base : Nat} {spare : Nat → Bool} {held : Bool} {v : Value} {d : DataW H} {p : List MemPlace}
    (hv : Value.okWide Try.prog W r b0 22 v) (h : DataW.Trod enc Try.prog W base spare held 22 v d p) :
    ∃ (q : Option Addr) (n cap : Nat) (g : Nat → Nat), v = .slice q n cap ∧ (∀ i, i < n → g i < 256) ∧ BytesAt W q n g ∧ n ≤ cap ∧ cap ≤ maxLen := by
  have ht : Try.prog.underlying 22 = some (.slice 5) := Try.underlying22
  have ck : Try.prog.cellsOf 5 = 1 := by kernel_rfl
  obtain ⟨q, n, cap, rfl⟩ := okWide_slice ht hv
  obtain ⟨fuel, hf⟩ := h
  have hd : (Value.cells (.slice q n cap)).toList = [.slice q n cap] := rfl
  rw [hd] at hf
  rcases Deep.open_slice1 ht ck hf with ⟨h0, _⟩ | ⟨a, len, cap', m, k, V, D, Pl, h0, hb, hl, hm, hmm, _, hx⟩
  · simp only [List.cons.injEq, Value.slice.injEq, and_true] at h0
    obtain ⟨rfl, rfl, rfl⟩ := h0
    exact ⟨none, 0, 0, zeroK, rfl, fun i hi => absurd hi (Nat.not_lt_zero _), .inl rfl, Nat.le_refl _, Nat.zero_le _⟩
  · simp only [List.cons.injEq, Value.slice.injEq, and_true] at h0
    obtain ⟨rfl, rfl, rfl⟩ := h0
    by_cases h0 : n = 0
    · exact ⟨some a, n, cap, zeroK, rfl, fun i hi => absurd hi (by omega), .inl h0, hl, hm⟩
    · have hnm : n ≤ m := by rw [hmm]; split <;> omega
      have each : ∀ i, i < n → ∃ x : Nat, x < 256 ∧ W.cell? (a.add i) = some (.int .u8 x) := fun i hi => by
        obtain ⟨h1, h2⟩ := hx i (by omega)
        obtain ⟨x, hx1, _, hw⟩ := DataW.trod_int Try.underlying5 h2
        have hb := bounds_u8 hw
        simp only [List.cons.injEq, and_true] at hx1
        refine ⟨x.toNat, by omega, ?_⟩
        rw [show ((x.toNat : Nat) : Int) = x by omega, ← hx1]; exact h1
      obtain ⟨B, o, spot⟩ := a
      obtain ⟨x0, _, hx0⟩ := each 0 (by omega)
      have hspot : spot = none := by simpa [Addr.add] using World.cell?_spot hx0
      subst hspot
      simp only [add_plain] at each hx0
      refine ⟨_, n, cap, fun i => byteAt W B (o + i), rfl, fun i hi => ?_, .inr ⟨B, o, rfl, block_lt_of_cell hx0, fun i hi => ?_⟩, hl, hm⟩
      · obtain ⟨x, hx1, hx2⟩ := each i hi
        show byteAt W B (o + i) < 256
        rw [byteAt_is hx2]; exact hx1
      · obtain ⟨x, hx1, hx2⟩ := each i hi
        show W.cell? ⟨B, o + i, none⟩ = some (.int .u8 (byteAt W B (o + i) : Nat))
        rw [byteAt_is hx2]; exact hx2
end Go.Proofs.Ytghdeedglekphaa

/- Slices of bytes, made: all noughts. Condition: no more than 100000 bytes. -/
namespace Go.Proofs.Ytghdeedglekphaa
open Go.ChangeShapes Go.WideShapes Go.ChangeAt Go.RowKit

theorem made_zero {z : Array Value} {sz : Nat} (hz : z = cellsOf .u8 (mk sz zeroK)) (hs : 0 < sz) (n : Nat) : madeCells z n = cellsOf .u8 (mk n zeroK) := by
  subst hz
  apply Array.ext
  · rw [size_madeCells, cellsOf_size, mk_len]
  · intro i h1 h2
    have hi : i < n := by rw [size_madeCells] at h1; exact h1
    have hsz : (cellsOf .u8 (mk sz zeroK)).size = sz := by rw [cellsOf_size, mk_len]
    have hm : i % sz < sz := Nat.mod_lt _ hs
    have e2 := cellsOf_get .u8 (mk n zeroK) (i := i) (by rw [mk_len]; exact hi)
    rw [mk_get hi, Array.getElem?_eq_getElem h2] at e2
    have e1 := cellsOf_get .u8 (mk sz zeroK) (i := i % sz) (by rw [mk_len]; exact hm)
    rw [mk_get hm] at e1
    have e3 : (madeCells (cellsOf .u8 (mk sz zeroK)) n)[i] = (cellsOf .u8 (mk sz zeroK))[i % sz]! := by
      simp only [madeCells, Array.getElem_map, Array.getElem_range, hsz]
    rw [e3, Array.getElem!_eq_getD, Array.getD_eq_getD_getElem?, e1]
    simp only [Option.some.injEq] at e2
    rw [e2]; rfl
theorem bytesUnder : Try.prog.underlying 22 = some (.slice 5) := Try.underlying22
theorem byteInfo : (Try.prog.info? 5).map (·.size) = some 1 := by kernel_rfl
theorem byteBytes1 : (Try.prog.info? 5).map (·.bytes) = some 1 := by kernel_rfl
theorem byteZero1 : (Try.prog.info? 5).bind (·.zero) = some (.int .u8 0) := by kernel_rfl
theorem byteUnder1 : Try.prog.underlying 5 = some (.int .u8) := Try.underlying5
theorem wpList_make_noughts {ops : Array Oper} {rest : List Oper} {o : Oper} {a : Act} {w : World} {Q : Exit → Act → World → Prop} (hgd : o.guard = none) (x y : Operand) (ho : o.op = .makeSlice 22 x y) (M : Nat) (hM : M ≤ 100000) (hx : a.eval x = .int .i64 M) (hy : a.eval y = .int .i64 M)
    (h : wpList Try.prog ops Q rest (a.put o.dst (.slice (some ⟨w.heap.size, 0, none⟩) M M)) (w.alloc (.cells (cellsOf .u8 (mk M zeroK)) 5))) : wpList Try.prog ops Q (o :: rest) a w :=
  wpList_plain hgd fun _ hK => by
    have hi := byteInfo
    have hz := byteZero1
    have hb := byteBytes1
    cases hq : Try.prog.info? 5 with
    | none => rw [hq] at hi; simp at hi
    | some i =>
      rw [hq] at hi hz hb
      have hsz : i.size = 1 := by simpa using hi
      have hzz : i.zero = some (.int .u8 0) := by simpa using hz
      have hby : i.bytes = 1 := by simpa using hb
      have e := run_make (P := Try.prog) w 22 5 i _ bytesUnder hq hzz .i64 .i64 M M (by omega) (by omega) (by rw [hby]; omega) (by omega)
      have hc : (Value.int .u8 0).cells = cellsOf .u8 (mk 1 zeroK) := rfl
      rw [hsz, Int.toNat_natCast, made_zero hc (by omega), Nat.mul_one] at e
      unfold Oper.wp execOp
      simp only [ho]
      simp [hx, hy, e]
      exact hK _ _ h
end Go.Proofs.Ytghdeedglekphaa

/- Keys by value: their index, and their size. No condition. -/
namespace Go.Proofs.Ytghdeedglekphaa
open Go.ChangeShapes Go.WideShapes Go.ChangeAt Go.RowKit

theorem keyUnder : Try.prog.underlying 65 = some (.array 16 5) := Try.underlying65
theorem key_index (f : Nat → Nat) {i : Nat} (hi : i < 16) (W : World) : (Instr.index 65 (.agg (cellsOf .u8 (mk 16 f))) (.int .i64 i)).run Try.prog W = .ok (.int .u8 (f i)) W := by
  have := run_index_ints W (t := 65) (mk 16 f) (by rw [mk_len]; exact keyUnder) byteElem (i := i) (by rw [mk_len]; exact hi)
  rw [mk_get hi] at this; exact this
theorem key_get (f : Nat → Nat) {i : Nat} (hi : i < 16) : (cellsOf .u8 (mk 16 f))[i]? = some (.int .u8 (f i)) := by
  rw [cellsOf_get _ _ (by rw [mk_len]; exact hi), mk_get hi]
theorem keySize (f : Nat → Nat) : (Try.prog.info? 65).map (·.size) = some (cellsOf .u8 (mk 16 f)).size := by
  rw [cellsOf_size, mk_len]; kernel_rfl

end Go.Proofs.Ytghdeedglekphaa

/- Words (arrays of four bytes) by value: their index, their size. No condition. -/
namespace Go.Proofs.Ytghdeedglekphaa
open Go.ChangeShapes Go.WideShapes Go.ChangeAt Go.RowKit

theorem wordUnder : Try.prog.underlying 87 = some (.array 4 5) := Try.underlying87
theorem word_index (f : Nat → Nat) {i : Nat} (hi : i < 4) (W : World) : (Instr.index 87 (.agg (cellsOf .u8 (mk 4 f))) (.int .i64 i)).run Try.prog W = .ok (.int .u8 (f i)) W := by
  have := run_index_ints W (t := 87) (mk 4 f) (by rw [mk_len]; exact wordUnder) byteElem (i := i) (by rw [mk_len]; exact hi)
  rw [mk_get hi] at this; exact this
theorem wordSize (f : Nat → Nat) : (Try.prog.info? 87).map (·.size) = some (cellsOf .u8 (mk 4 f)).size := by
  rw [cellsOf_size, mk_len]; kernel_rfl
end Go.Proofs.Ytghdeedglekphaa

/- Regions whose order Go leaves open, where each call may make memory of its own: one walk in the text's order serves every order, over a class of worlds; operations of any type. Condition: what the class keeps. -/
namespace Go.Proofs.Ytghdeedglekphaa
open Go Go.RowKit

theorem quiet_value {P : Program} {o : Oper} {a : Act} {C : World → Prop} {K : Act → Prop} (v : Value) (hr : ∀ w, C w → (execOp a.eval o).run P w = .ok (.value v) w) (hk : K (a.put o.dst v)) : o.quiet P a C K :=
  ⟨v, fun w hw => by unfold Oper.quietAt; rw [hr w hw]; exact ⟨rfl, rfl⟩, hk⟩
theorem quiet_call {P : Program} {o : Oper} {a : Act} {C : World → Prop} {K : Act → Prop} (f : FuncId) (args : Array Value) (v : Value) (hr : ∀ w, (execOp a.eval o).run P w = .ok (.enter f args) w)
    (hc : ∀ w, C w → Calls P f args w fun e w' => e = .returned v ∧ C w') (hk : K (a.put o.dst v)) : o.quiet P a C K :=
  ⟨v, fun w hw => by unfold Oper.quietAt; rw [hr w]; exact ⟨rfl, hc w hw⟩, hk⟩

theorem wp_region_class {P : Program} {id : Nat} {Q : Exit → Act → World → Prop} {a : Act} {w : World} {l : List Oper} (C : World → Prop) (hm : P.follows .mixedOrders = true) (hB : Region.lexB .any l.toArray = true) (hC : C w.drew)
    (h : wpQuiet P l.toArray C (fun a' => ∀ w', C w' → Q .normal a' w') l a) : (Code.region id l.toArray true).wp P Q a w :=
  wp_region_quiet (C := C) hm hB hC (by simpa using h)

theorem quiet_pick {o : Oper} {a : Act} {C : World → Prop} {K : Act → Prop} (c x y : Operand) (ho : o.op = .pick c x y) (hc : a.eval c = .bool true) (hx : a.eval x = .bool true) (hk : K (a.put o.dst (.bool true))) : o.quiet Try.prog a C K := by
  refine quiet_value _ (fun w _ => ?_) hk
  unfold execOp
  simp only [ho, hc, hx]
  simp [go_sem]
theorem quiet_calls {o : Oper} {a : Act} {C : World → Prop} {K : Act → Prop} (x : Operand) (xs : Array Operand) (ts : Array TypeId) (ho : o.op = .call { callee := .value x, args := xs, argTypes := ts }) (f : FuncId) (args : Array Value) (v : Value)
    (hx : a.eval x = .func (.func f) #[] #[]) (ha : xs.map a.eval = args) (hf : ∀ w, (callFunc f args).run Try.prog w = .ok (.enter f args) w)
    (hc : ∀ w, C w → Calls Try.prog f args w fun e w' => e = .returned v ∧ C w') (hk : K (a.put o.dst v)) : o.quiet Try.prog a C K := by
  refine quiet_call f args v (fun w => ?_) hc hk
  unfold execOp
  simp only [ho, resolve, hx, ha, Deferred.ofValue, Sem.run_bind, Sem.run_pure, Result.andThen_ok, invoke, Array.append_empty, Array.empty_append, hf w]
/-- A whole key stored, and the walk goes on. -/
theorem store_row_on {P : Program} {ops : Array Oper} {rest : List Oper} {o : Oper} {a : Act} {w : World} {Q : Exit → Act → World → Prop} (hgd : o.guard = none) (ty : TypeId) (x y : Operand) (ho : o.op = .store ty x y) (hd : o.dst = none)
    (g : Nat) (cells : Array Value) (hx : a.eval x = .pointer (some ⟨g, 0, none⟩)) (hy : a.eval y = .agg cells)
    (t : TypeId) (old : Array Value) (hg : w.heap[g]? = some (.cells old t (0, 0))) (hi : (P.info? ty).map (·.size) = some cells.size)
    (hold : old.size = cells.size) (h1 : cells.all (·.oneCell') = true)
    (h : wpList P ops Q rest a (w.setRow g cells)) : wpList P ops Q (o :: rest) a w :=
  wpList_store_row hgd ty x y ho g cells hx hy t old hg hi hold h1 (by rw [hd]; exact h)
/-- A call of a function that makes memory of its own alone, over the class of worlds in which nothing that was there has turned. -/
theorem class_of {W0 : World} {g : FuncId} {args : Array Value} {v : Value} (h : ∀ w, Calls Try.prog g args w fun e w' => e = .returned v ∧ Below w.heap.size w w') :
    ∀ w, Below W0.heap.size W0 w → Calls Try.prog g args w fun e w' => e = .returned v ∧ Below W0.heap.size W0 w' :=
  fun w hw => (h w).mono fun _ _ ⟨he, hb⟩ => ⟨he, hw.trans (hb.mono hw.size)⟩
/-- Integers; what is passed over. -/
theorem quiet_pick_no {o : Oper} {a : Act} {C : World → Prop} {K : Act → Prop} (c x y : Operand) (ho : o.op = .pick c x y) (hc : a.eval c = .bool false) (hy : a.eval y = .bool false) (hk : K (a.put o.dst (.bool false))) : o.quiet Try.prog a C K := by
  refine quiet_value _ (fun w _ => ?_) hk
  unfold execOp
  simp only [ho, hc, hy]
  simp [go_sem]
theorem quiet_int_add {o : Oper} {a : Act} {C : World → Prop} {K : Act → Prop} (x y : Operand) (ho : o.op = .binOp .add 3 x y 3) (i j r : Int) (hx : a.eval x = .int .i64 i) (hy : a.eval y = .int .i64 j)
    (h : IntKind.i64.wrap (i + j) = r) (hk : K (a.put o.dst (.int .i64 r))) : o.quiet Try.prog a C K := by
  refine quiet_value _ (fun w _ => ?_) hk
  unfold execOp
  simp only [ho, hx, hy]
  simp [go_sem, h]
theorem quiet_int_rem {o : Oper} {a : Act} {C : World → Prop} {K : Act → Prop} (x y : Operand) (ho : o.op = .binOp .rem 3 x y 3) (i j r : Int) (hx : a.eval x = .int .i64 i) (hy : a.eval y = .int .i64 j) (hj : j ≠ 0)
    (h : i.tmod j = r) (hk : K (a.put o.dst (.int .i64 r))) : o.quiet Try.prog a C K := by
  refine quiet_value _ (fun w _ => ?_) hk
  unfold execOp
  simp only [ho, hx, hy]
  simp [go_sem, h, hj]
/-- A call of a function of one value, of two, of three, of none. -/
theorem quiet_call0 {o : Oper} {a : Act} {C : World → Prop} {K : Act → Prop} (x : Operand) (ts : Array TypeId) (ho : o.op = .call { callee := .value x, args := #[], argTypes := ts }) (g : FuncId) (hx : a.eval x = .func (.func g) #[] #[])
    (r : Value) (hf : ∀ (args : Array Value) (w : World), (callFunc g args).run Try.prog w = .ok (.enter g args) w)
    (hc : ∀ w, C w → Calls Try.prog g #[] w fun e w' => e = .returned r ∧ C w') (hk : K (a.put o.dst r)) : o.quiet Try.prog a C K :=
  quiet_calls x #[] ts ho g _ _ hx (by simp only [List.map_toArray, List.map_nil]) (fun w => hf _ w) hc hk
theorem quiet_call1 {o : Oper} {a : Act} {C : World → Prop} {K : Act → Prop} (x y : Operand) (ts : Array TypeId) (ho : o.op = .call { callee := .value x, args := #[y], argTypes := ts }) (g : FuncId) (hx : a.eval x = .func (.func g) #[] #[])
    (u r : Value) (hy : a.eval y = u) (hf : ∀ (args : Array Value) (w : World), (callFunc g args).run Try.prog w = .ok (.enter g args) w)
    (hc : ∀ w, C w → Calls Try.prog g #[u] w fun e w' => e = .returned r ∧ C w') (hk : K (a.put o.dst r)) : o.quiet Try.prog a C K :=
  quiet_calls x #[y] ts ho g _ _ hx (by simp only [List.map_toArray, List.map_cons, List.map_nil, hy]) (fun w => hf _ w) hc hk
theorem quiet_call2 {o : Oper} {a : Act} {C : World → Prop} {K : Act → Prop} (x y z : Operand) (ts : Array TypeId) (ho : o.op = .call { callee := .value x, args := #[y, z], argTypes := ts }) (g : FuncId) (hx : a.eval x = .func (.func g) #[] #[])
    (u v r : Value) (hy : a.eval y = u) (hz : a.eval z = v) (hf : ∀ (args : Array Value) (w : World), (callFunc g args).run Try.prog w = .ok (.enter g args) w)
    (hc : ∀ w, C w → Calls Try.prog g #[u, v] w fun e w' => e = .returned r ∧ C w') (hk : K (a.put o.dst r)) : o.quiet Try.prog a C K :=
  quiet_calls x #[y, z] ts ho g _ _ hx (by simp only [List.map_toArray, List.map_cons, List.map_nil, hy, hz]) (fun w => hf _ w) hc hk
theorem quiet_call3 {o : Oper} {a : Act} {C : World → Prop} {K : Act → Prop} (x y z t : Operand) (ts : Array TypeId) (ho : o.op = .call { callee := .value x, args := #[y, z, t], argTypes := ts }) (g : FuncId) (hx : a.eval x = .func (.func g) #[] #[])
    (u v s r : Value) (hy : a.eval y = u) (hz : a.eval z = v) (ht : a.eval t = s) (hf : ∀ (args : Array Value) (w : World), (callFunc g args).run Try.prog w = .ok (.enter g args) w)
    (hc : ∀ w, C w → Calls Try.prog g #[u, v, s] w fun e w' => e = .returned r ∧ C w') (hk : K (a.put o.dst r)) : o.quiet Try.prog a C K :=
  quiet_calls x #[y, z, t] ts ho g _ _ hx (by simp only [List.map_toArray, List.map_cons, List.map_nil, hy, hz, ht]) (fun w => hf _ w) hc hk
/-- A whole array loaded. -/
theorem quiet_load_row {o : Oper} {a : Act} {C : World → Prop} {K : Act → Prop} (ty : TypeId) (x : Operand) (ho : o.op = .load ty x) (B : Nat) (k : IntKind) (l : List Int) (hx : a.eval x = .pointer (some ⟨B, 0, none⟩)) (n : Nat) (e : TypeId) (hu : Try.prog.underlying ty = some (.array n e))
    (hi : (Try.prog.info? ty).map (·.size) = some (cellsOf k l).size) (hB : ∀ w, C w → IntBlk w B k ty l) (hk : K (a.put o.dst (.agg (cellsOf k l)))) : o.quiet Try.prog a C K := by
  refine quiet_value _ (fun w hw => ?_) hk
  unfold execOp
  simp only [ho, hx, Instr.loadAt, Instr.sureAddr, Sem.run_bind, Sem.run_pure, Result.andThen_ok, run_loadVar_row w B ty ty _ (0, 0) _ (hB w hw) hu rfl hi]
end Go.Proofs.Ytghdeedglekphaa

/- Regions whose order Go leaves open, where each call may make memory of its own: one walk in the text's order serves every order, over a class of worlds. Laws for the operations on keys. Condition: what the class keeps. -/
namespace Go.Proofs.Ytghdeedglekphaa
open Go.ChangeShapes Go.WideShapes Go.ChangeAt Go.RowKit

theorem key_eq (f g : Nat → Nat) (w : World) : (Op.equalIn 10000 65 (.agg (cellsOf .u8 (mk 16 f))) (.agg (cellsOf .u8 (mk 16 g)))).run Try.prog w = .ok (mk 16 f == mk 16 g) w :=
  run_equalIn_ints w 9998 (mk 16 f) (mk 16 g) (by rw [mk_len]; exact keyUnder) byteElem (by rw [mk_len, mk_len])
theorem quiet_eql {o : Oper} {a : Act} {C : World → Prop} {K : Act → Prop} (x y : Operand) (ho : o.op = .binOp .eql 65 x y 65) (f g : Nat → Nat)
    (hx : a.eval x = .agg (cellsOf .u8 (mk 16 f))) (hy : a.eval y = .agg (cellsOf .u8 (mk 16 g))) (h : mk 16 f = mk 16 g) (hk : K (a.put o.dst (.bool true))) : o.quiet Try.prog a C K := by
  refine quiet_value (.bool true) (fun w _ => ?_) hk
  have e := key_eq g g w
  unfold execOp
  simp only [ho, hx, hy]
  simp [go_sem, e, h]
theorem quiet_load {o : Oper} {a : Act} {C : World → Prop} {K : Act → Prop} (x : Operand) (ho : o.op = .load 65 x) (B : Nat) (f : Nat → Nat)
    (hx : a.eval x = .pointer (some ⟨B, 0, none⟩)) (hB : ∀ w, C w → IntBlk w B .u8 65 (mk 16 f)) (hk : K (a.put o.dst (.agg (cellsOf .u8 (mk 16 f))))) : o.quiet Try.prog a C K := by
  refine quiet_value _ (fun w hw => ?_) hk
  unfold execOp
  simp only [ho, hx, Instr.loadAt, Instr.sureAddr, Sem.run_bind, Sem.run_pure, Result.andThen_ok, run_loadVar_row w B 65 65 _ (0, 0) _ (hB w hw) keyUnder rfl (keySize f)]
theorem quiet_build {o : Oper} {a : Act} {C : World → Prop} {K : Act → Prop} (n : Nat) (ho : o.op = .build 65 #[(0, .const (.int .u8 n))]) (f : Nat → Nat)
    (hf : Try.prog.built 65 [(0, .int .u8 n)] = some (cellsOf .u8 (mk 16 f))) (hk : K (a.put o.dst (.agg (cellsOf .u8 (mk 16 f))))) : o.quiet Try.prog a C K := by
  refine quiet_value _ (fun w _ => ?_) hk
  have e := run_build w 65 #[(0, .int .u8 n)] _ hf
  unfold execOp
  simp only [ho]
  simp [Act.eval, e]
/-- A call of a function of one key, and of two. -/
theorem quiet_key {o : Oper} {a : Act} {C : World → Prop} {K : Act → Prop} (x y : Operand) (ts : Array TypeId) (ho : o.op = .call { callee := .value x, args := #[y], argTypes := ts }) (g : FuncId) (hx : a.eval x = .func (.func g) #[] #[])
    (f : Nat → Nat) (hy : a.eval y = .agg (cellsOf .u8 (mk 16 f))) (r : Nat → Nat) (hf : ∀ (args : Array Value) (w : World), (callFunc g args).run Try.prog w = .ok (.enter g args) w)
    (hc : ∀ w, C w → Calls Try.prog g #[.agg (cellsOf .u8 (mk 16 f))] w fun e w' => e = .returned (.agg (cellsOf .u8 (mk 16 r))) ∧ C w') (hk : K (a.put o.dst (.agg (cellsOf .u8 (mk 16 r))))) : o.quiet Try.prog a C K :=
  quiet_calls x #[y] ts ho g _ _ hx (by simp only [List.map_toArray, List.map_cons, List.map_nil, hy]) (fun w => hf _ w) hc hk
theorem quiet_keys {o : Oper} {a : Act} {C : World → Prop} {K : Act → Prop} (x y z : Operand) (ts : Array TypeId) (ho : o.op = .call { callee := .value x, args := #[y, z], argTypes := ts }) (g : FuncId) (hx : a.eval x = .func (.func g) #[] #[])
    (f : Nat → Nat) (hy : a.eval y = .agg (cellsOf .u8 (mk 16 f))) (f' : Nat → Nat) (hz : a.eval z = .agg (cellsOf .u8 (mk 16 f'))) (r : Nat → Nat) (hf : ∀ (args : Array Value) (w : World), (callFunc g args).run Try.prog w = .ok (.enter g args) w)
    (hc : ∀ w, C w → Calls Try.prog g #[.agg (cellsOf .u8 (mk 16 f)), .agg (cellsOf .u8 (mk 16 f'))] w fun e w' => e = .returned (.agg (cellsOf .u8 (mk 16 r))) ∧ C w') (hk : K (a.put o.dst (.agg (cellsOf .u8 (mk 16 r))))) : o.quiet Try.prog a C K :=
  quiet_calls x #[y, z] ts ho g _ _ hx (by simp only [List.map_toArray, List.map_cons, List.map_nil, hy, hz]) (fun w => hf _ w) hc hk
/-- A key with one byte. -/
def oneK (n : Nat) : Nat → Nat := fun j => if j = 0 then n else 0
theorem oneK_key {n : Nat} (h : n < 256) : IsKey (oneK n) := fun j _ => by unfold oneK; split <;> omega
/-- Two bytes are compared. -/
theorem quiet_byte_eql {o : Oper} {a : Act} {C : World → Prop} {K : Act → Prop} (x y : Operand) (ho : o.op = .binOp .eql 5 x y 5) (b c : Int)
    (hx : a.eval x = .int .u8 b) (hy : a.eval y = .int .u8 c) (h : (b == c) = true) (hk : K (a.put o.dst (.bool true))) : o.quiet Try.prog a C K := by
  refine quiet_value (.bool true) (fun w _ => ?_) hk
  unfold execOp
  simp only [ho, hx, hy]
  simp [go_sem, h]
end Go.Proofs.Ytghdeedglekphaa

/- Laws for the operations on words in regions whose order Go leaves open. No condition. -/
namespace Go.Proofs.Ytghdeedglekphaa
open Go.ChangeShapes Go.WideShapes Go.ChangeAt Go.RowKit

theorem word_eq (f g : Nat → Nat) (w : World) : (Op.equalIn 10000 87 (.agg (cellsOf .u8 (mk 4 f))) (.agg (cellsOf .u8 (mk 4 g)))).run Try.prog w = .ok (mk 4 f == mk 4 g) w :=
  run_equalIn_ints w 9998 (mk 4 f) (mk 4 g) (by rw [mk_len]; exact wordUnder) byteElem (by rw [mk_len, mk_len])
theorem quiet_word_eql {o : Oper} {a : Act} {C : World → Prop} {K : Act → Prop} (x y : Operand) (ho : o.op = .binOp .eql 87 x y 87) (f g : Nat → Nat)
    (hx : a.eval x = .agg (cellsOf .u8 (mk 4 f))) (hy : a.eval y = .agg (cellsOf .u8 (mk 4 g))) (h : mk 4 f = mk 4 g) (hk : K (a.put o.dst (.bool true))) : o.quiet Try.prog a C K := by
  refine quiet_value (.bool true) (fun w _ => ?_) hk
  have e := word_eq g g w
  unfold execOp
  simp only [ho, hx, hy]
  simp [go_sem, e, h]
theorem quiet_word_load {o : Oper} {a : Act} {C : World → Prop} {K : Act → Prop} (x : Operand) (ho : o.op = .load 87 x) (B : Nat) (f : Nat → Nat)
    (hx : a.eval x = .pointer (some ⟨B, 0, none⟩)) (hB : ∀ w, C w → IntBlk w B .u8 87 (mk 4 f)) (hk : K (a.put o.dst (.agg (cellsOf .u8 (mk 4 f))))) : o.quiet Try.prog a C K := by
  refine quiet_value _ (fun w hw => ?_) hk
  unfold execOp
  simp only [ho, hx, Instr.loadAt, Instr.sureAddr, Sem.run_bind, Sem.run_pure, Result.andThen_ok, run_loadVar_row w B 87 87 _ (0, 0) _ (hB w hw) wordUnder rfl (wordSize f)]
theorem word_built (n : Nat) : Try.prog.built 87 [(0, .int .u8 n)] = some (cellsOf .u8 (mk 4 (oneK n))) := by kernel_rfl
theorem quiet_word_build {o : Oper} {a : Act} {C : World → Prop} {K : Act → Prop} (x : Operand) (ho : o.op = .build 87 #[(0, x)]) (n : Nat) (hx : a.eval x = .int .u8 n)
    (hk : K (a.put o.dst (.agg (cellsOf .u8 (mk 4 (oneK n)))))) : o.quiet Try.prog a C K := by
  refine quiet_value _ (fun w _ => ?_) hk
  have e := run_build w 87 #[(0, .int .u8 n)] _ (word_built n)
  unfold execOp
  simp only [ho]
  simp [hx, e]
/-- A call of a function of one int. -/
theorem quiet_int {o : Oper} {a : Act} {C : World → Prop} {K : Act → Prop} (x y : Operand) (ts : Array TypeId) (ho : o.op = .call { callee := .value x, args := #[y], argTypes := ts }) (g : FuncId) (hx : a.eval x = .func (.func g) #[] #[])
    (i : Int) (hy : a.eval y = .int .i64 i) (r : Value) (hf : ∀ (args : Array Value) (w : World), (callFunc g args).run Try.prog w = .ok (.enter g args) w)
    (hc : ∀ w, C w → Calls Try.prog g #[.int .i64 i] w fun e w' => e = .returned r ∧ C w') (hk : K (a.put o.dst r)) : o.quiet Try.prog a C K :=
  quiet_calls x #[y] ts ho g _ _ hx (by simp only [List.map_toArray, List.map_cons, List.map_nil, hy]) (fun w => hf _ w) hc hk
/-- A call of a function of one word. -/
theorem quiet_word {o : Oper} {a : Act} {C : World → Prop} {K : Act → Prop} (x y : Operand) (ts : Array TypeId) (ho : o.op = .call { callee := .value x, args := #[y], argTypes := ts }) (g : FuncId) (hx : a.eval x = .func (.func g) #[] #[])
    (f : Nat → Nat) (hy : a.eval y = .agg (cellsOf .u8 (mk 4 f))) (r : Nat → Nat) (hf : ∀ (args : Array Value) (w : World), (callFunc g args).run Try.prog w = .ok (.enter g args) w)
    (hc : ∀ w, C w → Calls Try.prog g #[.agg (cellsOf .u8 (mk 4 f))] w fun e w' => e = .returned (.agg (cellsOf .u8 (mk 4 r))) ∧ C w') (hk : K (a.put o.dst (.agg (cellsOf .u8 (mk 4 r))))) : o.quiet Try.prog a C K :=
  quiet_calls x #[y] ts ho g _ _ hx (by simp only [List.map_toArray, List.map_cons, List.map_nil, hy]) (fun w => hf _ w) hc hk
/-- A place of an array of bytes by its index. -/
theorem quiet_place {o : Oper} {a : Act} {C : World → Prop} {K : Act → Prop} (t : TypeId) (n : Nat) (x y : Operand) (ho : o.op = .indexAddr t x y) (ht : Try.prog.underlying t = some (.array n 5)) (B k : Nat) (hx : a.eval x = .pointer (some ⟨B, 0, none⟩)) (hy : a.eval y = .int .i64 k) (hk4 : k < n)
    (hk : K (a.put o.dst (.pointer (some ⟨B, k, none⟩)))) : o.quiet Try.prog a C K := by
  refine quiet_value _ (fun w _ => ?_) hk
  have h0 : (k : Int) < n := by omega
  have hs := byteElem.run_size (P := Try.prog) w
  unfold execOp
  simp only [ho, hx, hy]
  simp [go_sem, ht, h0, hs]
theorem quiet_byte_load {o : Oper} {a : Act} {C : World → Prop} {K : Act → Prop} (x : Operand) (ho : o.op = .load 5 x) (B k : Nat) (v : Value)
    (hx : a.eval x = .pointer (some ⟨B, k, none⟩)) (hB : ∀ w, C w → w.cell? ⟨B, k, none⟩ = some v) (hk : K (a.put o.dst v)) : o.quiet Try.prog a C K := by
  refine quiet_value _ (fun w hw => ?_) hk
  have hc := hB w hw
  unfold execOp
  simp only [ho, hx]
  simp [go_sem, hc]
theorem quiet_byte_neq {o : Oper} {a : Act} {C : World → Prop} {K : Act → Prop} (x y : Operand) (ho : o.op = .binOp .neq 5 x y 5) (b c : Int)
    (hx : a.eval x = .int .u8 b) (hy : a.eval y = .int .u8 c) (h : (b != c) = false) (hk : K (a.put o.dst (.bool false))) : o.quiet Try.prog a C K := by
  refine quiet_value (.bool false) (fun w _ => ?_) hk
  unfold execOp
  simp only [ho, hx, hy]
  simp [go_sem, h]
end Go.Proofs.Ytghdeedglekphaa

/- Plain mathematics of the field of blocks: halving undoes doubling and doubling halving; both keep sums. Condition: the bytes are bytes. -/
namespace Go.Proofs.Ytghdeedglekphaa
open Go

theorem half_there {x b : Nat} (hx : x < 256) (hb : b < 2) : ((x / 2) ^^^ (b * 128)) * 2 % 256 = x / 2 * 2 ∧ ((x / 2) ^^^ (b * 128)) / 128 = b := by
  have t : ∀ a : Fin 256, ∀ b : Fin 2, ((a.val / 2) ^^^ (b.val * 128)) * 2 % 256 = a.val / 2 * 2 ∧ ((a.val / 2) ^^^ (b.val * 128)) / 128 = b.val := by decide +kernel
  exact t ⟨x, hx⟩ ⟨b, hb⟩
theorem half_join {x : Nat} (hx : x < 256) : (x / 2 * 2) ^^^ (x % 2) = x := by
  have t : ∀ a : Fin 256, (a.val / 2 * 2) ^^^ (a.val % 2) = a.val := by decide +kernel
  exact t ⟨x, hx⟩
theorem hlv_parts {f : Nat → Nat} (h : IsKey f) {j : Nat} (hj : j < 16) : hlv f j * 2 % 256 = hin f j / 2 * 2 ∧ hlv f j / 128 * 128 = hcm f (j + 1) := by
  obtain ⟨b, hb, e⟩ := hcm_is f (j + 1)
  have t := half_there (hin_key h j hj) hb
  unfold hlv; rw [e]; exact ⟨t.1, by rw [t.2]⟩
theorem hin_first {f : Nat → Nat} : hin f 0 % 2 = 0 := by
  have e : hin f 0 = f 0 ^^^ (f 0 % 2 * 135) := rfl
  rw [e, show (2 : Nat) = 2 ^ 1 from rfl, Nat.xor_mod_two_pow]
  rcases (show f 0 % 2 = 0 ∨ f 0 % 2 = 1 by omega) with a | a
  · rw [show f 0 % 2 ^ 1 = 0 from a]; rfl
  · rw [show f 0 % 2 ^ 1 = 1 from a]; rfl
theorem dbl_hlv {f : Nat → Nat} (h : IsKey f) {j : Nat} (hj : j < 16) : dbl (hlv f) j = f j := by
  have p := hlv_parts h hj
  by_cases e : j = 0
  · subst e
    have p15 : hlv f 15 / 128 * 128 = hcm f 16 := (hlv_parts h (j := 15) (by omega)).2
    have t15 : hlv f 15 / 128 = f 0 % 2 := by
      have : hcm f 16 = f 0 % 2 * 128 := rfl
      omega
    have e0 : dbl (hlv f) 0 = (hlv f 0 * 2 % 256 ^^^ carry (hlv f) 0) ^^^ (hlv f 15 / 128 * 135) := rfl
    have c0 : carry (hlv f) 0 = 0 := rfl
    have hf := hin_first (f := f)
    rw [e0, c0, p.1, t15, Nat.xor_zero, show hin f 0 / 2 * 2 = hin f 0 by omega]
    show (f 0 ^^^ (f 0 % 2 * 135)) ^^^ (f 0 % 2 * 135) = f 0
    rw [Nat.xor_assoc, Nat.xor_self, Nat.xor_zero]
  · have e1 : dbl (hlv f) j = (hlv f j * 2 % 256) ^^^ carry (hlv f) j := by unfold dbl; rw [if_neg e]; rfl
    have c1 : carry (hlv f) j = hlv f (j - 1) / 128 := by unfold carry; rw [if_neg e]
    have q := (hlv_parts h (j := j - 1) (by omega)).2
    have hh : hcm f (j - 1 + 1) = hin f j * 128 % 256 := by unfold hcm; rw [if_neg (by omega), show j - 1 + 1 = j by omega]
    have hi : hin f j = f j := by unfold hin; rw [if_neg e]
    rw [e1, c1, p.1, show hlv f (j - 1) / 128 = hin f j % 2 by omega, hi]
    exact half_join (h j hj)

theorem twice_xor (x y : Nat) : (x ^^^ y) * 2 % 256 = (x * 2 % 256) ^^^ (y * 2 % 256) := by
  have e := Nat.shiftLeft_xor_distrib (a := x) (b := y) (i := 1)
  rw [Nat.shiftLeft_eq, Nat.shiftLeft_eq, Nat.shiftLeft_eq, Nat.pow_one] at e
  rw [e, show (256 : Nat) = 2 ^ 8 from rfl, Nat.xor_mod_two_pow]
theorem high_xor (x y : Nat) : (x ^^^ y) / 128 = (x / 128) ^^^ (y / 128) := by
  have e := Nat.shiftRight_xor_distrib (a := x) (b := y) (i := 7)
  rw [Nat.shiftRight_eq_div_pow, Nat.shiftRight_eq_div_pow, Nat.shiftRight_eq_div_pow] at e
  exact e
theorem low_xor (x y : Nat) : (x ^^^ y) * 128 % 256 = (x * 128 % 256) ^^^ (y * 128 % 256) := by
  have e := Nat.shiftLeft_xor_distrib (a := x) (b := y) (i := 7)
  rw [Nat.shiftLeft_eq, Nat.shiftLeft_eq, Nat.shiftLeft_eq] at e
  rw [show (128 : Nat) = 2 ^ 7 from rfl, e, show (256 : Nat) = 2 ^ 8 from rfl, Nat.xor_mod_two_pow]
theorem bit_mul {a b : Nat} (ha : a < 2) (hb : b < 2) (c : Nat) : (a ^^^ b) * c = (a * c) ^^^ (b * c) := by
  rcases (show a = 0 ∨ a = 1 by omega) with rfl | rfl <;> rcases (show b = 0 ∨ b = 1 by omega) with rfl | rfl <;> simp
theorem odd_xor (x y : Nat) : (x ^^^ y) % 2 = (x % 2) ^^^ (y % 2) := Nat.xor_mod_two_pow (n := 1)
theorem carry_xor (f g : Nat → Nat) (j : Nat) : carry (xorK f g) j = carry f j ^^^ carry g j := by
  unfold carry
  by_cases e : j = 0
  · rw [if_pos e, if_pos e, if_pos e]; rfl
  · rw [if_neg e, if_neg e, if_neg e]; exact high_xor _ _
theorem dbl0_xor (f g : Nat → Nat) (j : Nat) : dbl0 (xorK f g) j = dbl0 f j ^^^ dbl0 g j := by
  unfold dbl0; rw [carry_xor]; unfold xorK; rw [twice_xor, xor4]
theorem dbl_xor {f g : Nat → Nat} (hf : IsKey f) (hg : IsKey g) (j : Nat) : dbl (xorK f g) j = xorK (dbl f) (dbl g) j := by
  have a := hf 15 (by omega)
  have b := hg 15 (by omega)
  show dbl (xorK f g) j = dbl f j ^^^ dbl g j
  unfold dbl
  by_cases e : j = 0
  · rw [if_pos e, if_pos e, if_pos e, dbl0_xor, show xorK f g 15 / 128 = (f 15 / 128) ^^^ (g 15 / 128) from high_xor _ _, bit_mul (by omega) (by omega), xor4]
  · rw [if_neg e, if_neg e, if_neg e, dbl0_xor]
theorem hin_xor (f g : Nat → Nat) (j : Nat) : hin (xorK f g) j = hin f j ^^^ hin g j := by
  unfold hin
  by_cases e : j = 0
  · rw [if_pos e, if_pos e, if_pos e]
    show (f 0 ^^^ g 0) ^^^ ((f 0 ^^^ g 0) % 2 * 135) = _
    rw [odd_xor, bit_mul (by omega) (by omega), xor4]
  · rw [if_neg e, if_neg e, if_neg e]; rfl
theorem hcm_xor (f g : Nat → Nat) (m : Nat) : hcm (xorK f g) m = hcm f m ^^^ hcm g m := by
  unfold hcm
  by_cases e : m = 16
  · rw [if_pos e, if_pos e, if_pos e]
    show (f 0 ^^^ g 0) % 2 * 128 = _
    rw [odd_xor, bit_mul (by omega) (by omega)]
  · rw [if_neg e, if_neg e, if_neg e, hin_xor, low_xor]
theorem hlv_xor (f g : Nat → Nat) (j : Nat) : hlv (xorK f g) j = xorK (hlv f) (hlv g) j := by
  show hlv (xorK f g) j = hlv f j ^^^ hlv g j
  unfold hlv; rw [hin_xor, hcm_xor, xor_half, xor4]

/-! ### The document's own sums, bit by bit -/
def xorBit (f g : Nat → Nat) (i m : Nat) : Nat → Nat := fun j => if j < i then xorK f g j else if j = i then xorK f g i / 2 ^ m else 0
theorem xorBit_start {f g : Nat → Nat} {i : Nat} (hf : f i < 256) (hg : g i < 256) : mk 16 (xorBit f g i 8) = mk 16 (xorTo f g i) := mk_ext fun j _ => by
  have hx : xorK f g i < 256 := xor_lt hf hg
  unfold xorBit xorTo
  by_cases l : j < i
  · rw [if_pos l, if_pos l]
  · rw [if_neg l, if_neg l]
    by_cases e : j = i
    · rw [if_pos e]; omega
    · rw [if_neg e]
theorem xorBit_end (f g : Nat → Nat) (i : Nat) : mk 16 (xorBit f g i 0) = mk 16 (xorTo f g (i + 1)) := mk_ext fun j _ => by
  unfold xorBit xorTo
  by_cases l : j < i
  · rw [if_pos l, if_pos (by omega)]
  · rw [if_neg l]
    by_cases e : j = i
    · subst e; rw [if_pos rfl, if_pos (by omega), Nat.pow_zero, Nat.div_one]
    · rw [if_neg e, if_neg (by omega)]
theorem xorBit_at (f g : Nat → Nat) (i m : Nat) : xorBit f g i m i = xorK f g i / 2 ^ m := by unfold xorBit; rw [if_neg (by omega), if_pos rfl]
theorem half_step (x k : Nat) : x / 2 ^ k = x / 2 ^ (k + 1) * 2 + bt x k := by
  unfold bt
  have e : x / 2 ^ (k + 1) = x / 2 ^ k / 2 := by rw [Nat.pow_succ, Nat.div_div_eq_div_mul]
  omega
theorem xorBit_step (f g : Nat → Nat) (i k : Nat) {q x y : Nat} (hq : xorK f g i / 2 ^ (k + 1) = q) (hx : bt (f i) k = x) (hy : bt (g i) k = y) :
    (mk 16 (xorBit f g i (k + 1))).set i ((q : Int) * 2 + ((x : Int) + (y : Int)) % 2) = mk 16 (xorBit f g i k) := by
  refine mk_set_is (v := q * 2 + (x + y) % 2) (by simp) fun j _ => ?_
  subst hq hx hy
  by_cases e : j = i
  · subst e; rw [if_pos rfl, xorBit_at, ← bt_xor]; exact (half_step (f j ^^^ g j) k).symm
  · rw [if_neg e]; unfold xorBit
    by_cases l : j < i
    · rw [if_pos l, if_pos l]
    · rw [if_neg l, if_neg l, if_neg e, if_neg e]
theorem half_lt {x k : Nat} (h : x < 256) : x / 2 ^ (k + 1) < 128 := by
  have e : x / 2 ^ (k + 1) = x / 2 / 2 ^ k := by rw [Nat.pow_succ', Nat.div_div_eq_div_mul]
  have := Nat.div_le_self (x / 2) (2 ^ k)
  omega
end Go.Proofs.Ytghdeedglekphaa

/- A law for a loop over an iterator that never ends by itself: each round is numbered, the caller's invariant bounds the number, and a round leaves the loop in the end. Condition: the iterator's own contract under such an invariant. -/
namespace Go.Proofs.Ytghdeedglekphaa
open Go Go.RowKit

/-- How a round's body may be left: on to the next round; or by a jump. -/
def roundEnds (I : Nat → World → Prop) (Ix : Code → World → Prop) (i : Nat) (W : World) : Exit → Act → World → Prop
  | .normal, _, W' => KeepsOthers W W' ∧ I (i + 1) W'
  | .ret, _, W' => KeepsOthers W W' ∧ Ix .ret W'
  | .exit b, _, W' => KeepsOthers W W' ∧ Ix (.exit b) W'
  | _, _, _ => False

/-- An iterator that hands yield the i-th value in round i, for ever, as long as the caller's invariant I goes with it. -/
def ToldBy (F : Fence) (m : Nat) (P : Program) (gf : FuncId) (lb : Array Value) (enc : Nat → Array Value) (I : Nat → World → Prop) : Prop :=
  ∀ (l : Nat) (J : Nat → World → Prop) (Jx : World → Prop) (W : World), (∀ i V, J i V → I i V) →
    (∀ i V, J i V → YieldAt F (m - 1) P l (enc i) V fun e V' => (e = .returned (.bool true) ∧ J (i + 1) V') ∨ (e = .returned (.bool false) ∧ Jx V')) →
    J 0 W → CallsIn F m P gf (#[.func (.yield l) #[] #[]] ++ lb) W fun e V' => (∃ v, e = .returned v) ∧ Jx V'

theorem range_told {P : Program} {F : Fence} {n : Nat} {g : Operand} {ps : Array Tmp} {assign body : Code} {Q : Exit → Act → World → Prop} {a : Act} {w : World}
    (hro : F.round = none) (h1 : 1 ≤ n) {gf : FuncId} {lb : Array Value} (hg : a.eval g = .func (.func gf) #[] lb) (hFg : F.fn gf) (eg : ∀ args v, (callFunc gf args).run P v = .ok (.enter gf args) v)
    (enc : Nat → Array Value) (hps : ∀ i, (enc i).size = ps.size) (I : Nat → World → Prop) (Ix : Code → World → Prop)
    (hI : ∀ i W l o o', w.heap.size ≤ l → W.heap[l]? = some o → o.isCells = false → I i W → I i (W.putObj l o'))
    (hIx : ∀ c W l o o', w.heap.size ≤ l → W.heap[l]? = some o → o.isCells = false → Ix c W → Ix c (W.putObj l o'))
    (h0 : ∀ o o', I 0 ((w.alloc o).alloc o')) (hit : ToldBy F (n - 1) P gf lb enc I) (a₁ : Nat → Act)
    (hassign : ∀ l i W (K : Act → World → Prop), I i W → K (a₁ i) W →
      assign.wpIn (F.inRound l) (n - 1 - 1) P (Exit.then K (fun _ _ _ => False)) { tmps := (ps.zip (enc i)).foldl (fun t (p, v) => t.setIfInBounds p v) a.tmps, defers := [] } W)
    (hbody : ∀ l i W, w.heap.size < l → l < W.heap.size → I i W → body.wpIn (F.inRound l) (n - 1 - 1) P (roundEnds I Ix i W) (a₁ i) W)
    (hstop : ∀ D c W, w.heap.size ≤ D → Ix c W → W.heap[D]? = some (.deferred (some [])) → c.wpIn F n P Q { a with defers := { target := .collected D, args := #[] } :: a.defers } W) :
    (Code.rangeFunc g ps assign body).wpIn F n P Q a w := by
  refine wpIn_rangeFunc fun fn hfn => ?_
  rw [hro]
  generalize hD : w.heap.size = D at *
  obtain ⟨R, hR⟩ : ∃ R : LoopState → Option Code → Loop, R = fun s p => { state := s, pending := p, fn := fn, tmps := a.tmps, params := ps, assign := assign, body := body, defers := D } := ⟨_, rfl⟩
  have hRs : ∀ s p, (R s p).state = s := fun s p => by rw [hR]
  obtain ⟨V, hV⟩ : ∃ V, (w.alloc (.deferred (some []))).alloc (.loop (R .ready none)) = V := ⟨_, rfl⟩
  have hVl : V.heap[D + 1]? = some (.loop (R .ready none)) := by
    have := World.alloc_heap_new (w.alloc (.deferred (some []))) (.loop (R .ready none))
    rw [World.size_alloc, hD, hV] at this; exact this
  have hVD : V.heap[D]? = some (.deferred (some [])) := by
    have e := World.alloc_heap_new w (.deferred (some []))
    rw [hD] at e
    rw [← hV]; exact (Below.heap_alloc _ _ _ (by rw [World.size_alloc]; omega)).trans e
  refine ⟨D + 1, [{ target := .collected D, args := #[] }], V, { target := .fn (.func gf) lb, args := #[.func (.yield (D + 1)) #[] #[]] }, V, gf, #[.func (.yield (D + 1)) #[] #[]] ++ lb, V, ?_, ?_, ?_, ?_, fun _ => h1, ?_⟩
  · have e := run_enterLoop_outer (P := P) (w := w) fn a.tmps ps assign body
    rw [hD] at e; rw [e, ← hV, hR]
  · simp only [resolve, hg]; simp [go_sem]
  · intro f' hf'; simp [Target.leads] at hf'; subst hf'; exact hFg
  · simp [invoke, go_sem, eg]
  -- the iterator, under the invariant with the record and the block beside it
  refine (hit (D + 1) (fun i W => I i W ∧ W.heap[D + 1]? = some (.loop (R .ready none)) ∧ W.heap[D]? = some (.deferred (some [])))
    (fun W => ∃ c, Ix c W ∧ W.heap[D + 1]? = some (.loop (R .done (some c))) ∧ W.heap[D]? = some (.deferred (some []))) V (fun i W h => h.1) ?_ ⟨by rw [← hV]; exact h0 _ _, hVl, hVD⟩).mono ?_
  · rintro i W ⟨hi, hl, hd⟩
    have lt : D + 1 < W.heap.size := (Array.getElem?_eq_some_iff.1 hl).1
    have hy := run_yield (P := P) (args := enc i) hl (by rw [hR]; exact hps i)
    have hb := run_beginRound (P := P) hl (hRs _ _)
    generalize hB : W.putObj (D + 1) (.loop { R .ready none with state := .busy }) = B at hb
    have hBl : B.heap[D + 1]? = some (.loop { R .ready none with state := .busy }) := by rw [← hB]; exact World.putObj_heap_same lt
    have hBd : B.heap[D]? = some (.deferred (some [])) := by rw [← hB]; exact (World.putObj_heap_other (by omega)).trans hd
    have hBi : I i B := by rw [← hB]; exact hI i W _ _ _ (by omega) hl rfl hi
    have hBs : D + 1 < B.heap.size := (Array.getElem?_eq_some_iff.1 hBl).1
    -- at a round's end the record is laid back
    have back : ∀ (j : Option Code) (C : World), KeepsOthers B C → ∃ E, (Instr.endRound (D + 1) j).run P C = .ok (.bool j.isNone) E ∧ E.heap[D + 1]? = some (.loop (R (if j.isNone then .ready else .done) j)) ∧ E.heap[D]? = some (.deferred (some [])) ∧
        (∀ i, I i C → I i E) ∧ (∀ c, Ix c C → Ix c E) := fun j C hk => by
      have hCl := hk.same _ _ hBl rfl
      have hCd := hk.same _ _ hBd rfl
      refine ⟨_, run_endRound (P := P) j hCl, ?_, (World.putObj_heap_other (by omega)).trans hCd, fun i h => hI i C _ _ _ (by omega) hCl rfl h, fun c h => hIx c C _ _ _ (by omega) hCl rfl h⟩
      rw [World.putObj_heap_same (Array.getElem?_eq_some_iff.1 hCl).1, hR]
    rw [hR] at hy
    refine ⟨fn, _, assign, body, hy, roundIn_of_wpIn hfn (hassign _ i W _ hi ⟨B, hb, wpIn_mono (hbody _ i B (by omega) hBs hBi) ?_⟩)⟩
    rintro e b C hp
    cases e with
    | normal =>
      obtain ⟨E, he, e1, e2, e3, _⟩ := back none C hp.1
      exact ⟨_, E, he, .inl ⟨rfl, e3 _ hp.2, e1, e2⟩⟩
    | ret =>
      obtain ⟨E, he, e1, e2, _, e3⟩ := back (some .ret) C hp.1
      exact ⟨_, E, he, .inr ⟨rfl, _, e3 _ hp.2, e1, e2⟩⟩
    | exit k =>
      obtain ⟨E, he, e1, e2, _, e3⟩ := back (some (.exit k)) C hp.1
      exact ⟨_, E, he, .inr ⟨rfl, _, e3 _ hp.2, e1, e2⟩⟩
    | goto t => exact hp.elim
    | panic t => exact hp.elim
    | outgrown => exact hp.elim
  · rintro e W ⟨⟨v, rfl⟩, c, hc, hl, hd⟩
    have he := run_endLoop (P := P) hl (by rw [hRs]; simp)
    refine ⟨(R .done (some c)).pending, _, he, ?_⟩
    rw [show (R .done (some c)).pending = some c by rw [hR]]
    exact hstop D c _ (Nat.le_refl _) (hIx c W _ _ _ (by omega) hl rfl hc) ((World.putObj_heap_other (by omega)).trans hd)
end Go.Proofs.Ytghdeedglekphaa

/- A block of one bool; blocks of cells while a loop's record is turned. No condition. -/
namespace Go.Proofs.Ytghdeedglekphaa
open Go Go.RowKit

/-- A block that holds one bool. -/
def BoolBlk (w : World) (B : Nat) (t : TypeId) (x : Bool) : Prop := w.heap[B]? = some (.cells #[.bool x] t (0, 0))
theorem BoolBlk.lt {w : World} {B : Nat} {t : TypeId} {x : Bool} (h : BoolBlk w B t x) : B < w.heap.size := (Array.getElem?_eq_some_iff.1 h).1
theorem BoolBlk.below {w w' : World} {B M : Nat} {t : TypeId} {x : Bool} (h : BoolBlk w B t x) (hb : Below M w w') (hM : B < M) : BoolBlk w' B t x := by
  unfold BoolBlk; rw [hb.block B hM]; exact h

theorem BoolBlk.alloc {w : World} {B : Nat} {t : TypeId} {x : Bool} (h : BoolBlk w B t x) (o : Obj) : BoolBlk (w.alloc o) B t x := by
  unfold BoolBlk; rw [Below.heap_alloc _ _ _ h.lt]; exact h
theorem BoolBlk.other {w : World} {B : Nat} {t : TypeId} {x : Bool} (h : BoolBlk w B t x) {a : Addr} (ha : a.block ≠ B) (v : Value) : BoolBlk (w.setCell a v) B t x := by
  unfold BoolBlk; rw [Below.heap_setCell _ _ _ _ (fun e => ha e.symm)]; exact h
/-- A block of cells abides a turn of what is no cells. -/
theorem cells_turn {W : World} {B l : Nat} {c : Array Value} {t : TypeId} {o o' : Obj} (h : W.heap[B]? = some (.cells c t (0, 0))) (ho : W.heap[l]? = some o) (hc : o.isCells = false) : (W.putObj l o').heap[B]? = some (.cells c t (0, 0)) := by
  refine (World.putObj_heap_other (fun e => ?_)).trans h
  subst e; rw [h] at ho; cases ho; simp [Obj.isCells] at hc
theorem below_turn {M : Nat} {w W : World} {l : Nat} (o' : Obj) (h : Below M w W) (hl : M ≤ l) : Below M w (W.putObj l o') :=
  h.trans ⟨rfl, rfl, rfl, by simp, fun k hk => World.putObj_heap_other (by omega)⟩
end Go.Proofs.Ytghdeedglekphaa

/- A law for a loop over an iterator that ends: each round is numbered; the caller's invariant speaks of what lay ahead of the loop, the iterator's own memory lies behind it. Condition: the iterator's own contract under such an invariant. -/
namespace Go.Proofs.Ytghdeedglekphaa
open Go Go.RowKit

/-- What has lain from B on lies as it lay. -/
structure Aft (B : Nat) (W W' : World) : Prop where
  size : W.heap.size ≤ W'.heap.size
  same : ∀ k, B ≤ k → k < W.heap.size → W'.heap[k]? = W.heap[k]?
theorem Aft.refl (B : Nat) (W : World) : Aft B W W := ⟨Nat.le_refl _, fun _ _ _ => rfl⟩
theorem Aft.trans {B : Nat} {X Y Z : World} (h : Aft B X Y) (k : Aft B Y Z) : Aft B X Z :=
  ⟨Nat.le_trans h.size k.size, fun i hb hi => (k.same i hb (Nat.lt_of_lt_of_le hi h.size)).trans (h.same i hb hi)⟩
theorem Aft.mono {B C : Nat} {X Y : World} (h : Aft B X Y) (hb : B ≤ C) : Aft C X Y := ⟨h.size, fun k hk hi => h.same k (Nat.le_trans hb hk) hi⟩
theorem Aft.of_below {W W' : World} (B : Nat) (h : Below W.heap.size W W') : Aft B W W' := ⟨h.size, fun k _ hi => h.block k hi⟩
theorem Aft.call {B : Nat} {W W' W'' : World} (h : Aft B W W') (hb : Below W'.heap.size W' W'') : Aft B W W'' := h.trans (.of_below B hb)
theorem Aft.alloc {B : Nat} {W W' : World} (h : Aft B W W') (o : Obj) : Aft B W (W'.alloc o) := h.call ((Below.refl _ _).alloc (Nat.le_refl _) _)
theorem Aft.setCell {B : Nat} {W W' : World} (h : Aft B W W') {p : Addr} (hp : p.block < B) (v : Value) : Aft B W (W'.setCell p v) :=
  h.trans ⟨by simp [World.setCell], fun k hk _ => Below.heap_setCell _ _ _ _ (by omega)⟩
theorem Aft.drew {B : Nat} {W W' : World} (h : Aft B W W') : Aft B W W'.drew := ⟨h.size, h.same⟩
theorem below_put {M : Nat} {W : World} {l : Nat} (o' : Obj) (hl : M ≤ l) : Below M W (W.putObj l o') := ⟨rfl, rfl, rfl, by simp, fun k hk => World.putObj_heap_other (by omega)⟩

/-- How a round's body may be left: on to the next round; or by a jump. -/
def roundUp (B : Nat) (I : Nat → World → Prop) (Ix : Code → World → Prop) (i : Nat) (W : World) : Exit → Act → World → Prop
  | .normal, _, W' => Aft B W W' ∧ I (i + 1) W'
  | .ret, _, W' => Aft B W W' ∧ Ix .ret W'
  | .exit b, _, W' => Aft B W W' ∧ Ix (.exit b) W'
  | _, _, _ => False

/-- An iterator that hands yield M values, one in each round, as long as the caller goes with it: in round i one that Enc says. It reads what R says, and writes nothing that was there when it was called. -/
def GivesTo (F : Fence) (m : Nat) (P : Program) (gf : FuncId) (lb : Array Value) {X : Type} (enc : X → Array Value) (Enc : Nat → Nat → World → X → Prop) (M : Nat) (R : World → Prop) : Prop :=
  ∀ (l : Nat) (J : Nat → World → Prop) (Jx : World → Prop) (W : World), (∀ i V, J i V → R V) → (∀ i V V', J i V → Below W.heap.size V V' → J i V') → (∀ V V', Jx V → Below W.heap.size V V' → Jx V') →
    (∀ i V x, i < M → W.heap.size ≤ V.heap.size → J i V → Enc W.heap.size i V x → YieldAt F (m - 1) P l (enc x) V fun e V' => (e = .returned (.bool true) ∧ J (i + 1) V' ∧ Aft W.heap.size V V') ∨ (e = .returned (.bool false) ∧ Jx V' ∧ Aft W.heap.size V V')) →
    J 0 W → CallsIn F m P gf (#[.func (.yield l) #[] #[]] ++ lb) W fun e V' => (∃ v, e = .returned v) ∧ (J M V' ∨ Jx V')

theorem range_ends {P : Program} {F : Fence} {n : Nat} {g : Operand} {ps : Array Tmp} {assign body : Code} {Q : Exit → Act → World → Prop} {a : Act} {w : World} {X : Type}
    (hro : F.round = none) (h1 : 1 ≤ n) {gf : FuncId} {lb : Array Value} (hg : a.eval g = .func (.func gf) #[] lb) (hFg : F.fn gf) (eg : ∀ args v, (callFunc gf args).run P v = .ok (.enter gf args) v)
    (enc : X → Array Value) (Enc : Nat → Nat → World → X → Prop) (M : Nat) (R : World → Prop) (hps : ∀ x, (enc x).size = ps.size)
    (I : Nat → World → Prop) (Ix : Code → World → Prop) (hR : ∀ i V, I i V → R V)
    (hI : ∀ i V V', I i V → Below w.heap.size V V' → I i V') (hIx : ∀ c V V', Ix c V → Below w.heap.size V V' → Ix c V')
    (h0 : I 0 w) (hit : GivesTo F (n - 1) P gf lb enc Enc M R)
    (hround : ∀ l i x W, l = w.heap.size + 1 → i < M → w.heap.size + 2 ≤ W.heap.size → I i W → Enc (w.heap.size + 2) i W x →
      assign.wpIn (F.inRound l) (n - 1 - 1) P (Exit.then (fun a' W' => Aft w.heap.size W W' ∧ ∀ V, V.heap.size = W'.heap.size → (∀ k, k ≠ w.heap.size + 1 → V.heap[k]? = W'.heap[k]?) → Below w.heap.size W' V →
        body.wpIn (F.inRound l) (n - 1 - 1) P (roundUp w.heap.size I Ix i V) a' V) (fun _ _ _ => False)) { tmps := (ps.zip (enc x)).foldl (fun t (p, v) => t.setIfInBounds p v) a.tmps, defers := [] } W)
    (hdone : ∀ D W, w.heap.size ≤ D → I M W → W.heap[D]? = some (.deferred (some [])) → Q .normal { a with defers := { target := .collected D, args := #[] } :: a.defers } W)
    (hstop : ∀ D c W, w.heap.size ≤ D → Ix c W → W.heap[D]? = some (.deferred (some [])) → c.wpIn F n P Q { a with defers := { target := .collected D, args := #[] } :: a.defers } W) :
    (Code.rangeFunc g ps assign body).wpIn F n P Q a w := by
  refine wpIn_rangeFunc fun fn hfn => ?_
  rw [hro]
  generalize hD : w.heap.size = D at *
  obtain ⟨R', hR'⟩ : ∃ R' : LoopState → Option Code → Loop, R' = fun s p => { state := s, pending := p, fn := fn, tmps := a.tmps, params := ps, assign := assign, body := body, defers := D } := ⟨_, rfl⟩
  have hRs : ∀ s p, (R' s p).state = s := fun s p => by rw [hR']
  obtain ⟨V0, hV⟩ : ∃ V0, (w.alloc (.deferred (some []))).alloc (.loop (R' .ready none)) = V0 := ⟨_, rfl⟩
  have hVs : V0.heap.size = D + 2 := by rw [← hV]; simp [hD]
  have hVl : V0.heap[D + 1]? = some (.loop (R' .ready none)) := by
    have := World.alloc_heap_new (w.alloc (.deferred (some []))) (.loop (R' .ready none))
    rw [World.size_alloc, hD, hV] at this; exact this
  have hVD : V0.heap[D]? = some (.deferred (some [])) := by
    have e := World.alloc_heap_new w (.deferred (some []))
    rw [hD] at e
    rw [← hV]; exact (Below.heap_alloc _ _ _ (by rw [World.size_alloc]; omega)).trans e
  have hVb : Below D w V0 := by
    rw [← hV]; exact ((Below.refl _ w).alloc (by omega) _).alloc (by rw [World.size_alloc]; omega) _
  refine ⟨D + 1, [{ target := .collected D, args := #[] }], V0, { target := .fn (.func gf) lb, args := #[.func (.yield (D + 1)) #[] #[]] }, V0, gf, #[.func (.yield (D + 1)) #[] #[]] ++ lb, V0, ?_, ?_, ?_, ?_, fun _ => h1, ?_⟩
  · have e := run_enterLoop_outer (P := P) (w := w) fn a.tmps ps assign body
    rw [hD] at e; rw [e, ← hV, hR']
  · simp only [resolve, hg]; simp [go_sem]
  · intro f' hf'; simp [Target.leads] at hf'; subst hf'; exact hFg
  · simp [invoke, go_sem, eg]
  refine (hit (D + 1) (fun i W => I i W ∧ W.heap[D + 1]? = some (.loop (R' .ready none)) ∧ W.heap[D]? = some (.deferred (some [])))
    (fun W => ∃ c, Ix c W ∧ W.heap[D + 1]? = some (.loop (R' .done (some c))) ∧ W.heap[D]? = some (.deferred (some []))) V0 (fun i W h => hR i W h.1)
    (fun i U U' h hb => by
      rw [hVs] at hb
      exact ⟨hI i U U' h.1 (hb.mono (by omega)), (hb.block _ (by omega)).trans h.2.1, (hb.block _ (by omega)).trans h.2.2⟩)
    (fun U U' ⟨c, h, hl, hd⟩ hb => by
      rw [hVs] at hb
      exact ⟨c, hIx c U U' h (hb.mono (by omega)), (hb.block _ (by omega)).trans hl, (hb.block _ (by omega)).trans hd⟩) ?_ ⟨hI 0 _ _ h0 hVb, hVl, hVD⟩).mono ?_
  · rw [hVs]
    rintro i W x hiM hWs ⟨hi, hl, hd⟩ hx
    have hy := run_yield (P := P) (args := enc x) hl (by rw [hR']; exact hps x)
    rw [hR'] at hy
    refine ⟨fn, _, assign, body, hy, roundIn_of_wpIn hfn (wpIn_mono (hround (D + 1) i x W rfl hiM hWs hi hx) ?_)⟩
    rintro e a' W' hp
    cases e with
    | normal =>
      obtain ⟨hA, hp⟩ := hp
      have hl' := (hA.same (D + 1) (by omega) (by omega)).trans hl
      have hd' := (hA.same D (by omega) (by omega)).trans hd
      have hb := run_beginRound (P := P) hl' (hRs _ _)
      generalize hB : W'.putObj (D + 1) (.loop { R' .ready none with state := .busy }) = B at hb
      have lt' : D + 1 < W'.heap.size := (Array.getElem?_eq_some_iff.1 hl').1
      have hBl : B.heap[D + 1]? = some (.loop { R' .ready none with state := .busy }) := by rw [← hB]; exact World.putObj_heap_same lt'
      have hBo : ∀ k, k ≠ D + 1 → B.heap[k]? = W'.heap[k]? := fun k hk => by rw [← hB]; exact World.putObj_heap_other (by omega)
      have hBd : B.heap[D]? = some (.deferred (some [])) := (hBo D (by omega)).trans hd'
      have hBs : B.heap.size = W'.heap.size := by rw [← hB]; simp
      have hBb : Below D W' B := by rw [← hB]; exact below_put _ (by omega)
      refine ⟨B, hb, wpIn_mono (hp B hBs hBo hBb) ?_⟩
      -- at a round's end the record is laid back
      have back : ∀ (j : Option Code) (C : World), Aft D B C → ∃ E, (Instr.endRound (D + 1) j).run P C = .ok (.bool j.isNone) E ∧ E.heap[D + 1]? = some (.loop (R' (if j.isNone then .ready else .done) j)) ∧ E.heap[D]? = some (.deferred (some [])) ∧
          (∀ i, I i C → I i E) ∧ (∀ c, Ix c C → Ix c E) ∧ Aft (D + 2) W E := fun j C hk => by
        have hCl := (hk.same (D + 1) (by omega) (by omega)).trans hBl
        have hCd := (hk.same D (by omega) (by omega)).trans hBd
        have hCs := hk.size
        have hAs := hA.size
        refine ⟨_, run_endRound (P := P) j hCl, ?_, (World.putObj_heap_other (by omega)).trans hCd, fun i h => hI i C _ h (below_put _ (by omega)), fun c h => hIx c C _ h (below_put _ (by omega)), ⟨?_, fun k hk1 hk2 => ?_⟩⟩
        · rw [World.putObj_heap_same (Array.getElem?_eq_some_iff.1 hCl).1, hR']
        · simp; omega
        · rw [World.putObj_heap_other (by omega), hk.same k (by omega) (by omega), hBo k (by omega), hA.same k (by omega) hk2]
      rintro e2 b C hq
      cases e2 with
      | normal =>
        obtain ⟨E, he, e1, e2, e3, _, e4⟩ := back none C hq.1
        exact ⟨_, E, he, .inl ⟨rfl, ⟨e3 _ hq.2, e1, e2⟩, e4⟩⟩
      | ret =>
        obtain ⟨E, he, e1, e2, _, e3, e4⟩ := back (some .ret) C hq.1
        exact ⟨_, E, he, .inr ⟨rfl, ⟨_, e3 _ hq.2, e1, e2⟩, e4⟩⟩
      | exit k =>
        obtain ⟨E, he, e1, e2, _, e3, e4⟩ := back (some (.exit k)) C hq.1
        exact ⟨_, E, he, .inr ⟨rfl, ⟨_, e3 _ hq.2, e1, e2⟩, e4⟩⟩
      | goto t => exact hq.elim
      | panic t => exact hq.elim
      | outgrown => exact hq.elim
    | ret => exact hp.elim
    | exit k => exact hp.elim
    | goto t => exact hp.elim
    | panic t => exact hp.elim
    | outgrown => exact hp.elim
  · rintro e W ⟨⟨v, rfl⟩, hj⟩
    rcases hj with ⟨hi, hl, hd⟩ | ⟨c, hc, hl, hd⟩
    · have he := run_endLoop (P := P) hl (by rw [hRs]; simp)
      refine ⟨(R' .ready none).pending, _, he, ?_⟩
      rw [show (R' .ready none).pending = none by rw [hR']]
      exact hdone D _ (Nat.le_refl _) (hI _ _ _ hi (below_put _ (by omega))) ((World.putObj_heap_other (by omega)).trans hd)
    · have he := run_endLoop (P := P) hl (by rw [hRs]; simp)
      refine ⟨(R' .done (some c)).pending, _, he, ?_⟩
      rw [show (R' .done (some c)).pending = some c by rw [hR']]
      exact hstop D c _ (Nat.le_refl _) (hIx c _ _ hc (below_put _ (by omega))) ((World.putObj_heap_other (by omega)).trans hd)
end Go.Proofs.Ytghdeedglekphaa

/- A law for a loop over an iterator whose caller bounds the rounds (the iterator may have no end): as range_ends, but what is read may hang on the round. Condition: the iterator's own contract under such an invariant. -/
namespace Go.Proofs.Ytghdeedglekphaa
open Go Go.RowKit

/-- An iterator that hands yield M values, one in each round, as long as the caller goes with it: in round i one that Enc says. It reads what R says, and writes nothing that was there when it was called. -/
def GivesIn (F : Fence) (m : Nat) (P : Program) (gf : FuncId) (lb : Array Value) {X : Type} (enc : X → Array Value) (Enc : Nat → Nat → World → X → Prop) (M : Nat) (R : Nat → World → Prop) : Prop :=
  ∀ (l : Nat) (J : Nat → World → Prop) (Jx : World → Prop) (W : World), (∀ i V, J i V → R i V) → (∀ i V V', J i V → Below W.heap.size V V' → J i V') → (∀ V V', Jx V → Below W.heap.size V V' → Jx V') →
    (∀ i V x, i < M → W.heap.size ≤ V.heap.size → J i V → Enc W.heap.size i V x → YieldAt F (m - 1) P l (enc x) V fun e V' => (e = .returned (.bool true) ∧ J (i + 1) V' ∧ Aft W.heap.size V V') ∨ (e = .returned (.bool false) ∧ Jx V' ∧ Aft W.heap.size V V')) →
    J 0 W → CallsIn F m P gf (#[.func (.yield l) #[] #[]] ++ lb) W fun e V' => (∃ v, e = .returned v) ∧ (J M V' ∨ Jx V')

theorem range_till {P : Program} {F : Fence} {n : Nat} {g : Operand} {ps : Array Tmp} {assign body : Code} {Q : Exit → Act → World → Prop} {a : Act} {w : World} {X : Type}
    (hro : F.round = none) (h1 : 1 ≤ n) {gf : FuncId} {lb : Array Value} (hg : a.eval g = .func (.func gf) #[] lb) (hFg : F.fn gf) (eg : ∀ args v, (callFunc gf args).run P v = .ok (.enter gf args) v)
    (enc : X → Array Value) (Enc : Nat → Nat → World → X → Prop) (M : Nat) (R : Nat → World → Prop) (hps : ∀ x, (enc x).size = ps.size)
    (I : Nat → World → Prop) (Ix : Code → World → Prop) (hR : ∀ i V, I i V → R i V)
    (hI : ∀ i V V', I i V → Below w.heap.size V V' → I i V') (hIx : ∀ c V V', Ix c V → Below w.heap.size V V' → Ix c V')
    (h0 : I 0 w) (hit : GivesIn F (n - 1) P gf lb enc Enc M R)
    (hround : ∀ l i x W, l = w.heap.size + 1 → i < M → w.heap.size + 2 ≤ W.heap.size → I i W → Enc (w.heap.size + 2) i W x →
      assign.wpIn (F.inRound l) (n - 1 - 1) P (Exit.then (fun a' W' => Aft w.heap.size W W' ∧ ∀ V, V.heap.size = W'.heap.size → (∀ k, k ≠ w.heap.size + 1 → V.heap[k]? = W'.heap[k]?) → Below w.heap.size W' V →
        body.wpIn (F.inRound l) (n - 1 - 1) P (roundUp w.heap.size I Ix i V) a' V) (fun _ _ _ => False)) { tmps := (ps.zip (enc x)).foldl (fun t (p, v) => t.setIfInBounds p v) a.tmps, defers := [] } W)
    (hdone : ∀ D W, w.heap.size ≤ D → I M W → W.heap[D]? = some (.deferred (some [])) → Q .normal { a with defers := { target := .collected D, args := #[] } :: a.defers } W)
    (hstop : ∀ D c W, w.heap.size ≤ D → Ix c W → W.heap[D]? = some (.deferred (some [])) → c.wpIn F n P Q { a with defers := { target := .collected D, args := #[] } :: a.defers } W) :
    (Code.rangeFunc g ps assign body).wpIn F n P Q a w := by
  refine wpIn_rangeFunc fun fn hfn => ?_
  rw [hro]
  generalize hD : w.heap.size = D at *
  obtain ⟨R', hR'⟩ : ∃ R' : LoopState → Option Code → Loop, R' = fun s p => { state := s, pending := p, fn := fn, tmps := a.tmps, params := ps, assign := assign, body := body, defers := D } := ⟨_, rfl⟩
  have hRs : ∀ s p, (R' s p).state = s := fun s p => by rw [hR']
  obtain ⟨V0, hV⟩ : ∃ V0, (w.alloc (.deferred (some []))).alloc (.loop (R' .ready none)) = V0 := ⟨_, rfl⟩
  have hVs : V0.heap.size = D + 2 := by rw [← hV]; simp [hD]
  have hVl : V0.heap[D + 1]? = some (.loop (R' .ready none)) := by
    have := World.alloc_heap_new (w.alloc (.deferred (some []))) (.loop (R' .ready none))
    rw [World.size_alloc, hD, hV] at this; exact this
  have hVD : V0.heap[D]? = some (.deferred (some [])) := by
    have e := World.alloc_heap_new w (.deferred (some []))
    rw [hD] at e
    rw [← hV]; exact (Below.heap_alloc _ _ _ (by rw [World.size_alloc]; omega)).trans e
  have hVb : Below D w V0 := by
    rw [← hV]; exact ((Below.refl _ w).alloc (by omega) _).alloc (by rw [World.size_alloc]; omega) _
  refine ⟨D + 1, [{ target := .collected D, args := #[] }], V0, { target := .fn (.func gf) lb, args := #[.func (.yield (D + 1)) #[] #[]] }, V0, gf, #[.func (.yield (D + 1)) #[] #[]] ++ lb, V0, ?_, ?_, ?_, ?_, fun _ => h1, ?_⟩
  · have e := run_enterLoop_outer (P := P) (w := w) fn a.tmps ps assign body
    rw [hD] at e; rw [e, ← hV, hR']
  · simp only [resolve, hg]; simp [go_sem]
  · intro f' hf'; simp [Target.leads] at hf'; subst hf'; exact hFg
  · simp [invoke, go_sem, eg]
  refine (hit (D + 1) (fun i W => I i W ∧ W.heap[D + 1]? = some (.loop (R' .ready none)) ∧ W.heap[D]? = some (.deferred (some [])))
    (fun W => ∃ c, Ix c W ∧ W.heap[D + 1]? = some (.loop (R' .done (some c))) ∧ W.heap[D]? = some (.deferred (some []))) V0 (fun i W h => hR i W h.1)
    (fun i U U' h hb => by
      rw [hVs] at hb
      exact ⟨hI i U U' h.1 (hb.mono (by omega)), (hb.block _ (by omega)).trans h.2.1, (hb.block _ (by omega)).trans h.2.2⟩)
    (fun U U' ⟨c, h, hl, hd⟩ hb => by
      rw [hVs] at hb
      exact ⟨c, hIx c U U' h (hb.mono (by omega)), (hb.block _ (by omega)).trans hl, (hb.block _ (by omega)).trans hd⟩) ?_ ⟨hI 0 _ _ h0 hVb, hVl, hVD⟩).mono ?_
  · rw [hVs]
    rintro i W x hiM hWs ⟨hi, hl, hd⟩ hx
    have hy := run_yield (P := P) (args := enc x) hl (by rw [hR']; exact hps x)
    rw [hR'] at hy
    refine ⟨fn, _, assign, body, hy, roundIn_of_wpIn hfn (wpIn_mono (hround (D + 1) i x W rfl hiM hWs hi hx) ?_)⟩
    rintro e a' W' hp
    cases e with
    | normal =>
      obtain ⟨hA, hp⟩ := hp
      have hl' := (hA.same (D + 1) (by omega) (by omega)).trans hl
      have hd' := (hA.same D (by omega) (by omega)).trans hd
      have hb := run_beginRound (P := P) hl' (hRs _ _)
      generalize hB : W'.putObj (D + 1) (.loop { R' .ready none with state := .busy }) = B at hb
      have lt' : D + 1 < W'.heap.size := (Array.getElem?_eq_some_iff.1 hl').1
      have hBl : B.heap[D + 1]? = some (.loop { R' .ready none with state := .busy }) := by rw [← hB]; exact World.putObj_heap_same lt'
      have hBo : ∀ k, k ≠ D + 1 → B.heap[k]? = W'.heap[k]? := fun k hk => by rw [← hB]; exact World.putObj_heap_other (by omega)
      have hBd : B.heap[D]? = some (.deferred (some [])) := (hBo D (by omega)).trans hd'
      have hBs : B.heap.size = W'.heap.size := by rw [← hB]; simp
      have hBb : Below D W' B := by rw [← hB]; exact below_put _ (by omega)
      refine ⟨B, hb, wpIn_mono (hp B hBs hBo hBb) ?_⟩
      -- at a round's end the record is laid back
      have back : ∀ (j : Option Code) (C : World), Aft D B C → ∃ E, (Instr.endRound (D + 1) j).run P C = .ok (.bool j.isNone) E ∧ E.heap[D + 1]? = some (.loop (R' (if j.isNone then .ready else .done) j)) ∧ E.heap[D]? = some (.deferred (some [])) ∧
          (∀ i, I i C → I i E) ∧ (∀ c, Ix c C → Ix c E) ∧ Aft (D + 2) W E := fun j C hk => by
        have hCl := (hk.same (D + 1) (by omega) (by omega)).trans hBl
        have hCd := (hk.same D (by omega) (by omega)).trans hBd
        have hCs := hk.size
        have hAs := hA.size
        refine ⟨_, run_endRound (P := P) j hCl, ?_, (World.putObj_heap_other (by omega)).trans hCd, fun i h => hI i C _ h (below_put _ (by omega)), fun c h => hIx c C _ h (below_put _ (by omega)), ⟨?_, fun k hk1 hk2 => ?_⟩⟩
        · rw [World.putObj_heap_same (Array.getElem?_eq_some_iff.1 hCl).1, hR']
        · simp; omega
        · rw [World.putObj_heap_other (by omega), hk.same k (by omega) (by omega), hBo k (by omega), hA.same k (by omega) hk2]
      rintro e2 b C hq
      cases e2 with
      | normal =>
        obtain ⟨E, he, e1, e2, e3, _, e4⟩ := back none C hq.1
        exact ⟨_, E, he, .inl ⟨rfl, ⟨e3 _ hq.2, e1, e2⟩, e4⟩⟩
      | ret =>
        obtain ⟨E, he, e1, e2, _, e3, e4⟩ := back (some .ret) C hq.1
        exact ⟨_, E, he, .inr ⟨rfl, ⟨_, e3 _ hq.2, e1, e2⟩, e4⟩⟩
      | exit k =>
        obtain ⟨E, he, e1, e2, _, e3, e4⟩ := back (some (.exit k)) C hq.1
        exact ⟨_, E, he, .inr ⟨rfl, ⟨_, e3 _ hq.2, e1, e2⟩, e4⟩⟩
      | goto t => exact hq.elim
      | panic t => exact hq.elim
      | outgrown => exact hq.elim
    | ret => exact hp.elim
    | exit k => exact hp.elim
    | goto t => exact hp.elim
    | panic t => exact hp.elim
    | outgrown => exact hp.elim
  · rintro e W ⟨⟨v, rfl⟩, hj⟩
    rcases hj with ⟨hi, hl, hd⟩ | ⟨c, hc, hl, hd⟩
    · have he := run_endLoop (P := P) hl (by rw [hRs]; simp)
      refine ⟨(R' .ready none).pending, _, he, ?_⟩
      rw [show (R' .ready none).pending = none by rw [hR']]
      exact hdone D _ (Nat.le_refl _) (hI _ _ _ hi (below_put _ (by omega))) ((World.putObj_heap_other (by omega)).trans hd)
    · have he := run_endLoop (P := P) hl (by rw [hRs]; simp)
      refine ⟨(R' .done (some c)).pending, _, he, ?_⟩
      rw [show (R' .done (some c)).pending = some c by rw [hR']]
      exact hstop D c _ (Nat.le_refl _) (hIx c _ _ hc (below_put _ (by omega))) ((World.putObj_heap_other (by omega)).trans hd)
end Go.Proofs.Ytghdeedglekphaa

/- Regions whose order Go leaves open, whose head only computes and calls (each call leaving a world of a class), and whose end is carried out in the text's order behind all of the head: one walk serves every order. Condition: what the class keeps. -/
namespace Go.Proofs.Ytghdeedglekphaa
open Go

section
variable {P : Program} {ops : Array Oper} {md : Region.Mode} {C : World → Prop}
/-- So many operations, each of the head, in whatever order; then L. -/
def headQ (P : Program) (md : Region.Mode) (ops : Array Oper) (C : World → Prop) (n : Nat) (L : Array Bool → Act → Prop) : Nat → Array Bool → Act → Prop
  | 0, done, a => L done a
  | m + 1, done, a => Region.ready md ops done ≠ [] ∧ ∀ j ∈ Region.ready md ops done, j < n ∧ qOp P ops C j (headQ P md ops C n L m (done.setIfInBounds j true)) a

theorem any_of_headQ {n g : Nat} {L : Array Bool → Act → Prop} {Q : Exit → Act → World → Prop} (end_ : ∀ done a w, C w → L done a → wpAny P md ops Q g done a w) (m : Nat) :
    ∀ (done : Array Bool) (a : Act) (w : World), C w → headQ P md ops C n L m done a → wpAny P md ops Q (m + g) done a w := by
  induction m with
  | zero => intro done a w hw h; rw [Nat.zero_add]; exact end_ done a w hw h
  | succ m ih =>
    intro done a w hw h
    rw [show m + 1 + g = m + g + 1 by omega]
    refine ⟨fun e => absurd e h.1, fun j hj => ?_⟩
    exact wpOp_of_qOp hw (fun a' w' hw' h' => ih _ a' w' hw' h') (h.2 j hj).2

theorem headQ_pick {n k : Nat} {o : Oper} {v : Value} {L : Array Bool → Act → Prop} (ho : ops[k]? = some o) (sel : ∀ (j : Nat) (o' : Oper) cs b, ops[j]? = some o' → o'.op ≠ .select cs b)
    (hs : Region.sinkB md ops n = true) (hc : Region.chainB md ops n = true) (hn : n < ops.size) (hk : k < n) (over : ∀ done a, L done a → ∀ j ∈ Region.ready md ops done, n ≤ j) (m : Nat) :
    ∀ (done : Array Bool) (a : Act), HeadInv md ops n done →
      (∀ j o', ops[j]? = some o' → j ≠ k → done.getD j true = false → (∀ e ∈ o'.after, Region.binds md e = true → e.on ≠ k) → o.apart ops o' = true) →
      k ∈ Region.ready md ops done → YieldsIn P ops C o v a → headQ P md ops C n L m (done.setIfInBounds k true) (a.put o.dst v) → headQ P md ops C n L (m + 1) done a := by
  induction m with
  | zero =>
    intro done a inv _ hr hy H
    refine ⟨List.ne_nil_of_mem hr, fun j hj => ?_⟩
    have lt : j < n := Nat.lt_of_not_le fun h => tail_waits hs hc hn inv _ k rfl hk (mem_ready.1 hr).1 j h hj
    refine ⟨lt, ?_⟩
    by_cases e : j = k
    · rw [e]; exact hy.qOp ho H
    · exact absurd (over _ _ H j (ready_mono hj e)) (by omega)
  | succ m ih =>
    intro done a inv free hr hy H
    have hun := (mem_ready.1 hr).1
    refine ⟨List.ne_nil_of_mem hr, fun j hj => ?_⟩
    have lt : j < n := Nat.lt_of_not_le fun h => tail_waits hs hc hn inv _ k rfl hk hun j h hj
    refine ⟨lt, ?_⟩
    by_cases e : j = k
    · rw [e]; exact hy.qOp ho H
    · obtain ⟨uj, oj, hoj, after⟩ := mem_ready.1 hj
      have no : ∀ x ∈ oj.after, Region.binds md x = true → x.on ≠ k := fun x hx hb he => by
        have := after x hx hb
        rw [he, getD_both hun] at this
        exact Bool.noConfusion this
      have both := qOp_put hoj (free j oj hoj e uj no) (fun cs b => sel k o cs b ho) (fun cs b => sel j oj cs b hoj) hy (H.2 j (ready_mono hj e)).2
      refine qOp_mono (fun a' ⟨y, z⟩ => ih (done.setIfInBounds j true) a' (inv.set hj lt) (fun i oi hi hik ui noi => ?_) (ready_mono hr (Ne.symm e)) y ?_) both
      · refine free i oi hi hik ?_ noi
        by_cases eji : j = i
        · rw [← eji]; exact uj
        · rwa [getD_set_ne true eji] at ui
      · rw [Array.setIfInBounds_comm _ _ e]; exact z

theorem headQ_walk {n g : Nat} {K : Act → Prop} (sel : Region.noSelect ops = true) (hs : Region.sinkB md ops n = true) (hc : Region.chainB md ops n = true) (hn : n < ops.size) (l : List Oper) :
    ∀ (k : Nat) (done : Array Bool) (a : Act), (∀ j, j < l.length → l[j]? = ops[k + j]?) → k + l.length = n → HeadInv md ops n done → Region.lexHead md ops g l.length k done = true → wpQuiet P ops C K l a →
    headQ P md ops C n (fun done' a' => Region.seqB md ops g n done' = true ∧ K a') l.length done a := by
  induction l with
  | nil =>
    intro k done a _ hk _ hB h
    have e : k = n := by simpa using hk
    rw [e] at hB
    exact ⟨hB, h⟩
  | cons o l ih =>
    intro k done a hl hk inv hB h
    have ho : ops[k]? = some o := by simpa using (hl 0 (by simp)).symm
    simp only [List.length_cons] at hk hB
    unfold Region.lexHead at hB
    simp only [Bool.and_eq_true] at hB
    have hr : k ∈ Region.ready md ops done := by simpa using hB.1.1
    have hq : qOp P ops C k (wpQuiet P ops C K l) a := by unfold qOp; simp only [ho]; exact h
    obtain ⟨v, hy, hK⟩ := yieldsIn_of_qOp ho hq
    refine headQ_pick ho (Region.noSelect_spec sel) hs hc hn (by omega) (fun done' a' hL => seqB_ready hL.1) l.length done a inv (Region.free_spec ho hB.1.2) hr hy ?_
    refine ih (k + 1) _ _ (fun j hj => ?_) (by omega) (inv.set hr (by omega)) hB.2 hK
    have := hl (j + 1) (by simp; omega)
    simpa [Nat.add_assoc, Nat.add_comm 1 j] using this

/-- The first n operations over the class, the rest in the text's order. -/
theorem any_class_tail {Q : Exit → Act → World → Prop} {a : Act} {w : World} {l : List Oper} (n : Nat) (C : World → Prop) (hB : Region.lexTailB .any l.toArray n = true) (hC : C w.drew)
    (h : wpQuiet P l.toArray C (fun a' => ∀ w', C w' → wpList P l.toArray Q (l.drop n) a' w') (l.take n) a) : wpAny P .any l.toArray Q l.toArray.size (Array.replicate l.toArray.size false) a w.drew := by
  unfold Region.lexTailB at hB
  simp only [Bool.and_eq_true, decide_eq_true_eq] at hB
  obtain ⟨⟨⟨⟨sel, hn⟩, hs⟩, hc⟩, lex⟩ := hB
  have hlt : n < l.length := by simpa using hn
  have ht : (l.take n).length = n := by simp; omega
  have hd : (l.drop n).length = l.toArray.size - n := by simp
  have inv : HeadInv .any l.toArray n (Array.replicate l.toArray.size false) := by
    refine ⟨by simp, fun j o _ hl => ?_, fun t _ h2 => getD_in (by simpa using h2) (getD_replicate_false _ _)⟩
    rw [getD_replicate_false] at hl; exact Bool.noConfusion hl
  have H := headQ_walk (md := .any) (g := l.toArray.size - n) sel hs hc hn (l.take n) 0 _ a (fun j hj => by simp [show j < n by omega]) (by simpa using ht) inv (by rw [ht]; exact lex) h
  have R := any_of_headQ (Q := Q) (g := l.toArray.size - n) (fun done a' w' hw' hL => by
    have := wpAny_of_seq (md := .any) (Q' := Q) (l.drop n) n done a' w' (fun j => by simp [List.getElem?_drop]) (by rw [hd]; exact hL.1) (hL.2 w' hw')
    rwa [hd] at this) _ _ _ w.drew hC H
  rw [ht, show n + (l.toArray.size - n) = l.toArray.size by omega] at R
  exact R
theorem wp_region_class_tail {id : Nat} {Q : Exit → Act → World → Prop} {a : Act} {w : World} {l : List Oper} (n : Nat) (C : World → Prop) (hm : P.follows .mixedOrders = true) (hB : Region.lexTailB .any l.toArray n = true) (hC : C w.drew)
    (h : wpQuiet P l.toArray C (fun a' => ∀ w', C w' → wpList P l.toArray Q (l.drop n) a' w') (l.take n) a) : (Code.region id l.toArray true).wp P Q a w :=
  wp_region_any hm (any_class_tail n C hB hC h)
end
end Go.Proofs.Ytghdeedglekphaa

/- Regions whose order Go leaves open, by one order of their operations: operations that only compute may float, every other one is carried out where nothing else is left to do before it. A walk of that one order serves every order, and may make memory as it goes. Condition: what the class of worlds keeps. -/
namespace Go.Proofs.Ytghdeedglekphaa
open Go

section
variable {P : Program} {ops : Array Oper} {md : Region.Mode} {C : World → Prop} {Q : Exit → Act → World → Prop}

/-- What an operation leaves: a value and a world. No panic. -/
def doneUpon (P : Program) (K : Value → World → Prop) : Result Next → Prop
  | .ok (.value u) w' => K u w'
  | .ok .skip w' => K undef w'
  | .ok (.enter f args) w' => Calls P f args w' fun e w'' => ∃ u, e = .returned u ∧ K u w''
  | _ => False
def doneAt (P : Program) (o : Oper) (a : Act) (w : World) (K : Value → World → Prop) : Prop := doneUpon P K ((execOp a.eval o).run P w)
theorem doneUpon_mono {K K' : Value → World → Prop} (h : ∀ u w', K u w' → K' u w') {r : Result Next} (hh : doneUpon P K r) : doneUpon P K' r := by
  cases r with
  | halt x w' => exact hh
  | ok n w' =>
    cases n with
    | value u => exact h _ _ hh
    | skip => exact h _ _ hh
    | enter f args => exact Calls.mono hh fun e w'' ⟨u, he, hu⟩ => ⟨u, he, h _ _ hu⟩
    | _ => exact hh
theorem wp_of_done {o : Oper} {a : Act} {w : World} {K : Act → World → Prop} (h : doneAt P o a w fun u w' => K (a.put o.dst u) w') : o.wp P a w K Q := by
  unfold doneAt at h
  unfold Oper.wp
  generalize (execOp a.eval o).run P w = r at *
  cases r with
  | halt x w' => exact h.elim
  | ok n w' =>
    cases n with
    | value u => exact h
    | skip => exact h
    | enter f args => exact Calls.mono h fun e w'' ⟨u, he, hu⟩ => by subst he; exact hu
    | _ => exact h.elim

def stepC (P : Program) (ops : Array Oper) (C : World → Prop) (i : Nat) (K : Act → World → Prop) (a : Act) (w : World) : Prop :=
  match ops[i]? with
  | none => K a w
  | some o => if Region.wanted o (yielded ops a.tmps) then doneAt P o a w fun u w' => C w' ∧ K (a.put o.dst u) w' else K (a.put o.dst undef) w
theorem stepC_mono {i : Nat} {a : Act} {w : World} {K K' : Act → World → Prop} (hC : C w) (h : ∀ a' w', C w' → K a' w' → K' a' w') (hh : stepC P ops C i K a w) : stepC P ops C i K' a w := by
  unfold stepC at *
  split
  · rename_i e; simp only [e] at hh; exact h _ _ hC hh
  · rename_i o e
    simp only [e] at hh
    split
    · rename_i hw; simp only [hw, if_true] at hh; exact doneUpon_mono (fun u w' ⟨c, k⟩ => ⟨c, h _ _ c k⟩) hh
    · rename_i hw; simp only [hw] at hh; exact h _ _ hC hh
def anyC (P : Program) (md : Region.Mode) (ops : Array Oper) (C : World → Prop) (Q : Act → World → Prop) : Nat → Array Bool → Act → World → Prop
  | 0, L, a, w => Region.ready md ops L = [] ∧ Q a w
  | m + 1, L, a, w => (Region.ready md ops L = [] → Q a w) ∧ ∀ i ∈ Region.ready md ops L, stepC P ops C i (anyC P md ops C Q m (L.setIfInBounds i true)) a w
theorem any_of_anyC {R : Act → World → Prop} (hR : ∀ a w, C w → R a w → Q .normal a w) : ∀ (m : Nat) (L : Array Bool) (a : Act) (w : World), C w → anyC P md ops C R m L a w → wpAny P md ops Q m L a w
  | 0, _, _, _, hw, h => ⟨h.1, hR _ _ hw h.2⟩
  | m + 1, L, a, w, hw, h => ⟨fun e => hR _ _ hw (h.1 e), fun i hi => by
      have hs := h.2 i hi
      unfold stepC at hs
      unfold wpOp
      split
      · rename_i e; simp only [e] at hs; exact any_of_anyC hR m _ _ _ hw hs
      · rename_i o e
        simp only [e] at hs
        split
        · rename_i hwd; simp only [hwd, if_true] at hs
          exact .inl (wp_of_done (doneUpon_mono (fun u w' ⟨c, k⟩ => any_of_anyC hR m _ _ _ c k) hs))
        · rename_i hwd; simp only [hwd] at hs; exact any_of_anyC hR m _ _ _ hw hs⟩

/-- An operation that only computes: one value in every world of the class. -/
def Gives (P : Program) (C : World → Prop) (o : Oper) (a : Act) (v : Value) : Prop := ∀ w, C w → (execOp a.eval o).run P w = .ok (.value v) w
def GivesIf (P : Program) (ops : Array Oper) (C : World → Prop) (o : Oper) (a : Act) (v : Value) : Prop :=
  (Region.wanted o (yielded ops a.tmps) = true ∧ Gives P C o a v) ∨ (Region.wanted o (yielded ops a.tmps) = false ∧ v = undef)
theorem GivesIf.keeps {o : Oper} {v : Value} {a a' : Act} (h : GivesIf P ops C o a v) (he : execOp a'.eval o = execOp a.eval o) (hw : Region.wanted o (yielded ops a'.tmps) = Region.wanted o (yielded ops a.tmps)) : GivesIf P ops C o a' v := by
  unfold GivesIf Gives at *
  rw [he, hw]; exact h
theorem GivesIf.step {i : Nat} {o : Oper} {v : Value} {a : Act} {w : World} {K : Act → World → Prop} (hi : ops[i]? = some o) (hC : C w) (h : GivesIf P ops C o a v) (hk : K (a.put o.dst v) w) : stepC P ops C i K a w := by
  unfold stepC
  simp only [hi]
  rcases h with ⟨hw, hv⟩ | ⟨hw, rfl⟩
  · simp only [hw, if_true]; unfold doneAt; rw [hv w hC]; exact ⟨hC, hk⟩
  · simp only [hw, Bool.false_eq_true, if_false]; exact hk
theorem stepC_put {j : Nat} {oi oj : Oper} {v : Value} (hj : ops[j]? = some oj) (hap : oi.apart ops oj = true) (si : ∀ cs b, oi.op ≠ .select cs b) (sj : ∀ cs b, oj.op ≠ .select cs b) {K : Act → World → Prop} {a : Act} {w : World}
    (hy : GivesIf P ops C oi a v) (h : stepC P ops C j K (a.put oi.dst v) w) : stepC P ops C j (fun a' w' => GivesIf P ops C oi a' v ∧ K (a'.put oi.dst v) w') a w := by
  obtain ⟨h1, h2, h3⟩ := Oper.apart_spec hap
  have keep : ∀ u, GivesIf P ops C oi (a.put oj.dst u) v := fun u => hy.keeps (execOp_put oi si a oj.dst u h3) (wanted_put oi a oj.dst u h3)
  unfold stepC at *
  simp only [hj] at *
  rw [wanted_put oj a oi.dst v h1] at h
  split
  · rename_i hw
    simp only [hw, if_true] at h
    unfold doneAt at *
    rw [execOp_put oj sj a oi.dst v h1] at h
    exact doneUpon_mono (fun u w' ⟨c, k⟩ => ⟨c, keep u, by rw [← Act.put_comm a v u h2]; exact k⟩) h
  · rename_i hw
    simp only [hw] at h
    exact ⟨keep _, by rw [← Act.put_comm a v undef h2]; exact h⟩
theorem not_listed {L : Array Bool} {i : Nat} (h : L.getD i true = false) : L.getD i false = false := by
  rcases Nat.lt_or_ge i L.size with l | l
  · simp [l] at h ⊢; exact h
  · simp [Array.getElem?_eq_none l] at h
theorem anyC_first {R : Act → World → Prop} {i : Nat} {o : Oper} {v : Value} (hi : ops[i]? = some o) (sel : ∀ (j : Nat) (o' : Oper) cs b, ops[j]? = some o' → o'.op ≠ .select cs b) (m : Nat) :
    ∀ (L : Array Bool) (a : Act) (w : World), C w →
      (∀ j o', ops[j]? = some o' → j ≠ i → L.getD j true = false → (∀ e ∈ o'.after, Region.binds md e = true → e.on ≠ i) → o.apart ops o' = true) →
      i ∈ Region.ready md ops L → GivesIf P ops C o a v → anyC P md ops C R m (L.setIfInBounds i true) (a.put o.dst v) w → anyC P md ops C R (m + 1) L a w := by
  induction m with
  | zero =>
    intro L a w hC _ hr hy H
    refine ⟨fun e => absurd hr (by rw [e]; exact List.not_mem_nil), fun j hj => ?_⟩
    by_cases e : j = i
    · subst e; exact hy.step hi hC H
    · have := ready_mono hj e
      rw [H.1] at this; exact absurd this List.not_mem_nil
  | succ m ih =>
    intro L a w hC free hr hy H
    refine ⟨fun e => absurd hr (by rw [e]; exact List.not_mem_nil), fun j hj => ?_⟩
    by_cases e : j = i
    · subst e; exact hy.step hi hC H
    · obtain ⟨uj, oj, hoj, after⟩ := mem_ready.1 hj
      have un := not_listed (mem_ready.1 hr).1
      have no : ∀ x ∈ oj.after, Region.binds md x = true → x.on ≠ i := fun x hx hb he => by
        have := after x hx hb
        rw [he, un] at this
        exact Bool.noConfusion this
      have both := stepC_put hoj (free j oj hoj e uj no) (fun cs b => sel i o cs b hi) (fun cs b => sel j oj cs b hoj) hy (H.2 j (ready_mono hj e))
      refine stepC_mono hC (fun a' w' c ⟨y, z⟩ => ih (L.setIfInBounds j true) a' w' c (fun k ok hk hki uk nok => ?_) (ready_mono hr (Ne.symm e)) y ?_) both
      · refine free k ok hk hki ?_ nok
        by_cases ejk : j = k
        · rw [← ejk]; exact uj
        · rwa [getD_set_ne true ejk] at uk
      · rw [Array.setIfInBounds_comm _ _ e]; exact z

/-- The walk of one order: 'true' stands by an operation that floats. -/
def walkS (P : Program) (ops : Array Oper) (C : World → Prop) (R : Act → World → Prop) : List (Nat × Bool) → Act → World → Prop
  | [], a, w => R a w
  | (i, true) :: l, a, w => ∃ o v, ops[i]? = some o ∧ GivesIf P ops C o a v ∧ walkS P ops C R l (a.put o.dst v) w
  | (i, false) :: l, a, w => ∃ o, ops[i]? = some o ∧ ((Region.wanted o (yielded ops a.tmps) = true ∧ doneAt P o a w fun u w' => C w' ∧ walkS P ops C R l (a.put o.dst u) w') ∨ (Region.wanted o (yielded ops a.tmps) = false ∧ walkS P ops C R l (a.put o.dst undef) w))
def schedB (md : Region.Mode) (ops : Array Oper) : List (Nat × Bool) → Array Bool → Bool
  | [], L => (Region.ready md ops L).isEmpty
  | (i, true) :: l, L => (Region.ready md ops L).contains i && Region.free md ops L i && schedB md ops l (L.setIfInBounds i true)
  | (i, false) :: l, L => decide (Region.ready md ops L = [i]) && schedB md ops l (L.setIfInBounds i true)
theorem anyC_sched {R : Act → World → Prop} (sel : Region.noSelect ops = true) : ∀ (l : List (Nat × Bool)) (L : Array Bool) (a : Act) (w : World), C w → schedB md ops l L = true → walkS P ops C R l a w → anyC P md ops C R l.length L a w
  | [], L, a, w, _, hB, h => ⟨by simpa [schedB] using hB, h⟩
  | (i, true) :: l, L, a, w, hC, hB, ⟨o, v, hi, hy, h⟩ => by
    simp only [schedB, Bool.and_eq_true] at hB
    exact anyC_first hi (Region.noSelect_spec sel) l.length L a w hC (Region.free_spec hi hB.1.2) (by simpa using hB.1.1) hy (anyC_sched sel l _ _ _ hC hB.2 h)
  | (i, false) :: l, L, a, w, hC, hB, ⟨o, hi, h⟩ => by
    simp only [schedB, Bool.and_eq_true, decide_eq_true_eq] at hB
    refine ⟨fun e => absurd hB.1 (by rw [e]; exact List.cons_ne_nil _ _ ∘ Eq.symm), fun j hj => ?_⟩
    rw [hB.1] at hj
    obtain rfl : j = i := by simpa using hj
    unfold stepC
    simp only [hi]
    rcases h with ⟨hw, hd⟩ | ⟨hw, hd⟩
    · rw [if_pos hw]; exact doneUpon_mono (fun u w' ⟨c, k⟩ => ⟨c, anyC_sched sel l _ _ _ c hB.2 k⟩) hd
    · rw [if_neg (by simp [hw])]; exact anyC_sched sel l _ _ _ hC hB.2 hd

/-- A region whose order is drawn, by one order. -/
theorem wp_region_sched {id : Nat} {a : Act} {w : World} {l : List Oper} (s : List (Nat × Bool)) (C : World → Prop) (hm : P.follows .mixedOrders = true) (hB : (Region.noSelect l.toArray && decide (s.length = l.length) && schedB .any l.toArray s (Array.replicate l.length false)) = true) (hC : C w.drew)
    (h : walkS P l.toArray C (fun a' w' => Q .normal a' w') s a w.drew) : (Code.region id l.toArray true).wp P Q a w := by
  simp only [Bool.and_eq_true, decide_eq_true_eq] at hB
  refine wp_region_any hm ?_
  have := any_of_anyC (Q := Q) (fun a w _ h => h) _ _ _ _ hC (anyC_sched (md := .any) hB.1.1 s _ a w.drew hC hB.2 h)
  rw [hB.1.2] at this
  simpa using this

/-- A tree of orders: where several operations that do more than compute are left, each may come first. -/
inductive Tree where
  | over : Tree
  | float : Nat → Tree → Tree
  | one : Nat → Tree → Tree
  | two : Nat → Tree → Nat → Tree → Tree
def Tree.count : Tree → Nat
  | .over => 0
  | .float _ t => t.count + 1
  | .one _ t => t.count + 1
  | .two _ t _ _ => t.count + 1
def Tree.fits (md : Region.Mode) (ops : Array Oper) : Tree → Array Bool → Bool
  | .over, L => (Region.ready md ops L).isEmpty
  | .float i t, L => (Region.ready md ops L).contains i && Region.free md ops L i && t.fits md ops (L.setIfInBounds i true)
  | .one i t, L => decide (Region.ready md ops L = [i]) && t.fits md ops (L.setIfInBounds i true)
  | .two i t j s, L => decide (Region.ready md ops L = [i, j]) && t.fits md ops (L.setIfInBounds i true) && s.fits md ops (L.setIfInBounds j true) && decide (t.count = s.count)
/-- One operation that does more than compute. -/
def acts (P : Program) (ops : Array Oper) (C : World → Prop) (i : Nat) (K : Act → World → Prop) (a : Act) (w : World) : Prop :=
  ∃ o, ops[i]? = some o ∧ ((Region.wanted o (yielded ops a.tmps) = true ∧ doneAt P o a w fun u w' => C w' ∧ K (a.put o.dst u) w') ∨ (Region.wanted o (yielded ops a.tmps) = false ∧ K (a.put o.dst undef) w))
def walkT (P : Program) (ops : Array Oper) (C : World → Prop) (R : Act → World → Prop) : Tree → Act → World → Prop
  | .over, a, w => R a w
  | .float i t, a, w => ∃ o v, ops[i]? = some o ∧ GivesIf P ops C o a v ∧ walkT P ops C R t (a.put o.dst v) w
  | .one i t, a, w => acts P ops C i (walkT P ops C R t) a w
  | .two i t j s, a, w => acts P ops C i (walkT P ops C R t) a w ∧ acts P ops C j (walkT P ops C R s) a w
theorem stepC_of_acts {i : Nat} {a : Act} {w : World} {K K' : Act → World → Prop} (hC : C w) (h : ∀ a' w', C w' → K a' w' → K' a' w') (hh : acts P ops C i K a w) : stepC P ops C i K' a w := by
  obtain ⟨o, hi, hh⟩ := hh
  unfold stepC
  simp only [hi]
  rcases hh with ⟨hw, hd⟩ | ⟨hw, hd⟩
  · rw [if_pos hw]; exact doneUpon_mono (fun u w' ⟨c, k⟩ => ⟨c, h _ _ c k⟩) hd
  · rw [if_neg (by simp [hw])]; exact h _ _ hC hd
theorem anyC_tree {R : Act → World → Prop} (sel : Region.noSelect ops = true) : ∀ (t : Tree) (L : Array Bool) (a : Act) (w : World), C w → t.fits md ops L = true → walkT P ops C R t a w → anyC P md ops C R t.count L a w
  | .over, L, a, w, _, hB, h => ⟨by simpa [Tree.fits] using hB, h⟩
  | .float i t, L, a, w, hC, hB, ⟨o, v, hi, hy, h⟩ => by
    simp only [Tree.fits, Bool.and_eq_true] at hB
    exact anyC_first hi (Region.noSelect_spec sel) t.count L a w hC (Region.free_spec hi hB.1.2) (by simpa using hB.1.1) hy (anyC_tree sel t _ _ _ hC hB.2 h)
  | .one i t, L, a, w, hC, hB, h => by
    simp only [Tree.fits, Bool.and_eq_true, decide_eq_true_eq] at hB
    refine ⟨fun e => absurd hB.1 (by rw [e]; exact List.cons_ne_nil _ _ ∘ Eq.symm), fun j hj => ?_⟩
    rw [hB.1] at hj
    obtain rfl : j = i := by simpa using hj
    exact stepC_of_acts hC (fun a' w' c k => anyC_tree sel t _ _ _ c hB.2 k) h
  | .two i t j s, L, a, w, hC, hB, h => by
    simp only [Tree.fits, Bool.and_eq_true, decide_eq_true_eq] at hB
    refine ⟨fun e => absurd hB.1.1.1 (by rw [e]; exact List.cons_ne_nil _ _ ∘ Eq.symm), fun k hk => ?_⟩
    rw [hB.1.1.1] at hk
    rcases (show k = i ∨ k = j by simpa using hk) with rfl | rfl
    · exact stepC_of_acts hC (fun a' w' c k => anyC_tree sel t _ _ _ c hB.1.1.2 k) h.1
    · refine stepC_of_acts hC (fun a' w' c k => ?_) h.2
      rw [hB.2]; exact anyC_tree sel s _ _ _ c hB.1.2 k
/-- A region whose order is drawn, by a tree of orders. -/
theorem wp_region_tree {id : Nat} {a : Act} {w : World} {l : List Oper} (t : Tree) (C : World → Prop) (hm : P.follows .mixedOrders = true) (hB : (Region.noSelect l.toArray && decide (t.count = l.length) && t.fits .any l.toArray (Array.replicate l.length false)) = true) (hC : C w.drew)
    (h : walkT P l.toArray C (fun a' w' => Q .normal a' w') t a w.drew) : (Code.region id l.toArray true).wp P Q a w := by
  simp only [Bool.and_eq_true, decide_eq_true_eq] at hB
  refine wp_region_any hm ?_
  have := any_of_anyC (Q := Q) (fun a w _ h => h) _ _ _ _ hC (anyC_tree (md := .any) hB.1.1 t _ a w.drew hC hB.2 h)
  rw [hB.1.2] at this
  simpa using this
theorem tree_float {R : Act → World → Prop} {i : Nat} {t : Tree} {a : Act} {w : World} {o : Oper} (hi : ops[i]? = some o) (hw : Region.wanted o (yielded ops a.tmps) = true)
    (h : ∀ K : Act → Prop, (∀ a', walkT P ops C R t a' w → K a') → ∃ v, Gives P C o a v ∧ K (a.put o.dst v)) : walkT P ops C R (.float i t) a w := by
  obtain ⟨v, hv, hk⟩ := h _ (fun _ h => h)
  exact ⟨o, v, hi, .inl ⟨hw, hv⟩, hk⟩
theorem tree_one {R : Act → World → Prop} {i : Nat} {t : Tree} {a : Act} {w : World} {o : Oper} (hi : ops[i]? = some o) (hw : Region.wanted o (yielded ops a.tmps) = true)
    (h : ∀ K : Act → World → Prop, (∀ a' w', walkT P ops C R t a' w' → K a' w') → doneAt P o a w fun u w' => C w' ∧ K (a.put o.dst u) w') : walkT P ops C R (.one i t) a w :=
  ⟨o, hi, .inl ⟨hw, h _ (fun _ _ h => h)⟩⟩
theorem tree_two {R : Act → World → Prop} {i j : Nat} {t s : Tree} {a : Act} {w : World} (h1 : walkT P ops C R (.one i t) a w) (h2 : walkT P ops C R (.one j s) a w) : walkT P ops C R (.two i t j s) a w := ⟨h1, h2⟩
theorem tree_over {R : Act → World → Prop} {a : Act} {w : World} (h : R a w) : walkT P ops C R .over a w := h

theorem walk_float {R : Act → World → Prop} {i : Nat} {l : List (Nat × Bool)} {a : Act} {w : World} {o : Oper} (hi : ops[i]? = some o) (hw : Region.wanted o (yielded ops a.tmps) = true)
    (h : ∀ K : Act → Prop, (∀ a', walkS P ops C R l a' w → K a') → ∃ v, Gives P C o a v ∧ K (a.put o.dst v)) : walkS P ops C R ((i, true) :: l) a w := by
  obtain ⟨v, hv, hk⟩ := h _ (fun _ h => h)
  exact ⟨o, v, hi, .inl ⟨hw, hv⟩, hk⟩
theorem walk_done {R : Act → World → Prop} {i : Nat} {l : List (Nat × Bool)} {a : Act} {w : World} {o : Oper} (hi : ops[i]? = some o) (hw : Region.wanted o (yielded ops a.tmps) = true)
    (h : ∀ K : Act → World → Prop, (∀ a' w', walkS P ops C R l a' w' → K a' w') → doneAt P o a w fun u w' => C w' ∧ K (a.put o.dst u) w') : walkS P ops C R ((i, false) :: l) a w :=
  ⟨o, hi, .inl ⟨hw, h _ (fun _ _ h => h)⟩⟩
theorem walk_nil {R : Act → World → Prop} {a : Act} {w : World} (h : R a w) : walkS P ops C R [] a w := h
theorem gives_move {o : Oper} {a : Act} {K : Act → Prop} (x : Operand) (ho : o.op = .move x) (hk : K (a.put o.dst (a.eval x))) : ∃ v, Gives P C o a v ∧ K (a.put o.dst v) :=
  ⟨_, fun w _ => by unfold execOp; simp only [ho]; rfl, hk⟩
theorem gives_assign {o : Oper} {a : Act} {K : Act → Prop} (x : Operand) (ho : o.op = .assign x) (hk : K (a.put o.dst (a.eval x))) : ∃ v, Gives P C o a v ∧ K (a.put o.dst v) :=
  ⟨_, fun w _ => by unfold execOp; simp only [ho]; rfl, hk⟩
/-- A law of a quiet operation serves here too, if it is no call. -/
theorem gives_of_quiet {o : Oper} {a : Act} {K : Act → Prop} (hn : ∀ w f args w', (execOp a.eval o).run P w ≠ .ok (.enter f args) w') (hs : ∀ w w', (execOp a.eval o).run P w ≠ .ok .skip w') (h : o.quiet P a C K) : ∃ v, Gives P C o a v ∧ K (a.put o.dst v) := by
  obtain ⟨v, hv, hk⟩ := h
  refine ⟨v, fun w hw => ?_, hk⟩
  have := hv w hw
  unfold Oper.quietAt at this
  generalize hr : (execOp a.eval o).run P w = r at *
  cases r with
  | halt x w' => exact this.elim
  | ok n w' =>
    cases n with
    | value u => obtain ⟨rfl, rfl⟩ := this; rfl
    | skip => exact absurd hr (hs _ _)
    | enter f args => exact absurd hr (hn _ _ _ _)
    | _ => exact this.elim
/-- A call whose callee keeps the class. -/
theorem done_call {o : Oper} {a : Act} {w : World} {K : Value → World → Prop} (x : Operand) (xs : Array Operand) (ts : Array TypeId) (ho : o.op = .call { callee := .value x, args := xs, argTypes := ts }) (g : FuncId) (args : Array Value)
    (hx : a.eval x = .func (.func g) #[] #[]) (ha : xs.map a.eval = args) (hf : (callFunc g args).run P w = .ok (.enter g args) w) (hc : Calls P g args w fun e w' => ∃ u, e = .returned u ∧ K u w') : doneAt P o a w K := by
  unfold doneAt execOp
  simp only [ho, resolve, hx, ha, Deferred.ofValue, Sem.run_bind, Sem.run_pure, Result.andThen_ok, invoke, Array.append_empty, Array.empty_append, hf]
  exact hc
end
end Go.Proofs.Ytghdeedglekphaa

/- In a round of a loop over an iterator, under the wide fence: operations that are no defer statements are carried out as anywhere; so lists of them, and regions whose order is drawn. Condition: nothing is let out. -/
namespace Go.Proofs.Ytghdeedglekphaa
open Go

section
variable {P : Program} {ops : Array Oper} {Q : Exit → Act → World → Prop} {l n : Nat}
theorem upon_round {o : Oper} {a : Act} {K : Act → World → Prop} {r : Result Next} (h : o.upon P a K Q r) : o.uponIn (Fence.wide.inRound l) n P a K Q r := by
  cases r with
  | ok x w' =>
    cases x with
    | value v => exact h
    | skip => exact h
    | defer d => exact h
    | enter f args => exact ⟨fun h => by simp [Fence.wide, Fence.inRound] at h, CallsIn.inRound l (callsIn_wide.2 h)⟩
    | row row args => exact ⟨fun h => by simp [Fence.wide, Fence.inRound] at h, fun c cs _ => let ⟨v, w'', r, s⟩ := h c cs; ⟨v, w'', r, stepsIn_wide.2 s⟩⟩
    | _ => exact h.elim
  | halt x w' => cases x <;> first | exact h | exact h.elim
def noDefer (o : Oper) : Bool := match o.op with | .defer _ => false | _ => true
theorem noDefer_spec {o : Oper} (h : noDefer o = true) : ∀ c, o.op ≠ .defer c := fun c e => by unfold noDefer at h; rw [e] at h; cases h
theorem oper_round {o : Oper} {a : Act} {w : World} {K : Act → World → Prop} (hd : noDefer o = true) (h : o.wp P a w K Q) : o.wpIn (Fence.wide.inRound l) n P a w K Q :=
  ⟨fun _ _ => trivial, by rw [Oper.semAt_eq _ _ _ (noDefer_spec hd)]; exact upon_round h⟩
theorem wpListIn_round (hq : ¬ LetsOut Q) : ∀ (xs : List Oper) (a : Act) (w : World), xs.all noDefer = true → wpList P ops Q xs a w → wpListIn (Fence.wide.inRound l) n P ops Q xs a w
  | [], _, _, _, h => h
  | o :: xs, a, w, hd, h => by
    simp only [List.all_cons, Bool.and_eq_true] at hd
    unfold wpList at h
    unfold wpListIn
    by_cases hw : Region.wanted o (yielded ops a.tmps) = true
    · rw [if_pos hw] at h ⊢
      rcases h with h | ⟨_, h⟩
      · exact Oper.wpIn_mono (fun a' w' h' => wpListIn_round hq xs a' w' hd.2 h') (oper_round hd.1 h)
      · exact absurd h hq
    · rw [if_neg hw] at h ⊢
      exact ⟨fun _ _ => trivial, wpListIn_round hq xs _ _ hd.2 h⟩
theorem wp_of_list {o : Oper} {a a2 : Act} {w w2 : World} {K : Act → World → Prop} {Q : Exit → Act → World → Prop} (hg : o.guard = none) (h : wpList P ops (fun e a' w' => e = .normal ∧ a' = a2 ∧ w' = w2) [o] a w) (hK : K a2 w2) : o.wp P a w K Q := by
  unfold wpList at h
  have hw : Region.wanted o (yielded ops a.tmps) = true := by simp [Region.wanted, hg]
  rw [if_pos hw] at h
  rcases h with h | ⟨_, a', w', h⟩
  · unfold Oper.wp at *
    generalize (execOp a.eval o).run P w = r at *
    cases r with
    | ok x w' =>
      cases x with
      | value v => obtain ⟨_, h1, h2⟩ := (show _ = _ ∧ _ = _ ∧ _ = _ from h); show K _ _; rw [h1, h2]; exact hK
      | skip => obtain ⟨_, h1, h2⟩ := (show _ = _ ∧ _ = _ ∧ _ = _ from h); show K _ _; rw [h1, h2]; exact hK
      | defer d => obtain ⟨_, h1, h2⟩ := (show _ = _ ∧ _ = _ ∧ _ = _ from h); show K _ _; rw [h1, h2]; exact hK
      | enter f args =>
        refine Calls.mono h fun e w'' he => ?_
        cases e with
        | returned v => obtain ⟨_, h1, h2⟩ := (show _ = _ ∧ _ = _ ∧ _ = _ from he); show K _ _; rw [h1, h2]; exact hK
        | panicked c => cases he.1
        | outgrown => obtain ⟨_, _, he⟩ := he; cases he.1
      | row row args =>
        refine Rows.mono h fun v w'' he => ?_
        obtain ⟨_, h1, h2⟩ := (show _ = _ ∧ _ = _ ∧ _ = _ from he); show K _ _; rw [h1, h2]; exact hK
      | _ => exact h.elim
    | halt x w' => cases x <;> first | exact h.elim | cases h.1
  · cases h.1
theorem wpListIn_of_list {F : Fence} {o : Oper} {rest : List Oper} {a a2 : Act} {w w2 : World} (hF : F = Fence.wide.inRound l) (hg : o.guard = none) (hd : noDefer o = true) (h : wpList P ops (fun e a' w' => e = .normal ∧ a' = a2 ∧ w' = w2) [o] a w)
    (hk : wpListIn F n P ops Q rest a2 w2) : wpListIn F n P ops Q (o :: rest) a w := by
  subst hF
  refine wpListIn_plain hg fun K hK => ?_
  exact oper_round hd (wp_of_list hg h (hK _ _ hk))
theorem region_round {id : Nat} {a : Act} {w : World} {xs : List Oper} (hd : xs.all noDefer = true) (hq : ¬ LetsOut Q) (h : wpList P xs.toArray Q xs a w) : (Code.region id xs.toArray false).wpIn (Fence.wide.inRound l) n P Q a w :=
  wpIn_region_lit (wpListIn_round hq xs a w hd h)
theorem wpAnyIn_round {md : Region.Mode} (hd : ∀ o ∈ ops, noDefer o = true) (hq : ¬ LetsOut Q) : ∀ (m : Nat) (L : Array Bool) (a : Act) (w : World), wpAny P md ops Q m L a w → wpAnyIn (Fence.wide.inRound l) n P md ops Q m L a w
  | 0, _, _, _, h => h
  | m + 1, L, a, w, h => ⟨h.1, fun i hi => by
    have := h.2 i hi
    unfold wpOp at this
    unfold wpOpIn
    split at this
    · rename_i hn; simp only [hn]; exact wpAnyIn_round hd hq m _ _ _ this
    · rename_i o ho
      simp only [ho]
      split at this
      · rename_i hw
        rw [if_pos hw]
        rcases this with t | ⟨_, t⟩
        · exact Oper.wpIn_mono (fun a' w' h' => wpAnyIn_round hd hq m _ _ _ h') (oper_round (hd o (Array.mem_of_getElem? ho)) t)
        · exact absurd t hq
      · rename_i hw
        rw [if_neg hw]
        exact ⟨fun _ _ => trivial, wpAnyIn_round hd hq m _ _ _ this⟩⟩
theorem round_class_tail {id : Nat} {a : Act} {w : World} {xs : List Oper} (m : Nat) (C : World → Prop) (hm : P.follows .mixedOrders = true) (hB : Region.lexTailB .any xs.toArray m = true) (hd : xs.all noDefer = true) (hq : ¬ LetsOut Q) (hC : C w.drew)
    (h : wpQuiet P xs.toArray C (fun a' => ∀ w', C w' → wpList P xs.toArray Q (xs.drop m) a' w') (xs.take m) a) : (Code.region id xs.toArray true).wpIn (Fence.wide.inRound l) n P Q a w :=
  wpIn_region_any hm (wpAnyIn_round (fun o ho => List.all_eq_true.1 hd o (by simpa using ho)) hq _ _ _ _ (any_class_tail m C hB hC h))
end
end Go.Proofs.Ytghdeedglekphaa

/- Slices of arrays of bytes that grow by append: where they lie, what they hold, and what an append leaves. Condition: at most 1000 elements. -/
namespace Go.Proofs.Ytghdeedglekphaa
open Go Go.RowKit

def bytesList (n : Nat) (F : Nat → Nat) : List Value := (List.range n).map fun t => Value.int .u8 (F t : Nat)
theorem bytesList_len (n : Nat) (F : Nat → Nat) : (bytesList n F).length = n := by simp [bytesList]
theorem bytesList_get {n : Nat} {F : Nat → Nat} {j : Nat} {u : Value} (h : (bytesList n F)[j]? = some u) : j < n ∧ u = .int .u8 (F j : Nat) := by
  have hj : j < n := by
    rcases Nat.lt_or_ge j (bytesList n F).length with h' | h'
    · rwa [bytesList_len] at h'
    · rw [List.getElem?_eq_none h'] at h; cases h
  refine ⟨hj, ?_⟩
  simp [bytesList, hj] at h
  exact h.symm
theorem bytesList_at {n : Nat} {F : Nat → Nat} {j : Nat} (h : j < n) : (bytesList n F)[j]? = some (.int .u8 (F j : Nat)) := by simp [bytesList, h]
theorem bytesList_one {n : Nat} {F : Nat → Nat} : ∀ u ∈ bytesList n F, u.oneCell' = true := fun u hu => by
  obtain ⟨j, hj⟩ := List.getElem?_of_mem hu
  obtain ⟨_, rfl⟩ := bytesList_get hj
  rfl
theorem bytesList_more (n m : Nat) (F f : Nat → Nat) (h : ∀ j, j < m → f j = F (n + j)) : bytesList n F ++ bytesList m f = bytesList (n + m) F := by
  apply List.ext_getElem?
  intro i
  rcases Nat.lt_or_ge i n with l | l
  · rw [List.getElem?_append_left (by rw [bytesList_len]; exact l), bytesList_at l, bytesList_at (by omega)]
  · rw [List.getElem?_append_right (by rw [bytesList_len]; exact l), bytesList_len]
    rcases Nat.lt_or_ge i (n + m) with l2 | l2
    · rw [bytesList_at (by omega), bytesList_at l2, h _ (by omega), show n + (i - n) = i by omega]
    · rw [List.getElem?_eq_none (by rw [bytesList_len]; omega), List.getElem?_eq_none (by rw [bytesList_len]; omega)]

/-- A slice of k elements, each of sz bytes, in a block between base and top; nil, if there is none. -/
def OwnS (e : TypeId) (sz : Nat) (w : World) (base top : Nat) (v : Value) (k : Nat) (F : Nat → Nat) : Prop :=
  (v = .slice none 0 0 ∧ k = 0) ∨ ∃ B c cur, v = .slice (some ⟨B, 0, none⟩) k c ∧ base ≤ B ∧ B < top ∧ w.heap[B]? = some (.cells cur e (0, 0)) ∧ k ≤ c ∧ c ≤ maxLen ∧ cur.size = c * sz ∧ cur.toList.take (k * sz) = bytesList (k * sz) F
section
variable {e : TypeId} {sz base top : Nat} {v : Value} {k : Nat} {F : Nat → Nat} {w w' : World}
theorem OwnS.nil (e : TypeId) (sz : Nat) (w : World) (base top : Nat) (F : Nat → Nat) : OwnS e sz w base top (.slice none 0 0) 0 F := .inl ⟨rfl, rfl⟩
theorem OwnS.same (h : OwnS e sz w base top v k F) (hb : ∀ B, base ≤ B → B < top → w'.heap[B]? = w.heap[B]?) : OwnS e sz w' base top v k F := by
  rcases h with h | ⟨B, c, cur, h1, h2, h3, h4, h5⟩
  · exact .inl h
  · exact .inr ⟨B, c, cur, h1, h2, h3, by rw [hb B h2 h3]; exact h4, h5⟩
theorem OwnS.raise {top' : Nat} (h : OwnS e sz w base top v k F) (ht : top ≤ top') : OwnS e sz w base top' v k F := by
  rcases h with h | ⟨B, c, cur, h1, h2, h3, h4, h5⟩
  · exact .inl h
  · exact .inr ⟨B, c, cur, h1, h2, by omega, h4, h5⟩
theorem OwnS.owns (h : OwnS e sz w base top v k F) : w.ownsRow base e sz v k (bytesList (k * sz) F) := by
  rcases h with ⟨h1, h2⟩ | ⟨B, c, cur, h1, h2, _, h4, h5, h6, h7, h8⟩
  · subst h2; exact ⟨by rw [bytesList_len], .inl ⟨h1, rfl⟩⟩
  · exact ⟨by rw [bytesList_len], .inr ⟨B, c, cur, h1, h2, h4, h5, h6, h7, h8⟩⟩
theorem OwnS.of_owns (h : w.ownsRow base e sz v k (bytesList (k * sz) F)) : OwnS e sz w base w.heap.size v k F := by
  obtain ⟨_, h1 | ⟨B, c, cur, h1, h2, h4, h5⟩⟩ := h
  · exact .inl h1
  · exact .inr ⟨B, c, cur, h1, h2, (Array.getElem?_eq_some_iff.1 h4).1, h4, h5⟩
theorem OwnS.cells (h : OwnS e sz w base top v k F) (hk : k ≠ 0) : ∃ B c, v = .slice (some ⟨B, 0, none⟩) k c ∧ base ≤ B ∧ B < top ∧ Cells w B 0 (k * sz) F := by
  rcases h with ⟨_, h0⟩ | ⟨B, c, cur, h1, h2, h3, h4, _, _, _, h8⟩
  · exact absurd h0 hk
  · refine ⟨B, c, h1, h2, h3, fun j hj => ?_⟩
    rw [Nat.zero_add, cell_of_row w B j cur _ (0, 0) h4]
    have := bytesList_at (n := k * sz) (F := F) hj
    rw [← h8, List.getElem?_take_of_lt hj] at this
    simpa using this
theorem OwnS.block (h : OwnS e sz w base top v k F) : ∀ B, v.ownBlock = some B → base ≤ B := by
  rcases h with ⟨h1, _⟩ | ⟨B, c, cur, h1, h2, _⟩
  · subst h1; intro B hB; simp [Value.ownBlock] at hB
  · subst h1; intro B' hB; simp [Value.ownBlock] at hB; omega
theorem below_own {row : Option Nat} (h : w.grownBy w' row) (hr : ∀ B, row = some B → base ≤ B) (hb : base ≤ w.heap.size) : Below base w w' :=
  ⟨h.os, h.tape, h.output, h.size, fun i hi => h.block i (by omega) (fun e => by have := hr i e.symm; omega)⟩
end
theorem wpList_append_one {P : Program} {ops : Array Oper} {rest : List Oper} {o : Oper} {a : Act} {w : World} {Q : Exit → Act → World → Prop} (hgd : o.guard = none) (s x : Operand) (t e : TypeId) (sz : Nat) (hs0 : 0 < sz) (hs1 : sz ≤ 16)
    (ho : o.op = .call { callee := .builtin .append, args := #[s, x], argTypes := #[t, t] }) (hu : P.underlying t = some (.slice e)) (hi : (P.info? e).map (·.size) = some sz) (hb : (P.info? e).map (·.bytes) = some sz)
    (hz : (P.info? e).bind (·.zero) = some (.agg (cellsOf .u8 (mk sz zeroK)))) (base top k c : Nat) (v : Value) (F f : Nat → Nat) (D : Nat) (hs : a.eval s = v) (hx : a.eval x = .slice (some ⟨D, 0, none⟩) 1 c)
    (hv : OwnS e sz w base top v k F) (hc : Cells w D 0 sz f) (hf : ∀ j, j < sz → f j = F (k * sz + j)) (hk : k ≤ 1000) (hbase : base ≤ w.heap.size)
    (h : ∀ v' w', OwnS e sz w' base w'.heap.size v' (k + 1) F → Below base w w' → wpList P ops Q rest (a.put o.dst v') w') : wpList P ops Q (o :: rest) a w := by
  cases hq : P.info? e with
  | none => rw [hq] at hi; simp at hi
  | some i =>
    rw [hq] at hi hb hz
    have hsz : i.size = sz := by simpa using hi
    have hzz : i.zero = some (.agg (cellsOf .u8 (mk sz zeroK))) := by simpa using hz
    have hby : i.bytes = sz := by simpa using hb
    obtain ⟨v', w', hrun, r1, r2, _⟩ := run_append_own (P := P) w base t o.type e i (.agg (cellsOf .u8 (mk sz zeroK))) sz sz hu hq hzz hsz hby (by show (cellsOf .u8 (mk sz zeroK)).size = sz; rw [cellsOf_size, mk_len]) hs0
      v k (bytesList (k * sz) F) hv.owns ⟨D, 0, none⟩ 1 c (bytesList sz f) (by rw [bytesList_len, Nat.one_mul]) (fun j u hj => by
        obtain ⟨hj1, rfl⟩ := bytesList_get hj
        rw [addr_add]; exact hc j hj1) bytesList_one (by simp only [maxLen]; omega) (by
          have : (k + 1) * sz ≤ 1001 * 16 := Nat.mul_le_mul (by omega) hs1
          omega) hbase
    rw [bytesList_more (k * sz) sz F f hf, ← Nat.succ_mul] at r1
    refine wpList_plain hgd fun K hK => ?_
    unfold Oper.wp
    simp [execOp, ho, resolve, invoke, builtin, hs, hx, hrun, Result.andThen]
    exact hK _ _ (h v' w' (OwnS.of_owns r1) (below_own r2 hv.block hbase))
end Go.Proofs.Ytghdeedglekphaa

/- Slices of bytes that grow by append, whatever is behind them; bytes out of them. Condition: no more than 100000 bytes. -/
namespace Go.Proofs.Ytghdeedglekphaa
open Go.ChangeShapes Go.WideShapes Go.ChangeAt Go.RowKit

section
variable {base top : Nat} {v : Value} {k : Nat} {F : Nat → Nat} {w w' : World}
theorem OwnS.bytes (h : OwnS 5 1 w base top v k F) (ht : top ≤ w.heap.size) : ∃ p c, v = .slice p k c ∧ k ≤ c ∧ c ≤ maxLen ∧ BytesAt w p k F ∧ ∀ B o, p = some ⟨B, o, none⟩ → base ≤ B ∧ B < top := by
  rcases h with ⟨h1, h2⟩ | ⟨B, c, cur, h1, h2, h3, h4, h5, h6, h7, h8⟩
  · subst h2; exact ⟨none, 0, h1, Nat.le_refl _, Nat.zero_le _, .inl rfl, fun B o e => by cases e⟩
  · refine ⟨some ⟨B, 0, none⟩, c, h1, h5, h6, .inr ⟨B, 0, rfl, by omega, fun j hj => ?_⟩, fun B' o e => by simp only [Option.some.injEq, Addr.mk.injEq, and_true] at e; omega⟩
    rw [Nat.zero_add, cell_of_row w B j cur _ (0, 0) h4]
    have := bytesList_at (n := k * 1) (F := F) (j := j) (by omega)
    rw [← h8, List.getElem?_take_of_lt (by omega)] at this
    simpa using this
theorem OwnS.empty (w : World) (F : Nat → Nat) (base : Nat) (hb : base ≤ w.heap.size) : OwnS 5 1 (w.alloc (.cells (cellsOf .u8 []) 5)) base (w.heap.size + 1) (.slice (some ⟨w.heap.size, 0, none⟩) 0 0) 0 F :=
  .inr ⟨w.heap.size, 0, cellsOf .u8 [], rfl, hb, by omega, heap_alloc_new _ _, Nat.le_refl _, Nat.zero_le _, rfl, rfl⟩
theorem OwnS.one (w : World) (F : Nat → Nat) (base b : Nat) (hb : base ≤ w.heap.size) (hF : F 0 = b) : OwnS 5 1 (w.alloc (.cells (cellsOf .u8 [(b : Int)]) 5)) base (w.heap.size + 1) (.slice (some ⟨w.heap.size, 0, none⟩) 1 1) 1 F :=
  .inr ⟨w.heap.size, 1, cellsOf .u8 [(b : Int)], rfl, hb, by omega, heap_alloc_new _ _, Nat.le_refl _, by decide, rfl, by subst hF; rfl⟩
theorem OwnS.congr {F' : Nat → Nat} (h : OwnS 5 1 w base top v k F) (hf : ∀ j, j < k → F j = F' j) : OwnS 5 1 w base top v k F' := by
  rcases h with h | ⟨B, c, cur, h1, h2, h3, h4, h5, h6, h7, h8⟩
  · exact .inl h
  · refine .inr ⟨B, c, cur, h1, h2, h3, h4, h5, h6, h7, ?_⟩
    rw [h8]; unfold bytesList
    exact List.map_congr_left fun t ht => by rw [hf t (by have := List.mem_range.1 ht; omega)]
end
theorem wpList_append_own_bytes {ops : Array Oper} {rest : List Oper} {o : Oper} {a : Act} {w : World} {Q : Exit → Act → World → Prop} (hgd : o.guard = none) (s x : Operand)
    (ho : o.op = .call { callee := .builtin .append, args := #[s, x], argTypes := #[22, 22] }) (base top k : Nat) (v : Value) (F f : Nat → Nat) (p : Option Addr) (n cap : Nat) (hs : a.eval s = v) (hx : a.eval x = .slice p n cap)
    (hv : OwnS 5 1 w base top v k F) (hp : BytesAt w p n f) (hf : ∀ j, j < n → f j = F (k + j)) (hk : k + n ≤ 100000) (hbase : base ≤ w.heap.size)
    (h : ∀ v' w', OwnS 5 1 w' base w'.heap.size v' (k + n) F → Below base w w' → wpList Try.prog ops Q rest (a.put o.dst v') w') : wpList Try.prog ops Q (o :: rest) a w := by
  have hi := byteInfo
  have hz := byteZero1
  have hb := byteBytes1
  cases hq : Try.prog.info? 5 with
  | none => rw [hq] at hi; simp at hi
  | some i =>
    rw [hq] at hi hb hz
    have hsz : i.size = 1 := by simpa using hi
    have hzz : i.zero = some (.int .u8 0) := by simpa using hz
    have hby : i.bytes = 1 := by simpa using hb
    by_cases h0 : n = 0
    · subst h0
      have hsrc : Src Try.prog i.size 22 (.slice p 0 cap) 0 [] w := by
        cases p with
        | none => exact Src.ofNil w bytesUnder cap
        | some ad => exact Src.ofSlice w bytesUnder ad 0 cap [] (by simp) (fun j u hu => by simp at hu) (fun u hu => by cases hu)
      refine wpList_plain hgd fun K hK => ?_
      obtain ⟨q, c, rfl, hc⟩ : ∃ q c, v = .slice q k c ∧ k ≤ c := by
        rcases hv with ⟨h1, h2⟩ | ⟨B, c, cur, h1, _, _, _, h5, _⟩
        · subst h2; exact ⟨none, 0, h1, Nat.le_refl _⟩
        · exact ⟨_, c, h1, h5⟩
      have hrun := run_append_nothing (P := Try.prog) w 22 22 o.type 5 i bytesUnder hq q k c hc (.slice p 0 cap) hsrc
      unfold Oper.wp
      simp [execOp, ho, resolve, invoke, builtin, hs, hx, hrun, Result.andThen]
      exact hK _ _ (h _ w (OwnS.of_owns hv.owns) (Below.refl _ _))
    · rcases hp with hp | ⟨B, off, rfl, hB, hc⟩
      · exact absurd hp h0
      · obtain ⟨v', w', hrun, r1, r2, _⟩ := run_append_own (P := Try.prog) w base 22 o.type 5 i (.int .u8 0) 1 1 bytesUnder hq hzz hsz hby rfl (by omega)
          v k (bytesList (k * 1) F) hv.owns ⟨B, off, none⟩ n cap (bytesList n f) (by rw [bytesList_len, Nat.mul_one]) (fun j u hj => by
            obtain ⟨hj1, rfl⟩ := bytesList_get hj
            rw [addr_add]; exact hc j hj1) bytesList_one (by simp only [maxLen]; omega) (by omega) hbase
        rw [bytesList_more (k * 1) n F f (fun j hj => by rw [Nat.mul_one]; exact hf j hj), show k * 1 + n = (k + n) * 1 by omega] at r1
        refine wpList_plain hgd fun K hK => ?_
        unfold Oper.wp
        simp [execOp, ho, resolve, invoke, builtin, hs, hx, hrun, Result.andThen]
        exact hK _ _ (h v' w' (OwnS.of_owns r1) (below_own r2 hv.block hbase))
end Go.Proofs.Ytghdeedglekphaa

/- Slices of bytes: made with room, filled by append, marked, turned to strings. No condition. -/
namespace Go.Proofs.Ytghdeedglekphaa
open Go.ChangeShapes Go.WideShapes Go.ChangeAt Go.RowKit

theorem stringUnder1 : Try.prog.underlying 9 = some .string := Try.underlying9
/-- n bytes, the two marks behind. -/
def markF (n : Nat) (g : Nat → Nat) : Nat → Nat := fun j => if j < n then g j else if j = n then 165 else 90
theorem markF_low (n : Nat) (g : Nat → Nat) {j : Nat} (h : j < n) : markF n g j = g j := if_pos h
theorem BytesAt.low {w : World} {D n m : Nat} {g : Nat → Nat} (h : BytesAt w (some ⟨D, 0, none⟩) m (markF n g)) (hm : m = n + 2) : BytesAt w (some ⟨D, 0, none⟩) n g := by
  subst hm
  rcases h with h | ⟨B, o, hp, hB, hc⟩
  · omega
  · exact .inr ⟨B, o, hp, hB, fun j hj => by rw [hc j (by omega), markF_low n g hj]⟩
theorem BytesAt.cell {w : World} {D m : Nat} {f : Nat → Nat} (h : BytesAt w (some ⟨D, 0, none⟩) m f) {j : Nat} (hj : j < m) : w.cell? ⟨D, j, none⟩ = some (.int .u8 (f j : Nat)) := by
  rcases h with h | ⟨B, o, hp, hB, hc⟩
  · omega
  · simp only [Option.some.injEq, Addr.mk.injEq, and_true] at hp
    obtain ⟨rfl, rfl⟩ := hp
    have := hc j hj
    rwa [Nat.zero_add] at this
theorem bytesAt_owns {w' : World} {base n m D : Nat} {f : Nat → Nat} (h : w'.ownsRow base 5 1 (.slice (some ⟨D, 0, none⟩) n m) n (bytesList n f)) : BytesAt w' (some ⟨D, 0, none⟩) n f := by
  by_cases h0 : n = 0
  · exact .inl h0
  obtain ⟨_, ⟨h1, _⟩ | ⟨g, c, cur, h1, _, hg, hnc, _, hsz, ht⟩⟩ := h
  · cases h1
  · simp only [Value.slice.injEq, Option.some.injEq, Addr.mk.injEq, and_true, true_and] at h1
    obtain ⟨rfl, rfl⟩ := h1
    refine .inr ⟨D, 0, rfl, (Array.getElem?_eq_some_iff.1 hg).1, fun j hj => ?_⟩
    rw [Nat.zero_add, cell_of_row w' D _ cur _ (0, 0) hg]
    have := bytesList_at (n := n) (F := f) hj
    rw [← ht, List.getElem?_take_of_lt (by omega)] at this
    simpa using this
theorem owns_same {w w' : World} {base : Nat} {e : TypeId} {size n D m : Nat} {xs : List Value} (h : w.ownsRow base e size (.slice (some ⟨D, 0, none⟩) n m) n xs) (hb : w'.heap[D]? = w.heap[D]?) : w'.ownsRow base e size (.slice (some ⟨D, 0, none⟩) n m) n xs := by
  refine ⟨h.1, ?_⟩
  rcases h.2 with ⟨h1, _⟩ | ⟨g, c, cur, h1, h2, hg, h3⟩
  · cases h1
  · have e1 := h1
    simp only [Value.slice.injEq, Option.some.injEq, Addr.mk.injEq, and_true, true_and] at e1
    obtain ⟨e2, e3⟩ := e1
    subst e2 e3
    exact .inr ⟨_, _, cur, h1, h2, by rw [hb]; exact hg, h3⟩
theorem owns_lt {w : World} {base : Nat} {e : TypeId} {size n D m : Nat} {xs : List Value} (h : w.ownsRow base e size (.slice (some ⟨D, 0, none⟩) n m) n xs) : D < w.heap.size := by
  rcases h.2 with ⟨h1, _⟩ | ⟨g, c, cur, h1, h2, hg, h3⟩
  · cases h1
  · simp only [Value.slice.injEq, Option.some.injEq, Addr.mk.injEq, and_true, true_and] at h1
    obtain ⟨rfl, rfl⟩ := h1
    exact (Array.getElem?_eq_some_iff.1 hg).1
section
variable {ops : Array Oper} {rest : List Oper} {o : Oper} {a : Act} {w : World} {Q : Exit → Act → World → Prop}
theorem wpList_make_bytes (hgd : o.guard = none) (x y : Operand) (ho : o.op = .makeSlice 22 x y) (m : Nat) (hm : m ≤ 100000) (hx : a.eval x = .int .i64 0) (hy : a.eval y = .int .i64 m)
    (h : ∀ w', w'.ownsRow w.heap.size 5 1 (.slice (some ⟨w.heap.size, 0, none⟩) 0 m) 0 [] → w.grownBy w' none → wpList Try.prog ops Q rest (a.put o.dst (.slice (some ⟨w.heap.size, 0, none⟩) 0 m)) w') : wpList Try.prog ops Q (o :: rest) a w := by
  have hi := byteInfo
  have hz := byteZero1
  have hb := byteBytes1
  cases hq : Try.prog.info? 5 with
  | none => rw [hq] at hi; simp at hi
  | some i =>
    rw [hq] at hi hz hb
    have hsz : i.size = 1 := by simpa using hi
    have hzz : i.zero = some (.int .u8 0) := by simpa using hz
    have hby : i.bytes = 1 := by simpa using hb
    exact wpList_make_own w hgd x y 22 ho w.heap.size 5 i (.int .u8 0) 1 bytesUnder hq hzz hsz .i64 .i64 m m hx hy rfl (by rw [hby]; omega) (by simp only [maxLen]; omega) (Nat.le_refl _) h
theorem wpList_append_bytes (hgd : o.guard = none) (s x : Operand) (ho : o.op = .call { callee := .builtin .append, args := #[s, x], argTypes := #[22, 22] })
    (base D m k : Nat) (xs : List Value) (hs : a.eval s = .slice (some ⟨D, 0, none⟩) k m) (hown : w.ownsRow base 5 1 (.slice (some ⟨D, 0, none⟩) k m) k xs) (p : Option Addr) (n cap : Nat) (hx : a.eval x = .slice p n cap) (g : Nat → Nat) (hp : BytesAt w p n g) (hroom : k + n ≤ m)
    (h : ∀ w', w'.ownsRow base 5 1 (.slice (some ⟨D, 0, none⟩) (k + n) m) (k + n) (xs ++ bytesList n g) → w.grownBy w' (some D) → wpList Try.prog ops Q rest (a.put o.dst (.slice (some ⟨D, 0, none⟩) (k + n) m)) w') : wpList Try.prog ops Q (o :: rest) a w := by
  have hi := byteInfo
  cases hq : Try.prog.info? 5 with
  | none => rw [hq] at hi; simp at hi
  | some i =>
    rw [hq] at hi
    have hsz : i.size = 1 := by simpa using hi
    by_cases h0 : n = 0
    · subst h0
      have hsrc : Src Try.prog i.size 22 (.slice p 0 cap) 0 [] w := by
        cases p with
        | none => exact Src.ofNil w bytesUnder cap
        | some ad => exact Src.ofSlice w bytesUnder ad 0 cap [] (by simp) (fun j u hu => by simp at hu) (fun u hu => by cases hu)
      refine wpList_plain hgd fun K hK => ?_
      have hrun := run_append_nothing (P := Try.prog) w 22 22 o.type 5 i bytesUnder hq (some ⟨D, 0, none⟩) k m (by omega) (.slice p 0 cap) hsrc
      unfold Oper.wp
      simp [execOp, ho, resolve, invoke, builtin, hs, hx, hrun, Result.andThen]
      exact hK _ _ (h w (by simpa [bytesList] using hown) (World.grownBy.refl _ _))
    · rcases hp with hp | ⟨B, off, rfl, hB, hc⟩
      · exact absurd hp h0
      · refine wpList_append_fits w hgd s x 22 ho base 5 i 1 bytesUnder hq hsz D k m xs hs hown ⟨B, off, none⟩ n cap (bytesList n g) hx (by rw [bytesList_len, Nat.mul_one]) (fun j u hj => ?_) bytesList_one hroom h
        obtain ⟨hj1, rfl⟩ := bytesList_get hj
        rw [addr_add]; exact hc j hj1
theorem wpList_marks (hgd : o.guard = none) (ho : o.op = .buildSlice 22 2 #[(0, .const (.int .u8 165)), (1, .const (.int .u8 90))])
    (h : wpList Try.prog ops Q rest (a.put o.dst (.slice (some ⟨w.heap.size, 0, none⟩) 2 2)) (w.alloc (.cells (cellsOf .u8 [165, 90]) 5))) : wpList Try.prog ops Q (o :: rest) a w :=
  wpList_buildFlat hgd 22 5 2 _ ho .u8 [165, 90] bytesUnder byteInfo (by rw [byteZero1]; rfl) rfl (by omega) (by omega) rfl h
/-- A string of bytes. -/
theorem wpList_string (hgd : o.guard = none) (x : Operand) (ho : o.op = .convert 22 9 x) (p : Option Addr) (n cap : Nat) (hx : a.eval x = .slice p n cap) (g : Nat → Nat) (hp : BytesAt w p n g)
    (h : wpList Try.prog ops Q rest (a.put o.dst (.string (strOfNums (mk n g)))) w) : wpList Try.prog ops Q (o :: rest) a w := by
  have hr : (convert 22 9 (.slice p n cap)).run Try.prog w = .ok (.string (strOfNums (mk n g))) w := by
    by_cases h0 : n = 0
    · subst h0
      rw [run_convert_bytes_string w _ _ 5 p 0 cap bytesUnder byteUnder1 stringUnder1]
      cases p with
      | none => rfl
      | some ad =>
        rw [run_bytesToString w ad 0 cap [] (by simpa using run_loadCells_list (P := Try.prog) w ad [] (fun j v hj => by simp at hj))]
        rfl
    · rcases hp with hp | ⟨B, off, rfl, hB, hc⟩
      · exact absurd hp h0
      · exact run_convert_bytes_arg w _ 5 bytesUnder byteUnder1 B off n cap (mk n g) (mk_len n g) (fun i hi => by rw [mk_get hi]; exact hc i hi) _ stringUnder1
  refine wpList_plain hgd fun K hK => ?_
  unfold Oper.wp execOp
  simp only [ho]
  simp [hx, hr]
  exact hK _ _ h
end
theorem marks_at (w : World) : BytesAt (w.alloc (.cells (cellsOf .u8 [165, 90]) 5)) (some ⟨w.heap.size, 0, none⟩) 2 (fun j => if j = 0 then 165 else 90) := by
  have e : ([165, 90] : List Int) = mk 2 (fun j => if j = 0 then 165 else 90) := rfl
  rw [e]
  exact .inr ⟨_, 0, rfl, by rw [World.size_alloc]; omega, by
    have h := (IntBlk.new w .u8 5 (mk 2 (fun j => if j = 0 then 165 else 90))).cells (o := 0) (n := 2) (by omega)
    simp only [Nat.zero_add] at h
    exact h⟩
theorem marked (n : Nat) (g : Nat → Nat) : bytesList n g ++ bytesList 2 (fun j => if j = 0 then 165 else 90) = bytesList (n + 2) (markF n g) := by
  have e : bytesList n g = bytesList n (markF n g) := by
    unfold bytesList
    refine List.map_congr_left fun t ht => ?_
    rw [markF_low n g (List.mem_range.1 ht)]
  rw [e]
  refine bytesList_more n 2 _ _ fun j hj => ?_
  rcases (show j = 0 ∨ j = 1 by omega) with rfl | rfl
  · simp [markF]
  · unfold markF; rw [if_neg (show ¬ (n + 1 < n) by omega), if_neg (show ¬ (n + 1 = n) by omega)]; rfl
end Go.Proofs.Ytghdeedglekphaa

/- How long a slice of bytes that comes in is at the most: by the form's own reach. No condition. -/
namespace Go.Proofs.Ytghdeedglekphaa
open Go.ChangeShapes Go.WideShapes Go.ChangeAt Go.RowKit

theorem open_size {H : Type} {enc : TypeId × Value → H} {W : World} {base : Nat} {spare : Nat → Bool} {held : Bool} {q : Option Addr} {n cap : Nat} {d : DataW H} {p : List MemPlace} (h : DataW.Trod enc Try.prog W base spare held 22 (.slice q n cap) d p)
    {ts : List TypeId} {ds : List (DataW H)} (hz : (DataW.weightsEach Try.prog ts ds).all (· ≤ reachBytes) = true) {j : Nat} (ht : ts[j]? = some 22) (hd : ds[j]? = some d) : n ≤ 140737488351232 := by
  have ck : Try.prog.cellsOf 5 = 1 := by kernel_rfl
  have cb : Try.prog.bytesOf 5 = 1 := by kernel_rfl
  obtain ⟨fuel, hf⟩ := h
  have hc : (Value.cells (.slice q n cap)).toList = [.slice q n cap] := rfl
  rw [hc] at hf
  rcases Deep.open_slice1 bytesUnder ck hf with ⟨h0, _⟩ | ⟨a, len, cap', m, k, V, D, Pl, h0, _, hl, _, hm, hx, _⟩
  · simp only [List.cons.injEq, Value.slice.injEq, and_true] at h0
    omega
  · simp only [List.cons.injEq, Value.slice.injEq, and_true] at h0
    obtain ⟨_, rfl, rfl⟩ := h0
    simp only [Prod.mk.injEq] at hx
    rw [hx.1] at hd
    have := sized_slice hz ht hd bytesUnder
    rw [cb, Nat.mul_one, List.length_map, List.length_range] at this
    exact Nat.le_trans (Nat.le_add_right _ _) this
end Go.Proofs.Ytghdeedglekphaa

/- Plain mathematics of the substitution of bytes: rotations, the substitution and its way back, as the code reckons them and as the document's answer does, bit by bit. Condition: the bytes are bytes. -/
namespace Go.Proofs.Ytghdeedglekphaa
open Go

/-- A byte rotated by so many bits to the left. -/
def rot (n k : Nat) : Nat := n * 2 ^ k % 256 + n / 2 ^ (8 - k)
def spr (n : Nat) : Nat := n ^^^ rot n 1 ^^^ rot n 2 ^^^ rot n 3 ^^^ rot n 4
def gat (n : Nat) : Nat := rot n 1 ^^^ rot n 3 ^^^ rot n 6
def subN (n : Nat) : Nat := spr (inv n) ^^^ 99
def backN (n : Nat) : Nat := inv (gat (n ^^^ 99))

theorem rot_lt {n k : Nat} (h : n < 256) (hk : k < 8) : rot n k < 256 := by
  have t : ∀ n : Fin 256, ∀ k : Fin 8, rot n.val k.val < 256 := by decide +kernel
  exact t ⟨n, h⟩ ⟨k, hk⟩
theorem rot_or {n k : Nat} (h : n < 256) (hk : k < 8) : (n * 2 ^ k % 256) ||| (n / 2 ^ (8 - k)) = rot n k := by
  have t : ∀ n : Fin 256, ∀ k : Fin 8, (n.val * 2 ^ k.val % 256) ||| (n.val / 2 ^ (8 - k.val)) = rot n.val k.val := by decide +kernel
  exact t ⟨n, h⟩ ⟨k, hk⟩
theorem spr_lt {n : Nat} (h : n < 256) : spr n < 256 := xor_lt (xor_lt (xor_lt (xor_lt h (rot_lt h (by omega))) (rot_lt h (by omega))) (rot_lt h (by omega))) (rot_lt h (by omega))
theorem gat_lt {n : Nat} (h : n < 256) : gat n < 256 := xor_lt (xor_lt (rot_lt h (by omega)) (rot_lt h (by omega))) (rot_lt h (by omega))
theorem subN_lt {n : Nat} (h : n < 256) : subN n < 256 := xor_lt (spr_lt (inv_lt h)) (by omega)
theorem backN_lt {n : Nat} (h : n < 256) : backN n < 256 := inv_lt (gat_lt (xor_lt h (by omega)))

theorem sub_all : ∀ n : Fin 256, backN (subN n.val) = n.val ∧ subN (backN n.val) = n.val ∧ subN n.val ≠ n.val ∧ subN n.val ≠ 255 - n.val := by decide +kernel
theorem back_sub {n : Nat} (h : n < 256) : backN (subN n) = n := (sub_all ⟨n, h⟩).1
theorem sub_back {n : Nat} (h : n < 256) : subN (backN n) = n := (sub_all ⟨n, h⟩).2.1

/-! ### The document's answer, bit by bit -/
def refBit (v i : Nat) : Nat := bt v i + bt v ((i + 4) % 8) + bt v ((i + 5) % 8) + bt v ((i + 6) % 8) + bt v ((i + 7) % 8) + bt 99 i
theorem refBit_step {v m : Nat} (h : v < 256) (hm : m < 8) : 2 * ((spr v ^^^ 99) / 2 ^ (m + 1)) + refBit v m % 2 = (spr v ^^^ 99) / 2 ^ m := by
  have t : ∀ v : Fin 256, ∀ m : Fin 8, 2 * ((spr v.val ^^^ 99) / 2 ^ (m.val + 1)) + refBit v.val m.val % 2 = (spr v.val ^^^ 99) / 2 ^ m.val := by decide +kernel
  exact t ⟨v, h⟩ ⟨m, hm⟩

/-! ### The same on Go's integers -/
def rotI (b : Int) (k : Nat) : Int := (rot b.toNat k : Nat)
def sprI (b : Int) : Int := (spr b.toNat : Nat)
def gatI (b : Int) : Int := (gat b.toNat : Nat)
def subI (b : Int) : Int := (subN b.toNat : Nat)
def backI (b : Int) : Int := (backN b.toNat : Nat)
theorem rotI_bd {b : Int} {k : Nat} (h1 : b ≤ 255) (hk : k < 8) : 0 ≤ rotI b k ∧ rotI b k ≤ 255 := by
  have := rot_lt (n := b.toNat) (k := k) (by omega) hk; unfold rotI; omega
theorem sprI_bd {b : Int} (h1 : b ≤ 255) : 0 ≤ sprI b ∧ sprI b ≤ 255 := by
  have := spr_lt (n := b.toNat) (by omega); unfold sprI; omega
theorem gatI_bd {b : Int} (h1 : b ≤ 255) : 0 ≤ gatI b ∧ gatI b ≤ 255 := by
  have := gat_lt (n := b.toNat) (by omega); unfold gatI; omega
theorem subI_bd {b : Int} (h1 : b ≤ 255) : 0 ≤ subI b ∧ subI b ≤ 255 := by
  have := subN_lt (n := b.toNat) (by omega); unfold subI; omega
theorem backI_bd {b : Int} (h1 : b ≤ 255) : 0 ≤ backI b ∧ backI b ≤ 255 := by
  have := backN_lt (n := b.toNat) (by omega); unfold backI; omega
theorem subI_nat (n : Nat) : subI n = (subN n : Nat) := rfl
theorem backI_nat (n : Nat) : backI n = (backN n : Nat) := rfl
theorem rotI_or {b : Int} {k : Nat} (h0 : 0 ≤ b) (h1 : b ≤ 255) (hk : k < 8) {x y : Int} (hx : x = b * (2 ^ k : Nat) % 256) (hy : y = b / (2 ^ (8 - k) : Nat)) : bits .or .u8 x y = rotI b k := by
  have e := rot_or (n := b.toNat) (k := k) (by omega) hk
  have p : 0 < 2 ^ (8 - k) := Nat.pow_pos (by omega)
  have d : b.toNat / 2 ^ (8 - k) < 256 := Nat.lt_of_le_of_lt (Nat.div_le_self _ _) (by omega)
  have := bits_or_u8 (x := b.toNat * 2 ^ k % 256) (y := b.toNat / 2 ^ (8 - k)) (by omega) d
  unfold rotI; rw [← e, ← this]
  subst hx hy
  congr 1
  · rw [Int.natCast_emod, Int.natCast_mul, Int.toNat_of_nonneg h0]; rfl
  · rw [Int.natCast_ediv, Int.toNat_of_nonneg h0]
theorem backI_subI {b : Int} (h0 : 0 ≤ b) (h1 : b ≤ 255) : backI (subI b) = b := by
  unfold backI subI; rw [Int.toNat_natCast, back_sub (by omega)]; omega
theorem subI_backI {b : Int} (h0 : 0 ≤ b) (h1 : b ≤ 255) : subI (backI b) = b := by
  unfold backI subI; rw [Int.toNat_natCast, sub_back (by omega)]; omega
theorem subI_ne {b : Int} (h0 : 0 ≤ b) (h1 : b ≤ 255) : subI b ≠ b ∧ subI b ≠ 255 - b := by
  have t := sub_all ⟨b.toNat, by omega⟩
  simp only at t
  unfold subI; omega
/-- The steps in which the code reckons the substitution. -/
theorem sprI_step (b : Int) : sprI b = xorI (xorI (xorI (xorI b (rotI b 1)) (rotI b 2)) (rotI b 3)) (rotI b 4) := by
  unfold sprI xorI rotI spr; simp only [Int.toNat_natCast]
theorem gatI_step (b : Int) : gatI b = xorI (xorI (rotI b 1) (rotI b 3)) (rotI b 6) := by
  unfold gatI xorI rotI gat; simp only [Int.toNat_natCast]
theorem subI_step (b : Int) : subI b = xorI (sprI (invI b)) 99 := by
  unfold subI xorI sprI invI subN; simp only [Int.toNat_natCast]; rfl
theorem backI_step (b : Int) : backI b = invI (gatI (xorI b 99)) := by
  unfold backI xorI gatI invI backN; simp only [Int.toNat_natCast]; rfl
end Go.Proofs.Ytghdeedglekphaa

/- Plain mathematics of the document's own doubling: 129 bits, the four lowest turned, and bytes made of them; it is the doubling that the code reckons. Condition: the bytes are bytes. -/
namespace Go.Proofs.Ytghdeedglekphaa
open Go

/-- Bit j of a key times x. -/
def pv (f : Nat → Nat) (j : Nat) : Nat := if j = 0 then 0 else bt (f ((j - 1) / 8)) ((j - 1) % 8)
def pTo (f : Nat → Nat) (i : Nat) : Nat → Nat := fun j => if j ≤ i then pv f j else 0
theorem pv_lt (f : Nat → Nat) (j : Nat) : pv f j < 2 := by unfold pv; split; omega; exact bt_lt _ _
theorem pTo_start (f : Nat → Nat) : mk 129 (pTo f 0) = mk 129 zeroK := mk_ext fun j _ => by
  unfold pTo pv zeroK
  by_cases e : j = 0
  · subst e; simp
  · rw [if_neg (by omega)]
theorem pTo_end (f : Nat → Nat) : mk 129 (pTo f 128) = mk 129 (pv f) := mk_ext fun j _ => by unfold pTo; rw [if_pos (by omega)]
theorem pTo_step (f : Nat → Nat) (i : Nat) : (mk 129 (pTo f i)).set (i + 1) (pv f (i + 1) : Int) = mk 129 (pTo f (i + 1)) := by
  refine mk_set_is rfl fun j _ => ?_
  unfold pTo
  by_cases e : j = i + 1
  · subst e; rw [if_pos rfl, if_pos (by omega)]
  · rw [if_neg e]
    by_cases l : j ≤ i
    · rw [if_pos l, if_pos (by omega)]
    · rw [if_neg l, if_neg (by omega)]
theorem pv_bit (f : Nat → Nat) (i : Nat) : bt (f (i / 8)) (i % 8) = pv f (i + 1) := by unfold pv; rw [if_neg (by omega)]; rfl
theorem pv_top {f : Nat → Nat} (h : IsKey f) : pv f 128 = f 15 / 128 := by
  have := h 15 (by omega)
  unfold pv bt; rw [if_neg (by omega)]
  show f 15 / 2 ^ 7 % 2 = _
  omega
/-- The four lowest powers of the field's own polynomial, the first n of them turned. -/
def four (n : Nat) : Nat := if n = 0 then 0 else if n = 1 then 1 else if n = 2 then 2 else 7
def turned (f : Nat → Nat) (n : Nat) : Nat → Nat := fun j => if (0 < n ∧ j = 0) ∨ (1 < n ∧ j = 1) ∨ (2 < n ∧ j = 2) ∨ (3 < n ∧ j = 7) then 1 - pv f j else pv f j
theorem turned_start (f : Nat → Nat) : mk 129 (turned f 0) = mk 129 (pv f) := mk_ext fun j _ => by unfold turned; rw [if_neg (by omega)]
theorem turned_lt (f : Nat → Nat) (n j : Nat) : turned f n j < 2 := by have := pv_lt f j; unfold turned; split <;> omega
theorem turned_at (f : Nat → Nat) {n : Nat} (h : n < 4) : turned f n (four n) = pv f (four n) := by
  unfold turned; rw [if_neg]
  rcases (show n = 0 ∨ n = 1 ∨ n = 2 ∨ n = 3 by omega) with rfl | rfl | rfl | rfl <;> decide
theorem turned_step (f : Nat → Nat) {n : Nat} (h : n < 4) : (mk 129 (turned f n)).set (four n) (1 - (pv f (four n) : Int)) = mk 129 (turned f (n + 1)) := by
  have hp := pv_lt f (four n)
  refine mk_set_is (v := 1 - pv f (four n)) (by omega) fun j _ => ?_
  unfold turned
  rcases (show n = 0 ∨ n = 1 ∨ n = 2 ∨ n = 3 by omega) with rfl | rfl | rfl | rfl <;> simp only [four] <;> by_cases e0 : j = 0 <;> by_cases e1 : j = 1 <;> by_cases e2 : j = 2 <;> by_cases e7 : j = 7 <;> simp_all

/-- The bits of byte j, the first n from the highest on. -/
def horn (p : Nat → Nat) (j : Nat) : Nat → Nat
  | 0 => 0
  | n + 1 => horn p j n * 2 + p (8 * j + 7 - n)
def outTo (p : Nat → Nat) (m : Nat) : Nat → Nat := fun j => horn p j (min 8 (8 * (j + 1) - m))
theorem horn_lt {p : Nat → Nat} (hp : ∀ j, p j < 2) (j : Nat) : ∀ n, horn p j n < 2 ^ n
  | 0 => by simp [horn]
  | n + 1 => by
    have a := horn_lt hp j n
    have b := hp (8 * j + 7 - n)
    unfold horn; rw [Nat.pow_succ]; omega
theorem outTo_start (p : Nat → Nat) : mk 16 (outTo p 128) = mk 16 zeroK := mk_ext fun j hj => by
  unfold outTo zeroK; rw [show min 8 (8 * (j + 1) - 128) = 0 by omega]; rfl
theorem outTo_end (p : Nat → Nat) : mk 16 (outTo p 0) = mk 16 fun j => horn p j 8 := mk_ext fun j hj => by
  unfold outTo; rw [show min 8 (8 * (j + 1) - 0) = 8 by omega]
theorem outTo_at {p : Nat → Nat} (hp : ∀ j, p j < 2) (k : Nat) : outTo p (k + 1) (k / 8) < 128 := by
  unfold outTo
  have h := horn_lt hp (k / 8) (min 8 (8 * (k / 8 + 1) - (k + 1)))
  have e : min 8 (8 * (k / 8 + 1) - (k + 1)) ≤ 7 := by omega
  have := Nat.pow_le_pow_right (n := 2) (by omega) e
  omega
theorem outTo_step (p : Nat → Nat) (k : Nat) : (mk 16 (outTo p (k + 1))).set (k / 8) ((outTo p (k + 1) (k / 8) : Int) * 2 + (p k : Int)) = mk 16 (outTo p k) := by
  refine mk_set_is (v := outTo p (k + 1) (k / 8) * 2 + p k) (by simp) fun j _ => ?_
  unfold outTo
  by_cases e : j = k / 8
  · subst e
    rw [if_pos rfl, show min 8 (8 * (k / 8 + 1) - k) = min 8 (8 * (k / 8 + 1) - (k + 1)) + 1 by omega]
    show _ = horn p (k / 8) (min 8 (8 * (k / 8 + 1) - (k + 1))) * 2 + p (8 * (k / 8) + 7 - min 8 (8 * (k / 8 + 1) - (k + 1)))
    rw [show 8 * (k / 8) + 7 - min 8 (8 * (k / 8 + 1) - (k + 1)) = k by omega]
  · rw [if_neg e, show min 8 (8 * (j + 1) - (k + 1)) = min 8 (8 * (j + 1) - k) by omega]

/-! ### It is the code's doubling -/
def eight (b0 b1 b2 b3 b4 b5 b6 b7 : Nat) : Nat := (((((((0 * 2 + b7) * 2 + b6) * 2 + b5) * 2 + b4) * 2 + b3) * 2 + b2) * 2 + b1) * 2 + b0
theorem horn_eight (p : Nat → Nat) (j : Nat) : horn p j 8 = eight (p (8 * j)) (p (8 * j + 1)) (p (8 * j + 2)) (p (8 * j + 3)) (p (8 * j + 4)) (p (8 * j + 5)) (p (8 * j + 6)) (p (8 * j + 7)) := rfl
theorem eight_dbl {x c : Nat} (hx : x < 256) (hc : c < 2) : eight c (bt x 0) (bt x 1) (bt x 2) (bt x 3) (bt x 4) (bt x 5) (bt x 6) = (x * 2 % 256) ^^^ c := by
  have t : ∀ a : Fin 256, ∀ b : Fin 2, eight b.val (bt a.val 0) (bt a.val 1) (bt a.val 2) (bt a.val 3) (bt a.val 4) (bt a.val 5) (bt a.val 6) = (a.val * 2 % 256) ^^^ b.val := by decide +kernel
  exact t ⟨x, hx⟩ ⟨c, hc⟩
theorem eight_turned {x : Nat} (hx : x < 256) : eight 1 (1 - bt x 0) (1 - bt x 1) (bt x 2) (bt x 3) (bt x 4) (bt x 5) (1 - bt x 6) = (x * 2 % 256) ^^^ 135 := by
  have t : ∀ a : Fin 256, eight 1 (1 - bt a.val 0) (1 - bt a.val 1) (bt a.val 2) (bt a.val 3) (bt a.val 4) (bt a.val 5) (1 - bt a.val 6) = (a.val * 2 % 256) ^^^ 135 := by decide +kernel
  exact t ⟨x, hx⟩
theorem pv_in (f : Nat → Nat) (j b : Nat) (hb : b < 7) : pv f (8 * j + (b + 1)) = bt (f j) b := by
  unfold pv; rw [if_neg (by omega), show (8 * j + (b + 1) - 1) / 8 = j by omega, show (8 * j + (b + 1) - 1) % 8 = b by omega]
theorem pv_zero {f : Nat → Nat} (h : IsKey f) {j : Nat} (hj : j < 16) : pv f (8 * j) = carry f j := by
  unfold carry
  by_cases e : j = 0
  · subst e; rfl
  · have hk := h (j - 1) (by omega)
    unfold pv bt; rw [if_neg (by omega), if_neg e, show (8 * j - 1) / 8 = j - 1 by omega, show (8 * j - 1) % 8 = 7 by omega]
    show f (j - 1) / 2 ^ 7 % 2 = _
    omega
theorem horn_pv {f : Nat → Nat} (h : IsKey f) {j : Nat} (hj : j < 16) : horn (pv f) j 8 = dbl0 f j := by
  rw [horn_eight, pv_zero h hj, pv_in f j 0 (by omega), pv_in f j 1 (by omega), pv_in f j 2 (by omega), pv_in f j 3 (by omega), pv_in f j 4 (by omega), pv_in f j 5 (by omega), pv_in f j 6 (by omega)]
  exact eight_dbl (h j hj) (carry_lt h (by omega))
theorem horn_low {f : Nat → Nat} (h : IsKey f) (ht : f 15 / 128 = 0) : mk 16 (fun j => horn (pv f) j 8) = mk 16 (dbl f) := mk_ext fun j hj => by
  show horn (pv f) j 8 = dbl f j
  rw [horn_pv h hj]
  unfold dbl
  by_cases e : j = 0
  · subst e; rw [if_pos rfl, ht]; simp
  · rw [if_neg e]
theorem turned_far (f : Nat → Nat) {j : Nat} (h : 8 ≤ j) : turned f 4 j = pv f j := by unfold turned; rw [if_neg (by omega)]
theorem horn_top {f : Nat → Nat} (h : IsKey f) (ht : f 15 / 128 = 1) : mk 16 (fun j => horn (turned f 4) j 8) = mk 16 (dbl f) := mk_ext fun j hj => by
  show horn (turned f 4) j 8 = dbl f j
  unfold dbl
  by_cases e : j = 0
  · subst e
    rw [if_pos rfl, ht, horn_eight]
    have z : pv f 0 = 0 := rfl
    have t0 : turned f 4 (8 * 0) = 1 := by show turned f 4 0 = 1; unfold turned; rw [if_pos (by omega), z]
    have t1 : turned f 4 (8 * 0 + 1) = 1 - bt (f 0) 0 := by show turned f 4 1 = _; unfold turned; rw [if_pos (by omega)]; rfl
    have t2 : turned f 4 (8 * 0 + 2) = 1 - bt (f 0) 1 := by show turned f 4 2 = _; unfold turned; rw [if_pos (by omega)]; rfl
    have t3 : turned f 4 (8 * 0 + 3) = bt (f 0) 2 := by show turned f 4 3 = _; unfold turned; rw [if_neg (by omega)]; rfl
    have t4 : turned f 4 (8 * 0 + 4) = bt (f 0) 3 := by show turned f 4 4 = _; unfold turned; rw [if_neg (by omega)]; rfl
    have t5 : turned f 4 (8 * 0 + 5) = bt (f 0) 4 := by show turned f 4 5 = _; unfold turned; rw [if_neg (by omega)]; rfl
    have t6 : turned f 4 (8 * 0 + 6) = bt (f 0) 5 := by show turned f 4 6 = _; unfold turned; rw [if_neg (by omega)]; rfl
    have t7 : turned f 4 (8 * 0 + 7) = 1 - bt (f 0) 6 := by show turned f 4 7 = _; unfold turned; rw [if_pos (by omega)]; rfl
    rw [t0, t1, t2, t3, t4, t5, t6, t7, eight_turned (h 0 (by omega))]
    unfold dbl0 carry; simp
  · rw [if_neg e, ← horn_pv h hj, horn_eight, horn_eight, turned_far f (by omega), turned_far f (by omega), turned_far f (by omega), turned_far f (by omega), turned_far f (by omega), turned_far f (by omega), turned_far f (by omega), turned_far f (by omega)]
theorem four_at {n : Nat} (h : n < 4) : ([0, 1, 2, 7] : List Int).getD n 0 = (four n : Nat) := by
  rcases (show n = 0 ∨ n = 1 ∨ n = 2 ∨ n = 3 by omega) with rfl | rfl | rfl | rfl <;> rfl
theorem four_le (n : Nat) : four n ≤ 7 := by unfold four; split <;> (try split) <;> (try split) <;> omega
end Go.Proofs.Ytghdeedglekphaa
