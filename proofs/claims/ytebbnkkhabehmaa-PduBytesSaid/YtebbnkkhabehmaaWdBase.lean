/- WdBase: merged by mkwdbase.py out of Blk Arr ByteE Num (bits) Key (rows) Part Open BytesS Make QuietG Bool Ends EndR TailQ Sched RoundW OwnS OwnB StrS CopyC OpenSz. Conditions: as each part says. -/
import Derived.Below
import Derived.Laws.Rows
import Derived.Laws.Tables
import Derived.IntWalk
import Derived.Laws.StructEq
import Derived.WalkKit
import Derived.Test.YtebbnkkhabehmaaRows
import Derived.Laws.CopyOwn
import Derived.Deep.Quiet
import Derived.ProofKit
import Derived.OpenShut
import Derived.ChangeOld
import Derived.Deep.Slices
import Derived.Laws.MakeOwn
import Derived.Lib.Hide
import Derived.StillTailTactics
import Derived.Outline
import Derived.BigQuiet
import Derived.RangeFuncNested
import Derived.RangeFuncLeaves
import Derived.StillTail
import Derived.Orders
import Derived.OrdersIn
import Derived.OwnWalkIn
import Derived.Laws.AppendOwn
import Derived.Great.BuildSlice
import Derived.ArgAppend
import Derived.Deep.Upon
import Derived.OwnWalk
import Derived.Laws.BytesArg
import Derived.Laws.Strings
import Derived.SizedLaws
/- A block of memory that holds a list of integers: reading, writing, keeping. No condition. -/
namespace Go.Proofs.Ytebbnkkhabehmaa
open Go Go.RowKit

/-- An array of integers as a value's cells. -/
def cellsOf (k : IntKind) (l : List Int) : Array Value := (l.map (Value.int k)).toArray
theorem cellsOf_get (k : IntKind) (l : List Int) {i : Nat} (h : i < l.length) : (cellsOf k l)[i]? = some (.int k (l.getD i 0)) := by
  simp [cellsOf, List.getD_eq_getElem?_getD, h]
theorem cellsOf_size (k : IntKind) (l : List Int) : (cellsOf k l).size = l.length := by simp [cellsOf]
theorem cellsOf_one (k : IntKind) (l : List Int) : (cellsOf k l).all (·.oneCell') = true := by
  simp [cellsOf, Value.oneCell']

theorem cellsOf_set (k : IntKind) (l : List Int) (i : Nat) (v : Int) : (cellsOf k l).setIfInBounds i (.int k v) = cellsOf k (l.set i v) := by
  simp [cellsOf, List.map_set]
/-- Block B is an array of integers of kind k, type t: l. -/
def IntBlk (w : World) (B : Nat) (k : IntKind) (t : TypeId) (l : List Int) : Prop := w.heap[B]? = some (.cells (cellsOf k l) t (0, 0))

theorem IntBlk.lt {w : World} {B : Nat} {k : IntKind} {t : TypeId} {l : List Int} (h : IntBlk w B k t l) : B < w.heap.size := by
  rcases Nat.lt_or_ge B w.heap.size with h' | h'
  · exact h'
  · unfold IntBlk at h; simp [Array.getElem?_eq_none h'] at h
theorem IntBlk.cell {w : World} {B : Nat} {k : IntKind} {t : TypeId} {l : List Int} (h : IntBlk w B k t l) {i : Nat} (hi : i < l.length) :
    w.cell? ⟨B, i, none⟩ = some (.int k (l.getD i 0)) := by
  rw [cell_of_row w B i _ t (0, 0) h]; exact cellsOf_get k l hi
theorem IntBlk.free {w : World} {B : Nat} {k : IntKind} {t : TypeId} {l : List Int} (h : IntBlk w B k t l) (i : Nat) : w.frozen? ⟨B, i, none⟩ = false :=
  frozen_of_row w B i _ t h
theorem IntBlk.set {w : World} {B : Nat} {k : IntKind} {t : TypeId} {l : List Int} (h : IntBlk w B k t l) (i : Nat) (v : Int) :
    IntBlk (w.setCell ⟨B, i, none⟩ (.int k v)) B k t (l.set i v) := by
  have hlt := h.lt
  have h' : w.heap[B] = .cells (cellsOf k l) t (0, 0) := by unfold IntBlk at h; simpa [Array.getElem?_eq_getElem hlt] using h
  show (w.heap.modify B _)[B]? = _
  rw [Array.getElem?_eq_getElem (by simpa using hlt), Array.getElem_modify_self, h']
  simp [cellsOf, List.map_set]
theorem IntBlk.drew {w : World} {B : Nat} {k : IntKind} {t : TypeId} {l : List Int} (h : IntBlk w B k t l) : IntBlk w.drew B k t l := h
theorem IntBlk.alloc {w : World} {B : Nat} {k : IntKind} {t : TypeId} {l : List Int} (h : IntBlk w B k t l) (o : Obj) : IntBlk (w.alloc o) B k t l := by
  unfold IntBlk; rw [Below.heap_alloc _ _ _ h.lt]; exact h
theorem IntBlk.other {w : World} {B : Nat} {k : IntKind} {t : TypeId} {l : List Int} (h : IntBlk w B k t l) {a : Addr} (ha : a.block ≠ B) (v : Value) : IntBlk (w.setCell a v) B k t l := by
  unfold IntBlk; rw [heap_setCell_other _ _ _ _ (fun e => ha e.symm)]; exact h
theorem IntBlk.below {w w' : World} {B M : Nat} {k : IntKind} {t : TypeId} {l : List Int} (h : IntBlk w B k t l) (hb : Below M w w') (hM : B < M) : IntBlk w' B k t l := by
  unfold IntBlk; rw [hb.block B hM]; exact h
theorem IntBlk.new (w : World) (k : IntKind) (t : TypeId) (l : List Int) : IntBlk (w.alloc (.cells (cellsOf k l) t)) w.heap.size k t l := heap_alloc_new _ _
theorem IntBlk.setRow {w : World} {B : Nat} {k : IntKind} {t : TypeId} {l : List Int} (h : IntBlk w B k t l) (k' : IntKind) (l' : List Int) : IntBlk (w.setRow B (cellsOf k' l')) B k' t l' :=
  setRow_heap w B _ _ t (0, 0) h
theorem IntBlk.otherRow {w : World} {B C : Nat} {k : IntKind} {t : TypeId} {l : List Int} (h : IntBlk w B k t l) (hc : B ≠ C) (cs : Array Value) : IntBlk (w.setRow C cs) B k t l := by
  unfold IntBlk; rw [setRow_other w C B cs hc]; exact h
theorem below_setRow {M : Nat} {a w : World} (h : Below M a w) {g : Nat} (hg : M ≤ g) (cs : Array Value) : Below M a (w.setRow g cs) :=
  h.trans ⟨rfl, rfl, rfl, by simp, fun k hk => setRow_other w g k cs (by omega)⟩
/-- A new block on top of what a call has left. -/
theorem below_call {M : Nat} {a w w' : World} (h : Below M a w) (hw : Below w.heap.size w w') (hM : M ≤ w.heap.size) : Below M a w' := h.trans (hw.mono hM)
/-- The blocks that a call has just made, by their order. -/
theorem blk_first (w : World) (k : IntKind) (t : TypeId) (l : List Int) (o1 o2 : Obj) : IntBlk (((w.alloc (.cells (cellsOf k l) t)).alloc o1).alloc o2) w.heap.size k t l :=
  ((IntBlk.new w k t l).alloc o1).alloc o2
theorem blk_two (w : World) (k : IntKind) (t : TypeId) (l : List Int) (o0 : Obj) : IntBlk ((w.alloc o0).alloc (.cells (cellsOf k l) t)) (w.heap.size + 1) k t l := by
  have h := IntBlk.new (w.alloc o0) k t l
  rw [World.size_alloc] at h; exact h
theorem blk_second (w : World) (k : IntKind) (t : TypeId) (l : List Int) (o0 o2 : Obj) : IntBlk (((w.alloc o0).alloc (.cells (cellsOf k l) t)).alloc o2) (w.heap.size + 1) k t l := by
  have h := (IntBlk.new (w.alloc o0) k t l).alloc o2
  rw [World.size_alloc] at h; exact h
theorem blk_third (w : World) (k : IntKind) (t : TypeId) (l : List Int) (o0 o1 : Obj) : IntBlk (((w.alloc o0).alloc o1).alloc (.cells (cellsOf k l) t)) (w.heap.size + 1 + 1) k t l := by
  have h := IntBlk.new ((w.alloc o0).alloc o1) k t l
  rw [World.size_alloc, World.size_alloc] at h; exact h
theorem blk_fourth (w : World) (k : IntKind) (t : TypeId) (l : List Int) (o0 o1 o2 : Obj) : IntBlk ((((w.alloc o0).alloc o1).alloc o2).alloc (.cells (cellsOf k l) t)) (w.heap.size + 1 + 1 + 1) k t l := by
  have h := IntBlk.new (((w.alloc o0).alloc o1).alloc o2) k t l
  rw [World.size_alloc, World.size_alloc, World.size_alloc] at h; exact h
theorem blk_fifth (w : World) (k : IntKind) (t : TypeId) (l : List Int) (o0 o1 o2 o3 : Obj) : IntBlk (((((w.alloc o0).alloc o1).alloc o2).alloc o3).alloc (.cells (cellsOf k l) t)) (w.heap.size + 1 + 1 + 1 + 1) k t l := by
  have h := IntBlk.new ((((w.alloc o0).alloc o1).alloc o2).alloc o3) k t l
  rw [World.size_alloc, World.size_alloc, World.size_alloc, World.size_alloc] at h; exact h
theorem below_two (w : World) (o0 o1 : Obj) : Below w.heap.size w ((w.alloc o0).alloc o1) :=
  ((Below.refl _ _).alloc (Nat.le_refl _) _).alloc (by simp) _
theorem below_three (w : World) (o0 o1 o2 : Obj) : Below w.heap.size w (((w.alloc o0).alloc o1).alloc o2) :=
  (below_two w o0 o1).alloc (by simp; omega) _
theorem below_four (w : World) (o0 o1 o2 o3 : Obj) : Below w.heap.size w ((((w.alloc o0).alloc o1).alloc o2).alloc o3) :=
  (below_three w o0 o1 o2).alloc (by simp; omega) _
end Go.Proofs.Ytebbnkkhabehmaa
/- Arrays of integers by value: an element by its index, and whether two arrays are the same. Conditions: the index is in range; the arrays have the type's length. -/
namespace Go.Proofs.Ytebbnkkhabehmaa
open Go

section
variable {P : Program} (w : World)
/-- What is asked of the element's type. -/
structure IntElem (P : Program) (e : TypeId) (k : IntKind) : Prop where
  under : P.underlying e = some (.int k)
  size : (P.info? e).map (·.size) = some 1
theorem IntElem.run_size {e : TypeId} {k : IntKind} (h : IntElem P e k) : (sizeOf e).run P w = .ok 1 w := by
  cases hq : P.info? e with
  | none => have := h.size; simp [hq] at this
  | some i => have := h.size; simp [hq] at this; simp [sizeOf, typeInfo, hq, this]
theorem IntElem.run_agg {e : TypeId} {k : IntKind} (h : IntElem P e k) : (isAgg e).run P w = .ok false w := by
  simp [isAgg, Sem.run_bind, run_underlying h.under]
theorem run_part_ints {e : TypeId} {k : IntKind} (h : IntElem P e k) (l : List Int) {i : Nat} (hi : i < l.length) :
    (part e (cellsOf k l) i).run P w = .ok (.int k (l.getD i 0)) w := by
  simp [part, Sem.run_bind, h.run_agg, cellsOf_get k l hi]
theorem run_index_ints {t e : TypeId} {k : IntKind} (l : List Int) (ht : P.underlying t = some (.array l.length e)) (h : IntElem P e k) {i : Nat} (hi : i < l.length) :
    (Instr.index t (.agg (cellsOf k l)) (.int .i64 i)).run P w = .ok (.int k (l.getD i 0)) w := by
  have h0 : (0 : Int) ≤ i ∧ (i : Int) < l.length := by omega
  simp [Instr.index, run_underlying ht, asIntOf, h0, h.run_size, run_part_ints w h l hi]
  omega
/-- The same where the index is of another kind of integers. -/
theorem run_index_kind {t e : TypeId} {k ki : IntKind} (l : List Int) (ht : P.underlying t = some (.array l.length e)) (h : IntElem P e k) {i : Nat} (hi : i < l.length) :
    (Instr.index t (.agg (cellsOf k l)) (.int ki i)).run P w = .ok (.int k (l.getD i 0)) w := by
  have h0 : (0 : Int) ≤ i ∧ (i : Int) < l.length := by omega
  simp [Instr.index, run_underlying ht, asIntOf, h0, h.run_size, run_part_ints w h l hi]
  omega
theorem run_equalIn_ints (d : Nat) {t e : TypeId} {k : IntKind} (xs ys : List Int) (ht : P.underlying t = some (.array xs.length e)) (h : IntElem P e k) (hl : ys.length = xs.length) :
    (Op.equalIn (d + 2) t (.agg (cellsOf k xs)) (.agg (cellsOf k ys))).run P w = .ok (xs == ys) w := by
  rw [show d + 2 = (d + 1) + 1 from rfl, Op.equalIn]
  simp only [Sem.run_bind, run_underlying ht, Result.andThen_ok, h.run_size]
  simp only [Std.Legacy.Range.forIn_eq_forIn_range', Std.Legacy.Range.size, Nat.sub_zero, Nat.add_sub_cancel, Nat.div_one]
  have main : ∀ (n s : Nat), s + n = xs.length →
      (forIn (List.range' s n 1) ((none, ()) : Option Bool × Unit) fun i _ => do
            let a ← part e (cellsOf k xs) (i * 1)
            let b ← part e (cellsOf k ys) (i * 1)
            let r ← Op.equalIn (d + 1) e a b
            if (!r) = true then pure (ForInStep.done (some false, ())) else pure (ForInStep.yield (none, ()))).run P w
        = .ok (if xs.drop s == ys.drop s then (none, ()) else (some false, ())) w := by
    intro n
    induction n with
    | zero =>
      intro s hs
      simp [List.drop_eq_nil_of_le (show xs.length ≤ s by omega), List.drop_eq_nil_of_le (show ys.length ≤ s by omega)]
    | succ n ih =>
      intro s hs
      have h1 : s < xs.length := by omega
      have h2 : s < ys.length := by omega
      rw [List.range'_succ, List.forIn_cons]
      simp only [Nat.mul_one, Sem.run_bind, run_part_ints w h xs h1, run_part_ints w h ys h2, Result.andThen_ok, run_equalIn_int w d e k k _ _ h.under]
      have g1 : xs.getD s 0 = xs[s] := by simp [List.getD_eq_getElem?_getD, h1]
      have g2 : ys.getD s 0 = ys[s] := by simp [List.getD_eq_getElem?_getD, h2]
      have hd : (xs.drop s == ys.drop s) = (xs[s] == ys[s] && xs.drop (s + 1) == ys.drop (s + 1)) := by
        rw [List.drop_eq_getElem_cons h1, List.drop_eq_getElem_cons h2]; rfl
      rw [g1, g2, hd]
      have := ih (s + 1) (by omega)
      simp only [Nat.mul_one] at this
      cases he : xs[s] == ys[s]
      · simp only [Bool.not_false, if_true, Sem.run_pure, Result.andThen_ok, Bool.false_and, Bool.false_eq_true, if_false]
      · simp only [Bool.not_true, Bool.false_eq_true, if_false, Sem.run_pure, Result.andThen_ok, Bool.true_and]
        exact this
  rw [main xs.length 0 (by omega)]
  simp only [List.drop_zero, Result.andThen_ok]
  by_cases he : xs = ys
  · subst he; simp
  · simp [he]
end
end Go.Proofs.Ytebbnkkhabehmaa
/- The type of bytes. No condition. -/
namespace Go.Proofs.Ytebbnkkhabehmaa
open Go Go.RowKit

theorem byteElem : IntElem Try.prog 5 .u8 := ⟨Try.underlying5, by kernel_rfl⟩
end Go.Proofs.Ytebbnkkhabehmaa
/- Bits of bytes; rows as functions from places to bytes. Condition: the bytes are bytes. -/
namespace Go.Proofs.Ytebbnkkhabehmaa
open Go
theorem bits_xor_u8 {x y : Nat} (hx : x < 256) (hy : y < 256) : bits .xor .u8 (x : Int) (y : Int) = ((x ^^^ y : Nat) : Int) := by
  have h : x ^^^ y < 2 ^ 8 := Nat.xor_lt_two_pow hx hy
  have e1 : x % 2 ^ 8 = x := Nat.mod_eq_of_lt hx
  have e2 : y % 2 ^ 8 = y := Nat.mod_eq_of_lt hy
  have e : (BitVec.ofInt 8 (x : Int) ^^^ BitVec.ofInt 8 (y : Int)).toNat = x ^^^ y := by
    rw [BitVec.toNat_xor, BitVec.ofInt_natCast, BitVec.ofInt_natCast, BitVec.toNat_ofNat, BitVec.toNat_ofNat, e1, e2]
  show IntKind.wrap .u8 ((BitVec.ofInt 8 (x : Int) ^^^ BitVec.ofInt 8 (y : Int)).toNat : Int) = _
  rw [e, IntWalk.u8_in _ ⟨by omega, by omega⟩]
theorem bits_and_u8 {x y : Nat} (hx : x < 256) (hy : y < 256) : bits .and .u8 (x : Int) (y : Int) = ((x &&& y : Nat) : Int) := by
  have h : x &&& y < 2 ^ 8 := Nat.and_lt_two_pow x hy
  have e1 : x % 2 ^ 8 = x := Nat.mod_eq_of_lt hx
  have e2 : y % 2 ^ 8 = y := Nat.mod_eq_of_lt hy
  have e : (BitVec.ofInt 8 (x : Int) &&& BitVec.ofInt 8 (y : Int)).toNat = x &&& y := by
    rw [BitVec.toNat_and, BitVec.ofInt_natCast, BitVec.ofInt_natCast, BitVec.toNat_ofNat, BitVec.toNat_ofNat, e1, e2]
  show IntKind.wrap .u8 ((BitVec.ofInt 8 (x : Int) &&& BitVec.ofInt 8 (y : Int)).toNat : Int) = _
  rw [e, IntWalk.u8_in _ ⟨by omega, by omega⟩]
theorem bits_or_u8 {x y : Nat} (hx : x < 256) (hy : y < 256) : bits .or .u8 (x : Int) (y : Int) = ((x ||| y : Nat) : Int) := by
  have h : x ||| y < 2 ^ 8 := Nat.or_lt_two_pow hx hy
  have e1 : x % 2 ^ 8 = x := Nat.mod_eq_of_lt hx
  have e2 : y % 2 ^ 8 = y := Nat.mod_eq_of_lt hy
  have e : (BitVec.ofInt 8 (x : Int) ||| BitVec.ofInt 8 (y : Int)).toNat = x ||| y := by
    rw [BitVec.toNat_or, BitVec.ofInt_natCast, BitVec.ofInt_natCast, BitVec.toNat_ofNat, BitVec.toNat_ofNat, e1, e2]
  show IntKind.wrap .u8 ((BitVec.ofInt 8 (x : Int) ||| BitVec.ofInt 8 (y : Int)).toNat : Int) = _
  rw [e, IntWalk.u8_in _ ⟨by omega, by omega⟩]
theorem xor_lt {x y : Nat} (hx : x < 256) (hy : y < 256) : x ^^^ y < 256 := Nat.xor_lt_two_pow (n := 8) hx hy

/-- The first n values of a function. -/
def mk (n : Nat) (f : Nat → Nat) : List Int := (List.range n).map fun i => (f i : Int)
def upd (f : Nat → Nat) (i v : Nat) : Nat → Nat := fun k => if k = i then v else f k
theorem mk_len (n : Nat) (f : Nat → Nat) : (mk n f).length = n := by simp [mk]
theorem mk_get {n : Nat} {f : Nat → Nat} {i : Nat} (h : i < n) : (mk n f).getD i 0 = (f i : Int) := by simp [mk, List.getD_eq_getElem?_getD, h]
theorem mk_ext {n : Nat} {f g : Nat → Nat} (h : ∀ i, i < n → f i = g i) : mk n f = mk n g := by
  unfold mk; apply List.map_congr_left; intro i hi; rw [h i (by simpa using hi)]
theorem mk_set (n : Nat) (f : Nat → Nat) (i : Nat) {v : Nat} : (mk n f).set i (v : Int) = mk n (upd f i v) := by
  apply List.ext_getElem
  · simp [mk]
  · intro m h1 h2
    rw [List.getElem_set]
    simp only [mk, List.getElem_map, List.getElem_range, upd]
    by_cases h : i = m
    · subst h; simp
    · rw [if_neg h, if_neg (fun e => h e.symm)]
theorem mk_set_is {n : Nat} {f g : Nat → Nat} {i v : Nat} {x : Int} (hx : x = (v : Int)) (h : ∀ j, j < n → (if j = i then v else f j) = g j) : (mk n f).set i x = mk n g := by
  subst hx; rw [mk_set]; exact mk_ext h

/-- Sixteen bytes. -/
def IsKey (f : Nat → Nat) : Prop := ∀ i, i < 16 → f i < 256
def zeroK : Nat → Nat := fun _ => 0
end Go.Proofs.Ytebbnkkhabehmaa

/- Parts of blocks of bytes: an array loaded from, stored into, or copied into the middle of a block. Condition: the part lies within the block. -/
namespace Go.Proofs.Ytebbnkkhabehmaa
open Go Go.RowKit

/-- A function with n values laid in at place o. -/
def put (F : Nat → Nat) (o n : Nat) (g : Nat → Nat) : Nat → Nat := fun j => if o ≤ j ∧ j < o + n then g (j - o) else F j
theorem addr_add (B o j : Nat) : (⟨B, o, none⟩ : Addr).add j = ⟨B, o + j, none⟩ := by unfold Addr.add; split <;> simp_all
/-- Cells that hold bytes. -/
def Cells (w : World) (B o n : Nat) (f : Nat → Nat) : Prop := ∀ j, j < n → w.cell? ⟨B, o + j, none⟩ = some (.int .u8 (f j))
theorem IntBlk.cells {w : World} {B N : Nat} {t : TypeId} {F : Nat → Nat} (h : IntBlk w B .u8 t (mk N F)) {o n : Nat} (hn : o + n ≤ N) : Cells w B o n (fun j => F (o + j)) := fun j hj => by
  have := h.cell (i := o + j) (by rw [mk_len]; omega)
  rwa [mk_get (by omega)] at this
theorem put_list (N : Nat) (F : Nat → Nat) {o n : Nat} (g : Nat → Nat) (h : o + n ≤ N) : (mk N F).take o ++ (mk n g ++ (mk N F).drop (o + n)) = mk N (put F o n g) := by
  apply List.ext_getElem
  · simp [mk_len]; omega
  · intro i h1 h2
    have hi : i < N := by simpa [mk_len] using h2
    have e : (mk N (put F o n g))[i] = ((put F o n g i : Nat) : Int) := by simp [mk]
    rw [e]
    have get : ∀ (G : Nat → Nat) (M k : Nat) (hk : k < (mk M G).length), (mk M G)[k] = (G k : Int) := fun G M k hk => by simp [mk]
    rcases Nat.lt_or_ge i o with l | l
    · rw [List.getElem_append_left (by simp [mk_len]; omega), List.getElem_take, get]
      have : put F o n g i = F i := if_neg (by omega)
      rw [this]
    · rw [List.getElem_append_right (by simp [mk_len]; omega)]
      have eo : ((mk N F).take o).length = o := by simp [mk_len]; omega
      rcases Nat.lt_or_ge i (o + n) with l2 | l2
      · rw [List.getElem_append_left (by simp [mk_len]; omega), get]
        have : put F o n g i = g (i - o) := if_pos ⟨l, l2⟩
        rw [this, eo]
      · rw [List.getElem_append_right (by simp [mk_len]; omega), List.getElem_drop, get]
        have : put F o n g i = F i := if_neg (by omega)
        rw [this]
        congr 2
        simp only [mk_len, eo]; omega
theorem put_cells (N : Nat) (F : Nat → Nat) {o n : Nat} (g : Nat → Nat) (h : o + n ≤ N) : ((cellsOf .u8 (mk N F)).toList.take o ++ ((mk n g).map (Value.int .u8) ++ (cellsOf .u8 (mk N F)).toList.drop (o + n))).toArray = cellsOf .u8 (mk N (put F o n g)) := by
  unfold cellsOf
  rw [← put_list N F g h]
  simp [List.map_append, List.map_take, List.map_drop]
theorem bytes_one (l : List Int) : ∀ v ∈ l.map (Value.int .u8), v.oneCell' = true := fun v hv => by
  obtain ⟨x, _, rfl⟩ := List.mem_map.1 hv; rfl

section
variable {P : Program} {ops : Array Oper} {rest : List Oper} {o : Oper} {a : Act} {w : World} {Q : Exit → Act → World → Prop}
theorem run_loadVar_part (B off n : Nat) (f : Nat → Nat) (ty : TypeId) (d : TypeDesc) (hc : Cells w B off n f)
    (hu : P.underlying ty = some d) (hd : (match d with | .struct _ | .array _ _ => true | _ => false) = true) (hi : (P.info? ty).map (·.size) = some n) :
    (loadVar ty ⟨B, off, none⟩).run P w = .ok (.agg (cellsOf .u8 (mk n f))) w := by
  have hlen : (cellsOf .u8 (mk n f)).toList.length = n := by rw [Array.length_toList, cellsOf_size, mk_len]
  have hl := run_loadCells_list (P := P) w ⟨B, off, none⟩ (cellsOf .u8 (mk n f)).toList (fun j v hv => by
    rw [addr_add]
    have hj : j < n := by
      have h1 : j < (cellsOf .u8 (mk n f)).toList.length := by
        rcases Nat.lt_or_ge j (cellsOf .u8 (mk n f)).toList.length with h | h
        · exact h
        · rw [List.getElem?_eq_none h] at hv; cases hv
      omega
    have h2 : (cellsOf .u8 (mk n f))[j]? = some v := by simpa using hv
    rw [cellsOf_get _ _ (by rw [mk_len]; exact hj), mk_get hj] at h2
    rw [hc j hj]; exact h2)
  rw [hlen] at hl
  cases hq : P.info? ty with
  | none => simp [hq] at hi
  | some i =>
    have hs : i.size = n := by simpa [hq] using hi
    have hagg : (isAgg ty).run P w = .ok true w := by
      unfold isAgg
      rw [Sem.run_bind, run_underlying hu w]
      cases d <;> simp_all
    simp [loadVar, Sem.run_bind, hagg, sizeOf, typeInfo, hq, hs, hl]
theorem wpList_load_part (hgd : o.guard = none) (ty : TypeId) (x : Operand) (ho : o.op = .load ty x) (B off n : Nat) (f : Nat → Nat) (hx : a.eval x = .pointer (some ⟨B, off, none⟩)) (d : TypeDesc) (hc : Cells w B off n f)
    (hu : P.underlying ty = some d) (hd : (match d with | .struct _ | .array _ _ => true | _ => false) = true) (hi : (P.info? ty).map (·.size) = some n)
    (h : wpList P ops Q rest (a.put o.dst (.agg (cellsOf .u8 (mk n f)))) w) : wpList P ops Q (o :: rest) a w :=
  wpList_plain hgd fun _ hK => by
    unfold Oper.wp execOp
    simp only [ho, hx, Instr.loadAt, Instr.sureAddr, Sem.run_bind, Sem.run_pure, Result.andThen_ok, run_loadVar_part B off n f ty d hc hu hd hi]
    exact hK _ _ h
theorem quiet_load_part {C : World → Prop} {K : Act → Prop} (ty : TypeId) (x : Operand) (ho : o.op = .load ty x) (B off n : Nat) (f : Nat → Nat) (hx : a.eval x = .pointer (some ⟨B, off, none⟩)) (d : TypeDesc) (hc : ∀ w, C w → Cells w B off n f)
    (hu : P.underlying ty = some d) (hd : (match d with | .struct _ | .array _ _ => true | _ => false) = true) (hi : (P.info? ty).map (·.size) = some n)
    (hk : K (a.put o.dst (.agg (cellsOf .u8 (mk n f))))) : o.quiet P a C K :=
  ⟨_, fun w hw => by
    unfold Oper.quietAt execOp
    simp only [ho, hx, Instr.loadAt, Instr.sureAddr, Sem.run_bind, Sem.run_pure, Result.andThen_ok, run_loadVar_part B off n f ty d (hc w hw) hu hd hi]
    exact ⟨rfl, rfl⟩, hk⟩
theorem wpList_store_part (hgd : o.guard = none) (ty : TypeId) (x y : Operand) (ho : o.op = .store ty x y) (hdst : o.dst = none) (B off n N : Nat) (F g : Nat → Nat) (hx : a.eval x = .pointer (some ⟨B, off, none⟩)) (hy : a.eval y = .agg (cellsOf .u8 (mk n g)))
    (t : TypeId) (hB : IntBlk w B .u8 t (mk N F)) (hn : off + n ≤ N) (hi : (P.info? ty).map (·.size) = some n)
    (h : wpList P ops Q rest a (w.setRow B (cellsOf .u8 (mk N (put F off n g))))) : wpList P ops Q (o :: rest) a w :=
  wpList_plain hgd fun _ hK => by
    have hlen : (cellsOf .u8 (mk n g)).size = n := by rw [cellsOf_size, mk_len]
    have hst := run_storeCells_at P B off t ((mk n g).map (Value.int .u8)) 0 (cellsOf .u8 (mk N F)) w hB (by rw [cellsOf_size, mk_len, List.length_map, mk_len]; omega) (bytes_one _)
    rw [List.length_map, mk_len, Nat.add_zero, List.append_assoc, put_cells N F g hn] at hst
    have hl : (cellsOf .u8 (mk n g)).toList = (mk n g).map (Value.int .u8) := by simp [cellsOf]
    rw [← hl] at hst
    have hrun : (storeVar ty ⟨B, off, none⟩ (.agg (cellsOf .u8 (mk n g)))).run P w = .ok () (w.setRow B (cellsOf .u8 (mk N (put F off n g)))) := by
      cases hq : P.info? ty with
      | none => simp [hq] at hi
      | some i =>
        have hs : i.size = n := by simpa [hq] using hi
        have hc : (Value.agg (cellsOf .u8 (mk n g))).cells = cellsOf .u8 (mk n g) := rfl
        simp [storeVar, Sem.run_bind, sizeOf, typeInfo, hq, hs, hc, hlen, hst]
    unfold Oper.wp execOp
    simp only [ho, hx, hy, Instr.storeAt, Instr.sureAddr, Sem.run_bind, Sem.run_pure, Result.andThen_ok, hrun]
    have := hK _ _ h
    simpa [Oper.upon, hdst, Act.put] using this
theorem wpList_copy_part (hgd : o.guard = none) (d s : Operand) (dT sT : TypeId) (ho : o.op = .call { callee := .builtin .copy, args := #[d, s], argTypes := #[dT, sT] }) (elem : TypeId) (hu : P.underlying dT = some (.slice elem)) (hsz : (P.info? elem).map (·.size) = some 1)
    (B off dLen dCap b so sLen sCap n N : Nat) (F g : Nat → Nat) (hd : a.eval d = .slice (some ⟨B, off, none⟩) dLen dCap) (hs : a.eval s = .slice (some ⟨b, so, none⟩) sLen sCap) (t : TypeId) (hB : IntBlk w B .u8 t (mk N F)) (hn : off + n ≤ N)
    (hm : n = Nat.min sLen dLen) (hc : Cells w b so n g) (h : wpList P ops Q rest (a.put o.dst (goInt n)) (w.setRow B (cellsOf .u8 (mk N (put F off n g))))) : wpList P ops Q (o :: rest) a w := by
  have hl : ((mk n g).map (Value.int .u8)).length = n := by rw [List.length_map, mk_len]
  refine wpList_copy_own hgd d s dT sT ho elem hu hsz B off dLen dCap ⟨b, so, none⟩ sLen sCap hd hs (cellsOf .u8 (mk N F)) t hB ((mk n g).map (Value.int .u8)) (by rw [hl]; exact hm) (fun j v hv => ?_)
    (by rw [hl, cellsOf_size, mk_len]; exact hn) (bytes_one _) ?_
  · rw [addr_add]
    have hj : j < n := by
      rcases Nat.lt_or_ge j ((mk n g).map (Value.int .u8)).length with h | h
      · omega
      · rw [List.getElem?_eq_none h] at hv; cases hv
    rw [hc j hj, ← hv]; simp [mk, hj]
  · rw [hl, put_cells N F g hn]; exact h
end
end Go.Proofs.Ytebbnkkhabehmaa

/- A key that comes in as an argument, opened: a function from places to bytes. No condition. -/
namespace Go.Proofs.Ytebbnkkhabehmaa
open Go.ChangeShapes Go.WideShapes Go.ChangeAt Go.RowKit

/-- An array of bytes that came in, by value. -/
theorem open_bytes {H : Type} {enc : TypeId × Value → H} {P : Program} {W : World} {r : Reach} {b0 base : Nat} {spare : Nat → Bool} {held : Bool} {t e : TypeId} {n : Nat} {v : Value} {d : DataW H} {p : List MemPlace}
    (ht : P.underlying t = some (.array n e)) (he : P.underlying e = some (.int .u8)) (hc : P.cellsOf e = 1) (hn : P.cellsOf t = n)
    (hv : Value.okWide P W r b0 t v) (h : DataW.Trod enc P W base spare held t v d p) : ∃ f : Nat → Nat, (∀ i, i < n → f i < 256) ∧ v = .agg (cellsOf .u8 (mk n f)) := by
  have hv' : ∃ cs, v = .agg cs ∧ cs.size = P.cellsOf t ∧ Row.okWide P W r b0 t cs := by
    unfold Value.okWide at hv; rw [ht] at hv; exact hv
  obtain ⟨cs, rfl, hsz, _⟩ := hv'
  obtain ⟨fuel, hf⟩ := h
  obtain ⟨xs, m, rfl, hx, hlen, hxn, hel⟩ := DataW.trod_array ht hf
  have each : ∀ i, i < n → ∃ a : Nat, a < 256 ∧ cs[i]? = some (.int .u8 a) := by
    intro i hi
    have hi2 := hel i hi
    rw [hc, Nat.mul_one] at hi2
    have hlt : i < xs.length := by omega
    rw [List.getElem?_eq_getElem hlt] at hi2
    obtain ⟨a, ha, _, hw⟩ := DataW.trod_int he hi2
    have hb := bounds_u8 hw
    refine ⟨a.toNat, by omega, ?_⟩
    rw [show ((a.toNat : Nat) : Int) = a by omega]
    have hlc : i < cs.size := by omega
    have hd : (Value.cells (.agg cs)).toList = cs.toList := rfl
    rw [hd, List.drop_eq_getElem_cons (by simpa using hlc)] at ha
    simp at ha
    rw [Array.getElem?_eq_getElem hlc, ha]
  refine ⟨fun i => match cs[i]? with | some (.int _ a) => a.toNat | _ => 0, fun i hi => ?_, ?_⟩
  · obtain ⟨a, ha, hc⟩ := each i hi
    simp only [hc]; omega
  · congr 1
    apply Array.ext
    · rw [cellsOf_size, mk_len]; omega
    · intro i h1 h2
      obtain ⟨a, ha, hc⟩ := each i (by omega)
      have hg := cellsOf_get .u8 (mk n fun i => match cs[i]? with | some (.int _ a) => a.toNat | _ => 0) (i := i) (by rw [mk_len]; omega)
      rw [mk_get (by omega), hc] at hg
      rw [Array.getElem?_eq_getElem h1] at hc
      rw [Array.getElem?_eq_getElem h2] at hg
      simp at hc hg
      rw [hc, hg]
end Go.Proofs.Ytebbnkkhabehmaa

/- Bytes behind a pointer; a slice of bytes that comes in as an argument, opened. No condition. -/
namespace Go.Proofs.Ytebbnkkhabehmaa
open Go.ChangeShapes Go.WideShapes Go.ChangeAt Go.RowKit

set_option maxRecDepth 100000 in
theorem Cells.below {w w' : World} {B o n M : Nat} {f : Nat → Nat} (h : Cells w B o n f) (hb : Below M w w') (hB : B < M) : Cells w' B o n f := fun j hj => by rw [hb.cell (p := ⟨B, o + j, none⟩) hB]; exact h j hj
/-- What a cell holds, as a byte. -/
def byteAt (W : World) (B o : Nat) : Nat := match W.cell? ⟨B, o, none⟩ with | some (.int _ a) => a.toNat | _ => 0
set_option maxRecDepth 100000 in
theorem byteAt_is {W : World} {B o a : Nat} (h : W.cell? ⟨B, o, none⟩ = some (.int .u8 (a : Int))) : byteAt W B o = a := by
  unfold byteAt; rw [h]; rfl

/-- n bytes lie behind a pointer. -/
def BytesAt (w : World) (p : Option Addr) (n : Nat) (g : Nat → Nat) : Prop := n = 0 ∨ ∃ B o, p = some ⟨B, o, none⟩ ∧ B < w.heap.size ∧ Cells w B o n g
set_option maxRecDepth 100000 in
theorem BytesAt.below {w w' : World} {p : Option Addr} {n : Nat} {g : Nat → Nat} (h : BytesAt w p n g) (hb : Below w.heap.size w w') : BytesAt w' p n g := by
  rcases h with h | ⟨B, o, hp, hB, hc⟩
  · exact .inl h
  · exact .inr ⟨B, o, hp, Nat.lt_of_lt_of_le hB hb.size, hc.below hb hB⟩
set_option maxRecDepth 100000 in
theorem open_byteslice {H : Type} {enc : TypeId × Value → H} {W : World} {r : Reach} {b0 base : Nat} {spare : Nat → Bool} {held : Bool} {v : Value} {d : DataW H} {p : List MemPlace}
    (hv : Value.okWide Try.prog W r b0 22 v) (h : DataW.Trod enc Try.prog W base spare held 22 v d p) :
    ∃ (q : Option Addr) (n cap : Nat) (g : Nat → Nat), v = .slice q n cap ∧ (∀ i, i < n → g i < 256) ∧ BytesAt W q n g ∧ n ≤ cap ∧ cap ≤ maxLen := by
  have ht : Try.prog.underlying 22 = some (.slice 5) := Try.underlying22
  have ck : Try.prog.cellsOf 5 = 1 := by kernel_rfl
  obtain ⟨q, n, cap, rfl⟩ := okWide_slice ht hv
  obtain ⟨fuel, hf⟩ := h
  have hd : (Value.cells (.slice q n cap)).toList = [.slice q n cap] := rfl
  rw [hd] at hf
  rcases Deep.open_slice1 ht ck hf with ⟨h0, _⟩ | ⟨a, len, cap', m, k, V, D, Pl, h0, hb, hl, hm, hmm, _, hx⟩
  · simp only [List.cons.injEq, Value.slice.injEq, and_true] at h0
    obtain ⟨rfl, rfl, rfl⟩ := h0
    exact ⟨none, 0, 0, zeroK, rfl, fun i hi => absurd hi (Nat.not_lt_zero _), .inl rfl, Nat.le_refl _, Nat.zero_le _⟩
  · simp only [List.cons.injEq, Value.slice.injEq, and_true] at h0
    obtain ⟨rfl, rfl, rfl⟩ := h0
    by_cases h0 : n = 0
    · exact ⟨some a, n, cap, zeroK, rfl, fun i hi => absurd hi (by omega), .inl h0, hl, hm⟩
    · have hnm : n ≤ m := by rw [hmm]; split <;> omega
      have each : ∀ i, i < n → ∃ x : Nat, x < 256 ∧ W.cell? (a.add i) = some (.int .u8 x) := fun i hi => by
        obtain ⟨h1, h2⟩ := hx i (by omega)
        obtain ⟨x, hx1, _, hw⟩ := DataW.trod_int Try.underlying5 h2
        have hb := bounds_u8 hw
        simp only [List.cons.injEq, and_true] at hx1
        refine ⟨x.toNat, by omega, ?_⟩
        rw [show ((x.toNat : Nat) : Int) = x by omega, ← hx1]; exact h1
      obtain ⟨B, o, spot⟩ := a
      obtain ⟨x0, _, hx0⟩ := each 0 (by omega)
      have hspot : spot = none := by simpa [Addr.add] using World.cell?_spot hx0
      subst hspot
      simp only [add_plain] at each hx0
      refine ⟨_, n, cap, fun i => byteAt W B (o + i), rfl, fun i hi => ?_, .inr ⟨B, o, rfl, block_lt_of_cell hx0, fun i hi => ?_⟩, hl, hm⟩
      · obtain ⟨x, hx1, hx2⟩ := each i hi
        show byteAt W B (o + i) < 256
        rw [byteAt_is hx2]; exact hx1
      · obtain ⟨x, hx1, hx2⟩ := each i hi
        show W.cell? ⟨B, o + i, none⟩ = some (.int .u8 (byteAt W B (o + i) : Nat))
        rw [byteAt_is hx2]; exact hx2
end Go.Proofs.Ytebbnkkhabehmaa

/- Slices of bytes, made: all noughts. Condition: no more than 100000 bytes. -/
namespace Go.Proofs.Ytebbnkkhabehmaa
open Go.ChangeShapes Go.WideShapes Go.ChangeAt Go.RowKit

theorem made_zero {z : Array Value} {sz : Nat} (hz : z = cellsOf .u8 (mk sz zeroK)) (hs : 0 < sz) (n : Nat) : madeCells z n = cellsOf .u8 (mk n zeroK) := by
  subst hz
  apply Array.ext
  · rw [size_madeCells, cellsOf_size, mk_len]
  · intro i h1 h2
    have hi : i < n := by rw [size_madeCells] at h1; exact h1
    have hsz : (cellsOf .u8 (mk sz zeroK)).size = sz := by rw [cellsOf_size, mk_len]
    have hm : i % sz < sz := Nat.mod_lt _ hs
    have e2 := cellsOf_get .u8 (mk n zeroK) (i := i) (by rw [mk_len]; exact hi)
    rw [mk_get hi, Array.getElem?_eq_getElem h2] at e2
    have e1 := cellsOf_get .u8 (mk sz zeroK) (i := i % sz) (by rw [mk_len]; exact hm)
    rw [mk_get hm] at e1
    have e3 : (madeCells (cellsOf .u8 (mk sz zeroK)) n)[i] = (cellsOf .u8 (mk sz zeroK))[i % sz]! := by
      simp only [madeCells, Array.getElem_map, Array.getElem_range, hsz]
    rw [e3, Array.getElem!_eq_getD, Array.getD_eq_getD_getElem?, e1]
    simp only [Option.some.injEq] at e2
    rw [e2]; rfl
theorem bytesUnder : Try.prog.underlying 22 = some (.slice 5) := Try.underlying22
theorem byteInfo : (Try.prog.info? 5).map (·.size) = some 1 := by kernel_rfl
theorem byteBytes1 : (Try.prog.info? 5).map (·.bytes) = some 1 := by kernel_rfl
theorem byteZero1 : (Try.prog.info? 5).bind (·.zero) = some (.int .u8 0) := by kernel_rfl
theorem byteUnder1 : Try.prog.underlying 5 = some (.int .u8) := Try.underlying5
theorem wpList_make_noughts {ops : Array Oper} {rest : List Oper} {o : Oper} {a : Act} {w : World} {Q : Exit → Act → World → Prop} (hgd : o.guard = none) (x y : Operand) (ho : o.op = .makeSlice 22 x y) (M : Nat) (hM : M ≤ 100000) (hx : a.eval x = .int .i64 M) (hy : a.eval y = .int .i64 M)
    (h : wpList Try.prog ops Q rest (a.put o.dst (.slice (some ⟨w.heap.size, 0, none⟩) M M)) (w.alloc (.cells (cellsOf .u8 (mk M zeroK)) 5))) : wpList Try.prog ops Q (o :: rest) a w :=
  wpList_plain hgd fun _ hK => by
    have hi := byteInfo
    have hz := byteZero1
    have hb := byteBytes1
    cases hq : Try.prog.info? 5 with
    | none => rw [hq] at hi; simp at hi
    | some i =>
      rw [hq] at hi hz hb
      have hsz : i.size = 1 := by simpa using hi
      have hzz : i.zero = some (.int .u8 0) := by simpa using hz
      have hby : i.bytes = 1 := by simpa using hb
      have e := run_make (P := Try.prog) w 22 5 i _ bytesUnder hq hzz .i64 .i64 M M (by omega) (by omega) (by rw [hby]; omega) (by omega)
      have hc : (Value.int .u8 0).cells = cellsOf .u8 (mk 1 zeroK) := rfl
      rw [hsz, Int.toNat_natCast, made_zero hc (by omega), Nat.mul_one] at e
      unfold Oper.wp execOp
      simp only [ho]
      simp [hx, hy, e]
      exact hK _ _ h
end Go.Proofs.Ytebbnkkhabehmaa

/- Regions whose order Go leaves open, where each call may make memory of its own: one walk in the text's order serves every order, over a class of worlds; operations of any type. Condition: what the class keeps. -/
namespace Go.Proofs.Ytebbnkkhabehmaa
open Go Go.RowKit

theorem quiet_value {P : Program} {o : Oper} {a : Act} {C : World → Prop} {K : Act → Prop} (v : Value) (hr : ∀ w, C w → (execOp a.eval o).run P w = .ok (.value v) w) (hk : K (a.put o.dst v)) : o.quiet P a C K :=
  ⟨v, fun w hw => by unfold Oper.quietAt; rw [hr w hw]; exact ⟨rfl, rfl⟩, hk⟩
theorem quiet_call {P : Program} {o : Oper} {a : Act} {C : World → Prop} {K : Act → Prop} (f : FuncId) (args : Array Value) (v : Value) (hr : ∀ w, (execOp a.eval o).run P w = .ok (.enter f args) w)
    (hc : ∀ w, C w → Calls P f args w fun e w' => e = .returned v ∧ C w') (hk : K (a.put o.dst v)) : o.quiet P a C K :=
  ⟨v, fun w hw => by unfold Oper.quietAt; rw [hr w]; exact ⟨rfl, hc w hw⟩, hk⟩

theorem wp_region_class {P : Program} {id : Nat} {Q : Exit → Act → World → Prop} {a : Act} {w : World} {l : List Oper} (C : World → Prop) (hm : P.follows .mixedOrders = true) (hB : Region.lexB .any l.toArray = true) (hC : C w.drew)
    (h : wpQuiet P l.toArray C (fun a' => ∀ w', C w' → Q .normal a' w') l a) : (Code.region id l.toArray true).wp P Q a w :=
  wp_region_quiet (C := C) hm hB hC (by simpa using h)

theorem quiet_pick {o : Oper} {a : Act} {C : World → Prop} {K : Act → Prop} (c x y : Operand) (ho : o.op = .pick c x y) (hc : a.eval c = .bool true) (hx : a.eval x = .bool true) (hk : K (a.put o.dst (.bool true))) : o.quiet Try.prog a C K := by
  refine quiet_value _ (fun w _ => ?_) hk
  unfold execOp
  simp only [ho, hc, hx]
  simp [go_sem]
theorem quiet_calls {o : Oper} {a : Act} {C : World → Prop} {K : Act → Prop} (x : Operand) (xs : Array Operand) (ts : Array TypeId) (ho : o.op = .call { callee := .value x, args := xs, argTypes := ts }) (f : FuncId) (args : Array Value) (v : Value)
    (hx : a.eval x = .func (.func f) #[] #[]) (ha : xs.map a.eval = args) (hf : ∀ w, (callFunc f args).run Try.prog w = .ok (.enter f args) w)
    (hc : ∀ w, C w → Calls Try.prog f args w fun e w' => e = .returned v ∧ C w') (hk : K (a.put o.dst v)) : o.quiet Try.prog a C K := by
  refine quiet_call f args v (fun w => ?_) hc hk
  unfold execOp
  simp only [ho, resolve, hx, ha, Deferred.ofValue, Sem.run_bind, Sem.run_pure, Result.andThen_ok, invoke, Array.append_empty, Array.empty_append, hf w]
/-- A whole key stored, and the walk goes on. -/
theorem store_row_on {P : Program} {ops : Array Oper} {rest : List Oper} {o : Oper} {a : Act} {w : World} {Q : Exit → Act → World → Prop} (hgd : o.guard = none) (ty : TypeId) (x y : Operand) (ho : o.op = .store ty x y) (hd : o.dst = none)
    (g : Nat) (cells : Array Value) (hx : a.eval x = .pointer (some ⟨g, 0, none⟩)) (hy : a.eval y = .agg cells)
    (t : TypeId) (old : Array Value) (hg : w.heap[g]? = some (.cells old t (0, 0))) (hi : (P.info? ty).map (·.size) = some cells.size)
    (hold : old.size = cells.size) (h1 : cells.all (·.oneCell') = true)
    (h : wpList P ops Q rest a (w.setRow g cells)) : wpList P ops Q (o :: rest) a w :=
  wpList_store_row hgd ty x y ho g cells hx hy t old hg hi hold h1 (by rw [hd]; exact h)
/-- A call of a function that makes memory of its own alone, over the class of worlds in which nothing that was there has turned. -/
theorem class_of {W0 : World} {g : FuncId} {args : Array Value} {v : Value} (h : ∀ w, Calls Try.prog g args w fun e w' => e = .returned v ∧ Below w.heap.size w w') :
    ∀ w, Below W0.heap.size W0 w → Calls Try.prog g args w fun e w' => e = .returned v ∧ Below W0.heap.size W0 w' :=
  fun w hw => (h w).mono fun _ _ ⟨he, hb⟩ => ⟨he, hw.trans (hb.mono hw.size)⟩
/-- Integers; what is passed over. -/
theorem quiet_pick_no {o : Oper} {a : Act} {C : World → Prop} {K : Act → Prop} (c x y : Operand) (ho : o.op = .pick c x y) (hc : a.eval c = .bool false) (hy : a.eval y = .bool false) (hk : K (a.put o.dst (.bool false))) : o.quiet Try.prog a C K := by
  refine quiet_value _ (fun w _ => ?_) hk
  unfold execOp
  simp only [ho, hc, hy]
  simp [go_sem]
theorem quiet_int_add {o : Oper} {a : Act} {C : World → Prop} {K : Act → Prop} (x y : Operand) (ho : o.op = .binOp .add 3 x y 3) (i j r : Int) (hx : a.eval x = .int .i64 i) (hy : a.eval y = .int .i64 j)
    (h : IntKind.i64.wrap (i + j) = r) (hk : K (a.put o.dst (.int .i64 r))) : o.quiet Try.prog a C K := by
  refine quiet_value _ (fun w _ => ?_) hk
  unfold execOp
  simp only [ho, hx, hy]
  simp [go_sem, h]
theorem quiet_int_rem {o : Oper} {a : Act} {C : World → Prop} {K : Act → Prop} (x y : Operand) (ho : o.op = .binOp .rem 3 x y 3) (i j r : Int) (hx : a.eval x = .int .i64 i) (hy : a.eval y = .int .i64 j) (hj : j ≠ 0)
    (h : i.tmod j = r) (hk : K (a.put o.dst (.int .i64 r))) : o.quiet Try.prog a C K := by
  refine quiet_value _ (fun w _ => ?_) hk
  unfold execOp
  simp only [ho, hx, hy]
  simp [go_sem, h, hj]
/-- A call of a function of one value, of two, of three, of none. -/
theorem quiet_call0 {o : Oper} {a : Act} {C : World → Prop} {K : Act → Prop} (x : Operand) (ts : Array TypeId) (ho : o.op = .call { callee := .value x, args := #[], argTypes := ts }) (g : FuncId) (hx : a.eval x = .func (.func g) #[] #[])
    (r : Value) (hf : ∀ (args : Array Value) (w : World), (callFunc g args).run Try.prog w = .ok (.enter g args) w)
    (hc : ∀ w, C w → Calls Try.prog g #[] w fun e w' => e = .returned r ∧ C w') (hk : K (a.put o.dst r)) : o.quiet Try.prog a C K :=
  quiet_calls x #[] ts ho g _ _ hx (by simp only [List.map_toArray, List.map_nil]) (fun w => hf _ w) hc hk
theorem quiet_call1 {o : Oper} {a : Act} {C : World → Prop} {K : Act → Prop} (x y : Operand) (ts : Array TypeId) (ho : o.op = .call { callee := .value x, args := #[y], argTypes := ts }) (g : FuncId) (hx : a.eval x = .func (.func g) #[] #[])
    (u r : Value) (hy : a.eval y = u) (hf : ∀ (args : Array Value) (w : World), (callFunc g args).run Try.prog w = .ok (.enter g args) w)
    (hc : ∀ w, C w → Calls Try.prog g #[u] w fun e w' => e = .returned r ∧ C w') (hk : K (a.put o.dst r)) : o.quiet Try.prog a C K :=
  quiet_calls x #[y] ts ho g _ _ hx (by simp only [List.map_toArray, List.map_cons, List.map_nil, hy]) (fun w => hf _ w) hc hk
theorem quiet_call2 {o : Oper} {a : Act} {C : World → Prop} {K : Act → Prop} (x y z : Operand) (ts : Array TypeId) (ho : o.op = .call { callee := .value x, args := #[y, z], argTypes := ts }) (g : FuncId) (hx : a.eval x = .func (.func g) #[] #[])
    (u v r : Value) (hy : a.eval y = u) (hz : a.eval z = v) (hf : ∀ (args : Array Value) (w : World), (callFunc g args).run Try.prog w = .ok (.enter g args) w)
    (hc : ∀ w, C w → Calls Try.prog g #[u, v] w fun e w' => e = .returned r ∧ C w') (hk : K (a.put o.dst r)) : o.quiet Try.prog a C K :=
  quiet_calls x #[y, z] ts ho g _ _ hx (by simp only [List.map_toArray, List.map_cons, List.map_nil, hy, hz]) (fun w => hf _ w) hc hk
theorem quiet_call3 {o : Oper} {a : Act} {C : World → Prop} {K : Act → Prop} (x y z t : Operand) (ts : Array TypeId) (ho : o.op = .call { callee := .value x, args := #[y, z, t], argTypes := ts }) (g : FuncId) (hx : a.eval x = .func (.func g) #[] #[])
    (u v s r : Value) (hy : a.eval y = u) (hz : a.eval z = v) (ht : a.eval t = s) (hf : ∀ (args : Array Value) (w : World), (callFunc g args).run Try.prog w = .ok (.enter g args) w)
    (hc : ∀ w, C w → Calls Try.prog g #[u, v, s] w fun e w' => e = .returned r ∧ C w') (hk : K (a.put o.dst r)) : o.quiet Try.prog a C K :=
  quiet_calls x #[y, z, t] ts ho g _ _ hx (by simp only [List.map_toArray, List.map_cons, List.map_nil, hy, hz, ht]) (fun w => hf _ w) hc hk
/-- A whole array loaded. -/
theorem quiet_load_row {o : Oper} {a : Act} {C : World → Prop} {K : Act → Prop} (ty : TypeId) (x : Operand) (ho : o.op = .load ty x) (B : Nat) (k : IntKind) (l : List Int) (hx : a.eval x = .pointer (some ⟨B, 0, none⟩)) (n : Nat) (e : TypeId) (hu : Try.prog.underlying ty = some (.array n e))
    (hi : (Try.prog.info? ty).map (·.size) = some (cellsOf k l).size) (hB : ∀ w, C w → IntBlk w B k ty l) (hk : K (a.put o.dst (.agg (cellsOf k l)))) : o.quiet Try.prog a C K := by
  refine quiet_value _ (fun w hw => ?_) hk
  unfold execOp
  simp only [ho, hx, Instr.loadAt, Instr.sureAddr, Sem.run_bind, Sem.run_pure, Result.andThen_ok, run_loadVar_row w B ty ty _ (0, 0) _ (hB w hw) hu rfl hi]
end Go.Proofs.Ytebbnkkhabehmaa

/- A block of one bool; blocks of cells while a loop's record is turned. No condition. -/
namespace Go.Proofs.Ytebbnkkhabehmaa
open Go Go.RowKit

/-- A block that holds one bool. -/
def BoolBlk (w : World) (B : Nat) (t : TypeId) (x : Bool) : Prop := w.heap[B]? = some (.cells #[.bool x] t (0, 0))
theorem BoolBlk.lt {w : World} {B : Nat} {t : TypeId} {x : Bool} (h : BoolBlk w B t x) : B < w.heap.size := (Array.getElem?_eq_some_iff.1 h).1
theorem BoolBlk.below {w w' : World} {B M : Nat} {t : TypeId} {x : Bool} (h : BoolBlk w B t x) (hb : Below M w w') (hM : B < M) : BoolBlk w' B t x := by
  unfold BoolBlk; rw [hb.block B hM]; exact h

theorem BoolBlk.alloc {w : World} {B : Nat} {t : TypeId} {x : Bool} (h : BoolBlk w B t x) (o : Obj) : BoolBlk (w.alloc o) B t x := by
  unfold BoolBlk; rw [Below.heap_alloc _ _ _ h.lt]; exact h
theorem BoolBlk.other {w : World} {B : Nat} {t : TypeId} {x : Bool} (h : BoolBlk w B t x) {a : Addr} (ha : a.block ≠ B) (v : Value) : BoolBlk (w.setCell a v) B t x := by
  unfold BoolBlk; rw [Below.heap_setCell _ _ _ _ (fun e => ha e.symm)]; exact h
/-- A block of cells abides a turn of what is no cells. -/
theorem cells_turn {W : World} {B l : Nat} {c : Array Value} {t : TypeId} {o o' : Obj} (h : W.heap[B]? = some (.cells c t (0, 0))) (ho : W.heap[l]? = some o) (hc : o.isCells = false) : (W.putObj l o').heap[B]? = some (.cells c t (0, 0)) := by
  refine (World.putObj_heap_other (fun e => ?_)).trans h
  subst e; rw [h] at ho; cases ho; simp [Obj.isCells] at hc
theorem below_turn {M : Nat} {w W : World} {l : Nat} (o' : Obj) (h : Below M w W) (hl : M ≤ l) : Below M w (W.putObj l o') :=
  h.trans ⟨rfl, rfl, rfl, by simp, fun k hk => World.putObj_heap_other (by omega)⟩
end Go.Proofs.Ytebbnkkhabehmaa

/- A law for a loop over an iterator that ends: each round is numbered; the caller's invariant speaks of what lay ahead of the loop, the iterator's own memory lies behind it. Condition: the iterator's own contract under such an invariant. -/
namespace Go.Proofs.Ytebbnkkhabehmaa
open Go Go.RowKit

/-- What has lain from B on lies as it lay. -/
structure Aft (B : Nat) (W W' : World) : Prop where
  size : W.heap.size ≤ W'.heap.size
  same : ∀ k, B ≤ k → k < W.heap.size → W'.heap[k]? = W.heap[k]?
theorem Aft.refl (B : Nat) (W : World) : Aft B W W := ⟨Nat.le_refl _, fun _ _ _ => rfl⟩
theorem Aft.trans {B : Nat} {X Y Z : World} (h : Aft B X Y) (k : Aft B Y Z) : Aft B X Z :=
  ⟨Nat.le_trans h.size k.size, fun i hb hi => (k.same i hb (Nat.lt_of_lt_of_le hi h.size)).trans (h.same i hb hi)⟩
theorem Aft.mono {B C : Nat} {X Y : World} (h : Aft B X Y) (hb : B ≤ C) : Aft C X Y := ⟨h.size, fun k hk hi => h.same k (Nat.le_trans hb hk) hi⟩
theorem Aft.of_below {W W' : World} (B : Nat) (h : Below W.heap.size W W') : Aft B W W' := ⟨h.size, fun k _ hi => h.block k hi⟩
theorem Aft.call {B : Nat} {W W' W'' : World} (h : Aft B W W') (hb : Below W'.heap.size W' W'') : Aft B W W'' := h.trans (.of_below B hb)
theorem Aft.alloc {B : Nat} {W W' : World} (h : Aft B W W') (o : Obj) : Aft B W (W'.alloc o) := h.call ((Below.refl _ _).alloc (Nat.le_refl _) _)
theorem Aft.setCell {B : Nat} {W W' : World} (h : Aft B W W') {p : Addr} (hp : p.block < B) (v : Value) : Aft B W (W'.setCell p v) :=
  h.trans ⟨by simp [World.setCell], fun k hk _ => Below.heap_setCell _ _ _ _ (by omega)⟩
theorem Aft.drew {B : Nat} {W W' : World} (h : Aft B W W') : Aft B W W'.drew := ⟨h.size, h.same⟩
theorem below_put {M : Nat} {W : World} {l : Nat} (o' : Obj) (hl : M ≤ l) : Below M W (W.putObj l o') := ⟨rfl, rfl, rfl, by simp, fun k hk => World.putObj_heap_other (by omega)⟩

/-- How a round's body may be left: on to the next round; or by a jump. -/
def roundUp (B : Nat) (I : Nat → World → Prop) (Ix : Code → World → Prop) (i : Nat) (W : World) : Exit → Act → World → Prop
  | .normal, _, W' => Aft B W W' ∧ I (i + 1) W'
  | .ret, _, W' => Aft B W W' ∧ Ix .ret W'
  | .exit b, _, W' => Aft B W W' ∧ Ix (.exit b) W'
  | _, _, _ => False

/-- An iterator that hands yield M values, one in each round, as long as the caller goes with it: in round i one that Enc says. It reads what R says, and writes nothing that was there when it was called. -/
def GivesTo (F : Fence) (m : Nat) (P : Program) (gf : FuncId) (lb : Array Value) {X : Type} (enc : X → Array Value) (Enc : Nat → Nat → World → X → Prop) (M : Nat) (R : World → Prop) : Prop :=
  ∀ (l : Nat) (J : Nat → World → Prop) (Jx : World → Prop) (W : World), (∀ i V, J i V → R V) → (∀ i V V', J i V → Below W.heap.size V V' → J i V') → (∀ V V', Jx V → Below W.heap.size V V' → Jx V') →
    (∀ i V x, i < M → W.heap.size ≤ V.heap.size → J i V → Enc W.heap.size i V x → YieldAt F (m - 1) P l (enc x) V fun e V' => (e = .returned (.bool true) ∧ J (i + 1) V' ∧ Aft W.heap.size V V') ∨ (e = .returned (.bool false) ∧ Jx V' ∧ Aft W.heap.size V V')) →
    J 0 W → CallsIn F m P gf (#[.func (.yield l) #[] #[]] ++ lb) W fun e V' => (∃ v, e = .returned v) ∧ (J M V' ∨ Jx V')

theorem range_ends {P : Program} {F : Fence} {n : Nat} {g : Operand} {ps : Array Tmp} {assign body : Code} {Q : Exit → Act → World → Prop} {a : Act} {w : World} {X : Type}
    (hro : F.round = none) (h1 : 1 ≤ n) {gf : FuncId} {lb : Array Value} (hg : a.eval g = .func (.func gf) #[] lb) (hFg : F.fn gf) (eg : ∀ args v, (callFunc gf args).run P v = .ok (.enter gf args) v)
    (enc : X → Array Value) (Enc : Nat → Nat → World → X → Prop) (M : Nat) (R : World → Prop) (hps : ∀ x, (enc x).size = ps.size)
    (I : Nat → World → Prop) (Ix : Code → World → Prop) (hR : ∀ i V, I i V → R V)
    (hI : ∀ i V V', I i V → Below w.heap.size V V' → I i V') (hIx : ∀ c V V', Ix c V → Below w.heap.size V V' → Ix c V')
    (h0 : I 0 w) (hit : GivesTo F (n - 1) P gf lb enc Enc M R)
    (hround : ∀ l i x W, l = w.heap.size + 1 → i < M → w.heap.size + 2 ≤ W.heap.size → I i W → Enc (w.heap.size + 2) i W x →
      assign.wpIn (F.inRound l) (n - 1 - 1) P (Exit.then (fun a' W' => Aft w.heap.size W W' ∧ ∀ V, V.heap.size = W'.heap.size → (∀ k, k ≠ w.heap.size + 1 → V.heap[k]? = W'.heap[k]?) → Below w.heap.size W' V →
        body.wpIn (F.inRound l) (n - 1 - 1) P (roundUp w.heap.size I Ix i V) a' V) (fun _ _ _ => False)) { tmps := (ps.zip (enc x)).foldl (fun t (p, v) => t.setIfInBounds p v) a.tmps, defers := [] } W)
    (hdone : ∀ D W, w.heap.size ≤ D → I M W → W.heap[D]? = some (.deferred (some [])) → Q .normal { a with defers := { target := .collected D, args := #[] } :: a.defers } W)
    (hstop : ∀ D c W, w.heap.size ≤ D → Ix c W → W.heap[D]? = some (.deferred (some [])) → c.wpIn F n P Q { a with defers := { target := .collected D, args := #[] } :: a.defers } W) :
    (Code.rangeFunc g ps assign body).wpIn F n P Q a w := by
  refine wpIn_rangeFunc fun fn hfn => ?_
  rw [hro]
  generalize hD : w.heap.size = D at *
  obtain ⟨R', hR'⟩ : ∃ R' : LoopState → Option Code → Loop, R' = fun s p => { state := s, pending := p, fn := fn, tmps := a.tmps, params := ps, assign := assign, body := body, defers := D } := ⟨_, rfl⟩
  have hRs : ∀ s p, (R' s p).state = s := fun s p => by rw [hR']
  obtain ⟨V0, hV⟩ : ∃ V0, (w.alloc (.deferred (some []))).alloc (.loop (R' .ready none)) = V0 := ⟨_, rfl⟩
  have hVs : V0.heap.size = D + 2 := by rw [← hV]; simp [hD]
  have hVl : V0.heap[D + 1]? = some (.loop (R' .ready none)) := by
    have := World.alloc_heap_new (w.alloc (.deferred (some []))) (.loop (R' .ready none))
    rw [World.size_alloc, hD, hV] at this; exact this
  have hVD : V0.heap[D]? = some (.deferred (some [])) := by
    have e := World.alloc_heap_new w (.deferred (some []))
    rw [hD] at e
    rw [← hV]; exact (Below.heap_alloc _ _ _ (by rw [World.size_alloc]; omega)).trans e
  have hVb : Below D w V0 := by
    rw [← hV]; exact ((Below.refl _ w).alloc (by omega) _).alloc (by rw [World.size_alloc]; omega) _
  refine ⟨D + 1, [{ target := .collected D, args := #[] }], V0, { target := .fn (.func gf) lb, args := #[.func (.yield (D + 1)) #[] #[]] }, V0, gf, #[.func (.yield (D + 1)) #[] #[]] ++ lb, V0, ?_, ?_, ?_, ?_, fun _ => h1, ?_⟩
  · have e := run_enterLoop_outer (P := P) (w := w) fn a.tmps ps assign body
    rw [hD] at e; rw [e, ← hV, hR']
  · simp only [resolve, hg]; simp [go_sem]
  · intro f' hf'; simp [Target.leads] at hf'; subst hf'; exact hFg
  · simp [invoke, go_sem, eg]
  refine (hit (D + 1) (fun i W => I i W ∧ W.heap[D + 1]? = some (.loop (R' .ready none)) ∧ W.heap[D]? = some (.deferred (some [])))
    (fun W => ∃ c, Ix c W ∧ W.heap[D + 1]? = some (.loop (R' .done (some c))) ∧ W.heap[D]? = some (.deferred (some []))) V0 (fun i W h => hR i W h.1)
    (fun i U U' h hb => by
      rw [hVs] at hb
      exact ⟨hI i U U' h.1 (hb.mono (by omega)), (hb.block _ (by omega)).trans h.2.1, (hb.block _ (by omega)).trans h.2.2⟩)
    (fun U U' ⟨c, h, hl, hd⟩ hb => by
      rw [hVs] at hb
      exact ⟨c, hIx c U U' h (hb.mono (by omega)), (hb.block _ (by omega)).trans hl, (hb.block _ (by omega)).trans hd⟩) ?_ ⟨hI 0 _ _ h0 hVb, hVl, hVD⟩).mono ?_
  · rw [hVs]
    rintro i W x hiM hWs ⟨hi, hl, hd⟩ hx
    have hy := run_yield (P := P) (args := enc x) hl (by rw [hR']; exact hps x)
    rw [hR'] at hy
    refine ⟨fn, _, assign, body, hy, roundIn_of_wpIn hfn (wpIn_mono (hround (D + 1) i x W rfl hiM hWs hi hx) ?_)⟩
    rintro e a' W' hp
    cases e with
    | normal =>
      obtain ⟨hA, hp⟩ := hp
      have hl' := (hA.same (D + 1) (by omega) (by omega)).trans hl
      have hd' := (hA.same D (by omega) (by omega)).trans hd
      have hb := run_beginRound (P := P) hl' (hRs _ _)
      generalize hB : W'.putObj (D + 1) (.loop { R' .ready none with state := .busy }) = B at hb
      have lt' : D + 1 < W'.heap.size := (Array.getElem?_eq_some_iff.1 hl').1
      have hBl : B.heap[D + 1]? = some (.loop { R' .ready none with state := .busy }) := by rw [← hB]; exact World.putObj_heap_same lt'
      have hBo : ∀ k, k ≠ D + 1 → B.heap[k]? = W'.heap[k]? := fun k hk => by rw [← hB]; exact World.putObj_heap_other (by omega)
      have hBd : B.heap[D]? = some (.deferred (some [])) := (hBo D (by omega)).trans hd'
      have hBs : B.heap.size = W'.heap.size := by rw [← hB]; simp
      have hBb : Below D W' B := by rw [← hB]; exact below_put _ (by omega)
      refine ⟨B, hb, wpIn_mono (hp B hBs hBo hBb) ?_⟩
      -- at a round's end the record is laid back
      have back : ∀ (j : Option Code) (C : World), Aft D B C → ∃ E, (Instr.endRound (D + 1) j).run P C = .ok (.bool j.isNone) E ∧ E.heap[D + 1]? = some (.loop (R' (if j.isNone then .ready else .done) j)) ∧ E.heap[D]? = some (.deferred (some [])) ∧
          (∀ i, I i C → I i E) ∧ (∀ c, Ix c C → Ix c E) ∧ Aft (D + 2) W E := fun j C hk => by
        have hCl := (hk.same (D + 1) (by omega) (by omega)).trans hBl
        have hCd := (hk.same D (by omega) (by omega)).trans hBd
        have hCs := hk.size
        have hAs := hA.size
        refine ⟨_, run_endRound (P := P) j hCl, ?_, (World.putObj_heap_other (by omega)).trans hCd, fun i h => hI i C _ h (below_put _ (by omega)), fun c h => hIx c C _ h (below_put _ (by omega)), ⟨?_, fun k hk1 hk2 => ?_⟩⟩
        · rw [World.putObj_heap_same (Array.getElem?_eq_some_iff.1 hCl).1, hR']
        · simp; omega
        · rw [World.putObj_heap_other (by omega), hk.same k (by omega) (by omega), hBo k (by omega), hA.same k (by omega) hk2]
      rintro e2 b C hq
      cases e2 with
      | normal =>
        obtain ⟨E, he, e1, e2, e3, _, e4⟩ := back none C hq.1
        exact ⟨_, E, he, .inl ⟨rfl, ⟨e3 _ hq.2, e1, e2⟩, e4⟩⟩
      | ret =>
        obtain ⟨E, he, e1, e2, _, e3, e4⟩ := back (some .ret) C hq.1
        exact ⟨_, E, he, .inr ⟨rfl, ⟨_, e3 _ hq.2, e1, e2⟩, e4⟩⟩
      | exit k =>
        obtain ⟨E, he, e1, e2, _, e3, e4⟩ := back (some (.exit k)) C hq.1
        exact ⟨_, E, he, .inr ⟨rfl, ⟨_, e3 _ hq.2, e1, e2⟩, e4⟩⟩
      | goto t => exact hq.elim
      | panic t => exact hq.elim
      | outgrown => exact hq.elim
    | ret => exact hp.elim
    | exit k => exact hp.elim
    | goto t => exact hp.elim
    | panic t => exact hp.elim
    | outgrown => exact hp.elim
  · rintro e W ⟨⟨v, rfl⟩, hj⟩
    rcases hj with ⟨hi, hl, hd⟩ | ⟨c, hc, hl, hd⟩
    · have he := run_endLoop (P := P) hl (by rw [hRs]; simp)
      refine ⟨(R' .ready none).pending, _, he, ?_⟩
      rw [show (R' .ready none).pending = none by rw [hR']]
      exact hdone D _ (Nat.le_refl _) (hI _ _ _ hi (below_put _ (by omega))) ((World.putObj_heap_other (by omega)).trans hd)
    · have he := run_endLoop (P := P) hl (by rw [hRs]; simp)
      refine ⟨(R' .done (some c)).pending, _, he, ?_⟩
      rw [show (R' .done (some c)).pending = some c by rw [hR']]
      exact hstop D c _ (Nat.le_refl _) (hIx c _ _ hc (below_put _ (by omega))) ((World.putObj_heap_other (by omega)).trans hd)
end Go.Proofs.Ytebbnkkhabehmaa

/- A law for a loop over an iterator whose caller bounds the rounds (the iterator may have no end): as range_ends, but what is read may hang on the round. Condition: the iterator's own contract under such an invariant. -/
namespace Go.Proofs.Ytebbnkkhabehmaa
open Go Go.RowKit

/-- An iterator that hands yield M values, one in each round, as long as the caller goes with it: in round i one that Enc says. It reads what R says, and writes nothing that was there when it was called. -/
def GivesIn (F : Fence) (m : Nat) (P : Program) (gf : FuncId) (lb : Array Value) {X : Type} (enc : X → Array Value) (Enc : Nat → Nat → World → X → Prop) (M : Nat) (R : Nat → World → Prop) : Prop :=
  ∀ (l : Nat) (J : Nat → World → Prop) (Jx : World → Prop) (W : World), (∀ i V, J i V → R i V) → (∀ i V V', J i V → Below W.heap.size V V' → J i V') → (∀ V V', Jx V → Below W.heap.size V V' → Jx V') →
    (∀ i V x, i < M → W.heap.size ≤ V.heap.size → J i V → Enc W.heap.size i V x → YieldAt F (m - 1) P l (enc x) V fun e V' => (e = .returned (.bool true) ∧ J (i + 1) V' ∧ Aft W.heap.size V V') ∨ (e = .returned (.bool false) ∧ Jx V' ∧ Aft W.heap.size V V')) →
    J 0 W → CallsIn F m P gf (#[.func (.yield l) #[] #[]] ++ lb) W fun e V' => (∃ v, e = .returned v) ∧ (J M V' ∨ Jx V')

theorem range_till {P : Program} {F : Fence} {n : Nat} {g : Operand} {ps : Array Tmp} {assign body : Code} {Q : Exit → Act → World → Prop} {a : Act} {w : World} {X : Type}
    (hro : F.round = none) (h1 : 1 ≤ n) {gf : FuncId} {lb : Array Value} (hg : a.eval g = .func (.func gf) #[] lb) (hFg : F.fn gf) (eg : ∀ args v, (callFunc gf args).run P v = .ok (.enter gf args) v)
    (enc : X → Array Value) (Enc : Nat → Nat → World → X → Prop) (M : Nat) (R : Nat → World → Prop) (hps : ∀ x, (enc x).size = ps.size)
    (I : Nat → World → Prop) (Ix : Code → World → Prop) (hR : ∀ i V, I i V → R i V)
    (hI : ∀ i V V', I i V → Below w.heap.size V V' → I i V') (hIx : ∀ c V V', Ix c V → Below w.heap.size V V' → Ix c V')
    (h0 : I 0 w) (hit : GivesIn F (n - 1) P gf lb enc Enc M R)
    (hround : ∀ l i x W, l = w.heap.size + 1 → i < M → w.heap.size + 2 ≤ W.heap.size → I i W → Enc (w.heap.size + 2) i W x →
      assign.wpIn (F.inRound l) (n - 1 - 1) P (Exit.then (fun a' W' => Aft w.heap.size W W' ∧ ∀ V, V.heap.size = W'.heap.size → (∀ k, k ≠ w.heap.size + 1 → V.heap[k]? = W'.heap[k]?) → Below w.heap.size W' V →
        body.wpIn (F.inRound l) (n - 1 - 1) P (roundUp w.heap.size I Ix i V) a' V) (fun _ _ _ => False)) { tmps := (ps.zip (enc x)).foldl (fun t (p, v) => t.setIfInBounds p v) a.tmps, defers := [] } W)
    (hdone : ∀ D W, w.heap.size ≤ D → I M W → W.heap[D]? = some (.deferred (some [])) → Q .normal { a with defers := { target := .collected D, args := #[] } :: a.defers } W)
    (hstop : ∀ D c W, w.heap.size ≤ D → Ix c W → W.heap[D]? = some (.deferred (some [])) → c.wpIn F n P Q { a with defers := { target := .collected D, args := #[] } :: a.defers } W) :
    (Code.rangeFunc g ps assign body).wpIn F n P Q a w := by
  refine wpIn_rangeFunc fun fn hfn => ?_
  rw [hro]
  generalize hD : w.heap.size = D at *
  obtain ⟨R', hR'⟩ : ∃ R' : LoopState → Option Code → Loop, R' = fun s p => { state := s, pending := p, fn := fn, tmps := a.tmps, params := ps, assign := assign, body := body, defers := D } := ⟨_, rfl⟩
  have hRs : ∀ s p, (R' s p).state = s := fun s p => by rw [hR']
  obtain ⟨V0, hV⟩ : ∃ V0, (w.alloc (.deferred (some []))).alloc (.loop (R' .ready none)) = V0 := ⟨_, rfl⟩
  have hVs : V0.heap.size = D + 2 := by rw [← hV]; simp [hD]
  have hVl : V0.heap[D + 1]? = some (.loop (R' .ready none)) := by
    have := World.alloc_heap_new (w.alloc (.deferred (some []))) (.loop (R' .ready none))
    rw [World.size_alloc, hD, hV] at this; exact this
  have hVD : V0.heap[D]? = some (.deferred (some [])) := by
    have e := World.alloc_heap_new w (.deferred (some []))
    rw [hD] at e
    rw [← hV]; exact (Below.heap_alloc _ _ _ (by rw [World.size_alloc]; omega)).trans e
  have hVb : Below D w V0 := by
    rw [← hV]; exact ((Below.refl _ w).alloc (by omega) _).alloc (by rw [World.size_alloc]; omega) _
  refine ⟨D + 1, [{ target := .collected D, args := #[] }], V0, { target := .fn (.func gf) lb, args := #[.func (.yield (D + 1)) #[] #[]] }, V0, gf, #[.func (.yield (D + 1)) #[] #[]] ++ lb, V0, ?_, ?_, ?_, ?_, fun _ => h1, ?_⟩
  · have e := run_enterLoop_outer (P := P) (w := w) fn a.tmps ps assign body
    rw [hD] at e; rw [e, ← hV, hR']
  · simp only [resolve, hg]; simp [go_sem]
  · intro f' hf'; simp [Target.leads] at hf'; subst hf'; exact hFg
  · simp [invoke, go_sem, eg]
  refine (hit (D + 1) (fun i W => I i W ∧ W.heap[D + 1]? = some (.loop (R' .ready none)) ∧ W.heap[D]? = some (.deferred (some [])))
    (fun W => ∃ c, Ix c W ∧ W.heap[D + 1]? = some (.loop (R' .done (some c))) ∧ W.heap[D]? = some (.deferred (some []))) V0 (fun i W h => hR i W h.1)
    (fun i U U' h hb => by
      rw [hVs] at hb
      exact ⟨hI i U U' h.1 (hb.mono (by omega)), (hb.block _ (by omega)).trans h.2.1, (hb.block _ (by omega)).trans h.2.2⟩)
    (fun U U' ⟨c, h, hl, hd⟩ hb => by
      rw [hVs] at hb
      exact ⟨c, hIx c U U' h (hb.mono (by omega)), (hb.block _ (by omega)).trans hl, (hb.block _ (by omega)).trans hd⟩) ?_ ⟨hI 0 _ _ h0 hVb, hVl, hVD⟩).mono ?_
  · rw [hVs]
    rintro i W x hiM hWs ⟨hi, hl, hd⟩ hx
    have hy := run_yield (P := P) (args := enc x) hl (by rw [hR']; exact hps x)
    rw [hR'] at hy
    refine ⟨fn, _, assign, body, hy, roundIn_of_wpIn hfn (wpIn_mono (hround (D + 1) i x W rfl hiM hWs hi hx) ?_)⟩
    rintro e a' W' hp
    cases e with
    | normal =>
      obtain ⟨hA, hp⟩ := hp
      have hl' := (hA.same (D + 1) (by omega) (by omega)).trans hl
      have hd' := (hA.same D (by omega) (by omega)).trans hd
      have hb := run_beginRound (P := P) hl' (hRs _ _)
      generalize hB : W'.putObj (D + 1) (.loop { R' .ready none with state := .busy }) = B at hb
      have lt' : D + 1 < W'.heap.size := (Array.getElem?_eq_some_iff.1 hl').1
      have hBl : B.heap[D + 1]? = some (.loop { R' .ready none with state := .busy }) := by rw [← hB]; exact World.putObj_heap_same lt'
      have hBo : ∀ k, k ≠ D + 1 → B.heap[k]? = W'.heap[k]? := fun k hk => by rw [← hB]; exact World.putObj_heap_other (by omega)
      have hBd : B.heap[D]? = some (.deferred (some [])) := (hBo D (by omega)).trans hd'
      have hBs : B.heap.size = W'.heap.size := by rw [← hB]; simp
      have hBb : Below D W' B := by rw [← hB]; exact below_put _ (by omega)
      refine ⟨B, hb, wpIn_mono (hp B hBs hBo hBb) ?_⟩
      -- at a round's end the record is laid back
      have back : ∀ (j : Option Code) (C : World), Aft D B C → ∃ E, (Instr.endRound (D + 1) j).run P C = .ok (.bool j.isNone) E ∧ E.heap[D + 1]? = some (.loop (R' (if j.isNone then .ready else .done) j)) ∧ E.heap[D]? = some (.deferred (some [])) ∧
          (∀ i, I i C → I i E) ∧ (∀ c, Ix c C → Ix c E) ∧ Aft (D + 2) W E := fun j C hk => by
        have hCl := (hk.same (D + 1) (by omega) (by omega)).trans hBl
        have hCd := (hk.same D (by omega) (by omega)).trans hBd
        have hCs := hk.size
        have hAs := hA.size
        refine ⟨_, run_endRound (P := P) j hCl, ?_, (World.putObj_heap_other (by omega)).trans hCd, fun i h => hI i C _ h (below_put _ (by omega)), fun c h => hIx c C _ h (below_put _ (by omega)), ⟨?_, fun k hk1 hk2 => ?_⟩⟩
        · rw [World.putObj_heap_same (Array.getElem?_eq_some_iff.1 hCl).1, hR']
        · simp; omega
        · rw [World.putObj_heap_other (by omega), hk.same k (by omega) (by omega), hBo k (by omega), hA.same k (by omega) hk2]
      rintro e2 b C hq
      cases e2 with
      | normal =>
        obtain ⟨E, he, e1, e2, e3, _, e4⟩ := back none C hq.1
        exact ⟨_, E, he, .inl ⟨rfl, ⟨e3 _ hq.2, e1, e2⟩, e4⟩⟩
      | ret =>
        obtain ⟨E, he, e1, e2, _, e3, e4⟩ := back (some .ret) C hq.1
        exact ⟨_, E, he, .inr ⟨rfl, ⟨_, e3 _ hq.2, e1, e2⟩, e4⟩⟩
      | exit k =>
        obtain ⟨E, he, e1, e2, _, e3, e4⟩ := back (some (.exit k)) C hq.1
        exact ⟨_, E, he, .inr ⟨rfl, ⟨_, e3 _ hq.2, e1, e2⟩, e4⟩⟩
      | goto t => exact hq.elim
      | panic t => exact hq.elim
      | outgrown => exact hq.elim
    | ret => exact hp.elim
    | exit k => exact hp.elim
    | goto t => exact hp.elim
    | panic t => exact hp.elim
    | outgrown => exact hp.elim
  · rintro e W ⟨⟨v, rfl⟩, hj⟩
    rcases hj with ⟨hi, hl, hd⟩ | ⟨c, hc, hl, hd⟩
    · have he := run_endLoop (P := P) hl (by rw [hRs]; simp)
      refine ⟨(R' .ready none).pending, _, he, ?_⟩
      rw [show (R' .ready none).pending = none by rw [hR']]
      exact hdone D _ (Nat.le_refl _) (hI _ _ _ hi (below_put _ (by omega))) ((World.putObj_heap_other (by omega)).trans hd)
    · have he := run_endLoop (P := P) hl (by rw [hRs]; simp)
      refine ⟨(R' .done (some c)).pending, _, he, ?_⟩
      rw [show (R' .done (some c)).pending = some c by rw [hR']]
      exact hstop D c _ (Nat.le_refl _) (hIx c _ _ hc (below_put _ (by omega))) ((World.putObj_heap_other (by omega)).trans hd)
end Go.Proofs.Ytebbnkkhabehmaa

/- Regions whose order Go leaves open, whose head only computes and calls (each call leaving a world of a class), and whose end is carried out in the text's order behind all of the head: one walk serves every order. Condition: what the class keeps. -/
namespace Go.Proofs.Ytebbnkkhabehmaa
open Go

section
variable {P : Program} {ops : Array Oper} {md : Region.Mode} {C : World → Prop}
/-- So many operations, each of the head, in whatever order; then L. -/
def headQ (P : Program) (md : Region.Mode) (ops : Array Oper) (C : World → Prop) (n : Nat) (L : Array Bool → Act → Prop) : Nat → Array Bool → Act → Prop
  | 0, done, a => L done a
  | m + 1, done, a => Region.ready md ops done ≠ [] ∧ ∀ j ∈ Region.ready md ops done, j < n ∧ qOp P ops C j (headQ P md ops C n L m (done.setIfInBounds j true)) a

theorem any_of_headQ {n g : Nat} {L : Array Bool → Act → Prop} {Q : Exit → Act → World → Prop} (end_ : ∀ done a w, C w → L done a → wpAny P md ops Q g done a w) (m : Nat) :
    ∀ (done : Array Bool) (a : Act) (w : World), C w → headQ P md ops C n L m done a → wpAny P md ops Q (m + g) done a w := by
  induction m with
  | zero => intro done a w hw h; rw [Nat.zero_add]; exact end_ done a w hw h
  | succ m ih =>
    intro done a w hw h
    rw [show m + 1 + g = m + g + 1 by omega]
    refine ⟨fun e => absurd e h.1, fun j hj => ?_⟩
    exact wpOp_of_qOp hw (fun a' w' hw' h' => ih _ a' w' hw' h') (h.2 j hj).2

theorem headQ_pick {n k : Nat} {o : Oper} {v : Value} {L : Array Bool → Act → Prop} (ho : ops[k]? = some o) (sel : ∀ (j : Nat) (o' : Oper) cs b, ops[j]? = some o' → o'.op ≠ .select cs b)
    (hs : Region.sinkB md ops n = true) (hc : Region.chainB md ops n = true) (hn : n < ops.size) (hk : k < n) (over : ∀ done a, L done a → ∀ j ∈ Region.ready md ops done, n ≤ j) (m : Nat) :
    ∀ (done : Array Bool) (a : Act), HeadInv md ops n done →
      (∀ j o', ops[j]? = some o' → j ≠ k → done.getD j true = false → (∀ e ∈ o'.after, Region.binds md e = true → e.on ≠ k) → o.apart ops o' = true) →
      k ∈ Region.ready md ops done → YieldsIn P ops C o v a → headQ P md ops C n L m (done.setIfInBounds k true) (a.put o.dst v) → headQ P md ops C n L (m + 1) done a := by
  induction m with
  | zero =>
    intro done a inv _ hr hy H
    refine ⟨List.ne_nil_of_mem hr, fun j hj => ?_⟩
    have lt : j < n := Nat.lt_of_not_le fun h => tail_waits hs hc hn inv _ k rfl hk (mem_ready.1 hr).1 j h hj
    refine ⟨lt, ?_⟩
    by_cases e : j = k
    · rw [e]; exact hy.qOp ho H
    · exact absurd (over _ _ H j (ready_mono hj e)) (by omega)
  | succ m ih =>
    intro done a inv free hr hy H
    have hun := (mem_ready.1 hr).1
    refine ⟨List.ne_nil_of_mem hr, fun j hj => ?_⟩
    have lt : j < n := Nat.lt_of_not_le fun h => tail_waits hs hc hn inv _ k rfl hk hun j h hj
    refine ⟨lt, ?_⟩
    by_cases e : j = k
    · rw [e]; exact hy.qOp ho H
    · obtain ⟨uj, oj, hoj, after⟩ := mem_ready.1 hj
      have no : ∀ x ∈ oj.after, Region.binds md x = true → x.on ≠ k := fun x hx hb he => by
        have := after x hx hb
        rw [he, getD_both hun] at this
        exact Bool.noConfusion this
      have both := qOp_put hoj (free j oj hoj e uj no) (fun cs b => sel k o cs b ho) (fun cs b => sel j oj cs b hoj) hy (H.2 j (ready_mono hj e)).2
      refine qOp_mono (fun a' ⟨y, z⟩ => ih (done.setIfInBounds j true) a' (inv.set hj lt) (fun i oi hi hik ui noi => ?_) (ready_mono hr (Ne.symm e)) y ?_) both
      · refine free i oi hi hik ?_ noi
        by_cases eji : j = i
        · rw [← eji]; exact uj
        · rwa [getD_set_ne true eji] at ui
      · rw [Array.setIfInBounds_comm _ _ e]; exact z

theorem headQ_walk {n g : Nat} {K : Act → Prop} (sel : Region.noSelect ops = true) (hs : Region.sinkB md ops n = true) (hc : Region.chainB md ops n = true) (hn : n < ops.size) (l : List Oper) :
    ∀ (k : Nat) (done : Array Bool) (a : Act), (∀ j, j < l.length → l[j]? = ops[k + j]?) → k + l.length = n → HeadInv md ops n done → Region.lexHead md ops g l.length k done = true → wpQuiet P ops C K l a →
    headQ P md ops C n (fun done' a' => Region.seqB md ops g n done' = true ∧ K a') l.length done a := by
  induction l with
  | nil =>
    intro k done a _ hk _ hB h
    have e : k = n := by simpa using hk
    rw [e] at hB
    exact ⟨hB, h⟩
  | cons o l ih =>
    intro k done a hl hk inv hB h
    have ho : ops[k]? = some o := by simpa using (hl 0 (by simp)).symm
    simp only [List.length_cons] at hk hB
    unfold Region.lexHead at hB
    simp only [Bool.and_eq_true] at hB
    have hr : k ∈ Region.ready md ops done := by simpa using hB.1.1
    have hq : qOp P ops C k (wpQuiet P ops C K l) a := by unfold qOp; simp only [ho]; exact h
    obtain ⟨v, hy, hK⟩ := yieldsIn_of_qOp ho hq
    refine headQ_pick ho (Region.noSelect_spec sel) hs hc hn (by omega) (fun done' a' hL => seqB_ready hL.1) l.length done a inv (Region.free_spec ho hB.1.2) hr hy ?_
    refine ih (k + 1) _ _ (fun j hj => ?_) (by omega) (inv.set hr (by omega)) hB.2 hK
    have := hl (j + 1) (by simp; omega)
    simpa [Nat.add_assoc, Nat.add_comm 1 j] using this

/-- The first n operations over the class, the rest in the text's order. -/
theorem any_class_tail {Q : Exit → Act → World → Prop} {a : Act} {w : World} {l : List Oper} (n : Nat) (C : World → Prop) (hB : Region.lexTailB .any l.toArray n = true) (hC : C w.drew)
    (h : wpQuiet P l.toArray C (fun a' => ∀ w', C w' → wpList P l.toArray Q (l.drop n) a' w') (l.take n) a) : wpAny P .any l.toArray Q l.toArray.size (Array.replicate l.toArray.size false) a w.drew := by
  unfold Region.lexTailB at hB
  simp only [Bool.and_eq_true, decide_eq_true_eq] at hB
  obtain ⟨⟨⟨⟨sel, hn⟩, hs⟩, hc⟩, lex⟩ := hB
  have hlt : n < l.length := by simpa using hn
  have ht : (l.take n).length = n := by simp; omega
  have hd : (l.drop n).length = l.toArray.size - n := by simp
  have inv : HeadInv .any l.toArray n (Array.replicate l.toArray.size false) := by
    refine ⟨by simp, fun j o _ hl => ?_, fun t _ h2 => getD_in (by simpa using h2) (getD_replicate_false _ _)⟩
    rw [getD_replicate_false] at hl; exact Bool.noConfusion hl
  have H := headQ_walk (md := .any) (g := l.toArray.size - n) sel hs hc hn (l.take n) 0 _ a (fun j hj => by simp [show j < n by omega]) (by simpa using ht) inv (by rw [ht]; exact lex) h
  have R := any_of_headQ (Q := Q) (g := l.toArray.size - n) (fun done a' w' hw' hL => by
    have := wpAny_of_seq (md := .any) (Q' := Q) (l.drop n) n done a' w' (fun j => by simp [List.getElem?_drop]) (by rw [hd]; exact hL.1) (hL.2 w' hw')
    rwa [hd] at this) _ _ _ w.drew hC H
  rw [ht, show n + (l.toArray.size - n) = l.toArray.size by omega] at R
  exact R
theorem wp_region_class_tail {id : Nat} {Q : Exit → Act → World → Prop} {a : Act} {w : World} {l : List Oper} (n : Nat) (C : World → Prop) (hm : P.follows .mixedOrders = true) (hB : Region.lexTailB .any l.toArray n = true) (hC : C w.drew)
    (h : wpQuiet P l.toArray C (fun a' => ∀ w', C w' → wpList P l.toArray Q (l.drop n) a' w') (l.take n) a) : (Code.region id l.toArray true).wp P Q a w :=
  wp_region_any hm (any_class_tail n C hB hC h)
end
end Go.Proofs.Ytebbnkkhabehmaa

/- Regions whose order Go leaves open, by one order of their operations: operations that only compute may float, every other one is carried out where nothing else is left to do before it. A walk of that one order serves every order, and may make memory as it goes. Condition: what the class of worlds keeps. -/
namespace Go.Proofs.Ytebbnkkhabehmaa
open Go

section
variable {P : Program} {ops : Array Oper} {md : Region.Mode} {C : World → Prop} {Q : Exit → Act → World → Prop}

/-- What an operation leaves: a value and a world. No panic. -/
def doneUpon (P : Program) (K : Value → World → Prop) : Result Next → Prop
  | .ok (.value u) w' => K u w'
  | .ok .skip w' => K undef w'
  | .ok (.enter f args) w' => Calls P f args w' fun e w'' => ∃ u, e = .returned u ∧ K u w''
  | _ => False
def doneAt (P : Program) (o : Oper) (a : Act) (w : World) (K : Value → World → Prop) : Prop := doneUpon P K ((execOp a.eval o).run P w)
theorem doneUpon_mono {K K' : Value → World → Prop} (h : ∀ u w', K u w' → K' u w') {r : Result Next} (hh : doneUpon P K r) : doneUpon P K' r := by
  cases r with
  | halt x w' => exact hh
  | ok n w' =>
    cases n with
    | value u => exact h _ _ hh
    | skip => exact h _ _ hh
    | enter f args => exact Calls.mono hh fun e w'' ⟨u, he, hu⟩ => ⟨u, he, h _ _ hu⟩
    | _ => exact hh
theorem wp_of_done {o : Oper} {a : Act} {w : World} {K : Act → World → Prop} (h : doneAt P o a w fun u w' => K (a.put o.dst u) w') : o.wp P a w K Q := by
  unfold doneAt at h
  unfold Oper.wp
  generalize (execOp a.eval o).run P w = r at *
  cases r with
  | halt x w' => exact h.elim
  | ok n w' =>
    cases n with
    | value u => exact h
    | skip => exact h
    | enter f args => exact Calls.mono h fun e w'' ⟨u, he, hu⟩ => by subst he; exact hu
    | _ => exact h.elim

def stepC (P : Program) (ops : Array Oper) (C : World → Prop) (i : Nat) (K : Act → World → Prop) (a : Act) (w : World) : Prop :=
  match ops[i]? with
  | none => K a w
  | some o => if Region.wanted o (yielded ops a.tmps) then doneAt P o a w fun u w' => C w' ∧ K (a.put o.dst u) w' else K (a.put o.dst undef) w
theorem stepC_mono {i : Nat} {a : Act} {w : World} {K K' : Act → World → Prop} (hC : C w) (h : ∀ a' w', C w' → K a' w' → K' a' w') (hh : stepC P ops C i K a w) : stepC P ops C i K' a w := by
  unfold stepC at *
  split
  · rename_i e; simp only [e] at hh; exact h _ _ hC hh
  · rename_i o e
    simp only [e] at hh
    split
    · rename_i hw; simp only [hw, if_true] at hh; exact doneUpon_mono (fun u w' ⟨c, k⟩ => ⟨c, h _ _ c k⟩) hh
    · rename_i hw; simp only [hw] at hh; exact h _ _ hC hh
def anyC (P : Program) (md : Region.Mode) (ops : Array Oper) (C : World → Prop) (Q : Act → World → Prop) : Nat → Array Bool → Act → World → Prop
  | 0, L, a, w => Region.ready md ops L = [] ∧ Q a w
  | m + 1, L, a, w => (Region.ready md ops L = [] → Q a w) ∧ ∀ i ∈ Region.ready md ops L, stepC P ops C i (anyC P md ops C Q m (L.setIfInBounds i true)) a w
theorem any_of_anyC {R : Act → World → Prop} (hR : ∀ a w, C w → R a w → Q .normal a w) : ∀ (m : Nat) (L : Array Bool) (a : Act) (w : World), C w → anyC P md ops C R m L a w → wpAny P md ops Q m L a w
  | 0, _, _, _, hw, h => ⟨h.1, hR _ _ hw h.2⟩
  | m + 1, L, a, w, hw, h => ⟨fun e => hR _ _ hw (h.1 e), fun i hi => by
      have hs := h.2 i hi
      unfold stepC at hs
      unfold wpOp
      split
      · rename_i e; simp only [e] at hs; exact any_of_anyC hR m _ _ _ hw hs
      · rename_i o e
        simp only [e] at hs
        split
        · rename_i hwd; simp only [hwd, if_true] at hs
          exact .inl (wp_of_done (doneUpon_mono (fun u w' ⟨c, k⟩ => any_of_anyC hR m _ _ _ c k) hs))
        · rename_i hwd; simp only [hwd] at hs; exact any_of_anyC hR m _ _ _ hw hs⟩

/-- An operation that only computes: one value in every world of the class. -/
def Gives (P : Program) (C : World → Prop) (o : Oper) (a : Act) (v : Value) : Prop := ∀ w, C w → (execOp a.eval o).run P w = .ok (.value v) w
def GivesIf (P : Program) (ops : Array Oper) (C : World → Prop) (o : Oper) (a : Act) (v : Value) : Prop :=
  (Region.wanted o (yielded ops a.tmps) = true ∧ Gives P C o a v) ∨ (Region.wanted o (yielded ops a.tmps) = false ∧ v = undef)
theorem GivesIf.keeps {o : Oper} {v : Value} {a a' : Act} (h : GivesIf P ops C o a v) (he : execOp a'.eval o = execOp a.eval o) (hw : Region.wanted o (yielded ops a'.tmps) = Region.wanted o (yielded ops a.tmps)) : GivesIf P ops C o a' v := by
  unfold GivesIf Gives at *
  rw [he, hw]; exact h
theorem GivesIf.step {i : Nat} {o : Oper} {v : Value} {a : Act} {w : World} {K : Act → World → Prop} (hi : ops[i]? = some o) (hC : C w) (h : GivesIf P ops C o a v) (hk : K (a.put o.dst v) w) : stepC P ops C i K a w := by
  unfold stepC
  simp only [hi]
  rcases h with ⟨hw, hv⟩ | ⟨hw, rfl⟩
  · simp only [hw, if_true]; unfold doneAt; rw [hv w hC]; exact ⟨hC, hk⟩
  · simp only [hw, Bool.false_eq_true, if_false]; exact hk
theorem stepC_put {j : Nat} {oi oj : Oper} {v : Value} (hj : ops[j]? = some oj) (hap : oi.apart ops oj = true) (si : ∀ cs b, oi.op ≠ .select cs b) (sj : ∀ cs b, oj.op ≠ .select cs b) {K : Act → World → Prop} {a : Act} {w : World}
    (hy : GivesIf P ops C oi a v) (h : stepC P ops C j K (a.put oi.dst v) w) : stepC P ops C j (fun a' w' => GivesIf P ops C oi a' v ∧ K (a'.put oi.dst v) w') a w := by
  obtain ⟨h1, h2, h3⟩ := Oper.apart_spec hap
  have keep : ∀ u, GivesIf P ops C oi (a.put oj.dst u) v := fun u => hy.keeps (execOp_put oi si a oj.dst u h3) (wanted_put oi a oj.dst u h3)
  unfold stepC at *
  simp only [hj] at *
  rw [wanted_put oj a oi.dst v h1] at h
  split
  · rename_i hw
    simp only [hw, if_true] at h
    unfold doneAt at *
    rw [execOp_put oj sj a oi.dst v h1] at h
    exact doneUpon_mono (fun u w' ⟨c, k⟩ => ⟨c, keep u, by rw [← Act.put_comm a v u h2]; exact k⟩) h
  · rename_i hw
    simp only [hw] at h
    exact ⟨keep _, by rw [← Act.put_comm a v undef h2]; exact h⟩
theorem not_listed {L : Array Bool} {i : Nat} (h : L.getD i true = false) : L.getD i false = false := by
  rcases Nat.lt_or_ge i L.size with l | l
  · simp [l] at h ⊢; exact h
  · simp [Array.getElem?_eq_none l] at h
theorem anyC_first {R : Act → World → Prop} {i : Nat} {o : Oper} {v : Value} (hi : ops[i]? = some o) (sel : ∀ (j : Nat) (o' : Oper) cs b, ops[j]? = some o' → o'.op ≠ .select cs b) (m : Nat) :
    ∀ (L : Array Bool) (a : Act) (w : World), C w →
      (∀ j o', ops[j]? = some o' → j ≠ i → L.getD j true = false → (∀ e ∈ o'.after, Region.binds md e = true → e.on ≠ i) → o.apart ops o' = true) →
      i ∈ Region.ready md ops L → GivesIf P ops C o a v → anyC P md ops C R m (L.setIfInBounds i true) (a.put o.dst v) w → anyC P md ops C R (m + 1) L a w := by
  induction m with
  | zero =>
    intro L a w hC _ hr hy H
    refine ⟨fun e => absurd hr (by rw [e]; exact List.not_mem_nil), fun j hj => ?_⟩
    by_cases e : j = i
    · subst e; exact hy.step hi hC H
    · have := ready_mono hj e
      rw [H.1] at this; exact absurd this List.not_mem_nil
  | succ m ih =>
    intro L a w hC free hr hy H
    refine ⟨fun e => absurd hr (by rw [e]; exact List.not_mem_nil), fun j hj => ?_⟩
    by_cases e : j = i
    · subst e; exact hy.step hi hC H
    · obtain ⟨uj, oj, hoj, after⟩ := mem_ready.1 hj
      have un := not_listed (mem_ready.1 hr).1
      have no : ∀ x ∈ oj.after, Region.binds md x = true → x.on ≠ i := fun x hx hb he => by
        have := after x hx hb
        rw [he, un] at this
        exact Bool.noConfusion this
      have both := stepC_put hoj (free j oj hoj e uj no) (fun cs b => sel i o cs b hi) (fun cs b => sel j oj cs b hoj) hy (H.2 j (ready_mono hj e))
      refine stepC_mono hC (fun a' w' c ⟨y, z⟩ => ih (L.setIfInBounds j true) a' w' c (fun k ok hk hki uk nok => ?_) (ready_mono hr (Ne.symm e)) y ?_) both
      · refine free k ok hk hki ?_ nok
        by_cases ejk : j = k
        · rw [← ejk]; exact uj
        · rwa [getD_set_ne true ejk] at uk
      · rw [Array.setIfInBounds_comm _ _ e]; exact z

/-- The walk of one order: 'true' stands by an operation that floats. -/
def walkS (P : Program) (ops : Array Oper) (C : World → Prop) (R : Act → World → Prop) : List (Nat × Bool) → Act → World → Prop
  | [], a, w => R a w
  | (i, true) :: l, a, w => ∃ o v, ops[i]? = some o ∧ GivesIf P ops C o a v ∧ walkS P ops C R l (a.put o.dst v) w
  | (i, false) :: l, a, w => ∃ o, ops[i]? = some o ∧ ((Region.wanted o (yielded ops a.tmps) = true ∧ doneAt P o a w fun u w' => C w' ∧ walkS P ops C R l (a.put o.dst u) w') ∨ (Region.wanted o (yielded ops a.tmps) = false ∧ walkS P ops C R l (a.put o.dst undef) w))
def schedB (md : Region.Mode) (ops : Array Oper) : List (Nat × Bool) → Array Bool → Bool
  | [], L => (Region.ready md ops L).isEmpty
  | (i, true) :: l, L => (Region.ready md ops L).contains i && Region.free md ops L i && schedB md ops l (L.setIfInBounds i true)
  | (i, false) :: l, L => decide (Region.ready md ops L = [i]) && schedB md ops l (L.setIfInBounds i true)
theorem anyC_sched {R : Act → World → Prop} (sel : Region.noSelect ops = true) : ∀ (l : List (Nat × Bool)) (L : Array Bool) (a : Act) (w : World), C w → schedB md ops l L = true → walkS P ops C R l a w → anyC P md ops C R l.length L a w
  | [], L, a, w, _, hB, h => ⟨by simpa [schedB] using hB, h⟩
  | (i, true) :: l, L, a, w, hC, hB, ⟨o, v, hi, hy, h⟩ => by
    simp only [schedB, Bool.and_eq_true] at hB
    exact anyC_first hi (Region.noSelect_spec sel) l.length L a w hC (Region.free_spec hi hB.1.2) (by simpa using hB.1.1) hy (anyC_sched sel l _ _ _ hC hB.2 h)
  | (i, false) :: l, L, a, w, hC, hB, ⟨o, hi, h⟩ => by
    simp only [schedB, Bool.and_eq_true, decide_eq_true_eq] at hB
    refine ⟨fun e => absurd hB.1 (by rw [e]; exact List.cons_ne_nil _ _ ∘ Eq.symm), fun j hj => ?_⟩
    rw [hB.1] at hj
    obtain rfl : j = i := by simpa using hj
    unfold stepC
    simp only [hi]
    rcases h with ⟨hw, hd⟩ | ⟨hw, hd⟩
    · rw [if_pos hw]; exact doneUpon_mono (fun u w' ⟨c, k⟩ => ⟨c, anyC_sched sel l _ _ _ c hB.2 k⟩) hd
    · rw [if_neg (by simp [hw])]; exact anyC_sched sel l _ _ _ hC hB.2 hd

/-- A region whose order is drawn, by one order. -/
theorem wp_region_sched {id : Nat} {a : Act} {w : World} {l : List Oper} (s : List (Nat × Bool)) (C : World → Prop) (hm : P.follows .mixedOrders = true) (hB : (Region.noSelect l.toArray && decide (s.length = l.length) && schedB .any l.toArray s (Array.replicate l.length false)) = true) (hC : C w.drew)
    (h : walkS P l.toArray C (fun a' w' => Q .normal a' w') s a w.drew) : (Code.region id l.toArray true).wp P Q a w := by
  simp only [Bool.and_eq_true, decide_eq_true_eq] at hB
  refine wp_region_any hm ?_
  have := any_of_anyC (Q := Q) (fun a w _ h => h) _ _ _ _ hC (anyC_sched (md := .any) hB.1.1 s _ a w.drew hC hB.2 h)
  rw [hB.1.2] at this
  simpa using this

/-- A tree of orders: where several operations that do more than compute are left, each may come first. -/
inductive Tree where
  | over : Tree
  | float : Nat → Tree → Tree
  | one : Nat → Tree → Tree
  | two : Nat → Tree → Nat → Tree → Tree
def Tree.count : Tree → Nat
  | .over => 0
  | .float _ t => t.count + 1
  | .one _ t => t.count + 1
  | .two _ t _ _ => t.count + 1
def Tree.fits (md : Region.Mode) (ops : Array Oper) : Tree → Array Bool → Bool
  | .over, L => (Region.ready md ops L).isEmpty
  | .float i t, L => (Region.ready md ops L).contains i && Region.free md ops L i && t.fits md ops (L.setIfInBounds i true)
  | .one i t, L => decide (Region.ready md ops L = [i]) && t.fits md ops (L.setIfInBounds i true)
  | .two i t j s, L => decide (Region.ready md ops L = [i, j]) && t.fits md ops (L.setIfInBounds i true) && s.fits md ops (L.setIfInBounds j true) && decide (t.count = s.count)
/-- One operation that does more than compute. -/
def acts (P : Program) (ops : Array Oper) (C : World → Prop) (i : Nat) (K : Act → World → Prop) (a : Act) (w : World) : Prop :=
  ∃ o, ops[i]? = some o ∧ ((Region.wanted o (yielded ops a.tmps) = true ∧ doneAt P o a w fun u w' => C w' ∧ K (a.put o.dst u) w') ∨ (Region.wanted o (yielded ops a.tmps) = false ∧ K (a.put o.dst undef) w))
def walkT (P : Program) (ops : Array Oper) (C : World → Prop) (R : Act → World → Prop) : Tree → Act → World → Prop
  | .over, a, w => R a w
  | .float i t, a, w => ∃ o v, ops[i]? = some o ∧ GivesIf P ops C o a v ∧ walkT P ops C R t (a.put o.dst v) w
  | .one i t, a, w => acts P ops C i (walkT P ops C R t) a w
  | .two i t j s, a, w => acts P ops C i (walkT P ops C R t) a w ∧ acts P ops C j (walkT P ops C R s) a w
theorem stepC_of_acts {i : Nat} {a : Act} {w : World} {K K' : Act → World → Prop} (hC : C w) (h : ∀ a' w', C w' → K a' w' → K' a' w') (hh : acts P ops C i K a w) : stepC P ops C i K' a w := by
  obtain ⟨o, hi, hh⟩ := hh
  unfold stepC
  simp only [hi]
  rcases hh with ⟨hw, hd⟩ | ⟨hw, hd⟩
  · rw [if_pos hw]; exact doneUpon_mono (fun u w' ⟨c, k⟩ => ⟨c, h _ _ c k⟩) hd
  · rw [if_neg (by simp [hw])]; exact h _ _ hC hd
theorem anyC_tree {R : Act → World → Prop} (sel : Region.noSelect ops = true) : ∀ (t : Tree) (L : Array Bool) (a : Act) (w : World), C w → t.fits md ops L = true → walkT P ops C R t a w → anyC P md ops C R t.count L a w
  | .over, L, a, w, _, hB, h => ⟨by simpa [Tree.fits] using hB, h⟩
  | .float i t, L, a, w, hC, hB, ⟨o, v, hi, hy, h⟩ => by
    simp only [Tree.fits, Bool.and_eq_true] at hB
    exact anyC_first hi (Region.noSelect_spec sel) t.count L a w hC (Region.free_spec hi hB.1.2) (by simpa using hB.1.1) hy (anyC_tree sel t _ _ _ hC hB.2 h)
  | .one i t, L, a, w, hC, hB, h => by
    simp only [Tree.fits, Bool.and_eq_true, decide_eq_true_eq] at hB
    refine ⟨fun e => absurd hB.1 (by rw [e]; exact List.cons_ne_nil _ _ ∘ Eq.symm), fun j hj => ?_⟩
    rw [hB.1] at hj
    obtain rfl : j = i := by simpa using hj
    exact stepC_of_acts hC (fun a' w' c k => anyC_tree sel t _ _ _ c hB.2 k) h
  | .two i t j s, L, a, w, hC, hB, h => by
    simp only [Tree.fits, Bool.and_eq_true, decide_eq_true_eq] at hB
    refine ⟨fun e => absurd hB.1.1.1 (by rw [e]; exact List.cons_ne_nil _ _ ∘ Eq.symm), fun k hk => ?_⟩
    rw [hB.1.1.1] at hk
    rcases (show k = i ∨ k = j by simpa using hk) with rfl | rfl
    · exact stepC_of_acts hC (fun a' w' c k => anyC_tree sel t _ _ _ c hB.1.1.2 k) h.1
    · refine stepC_of_acts hC (fun a' w' c k => ?_) h.2
      rw [hB.2]; exact anyC_tree sel s _ _ _ c hB.1.2 k
/-- A region whose order is drawn, by a tree of orders. -/
theorem wp_region_tree {id : Nat} {a : Act} {w : World} {l : List Oper} (t : Tree) (C : World → Prop) (hm : P.follows .mixedOrders = true) (hB : (Region.noSelect l.toArray && decide (t.count = l.length) && t.fits .any l.toArray (Array.replicate l.length false)) = true) (hC : C w.drew)
    (h : walkT P l.toArray C (fun a' w' => Q .normal a' w') t a w.drew) : (Code.region id l.toArray true).wp P Q a w := by
  simp only [Bool.and_eq_true, decide_eq_true_eq] at hB
  refine wp_region_any hm ?_
  have := any_of_anyC (Q := Q) (fun a w _ h => h) _ _ _ _ hC (anyC_tree (md := .any) hB.1.1 t _ a w.drew hC hB.2 h)
  rw [hB.1.2] at this
  simpa using this
theorem tree_float {R : Act → World → Prop} {i : Nat} {t : Tree} {a : Act} {w : World} {o : Oper} (hi : ops[i]? = some o) (hw : Region.wanted o (yielded ops a.tmps) = true)
    (h : ∀ K : Act → Prop, (∀ a', walkT P ops C R t a' w → K a') → ∃ v, Gives P C o a v ∧ K (a.put o.dst v)) : walkT P ops C R (.float i t) a w := by
  obtain ⟨v, hv, hk⟩ := h _ (fun _ h => h)
  exact ⟨o, v, hi, .inl ⟨hw, hv⟩, hk⟩
theorem tree_one {R : Act → World → Prop} {i : Nat} {t : Tree} {a : Act} {w : World} {o : Oper} (hi : ops[i]? = some o) (hw : Region.wanted o (yielded ops a.tmps) = true)
    (h : ∀ K : Act → World → Prop, (∀ a' w', walkT P ops C R t a' w' → K a' w') → doneAt P o a w fun u w' => C w' ∧ K (a.put o.dst u) w') : walkT P ops C R (.one i t) a w :=
  ⟨o, hi, .inl ⟨hw, h _ (fun _ _ h => h)⟩⟩
theorem tree_two {R : Act → World → Prop} {i j : Nat} {t s : Tree} {a : Act} {w : World} (h1 : walkT P ops C R (.one i t) a w) (h2 : walkT P ops C R (.one j s) a w) : walkT P ops C R (.two i t j s) a w := ⟨h1, h2⟩
theorem tree_over {R : Act → World → Prop} {a : Act} {w : World} (h : R a w) : walkT P ops C R .over a w := h

theorem walk_float {R : Act → World → Prop} {i : Nat} {l : List (Nat × Bool)} {a : Act} {w : World} {o : Oper} (hi : ops[i]? = some o) (hw : Region.wanted o (yielded ops a.tmps) = true)
    (h : ∀ K : Act → Prop, (∀ a', walkS P ops C R l a' w → K a') → ∃ v, Gives P C o a v ∧ K (a.put o.dst v)) : walkS P ops C R ((i, true) :: l) a w := by
  obtain ⟨v, hv, hk⟩ := h _ (fun _ h => h)
  exact ⟨o, v, hi, .inl ⟨hw, hv⟩, hk⟩
theorem walk_done {R : Act → World → Prop} {i : Nat} {l : List (Nat × Bool)} {a : Act} {w : World} {o : Oper} (hi : ops[i]? = some o) (hw : Region.wanted o (yielded ops a.tmps) = true)
    (h : ∀ K : Act → World → Prop, (∀ a' w', walkS P ops C R l a' w' → K a' w') → doneAt P o a w fun u w' => C w' ∧ K (a.put o.dst u) w') : walkS P ops C R ((i, false) :: l) a w :=
  ⟨o, hi, .inl ⟨hw, h _ (fun _ _ h => h)⟩⟩
theorem walk_nil {R : Act → World → Prop} {a : Act} {w : World} (h : R a w) : walkS P ops C R [] a w := h
theorem gives_move {o : Oper} {a : Act} {K : Act → Prop} (x : Operand) (ho : o.op = .move x) (hk : K (a.put o.dst (a.eval x))) : ∃ v, Gives P C o a v ∧ K (a.put o.dst v) :=
  ⟨_, fun w _ => by unfold execOp; simp only [ho]; rfl, hk⟩
theorem gives_assign {o : Oper} {a : Act} {K : Act → Prop} (x : Operand) (ho : o.op = .assign x) (hk : K (a.put o.dst (a.eval x))) : ∃ v, Gives P C o a v ∧ K (a.put o.dst v) :=
  ⟨_, fun w _ => by unfold execOp; simp only [ho]; rfl, hk⟩
/-- A law of a quiet operation serves here too, if it is no call. -/
theorem gives_of_quiet {o : Oper} {a : Act} {K : Act → Prop} (hn : ∀ w f args w', (execOp a.eval o).run P w ≠ .ok (.enter f args) w') (hs : ∀ w w', (execOp a.eval o).run P w ≠ .ok .skip w') (h : o.quiet P a C K) : ∃ v, Gives P C o a v ∧ K (a.put o.dst v) := by
  obtain ⟨v, hv, hk⟩ := h
  refine ⟨v, fun w hw => ?_, hk⟩
  have := hv w hw
  unfold Oper.quietAt at this
  generalize hr : (execOp a.eval o).run P w = r at *
  cases r with
  | halt x w' => exact this.elim
  | ok n w' =>
    cases n with
    | value u => obtain ⟨rfl, rfl⟩ := this; rfl
    | skip => exact absurd hr (hs _ _)
    | enter f args => exact absurd hr (hn _ _ _ _)
    | _ => exact this.elim
/-- A call whose callee keeps the class. -/
theorem done_call {o : Oper} {a : Act} {w : World} {K : Value → World → Prop} (x : Operand) (xs : Array Operand) (ts : Array TypeId) (ho : o.op = .call { callee := .value x, args := xs, argTypes := ts }) (g : FuncId) (args : Array Value)
    (hx : a.eval x = .func (.func g) #[] #[]) (ha : xs.map a.eval = args) (hf : (callFunc g args).run P w = .ok (.enter g args) w) (hc : Calls P g args w fun e w' => ∃ u, e = .returned u ∧ K u w') : doneAt P o a w K := by
  unfold doneAt execOp
  simp only [ho, resolve, hx, ha, Deferred.ofValue, Sem.run_bind, Sem.run_pure, Result.andThen_ok, invoke, Array.append_empty, Array.empty_append, hf]
  exact hc
end
end Go.Proofs.Ytebbnkkhabehmaa

/- In a round of a loop over an iterator, under the wide fence: operations that are no defer statements are carried out as anywhere; so lists of them, and regions whose order is drawn. Condition: nothing is let out. -/
namespace Go.Proofs.Ytebbnkkhabehmaa
open Go

section
variable {P : Program} {ops : Array Oper} {Q : Exit → Act → World → Prop} {l n : Nat}
theorem upon_round {o : Oper} {a : Act} {K : Act → World → Prop} {r : Result Next} (h : o.upon P a K Q r) : o.uponIn (Fence.wide.inRound l) n P a K Q r := by
  cases r with
  | ok x w' =>
    cases x with
    | value v => exact h
    | skip => exact h
    | defer d => exact h
    | enter f args => exact ⟨fun h => by simp [Fence.wide, Fence.inRound] at h, CallsIn.inRound l (callsIn_wide.2 h)⟩
    | row row args => exact ⟨fun h => by simp [Fence.wide, Fence.inRound] at h, fun c cs _ => let ⟨v, w'', r, s⟩ := h c cs; ⟨v, w'', r, stepsIn_wide.2 s⟩⟩
    | _ => exact h.elim
  | halt x w' => cases x <;> first | exact h | exact h.elim
def noDefer (o : Oper) : Bool := match o.op with | .defer _ => false | _ => true
theorem noDefer_spec {o : Oper} (h : noDefer o = true) : ∀ c, o.op ≠ .defer c := fun c e => by unfold noDefer at h; rw [e] at h; cases h
theorem oper_round {o : Oper} {a : Act} {w : World} {K : Act → World → Prop} (hd : noDefer o = true) (h : o.wp P a w K Q) : o.wpIn (Fence.wide.inRound l) n P a w K Q :=
  ⟨fun _ _ => trivial, by rw [Oper.semAt_eq _ _ _ (noDefer_spec hd)]; exact upon_round h⟩
theorem wpListIn_round (hq : ¬ LetsOut Q) : ∀ (xs : List Oper) (a : Act) (w : World), xs.all noDefer = true → wpList P ops Q xs a w → wpListIn (Fence.wide.inRound l) n P ops Q xs a w
  | [], _, _, _, h => h
  | o :: xs, a, w, hd, h => by
    simp only [List.all_cons, Bool.and_eq_true] at hd
    unfold wpList at h
    unfold wpListIn
    by_cases hw : Region.wanted o (yielded ops a.tmps) = true
    · rw [if_pos hw] at h ⊢
      rcases h with h | ⟨_, h⟩
      · exact Oper.wpIn_mono (fun a' w' h' => wpListIn_round hq xs a' w' hd.2 h') (oper_round hd.1 h)
      · exact absurd h hq
    · rw [if_neg hw] at h ⊢
      exact ⟨fun _ _ => trivial, wpListIn_round hq xs _ _ hd.2 h⟩
theorem wp_of_list {o : Oper} {a a2 : Act} {w w2 : World} {K : Act → World → Prop} {Q : Exit → Act → World → Prop} (hg : o.guard = none) (h : wpList P ops (fun e a' w' => e = .normal ∧ a' = a2 ∧ w' = w2) [o] a w) (hK : K a2 w2) : o.wp P a w K Q := by
  unfold wpList at h
  have hw : Region.wanted o (yielded ops a.tmps) = true := by simp [Region.wanted, hg]
  rw [if_pos hw] at h
  rcases h with h | ⟨_, a', w', h⟩
  · unfold Oper.wp at *
    generalize (execOp a.eval o).run P w = r at *
    cases r with
    | ok x w' =>
      cases x with
      | value v => obtain ⟨_, h1, h2⟩ := (show _ = _ ∧ _ = _ ∧ _ = _ from h); show K _ _; rw [h1, h2]; exact hK
      | skip => obtain ⟨_, h1, h2⟩ := (show _ = _ ∧ _ = _ ∧ _ = _ from h); show K _ _; rw [h1, h2]; exact hK
      | defer d => obtain ⟨_, h1, h2⟩ := (show _ = _ ∧ _ = _ ∧ _ = _ from h); show K _ _; rw [h1, h2]; exact hK
      | enter f args =>
        refine Calls.mono h fun e w'' he => ?_
        cases e with
        | returned v => obtain ⟨_, h1, h2⟩ := (show _ = _ ∧ _ = _ ∧ _ = _ from he); show K _ _; rw [h1, h2]; exact hK
        | panicked c => cases he.1
        | outgrown => obtain ⟨_, _, he⟩ := he; cases he.1
      | row row args =>
        refine Rows.mono h fun v w'' he => ?_
        obtain ⟨_, h1, h2⟩ := (show _ = _ ∧ _ = _ ∧ _ = _ from he); show K _ _; rw [h1, h2]; exact hK
      | _ => exact h.elim
    | halt x w' => cases x <;> first | exact h.elim | cases h.1
  · cases h.1
theorem wpListIn_of_list {F : Fence} {o : Oper} {rest : List Oper} {a a2 : Act} {w w2 : World} (hF : F = Fence.wide.inRound l) (hg : o.guard = none) (hd : noDefer o = true) (h : wpList P ops (fun e a' w' => e = .normal ∧ a' = a2 ∧ w' = w2) [o] a w)
    (hk : wpListIn F n P ops Q rest a2 w2) : wpListIn F n P ops Q (o :: rest) a w := by
  subst hF
  refine wpListIn_plain hg fun K hK => ?_
  exact oper_round hd (wp_of_list hg h (hK _ _ hk))
theorem region_round {id : Nat} {a : Act} {w : World} {xs : List Oper} (hd : xs.all noDefer = true) (hq : ¬ LetsOut Q) (h : wpList P xs.toArray Q xs a w) : (Code.region id xs.toArray false).wpIn (Fence.wide.inRound l) n P Q a w :=
  wpIn_region_lit (wpListIn_round hq xs a w hd h)
theorem wpAnyIn_round {md : Region.Mode} (hd : ∀ o ∈ ops, noDefer o = true) (hq : ¬ LetsOut Q) : ∀ (m : Nat) (L : Array Bool) (a : Act) (w : World), wpAny P md ops Q m L a w → wpAnyIn (Fence.wide.inRound l) n P md ops Q m L a w
  | 0, _, _, _, h => h
  | m + 1, L, a, w, h => ⟨h.1, fun i hi => by
    have := h.2 i hi
    unfold wpOp at this
    unfold wpOpIn
    split at this
    · rename_i hn; simp only [hn]; exact wpAnyIn_round hd hq m _ _ _ this
    · rename_i o ho
      simp only [ho]
      split at this
      · rename_i hw
        rw [if_pos hw]
        rcases this with t | ⟨_, t⟩
        · exact Oper.wpIn_mono (fun a' w' h' => wpAnyIn_round hd hq m _ _ _ h') (oper_round (hd o (Array.mem_of_getElem? ho)) t)
        · exact absurd t hq
      · rename_i hw
        rw [if_neg hw]
        exact ⟨fun _ _ => trivial, wpAnyIn_round hd hq m _ _ _ this⟩⟩
theorem round_class_tail {id : Nat} {a : Act} {w : World} {xs : List Oper} (m : Nat) (C : World → Prop) (hm : P.follows .mixedOrders = true) (hB : Region.lexTailB .any xs.toArray m = true) (hd : xs.all noDefer = true) (hq : ¬ LetsOut Q) (hC : C w.drew)
    (h : wpQuiet P xs.toArray C (fun a' => ∀ w', C w' → wpList P xs.toArray Q (xs.drop m) a' w') (xs.take m) a) : (Code.region id xs.toArray true).wpIn (Fence.wide.inRound l) n P Q a w :=
  wpIn_region_any hm (wpAnyIn_round (fun o ho => List.all_eq_true.1 hd o (by simpa using ho)) hq _ _ _ _ (any_class_tail m C hB hC h))
end
end Go.Proofs.Ytebbnkkhabehmaa

/- Slices of arrays of bytes that grow by append: where they lie, what they hold, and what an append leaves. Condition: at most 1000 elements. -/
namespace Go.Proofs.Ytebbnkkhabehmaa
open Go Go.RowKit

def bytesList (n : Nat) (F : Nat → Nat) : List Value := (List.range n).map fun t => Value.int .u8 (F t : Nat)
theorem bytesList_len (n : Nat) (F : Nat → Nat) : (bytesList n F).length = n := by simp [bytesList]
theorem bytesList_get {n : Nat} {F : Nat → Nat} {j : Nat} {u : Value} (h : (bytesList n F)[j]? = some u) : j < n ∧ u = .int .u8 (F j : Nat) := by
  have hj : j < n := by
    rcases Nat.lt_or_ge j (bytesList n F).length with h' | h'
    · rwa [bytesList_len] at h'
    · rw [List.getElem?_eq_none h'] at h; cases h
  refine ⟨hj, ?_⟩
  simp [bytesList, hj] at h
  exact h.symm
theorem bytesList_at {n : Nat} {F : Nat → Nat} {j : Nat} (h : j < n) : (bytesList n F)[j]? = some (.int .u8 (F j : Nat)) := by simp [bytesList, h]
theorem bytesList_one {n : Nat} {F : Nat → Nat} : ∀ u ∈ bytesList n F, u.oneCell' = true := fun u hu => by
  obtain ⟨j, hj⟩ := List.getElem?_of_mem hu
  obtain ⟨_, rfl⟩ := bytesList_get hj
  rfl
theorem bytesList_more (n m : Nat) (F f : Nat → Nat) (h : ∀ j, j < m → f j = F (n + j)) : bytesList n F ++ bytesList m f = bytesList (n + m) F := by
  apply List.ext_getElem?
  intro i
  rcases Nat.lt_or_ge i n with l | l
  · rw [List.getElem?_append_left (by rw [bytesList_len]; exact l), bytesList_at l, bytesList_at (by omega)]
  · rw [List.getElem?_append_right (by rw [bytesList_len]; exact l), bytesList_len]
    rcases Nat.lt_or_ge i (n + m) with l2 | l2
    · rw [bytesList_at (by omega), bytesList_at l2, h _ (by omega), show n + (i - n) = i by omega]
    · rw [List.getElem?_eq_none (by rw [bytesList_len]; omega), List.getElem?_eq_none (by rw [bytesList_len]; omega)]

/-- A slice of k elements, each of sz bytes, in a block between base and top; nil, if there is none. -/
def OwnS (e : TypeId) (sz : Nat) (w : World) (base top : Nat) (v : Value) (k : Nat) (F : Nat → Nat) : Prop :=
  (v = .slice none 0 0 ∧ k = 0) ∨ ∃ B c cur, v = .slice (some ⟨B, 0, none⟩) k c ∧ base ≤ B ∧ B < top ∧ w.heap[B]? = some (.cells cur e (0, 0)) ∧ k ≤ c ∧ c ≤ maxLen ∧ cur.size = c * sz ∧ cur.toList.take (k * sz) = bytesList (k * sz) F
section
variable {e : TypeId} {sz base top : Nat} {v : Value} {k : Nat} {F : Nat → Nat} {w w' : World}
theorem OwnS.nil (e : TypeId) (sz : Nat) (w : World) (base top : Nat) (F : Nat → Nat) : OwnS e sz w base top (.slice none 0 0) 0 F := .inl ⟨rfl, rfl⟩
theorem OwnS.same (h : OwnS e sz w base top v k F) (hb : ∀ B, base ≤ B → B < top → w'.heap[B]? = w.heap[B]?) : OwnS e sz w' base top v k F := by
  rcases h with h | ⟨B, c, cur, h1, h2, h3, h4, h5⟩
  · exact .inl h
  · exact .inr ⟨B, c, cur, h1, h2, h3, by rw [hb B h2 h3]; exact h4, h5⟩
theorem OwnS.raise {top' : Nat} (h : OwnS e sz w base top v k F) (ht : top ≤ top') : OwnS e sz w base top' v k F := by
  rcases h with h | ⟨B, c, cur, h1, h2, h3, h4, h5⟩
  · exact .inl h
  · exact .inr ⟨B, c, cur, h1, h2, by omega, h4, h5⟩
theorem OwnS.owns (h : OwnS e sz w base top v k F) : w.ownsRow base e sz v k (bytesList (k * sz) F) := by
  rcases h with ⟨h1, h2⟩ | ⟨B, c, cur, h1, h2, _, h4, h5, h6, h7, h8⟩
  · subst h2; exact ⟨by rw [bytesList_len], .inl ⟨h1, rfl⟩⟩
  · exact ⟨by rw [bytesList_len], .inr ⟨B, c, cur, h1, h2, h4, h5, h6, h7, h8⟩⟩
theorem OwnS.of_owns (h : w.ownsRow base e sz v k (bytesList (k * sz) F)) : OwnS e sz w base w.heap.size v k F := by
  obtain ⟨_, h1 | ⟨B, c, cur, h1, h2, h4, h5⟩⟩ := h
  · exact .inl h1
  · exact .inr ⟨B, c, cur, h1, h2, (Array.getElem?_eq_some_iff.1 h4).1, h4, h5⟩
theorem OwnS.cells (h : OwnS e sz w base top v k F) (hk : k ≠ 0) : ∃ B c, v = .slice (some ⟨B, 0, none⟩) k c ∧ base ≤ B ∧ B < top ∧ Cells w B 0 (k * sz) F := by
  rcases h with ⟨_, h0⟩ | ⟨B, c, cur, h1, h2, h3, h4, _, _, _, h8⟩
  · exact absurd h0 hk
  · refine ⟨B, c, h1, h2, h3, fun j hj => ?_⟩
    rw [Nat.zero_add, cell_of_row w B j cur _ (0, 0) h4]
    have := bytesList_at (n := k * sz) (F := F) hj
    rw [← h8, List.getElem?_take_of_lt hj] at this
    simpa using this
theorem OwnS.block (h : OwnS e sz w base top v k F) : ∀ B, v.ownBlock = some B → base ≤ B := by
  rcases h with ⟨h1, _⟩ | ⟨B, c, cur, h1, h2, _⟩
  · subst h1; intro B hB; simp [Value.ownBlock] at hB
  · subst h1; intro B' hB; simp [Value.ownBlock] at hB; omega
theorem below_own {row : Option Nat} (h : w.grownBy w' row) (hr : ∀ B, row = some B → base ≤ B) (hb : base ≤ w.heap.size) : Below base w w' :=
  ⟨h.os, h.tape, h.output, h.size, fun i hi => h.block i (by omega) (fun e => by have := hr i e.symm; omega)⟩
end
theorem wpList_append_one {P : Program} {ops : Array Oper} {rest : List Oper} {o : Oper} {a : Act} {w : World} {Q : Exit → Act → World → Prop} (hgd : o.guard = none) (s x : Operand) (t e : TypeId) (sz : Nat) (hs0 : 0 < sz) (hs1 : sz ≤ 16)
    (ho : o.op = .call { callee := .builtin .append, args := #[s, x], argTypes := #[t, t] }) (hu : P.underlying t = some (.slice e)) (hi : (P.info? e).map (·.size) = some sz) (hb : (P.info? e).map (·.bytes) = some sz)
    (hz : (P.info? e).bind (·.zero) = some (.agg (cellsOf .u8 (mk sz zeroK)))) (base top k c : Nat) (v : Value) (F f : Nat → Nat) (D : Nat) (hs : a.eval s = v) (hx : a.eval x = .slice (some ⟨D, 0, none⟩) 1 c)
    (hv : OwnS e sz w base top v k F) (hc : Cells w D 0 sz f) (hf : ∀ j, j < sz → f j = F (k * sz + j)) (hk : k ≤ 1000) (hbase : base ≤ w.heap.size)
    (h : ∀ v' w', OwnS e sz w' base w'.heap.size v' (k + 1) F → Below base w w' → wpList P ops Q rest (a.put o.dst v') w') : wpList P ops Q (o :: rest) a w := by
  cases hq : P.info? e with
  | none => rw [hq] at hi; simp at hi
  | some i =>
    rw [hq] at hi hb hz
    have hsz : i.size = sz := by simpa using hi
    have hzz : i.zero = some (.agg (cellsOf .u8 (mk sz zeroK))) := by simpa using hz
    have hby : i.bytes = sz := by simpa using hb
    obtain ⟨v', w', hrun, r1, r2, _⟩ := run_append_own (P := P) w base t o.type e i (.agg (cellsOf .u8 (mk sz zeroK))) sz sz hu hq hzz hsz hby (by show (cellsOf .u8 (mk sz zeroK)).size = sz; rw [cellsOf_size, mk_len]) hs0
      v k (bytesList (k * sz) F) hv.owns ⟨D, 0, none⟩ 1 c (bytesList sz f) (by rw [bytesList_len, Nat.one_mul]) (fun j u hj => by
        obtain ⟨hj1, rfl⟩ := bytesList_get hj
        rw [addr_add]; exact hc j hj1) bytesList_one (by simp only [maxLen]; omega) (by
          have : (k + 1) * sz ≤ 1001 * 16 := Nat.mul_le_mul (by omega) hs1
          omega) hbase
    rw [bytesList_more (k * sz) sz F f hf, ← Nat.succ_mul] at r1
    refine wpList_plain hgd fun K hK => ?_
    unfold Oper.wp
    simp [execOp, ho, resolve, invoke, builtin, hs, hx, hrun, Result.andThen]
    exact hK _ _ (h v' w' (OwnS.of_owns r1) (below_own r2 hv.block hbase))
end Go.Proofs.Ytebbnkkhabehmaa

/- Slices of bytes that grow by append, whatever is behind them; bytes out of them. Condition: no more than 100000 bytes. -/
namespace Go.Proofs.Ytebbnkkhabehmaa
open Go.ChangeShapes Go.WideShapes Go.ChangeAt Go.RowKit

section
variable {base top : Nat} {v : Value} {k : Nat} {F : Nat → Nat} {w w' : World}
theorem OwnS.bytes (h : OwnS 5 1 w base top v k F) (ht : top ≤ w.heap.size) : ∃ p c, v = .slice p k c ∧ k ≤ c ∧ c ≤ maxLen ∧ BytesAt w p k F ∧ ∀ B o, p = some ⟨B, o, none⟩ → base ≤ B ∧ B < top := by
  rcases h with ⟨h1, h2⟩ | ⟨B, c, cur, h1, h2, h3, h4, h5, h6, h7, h8⟩
  · subst h2; exact ⟨none, 0, h1, Nat.le_refl _, Nat.zero_le _, .inl rfl, fun B o e => by cases e⟩
  · refine ⟨some ⟨B, 0, none⟩, c, h1, h5, h6, .inr ⟨B, 0, rfl, by omega, fun j hj => ?_⟩, fun B' o e => by simp only [Option.some.injEq, Addr.mk.injEq, and_true] at e; omega⟩
    rw [Nat.zero_add, cell_of_row w B j cur _ (0, 0) h4]
    have := bytesList_at (n := k * 1) (F := F) (j := j) (by omega)
    rw [← h8, List.getElem?_take_of_lt (by omega)] at this
    simpa using this
theorem OwnS.empty (w : World) (F : Nat → Nat) (base : Nat) (hb : base ≤ w.heap.size) : OwnS 5 1 (w.alloc (.cells (cellsOf .u8 []) 5)) base (w.heap.size + 1) (.slice (some ⟨w.heap.size, 0, none⟩) 0 0) 0 F :=
  .inr ⟨w.heap.size, 0, cellsOf .u8 [], rfl, hb, by omega, heap_alloc_new _ _, Nat.le_refl _, Nat.zero_le _, rfl, rfl⟩
theorem OwnS.one (w : World) (F : Nat → Nat) (base b : Nat) (hb : base ≤ w.heap.size) (hF : F 0 = b) : OwnS 5 1 (w.alloc (.cells (cellsOf .u8 [(b : Int)]) 5)) base (w.heap.size + 1) (.slice (some ⟨w.heap.size, 0, none⟩) 1 1) 1 F :=
  .inr ⟨w.heap.size, 1, cellsOf .u8 [(b : Int)], rfl, hb, by omega, heap_alloc_new _ _, Nat.le_refl _, by decide, rfl, by subst hF; rfl⟩
theorem OwnS.congr {F' : Nat → Nat} (h : OwnS 5 1 w base top v k F) (hf : ∀ j, j < k → F j = F' j) : OwnS 5 1 w base top v k F' := by
  rcases h with h | ⟨B, c, cur, h1, h2, h3, h4, h5, h6, h7, h8⟩
  · exact .inl h
  · refine .inr ⟨B, c, cur, h1, h2, h3, h4, h5, h6, h7, ?_⟩
    rw [h8]; unfold bytesList
    exact List.map_congr_left fun t ht => by rw [hf t (by have := List.mem_range.1 ht; omega)]
end
theorem wpList_append_own_bytes {ops : Array Oper} {rest : List Oper} {o : Oper} {a : Act} {w : World} {Q : Exit → Act → World → Prop} (hgd : o.guard = none) (s x : Operand)
    (ho : o.op = .call { callee := .builtin .append, args := #[s, x], argTypes := #[22, 22] }) (base top k : Nat) (v : Value) (F f : Nat → Nat) (p : Option Addr) (n cap : Nat) (hs : a.eval s = v) (hx : a.eval x = .slice p n cap)
    (hv : OwnS 5 1 w base top v k F) (hp : BytesAt w p n f) (hf : ∀ j, j < n → f j = F (k + j)) (hk : k + n ≤ 100000) (hbase : base ≤ w.heap.size)
    (h : ∀ v' w', OwnS 5 1 w' base w'.heap.size v' (k + n) F → Below base w w' → wpList Try.prog ops Q rest (a.put o.dst v') w') : wpList Try.prog ops Q (o :: rest) a w := by
  have hi := byteInfo
  have hz := byteZero1
  have hb := byteBytes1
  cases hq : Try.prog.info? 5 with
  | none => rw [hq] at hi; simp at hi
  | some i =>
    rw [hq] at hi hb hz
    have hsz : i.size = 1 := by simpa using hi
    have hzz : i.zero = some (.int .u8 0) := by simpa using hz
    have hby : i.bytes = 1 := by simpa using hb
    by_cases h0 : n = 0
    · subst h0
      have hsrc : Src Try.prog i.size 22 (.slice p 0 cap) 0 [] w := by
        cases p with
        | none => exact Src.ofNil w bytesUnder cap
        | some ad => exact Src.ofSlice w bytesUnder ad 0 cap [] (by simp) (fun j u hu => by simp at hu) (fun u hu => by cases hu)
      refine wpList_plain hgd fun K hK => ?_
      obtain ⟨q, c, rfl, hc⟩ : ∃ q c, v = .slice q k c ∧ k ≤ c := by
        rcases hv with ⟨h1, h2⟩ | ⟨B, c, cur, h1, _, _, _, h5, _⟩
        · subst h2; exact ⟨none, 0, h1, Nat.le_refl _⟩
        · exact ⟨_, c, h1, h5⟩
      have hrun := run_append_nothing (P := Try.prog) w 22 22 o.type 5 i bytesUnder hq q k c hc (.slice p 0 cap) hsrc
      unfold Oper.wp
      simp [execOp, ho, resolve, invoke, builtin, hs, hx, hrun, Result.andThen]
      exact hK _ _ (h _ w (OwnS.of_owns hv.owns) (Below.refl _ _))
    · rcases hp with hp | ⟨B, off, rfl, hB, hc⟩
      · exact absurd hp h0
      · obtain ⟨v', w', hrun, r1, r2, _⟩ := run_append_own (P := Try.prog) w base 22 o.type 5 i (.int .u8 0) 1 1 bytesUnder hq hzz hsz hby rfl (by omega)
          v k (bytesList (k * 1) F) hv.owns ⟨B, off, none⟩ n cap (bytesList n f) (by rw [bytesList_len, Nat.mul_one]) (fun j u hj => by
            obtain ⟨hj1, rfl⟩ := bytesList_get hj
            rw [addr_add]; exact hc j hj1) bytesList_one (by simp only [maxLen]; omega) (by omega) hbase
        rw [bytesList_more (k * 1) n F f (fun j hj => by rw [Nat.mul_one]; exact hf j hj), show k * 1 + n = (k + n) * 1 by omega] at r1
        refine wpList_plain hgd fun K hK => ?_
        unfold Oper.wp
        simp [execOp, ho, resolve, invoke, builtin, hs, hx, hrun, Result.andThen]
        exact hK _ _ (h v' w' (OwnS.of_owns r1) (below_own r2 hv.block hbase))
end Go.Proofs.Ytebbnkkhabehmaa

/- Slices of bytes: made with room, filled by append, marked, turned to strings. No condition. -/
namespace Go.Proofs.Ytebbnkkhabehmaa
open Go.ChangeShapes Go.WideShapes Go.ChangeAt Go.RowKit

theorem stringUnder1 : Try.prog.underlying 9 = some .string := Try.underlying9
/-- n bytes, the two marks behind. -/
def markF (n : Nat) (g : Nat → Nat) : Nat → Nat := fun j => if j < n then g j else if j = n then 165 else 90
theorem markF_low (n : Nat) (g : Nat → Nat) {j : Nat} (h : j < n) : markF n g j = g j := if_pos h
theorem BytesAt.low {w : World} {D n m : Nat} {g : Nat → Nat} (h : BytesAt w (some ⟨D, 0, none⟩) m (markF n g)) (hm : m = n + 2) : BytesAt w (some ⟨D, 0, none⟩) n g := by
  subst hm
  rcases h with h | ⟨B, o, hp, hB, hc⟩
  · omega
  · exact .inr ⟨B, o, hp, hB, fun j hj => by rw [hc j (by omega), markF_low n g hj]⟩
theorem BytesAt.cell {w : World} {D m : Nat} {f : Nat → Nat} (h : BytesAt w (some ⟨D, 0, none⟩) m f) {j : Nat} (hj : j < m) : w.cell? ⟨D, j, none⟩ = some (.int .u8 (f j : Nat)) := by
  rcases h with h | ⟨B, o, hp, hB, hc⟩
  · omega
  · simp only [Option.some.injEq, Addr.mk.injEq, and_true] at hp
    obtain ⟨rfl, rfl⟩ := hp
    have := hc j hj
    rwa [Nat.zero_add] at this
theorem bytesAt_owns {w' : World} {base n m D : Nat} {f : Nat → Nat} (h : w'.ownsRow base 5 1 (.slice (some ⟨D, 0, none⟩) n m) n (bytesList n f)) : BytesAt w' (some ⟨D, 0, none⟩) n f := by
  by_cases h0 : n = 0
  · exact .inl h0
  obtain ⟨_, ⟨h1, _⟩ | ⟨g, c, cur, h1, _, hg, hnc, _, hsz, ht⟩⟩ := h
  · cases h1
  · simp only [Value.slice.injEq, Option.some.injEq, Addr.mk.injEq, and_true, true_and] at h1
    obtain ⟨rfl, rfl⟩ := h1
    refine .inr ⟨D, 0, rfl, (Array.getElem?_eq_some_iff.1 hg).1, fun j hj => ?_⟩
    rw [Nat.zero_add, cell_of_row w' D _ cur _ (0, 0) hg]
    have := bytesList_at (n := n) (F := f) hj
    rw [← ht, List.getElem?_take_of_lt (by omega)] at this
    simpa using this
theorem owns_same {w w' : World} {base : Nat} {e : TypeId} {size n D m : Nat} {xs : List Value} (h : w.ownsRow base e size (.slice (some ⟨D, 0, none⟩) n m) n xs) (hb : w'.heap[D]? = w.heap[D]?) : w'.ownsRow base e size (.slice (some ⟨D, 0, none⟩) n m) n xs := by
  refine ⟨h.1, ?_⟩
  rcases h.2 with ⟨h1, _⟩ | ⟨g, c, cur, h1, h2, hg, h3⟩
  · cases h1
  · have e1 := h1
    simp only [Value.slice.injEq, Option.some.injEq, Addr.mk.injEq, and_true, true_and] at e1
    obtain ⟨e2, e3⟩ := e1
    subst e2 e3
    exact .inr ⟨_, _, cur, h1, h2, by rw [hb]; exact hg, h3⟩
theorem owns_lt {w : World} {base : Nat} {e : TypeId} {size n D m : Nat} {xs : List Value} (h : w.ownsRow base e size (.slice (some ⟨D, 0, none⟩) n m) n xs) : D < w.heap.size := by
  rcases h.2 with ⟨h1, _⟩ | ⟨g, c, cur, h1, h2, hg, h3⟩
  · cases h1
  · simp only [Value.slice.injEq, Option.some.injEq, Addr.mk.injEq, and_true, true_and] at h1
    obtain ⟨rfl, rfl⟩ := h1
    exact (Array.getElem?_eq_some_iff.1 hg).1
section
variable {ops : Array Oper} {rest : List Oper} {o : Oper} {a : Act} {w : World} {Q : Exit → Act → World → Prop}
theorem wpList_make_bytes (hgd : o.guard = none) (x y : Operand) (ho : o.op = .makeSlice 22 x y) (m : Nat) (hm : m ≤ 100000) (hx : a.eval x = .int .i64 0) (hy : a.eval y = .int .i64 m)
    (h : ∀ w', w'.ownsRow w.heap.size 5 1 (.slice (some ⟨w.heap.size, 0, none⟩) 0 m) 0 [] → w.grownBy w' none → wpList Try.prog ops Q rest (a.put o.dst (.slice (some ⟨w.heap.size, 0, none⟩) 0 m)) w') : wpList Try.prog ops Q (o :: rest) a w := by
  have hi := byteInfo
  have hz := byteZero1
  have hb := byteBytes1
  cases hq : Try.prog.info? 5 with
  | none => rw [hq] at hi; simp at hi
  | some i =>
    rw [hq] at hi hz hb
    have hsz : i.size = 1 := by simpa using hi
    have hzz : i.zero = some (.int .u8 0) := by simpa using hz
    have hby : i.bytes = 1 := by simpa using hb
    exact wpList_make_own w hgd x y 22 ho w.heap.size 5 i (.int .u8 0) 1 bytesUnder hq hzz hsz .i64 .i64 m m hx hy rfl (by rw [hby]; omega) (by simp only [maxLen]; omega) (Nat.le_refl _) h
theorem wpList_append_bytes (hgd : o.guard = none) (s x : Operand) (ho : o.op = .call { callee := .builtin .append, args := #[s, x], argTypes := #[22, 22] })
    (base D m k : Nat) (xs : List Value) (hs : a.eval s = .slice (some ⟨D, 0, none⟩) k m) (hown : w.ownsRow base 5 1 (.slice (some ⟨D, 0, none⟩) k m) k xs) (p : Option Addr) (n cap : Nat) (hx : a.eval x = .slice p n cap) (g : Nat → Nat) (hp : BytesAt w p n g) (hroom : k + n ≤ m)
    (h : ∀ w', w'.ownsRow base 5 1 (.slice (some ⟨D, 0, none⟩) (k + n) m) (k + n) (xs ++ bytesList n g) → w.grownBy w' (some D) → wpList Try.prog ops Q rest (a.put o.dst (.slice (some ⟨D, 0, none⟩) (k + n) m)) w') : wpList Try.prog ops Q (o :: rest) a w := by
  have hi := byteInfo
  cases hq : Try.prog.info? 5 with
  | none => rw [hq] at hi; simp at hi
  | some i =>
    rw [hq] at hi
    have hsz : i.size = 1 := by simpa using hi
    by_cases h0 : n = 0
    · subst h0
      have hsrc : Src Try.prog i.size 22 (.slice p 0 cap) 0 [] w := by
        cases p with
        | none => exact Src.ofNil w bytesUnder cap
        | some ad => exact Src.ofSlice w bytesUnder ad 0 cap [] (by simp) (fun j u hu => by simp at hu) (fun u hu => by cases hu)
      refine wpList_plain hgd fun K hK => ?_
      have hrun := run_append_nothing (P := Try.prog) w 22 22 o.type 5 i bytesUnder hq (some ⟨D, 0, none⟩) k m (by omega) (.slice p 0 cap) hsrc
      unfold Oper.wp
      simp [execOp, ho, resolve, invoke, builtin, hs, hx, hrun, Result.andThen]
      exact hK _ _ (h w (by simpa [bytesList] using hown) (World.grownBy.refl _ _))
    · rcases hp with hp | ⟨B, off, rfl, hB, hc⟩
      · exact absurd hp h0
      · refine wpList_append_fits w hgd s x 22 ho base 5 i 1 bytesUnder hq hsz D k m xs hs hown ⟨B, off, none⟩ n cap (bytesList n g) hx (by rw [bytesList_len, Nat.mul_one]) (fun j u hj => ?_) bytesList_one hroom h
        obtain ⟨hj1, rfl⟩ := bytesList_get hj
        rw [addr_add]; exact hc j hj1
theorem wpList_marks (hgd : o.guard = none) (ho : o.op = .buildSlice 22 2 #[(0, .const (.int .u8 165)), (1, .const (.int .u8 90))])
    (h : wpList Try.prog ops Q rest (a.put o.dst (.slice (some ⟨w.heap.size, 0, none⟩) 2 2)) (w.alloc (.cells (cellsOf .u8 [165, 90]) 5))) : wpList Try.prog ops Q (o :: rest) a w :=
  wpList_buildFlat hgd 22 5 2 _ ho .u8 [165, 90] bytesUnder byteInfo (by rw [byteZero1]; rfl) rfl (by omega) (by omega) rfl h
/-- A string of bytes. -/
theorem wpList_string (hgd : o.guard = none) (x : Operand) (ho : o.op = .convert 22 9 x) (p : Option Addr) (n cap : Nat) (hx : a.eval x = .slice p n cap) (g : Nat → Nat) (hp : BytesAt w p n g)
    (h : wpList Try.prog ops Q rest (a.put o.dst (.string (strOfNums (mk n g)))) w) : wpList Try.prog ops Q (o :: rest) a w := by
  have hr : (convert 22 9 (.slice p n cap)).run Try.prog w = .ok (.string (strOfNums (mk n g))) w := by
    by_cases h0 : n = 0
    · subst h0
      rw [run_convert_bytes_string w _ _ 5 p 0 cap bytesUnder byteUnder1 stringUnder1]
      cases p with
      | none => rfl
      | some ad =>
        rw [run_bytesToString w ad 0 cap [] (by simpa using run_loadCells_list (P := Try.prog) w ad [] (fun j v hj => by simp at hj))]
        rfl
    · rcases hp with hp | ⟨B, off, rfl, hB, hc⟩
      · exact absurd hp h0
      · exact run_convert_bytes_arg w _ 5 bytesUnder byteUnder1 B off n cap (mk n g) (mk_len n g) (fun i hi => by rw [mk_get hi]; exact hc i hi) _ stringUnder1
  refine wpList_plain hgd fun K hK => ?_
  unfold Oper.wp execOp
  simp only [ho]
  simp [hx, hr]
  exact hK _ _ h
end
theorem marks_at (w : World) : BytesAt (w.alloc (.cells (cellsOf .u8 [165, 90]) 5)) (some ⟨w.heap.size, 0, none⟩) 2 (fun j => if j = 0 then 165 else 90) := by
  have e : ([165, 90] : List Int) = mk 2 (fun j => if j = 0 then 165 else 90) := rfl
  rw [e]
  exact .inr ⟨_, 0, rfl, by rw [World.size_alloc]; omega, by
    have h := (IntBlk.new w .u8 5 (mk 2 (fun j => if j = 0 then 165 else 90))).cells (o := 0) (n := 2) (by omega)
    simp only [Nat.zero_add] at h
    exact h⟩
theorem marked (n : Nat) (g : Nat → Nat) : bytesList n g ++ bytesList 2 (fun j => if j = 0 then 165 else 90) = bytesList (n + 2) (markF n g) := by
  have e : bytesList n g = bytesList n (markF n g) := by
    unfold bytesList
    refine List.map_congr_left fun t ht => ?_
    rw [markF_low n g (List.mem_range.1 ht)]
  rw [e]
  refine bytesList_more n 2 _ _ fun j hj => ?_
  rcases (show j = 0 ∨ j = 1 by omega) with rfl | rfl
  · simp [markF]
  · unfold markF; rw [if_neg (show ¬ (n + 1 < n) by omega), if_neg (show ¬ (n + 1 = n) by omega)]; rfl
end Go.Proofs.Ytebbnkkhabehmaa

/- How long a slice of bytes that comes in is at the most: by the form's own reach. No condition. -/
namespace Go.Proofs.Ytebbnkkhabehmaa
open Go.ChangeShapes Go.WideShapes Go.ChangeAt Go.RowKit

theorem open_size {H : Type} {enc : TypeId × Value → H} {W : World} {base : Nat} {spare : Nat → Bool} {held : Bool} {q : Option Addr} {n cap : Nat} {d : DataW H} {p : List MemPlace} (h : DataW.Trod enc Try.prog W base spare held 22 (.slice q n cap) d p)
    {ts : List TypeId} {ds : List (DataW H)} (hz : (DataW.weightsEach Try.prog ts ds).all (· ≤ reachBytes) = true) {j : Nat} (ht : ts[j]? = some 22) (hd : ds[j]? = some d) : n ≤ 140737488351232 := by
  have ck : Try.prog.cellsOf 5 = 1 := by kernel_rfl
  have cb : Try.prog.bytesOf 5 = 1 := by kernel_rfl
  obtain ⟨fuel, hf⟩ := h
  have hc : (Value.cells (.slice q n cap)).toList = [.slice q n cap] := rfl
  rw [hc] at hf
  rcases Deep.open_slice1 bytesUnder ck hf with ⟨h0, _⟩ | ⟨a, len, cap', m, k, V, D, Pl, h0, _, hl, _, hm, hx, _⟩
  · simp only [List.cons.injEq, Value.slice.injEq, and_true] at h0
    omega
  · simp only [List.cons.injEq, Value.slice.injEq, and_true] at h0
    obtain ⟨_, rfl, rfl⟩ := h0
    simp only [Prod.mk.injEq] at hx
    rw [hx.1] at hd
    have := sized_slice hz ht hd bytesUnder
    rw [cb, Nat.mul_one, List.length_map, List.length_range] at this
    exact Nat.le_trans (Nat.le_add_right _ _) this
end Go.Proofs.Ytebbnkkhabehmaa

