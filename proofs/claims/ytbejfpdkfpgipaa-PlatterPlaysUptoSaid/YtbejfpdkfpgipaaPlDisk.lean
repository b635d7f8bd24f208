/- A disk of package platter as plain data, where it lies in memory, and what a world keeps of it. Conditions: as each says. -/
import Derived.Test.YtbejfpdkfpgipaaPlBase
import Derived.Maps.OwnSet
import Derived.Maps.RangeWalk
namespace Go.Proofs.Ytbejfpdkfpgipaa
open Go.ChangeShapes Go.WideShapes Go.ChangeAt Go.RowKit
set_option linter.unusedVariables false

/-! ### What a world keeps -/
/-- All that was there lies as it lay, but for the blocks in S. -/
structure Keeps (S : Nat → Prop) (w w' : World) : Prop where
  os : w'.os = w.os
  tape : w'.tape = w.tape
  output : w'.output = w.output
  size : w.heap.size ≤ w'.heap.size
  block : ∀ k, k < w.heap.size → ¬ S k → w'.heap[k]? = w.heap[k]?
namespace Keeps
variable {S : Nat → Prop} {w w' w'' : World}
theorem refl (S : Nat → Prop) (w : World) : Keeps S w w := ⟨rfl, rfl, rfl, Nat.le_refl _, fun _ _ _ => rfl⟩
theorem trans (h : Keeps S w w') (k : Keeps S w' w'') : Keeps S w w'' :=
  ⟨k.os.trans h.os, k.tape.trans h.tape, k.output.trans h.output, Nat.le_trans h.size k.size, fun i hi hn => (k.block i (Nat.lt_of_lt_of_le hi h.size) hn).trans (h.block i hi hn)⟩
theorem mono {S' : Nat → Prop} (h : Keeps S w w') (hs : ∀ k, k < w.heap.size → S k → S' k) : Keeps S' w w' := ⟨h.os, h.tape, h.output, h.size, fun i hi hn => h.block i hi (fun e => hn (hs i hi e))⟩
theorem of (h : Below w.heap.size w w') : Keeps S w w' := ⟨h.os, h.tape, h.output, h.size, fun k hk _ => h.block k hk⟩
theorem alloc (h : Keeps S w w') (o : Obj) : Keeps S w (w'.alloc o) := h.trans (.of ((Below.refl _ _).alloc (Nat.le_refl _) _))
theorem drew (h : Keeps S w w') : Keeps S w w'.drew := ⟨h.os, h.tape, h.output, h.size, h.block⟩
theorem setCell (h : Keeps S w w') {B : Nat} (hB : S B) (i : Nat) (v : Value) : Keeps S w (w'.setCell ⟨B, i, none⟩ v) :=
  h.trans ⟨rfl, rfl, rfl, by simp [World.setCell], fun k _ hn => Below.heap_setCell _ _ _ k (fun e => hn (by rw [e]; exact hB))⟩
theorem setRow (h : Keeps S w w') {B : Nat} (hB : S B) (cs : Array Value) : Keeps S w (w'.setRow B cs) :=
  h.trans ⟨rfl, rfl, rfl, by simp, fun k _ hn => setRow_other _ B k cs (fun e => hn (by rw [e]; exact hB))⟩
theorem grown (h : Keeps S w w') {row : Option Nat} (hg : w'.grownBy w'' row) (hr : ∀ k, row = some k → S k) : Keeps S w w'' :=
  h.trans ⟨hg.os, hg.tape, hg.output, hg.size, fun k hk hn => hg.block k hk (fun e => hn (hr k e.symm))⟩
theorem but {B : Nat} (h : Keeps S w w') (hb : But B w' w'') (hB : S B) : Keeps S w w'' :=
  h.trans ⟨hb.low.os, hb.low.tape, hb.low.output, hb.size, fun k hk hn => hb.same k hk (fun e => hn (by rw [e]; exact hB))⟩
theorem below {M : Nat} (h : Keeps S w w') (hM : M ≤ w.heap.size) (hS : ∀ k, k < M → ¬ S k) : Below M w w' := ⟨h.os, h.tape, h.output, h.size, fun k hk => h.block k (by omega) (hS k hk)⟩
theorem blk {C : Nat} {k : IntKind} {t : TypeId} {l : List Int} (h : Keeps S w w') (hC : IntBlk w C k t l) (hn : ¬ S C) : IntBlk w' C k t l := (h.block C hC.lt hn).trans hC
theorem cells {C : Nat} {o : Obj} (h : Keeps S w w') (hC : w.heap[C]? = some o) (hn : ¬ S C) : w'.heap[C]? = some o := (h.block C (Array.getElem?_eq_some_iff.1 hC).1 hn).trans hC
end Keeps

/-! ### Maps from sectors' numbers to sectors -/
open Classical in
/-- How a sector reads that lies in a map. -/
noncomputable def cellR (v : Value) : Option (DataW Value × List MemPlace) := if ∃ g : Nat → Nat, v = .agg (cellsOf .u8 (mk 128 g)) then some (.held v, []) else none
theorem cellR_mk (g : Nat → Nat) : cellR (.agg (cellsOf .u8 (mk 128 g))) = some (.held (.agg (cellsOf .u8 (mk 128 g))), []) := if_pos ⟨g, rfl⟩
theorem cellR_inv {v : Value} {y : DataW Value × List MemPlace} (h : cellR v = some y) : ∃ g : Nat → Nat, v = .agg (cellsOf .u8 (mk 128 g)) ∧ y = (.held v, []) := by
  unfold cellR at h
  split at h
  · rename_i hg
    obtain ⟨g, hg⟩ := hg
    exact ⟨g, hg, by cases h; rfl⟩
  · cases h
theorem cellsOf_inj {k : IntKind} {l l' : List Int} (h : cellsOf k l = cellsOf k l') : l = l' := by
  unfold cellsOf at h
  have h2 : l.map (Value.int k) = l'.map (Value.int k) := by simpa using h
  exact (List.map_inj_right (fun x y e => by cases e; rfl)).1 h2
/-- The datum D says of each number which sector it has. -/
structure Reads (D : DataW Value) (f : Int → Option (List Int)) : Prop where
  has : ∀ x, Maps.has D (.int .i64 x) = (f x).isSome
  val : ∀ x l, f x = some l → (∃ g : Nat → Nat, l = mk 128 g) ∧ ∀ z, D.atKey (.int .i64 x) z = .held (.agg (cellsOf .u8 l))
def setO (f : Int → Option (List Int)) (x : Int) (v : Option (List Int)) : Int → Option (List Int) := fun y => if y = x then v else f y
theorem reads_none : Reads (.map []) fun _ => none := ⟨fun _ => rfl, fun _ _ h => by cases h⟩
theorem lit_ne {x y : Int} (h : y ≠ x) : (Lit.int .i64 y) ≠ .int .i64 x := fun e => by cases e; exact h rfl
theorem reads_put {D : DataW Value} {f : Int → Option (List Int)} (h : Reads D f) (hD : Maps.IsMap D) (x : Int) (g : Nat → Nat) : Reads (D.put (.int .i64 x) (.held (.agg (cellsOf .u8 (mk 128 g))))) (setO f x (some (mk 128 g))) := by
  constructor
  · intro y
    unfold setO
    by_cases e : y = x
    · subst e
      rw [if_pos rfl, Maps.has_put_same hD (by trivial)]; rfl
    · rw [if_neg e, Maps.has_put_other (lit_ne e)]; exact h.has y
  · intro y l hl
    unfold setO at hl
    by_cases e : y = x
    · subst e
      rw [if_pos rfl] at hl
      cases hl
      exact ⟨⟨g, rfl⟩, fun z => Maps.atKey_put_same hD (by trivial) _ z⟩
    · rw [if_neg e] at hl
      exact ⟨(h.val y l hl).1, fun z => by rw [Maps.atKey_put_other (lit_ne e)]; exact (h.val y l hl).2 z⟩
theorem reads_del {D : DataW Value} {f : Int → Option (List Int)} (h : Reads D f) (x : Int) : Reads (D.del (.int .i64 x)) (setO f x Option.none) := by
  constructor
  · intro y
    unfold setO
    by_cases e : y = x
    · subst e
      rw [if_pos rfl, Maps.has_del_same]; rfl
    · rw [if_neg e, Maps.has_del_other (lit_ne e)]; exact h.has y
  · intro y l hl
    unfold setO at hl
    by_cases e : y = x
    · subst e
      rw [if_pos rfl] at hl
      cases hl
    · rw [if_neg e] at hl
      exact ⟨(h.val y l hl).1, fun z => by rw [Maps.atKey_del_other (lit_ne e)]; exact (h.val y l hl).2 z⟩

/-! ### A disk -/
/-- What a disk holds: steps made, armed with how many, the power; sectors that are sure, those that are open; counters. -/
structure Disk where
  made : Nat
  armed : Bool
  left : Nat
  down : Bool
  ns : Nat
  sure : Nat → List Int
  opn : Int → Option (List Int)
  cnt : List Int
/-- Where it lies: the struct, the sectors, the map, the counters. -/
structure Blks where
  B : Nat
  sb : Nat
  mb : Nat
  cb : Nat
def Blks.own (b : Blks) (k : Nat) : Prop := k = b.B ∨ k = b.sb ∨ k = b.mb ∨ k = b.cb
def platV (b : Blks) (d : Disk) : Array Value := #[.int .i64 d.made, .bool d.armed, .int .i64 d.left, .bool d.down, .slice (some ⟨b.sb, 0, none⟩) d.ns d.ns, .map (some b.mb), .slice (some ⟨b.cb, 0, none⟩) d.cnt.length d.cnt.length]
/-- The sectors' bytes, one behind the other. -/
def SureAt (w : World) (sb ns : Nat) (sure : Nat → List Int) : Prop := ∃ F : Nat → Nat, IntBlk w sb .u8 40 (mk (128 * ns) F) ∧ ∀ i, i < ns → sure i = mk 128 (fun j => F (128 * i + j))
def OpenAt (w : World) (mb made : Nat) (opn : Int → Option (List Int)) : Prop := ∃ n D, n ≤ made ∧ w.ownsMap Try.prog 3 cellR mb n D ∧ Reads D opn
structure DiskAt (w : World) (b : Blks) (d : Disk) : Prop where
  plat : w.heap[b.B]? = some (.cells (platV b d) 90 (0, 0))
  sect : SureAt w b.sb d.ns d.sure
  opn : OpenAt w b.mb d.made d.opn
  cnts : IntBlk w b.cb .i64 3 d.cnt
  ne1 : b.B ≠ b.sb
  ne2 : b.B ≠ b.cb
  ne3 : b.sb ≠ b.cb
  wf : ∀ x, (d.opn x).isSome = true → 0 ≤ x ∧ x < d.ns
  ns1 : 1 ≤ d.ns
  ns2 : d.ns ≤ 2048
  nc : d.cnt.length ≤ 16
theorem SureAt.keep {w w' : World} {sb ns : Nat} {sure : Nat → List Int} (h : SureAt w sb ns sure) (hb : w'.heap[sb]? = w.heap[sb]?) : SureAt w' sb ns sure := by
  obtain ⟨F, h1, h2⟩ := h
  exact ⟨F, hb.trans h1, h2⟩
theorem ownsMap_keep {H : Type} {P : Program} {k : TypeId} {R : Value → Option (DataW H × List MemPlace)} {n mb : Nat} {D : DataW H} {w w' : World} (h : w.ownsMap P k R mb n D) (hb : w'.heap[mb]? = w.heap[mb]?) : w'.ownsMap P k R mb n D := by
  obtain ⟨es, clock, h1, h2⟩ := h
  exact ⟨es, clock, hb.trans h1, h2⟩
theorem OpenAt.keep {w w' : World} {mb made : Nat} {opn : Int → Option (List Int)} (h : OpenAt w mb made opn) (hb : w'.heap[mb]? = w.heap[mb]?) : OpenAt w' mb made opn := by
  obtain ⟨n, D, h1, h2, h3⟩ := h
  exact ⟨n, D, h1, ownsMap_keep h2 hb, h3⟩
theorem SureAt.lt {w : World} {sb ns : Nat} {sure : Nat → List Int} (h : SureAt w sb ns sure) : sb < w.heap.size := by obtain ⟨F, h1, _⟩ := h; exact h1.lt
theorem OpenAt.lt {w : World} {mb made : Nat} {opn : Int → Option (List Int)} (h : OpenAt w mb made opn) : mb < w.heap.size := by obtain ⟨n, D, _, h2, _⟩ := h; exact h2.lt
/-- A map's block is no row. -/
theorem map_ne {H : Type} {P : Program} {k : TypeId} {R : Value → Option (DataW H × List MemPlace)} {n mb : Nat} {D : DataW H} {w : World} (h : w.ownsMap P k R mb n D) {C : Nat} {cs : Array Value} {t : TypeId} {fr : Nat × Nat} (hC : w.heap[C]? = some (.cells cs t fr)) : mb ≠ C := by
  obtain ⟨es, clock, h1, _⟩ := h
  intro e
  rw [e, hC] at h1
  cases h1
theorem OpenAt.ne {w : World} {mb made : Nat} {opn : Int → Option (List Int)} (h : OpenAt w mb made opn) {C : Nat} {cs : Array Value} {t : TypeId} {fr : Nat × Nat} (hC : w.heap[C]? = some (.cells cs t fr)) : mb ≠ C := by
  obtain ⟨n, D, _, h2, _⟩ := h
  exact map_ne h2 hC
namespace DiskAt
variable {w w' : World} {b : Blks} {d : Disk}
theorem lt (h : DiskAt w b d) {k : Nat} (hk : b.own k) : k < w.heap.size := by
  rcases hk with rfl | rfl | rfl | rfl
  · exact (Array.getElem?_eq_some_iff.1 h.plat).1
  · exact h.sect.lt
  · exact h.opn.lt
  · exact h.cnts.lt
theorem neB (h : DiskAt w b d) : b.mb ≠ b.B := h.opn.ne h.plat
theorem neS (h : DiskAt w b d) : b.mb ≠ b.sb := by obtain ⟨F, h1, _⟩ := h.sect; exact h.opn.ne h1
theorem neC (h : DiskAt w b d) : b.mb ≠ b.cb := h.opn.ne h.cnts
/-- A disk stays while its blocks stay. -/
theorem keep (h : DiskAt w b d) (hb : ∀ k, b.own k → w'.heap[k]? = w.heap[k]?) : DiskAt w' b d :=
  ⟨(hb _ (.inl rfl)).trans h.plat, h.sect.keep (hb _ (.inr (.inl rfl))), h.opn.keep (hb _ (.inr (.inr (.inl rfl)))), (hb _ (.inr (.inr (.inr rfl)))).trans h.cnts, h.ne1, h.ne2, h.ne3, h.wf, h.ns1, h.ns2, h.nc⟩
theorem below (h : DiskAt w b d) (hb : Below w.heap.size w w') : DiskAt w' b d := h.keep fun k hk => hb.block k (h.lt hk)
theorem alloc (h : DiskAt w b d) (o : Obj) : DiskAt (w.alloc o) b d := h.below ((Below.refl _ _).alloc (Nat.le_refl _) _)
theorem drew (h : DiskAt w b d) : DiskAt w.drew b d := h.keep fun _ _ => rfl
theorem keeps {S : Nat → Prop} (h : DiskAt w b d) (hk : Keeps S w w') (hS : ∀ k, b.own k → ¬ S k) : DiskAt w' b d := h.keep fun k hb => hk.block k (h.lt hb) (hS k hb)
theorem setCell_other (h : DiskAt w b d) {C : Nat} (hC : ¬ b.own C) (i : Nat) (v : Value) : DiskAt (w.setCell ⟨C, i, none⟩ v) b d :=
  h.keep fun k hk => Below.heap_setCell _ _ _ k (fun e => hC (by have : k = C := e; subst this; exact hk))
/-- One cell of the struct is written. -/
theorem setB (h : DiskAt w b d) (i : Nat) (v : Value) (d' : Disk) (hv : (platV b d).setIfInBounds i v = platV b d') (h1 : d'.ns = d.ns) (h2 : d'.sure = d.sure) (h3 : d'.opn = d.opn) (h4 : d'.cnt = d.cnt) (h5 : d.made ≤ d'.made) : DiskAt (w.setCell ⟨b.B, i, none⟩ v) b d' := by
  have oth : ∀ k, k ≠ b.B → (w.setCell ⟨b.B, i, none⟩ v).heap[k]? = w.heap[k]? := fun k hk => Below.heap_setCell _ _ _ k (fun e => hk e)
  refine ⟨?_, ?_, ?_, ?_, h.ne1, h.ne2, h.ne3, ?_, ?_, ?_, ?_⟩
  · have := h.plat
    rw [← hv]
    exact heap_setCell_same _ _ _ _ _ _ this
  · rw [h1, h2]; exact h.sect.keep (oth _ h.ne1.symm)
  · rw [h3]
    obtain ⟨n, D, hn, hm, hr⟩ := h.opn.keep (oth _ h.neB)
    exact ⟨n, D, Nat.le_trans hn h5, hm, hr⟩
  · rw [h4]; exact (oth _ h.ne2.symm).trans h.cnts
  · rw [h3, h1]; exact h.wf
  · rw [h1]; exact h.ns1
  · rw [h1]; exact h.ns2
  · rw [h4]; exact h.nc
theorem cell (h : DiskAt w b d) (i : Nat) {v : Value} (hv : (platV b d)[i]? = some v) : w.cell? ⟨b.B, i, none⟩ = some v := (cell_of_row _ _ _ _ _ _ h.plat).trans hv
theorem c0 (h : DiskAt w b d) : w.cell? ⟨b.B, 0, none⟩ = some (.int .i64 d.made) := h.cell 0 rfl
theorem c1 (h : DiskAt w b d) : w.cell? ⟨b.B, 1, none⟩ = some (.bool d.armed) := h.cell 1 rfl
theorem c2 (h : DiskAt w b d) : w.cell? ⟨b.B, 2, none⟩ = some (.int .i64 d.left) := h.cell 2 rfl
theorem c3 (h : DiskAt w b d) : w.cell? ⟨b.B, 3, none⟩ = some (.bool d.down) := h.cell 3 rfl
theorem c4 (h : DiskAt w b d) : w.cell? ⟨b.B, 4, none⟩ = some (.slice (some ⟨b.sb, 0, none⟩) d.ns d.ns) := h.cell 4 rfl
theorem c5 (h : DiskAt w b d) : w.cell? ⟨b.B, 5, none⟩ = some (.map (some b.mb)) := h.cell 5 rfl
theorem c6 (h : DiskAt w b d) : w.cell? ⟨b.B, 6, none⟩ = some (.slice (some ⟨b.cb, 0, none⟩) d.cnt.length d.cnt.length) := h.cell 6 rfl
theorem free (h : DiskAt w b d) (i : Nat) : w.frozen? ⟨b.B, i, none⟩ = false := frozen_of_row _ _ _ _ _ h.plat
end DiskAt
end Go.Proofs.Ytbejfpdkfpgipaa
