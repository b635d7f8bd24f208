/- The document's disk (citadelref09) in memory: the struct, the sure sectors, what was written since, the counters; its step. No condition. -/
import Derived.Test.YtbejfpdkfpgipaaPlOpens
namespace Go.Proofs.Ytbejfpdkfpgipaa
open Go.ChangeShapes Go.WideShapes Go.ChangeAt Go.RowKit
set_option linter.unusedVariables false
/-- Where it lies. -/
structure RBlk where
  B : Nat
  sb : Nat
  zb : Nat
  cb : Nat
def RBlk.fix (r : RBlk) (k : Nat) : Prop := k = r.B ∨ k = r.sb ∨ k = r.zb ∨ k = r.cb
/-- What was written to each sector since it was sure: the slice's value, how many, the bytes. -/
structure Since where
  V : Nat → Value
  n : Nat → Nat
  G : Nat → Nat → Nat
def Since.own (R : Since) (ns k : Nat) : Prop := ∃ i, i < ns ∧ (R.V i).ownBlock = some k
def RBlk.own (r : RBlk) (R : Since) (ns k : Nat) : Prop := r.fix k ∨ R.own ns k
/-- The last sector of what was written. -/
def Since.last (R : Since) (i : Nat) : Option (List Int) := if R.n i = 0 then none else some (Go.Proofs.Ytbejfpdkfpgipaa.mk 128 fun j => R.G i (128 * (R.n i - 1) + j))
def refV (r : RBlk) (d : Disk) (L : Nat) : Array Value := #[.slice (some ⟨r.sb, 0, none⟩) d.ns d.ns, .slice (some ⟨r.zb, 0, none⟩) d.ns d.ns, .slice (some ⟨r.cb, 0, none⟩) d.cnt.length d.cnt.length, .int .i64 d.made, .bool d.armed, .int .i64 L, .bool d.down]
structure SinceAt (w : World) (zb base ns made : Nat) (R : Since) (opn : Int → Option (List Int)) : Prop where
  tab : w.heap[zb]? = some (.cells ((List.range ns).map R.V).toArray 53 (0, 0))
  row : ∀ i, i < ns → w.ownsRow base 40 128 (R.V i) (R.n i) (bytesList (R.n i * 128) (R.G i))
  apart : ∀ i j, i < ns → j < ns → i ≠ j → (R.V i).ownBlock = none ∨ (R.V i).ownBlock ≠ (R.V j).ownBlock
  few : ∀ i, i < ns → R.n i ≤ made
  opn : ∀ i : Nat, i < ns → opn i = R.last i
structure RefAt (w : World) (r : RBlk) (base : Nat) (d : Disk) (L : Nat) (R : Since) : Prop where
  plat : w.heap[r.B]? = some (.cells (refV r d L) 56 (0, 0))
  left : d.armed = true → L = d.left
  sect : SureAt w r.sb d.ns d.sure
  rows : SinceAt w r.zb base d.ns d.made R d.opn
  cnts : IntBlk w r.cb .i64 3 d.cnt
  lt : ∀ k, r.fix k → k < base
  ne1 : r.B ≠ r.sb
  ne2 : r.B ≠ r.zb
  ne3 : r.B ≠ r.cb
  ne4 : r.sb ≠ r.zb
  ne5 : r.sb ≠ r.cb
  ne6 : r.zb ≠ r.cb
  wf : ∀ x, (d.opn x).isSome = true → 0 ≤ x ∧ x < d.ns
  ns1 : 1 ≤ d.ns
  ns2 : d.ns ≤ 2048
  nc : d.cnt.length ≤ 16
theorem ownsRow_keep {w w' : World} {base n sz : Nat} {v : Value} {xs : List Value} {e : TypeId} (h : w.ownsRow base e sz v n xs) (hb : ∀ g, v.ownBlock = some g → g < w.heap.size → w'.heap[g]? = w.heap[g]?) : w'.ownsRow base e sz v n xs := by
  obtain ⟨h1, h2⟩ := h
  refine ⟨h1, ?_⟩
  rcases h2 with h2 | ⟨g, cap, cur, rfl, hg, hh, r⟩
  · exact .inl h2
  · exact .inr ⟨g, cap, cur, rfl, hg, (hb g rfl (Array.getElem?_eq_some_iff.1 hh).1).trans hh, r⟩
theorem ownsRow_block {w : World} {base n sz : Nat} {v : Value} {xs : List Value} {e : TypeId} (h : w.ownsRow base e sz v n xs) {g : Nat} (hg : v.ownBlock = some g) : base ≤ g ∧ g < w.heap.size := by
  rcases h.2 with ⟨rfl, _⟩ | ⟨g', cap, cur, rfl, hb, hh, _⟩
  · cases hg
  · cases hg; exact ⟨hb, (Array.getElem?_eq_some_iff.1 hh).1⟩
theorem SinceAt.keep {w w' : World} {zb base ns made : Nat} {R : Since} {opn : Int → Option (List Int)} (h : SinceAt w zb base ns made R opn) (hz : w'.heap[zb]? = w.heap[zb]?) (hb : ∀ k, R.own ns k → w'.heap[k]? = w.heap[k]?) : SinceAt w' zb base ns made R opn :=
  ⟨hz.trans h.tab, fun i hi => ownsRow_keep (h.row i hi) (fun g hg _ => hb g ⟨i, hi, hg⟩), h.apart, h.few, h.opn⟩
namespace RefAt
variable {w w' : World} {r : RBlk} {base : Nat} {d : Disk} {L : Nat} {R : Since}
theorem fits (h : RefAt w r base d L R) {k : Nat} (hk : r.fix k) : k < w.heap.size := by
  rcases hk with rfl | rfl | rfl | rfl
  · exact (Array.getElem?_eq_some_iff.1 h.plat).1
  · exact h.sect.lt
  · exact (Array.getElem?_eq_some_iff.1 h.rows.tab).1
  · exact h.cnts.lt
theorem rowLt (h : RefAt w r base d L R) {k : Nat} (hk : R.own d.ns k) : base ≤ k ∧ k < w.heap.size := by
  obtain ⟨i, hi, hg⟩ := hk
  exact ownsRow_block (h.rows.row i hi) hg
theorem blkLt (h : RefAt w r base d L R) {k : Nat} (hk : r.own R d.ns k) : k < w.heap.size := by
  rcases hk with hk | hk
  · exact h.fits hk
  · exact (h.rowLt hk).2
theorem keep (h : RefAt w r base d L R) (hb : ∀ k, r.own R d.ns k → w'.heap[k]? = w.heap[k]?) : RefAt w' r base d L R :=
  ⟨(hb _ (.inl (.inl rfl))).trans h.plat, h.left, h.sect.keep (hb _ (.inl (.inr (.inl rfl)))), h.rows.keep (hb _ (.inl (.inr (.inr (.inl rfl))))) (fun k hk => hb k (.inr hk)), (hb _ (.inl (.inr (.inr (.inr rfl))))).trans h.cnts, h.lt, h.ne1, h.ne2, h.ne3, h.ne4, h.ne5, h.ne6, h.wf, h.ns1, h.ns2, h.nc⟩
theorem below (h : RefAt w r base d L R) (hb : Below w.heap.size w w') : RefAt w' r base d L R := h.keep fun k hk => hb.block k (h.blkLt hk)
theorem alloc (h : RefAt w r base d L R) (o : Obj) : RefAt (w.alloc o) r base d L R := h.below ((Below.refl _ _).alloc (Nat.le_refl _) _)
theorem drew (h : RefAt w r base d L R) : RefAt w.drew r base d L R := h.keep fun _ _ => rfl
theorem keeps {S : Nat → Prop} (h : RefAt w r base d L R) (hk : Keeps S w w') (hS : ∀ k, r.own R d.ns k → ¬ S k) : RefAt w' r base d L R := h.keep fun k hb => hk.block k (h.blkLt hb) (hS k hb)
theorem notB (h : RefAt w r base d L R) {k : Nat} (hk : R.own d.ns k) : k ≠ r.B := fun e => by
  have := (h.rowLt hk).1
  have := h.lt r.B (.inl rfl)
  omega
theorem setB (h : RefAt w r base d L R) (i : Nat) (v : Value) (d' : Disk) (L' : Nat) (hv : (refV r d L).setIfInBounds i v = refV r d' L') (hl : d'.armed = true → L' = d'.left) (h1 : d'.ns = d.ns) (h2 : d'.sure = d.sure) (h3 : d'.opn = d.opn) (h4 : d'.cnt = d.cnt) (h5 : d.made ≤ d'.made) : RefAt (w.setCell ⟨r.B, i, none⟩ v) r base d' L' R := by
  have oth : ∀ k, k ≠ r.B → (w.setCell ⟨r.B, i, none⟩ v).heap[k]? = w.heap[k]? := fun k hk => Below.heap_setCell _ _ _ k (fun e => hk e)
  refine ⟨?_, hl, ?_, ?_, ?_, h.lt, h.ne1, h.ne2, h.ne3, h.ne4, h.ne5, h.ne6, ?_, ?_, ?_, ?_⟩
  · have := h.plat
    rw [← hv]
    exact heap_setCell_same _ _ _ _ _ _ this
  · rw [h1, h2]; exact h.sect.keep (oth _ h.ne1.symm)
  · rw [h1, h3]
    have := h.rows.keep (oth _ h.ne2.symm) (fun k hk => oth k (h.notB hk))
    exact ⟨this.tab, this.row, this.apart, fun i hi => Nat.le_trans (this.few i hi) h5, this.opn⟩
  · rw [h4]; exact (oth _ h.ne3.symm).trans h.cnts
  · rw [h3, h1]; exact h.wf
  · rw [h1]; exact h.ns1
  · rw [h1]; exact h.ns2
  · rw [h4]; exact h.nc
theorem cell (h : RefAt w r base d L R) (i : Nat) {v : Value} (hv : (refV r d L)[i]? = some v) : w.cell? ⟨r.B, i, none⟩ = some v := (cell_of_row _ _ _ _ _ _ h.plat).trans hv
theorem c0 (h : RefAt w r base d L R) : w.cell? ⟨r.B, 0, none⟩ = some (.slice (some ⟨r.sb, 0, none⟩) d.ns d.ns) := h.cell 0 rfl
theorem c1 (h : RefAt w r base d L R) : w.cell? ⟨r.B, 1, none⟩ = some (.slice (some ⟨r.zb, 0, none⟩) d.ns d.ns) := h.cell 1 rfl
theorem c2 (h : RefAt w r base d L R) : w.cell? ⟨r.B, 2, none⟩ = some (.slice (some ⟨r.cb, 0, none⟩) d.cnt.length d.cnt.length) := h.cell 2 rfl
theorem c3 (h : RefAt w r base d L R) : w.cell? ⟨r.B, 3, none⟩ = some (.int .i64 d.made) := h.cell 3 rfl
theorem c4 (h : RefAt w r base d L R) : w.cell? ⟨r.B, 4, none⟩ = some (.bool d.armed) := h.cell 4 rfl
theorem c5 (h : RefAt w r base d L R) : w.cell? ⟨r.B, 5, none⟩ = some (.int .i64 L) := h.cell 5 rfl
theorem c6 (h : RefAt w r base d L R) : w.cell? ⟨r.B, 6, none⟩ = some (.bool d.down) := h.cell 6 rfl
theorem free (h : RefAt w r base d L R) (i : Nat) : w.frozen? ⟨r.B, i, none⟩ = false := frozen_of_row _ _ _ _ _ h.plat
end RefAt
section
variable {w : World} {r : RBlk} {base : Nat} {d : Disk} {L : Nat} {R : Since}
set_option maxRecDepth 100000 in
theorem rstep_down (h : RefAt w r base d L R) (hg : d.gone = true) : Calls Try.prog 46 #[.pointer (some ⟨r.B, 0, none⟩)] w fun e w' => e = .returned (.int .i64 5) ∧ RefAt w' r base d.fell L R ∧ Keeps (fun k => k = r.B) w w' ∧ w'.heap.size = w.heap.size := by
  have c4 := h.c4
  have c5 := h.c5
  have c6 := h.c6
  have f6 := h.free 6
  have hs := h.setB 6 (.bool true) d.fell L rfl h.left rfl rfl rfl rfl (Nat.le_refl _)
  have hk : Keeps (fun k => k = r.B) w (w.setCell ⟨r.B, 6, none⟩ (.bool true)) := (Keeps.refl (fun k => k = r.B) w).setCell (S := fun k => k = r.B) rfl 6 _
  have H := Lib.hid h
  have HS := Lib.hid hs
  have HK := Lib.hid hk
  have hlf := h.left
  clear hs hk h
  unfold Disk.gone at hg
  by_cases hd : d.down = true
  · have e : d.fell = d := by unfold Disk.fell; rw [← hd]
    rw [hd] at c6
    rw [e]
    clear hg hlf e HS hd
    go_enter Try.func46, Try.ntmps46
    go_wp2
    go_ret
    exact ⟨rfl, H.out, .refl _ _, rfl⟩
  · have hd : d.down = false := by simpa using hd
    have ha : d.armed = true := by simp [hd] at hg; exact hg.1
    have hl : d.left = 0 := by simp [hd] at hg; exact hg.2
    rw [hd] at c6
    rw [ha] at c4
    rw [hlf ha, hl] at c5
    clear hg hlf
    go_enter Try.func46, Try.ntmps46
    go_wp2
    go_ret
    exact ⟨rfl, HS.out, HK.out, by simp [World.setCell]⟩
set_option maxRecDepth 100000 in
theorem rstep_on (h : RefAt w r base d L R) (hg : d.gone = false) (hm : d.made < 4611686018427387904) (hl : d.left < 9223372036854775808) : Calls Try.prog 46 #[.pointer (some ⟨r.B, 0, none⟩)] w fun e w' => e = .returned (.int .i64 0) ∧ (∃ L', RefAt w' r base d.went L' R) ∧ Keeps (fun k => k = r.B) w w' ∧ w'.heap.size = w.heap.size := by
  have c3 := h.c3
  have c4 := h.c4
  have c5 := h.c5
  have c6 := h.c6
  have f3 := h.free 3
  have f5 := h.free 5
  unfold Disk.gone at hg
  have hd : d.down = false := by cases hq : d.down <;> simp_all
  rw [hd] at c6
  have e1 : IntKind.i64.wrap ((d.made : Int) + 1) = ((d.made + 1 : Nat) : Int) := by rw [IntWalk.i64_in _ (by omega)]; omega
  by_cases ha : d.armed = true
  · have hl0 : d.left ≠ 0 := fun e => by simp [hd, ha, e] at hg
    have hL := h.left ha
    subst hL
    rw [ha] at c4
    have dl : decide ((d.left : Int) = 0) = false := by simpa using hl0
    have dl2 : ((d.left : Int) == 0) = false := by simpa using hl0
    have e2 : IntKind.i64.wrap ((d.left : Int) - 1) = ((d.left - 1 : Nat) : Int) := by rw [IntWalk.i64_in _ (by omega)]; omega
    have h1 := h.setB 5 (.int .i64 ((d.left - 1 : Nat) : Int)) { d with left := d.left - 1 } (d.left - 1) rfl (fun _ => rfl) rfl rfl rfl rfl (Nat.le_refl _)
    have c3' := h1.c3
    have f3' := h1.free 3
    have h2 := h1.setB 3 (.int .i64 ((d.made + 1 : Nat) : Int)) d.went (d.left - 1) (by unfold Disk.went; rfl) (fun _ => by unfold Disk.went; simp [ha]) rfl rfl rfl rfl (by show d.made ≤ d.made + 1; omega)
    have hk : Keeps (fun k => k = r.B) w ((w.setCell ⟨r.B, 5, none⟩ (.int .i64 ((d.left - 1 : Nat) : Int))).setCell ⟨r.B, 3, none⟩ (.int .i64 ((d.made + 1 : Nat) : Int))) := ((Keeps.refl (fun k => k = r.B) w).setCell (S := fun k => k = r.B) rfl 5 _).setCell (S := fun k => k = r.B) rfl 3 _
    have H2 := Lib.hid h2
    have HK := Lib.hid hk
    clear h h1 h2 hk hg hl hm ha hd hl0
    go_enter Try.func46, Try.ntmps46
    go_wp2
    go_ret
    exact ⟨rfl, ⟨_, H2.out⟩, HK.out, by simp [World.setCell]⟩
  · have ha : d.armed = false := by simpa using ha
    rw [ha] at c4
    have h2 := h.setB 3 (.int .i64 ((d.made + 1 : Nat) : Int)) d.went L (by unfold Disk.went; rfl) (fun e => by have : d.armed = true := e; rw [ha] at this; cases this) rfl rfl rfl rfl (by show d.made ≤ d.made + 1; omega)
    have hk : Keeps (fun k => k = r.B) w (w.setCell ⟨r.B, 3, none⟩ (.int .i64 ((d.made + 1 : Nat) : Int))) := (Keeps.refl (fun k => k = r.B) w).setCell (S := fun k => k = r.B) rfl 3 _
    have H2 := Lib.hid h2
    have HK := Lib.hid hk
    clear h h2 hk hg hl hm ha hd
    go_enter Try.func46, Try.ntmps46
    go_wp2
    go_ret
    exact ⟨rfl, ⟨_, H2.out⟩, HK.out, by simp [World.setCell]⟩
end
end Go.Proofs.Ytbejfpdkfpgipaa
