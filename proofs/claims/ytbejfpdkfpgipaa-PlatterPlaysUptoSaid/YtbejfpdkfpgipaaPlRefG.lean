/- The contract of the document's Write. Conditions: the disk lies in memory; not more than 100,000 steps were made. -/
import Derived.Test.YtbejfpdkfpgipaaPlRefD
import Derived.Test.YtbejfpdkfpgipaaPlRefH
namespace Go.Proofs.Ytbejfpdkfpgipaa
open Go.ChangeShapes Go.WideShapes Go.ChangeAt Go.RowKit
set_option linter.unusedVariables false
section
variable {w : World} {r : RBlk} {base : Nat} {d : Disk} {L : Nat} {R : Since}
theorem done_load_box {o : Oper} {a : Act} {w : World} {K : Value → World → Prop} (t : TypeId) (x : Operand) (ho : o.op = .load t x) (p : Addr) (v : Value) (hx : a.eval x = .pointer (some p)) (hu : ∀ w, (isAgg t).run Try.prog w = .ok false w) (hc : w.cell? p = some v) (h : K v w) : doneAt Try.prog o a w K := by
  unfold doneAt execOp
  simp only [ho, hx]
  simp [go_sem, hc, hu]
  exact h
theorem done_store_slot {o : Oper} {a : Act} {w : World} {K : Value → World → Prop} (x y : Operand) (ho : o.op = .store 53 x y) (p : Addr) (v : Value) (q : Option Addr) (n c : Nat) (hv : v = .slice q n c) (hx : a.eval x = .pointer (some p)) (hy : a.eval y = v) (old : Value) (hc : w.cell? p = some old) (hf : w.frozen? p = false)
    (h : K undef (w.setCell p v)) : doneAt Try.prog o a w K := by
  subst hv
  unfold doneAt execOp
  simp only [ho, hx, hy]
  simp [go_sem, hc, hf]
  exact h
def OffRow (w : World) (zb : Nat) (own : Option Nat) (W : World) : Prop := ∀ k, k < w.heap.size → k ≠ zb → some k ≠ own → W.heap[k]? = w.heap[k]?
def Since.plus (R : Since) (i : Nat) (v : Value) (g : Nat → Nat) : Since := ⟨fun j => if j = i then v else R.V j, fun j => if j = i then R.n i + 1 else R.n j, fun j => if j = i then moreG (R.G i) (R.n i) g else R.G j⟩
theorem RefAt.appended {w1 w3 : World} {d1 : Disk} {v : Value} {g : Nat → Nat} {i : Nat} (h : RefAt w1 r base d1 L R) (hi : i < d1.ns) (hf : R.n i + 1 ≤ d1.made) (hb : ∀ k, k < w1.heap.size → some k ≠ (R.V i).ownBlock → w3.heap[k]? = w1.heap[k]?)
    (hown : w3.ownsRow base 40 128 v (R.n i + 1) (bytesList ((R.n i + 1) * 128) (moreG (R.G i) (R.n i) g))) (hat : v.ownBlock = (R.V i).ownBlock ∨ ∃ k, v.ownBlock = some k ∧ w1.heap.size ≤ k) :
    RefAt (w3.setCell ⟨r.zb, i, none⟩ v) r base { d1 with opn := setO d1.opn i (some (Go.Proofs.Ytbejfpdkfpgipaa.mk 128 g)) } L (R.plus i v g) := by
  have fx : ∀ k, r.fix k → w3.heap[k]? = w1.heap[k]? := fun k hk => hb k (h.fits hk) (fun e => by
    have := (h.rowLt ⟨i, hi, e.symm⟩).1
    have := h.lt k hk
    omega)
  have oth : ∀ j, j ≠ r.zb → (w3.setCell ⟨r.zb, i, none⟩ v).heap[j]? = w3.heap[j]? := fun j hj => Below.heap_setCell _ _ _ j (fun e => hj e)
  have hz : ∀ j, R.own d1.ns j → j ≠ r.zb := fun j hj e => by have := (h.rowLt hj).1; have := h.lt r.zb (.inr (.inr (.inl rfl))); omega
  have hvz : ∀ k, v.ownBlock = some k → k ≠ r.zb := fun k hk e => by
    rcases hat with e' | ⟨k', e', hk'⟩
    · exact hz k ⟨i, hi, e' ▸ hk⟩ e
    · rw [hk] at e'; cases e'; have := h.fits (k := r.zb) (.inr (.inr (.inl rfl))); omega
  have rows : ∀ j, j < d1.ns → j ≠ i → ∀ k, (R.V j).ownBlock = some k → w3.heap[k]? = w1.heap[k]? := fun j hj hne k hk => hb k (h.rowLt ⟨j, hj, hk⟩).2 (fun e => by
    rcases h.rows.apart j i hj hi hne with e' | e'
    · rw [hk] at e'; cases e'
    · exact e' (hk.trans e))
  refine ⟨((oth _ h.ne2).trans (fx _ (.inl rfl))).trans h.plat, h.left, h.sect.keep ((oth _ h.ne4).trans (fx _ (.inr (.inl rfl)))), ⟨?_, ?_, ?_, ?_, ?_⟩, ((oth _ h.ne6.symm).trans (fx _ (.inr (.inr (.inr rfl))))).trans h.cnts, h.lt, h.ne1, h.ne2, h.ne3, h.ne4, h.ne5, h.ne6, ?_, h.ns1, h.ns2, h.nc⟩
  · have := heap_setCell_same w3 r.zb i _ _ v ((fx _ (.inr (.inr (.inl rfl)))).trans h.rows.tab)
    rw [row_set] at this
    exact this
  · intro j hj
    show World.ownsRow _ base 40 128 (if j = i then v else R.V j) (if j = i then R.n i + 1 else R.n j) (bytesList ((if j = i then R.n i + 1 else R.n j) * 128) (if j = i then moreG (R.G i) (R.n i) g else R.G j))
    by_cases e : j = i
    · rw [if_pos e, if_pos e, if_pos e]
      exact ownsRow_keep hown (fun k hk _ => oth k (hvz k hk))
    · rw [if_neg e, if_neg e, if_neg e]
      exact ownsRow_keep (h.rows.row j hj) (fun k hk _ => (oth k (hz k ⟨j, hj, hk⟩)).trans (rows j hj e k hk))
  · intro j j' hj hj' hne
    show (if j = i then v else R.V j).ownBlock = none ∨ (if j = i then v else R.V j).ownBlock ≠ (if j' = i then v else R.V j').ownBlock
    by_cases e : j = i
    · subst e
      rw [if_pos rfl, if_neg (Ne.symm hne)]
      rcases hat with e' | ⟨k, e', hk⟩
      · rw [e']; exact h.rows.apart j j' hj hj' hne
      · refine .inr fun e2 => ?_
        have := (h.rowLt ⟨j', hj', e2.symm.trans e'⟩).2
        omega
    · rw [if_neg e]
      by_cases e3 : j' = i
      · subst e3
        rw [if_pos rfl]
        rcases hat with e' | ⟨k, e', hk⟩
        · rw [e']; exact h.rows.apart j j' hj hj' hne
        · cases hq : (R.V j).ownBlock with
          | none => exact .inl rfl
          | some k' =>
            refine .inr fun e2 => ?_
            have h1 := (h.rowLt ⟨j, hj, hq⟩).2
            rw [e'] at e2
            cases e2
            omega
      · rw [if_neg e3]; exact h.rows.apart j j' hj hj' hne
  · intro j hj
    show (if j = i then R.n i + 1 else R.n j) ≤ d1.made
    split
    · exact hf
    · exact h.rows.few j hj
  · intro j hj
    show setO d1.opn i (some (Go.Proofs.Ytbejfpdkfpgipaa.mk 128 g)) (j : Int) = (R.plus i v g).last j
    unfold setO
    by_cases e : j = i
    · subst e
      rw [if_pos rfl]
      unfold Since.last Since.plus
      simp only [if_true]
      rw [if_neg (by omega)]
      congr 1
      refine mk_ext fun q hq => ?_
      unfold moreG
      rw [if_neg (by omega)]
      congr 1
      omega
    · rw [if_neg (by omega), h.rows.opn j hj]
      unfold Since.last Since.plus
      simp [e]
  · intro x hx
    have hx2 : (setO d1.opn i (some (Go.Proofs.Ytbejfpdkfpgipaa.mk 128 g)) x).isSome = true := hx
    unfold setO at hx2
    by_cases e : x = (i : Int)
    · subst e; exact ⟨by omega, by show (i : Int) < (d1.ns : Int); omega⟩
    · rw [if_neg e] at hx2; exact h.wf x hx2
attribute [local irreducible] mk
set_option maxRecDepth 100000 in
theorem rWrite_range (h : RefAt w r base d L R) (x : Int) (hx : hasB d.ns x = false) (g : Nat → Nat) : Calls Try.prog 17 #[.pointer (some ⟨r.B, 0, none⟩), .int .i64 x, .agg (cellsOf .u8 (mk 128 g))] w fun e w' => e = .returned (.int .i64 1) ∧ Below w.heap.size w w' := by
  have HD := Lib.hid (h.alloc (.cells (cellsOf .u8 (mk 128 g)) 40))
  have HB := Lib.hid ((Below.refl _ w).alloc (Nat.le_refl _) (.cells (cellsOf .u8 (mk 128 g)) 40))
  have c0 := HD.out.c0
  rcases has_no hx with hx1 | ⟨hx1, hx2⟩
  · have p1 : decide (x < 0) = true := by simpa using hx1
    clear h hx HD
    go_enter Try.func17, Try.ntmps17
    go_wp2
    go_ret
    exact ⟨rfl, HB.out⟩
  · have p1 : decide (x < 0) = false := by simpa using hx1
    have p2 : decide ((d.ns : Int) ≤ x) = true := by simpa using hx2
    clear h hx HD
    go_enter Try.func17, Try.ntmps17
    go_wp2
    go_ret
    exact ⟨rfl, HB.out⟩
set_option maxRecDepth 100000 in
theorem rWrite_down (h : RefAt w r base d L R) (i : Nat) (hi : i < d.ns) (hg : d.gone = true) (g : Nat → Nat) : Calls Try.prog 17 #[.pointer (some ⟨r.B, 0, none⟩), .int .i64 i, .agg (cellsOf .u8 (mk 128 g))] w fun e w' => e = .returned (.int .i64 5) ∧ RefAt w' r base d.fell L R ∧ Keeps r.fix w w' := by
  have HD := Lib.hid (h.alloc (.cells (cellsOf .u8 (mk 128 g)) 40))
  have HK := Lib.hid ((Keeps.refl r.fix w).alloc (.cells (cellsOf .u8 (mk 128 g)) 40))
  have HS := Lib.hid (rstep_down HD.out hg)
  have c0 := HD.out.c0
  have p1 : decide ((i : Int) < 0) = false := by simp
  have p2 : decide ((d.ns : Int) ≤ (i : Int)) = false := by simp; omega
  have p2b : decide (d.ns ≤ i) = false := by simp; omega
  clear h hi hg
  go_enter Try.func17, Try.ntmps17
  go_wp2_with (first
    | (go_at_call 46; refine (HS.out).mono ?_; rintro e w1 ⟨rfl, h1, h2, h3⟩
       have D1 := Lib.hid h1
       have K1 := Lib.hid (HK.out.trans (h2.mono (S' := r.fix) fun k _ e => .inl e))
       clear h1 h2 h3))
  go_ret
  exact ⟨rfl, D1.out, K1.out⟩
set_option maxRecDepth 100000 in
set_option maxHeartbeats 1000000 in
theorem rWrite_on (h : RefAt w r base d L R) (i : Nat) (hi : i < d.ns) (hg : d.gone = false) (hm : d.made ≤ 100000) (hl : d.left < 9223372036854775808) (hbs : base ≤ w.heap.size) (g : Nat → Nat) :
    Calls Try.prog 17 #[.pointer (some ⟨r.B, 0, none⟩), .int .i64 i, .agg (cellsOf .u8 (mk 128 g))] w fun e w' => e = .returned (.int .i64 0) ∧ (∃ L' R', RefAt w' r base (d.wrote i (mk 128 g)) L' R') ∧ Keeps (r.own R d.ns) w w' := by
  have HD := Lib.hid (h.alloc (.cells (cellsOf .u8 (mk 128 g)) 40))
  have HK := Lib.hid ((Keeps.refl (r.own R d.ns) w).alloc (.cells (cellsOf .u8 (mk 128 g)) 40))
  have HS := Lib.hid (rstep_on HD.out hg (by omega) hl)
  have HX := Lib.hid (IntBlk.new w .u8 40 (mk 128 g))
  have HNX := Lib.hid (show w.heap.size ≠ r.B from fun e => by have := h.fits (k := r.B) (.inl rfl); omega)
  have HI := Lib.hid hi
  have HMD := Lib.hid hm
  have HFW := Lib.hid (h.rows.few i hi)
  have HRB := Lib.hid (show ∀ k, (R.V i).ownBlock = some k → base ≤ k ∧ k < w.heap.size from fun k hk => h.rowLt ⟨i, hi, hk⟩)
  have HZB := Lib.hid (show r.zb < w.heap.size from h.fits (.inr (.inr (.inl rfl))))
  have c0 := HD.out.c0
  have p1 : decide ((i : Int) < 0) = false := by simp
  have p2 : decide ((d.ns : Int) ≤ (i : Int)) = false := by simp; omega
  have p2b : decide (d.ns ≤ i) = false := by simp; omega
  clear h hi hg hm hl
  go_enter Try.func17, Try.ntmps17
  go_wp2_with (first
    | (go_at_call 46; refine (HS.out).mono ?_; rintro e w1 ⟨rfl, ⟨L1, h1⟩, h2, h3⟩
       have D1 := Lib.hid h1
       have K1 := Lib.hid (HK.out.trans (h2.mono (S' := r.own R d.ns) fun k _ e => .inl (.inl e)))
       have X1 := Lib.hid (h2.blk HX.out HNX.out)
       clear h1 h2 h3))
  obtain ⟨q, cv, hv⟩ : ∃ q c, R.V i = .slice q (R.n i) c := by
    rcases D1.out.shape HI.out with ⟨hn, q, c, hv⟩ | ⟨hn, B, c, hv, _⟩
    · exact ⟨q, c, by rw [hv, hn]⟩
    · exact ⟨_, c, hv⟩
  have HV := Lib.hid hv
  have HC1 := Lib.hid (show w1.cell? ⟨r.B, 1, none⟩ = some (.slice (some ⟨r.zb, 0, none⟩) d.ns d.ns) from D1.out.c1)
  have HCZ := Lib.hid (show w1.cell? ⟨r.zb, i, none⟩ = some (.slice q (R.n i) cv) from hv ▸ D1.out.slot HI.out)
  have LB := Lib.hid (show r.B < w1.heap.size ∧ r.zb < w1.heap.size from ⟨D1.out.fits (.inl rfl), D1.out.fits (.inr (.inr (.inl rfl)))⟩)
  have HRO := Lib.hid (D1.out.rows.row i HI.out)
  have HBS := Lib.hid (show base ≤ w1.heap.size ∨ R.n i = 0 from by
    rcases D1.out.shape HI.out with ⟨hn, _⟩ | ⟨hn, B, c, hv, _, h1, h2⟩
    · exact .inr hn
    · exact .inl (by omega))
  clear hv
  have HCB := Lib.hid (show ∀ W, OffRow w1 r.zb (R.V i).ownBlock W → W.cell? ⟨r.B, 1, none⟩ = some (.slice (some ⟨r.zb, 0, none⟩) d.ns d.ns) from fun W hW =>
    (World.cell?_of_block (w := w1) (a := ⟨r.B, 1, none⟩) (hW r.B LB.out.1 D1.out.ne2 (fun e => by have := (HRB.out r.B e.symm).1; have := D1.out.lt r.B (.inl rfl); omega))).trans HC1.out)
  have HCX := Lib.hid (show ∀ W, OffRow w1 r.zb (R.V i).ownBlock W → IntBlk W w.heap.size .u8 40 (mk 128 g) from fun W hW =>
    (hW w.heap.size X1.out.lt (fun e => by have := HZB.out; omega) (fun e => by have := (HRB.out w.heap.size e.symm).2; omega)).trans X1.out)
  have HBL := Lib.hid (Nat.le_trans hbs K1.out.size)
  refine wp_region_tree (.float 0 (.float 1 (.float 2 (.float 3 (.float 4 (.float 5 (.float 6 (.float 7 (.float 8 (.float 9 (.float 10 (.float 12 (.two 11 (.one 13 (.one 14 (.float 15 (.one 16 .over)))) 13 (.one 11 (.one 14 (.float 15 (.one 16 .over))))))))))))))))) (OffRow w1 r.zb (R.V i).ownBlock) (by kernel_rfl) (by kernel_rfl) (fun _ _ _ _ => rfl) ?_
  iterate 12 (
    refine tree_float rfl rfl (fun K hK => ?_)
    first
      | (refine gives_move _ rfl ?_)
      | (refine gives_nil_check _ rfl ⟨r.B, 0, none⟩ rfl ?_)
      | (refine gives_field _ 1 rfl (by omega) r.B rfl ?_)
      | (refine gives_box 54 _ rfl ⟨r.B, 1, none⟩ _ rfl box_tabs (fun W hW => HCB.out W hW) ?_)
      | (refine gives_slot _ _ rfl r.zb d.ns d.ns i rfl rfl HI.out ?_)
      | (refine gives_sec_load _ rfl w.heap.size g rfl (fun W hW => HCX.out W hW) ?_)
    go_simp
    refine hK _ ?_
    clear hK K)
  refine tree_two ?_ ?_
  · refine tree_one rfl rfl (fun K hK => ?_)
    refine done_load_box 53 _ rfl ⟨r.zb, i, none⟩ _ rfl box_secs HCZ.out ?_
    refine ⟨(fun _ _ _ _ => rfl), ?_⟩
    go_simp
    refine hK _ _ ?_
    clear hK K
    refine tree_one rfl rfl (fun K hK => ?_)
    refine done_secs1 _ rfl g rfl ?_
    have OW2 : OffRow w1 r.zb (R.V i).ownBlock (w1.drew.alloc (.cells (cellsOf .u8 (mk 128 g)) 40)) := fun k hk _ _ => Below.heap_alloc w1.drew _ k hk
    refine ⟨OW2, ?_⟩
    refine hK _ _ ?_
    clear hK K
    refine tree_one rfl rfl (fun K hK => ?_)
    refine done_sec_append _ _ rfl base (R.n i) 1 (.slice q (R.n i) cv) (R.G i) g w1.heap.size rfl rfl ?hv ?hc ?hn ?hb ?_
    case hv => rw [← HV.out]; exact ownsRow_keep HRO.out (fun k hk hl => Below.heap_alloc w1.drew _ k hl)
    case hc => exact fun j hj => by have := (IntBlk.new w1.drew .u8 40 (mk 128 g)).cells (o := 0) (n := 128) (by omega) j hj; simp only [Nat.zero_add] at this ⊢; exact this
    case hn => have := HFW.out; have := HMD.out; omega
    case hb => have := HBL.out; simp; omega
    intro v' w3 hown hgr hat
    rw [← HV.out] at hgr hat
    obtain ⟨q9, c9, hv9⟩ : ∃ q c, v' = .slice q (R.n i + 1) c := by
      rcases hown.2 with ⟨_, e⟩ | ⟨g9, cap9, cur9, e, _⟩
      · omega
      · exact ⟨_, _, e⟩
    subst hv9
    have hb3 : ∀ k, k < w1.heap.size → some k ≠ (R.V i).ownBlock → w3.heap[k]? = w1.heap[k]? := fun k hk hne => (hgr.block k (by simp; omega) hne).trans (Below.heap_alloc w1.drew _ k hk)
    have OW3 : OffRow w1 r.zb (R.V i).ownBlock w3 := fun k hk _ hne => hb3 k hk hne
    have hz3 : w3.heap[r.zb]? = w1.heap[r.zb]? := hb3 r.zb LB.out.2 (fun e => by have := (HRB.out r.zb e.symm).1; have := D1.out.lt r.zb (.inr (.inr (.inl rfl))); omega)
    have DF := Lib.hid (D1.out.appended HI.out (by have := HFW.out; show R.n i + 1 ≤ d.made + 1; omega) hb3 hown (by
      rcases hat with e | e
      · exact .inl e
      · exact .inr ⟨_, e, by simp⟩))
    have KF := Lib.hid ((((K1.out.drew.alloc (.cells (cellsOf .u8 (mk 128 g)) 40)).grown hgr (fun k e => .inr ⟨i, HI.out, e⟩)).setCell (S := r.own R d.ns) (B := r.zb) (.inl (.inr (.inr (.inl rfl)))) i (.slice q9 (R.n i + 1) c9)))
    have cz3 : w3.cell? ⟨r.zb, i, none⟩ = some (.slice q (R.n i) cv) := (World.cell?_of_block (w := w1) (a := ⟨r.zb, i, none⟩) hz3).trans HCZ.out
    have fz3 : w3.frozen? ⟨r.zb, i, none⟩ = false := frozen_of_row _ _ _ _ _ (hz3.trans D1.out.rows.tab)
    refine ⟨OW3, ?_⟩
    refine hK _ _ ?_
    clear hK K hown hgr hat
    refine tree_float rfl rfl (fun K hK => ?_)
    refine gives_slot _ _ rfl r.zb d.ns d.ns i rfl rfl HI.out ?_
    go_simp
    refine hK _ ?_
    clear hK K
    refine tree_one rfl rfl (fun K hK => ?_)
    refine done_store_slot _ _ rfl ⟨r.zb, i, none⟩ _ q9 (R.n i + 1) c9 rfl rfl rfl _ cz3 fz3 ?_
    refine ⟨fun k hk h1 h2 => (Below.heap_setCell _ _ _ k (fun e => h1 e)).trans (OW3 k hk h1 h2), ?_⟩
    refine hK _ _ ?_
    clear hK K
    refine tree_over ?_
    go_wp2
    go_ret
    exact ⟨rfl, ⟨_, _, DF.out⟩, KF.out⟩
  · refine tree_one rfl rfl (fun K hK => ?_)
    refine done_secs1 _ rfl g rfl ?_
    have OW2 : OffRow w1 r.zb (R.V i).ownBlock (w1.drew.alloc (.cells (cellsOf .u8 (mk 128 g)) 40)) := fun k hk _ _ => Below.heap_alloc w1.drew _ k hk
    refine ⟨OW2, ?_⟩
    refine hK _ _ ?_
    clear hK K
    refine tree_one rfl rfl (fun K hK => ?_)
    refine done_load_box 53 _ rfl ⟨r.zb, i, none⟩ _ rfl box_secs ((World.cell?_of_block (w := w1) (a := ⟨r.zb, i, none⟩) (Below.heap_alloc w1.drew _ r.zb LB.out.2)).trans HCZ.out) ?_
    refine ⟨OW2, ?_⟩
    go_simp
    refine hK _ _ ?_
    clear hK K
    refine tree_one rfl rfl (fun K hK => ?_)
    refine done_sec_append _ _ rfl base (R.n i) 1 (.slice q (R.n i) cv) (R.G i) g w1.heap.size rfl rfl ?hv ?hc ?hn ?hb ?_
    case hv => rw [← HV.out]; exact ownsRow_keep HRO.out (fun k hk hl => Below.heap_alloc w1.drew _ k hl)
    case hc => exact fun j hj => by have := (IntBlk.new w1.drew .u8 40 (mk 128 g)).cells (o := 0) (n := 128) (by omega) j hj; simp only [Nat.zero_add] at this ⊢; exact this
    case hn => have := HFW.out; have := HMD.out; omega
    case hb => have := HBL.out; simp; omega
    intro v' w3 hown hgr hat
    rw [← HV.out] at hgr hat
    obtain ⟨q9, c9, hv9⟩ : ∃ q c, v' = .slice q (R.n i + 1) c := by
      rcases hown.2 with ⟨_, e⟩ | ⟨g9, cap9, cur9, e, _⟩
      · omega
      · exact ⟨_, _, e⟩
    subst hv9
    have hb3 : ∀ k, k < w1.heap.size → some k ≠ (R.V i).ownBlock → w3.heap[k]? = w1.heap[k]? := fun k hk hne => (hgr.block k (by simp; omega) hne).trans (Below.heap_alloc w1.drew _ k hk)
    have OW3 : OffRow w1 r.zb (R.V i).ownBlock w3 := fun k hk _ hne => hb3 k hk hne
    have hz3 : w3.heap[r.zb]? = w1.heap[r.zb]? := hb3 r.zb LB.out.2 (fun e => by have := (HRB.out r.zb e.symm).1; have := D1.out.lt r.zb (.inr (.inr (.inl rfl))); omega)
    have DF := Lib.hid (D1.out.appended HI.out (by have := HFW.out; show R.n i + 1 ≤ d.made + 1; omega) hb3 hown (by
      rcases hat with e | e
      · exact .inl e
      · exact .inr ⟨_, e, by simp⟩))
    have KF := Lib.hid ((((K1.out.drew.alloc (.cells (cellsOf .u8 (mk 128 g)) 40)).grown hgr (fun k e => .inr ⟨i, HI.out, e⟩)).setCell (S := r.own R d.ns) (B := r.zb) (.inl (.inr (.inr (.inl rfl)))) i (.slice q9 (R.n i + 1) c9)))
    have cz3 : w3.cell? ⟨r.zb, i, none⟩ = some (.slice q (R.n i) cv) := (World.cell?_of_block (w := w1) (a := ⟨r.zb, i, none⟩) hz3).trans HCZ.out
    have fz3 : w3.frozen? ⟨r.zb, i, none⟩ = false := frozen_of_row _ _ _ _ _ (hz3.trans D1.out.rows.tab)
    refine ⟨OW3, ?_⟩
    refine hK _ _ ?_
    clear hK K hown hgr hat
    refine tree_float rfl rfl (fun K hK => ?_)
    refine gives_slot _ _ rfl r.zb d.ns d.ns i rfl rfl HI.out ?_
    go_simp
    refine hK _ ?_
    clear hK K
    refine tree_one rfl rfl (fun K hK => ?_)
    refine done_store_slot _ _ rfl ⟨r.zb, i, none⟩ _ q9 (R.n i + 1) c9 rfl rfl rfl _ cz3 fz3 ?_
    refine ⟨fun k hk h1 h2 => (Below.heap_setCell _ _ _ k (fun e => h1 e)).trans (OW3 k hk h1 h2), ?_⟩
    refine hK _ _ ?_
    clear hK K
    refine tree_over ?_
    go_wp2
    go_ret
    exact ⟨rfl, ⟨_, _, DF.out⟩, KF.out⟩
end
end Go.Proofs.Ytbejfpdkfpgipaa
