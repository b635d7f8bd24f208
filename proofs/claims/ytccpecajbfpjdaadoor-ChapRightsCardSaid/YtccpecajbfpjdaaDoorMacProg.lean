/- MacProg: merged by merge.py out of MacNum MaskC PieceK ListsC MacQ TagC. Conditions: as each part says. -/
import Derived.Test.YtccpecajbfpjdaaDoorDigProg
import Derived.Test.YtccpecajbfpjdaaDoorDigBase
import Derived.Test.YtccpecajbfpjdaaDoorDigLib
import Derived.ArgAppend
import Derived.Deep.Upon
/- Plain mathematics of tags: a key's piece, the masks, what a tag is. Conditions: as each lemma says. -/
namespace Go.Proofs.YtccpecajbfpjdaaDoor
open Go

theorem allB_congr {n : Nat} {f g : Nat → Nat} (h : ∀ i, i < n → f i = g i) : allB n f = allB n g := by
  funext i; unfold allB
  by_cases e : i < n
  · rw [if_pos e, if_pos e, h i e]
  · rw [if_neg e, if_neg e]
theorem digF_congr {n : Nat} {f g : Nat → Nat} (h : ∀ i, i < n → f i = g i) : digF n f = digF n g := by unfold digF; rw [allB_congr h]
/-- A key's piece. -/
def pieK (n : Nat) (g : Nat → Nat) : Nat → Nat := if 64 < n then inG 32 64 (digF n g) zeroK else inG n 64 g zeroK
theorem pieK_long {n : Nat} (h : 64 < n) (g : Nat → Nat) : pieK n g = inG 32 64 (digF n g) zeroK := if_pos h
theorem pieK_short {n : Nat} (h : n ≤ 64) (g : Nat → Nat) : pieK n g = inG n 64 g zeroK := if_neg (by omega)
theorem pieK_lt {n : Nat} {g : Nat → Nat} (hg : ∀ i, i < n → g i < 256) : ∀ i, i < 64 → pieK n g i < 256 := by
  unfold pieK; split
  · exact inG_lt (fun i _ => digF_lt _ _ i) (fun i _ => by show (0 : Nat) < 256; omega)
  · exact inG_lt hg (fun i _ => by show (0 : Nat) < 256; omega)
/-- A piece with a mask. -/
def mskB (m : Nat) (f : Nat → Nat) : Nat → Nat := fun j => f j ^^^ m
theorem mskB_lt {m : Nat} {f : Nat → Nat} (hm : m < 256) (hf : ∀ i, i < 64 → f i < 256) : ∀ i, i < 64 → mskB m f i < 256 := fun i hi => xor_lt (hf i hi) hm
def mskTo (m : Nat) (f : Nat → Nat) (k : Nat) : Nat → Nat := fun j => if j < k then mskB m f j else f j
theorem mskTo_zero (m : Nat) (f : Nat → Nat) : mskTo m f 0 = f := by funext j; unfold mskTo; rw [if_neg (by omega)]
theorem mskTo_end (m : Nat) (f : Nat → Nat) : mk 64 (mskTo m f 64) = mk 64 (mskB m f) := mk_ext fun _ hj => if_pos hj
theorem mskTo_at (m : Nat) (f : Nat → Nat) (k : Nat) : mskTo m f k k = f k := if_neg (by omega)
theorem mskTo_step (m : Nat) (f : Nat → Nat) (k : Nat) {v : Int} (hv : v = (mskB m f k : Nat)) : (mk 64 (mskTo m f k)).set k v = mk 64 (mskTo m f (k + 1)) :=
  mk_set_is hv fun j _ => by
    unfold mskTo
    by_cases e : j = k
    · subst e; rw [if_pos rfl, if_pos (by omega)]
    · rw [if_neg e]
      by_cases h2 : j < k
      · rw [if_pos h2, if_pos (by omega)]
      · rw [if_neg h2, if_neg (by omega)]
/-- Two texts, one behind the other. -/
def cat2 (n : Nat) (f g : Nat → Nat) : Nat → Nat := fun j => if j < n then f j else g (j - n)
theorem cat2_lt {n m : Nat} {f g : Nat → Nat} (hf : ∀ i, i < n → f i < 256) (hg : ∀ i, i < m → g i < 256) : ∀ i, i < n + m → cat2 n f g i < 256 := fun i hi => by
  unfold cat2; split
  · exact hf _ (by omega)
  · exact hg _ (by omega)
theorem cat2_low {n : Nat} {f g : Nat → Nat} {j : Nat} (h : j < n) : cat2 n f g j = f j := if_pos h
theorem cat2_high (n : Nat) (f g : Nat → Nat) (j : Nat) : cat2 n f g (n + j) = g j := by unfold cat2; rw [if_neg (by omega), Nat.add_sub_cancel_left]
theorem cat2_congr {n m : Nat} {f g f' g' : Nat → Nat} (hf : ∀ i, i < n → f i = f' i) (hg : ∀ i, i < m → g i = g' i) : ∀ i, i < n + m → cat2 n f g i = cat2 n f' g' i := fun i hi => by
  unfold cat2
  by_cases h : i < n
  · rw [if_pos h, if_pos h, hf i h]
  · rw [if_neg h, if_neg h, hg _ (by omega)]
/-- The inner digest, and the tag, with a piece. -/
def innF (K : Nat → Nat) (n : Nat) (g : Nat → Nat) : Nat → Nat := digF (64 + n) (cat2 64 (mskB 54 K) g)
def tagP (K : Nat → Nat) (n : Nat) (g : Nat → Nat) : Nat → Nat := digF 96 (cat2 64 (mskB 92 K) (innF K n g))
theorem innF_lt (K : Nat → Nat) (n : Nat) (g : Nat → Nat) (i : Nat) : innF K n g i < 256 := digF_lt _ _ _
theorem tagP_lt (K : Nat → Nat) (n : Nat) (g : Nat → Nat) (i : Nat) : tagP K n g i < 256 := digF_lt _ _ _
theorem tagP_congr {K K' : Nat → Nat} {n : Nat} {g g' : Nat → Nat} (hK : ∀ i, i < 64 → K i = K' i) (hg : ∀ i, i < n → g i = g' i) : tagP K n g = tagP K' n g' := by
  have m : ∀ m i, i < 64 → mskB m K i = mskB m K' i := fun m i hi => by unfold mskB; rw [hK i hi]
  have hi : innF K n g = innF K' n g' := digF_congr (cat2_congr (m 54) hg)
  unfold tagP
  rw [hi]
  exact digF_congr (cat2_congr (m := 32) (m 92) (fun _ _ => rfl))
/-- A key's tag. -/
def tagF (n : Nat) (g : Nat → Nat) (nt : Nat) (gt : Nat → Nat) : Nat → Nat := tagP (pieK n g) nt gt
theorem tagF_lt (n : Nat) (g : Nat → Nat) (nt : Nat) (gt : Nat → Nat) (i : Nat) : tagF n g nt gt i < 256 := tagP_lt _ _ _ _
theorem tagF_congr {n nt : Nat} {g : Nat → Nat} {gt gt' : Nat → Nat} (h : ∀ i, i < nt → gt i = gt' i) : tagF n g nt gt = tagF n g nt gt' := tagP_congr (fun _ _ => rfl) h
theorem pieK_is {n : Nat} (K : Nat → Nat) (h : n = 64) (i : Nat) (hi : i < 64) : pieK n K i = K i := by
  subst h; rw [pieK_short (by omega)]; unfold inG; simp; intro h; omega
/-- A piece has the key's own tags. -/
theorem tagF_piece (n : Nat) (g : Nat → Nat) (nt : Nat) (gt : Nat → Nat) : tagF 64 (pieK n g) nt gt = tagF n g nt gt := tagP_congr (fun i hi => pieK_is _ rfl i hi) (fun _ _ => rfl)
end Go.Proofs.YtccpecajbfpjdaaDoor

/- The contracts of package mac's masked, of a piece with a mask, and Piece, of a key's piece. Conditions: bytes are bytes; the package's variable holds the constants; a key has no more than 100000 bytes. -/
namespace Go.Proofs.YtccpecajbfpjdaaDoor
open Go.ChangeShapes Go.WideShapes Go.ChangeAt Go.RowKit

theorem IntBlk.cells0 {w : World} {B N : Nat} {t : TypeId} {F : Nat → Nat} (h : IntBlk w B .u8 t (mk N F)) : Cells w B 0 N F := fun j hj => by
  have := h.cells (o := 0) (n := N) (by omega) j hj
  simpa only [Nat.zero_add] using this
/-- A block of bytes is a slice's bytes. -/
theorem IntBlk.bytes {w : World} {B N : Nat} {t : TypeId} {F : Nat → Nat} (h : IntBlk w B .u8 t (mk N F)) : BytesAt w (some ⟨B, 0, none⟩) N F := .inr ⟨B, 0, rfl, h.lt, h.cells0⟩
attribute [local irreducible] digF pieK mskB

set_option maxRecDepth 100000 in
theorem masked_any (f : Nat → Nat) (m : Nat) (hf : ∀ i, i < 64 → f i < 256) (hm : m < 256) (w : World) :
    Calls Tryd.prog 42 #[.agg (cellsOf .u8 (mk 64 f)), .int .u8 m] w fun e w' => e = .returned (.slice (some ⟨w.heap.size, 0, none⟩) 64 64) ∧ IntBlk w' w.heap.size .u8 61 (mk 64 (mskB m f)) ∧ Below w.heap.size w w' := by
  have hz : IntBlk (w.alloc (.cells (cellsOf .u8 (mk 64 f)) 61)) w.heap.size .u8 61 (mk 64 (mskTo m f 0)) := by rw [mskTo_zero]; exact IntBlk.new w .u8 _ (mk 64 f)
  have HZ := Lib.hid hz
  clear hz
  go_enter Tryd.func42, Tryd.ntmps42
  go_wp2
  go_loopw [6] (fun v wr => ∃ k : Nat, k ≤ 64 ∧ v = .int .i64 k ∧ IntBlk wr w.heap.size .u8 61 (mk 64 (mskTo m f k)) ∧ Below w.heap.size w wr) (fun v _ => 64 - (intOf v).toNat)
  case atStart => exact ⟨0, by omega, rfl, HZ.out, (Below.refl _ w).alloc (Nat.le_refl _) _⟩
  case round =>
    clear HZ
    obtain ⟨k, hk, rfl, hz, hb⟩ := hrel
    by_cases h : k < 64
    · have e1 : (k : Int) < 64 := by omega
      have HS := Lib.hid (mskTo_step m f k rfl)
      have cs := hz.cell (i := k) (by rw [mk_len]; omega)
      rw [mk_get h, mskTo_at] at cs
      have fs := hz.free k
      have hv := bits_xor_u8 (hf k h) hm
      have hv2 : bits .xor .u8 (f k : Int) (m : Int) = (mskB m f k : Nat) := by rw [hv]; unfold mskB; rfl
      have l0 : (0 : Int) ≤ k := by omega
      have HZ := Lib.hid hz; have HB := Lib.hid hb
      clear hz hb hv
      generalize mskB m f k = mv at *
      go_wp2
      go_roundw
      case rel => exact ⟨k + 1, by omega, by go_num, by rw [← HS.out]; exact HZ.out.set k _, HB.out.setCell (Nat.le_refl _) _⟩
      case measure => simp [intOf]; omega
    · have e1 : k = 64 := by omega
      have hd1 : decide ((k : Int) < 64) = false := by simp; omega
      rw [e1, mskTo_end] at hz
      have HZ := Lib.hid hz; have HB := Lib.hid hb
      clear hz hb e1 h
      go_wp2
      go_ret
      exact ⟨rfl, HZ.out, HB.out⟩
end Go.Proofs.YtccpecajbfpjdaaDoor

/- The contract of package mac's Piece: a key's piece. Conditions: the package's variable holds the constants; the key has no more than 100000 bytes. -/
namespace Go.Proofs.YtccpecajbfpjdaaDoor
open Go.ChangeShapes Go.WideShapes Go.ChangeAt Go.RowKit

attribute [local irreducible] digF pieK mskB inG

theorem quiet_wholeSum {o : Oper} {a : Act} {C : World → Prop} {K : Act → Prop} (x : Operand) (ho : o.op = .slice 25 x none none none) (B : Nat) (hx : a.eval x = .pointer (some ⟨B, 0, none⟩)) (hk : K (a.put o.dst (.slice (some ⟨B, 0, none⟩) 32 32))) : o.quiet Tryd.prog a C K := by
  refine quiet_value _ (fun w _ => ?_) hk
  have hs := byteElem.run_size (P := Tryd.prog) w
  unfold execOp
  simp only [ho, hx]
  simp [go_sem, hs]
set_option maxRecDepth 100000 in
set_option maxHeartbeats 2000000 in
theorem Piece_any (p : Option Addr) (n cap : Nat) (g : Nat → Nat) (hn : n ≤ 100000) (hcap : n ≤ cap) (hg : ∀ i, i < n → g i < 256) (w : World) (hT : TabAt w) (hp : BytesAt w p n g) :
    Calls Tryd.prog 41 #[.slice p n cap] w fun e w' => e = .returned (.agg (cellsOf .u8 (mk 64 (pieK n g)))) ∧ Below w.heap.size w w' := by
  have h0 : IntBlk ((w.alloc (.cells (cellsOf .u8 (mk 64 zeroK)) 61)).alloc (.cells (cellsOf .u8 (mk 64 zeroK)) 61)) w.heap.size .u8 61 (mk 64 zeroK) := (IntBlk.new w .u8 _ (mk 64 zeroK)).alloc _
  have h1 := blk_two w .u8 61 (mk 64 zeroK) (.cells (cellsOf .u8 (mk 64 zeroK)) 61)
  have hb : Below w.heap.size w ((w.alloc (.cells (cellsOf .u8 (mk 64 zeroK)) 61)).alloc (.cells (cellsOf .u8 (mk 64 zeroK)) 61)) := ((Below.refl _ w).alloc (Nat.le_refl _) _).alloc (by simp) _
  have hs : ((w.alloc (.cells (cellsOf .u8 (mk 64 zeroK)) 61)).alloc (.cells (cellsOf .u8 (mk 64 zeroK)) 61)).heap.size = w.heap.size + 1 + 1 := by simp
  have hp2 := hp.below hb
  by_cases h : 64 < n
  · have e1 : (64 : Int) < n := by omega
    rw [pieK_long h]
    go_enter Tryd.func41, Tryd.ntmps41
    have H0 := Lib.hid h0; have H1 := Lib.hid h1; have HB := Lib.hid hb; have HP := Lib.hid hp2; have HS := Lib.hid hs
    have HT := Lib.hid (hT.on hb)
    clear h0 h1 hb hp hp2 hT hs
    go_wp2_with (first
      | (go_at_call 22
         change Calls _ _ _ (((w.alloc (.cells (cellsOf .u8 (mk 64 zeroK)) 61)).alloc (.cells (cellsOf .u8 (mk 64 zeroK)) 61)).alloc (.cells #[.slice p n cap] 22)) _
         generalize (w.alloc (.cells (cellsOf .u8 (mk 64 zeroK)) 61)).alloc (.cells (cellsOf .u8 (mk 64 zeroK)) 61) = V at *
         rw [← HS.out]
         have A1 : Below V.heap.size V (V.alloc (.cells #[.slice p n cap] 22)) := (Below.refl _ V).alloc (Nat.le_refl _) _
         refine (Of_one V.heap.size 1 p n cap g hn hcap hg _ (HT.out.on A1) (cell_of_one (heap_alloc_new V (.cells #[.slice p n cap] 22))) (HP.out.below A1)).mono ?_; rintro e w1 ⟨rfl, hb1⟩
         have A2 := A1.trans (hb1.mono A1.size)
         have I0 := Lib.hid (H0.out.below A2 H0.out.lt)
         have I1 := Lib.hid (H1.out.below A2 H1.out.lt)
         have IB := Lib.hid (HB.out.trans (A2.mono (by have := HS.out; omega)))
         clear hb1 A1 A2 H0 H1 HB HP HT)
      | (refine store_row_on rfl 25 _ _ rfl rfl w1.heap.size (cellsOf .u8 (mk 32 (digF n g))) rfl rfl 25 (cellsOf .u8 (mk 32 zeroK)) (IntBlk.new w1 .u8 _ (mk 32 zeroK)) (sumSize _) (by rw [cellsOf_size, cellsOf_size, mk_len, mk_len]) (cellsOf_one _ _) ?_))
    have E0 : Below w1.heap.size w1 ((w1.alloc (.cells (cellsOf .u8 (mk 32 zeroK)) 25)).setRow w1.heap.size (cellsOf .u8 (mk 32 (digF n g)))) := below_setRow ((Below.refl _ w1).alloc (Nat.le_refl _) _) (Nat.le_refl _) _
    have E1 : IntBlk ((w1.alloc (.cells (cellsOf .u8 (mk 32 zeroK)) 25)).setRow w1.heap.size (cellsOf .u8 (mk 32 (digF n g)))) w1.heap.size .u8 25 (mk 32 (digF n g)) := (IntBlk.new w1 .u8 _ (mk 32 zeroK)).setRow .u8 _
    have G0 := I0.out.below E0 I0.out.lt
    have G1 := I1.out.below E0 I1.out.lt
    have GB := IB.out.trans (E0.mono IB.out.size)
    change Code.wp _ _ _ _ ((w1.alloc (.cells (cellsOf .u8 (mk 32 zeroK)) 25)).setRow w1.heap.size (cellsOf .u8 (mk 32 (digF n g))))
    generalize ((w1.alloc (.cells (cellsOf .u8 (mk 32 zeroK)) 25)).setRow w1.heap.size (cellsOf .u8 (mk 32 (digF n g)))) = U at *
    go_wp2
    refine wp_region_class_tail 2 (fun w' => Below U.heap.size U w') (by kernel_rfl) (by kernel_rfl) ((Below.refl _ _).drew) ?_
    simp only [List.take_succ_cons, List.take_zero, List.drop_succ_cons, List.drop_zero]
    iterate 2 (first
      | go_big_quiet_skip
      | (go_big_quiet_want
         first
           | (go_big_quiet_op; go_big_quiet_on)
           | ((first
               | (refine quiet_whole _ rfl (w.heap.size + 1) rfl ?_)
               | (refine quiet_wholeSum _ rfl w1.heap.size rfl ?_)); go_simp; go_big_quiet_on)))
    refine wpQuiet_nil ?_
    intro wx hwx
    refine wpList_copy_in rfl _ _ rfl (w.heap.size + 1) 61 64 zeroK (digF n g) (some ⟨w1.heap.size, 0, none⟩) 32 32 rfl rfl (G1.below hwx G1.lt) (E1.below hwx E1.lt).bytes ?_
    intro wy hy1 hy2
    have K0 := Lib.hid ((G0.below hwx G0.lt).below hy2 (by omega))
    have K1 := Lib.hid hy1
    have KB := Lib.hid ((GB.trans (hwx.mono GB.size)).trans (hy2.mono (by omega)))
    clear hy1 hy2 hwx G0 G1 GB E0 E1 I0 I1 IB
    go_wp2_with (first
      | (refine wpList_load_row rfl 61 _ rfl (w.heap.size + 1) rfl 61 (cellsOf .u8 (mk 64 (inG 32 64 (digF n g) zeroK))) (0, 0) _ K1.out pieceUnder rfl (pieceSize _) ?_)
      | (refine wpList_store_row rfl 61 _ _ rfl w.heap.size _ rfl rfl 61 (cellsOf .u8 (mk 64 zeroK)) K0.out (pieceSize _) (by rw [cellsOf_size, cellsOf_size, mk_len, mk_len]) (cellsOf_one _ _) ?_))
    refine bodyPost_ret (results_cell_row rfl _ _ w.heap.size 61 (cellsOf .u8 (mk 64 (inG 32 64 (digF n g) zeroK))) (0, 0) _ rfl (K0.out.setRow .u8 _) pieceUnder rfl (pieceSize _)) rfl ⟨rfl, below_setRow KB.out (Nat.le_refl _) _⟩
  · have e1 : ¬ (64 : Int) < n := by omega
    rw [pieK_short (by omega)]
    go_enter Tryd.func41, Tryd.ntmps41
    have H0 := Lib.hid h0; have H1 := Lib.hid h1; have HB := Lib.hid hb; have HP := Lib.hid hp2
    clear h0 h1 hb hp hp2 hT hs
    go_wp2_with (first
      | (refine wpList_copy_in rfl _ _ rfl (w.heap.size + 1) 61 64 zeroK g p n cap rfl rfl H1.out HP.out ?_
         intro wy hy1 hy2
         have K0 := Lib.hid (H0.out.below hy2 (by omega))
         have K1 := Lib.hid hy1
         have KB := Lib.hid (HB.out.trans (hy2.mono (by omega)))
         clear hy1 hy2 H0 H1 HB HP)
      | (refine wpList_load_row rfl 61 _ rfl (w.heap.size + 1) rfl 61 (cellsOf .u8 (mk 64 (inG n 64 g zeroK))) (0, 0) _ K1.out pieceUnder rfl (pieceSize _) ?_)
      | (refine wpList_store_row rfl 61 _ _ rfl w.heap.size _ rfl rfl 61 (cellsOf .u8 (mk 64 zeroK)) K0.out (pieceSize _) (by rw [cellsOf_size, cellsOf_size, mk_len, mk_len]) (cellsOf_one _ _) ?_))
    refine bodyPost_ret (results_cell_row rfl _ _ w.heap.size 61 (cellsOf .u8 (mk 64 (inG n 64 g zeroK))) (0, 0) _ rfl (K0.out.setRow .u8 _) pieceUnder rfl (pieceSize _)) rfl ⟨rfl, below_setRow KB.out (Nat.le_refl _) _⟩
end Go.Proofs.YtccpecajbfpjdaaDoor

/- Slices of slices of bytes: appended to, with what they hold said by a list; parts laid behind one another. Conditions: as each says. -/
namespace Go.Proofs.YtccpecajbfpjdaaDoor
open Go.ChangeShapes Go.WideShapes Go.ChangeAt Go.RowKit
set_option linter.unusedVariables false

theorem listsUnder : Tryd.prog.underlying 43 = some (.slice 22) := Tryd.underlying43
theorem listInfo : (Tryd.prog.info? 22).map (·.size) = some 1 := by kernel_rfl
theorem listBytes : (Tryd.prog.info? 22).map (·.bytes) = some 24 := by kernel_rfl
theorem listZero : (Tryd.prog.info? 22).bind (·.zero) = some (.slice none 0 0) := by kernel_rfl
/-- The slices of so many parts. -/
def partL (np : Nat) (P : Nat → Option Addr × Nat × Nat) : List Value := (List.range np).map fun i => .slice (P i).1 (P i).2.1 (P i).2.2
theorem partL_len (np : Nat) (P : Nat → Option Addr × Nat × Nat) : (partL np P).length = np := by simp [partL]
theorem partL_at {np : Nat} {P : Nat → Option Addr × Nat × Nat} {j : Nat} (h : j < np) : (partL np P)[j]? = some (.slice (P j).1 (P j).2.1 (P j).2.2) := by simp [partL, h]
theorem partL_get {np : Nat} {P : Nat → Option Addr × Nat × Nat} {j : Nat} {u : Value} (h : (partL np P)[j]? = some u) : j < np ∧ u = .slice (P j).1 (P j).2.1 (P j).2.2 := by
  have hj : j < np := by
    rcases Nat.lt_or_ge j (partL np P).length with h' | h'
    · rwa [partL_len] at h'
    · rw [List.getElem?_eq_none h'] at h; cases h
  refine ⟨hj, ?_⟩
  rw [partL_at hj] at h
  exact (Option.some.inj h).symm
theorem partL_one {np : Nat} {P : Nat → Option Addr × Nat × Nat} : ∀ u ∈ partL np P, u.oneCell' = true := fun u hu => by
  obtain ⟨j, hj⟩ := List.getElem?_of_mem hu
  obtain ⟨_, rfl⟩ := partL_get hj
  rfl
theorem wpList_append_lists {ops : Array Oper} {rest : List Oper} {o : Oper} {a : Act} {w : World} {Q : Exit → Act → World → Prop} (hgd : o.guard = none) (s x : Operand)
    (ho : o.op = .call { callee := .builtin .append, args := #[s, x], argTypes := #[43, 43] }) (base k : Nat) (v : Value) (xs : List Value) (hs : a.eval s = v) (hv : w.ownsRow base 22 1 v k xs)
    (q : Option Addr) (np cp : Nat) (P : Nat → Option Addr × Nat × Nat) (hx : a.eval x = .slice q np cp) (hP : PartsAt w q np P) (hk : k + np ≤ 100000) (hbase : base ≤ w.heap.size)
    (h : ∀ v' w', w'.ownsRow base 22 1 v' (k + np) (xs ++ partL np P) → Below base w w' → wpList Tryd.prog ops Q rest (a.put o.dst v') w') : wpList Tryd.prog ops Q (o :: rest) a w := by
  have hi := listInfo
  have hz := listZero
  have hb := listBytes
  cases hq : Tryd.prog.info? 22 with
  | none => rw [hq] at hi; simp at hi
  | some i =>
    rw [hq] at hi hb hz
    have hsz : i.size = 1 := by simpa using hi
    have hzz : i.zero = some (.slice none 0 0) := by simpa using hz
    have hby : i.bytes = 24 := by simpa using hb
    by_cases h0 : np = 0
    · subst h0
      have hsrc : Src Tryd.prog i.size 43 (.slice q 0 cp) 0 [] w := by
        cases q with
        | none => exact Src.ofNil w listsUnder cp
        | some ad => exact Src.ofSlice w listsUnder ad 0 cp [] (by simp) (fun j u hu => by simp at hu) (fun u hu => by cases hu)
      refine wpList_plain hgd fun K hK => ?_
      obtain ⟨q', c, rfl, hc⟩ : ∃ q' c, v = .slice q' k c ∧ k ≤ c := by
        obtain ⟨hl, ⟨h1, h2⟩ | ⟨B, c, cur, h1, _, _, h5, _⟩⟩ := hv
        · subst h2; exact ⟨none, 0, h1, Nat.le_refl _⟩
        · exact ⟨_, c, h1, h5⟩
      have hrun := run_append_nothing (P := Tryd.prog) w 43 43 o.type 22 i listsUnder hq q' k c hc (.slice q 0 cp) hsrc
      unfold Oper.wp
      simp [execOp, ho, resolve, invoke, builtin, hs, hx, hrun, Result.andThen]
      refine hK _ _ (h _ w ?_ (Below.refl _ _))
      have e : xs ++ partL 0 P = xs := List.append_nil _
      rw [e]; exact hv
    · rcases hP with hP | ⟨B, off, rfl, hc⟩
      · exact absurd hP h0
      · obtain ⟨v', w', hrun, r1, r2, _⟩ := run_append_own (P := Tryd.prog) w base 43 o.type 22 i (.slice none 0 0) 1 24 listsUnder hq hzz hsz hby rfl (by omega)
          v k xs hv ⟨B, off, none⟩ np cp (partL np P) (by rw [partL_len, Nat.mul_one]) (fun j u hj => by
            obtain ⟨hj1, rfl⟩ := partL_get hj
            rw [addr_add]; exact hc j hj1) partL_one (by simp only [maxLen]; omega) (by omega) hbase
        refine wpList_plain hgd fun K hK => ?_
        unfold Oper.wp
        simp [execOp, ho, resolve, invoke, builtin, hs, hx, hrun, Result.andThen]
        exact hK _ _ (h v' w' r1 (below_own r2 (fun B hB => (hv.lt B hB).1) hbase))
/-- One part ahead of others. -/
def consP (x : Option Addr × Nat × Nat) (P : Nat → Option Addr × Nat × Nat) : Nat → Option Addr × Nat × Nat := fun i => if i = 0 then x else P (i - 1)
theorem consP_zero (x : Option Addr × Nat × Nat) (P : Nat → Option Addr × Nat × Nat) : consP x P 0 = x := rfl
theorem consP_succ (x : Option Addr × Nat × Nat) (P : Nat → Option Addr × Nat × Nat) (i : Nat) : consP x P (i + 1) = P i := by unfold consP; rw [if_neg (by omega), Nat.add_sub_cancel]
theorem consP_len (x : Option Addr × Nat × Nat) (P : Nat → Option Addr × Nat × Nat) : ∀ i, lenTo (consP x P) (i + 1) = x.2.1 + lenTo P i
  | 0 => by show 0 + x.2.1 = x.2.1 + 0; omega
  | i + 1 => by
    show lenTo (consP x P) (i + 1) + (consP x P (i + 1)).2.1 = x.2.1 + (lenTo P i + (P i).2.1)
    rw [consP_len x P i, consP_succ]; omega
/-- The parts of a row that begins with one part, and goes on with others. -/
theorem partsIn_cons {M : Nat} {w : World} {q : Option Addr} {np : Nat} {P : Nat → Option Addr × Nat × Nat} {g f : Nat → Nat} {p : Option Addr} {n c B : Nat} (h : PartsIn M w q np P g) (hB : B < M)
    (hr : ∀ i, i < np + 1 → w.cell? ⟨B, i, none⟩ = some (.slice (consP (p, n, c) P i).1 (consP (p, n, c) P i).2.1 (consP (p, n, c) P i).2.2)) (hp : n = 0 ∨ ∃ b o, p = some ⟨b, o, none⟩ ∧ b < M ∧ Cells w b o n f) :
    PartsIn M w (some ⟨B, 0, none⟩) (np + 1) (consP (p, n, c) P) (cat2 n f g) := by
  refine ⟨.inr ⟨B, 0, rfl, hB, fun i hi => by rw [Nat.zero_add]; exact hr i hi⟩, fun i hi => ?_⟩
  rcases i with _ | i
  · rcases hp with h | ⟨b, o, h1, h2, h3⟩
    · exact .inl h
    · refine .inr ⟨b, o, h1, h2, fun j hj => ?_⟩
      have hj' : j < n := hj
      show w.cell? _ = some (.int .u8 (cat2 n f g (0 + j) : Nat))
      rw [Nat.zero_add, cat2_low hj']; exact h3 j hj'
  · rw [consP_succ, consP_len]
    rcases h.2 i (by omega) with h | ⟨b, o, h1, h2, h3⟩
    · exact .inl h
    · refine .inr ⟨b, o, h1, h2, fun j hj => ?_⟩
      show w.cell? _ = some (.int .u8 (cat2 n f g (n + lenTo P i + j) : Nat))
      rw [Nat.add_assoc, cat2_high]; exact h3 j hj
theorem PartsIn.at {M : Nat} {w : World} {q : Option Addr} {np : Nat} {P : Nat → Option Addr × Nat × Nat} {g : Nat → Nat} (h : PartsIn M w q np P g) : PartsAt w q np P := by
  rcases h.1 with h | ⟨B, o, h1, _, h3⟩
  · exact .inl h
  · exact .inr ⟨B, o, h1, h3⟩
theorem partsIn_none (M : Nat) (w : World) (q : Option Addr) (P : Nat → Option Addr × Nat × Nat) (g : Nat → Nat) : PartsIn M w q 0 P g := ⟨.inl rfl, fun i hi => absurd hi (Nat.not_lt_zero _)⟩
/-- What a row of one cell holds, and what it holds once others are appended. -/
theorem owns_row_one (w : World) (base : Nat) (v : Value) (hb : base ≤ w.heap.size) : (w.alloc (.cells #[v] 22)).ownsRow base 22 1 (.slice (some ⟨w.heap.size, 0, none⟩) 1 1) 1 [v] :=
  ⟨rfl, .inr ⟨w.heap.size, 1, #[v], rfl, hb, heap_alloc_new _ _, Nat.le_refl _, by decide, rfl, rfl⟩⟩
theorem owns_row_cells {w : World} {base k : Nat} {v : Value} {xs : List Value} (h : w.ownsRow base 22 1 v k xs) (hk : k ≠ 0) : ∃ B c, v = .slice (some ⟨B, 0, none⟩) k c ∧ base ≤ B ∧ B < w.heap.size ∧ k ≤ c ∧ ∀ i u, xs[i]? = some u → w.cell? ⟨B, i, none⟩ = some u := by
  obtain ⟨hl, ⟨_, h0⟩ | ⟨B, c, cur, h1, h2, h3, h4, h5, h6, h7⟩⟩ := h
  · subst h0; exact absurd hl.symm (by simpa using hk.symm)
  · refine ⟨B, c, h1, h2, (Array.getElem?_eq_some_iff.1 h3).1, h4, fun i u hu => ?_⟩
    rw [cell_of_row w B i cur _ (0, 0) h3]
    rw [← h7, Nat.mul_one] at hu
    have hi : i < k := by
      rcases Nat.lt_or_ge i k with h | h
      · exact h
      · rw [List.getElem?_eq_none (by simp; omega)] at hu; cases hu
    rw [List.getElem?_take_of_lt hi] at hu
    simpa using hu
end Go.Proofs.YtccpecajbfpjdaaDoor

/- Laws for regions walked by one order, on pieces, sums and rows of slices; digests of parts that begin with one part. Conditions: as each says. -/
namespace Go.Proofs.YtccpecajbfpjdaaDoor
open Go.ChangeShapes Go.WideShapes Go.ChangeAt Go.RowKit
set_option linter.unusedVariables false

theorem done_store {o : Oper} {a : Act} {w : World} {K : Value → World → Prop} (ty : TypeId) (x y : Operand) (ho : o.op = .store ty x y) (g : Nat) (cells : Array Value) (hx : a.eval x = .pointer (some ⟨g, 0, none⟩)) (hy : a.eval y = .agg cells)
    (t : TypeId) (old : Array Value) (hg : w.heap[g]? = some (.cells old t (0, 0))) (hi : (Tryd.prog.info? ty).map (·.size) = some cells.size) (hold : old.size = cells.size) (h1 : cells.all (·.oneCell') = true) (h : K undef (w.setRow g cells)) : doneAt Tryd.prog o a w K := by
  unfold doneAt execOp
  simp only [ho, hx, hy, Instr.storeAt, Instr.sureAddr, Sem.run_bind, Sem.run_pure, Result.andThen_ok, run_storeVar_row w g t ty old cells hg hi hold h1]
  exact h
/-- A call of two arguments, whatever it leaves. -/
theorem done_two {o : Oper} {a : Act} {w : World} {K : Value → World → Prop} (x y z : Operand) (ts : Array TypeId) (ho : o.op = .call { callee := .value x, args := #[y, z], argTypes := ts }) (g : FuncId) (hx : a.eval x = .func (.func g) #[] #[])
    (u v : Value) (hy : a.eval y = u) (hz : a.eval z = v) (hf : ∀ (args : Array Value) (w : World), (callFunc g args).run Tryd.prog w = .ok (.enter g args) w)
    (hc : Calls Tryd.prog g #[u, v] w fun e w' => ∃ r, e = .returned r ∧ K r w') : doneAt Tryd.prog o a w K :=
  done_call x #[y, z] ts ho g #[u, v] hx (by simp only [List.map_toArray, List.map_cons, List.map_nil, hy, hz]) (hf _ w) hc
/-- A call of one argument, of three, whatever it leaves. -/
theorem done_one {o : Oper} {a : Act} {w : World} {K : Value → World → Prop} (x y : Operand) (ts : Array TypeId) (ho : o.op = .call { callee := .value x, args := #[y], argTypes := ts }) (g : FuncId) (hx : a.eval x = .func (.func g) #[] #[])
    (u : Value) (hy : a.eval y = u) (hf : ∀ (args : Array Value) (w : World), (callFunc g args).run Tryd.prog w = .ok (.enter g args) w)
    (hc : Calls Tryd.prog g #[u] w fun e w' => ∃ r, e = .returned r ∧ K r w') : doneAt Tryd.prog o a w K :=
  done_call x #[y] ts ho g #[u] hx (by simp only [List.map_toArray, List.map_cons, List.map_nil, hy]) (hf _ w) hc
theorem done_three {o : Oper} {a : Act} {w : World} {K : Value → World → Prop} (x y z t : Operand) (ts : Array TypeId) (ho : o.op = .call { callee := .value x, args := #[y, z, t], argTypes := ts }) (g : FuncId) (hx : a.eval x = .func (.func g) #[] #[])
    (u v s : Value) (hy : a.eval y = u) (hz : a.eval z = v) (ht : a.eval t = s) (hf : ∀ (args : Array Value) (w : World), (callFunc g args).run Tryd.prog w = .ok (.enter g args) w)
    (hc : Calls Tryd.prog g #[u, v, s] w fun e w' => ∃ r, e = .returned r ∧ K r w') : doneAt Tryd.prog o a w K :=
  done_call x #[y, z, t] ts ho g #[u, v, s] hx (by simp only [List.map_toArray, List.map_cons, List.map_nil, hy, hz, ht]) (hf _ w) hc
theorem run_slice2 (p q : Option Addr) (n m cp cq : Nat) (w : World) : (Instr.buildSlice 43 2 #[(0, .slice p n cp), (1, .slice q m cq)]).run Tryd.prog w = .ok (.slice (some ⟨w.heap.size, 0, none⟩) 2 2) (w.alloc (.cells #[.slice p n cp, .slice q m cq] 22)) := by
  simp [go_sem]
theorem done_slice2 {o : Oper} {a : Act} {w : World} {K : Value → World → Prop} (x y : Operand) (ho : o.op = .buildSlice 43 2 #[(0, x), (1, y)]) (p q : Option Addr) (n m cp cq : Nat) (hx : a.eval x = .slice p n cp) (hy : a.eval y = .slice q m cq)
    (h : K (.slice (some ⟨w.heap.size, 0, none⟩) 2 2) (w.alloc (.cells #[.slice p n cp, .slice q m cq] 22))) : doneAt Tryd.prog o a w K := by
  have e := run_slice2 p q n m cp cq w
  unfold doneAt execOp
  simp only [ho]
  simp [hx, hy, e]
  exact h
section
variable {o : Oper} {a : Act} {C : World → Prop} {K : Act → Prop}
theorem gives_wholeSum (x : Operand) (ho : o.op = .slice 25 x none none none) (B : Nat) (hx : a.eval x = .pointer (some ⟨B, 0, none⟩)) (hk : K (a.put o.dst (.slice (some ⟨B, 0, none⟩) 32 32))) : ∃ v, Gives Tryd.prog C o a v ∧ K (a.put o.dst v) :=
  ⟨.slice (some ⟨B, 0, none⟩) 32 32, fun w _ => by
    have hs := byteElem.run_size (P := Tryd.prog) w
    unfold execOp
    simp only [ho, hx]
    simp [go_sem, hs], hk⟩
theorem gives_whole (x : Operand) (ho : o.op = .slice 61 x none none none) (B : Nat) (hx : a.eval x = .pointer (some ⟨B, 0, none⟩)) (hk : K (a.put o.dst (.slice (some ⟨B, 0, none⟩) 64 64))) : ∃ v, Gives Tryd.prog C o a v ∧ K (a.put o.dst v) :=
  ⟨.slice (some ⟨B, 0, none⟩) 64 64, fun w _ => by
    have hs := byteElem.run_size (P := Tryd.prog) w
    unfold execOp
    simp only [ho, hx]
    simp [go_sem, hs], hk⟩
end
theorem two_cells (w : World) (x y : Value) (t : TypeId) : (w.alloc (.cells #[x, y] t)).cell? ⟨w.heap.size, 0, none⟩ = some x ∧ (w.alloc (.cells #[x, y] t)).cell? ⟨w.heap.size, 1, none⟩ = some y := by
  have h := heap_alloc_new w (.cells #[x, y] t)
  refine ⟨?_, ?_⟩
  · rw [cell_of_row _ _ 0 #[x, y] t (0, 0) h]; rfl
  · rw [cell_of_row _ _ 1 #[x, y] t (0, 0) h]; rfl
theorem PartsIn.raise {M M' : Nat} {w : World} {q : Option Addr} {np : Nat} {P : Nat → Option Addr × Nat × Nat} {g : Nat → Nat} (h : PartsIn M w q np P g) (hM : M ≤ M') : PartsIn M' w q np P g := by
  refine ⟨?_, fun i hi => ?_⟩
  · rcases h.1 with h | ⟨B, o, h1, h2, h3⟩
    · exact .inl h
    · exact .inr ⟨B, o, h1, by omega, h3⟩
  · rcases h.2 i hi with h | ⟨B, o, h1, h2, h3⟩
    · exact .inl h
    · exact .inr ⟨B, o, h1, by omega, h3⟩
/-- The parts of a row of two. -/
theorem partsIn_two {M : Nat} {w : World} {B c m cq : Nat} {p q : Option Addr} {n : Nat} {f g : Nat → Nat} (hB : B < M) (h0 : w.cell? ⟨B, 0, none⟩ = some (.slice p n c)) (h1 : w.cell? ⟨B, 1, none⟩ = some (.slice q m cq))
    (hp : n = 0 ∨ ∃ b o, p = some ⟨b, o, none⟩ ∧ b < M ∧ Cells w b o n f) (hq : m = 0 ∨ ∃ b o, q = some ⟨b, o, none⟩ ∧ b < M ∧ Cells w b o m g) : PartsIn M w (some ⟨B, 0, none⟩) 2 (consP (p, n, c) fun _ => (q, m, cq)) (cat2 n f g) := by
  refine ⟨.inr ⟨B, 0, rfl, hB, fun i hi => ?_⟩, fun i hi => ?_⟩
  · rcases (show i = 0 ∨ i = 1 by omega) with rfl | rfl
    · exact h0
    · exact h1
  · rcases (show i = 0 ∨ i = 1 by omega) with rfl | rfl
    · rcases hp with h | ⟨b, o, e1, e2, e3⟩
      · exact .inl h
      · refine .inr ⟨b, o, e1, e2, fun j hj => ?_⟩
        have hj' : j < n := hj
        show w.cell? _ = some (.int .u8 (cat2 n f g (0 + j) : Nat))
        rw [Nat.zero_add, cat2_low hj']; exact e3 j hj'
    · rcases hq with h | ⟨b, o, e1, e2, e3⟩
      · exact .inl h
      · refine .inr ⟨b, o, e1, e2, fun j hj => ?_⟩
        have hj' : j < m := hj
        rw [show lenTo (consP (p, n, c) fun _ => (q, m, cq)) 1 = n by show 0 + n = n; omega]
        show w.cell? _ = some (.int .u8 (cat2 n f g (n + j) : Nat))
        rw [cat2_high]; exact e3 j hj'
theorem two_len (x y : Option Addr × Nat × Nat) : lenTo (consP x fun _ => y) 2 = x.2.1 + y.2.1 := by show 0 + x.2.1 + y.2.1 = _; omega
theorem two_caps {x y : Option Addr × Nat × Nat} (hx : x.2.1 ≤ x.2.2) (hy : y.2.1 ≤ y.2.2) : ∀ i, i < 2 → (consP x (fun _ => y) i).2.1 ≤ (consP x (fun _ => y) i).2.2 := fun i hi => by
  rcases (show i = 0 ∨ i = 1 by omega) with rfl | rfl
  · exact hx
  · exact hy
theorem partL_cons {k : Nat} {v : Value} {p : Option Addr} {n c np : Nat} {P : Nat → Option Addr × Nat × Nat} {w : World} {B : Nat} (hv : v = .slice p n c) (h : ∀ i u, ([v] ++ partL np P)[i]? = some u → w.cell? ⟨B, i, none⟩ = some u) :
    ∀ i, i < np + 1 → w.cell? ⟨B, i, none⟩ = some (.slice (consP (p, n, c) P i).1 (consP (p, n, c) P i).2.1 (consP (p, n, c) P i).2.2) := fun i hi => by
  subst hv
  rcases i with _ | i
  · exact h 0 _ rfl
  · rw [consP_succ]
    exact h (i + 1) _ (by rw [List.singleton_append, List.getElem?_cons_succ]; exact partL_at (by omega))
/-- The digest of a part and of others behind it. -/
theorem Of_cons {w : World} {q : Option Addr} {np : Nat} {P : Nat → Option Addr × Nat × Nat} {g f : Nat → Nat} {p : Option Addr} {n c B cB k : Nat} (hk : 1 + np = k) (hT : TabAt w) (h : PartsIn w.heap.size w q np P g) (hB : B < w.heap.size)
    (hr : ∀ i, i < np + 1 → w.cell? ⟨B, i, none⟩ = some (.slice (consP (p, n, c) P i).1 (consP (p, n, c) P i).2.1 (consP (p, n, c) P i).2.2)) (hp : BytesAt w p n f)
    (hnp : np ≤ 900) (hN : lenTo P np ≤ 900000) (hn : n ≤ 90000) (hc : n ≤ c) (hPc : ∀ i, i < np → (P i).2.1 ≤ (P i).2.2) (hf : ∀ i, i < n → f i < 256) (hg : ∀ i, i < lenTo P np → g i < 256) :
    Calls Tryd.prog 22 #[.slice (some ⟨B, 0, none⟩) k cB] w fun e w' => e = .returned (.agg (cellsOf .u8 (mk 32 (digF (n + lenTo P np) (cat2 n f g))))) ∧ Below w.heap.size w w' := by
  obtain rfl : k = np + 1 := by omega
  have hl : lenTo (consP (p, n, c) P) (np + 1) = n + lenTo P np := consP_len _ _ _
  have := Of_any (np + 1) cB (some ⟨B, 0, none⟩) (consP (p, n, c) P) (cat2 n f g) (by omega) (by rw [hl]; omega) (fun i hi => by
      rcases i with _ | i
      · exact hc
      · rw [consP_succ]; exact hPc i (by omega)) (by rw [hl]; exact cat2_lt hf hg) w hT (partsIn_cons h hB hr hp)
  rw [hl] at this; exact this
/-- The digest of two parts. -/
theorem Of_two {w : World} {B c m cq cB : Nat} {p q : Option Addr} {n : Nat} {f g : Nat → Nat} (hT : TabAt w) (hB : B < w.heap.size) (h0 : w.cell? ⟨B, 0, none⟩ = some (.slice p n c)) (h1 : w.cell? ⟨B, 1, none⟩ = some (.slice q m cq)) (hp : BytesAt w p n f) (hq : BytesAt w q m g)
    (hn : n + m ≤ 900000) (hc : n ≤ c) (hcq : m ≤ cq) (hf : ∀ i, i < n → f i < 256) (hg : ∀ i, i < m → g i < 256) :
    Calls Tryd.prog 22 #[.slice (some ⟨B, 0, none⟩) 2 cB] w fun e w' => e = .returned (.agg (cellsOf .u8 (mk 32 (digF (n + m) (cat2 n f g))))) ∧ Below w.heap.size w w' := by
  have hl : lenTo (consP (p, n, c) fun _ => (q, m, cq)) 2 = n + m := two_len _ _
  have := Of_any 2 cB (some ⟨B, 0, none⟩) (consP (p, n, c) fun _ => (q, m, cq)) (cat2 n f g) (by omega) (by rw [hl]; omega) (two_caps hc hcq) (by rw [hl]; exact cat2_lt hf hg) w hT (partsIn_two hB h0 h1 hp hq)
  rw [hl] at this; exact this
end Go.Proofs.YtccpecajbfpjdaaDoor

/- The contract of package mac's Tag: a text's tag with a key. Conditions: the package's variable holds the constants; the key has no more than 100000 bytes, the parts are no more than 900, and together no longer than 900000 bytes. -/
namespace Go.Proofs.YtccpecajbfpjdaaDoor
open Go.ChangeShapes Go.WideShapes Go.ChangeAt Go.RowKit

attribute [local irreducible] digF pieK mskB inG cat2 innF lenTo consP partL

set_option maxRecDepth 100000 in
set_option maxHeartbeats 4000000 in
theorem Tag_any (p : Option Addr) (n cap : Nat) (g : Nat → Nat) (np cp : Nat) (q : Option Addr) (P : Nat → Option Addr × Nat × Nat) (gt : Nat → Nat) (hn : n ≤ 100000) (hcap : n ≤ cap) (hg : ∀ i, i < n → g i < 256)
    (hnp : np ≤ 900) (hN : lenTo P np ≤ 900000) (hPc : ∀ i, i < np → (P i).2.1 ≤ (P i).2.2) (hgt : ∀ i, i < lenTo P np → gt i < 256) (w : World) (hT : TabAt w) (hp : BytesAt w p n g) (hP : PartsIn w.heap.size w q np P gt) :
    Calls Tryd.prog 28 #[.slice p n cap, .slice q np cp] w fun e w' => e = .returned (.agg (cellsOf .u8 (mk 32 (tagF n g (lenTo P np) gt)))) ∧ Below w.heap.size w w' := by
  have hlt := pieK_lt hg
  have HPI := Lib.hid (fun W hT hp => Piece_any p n cap g hn hcap hg W hT hp)
  show Calls _ _ _ _ fun e w' => e = .returned (.agg (cellsOf .u8 (mk 32 (digF 96 (cat2 64 (mskB 92 (pieK n g)) (innF (pieK n g) (lenTo P np) gt)))))) ∧ Below w.heap.size w w'
  have hin : innF (pieK n g) (lenTo P np) gt = digF (64 + lenTo P np) (cat2 64 (mskB 54 (pieK n g)) gt) := by unfold innF; rfl
  generalize pieK n g = K at *
  have HIN := Lib.hid hin
  clear hin
  have h0 := IntBlk.new w .u8 25 (mk 32 zeroK)
  have a0 : Below w.heap.size w (w.alloc (.cells (cellsOf .u8 (mk 32 zeroK)) 25)) := (Below.refl _ w).alloc (Nat.le_refl _) _
  have H0 := Lib.hid h0; have A0 := Lib.hid a0; have HP := Lib.hid (hp.below a0); have HT := Lib.hid (hT.on a0); have HPP := Lib.hid (hP.below a0)
  clear h0 a0 hp hT hP
  go_enter Tryd.func28, Tryd.ntmps28
  go_wp2_with (first
    | (go_at_call 41
       change Calls _ _ _ (w.alloc (.cells (cellsOf .u8 (mk 32 zeroK)) 25)) _
       refine (HPI.out _ HT.out HP.out).mono ?_; rintro e w1 ⟨rfl, hb1⟩
       have hs1 : w.heap.size + 1 ≤ w1.heap.size := by have := hb1.size; rw [World.size_alloc] at this; exact this
       have B0 := Lib.hid (H0.out.below hb1 H0.out.lt)
       have BL := Lib.hid (A0.out.trans (hb1.mono (by rw [World.size_alloc]; omega)))
       have BP := Lib.hid (HPP.out.below (hb1.mono (by rw [World.size_alloc]; omega)))
       have BT := Lib.hid (HT.out.on hb1)
       clear hb1 HP HPP HT H0 A0 HPI)
    | (refine store_row_on rfl 61 _ _ rfl rfl w1.heap.size (cellsOf .u8 (mk 64 K)) rfl rfl 61 (cellsOf .u8 (mk 64 zeroK)) (IntBlk.new w1 .u8 _ (mk 64 zeroK)) (pieceSize _) (by rw [cellsOf_size, cellsOf_size, mk_len, mk_len]) (cellsOf_one _ _) ?_
       have E0 : Below w1.heap.size w1 ((w1.alloc (.cells (cellsOf .u8 (mk 64 zeroK)) 61)).setRow w1.heap.size (cellsOf .u8 (mk 64 K))) := below_setRow ((Below.refl _ w1).alloc (Nat.le_refl _) _) (Nat.le_refl _) _
       have E1 : IntBlk ((w1.alloc (.cells (cellsOf .u8 (mk 64 zeroK)) 61)).setRow w1.heap.size (cellsOf .u8 (mk 64 K))) w1.heap.size .u8 61 (mk 64 K) := (IntBlk.new w1 .u8 _ (mk 64 zeroK)).setRow .u8 _
       change wpList _ _ _ _ _ ((w1.alloc (.cells (cellsOf .u8 (mk 64 zeroK)) 61)).setRow w1.heap.size (cellsOf .u8 (mk 64 K)))
       generalize (w1.alloc (.cells (cellsOf .u8 (mk 64 zeroK)) 61)).setRow w1.heap.size (cellsOf .u8 (mk 64 K)) = V at *
       have C0 := Lib.hid (B0.out.below E0 B0.out.lt)
       have CK := Lib.hid E1
       have CL := Lib.hid (BL.out.trans (E0.mono BL.out.size))
       have CP := Lib.hid (BP.out.below (E0.mono BL.out.size))
       have CT := Lib.hid (BT.out.on E0)
       clear E0 E1 B0 BL BP BT)
    | (refine wpList_load_row rfl 61 _ rfl w1.heap.size rfl 61 (cellsOf .u8 (mk 64 K)) (0, 0) _ CK.out pieceUnder rfl (pieceSize _) ?_)
    | (go_at_call 42; refine (masked_any K 54 hlt (by omega) V).mono ?_; rintro e w2 ⟨rfl, hm, hb2⟩
       have D0 := Lib.hid (C0.out.below hb2 C0.out.lt)
       have DK := Lib.hid (CK.out.below hb2 CK.out.lt)
       have DM := Lib.hid hm
       have DL := Lib.hid (CL.out.trans (hb2.mono CL.out.size))
       have DP := Lib.hid (CP.out.below (hb2.mono CL.out.size))
       have DT := Lib.hid (CT.out.on hb2)
       have hs2 := hb2.size
       have hs3 := CL.out.size
       clear hm hb2 C0 CK CL CP CT)
    | (refine wpList_append_lists rfl _ _ rfl w2.heap.size 1 (.slice (some ⟨w2.heap.size, 0, none⟩) 1 1) [.slice (some ⟨V.heap.size, 0, none⟩) 64 64] rfl (owns_row_one w2 w2.heap.size _ (Nat.le_refl _)) q np cp P rfl (DP.out.below ((Below.refl _ w2).alloc (by omega) _)).at (by omega) (by simp) ?_
       intro v3 w3 o3 b3
       obtain ⟨B, c3, rfl, hB1, hB2, hc3, hcl⟩ := owns_row_cells o3 (by omega)
       have L3 : Below w2.heap.size w2 w3 := (((Below.refl _ w2).alloc (Nat.le_refl _) _).trans b3)
       have F0 := Lib.hid (D0.out.below L3 D0.out.lt)
       have FK := Lib.hid (DK.out.below L3 DK.out.lt)
       have FM := Lib.hid (DM.out.below L3 DM.out.lt)
       have FL := Lib.hid (DL.out.trans (L3.mono DL.out.size))
       have FP := Lib.hid ((DP.out.below (L3.mono DL.out.size)).raise (M' := w3.heap.size) (by have := L3.size; have := DL.out.size; omega))
       have FT := Lib.hid (DT.out.on L3)
       have FR := Lib.hid (partL_cons (k := 0) rfl hcl)
       have hs4 := L3.size
       clear o3 b3 hcl L3 D0 DK DM DL DP DT)
    | (go_at_call 22; refine (Of_cons (cB := c3) rfl FT.out FP.out hB2 FR.out FM.out.bytes hnp hN (by omega) (Nat.le_refl _) hPc (mskB_lt (by omega) hlt) hgt).mono ?_
       rw [← HIN.out]; rintro e w4 ⟨rfl, hb4⟩
       have G0 := Lib.hid (F0.out.below hb4 F0.out.lt)
       have GK := Lib.hid (FK.out.below hb4 FK.out.lt)
       have GL := Lib.hid (FL.out.trans (hb4.mono FL.out.size))
       have GT := Lib.hid (FT.out.on hb4)
       clear hb4 F0 FK FM FL FP FT FR)
    | (refine store_row_on rfl 25 _ _ rfl rfl w4.heap.size (cellsOf .u8 (mk 32 (innF K (lenTo P np) gt))) rfl rfl 25 (cellsOf .u8 (mk 32 zeroK)) (IntBlk.new w4 .u8 _ (mk 32 zeroK)) (sumSize _) (by rw [cellsOf_size, cellsOf_size, mk_len, mk_len]) (cellsOf_one _ _) ?_
       have E0 : Below w4.heap.size w4 ((w4.alloc (.cells (cellsOf .u8 (mk 32 zeroK)) 25)).setRow w4.heap.size (cellsOf .u8 (mk 32 (innF K (lenTo P np) gt)))) := below_setRow ((Below.refl _ w4).alloc (Nat.le_refl _) _) (Nat.le_refl _) _
       have E1 : IntBlk ((w4.alloc (.cells (cellsOf .u8 (mk 32 zeroK)) 25)).setRow w4.heap.size (cellsOf .u8 (mk 32 (innF K (lenTo P np) gt)))) w4.heap.size .u8 25 (mk 32 (innF K (lenTo P np) gt)) := (IntBlk.new w4 .u8 _ (mk 32 zeroK)).setRow .u8 _
       change wpList _ _ _ _ _ ((w4.alloc (.cells (cellsOf .u8 (mk 32 zeroK)) 25)).setRow w4.heap.size (cellsOf .u8 (mk 32 (innF K (lenTo P np) gt))))
       generalize (w4.alloc (.cells (cellsOf .u8 (mk 32 zeroK)) 25)).setRow w4.heap.size (cellsOf .u8 (mk 32 (innF K (lenTo P np) gt))) = U at *
       have I0 := Lib.hid (G0.out.below E0 G0.out.lt)
       have IK := Lib.hid (GK.out.below E0 GK.out.lt)
       have II := Lib.hid E1
       have IL := Lib.hid (GL.out.trans (E0.mono GL.out.size))
       have IT := Lib.hid (GT.out.on E0)
       clear E0 E1 G0 GK GL GT))
  have hlI : ∀ i, i < 32 → innF K (lenTo P np) gt i < 256 := fun i _ => innF_lt _ _ _ i
  obtain ⟨D, hD⟩ : ∃ D, innF K (lenTo P np) gt = D := ⟨_, rfl⟩
  rw [hD] at hlI II
  have HD := Lib.hid hD
  clear hD HIN
  have c0 : IntBlk U.drew w1.heap.size .u8 61 (mk 64 K) := IK.out.drew
  have d0 : Below U.heap.size U U.drew := (Below.refl _ U).drew
  refine wp_region_sched [(0, true), (2, true), (1, false), (3, false), (4, false), (5, false)] (fun W => IntBlk W w1.heap.size .u8 61 (mk 64 K)) (by kernel_rfl) (by kernel_rfl) c0 ?_
  refine walk_float rfl rfl (fun K' hK => ?_)
  refine gives_row 61 _ rfl w1.heap.size .u8 (mk 64 K) rfl 64 5 pieceUnder (pieceSize _) (fun _ h => h) ?_
  go_simp
  refine hK _ ?_
  clear hK K'
  refine walk_float rfl rfl (fun K' hK => ?_)
  refine gives_wholeSum _ rfl w4.heap.size rfl ?_
  go_simp
  refine hK _ ?_
  clear hK K'
  refine walk_done rfl rfl (fun K' hK => ?_)
  refine done_two _ _ _ _ rfl 42 rfl (.agg (cellsOf .u8 (mk 64 K))) (.int .u8 92) rfl rfl (fun _ w => by simp [go_sem]) ((masked_any K 92 hlt (by omega) U.drew).mono fun e v1 hv1 => ⟨.slice (some ⟨U.heap.size, 0, none⟩) 64 64, hv1.1, ?_⟩)
  obtain ⟨_, hm1, hb1⟩ := hv1
  have n0 := I0.out.drew.below hb1 I0.out.lt
  have nI := II.out.drew.below hb1 II.out.lt
  have nK := c0.below hb1 c0.lt
  have nL := IL.out.trans ((d0.trans hb1).mono IL.out.size)
  have nT := IT.out.on (d0.trans hb1)
  refine ⟨nK, ?_⟩
  go_simp
  refine hK _ _ ?_
  clear hK K' hb1 c0 I0 IK II IL IT d0
  refine walk_done rfl rfl (fun K' hK => ?_)
  refine done_slice2 _ _ rfl (some ⟨U.heap.size, 0, none⟩) (some ⟨w4.heap.size, 0, none⟩) 64 32 64 32 rfl rfl ?_
  have a2 : Below v1.heap.size v1 (v1.alloc (.cells #[.slice (some ⟨U.heap.size, 0, none⟩) 64 64, .slice (some ⟨w4.heap.size, 0, none⟩) 32 32] 22)) := (Below.refl _ v1).alloc (Nat.le_refl _) _
  have cs := two_cells v1 (.slice (some ⟨U.heap.size, 0, none⟩) 64 64) (.slice (some ⟨w4.heap.size, 0, none⟩) 32 32) 22
  refine ⟨nK.below a2 nK.lt, ?_⟩
  generalize v1.alloc (.cells #[.slice (some ⟨U.heap.size, 0, none⟩) 64 64, .slice (some ⟨w4.heap.size, 0, none⟩) 32 32] 22) = v2 at *
  go_simp
  refine hK _ _ ?_
  clear hK K'
  refine walk_done rfl rfl (fun K' hK => ?_)
  refine done_call1 _ _ _ rfl 22 rfl (.slice (some ⟨v1.heap.size, 0, none⟩) 2 2) rfl (fun _ w => by simp [go_sem]) _ (Of_two (nT.on a2) (block_lt_of_cell cs.1) cs.1 cs.2 (hm1.below a2 hm1.lt).bytes (nI.below a2 nI.lt).bytes (by omega) (by omega) (by omega) (mskB_lt (by omega) hlt) hlI) ?_
  intro v3 hv3
  have b3 := a2.trans (hv3.mono a2.size)
  have m0 := n0.below b3 n0.lt
  have mL := nL.trans (b3.mono nL.size)
  refine ⟨nK.below b3 nK.lt, ?_⟩
  go_simp
  refine hK _ _ ?_
  have mK := nK.below b3 nK.lt
  clear hK K'
  refine walk_done rfl rfl (fun K' hK => ?_)
  refine done_store 25 _ _ rfl w.heap.size (cellsOf .u8 (mk 32 (digF (64 + 32) (cat2 64 (mskB 92 K) D)))) rfl rfl 25 (cellsOf .u8 (mk 32 zeroK)) m0 (sumSize _) (by rw [cellsOf_size, cellsOf_size, mk_len, mk_len]) (cellsOf_one _ _) ?_
  refine ⟨mK.otherRow (by have := mK.lt; omega) _, ?_⟩
  refine hK _ _ ?_
  refine walk_nil ?_
  go_wp2
  refine bodyPost_ret (results_cell_row rfl _ _ w.heap.size 25 (cellsOf .u8 (mk 32 (digF (64 + 32) (cat2 64 (mskB 92 K) D)))) (0, 0) _ rfl (m0.setRow .u8 _) sumUnder rfl (sumSize _)) rfl ⟨by rw [HD.out], below_setRow mL (Nat.le_refl _) _⟩
end Go.Proofs.YtccpecajbfpjdaaDoor
