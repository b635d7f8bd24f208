/- The contract of the document's New. Conditions: none. -/
import Derived.Test.YtbejfpdkfpgipaaPlRefD
import Derived.Test.YtbejfpdkfpgipaaPlNew
import Derived.Test.YtbejfpdkfpgipaaPlTree
namespace Go.Proofs.Ytbejfpdkfpgipaa
open Go.ChangeShapes Go.WideShapes Go.ChangeAt Go.RowKit
set_option linter.unusedVariables false
def nilRows (n : Nat) : Array Value := ((List.range n).map fun _ => Value.slice none 0 0).toArray
theorem made_rows (n : Nat) : madeCells (Value.slice none 0 0).cells n = nilRows n := by
  apply Array.ext
  · rw [size_madeCells]; simp [nilRows]
  · intro i h1 h2
    simp [madeCells, Value.cells, Nat.mod_one, nilRows]
theorem rowInfo3 : (Try.prog.info? 53).map (fun i => (i.zero, i.size, i.bytes)) = some (some (.slice none 0 0), 1, 24) := by kernel_rfl
attribute [local irreducible] mk nilRows
theorem run_make_rows (n : Nat) (hn : n ≤ 2048) (w : World) : (Instr.makeSlice 54 (.int .i64 n) (.int .i64 n)).run Try.prog w = .ok (.slice (some ⟨w.heap.size, 0, none⟩) n n) (w.alloc (.cells (nilRows n) 53)) := by
  have hi := rowInfo3
  cases hq : Try.prog.info? 53 with
  | none => rw [hq] at hi; simp at hi
  | some i =>
    rw [hq] at hi
    simp only [Option.map_some, Option.some.injEq, Prod.mk.injEq] at hi
    have e := run_make (P := Try.prog) w 54 53 i _ Try.underlying54 hq hi.1 .i64 .i64 n n (by omega) (by omega) (by rw [hi.2.2]; omega) (by omega)
    rw [hi.2.1, Int.toNat_natCast, Nat.mul_one, made_rows] at e
    exact e
theorem done_make_rows {o : Oper} {a : Act} {w : World} {K : Value → World → Prop} (x y : Operand) (ho : o.op = .makeSlice 54 x y) (n : Nat) (hn : n ≤ 2048) (hx : a.eval x = .int .i64 n) (hy : a.eval y = .int .i64 n)
    (h : ∀ w', Fresh w w' (.cells (nilRows n) 53) → K (.slice (some ⟨w.heap.size, 0, none⟩) n n) w') : doneAt Try.prog o a w K := by
  unfold doneAt execOp
  simp only [ho, hx, hy]
  simp [run_make_rows n hn w]
  exact h _ (fresh_alloc _ _)
theorem ref_built (p q s : Option Addr) (n c n' c' n2 c2 : Nat) : Try.prog.built 56 [(0, .slice p n c), (1, .slice s n2 c2), (2, .slice q n' c')] = some #[.slice p n c, .slice s n2 c2, .slice q n' c', .int .i64 0, .bool false, .int .i64 0, .bool false] := by kernel_rfl
theorem gives_ref {o : Oper} {a : Act} {C : World → Prop} {K : Act → Prop} (x y z : Operand) (ho : o.op = .build 56 #[(0, x), (1, y), (2, z)]) (p q s : Option Addr) (n c n' c' n2 c2 : Nat) (hx : a.eval x = .slice p n c) (hy : a.eval y = .slice s n2 c2) (hz : a.eval z = .slice q n' c')
    (hk : K (a.put o.dst (.agg #[.slice p n c, .slice s n2 c2, .slice q n' c', .int .i64 0, .bool false, .int .i64 0, .bool false]))) : ∃ v, Gives Try.prog C o a v ∧ K (a.put o.dst v) :=
  ⟨_, fun W _ => by
    unfold execOp
    simp only [ho]
    simp [hx, hy, hz, run_build _ _ _ _ (ref_built _ _ _ _ _ _ _ _ _)], hk⟩
def noRows : Since := ⟨fun _ => .slice none 0 0, fun _ => 0, fun _ _ => 0⟩
theorem ref_new {w w' : World} {sb zb cb n m : Nat} (hs : w.heap[sb]? = some (.cells (cellsOf .u8 (mk (128 * n) zeroK)) 40 (0, 0))) (hz : w.heap[zb]? = some (.cells (nilRows n) 53 (0, 0))) (hc : w.heap[cb]? = some (.cells (cellsOf .i64 (List.replicate m 0)) 3 (0, 0)))
    (hf : Fresh w w' (.cells (refV ⟨w.heap.size, sb, zb, cb⟩ (newD n m) 0) 56 (0, 0))) (ne1 : sb ≠ zb) (ne2 : sb ≠ cb) (ne3 : zb ≠ cb) (hn1 : 1 ≤ n) (hn2 : n ≤ 2048) (hm2 : m ≤ 16) : RefAt w' ⟨w.heap.size, sb, zb, cb⟩ w'.heap.size (newD n m) 0 noRows := by
  have lt : ∀ {k : Nat} {o : Obj}, w.heap[k]? = some o → k < w.heap.size := fun h => (Array.getElem?_eq_some_iff.1 h).1
  have l1 := lt hs
  have l2 := lt hz
  have l3 := lt hc
  have hsz := hf.size
  have hz' := hf.keep hz
  unfold nilRows at hz'
  refine ⟨hf.blk, fun e => (by cases e), ⟨zeroK, hf.keep hs, fun _ _ => rfl⟩, ⟨hz', fun i _ => World.ownsRow_nil _ _ _ _, fun _ _ _ _ _ => .inl rfl, fun _ _ => Nat.zero_le _, fun _ _ => rfl⟩, hf.keep hc, ?_, by show w.heap.size ≠ sb; omega, by show w.heap.size ≠ zb; omega, by show w.heap.size ≠ cb; omega, ne1, ne2, ne3, ?_, hn1, hn2, ?_⟩
  · intro k hk
    rcases hk with e | e | e | e <;> simp only at e <;> omega
  · intro x hx; cases hx
  · show (List.replicate m 0).length ≤ 16; simpa using hm2
set_option maxRecDepth 100000 in
set_option maxHeartbeats 4000000 in
theorem rNew_ok (n m : Nat) (hn1 : 1 ≤ n) (hn2 : n ≤ 2048) (hm1 : 1 ≤ m) (hm2 : m ≤ 16) (w : World) : Calls Try.prog 13 #[.int .i64 n, .int .i64 m] w fun e w' => ∃ r : RBlk, e = .returned (.tuple #[.pointer (some ⟨r.B, 0, none⟩), .int .i64 0]) ∧ RefAt w' r w'.heap.size (newD n m) 0 noRows ∧ Below w.heap.size w w' ∧ ∀ k, r.fix k → w.heap.size ≤ k := by
  have d1 : decide ((n : Int) < 1) = false := by simp; omega
  have d2 : decide ((2048 : Int) < (n : Int)) = false := by simp; omega
  have d3 : decide ((m : Int) < 1) = false := by simp; omega
  have d4 : decide ((16 : Int) < (m : Int)) = false := by simp; omega
  have d5 : decide (n < 1) = false := by simp; omega
  have d6 : decide (2048 < n) = false := by simp; omega
  have d7 : decide (m < 1) = false := by simp; omega
  have d8 : decide (16 < m) = false := by simp; omega
  have HN := Lib.hid (⟨hn1, hn2, hm2⟩ : 1 ≤ n ∧ n ≤ 2048 ∧ m ≤ 16)
  have hm3 : m ≤ 2048 := by omega
  have HM := Lib.hid hm3
  clear hn1 hn2 hm1 hm2 hm3
  go_enter Try.func13, Try.ntmps13
  go_wp2_with fail
  refine T3.wp_region_tree (.float 0 (.float 2 (.float 4 (.three 1 (.two 3 (.one 5 (.float 6 (.one 7 (.float 8 (.float 9 .over))))) 5 (.one 3 (.float 6 (.one 7 (.float 8 (.float 9 .over)))))) 3 (.two 1 (.one 5 (.float 6 (.one 7 (.float 8 (.float 9 .over))))) 5 (.one 1 (.float 6 (.one 7 (.float 8 (.float 9 .over)))))) 5 (.two 1 (.one 3 (.float 6 (.one 7 (.float 8 (.float 9 .over))))) 3 (.one 1 (.float 6 (.one 7 (.float 8 (.float 9 .over)))))))))) (fun W => Below w.heap.size w W) (by kernel_rfl) (by kernel_rfl) ((Below.refl _ _).drew) ?_
  generalize hw0 : w.drew = W0
  have B0 := Lib.hid (show Below w.heap.size w W0 from hw0 ▸ (Below.refl _ w).drew)
  clear hw0
  refine T3.tree_float rfl rfl (fun K' hK' => ?_)
  refine gives_move _ rfl ?_
  go_simp
  refine hK' _ ?_
  clear hK' K'
  refine T3.tree_float rfl rfl (fun K' hK' => ?_)
  refine gives_move _ rfl ?_
  go_simp
  refine hK' _ ?_
  clear hK' K'
  refine T3.tree_float rfl rfl (fun K' hK' => ?_)
  refine gives_move _ rfl ?_
  go_simp
  refine hK' _ ?_
  clear hK' K'
  refine T3.tree_three ?_ ?_ ?_
  · refine T3.tree_one rfl rfl (fun K' hK' => ?_)
    refine done_make_secs _ _ rfl n HN.out.2.1 rfl rfl ?_
    intro W1 FS
    refine ⟨B0.out.trans (FS.bel.mono B0.out.size), hK' _ _ ?_⟩
    clear hK' K'
    have B1 := Lib.hid (B0.out.trans (FS.bel.mono B0.out.size))
    have PS := Lib.hid FS.blk
    have ZS := Lib.hid FS.size
    refine T3.tree_two ?_ ?_
    · refine T3.tree_one rfl rfl (fun K' hK' => ?_)
      refine done_make_rows _ _ rfl n HN.out.2.1 rfl rfl ?_
      intro W2 FM
      refine ⟨B1.out.trans (FM.bel.mono B1.out.size), hK' _ _ ?_⟩
      clear hK' K'
      have B2 := Lib.hid (B1.out.trans (FM.bel.mono B1.out.size))
      have PM := Lib.hid FM.blk
      have ZM := Lib.hid FM.size
      refine T3.tree_one rfl rfl (fun K' hK' => ?_)
      refine done_make_ints _ _ rfl m HM.out rfl rfl ?_
      intro W3 FC
      refine ⟨B2.out.trans (FC.bel.mono B2.out.size), hK' _ _ ?_⟩
      clear hK' K'
      have B3 := Lib.hid (B2.out.trans (FC.bel.mono B2.out.size))
      have PC := Lib.hid FC.blk
      have ZC := Lib.hid FC.size
      have QS := Lib.hid (FC.keep (FM.keep (PS.out)))
      have QM := Lib.hid (FC.keep (PM.out))
      have QC := Lib.hid (PC.out)
      clear FS FM FC PS PM PC
      refine T3.tree_float rfl rfl (fun K' hK' => ?_)
      refine gives_ref _ _ _ rfl _ _ _ _ _ _ _ _ _ rfl rfl rfl ?_
      go_simp
      refine hK' _ ?_
      clear hK' K'
      refine T3.tree_one rfl rfl (fun K' hK' => ?_)
      refine done_box _ _ rfl (refV ⟨W3.heap.size, W0.heap.size, W1.heap.size, W2.heap.size⟩ (newD n m) 0) ?own ?_
      case own => simp only [refV, newD, List.length_replicate]; rfl
      intro W4 FB
      refine ⟨B3.out.trans (FB.bel.mono B3.out.size), hK' _ _ ?_⟩
      clear hK' K'
      refine T3.tree_float rfl rfl (fun K' hK' => ?_)
      refine gives_assign _ rfl ?_
      go_simp
      refine hK' _ ?_
      clear hK' K'
      refine T3.tree_float rfl rfl (fun K' hK' => ?_)
      refine gives_assign _ rfl ?_
      go_simp
      refine hK' _ ?_
      clear hK' K'
      refine T3.tree_over ?_
      have zs := ZS.out
      have zm := ZM.out
      have zc := ZC.out
      have hb := B0.out.size
      have hd := ref_new QS.out QM.out QC.out FB (by omega) (by omega) (by omega) HN.out.1 HN.out.2.1 HN.out.2.2
      have hB4 := B3.out.trans (FB.bel.mono B3.out.size)
      clear FB QS QM QC
      have hown : ∀ k, RBlk.fix ⟨W3.heap.size, W0.heap.size, W1.heap.size, W2.heap.size⟩ k → w.heap.size ≤ k := fun k hk => by
        rcases hk with e | e | e | e <;> simp only at e <;> omega
      have HD := Lib.hid hd
      have HB := Lib.hid hB4
      have HO := Lib.hid hown
      clear hd hB4 hown zs zm zc hb ZS ZM ZC
      go_wp2
      go_ret2
      exact ⟨_, rfl, HD.out, HB.out, HO.out⟩
    · refine T3.tree_one rfl rfl (fun K' hK' => ?_)
      refine done_make_ints _ _ rfl m HM.out rfl rfl ?_
      intro W2 FC
      refine ⟨B1.out.trans (FC.bel.mono B1.out.size), hK' _ _ ?_⟩
      clear hK' K'
      have B2 := Lib.hid (B1.out.trans (FC.bel.mono B1.out.size))
      have PC := Lib.hid FC.blk
      have ZC := Lib.hid FC.size
      refine T3.tree_one rfl rfl (fun K' hK' => ?_)
      refine done_make_rows _ _ rfl n HN.out.2.1 rfl rfl ?_
      intro W3 FM
      refine ⟨B2.out.trans (FM.bel.mono B2.out.size), hK' _ _ ?_⟩
      clear hK' K'
      have B3 := Lib.hid (B2.out.trans (FM.bel.mono B2.out.size))
      have PM := Lib.hid FM.blk
      have ZM := Lib.hid FM.size
      have QS := Lib.hid (FM.keep (FC.keep (PS.out)))
      have QC := Lib.hid (FM.keep (PC.out))
      have QM := Lib.hid (PM.out)
      clear FS FM FC PS PM PC
      refine T3.tree_float rfl rfl (fun K' hK' => ?_)
      refine gives_ref _ _ _ rfl _ _ _ _ _ _ _ _ _ rfl rfl rfl ?_
      go_simp
      refine hK' _ ?_
      clear hK' K'
      refine T3.tree_one rfl rfl (fun K' hK' => ?_)
      refine done_box _ _ rfl (refV ⟨W3.heap.size, W0.heap.size, W2.heap.size, W1.heap.size⟩ (newD n m) 0) ?own ?_
      case own => simp only [refV, newD, List.length_replicate]; rfl
      intro W4 FB
      refine ⟨B3.out.trans (FB.bel.mono B3.out.size), hK' _ _ ?_⟩
      clear hK' K'
      refine T3.tree_float rfl rfl (fun K' hK' => ?_)
      refine gives_assign _ rfl ?_
      go_simp
      refine hK' _ ?_
      clear hK' K'
      refine T3.tree_float rfl rfl (fun K' hK' => ?_)
      refine gives_assign _ rfl ?_
      go_simp
      refine hK' _ ?_
      clear hK' K'
      refine T3.tree_over ?_
      have zs := ZS.out
      have zm := ZM.out
      have zc := ZC.out
      have hb := B0.out.size
      have hd := ref_new QS.out QM.out QC.out FB (by omega) (by omega) (by omega) HN.out.1 HN.out.2.1 HN.out.2.2
      have hB4 := B3.out.trans (FB.bel.mono B3.out.size)
      clear FB QS QM QC
      have hown : ∀ k, RBlk.fix ⟨W3.heap.size, W0.heap.size, W2.heap.size, W1.heap.size⟩ k → w.heap.size ≤ k := fun k hk => by
        rcases hk with e | e | e | e <;> simp only at e <;> omega
      have HD := Lib.hid hd
      have HB := Lib.hid hB4
      have HO := Lib.hid hown
      clear hd hB4 hown zs zm zc hb ZS ZM ZC
      go_wp2
      go_ret2
      exact ⟨_, rfl, HD.out, HB.out, HO.out⟩
  · refine T3.tree_one rfl rfl (fun K' hK' => ?_)
    refine done_make_rows _ _ rfl n HN.out.2.1 rfl rfl ?_
    intro W1 FM
    refine ⟨B0.out.trans (FM.bel.mono B0.out.size), hK' _ _ ?_⟩
    clear hK' K'
    have B1 := Lib.hid (B0.out.trans (FM.bel.mono B0.out.size))
    have PM := Lib.hid FM.blk
    have ZM := Lib.hid FM.size
    refine T3.tree_two ?_ ?_
    · refine T3.tree_one rfl rfl (fun K' hK' => ?_)
      refine done_make_secs _ _ rfl n HN.out.2.1 rfl rfl ?_
      intro W2 FS
      refine ⟨B1.out.trans (FS.bel.mono B1.out.size), hK' _ _ ?_⟩
      clear hK' K'
      have B2 := Lib.hid (B1.out.trans (FS.bel.mono B1.out.size))
      have PS := Lib.hid FS.blk
      have ZS := Lib.hid FS.size
      refine T3.tree_one rfl rfl (fun K' hK' => ?_)
      refine done_make_ints _ _ rfl m HM.out rfl rfl ?_
      intro W3 FC
      refine ⟨B2.out.trans (FC.bel.mono B2.out.size), hK' _ _ ?_⟩
      clear hK' K'
      have B3 := Lib.hid (B2.out.trans (FC.bel.mono B2.out.size))
      have PC := Lib.hid FC.blk
      have ZC := Lib.hid FC.size
      have QM := Lib.hid (FC.keep (FS.keep (PM.out)))
      have QS := Lib.hid (FC.keep (PS.out))
      have QC := Lib.hid (PC.out)
      clear FS FM FC PS PM PC
      refine T3.tree_float rfl rfl (fun K' hK' => ?_)
      refine gives_ref _ _ _ rfl _ _ _ _ _ _ _ _ _ rfl rfl rfl ?_
      go_simp
      refine hK' _ ?_
      clear hK' K'
      refine T3.tree_one rfl rfl (fun K' hK' => ?_)
      refine done_box _ _ rfl (refV ⟨W3.heap.size, W1.heap.size, W0.heap.size, W2.heap.size⟩ (newD n m) 0) ?own ?_
      case own => simp only [refV, newD, List.length_replicate]; rfl
      intro W4 FB
      refine ⟨B3.out.trans (FB.bel.mono B3.out.size), hK' _ _ ?_⟩
      clear hK' K'
      refine T3.tree_float rfl rfl (fun K' hK' => ?_)
      refine gives_assign _ rfl ?_
      go_simp
      refine hK' _ ?_
      clear hK' K'
      refine T3.tree_float rfl rfl (fun K' hK' => ?_)
      refine gives_assign _ rfl ?_
      go_simp
      refine hK' _ ?_
      clear hK' K'
      refine T3.tree_over ?_
      have zs := ZS.out
      have zm := ZM.out
      have zc := ZC.out
      have hb := B0.out.size
      have hd := ref_new QS.out QM.out QC.out FB (by omega) (by omega) (by omega) HN.out.1 HN.out.2.1 HN.out.2.2
      have hB4 := B3.out.trans (FB.bel.mono B3.out.size)
      clear FB QS QM QC
      have hown : ∀ k, RBlk.fix ⟨W3.heap.size, W1.heap.size, W0.heap.size, W2.heap.size⟩ k → w.heap.size ≤ k := fun k hk => by
        rcases hk with e | e | e | e <;> simp only at e <;> omega
      have HD := Lib.hid hd
      have HB := Lib.hid hB4
      have HO := Lib.hid hown
      clear hd hB4 hown zs zm zc hb ZS ZM ZC
      go_wp2
      go_ret2
      exact ⟨_, rfl, HD.out, HB.out, HO.out⟩
    · refine T3.tree_one rfl rfl (fun K' hK' => ?_)
      refine done_make_ints _ _ rfl m HM.out rfl rfl ?_
      intro W2 FC
      refine ⟨B1.out.trans (FC.bel.mono B1.out.size), hK' _ _ ?_⟩
      clear hK' K'
      have B2 := Lib.hid (B1.out.trans (FC.bel.mono B1.out.size))
      have PC := Lib.hid FC.blk
      have ZC := Lib.hid FC.size
      refine T3.tree_one rfl rfl (fun K' hK' => ?_)
      refine done_make_secs _ _ rfl n HN.out.2.1 rfl rfl ?_
      intro W3 FS
      refine ⟨B2.out.trans (FS.bel.mono B2.out.size), hK' _ _ ?_⟩
      clear hK' K'
      have B3 := Lib.hid (B2.out.trans (FS.bel.mono B2.out.size))
      have PS := Lib.hid FS.blk
      have ZS := Lib.hid FS.size
      have QM := Lib.hid (FS.keep (FC.keep (PM.out)))
      have QC := Lib.hid (FS.keep (PC.out))
      have QS := Lib.hid (PS.out)
      clear FS FM FC PS PM PC
      refine T3.tree_float rfl rfl (fun K' hK' => ?_)
      refine gives_ref _ _ _ rfl _ _ _ _ _ _ _ _ _ rfl rfl rfl ?_
      go_simp
      refine hK' _ ?_
      clear hK' K'
      refine T3.tree_one rfl rfl (fun K' hK' => ?_)
      refine done_box _ _ rfl (refV ⟨W3.heap.size, W2.heap.size, W0.heap.size, W1.heap.size⟩ (newD n m) 0) ?own ?_
      case own => simp only [refV, newD, List.length_replicate]; rfl
      intro W4 FB
      refine ⟨B3.out.trans (FB.bel.mono B3.out.size), hK' _ _ ?_⟩
      clear hK' K'
      refine T3.tree_float rfl rfl (fun K' hK' => ?_)
      refine gives_assign _ rfl ?_
      go_simp
      refine hK' _ ?_
      clear hK' K'
      refine T3.tree_float rfl rfl (fun K' hK' => ?_)
      refine gives_assign _ rfl ?_
      go_simp
      refine hK' _ ?_
      clear hK' K'
      refine T3.tree_over ?_
      have zs := ZS.out
      have zm := ZM.out
      have zc := ZC.out
      have hb := B0.out.size
      have hd := ref_new QS.out QM.out QC.out FB (by omega) (by omega) (by omega) HN.out.1 HN.out.2.1 HN.out.2.2
      have hB4 := B3.out.trans (FB.bel.mono B3.out.size)
      clear FB QS QM QC
      have hown : ∀ k, RBlk.fix ⟨W3.heap.size, W2.heap.size, W0.heap.size, W1.heap.size⟩ k → w.heap.size ≤ k := fun k hk => by
        rcases hk with e | e | e | e <;> simp only at e <;> omega
      have HD := Lib.hid hd
      have HB := Lib.hid hB4
      have HO := Lib.hid hown
      clear hd hB4 hown zs zm zc hb ZS ZM ZC
      go_wp2
      go_ret2
      exact ⟨_, rfl, HD.out, HB.out, HO.out⟩
  · refine T3.tree_one rfl rfl (fun K' hK' => ?_)
    refine done_make_ints _ _ rfl m HM.out rfl rfl ?_
    intro W1 FC
    refine ⟨B0.out.trans (FC.bel.mono B0.out.size), hK' _ _ ?_⟩
    clear hK' K'
    have B1 := Lib.hid (B0.out.trans (FC.bel.mono B0.out.size))
    have PC := Lib.hid FC.blk
    have ZC := Lib.hid FC.size
    refine T3.tree_two ?_ ?_
    · refine T3.tree_one rfl rfl (fun K' hK' => ?_)
      refine done_make_secs _ _ rfl n HN.out.2.1 rfl rfl ?_
      intro W2 FS
      refine ⟨B1.out.trans (FS.bel.mono B1.out.size), hK' _ _ ?_⟩
      clear hK' K'
      have B2 := Lib.hid (B1.out.trans (FS.bel.mono B1.out.size))
      have PS := Lib.hid FS.blk
      have ZS := Lib.hid FS.size
      refine T3.tree_one rfl rfl (fun K' hK' => ?_)
      refine done_make_rows _ _ rfl n HN.out.2.1 rfl rfl ?_
      intro W3 FM
      refine ⟨B2.out.trans (FM.bel.mono B2.out.size), hK' _ _ ?_⟩
      clear hK' K'
      have B3 := Lib.hid (B2.out.trans (FM.bel.mono B2.out.size))
      have PM := Lib.hid FM.blk
      have ZM := Lib.hid FM.size
      have QC := Lib.hid (FM.keep (FS.keep (PC.out)))
      have QS := Lib.hid (FM.keep (PS.out))
      have QM := Lib.hid (PM.out)
      clear FS FM FC PS PM PC
      refine T3.tree_float rfl rfl (fun K' hK' => ?_)
      refine gives_ref _ _ _ rfl _ _ _ _ _ _ _ _ _ rfl rfl rfl ?_
      go_simp
      refine hK' _ ?_
      clear hK' K'
      refine T3.tree_one rfl rfl (fun K' hK' => ?_)
      refine done_box _ _ rfl (refV ⟨W3.heap.size, W1.heap.size, W2.heap.size, W0.heap.size⟩ (newD n m) 0) ?own ?_
      case own => simp only [refV, newD, List.length_replicate]; rfl
      intro W4 FB
      refine ⟨B3.out.trans (FB.bel.mono B3.out.size), hK' _ _ ?_⟩
      clear hK' K'
      refine T3.tree_float rfl rfl (fun K' hK' => ?_)
      refine gives_assign _ rfl ?_
      go_simp
      refine hK' _ ?_
      clear hK' K'
      refine T3.tree_float rfl rfl (fun K' hK' => ?_)
      refine gives_assign _ rfl ?_
      go_simp
      refine hK' _ ?_
      clear hK' K'
      refine T3.tree_over ?_
      have zs := ZS.out
      have zm := ZM.out
      have zc := ZC.out
      have hb := B0.out.size
      have hd := ref_new QS.out QM.out QC.out FB (by omega) (by omega) (by omega) HN.out.1 HN.out.2.1 HN.out.2.2
      have hB4 := B3.out.trans (FB.bel.mono B3.out.size)
      clear FB QS QM QC
      have hown : ∀ k, RBlk.fix ⟨W3.heap.size, W1.heap.size, W2.heap.size, W0.heap.size⟩ k → w.heap.size ≤ k := fun k hk => by
        rcases hk with e | e | e | e <;> simp only at e <;> omega
      have HD := Lib.hid hd
      have HB := Lib.hid hB4
      have HO := Lib.hid hown
      clear hd hB4 hown zs zm zc hb ZS ZM ZC
      go_wp2
      go_ret2
      exact ⟨_, rfl, HD.out, HB.out, HO.out⟩
    · refine T3.tree_one rfl rfl (fun K' hK' => ?_)
      refine done_make_rows _ _ rfl n HN.out.2.1 rfl rfl ?_
      intro W2 FM
      refine ⟨B1.out.trans (FM.bel.mono B1.out.size), hK' _ _ ?_⟩
      clear hK' K'
      have B2 := Lib.hid (B1.out.trans (FM.bel.mono B1.out.size))
      have PM := Lib.hid FM.blk
      have ZM := Lib.hid FM.size
      refine T3.tree_one rfl rfl (fun K' hK' => ?_)
      refine done_make_secs _ _ rfl n HN.out.2.1 rfl rfl ?_
      intro W3 FS
      refine ⟨B2.out.trans (FS.bel.mono B2.out.size), hK' _ _ ?_⟩
      clear hK' K'
      have B3 := Lib.hid (B2.out.trans (FS.bel.mono B2.out.size))
      have PS := Lib.hid FS.blk
      have ZS := Lib.hid FS.size
      have QC := Lib.hid (FS.keep (FM.keep (PC.out)))
      have QM := Lib.hid (FS.keep (PM.out))
      have QS := Lib.hid (PS.out)
      clear FS FM FC PS PM PC
      refine T3.tree_float rfl rfl (fun K' hK' => ?_)
      refine gives_ref _ _ _ rfl _ _ _ _ _ _ _ _ _ rfl rfl rfl ?_
      go_simp
      refine hK' _ ?_
      clear hK' K'
      refine T3.tree_one rfl rfl (fun K' hK' => ?_)
      refine done_box _ _ rfl (refV ⟨W3.heap.size, W2.heap.size, W1.heap.size, W0.heap.size⟩ (newD n m) 0) ?own ?_
      case own => simp only [refV, newD, List.length_replicate]; rfl
      intro W4 FB
      refine ⟨B3.out.trans (FB.bel.mono B3.out.size), hK' _ _ ?_⟩
      clear hK' K'
      refine T3.tree_float rfl rfl (fun K' hK' => ?_)
      refine gives_assign _ rfl ?_
      go_simp
      refine hK' _ ?_
      clear hK' K'
      refine T3.tree_float rfl rfl (fun K' hK' => ?_)
      refine gives_assign _ rfl ?_
      go_simp
      refine hK' _ ?_
      clear hK' K'
      refine T3.tree_over ?_
      have zs := ZS.out
      have zm := ZM.out
      have zc := ZC.out
      have hb := B0.out.size
      have hd := ref_new QS.out QM.out QC.out FB (by omega) (by omega) (by omega) HN.out.1 HN.out.2.1 HN.out.2.2
      have hB4 := B3.out.trans (FB.bel.mono B3.out.size)
      clear FB QS QM QC
      have hown : ∀ k, RBlk.fix ⟨W3.heap.size, W2.heap.size, W1.heap.size, W0.heap.size⟩ k → w.heap.size ≤ k := fun k hk => by
        rcases hk with e | e | e | e <;> simp only at e <;> omega
      have HD := Lib.hid hd
      have HB := Lib.hid hB4
      have HO := Lib.hid hown
      clear hd hB4 hown zs zm zc hb ZS ZM ZC
      go_wp2
      go_ret2
      exact ⟨_, rfl, HD.out, HB.out, HO.out⟩
end Go.Proofs.Ytbejfpdkfpgipaa
