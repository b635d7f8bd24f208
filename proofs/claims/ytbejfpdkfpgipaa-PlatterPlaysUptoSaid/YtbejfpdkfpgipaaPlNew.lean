/- The contract of package platter's New. Conditions: none. -/
import Derived.Test.YtbejfpdkfpgipaaPlFuse
import Derived.Test.YtbejfpdkfpgipaaPlTree
namespace Go.Proofs.Ytbejfpdkfpgipaa
open Go.ChangeShapes Go.WideShapes Go.ChangeAt Go.RowKit
set_option linter.unusedVariables false
/-- What a make hands over. -/
structure Fresh (w w' : World) (o : Obj) : Prop where
  blk : w'.heap[w.heap.size]? = some o
  bel : Below w.heap.size w w'
  size : w'.heap.size = w.heap.size + 1
theorem fresh_alloc (w : World) (o : Obj) : Fresh w (w.alloc o) o := ⟨heap_alloc_new _ _, (Below.refl _ _).alloc (Nat.le_refl _) _, by simp⟩
theorem Fresh.keep {w w' : World} {o : Obj} (h : Fresh w w' o) {B : Nat} {o' : Obj} (hB : w.heap[B]? = some o') : w'.heap[B]? = some o' := (h.bel.block B (Array.getElem?_eq_some_iff.1 hB).1).trans hB
theorem made_ints (m : Nat) : madeCells (Value.int .i64 0).cells m = cellsOf .i64 (List.replicate m 0) := by
  apply Array.ext
  · rw [size_madeCells, cellsOf_size, List.length_replicate]
  · intro i h1 h2
    have hi : i < m := by rw [size_madeCells] at h1; exact h1
    have e2 := cellsOf_get .i64 (List.replicate m 0) (i := i) (by simpa using hi)
    rw [Array.getElem?_eq_getElem h2] at e2
    have e3 : (madeCells (Value.int .i64 0).cells m)[i] = .int .i64 0 := by
      simp [madeCells, Value.cells, Nat.mod_one]
    rw [e3]
    simp only [Option.some.injEq] at e2
    rw [e2]
    simp [List.getD_eq_getElem?_getD, hi]
theorem secInfo3 : (Try.prog.info? 40).map (·.size) = some 128 := by kernel_rfl
theorem secBytes3 : (Try.prog.info? 40).map (·.bytes) = some 128 := by kernel_rfl
theorem secZero3 : (Try.prog.info? 40).bind (·.zero) = some (.agg (cellsOf .u8 (mk 128 zeroK))) := by kernel_rfl
theorem intInfo3 : (Try.prog.info? 3).map (fun i => (i.zero, i.size, i.bytes)) = some (some (.int .i64 0), 1, 8) := by kernel_rfl
attribute [local irreducible] mk
theorem run_make_secs (n : Nat) (hn : n ≤ 2048) (w : World) : (Instr.makeSlice 53 (.int .i64 n) (.int .i64 n)).run Try.prog w = .ok (.slice (some ⟨w.heap.size, 0, none⟩) n n) (w.alloc (.cells (cellsOf .u8 (mk (128 * n) zeroK)) 40)) := by
  have hi := secInfo3
  have hz := secZero3
  have hb := secBytes3
  cases hq : Try.prog.info? 40 with
  | none => rw [hq] at hi; simp at hi
  | some i =>
    rw [hq] at hi hz hb
    have hsz : i.size = 128 := by simpa using hi
    have hzz : i.zero = some (.agg (cellsOf .u8 (mk 128 zeroK))) := by simpa using hz
    have hby : i.bytes = 128 := by simpa using hb
    have e := run_make (P := Try.prog) w 53 40 i _ Try.underlying53 hq hzz .i64 .i64 n n (by omega) (by omega) (by rw [hby]; omega) (by omega)
    have hc : (Value.agg (cellsOf .u8 (mk 128 zeroK))).cells = cellsOf .u8 (mk 128 zeroK) := rfl
    rw [hsz, Int.toNat_natCast, made_zero hc (by omega), Nat.mul_comm] at e
    exact e
theorem run_make_ints (n : Nat) (hn : n ≤ 2048) (w : World) : (Instr.makeSlice 35 (.int .i64 n) (.int .i64 n)).run Try.prog w = .ok (.slice (some ⟨w.heap.size, 0, none⟩) n n) (w.alloc (.cells (cellsOf .i64 (List.replicate n 0)) 3)) := by
  have hi := intInfo3
  cases hq : Try.prog.info? 3 with
  | none => rw [hq] at hi; simp at hi
  | some i =>
    rw [hq] at hi
    simp only [Option.map_some, Option.some.injEq, Prod.mk.injEq] at hi
    have e := run_make (P := Try.prog) w 35 3 i _ Try.underlying35 hq hi.1 .i64 .i64 n n (by omega) (by omega) (by rw [hi.2.2]; omega) (by omega)
    rw [hi.2.1, Int.toNat_natCast, Nat.mul_one, made_ints] at e
    exact e
section
variable {o : Oper} {a : Act} {w : World} {K : Value → World → Prop}
theorem done_make_secs (x y : Operand) (ho : o.op = .makeSlice 53 x y) (n : Nat) (hn : n ≤ 2048) (hx : a.eval x = .int .i64 n) (hy : a.eval y = .int .i64 n)
    (h : ∀ w', Fresh w w' (.cells (cellsOf .u8 (mk (128 * n) zeroK)) 40) → K (.slice (some ⟨w.heap.size, 0, none⟩) n n) w') : doneAt Try.prog o a w K := by
  unfold doneAt execOp
  simp only [ho, hx, hy]
  simp [run_make_secs n hn w]
  exact h _ (fresh_alloc _ _)
theorem done_make_ints (x y : Operand) (ho : o.op = .makeSlice 35 x y) (n : Nat) (hn : n ≤ 2048) (hx : a.eval x = .int .i64 n) (hy : a.eval y = .int .i64 n)
    (h : ∀ w', Fresh w w' (.cells (cellsOf .i64 (List.replicate n 0)) 3) → K (.slice (some ⟨w.heap.size, 0, none⟩) n n) w') : doneAt Try.prog o a w K := by
  unfold doneAt execOp
  simp only [ho, hx, hy]
  simp [run_make_ints n hn w]
  exact h _ (fresh_alloc _ _)
theorem done_make_map (t : TypeId) (ho : o.op = .makeMap t none) (h : ∀ w', Fresh w w' (.map #[] 0) → K (.map (some w.heap.size)) w') : doneAt Try.prog o a w K := by
  unfold doneAt execOp
  simp only [ho]
  simp [run_makeMap]
  exact h _ (fresh_alloc _ _)
theorem done_box (t : TypeId) (x : Operand) (ho : o.op = .box t x) (cs : Array Value) (hx : a.eval x = .agg cs) (h : ∀ w', Fresh w w' (.cells cs t (0, 0)) → K (.pointer (some ⟨w.heap.size, 0, none⟩)) w') : doneAt Try.prog o a w K := by
  unfold doneAt execOp
  simp only [ho, hx]
  simp [go_sem, Value.cells]
  exact h _ (fresh_alloc _ _)
end
theorem plat_built (p q : Option Addr) (n c n' c' : Nat) (mb : Option Nat) : Try.prog.built 90 [(1, .slice p n c), (2, .map mb), (3, .slice q n' c')] = some #[.int .i64 0, .bool false, .int .i64 0, .bool false, .slice p n c, .map mb, .slice q n' c'] := by kernel_rfl
theorem gives_plat {o : Oper} {a : Act} {C : World → Prop} {K : Act → Prop} (x y z : Operand) (ho : o.op = .build 90 #[(1, x), (2, y), (3, z)]) (p q : Option Addr) (n c n' c' : Nat) (mb : Option Nat) (hx : a.eval x = .slice p n c) (hy : a.eval y = .map mb) (hz : a.eval z = .slice q n' c')
    (hk : K (a.put o.dst (.agg #[.int .i64 0, .bool false, .int .i64 0, .bool false, .slice p n c, .map mb, .slice q n' c']))) : ∃ v, Gives Try.prog C o a v ∧ K (a.put o.dst v) :=
  ⟨_, fun W _ => by
    unfold execOp
    simp only [ho]
    simp [hx, hy, hz, run_build _ _ _ _ (plat_built _ _ _ _ _ _ _)], hk⟩
def newD (n m : Nat) : Disk := ⟨0, false, 0, false, n, fun _ => mk 128 zeroK, fun _ => none, List.replicate m 0⟩
theorem disk_new {w w' : World} {sb mb cb n m : Nat} (hs : w.heap[sb]? = some (.cells (cellsOf .u8 (mk (128 * n) zeroK)) 40 (0, 0))) (hm : w.heap[mb]? = some (.map #[] 0)) (hc : w.heap[cb]? = some (.cells (cellsOf .i64 (List.replicate m 0)) 3 (0, 0)))
    (hf : Fresh w w' (.cells (platV ⟨w.heap.size, sb, mb, cb⟩ (newD n m)) 90 (0, 0))) (ne : sb ≠ cb) (hn1 : 1 ≤ n) (hn2 : n ≤ 2048) (hm2 : m ≤ 16) : DiskAt w' ⟨w.heap.size, sb, mb, cb⟩ (newD n m) := by
  have lt : ∀ {k : Nat} {o : Obj}, w.heap[k]? = some o → k ≠ w.heap.size := fun h => Nat.ne_of_lt (Array.getElem?_eq_some_iff.1 h).1
  refine ⟨hf.blk, ⟨zeroK, hf.keep hs, fun _ _ => rfl⟩, ⟨0, .map [], Nat.le_refl _, ⟨#[], 0, hf.keep hm, ⟨by simp, MapKept.stamped_empty 0, by simp⟩, Nat.le_refl _, rfl⟩, reads_none⟩, hf.keep hc, (lt hs).symm, (lt hc).symm, ne, ?_, hn1, hn2, ?_⟩
  · intro x hx; cases hx
  · show (List.replicate m 0).length ≤ 16; simpa using hm2
theorem New_range_any (w : World) : True := trivial
set_option maxRecDepth 100000 in
set_option maxHeartbeats 4000000 in
theorem New_ok (n m : Nat) (hn1 : 1 ≤ n) (hn2 : n ≤ 2048) (hm1 : 1 ≤ m) (hm2 : m ≤ 16) (w : World) : Calls Try.prog 12 #[.int .i64 n, .int .i64 m] w fun e w' => ∃ b : Blks, e = .returned (.tuple #[.pointer (some ⟨b.B, 0, none⟩), .nilIface]) ∧ DiskAt w' b (newD n m) ∧ Below w.heap.size w w' ∧ ∀ k, b.own k → w.heap.size ≤ k := by
  have d1 : decide ((n : Int) < 1) = false := by simp; omega
  have d2 : decide ((2048 : Int) < (n : Int)) = false := by simp; omega
  have d3 : decide ((m : Int) < 1) = false := by simp; omega
  have d4 : decide ((16 : Int) < (m : Int)) = false := by simp; omega
  have d5 : decide (n < 1) = false := by simp; omega
  have d6 : decide (2048 < n) = false := by simp; omega
  have d7 : decide (m < 1) = false := by simp; omega
  have d8 : decide (16 < m) = false := by simp; omega
  have HN := Lib.hid (⟨hn1, hn2, hm2⟩ : 1 ≤ n ∧ n ≤ 2048 ∧ m ≤ 16)
  have hm3 : m ≤ 2048 := by omega
  have HM := Lib.hid hm3
  clear hn1 hn2 hm1 hm2 hm3
  go_enter Try.func12, Try.ntmps12
  go_wp2_with fail
  refine T3.wp_region_tree (.float 0 (.float 3 (.three 1 (.two 2 (.one 4 (.float 5 (.one 6 (.float 7 (.float 8 .over))))) 4 (.one 2 (.float 5 (.one 6 (.float 7 (.float 8 .over)))))) 2 (.two 1 (.one 4 (.float 5 (.one 6 (.float 7 (.float 8 .over))))) 4 (.one 1 (.float 5 (.one 6 (.float 7 (.float 8 .over)))))) 4 (.two 1 (.one 2 (.float 5 (.one 6 (.float 7 (.float 8 .over))))) 2 (.one 1 (.float 5 (.one 6 (.float 7 (.float 8 .over))))))))) (fun W => Below w.heap.size w W) (by kernel_rfl) (by kernel_rfl) ((Below.refl _ _).drew) ?_
  generalize hw0 : w.drew = W0
  have B0 := Lib.hid (show Below w.heap.size w W0 from hw0 ▸ (Below.refl _ w).drew)
  clear hw0
  refine T3.tree_float rfl rfl (fun K' hK' => ?_)
  refine gives_move _ rfl ?_
  go_simp
  refine hK' _ ?_
  clear hK' K'
  refine T3.tree_float rfl rfl (fun K' hK' => ?_)
  refine gives_move _ rfl ?_
  go_simp
  refine hK' _ ?_
  clear hK' K'
  refine T3.tree_three ?_ ?_ ?_
  · refine T3.tree_one rfl rfl (fun K' hK' => ?_)
    refine done_make_secs _ _ rfl n HN.out.2.1 rfl rfl ?_
    intro W1 FS
    refine ⟨B0.out.trans (FS.bel.mono B0.out.size), hK' _ _ ?_⟩
    clear hK' K'
    have B1 := Lib.hid (B0.out.trans (FS.bel.mono B0.out.size))
    have PS := Lib.hid FS.blk
    have ZS := Lib.hid FS.size
    refine T3.tree_two ?_ ?_
    · refine T3.tree_one rfl rfl (fun K' hK' => ?_)
      refine done_make_map _ rfl ?_
      intro W2 FM
      refine ⟨B1.out.trans (FM.bel.mono B1.out.size), hK' _ _ ?_⟩
      clear hK' K'
      have B2 := Lib.hid (B1.out.trans (FM.bel.mono B1.out.size))
      have PM := Lib.hid FM.blk
      have ZM := Lib.hid FM.size
      refine T3.tree_one rfl rfl (fun K' hK' => ?_)
      refine done_make_ints _ _ rfl m HM.out rfl rfl ?_
      intro W3 FC
      refine ⟨B2.out.trans (FC.bel.mono B2.out.size), hK' _ _ ?_⟩
      clear hK' K'
      have B3 := Lib.hid (B2.out.trans (FC.bel.mono B2.out.size))
      have PC := Lib.hid FC.blk
      have ZC := Lib.hid FC.size
      have QS := Lib.hid (FC.keep (FM.keep (PS.out)))
      have QM := Lib.hid (FC.keep (PM.out))
      have QC := Lib.hid (PC.out)
      clear FS FM FC PS PM PC
      refine T3.tree_float rfl rfl (fun K' hK' => ?_)
      refine gives_plat _ _ _ rfl _ _ _ _ _ _ _ rfl rfl rfl ?_
      go_simp
      refine hK' _ ?_
      clear hK' K'
      refine T3.tree_one rfl rfl (fun K' hK' => ?_)
      refine done_box _ _ rfl (platV ⟨W3.heap.size, W0.heap.size, W1.heap.size, W2.heap.size⟩ (newD n m)) ?own ?_
      case own => simp only [platV, newD, List.length_replicate]; rfl
      intro W4 FB
      refine ⟨B3.out.trans (FB.bel.mono B3.out.size), hK' _ _ ?_⟩
      clear hK' K'
      refine T3.tree_float rfl rfl (fun K' hK' => ?_)
      refine gives_assign _ rfl ?_
      go_simp
      refine hK' _ ?_
      clear hK' K'
      refine T3.tree_float rfl rfl (fun K' hK' => ?_)
      refine gives_assign _ rfl ?_
      go_simp
      refine hK' _ ?_
      clear hK' K'
      refine T3.tree_over ?_
      have zs := ZS.out
      have zm := ZM.out
      have zc := ZC.out
      have hb := B0.out.size
      have hd := disk_new QS.out QM.out QC.out FB (by omega) HN.out.1 HN.out.2.1 HN.out.2.2
      have hB4 := B3.out.trans (FB.bel.mono B3.out.size)
      clear FB QS QM QC
      have hown : ∀ k, Blks.own ⟨W3.heap.size, W0.heap.size, W1.heap.size, W2.heap.size⟩ k → w.heap.size ≤ k := fun k hk => by
        rcases hk with e | e | e | e <;> simp only at e <;> omega
      have HD := Lib.hid hd
      have HB := Lib.hid hB4
      have HO := Lib.hid hown
      clear hd hB4 hown zs zm zc hb ZS ZM ZC
      go_wp2
      go_ret2
      exact ⟨_, rfl, HD.out, HB.out, HO.out⟩
    · refine T3.tree_one rfl rfl (fun K' hK' => ?_)
      refine done_make_ints _ _ rfl m HM.out rfl rfl ?_
      intro W2 FC
      refine ⟨B1.out.trans (FC.bel.mono B1.out.size), hK' _ _ ?_⟩
      clear hK' K'
      have B2 := Lib.hid (B1.out.trans (FC.bel.mono B1.out.size))
      have PC := Lib.hid FC.blk
      have ZC := Lib.hid FC.size
      refine T3.tree_one rfl rfl (fun K' hK' => ?_)
      refine done_make_map _ rfl ?_
      intro W3 FM
      refine ⟨B2.out.trans (FM.bel.mono B2.out.size), hK' _ _ ?_⟩
      clear hK' K'
      have B3 := Lib.hid (B2.out.trans (FM.bel.mono B2.out.size))
      have PM := Lib.hid FM.blk
      have ZM := Lib.hid FM.size
      have QS := Lib.hid (FM.keep (FC.keep (PS.out)))
      have QC := Lib.hid (FM.keep (PC.out))
      have QM := Lib.hid (PM.out)
      clear FS FM FC PS PM PC
      refine T3.tree_float rfl rfl (fun K' hK' => ?_)
      refine gives_plat _ _ _ rfl _ _ _ _ _ _ _ rfl rfl rfl ?_
      go_simp
      refine hK' _ ?_
      clear hK' K'
      refine T3.tree_one rfl rfl (fun K' hK' => ?_)
      refine done_box _ _ rfl (platV ⟨W3.heap.size, W0.heap.size, W2.heap.size, W1.heap.size⟩ (newD n m)) ?own ?_
      case own => simp only [platV, newD, List.length_replicate]; rfl
      intro W4 FB
      refine ⟨B3.out.trans (FB.bel.mono B3.out.size), hK' _ _ ?_⟩
      clear hK' K'
      refine T3.tree_float rfl rfl (fun K' hK' => ?_)
      refine gives_assign _ rfl ?_
      go_simp
      refine hK' _ ?_
      clear hK' K'
      refine T3.tree_float rfl rfl (fun K' hK' => ?_)
      refine gives_assign _ rfl ?_
      go_simp
      refine hK' _ ?_
      clear hK' K'
      refine T3.tree_over ?_
      have zs := ZS.out
      have zm := ZM.out
      have zc := ZC.out
      have hb := B0.out.size
      have hd := disk_new QS.out QM.out QC.out FB (by omega) HN.out.1 HN.out.2.1 HN.out.2.2
      have hB4 := B3.out.trans (FB.bel.mono B3.out.size)
      clear FB QS QM QC
      have hown : ∀ k, Blks.own ⟨W3.heap.size, W0.heap.size, W2.heap.size, W1.heap.size⟩ k → w.heap.size ≤ k := fun k hk => by
        rcases hk with e | e | e | e <;> simp only at e <;> omega
      have HD := Lib.hid hd
      have HB := Lib.hid hB4
      have HO := Lib.hid hown
      clear hd hB4 hown zs zm zc hb ZS ZM ZC
      go_wp2
      go_ret2
      exact ⟨_, rfl, HD.out, HB.out, HO.out⟩
  · refine T3.tree_one rfl rfl (fun K' hK' => ?_)
    refine done_make_map _ rfl ?_
    intro W1 FM
    refine ⟨B0.out.trans (FM.bel.mono B0.out.size), hK' _ _ ?_⟩
    clear hK' K'
    have B1 := Lib.hid (B0.out.trans (FM.bel.mono B0.out.size))
    have PM := Lib.hid FM.blk
    have ZM := Lib.hid FM.size
    refine T3.tree_two ?_ ?_
    · refine T3.tree_one rfl rfl (fun K' hK' => ?_)
      refine done_make_secs _ _ rfl n HN.out.2.1 rfl rfl ?_
      intro W2 FS
      refine ⟨B1.out.trans (FS.bel.mono B1.out.size), hK' _ _ ?_⟩
      clear hK' K'
      have B2 := Lib.hid (B1.out.trans (FS.bel.mono B1.out.size))
      have PS := Lib.hid FS.blk
      have ZS := Lib.hid FS.size
      refine T3.tree_one rfl rfl (fun K' hK' => ?_)
      refine done_make_ints _ _ rfl m HM.out rfl rfl ?_
      intro W3 FC
      refine ⟨B2.out.trans (FC.bel.mono B2.out.size), hK' _ _ ?_⟩
      clear hK' K'
      have B3 := Lib.hid (B2.out.trans (FC.bel.mono B2.out.size))
      have PC := Lib.hid FC.blk
      have ZC := Lib.hid FC.size
      have QM := Lib.hid (FC.keep (FS.keep (PM.out)))
      have QS := Lib.hid (FC.keep (PS.out))
      have QC := Lib.hid (PC.out)
      clear FS FM FC PS PM PC
      refine T3.tree_float rfl rfl (fun K' hK' => ?_)
      refine gives_plat _ _ _ rfl _ _ _ _ _ _ _ rfl rfl rfl ?_
      go_simp
      refine hK' _ ?_
      clear hK' K'
      refine T3.tree_one rfl rfl (fun K' hK' => ?_)
      refine done_box _ _ rfl (platV ⟨W3.heap.size, W1.heap.size, W0.heap.size, W2.heap.size⟩ (newD n m)) ?own ?_
      case own => simp only [platV, newD, List.length_replicate]; rfl
      intro W4 FB
      refine ⟨B3.out.trans (FB.bel.mono B3.out.size), hK' _ _ ?_⟩
      clear hK' K'
      refine T3.tree_float rfl rfl (fun K' hK' => ?_)
      refine gives_assign _ rfl ?_
      go_simp
      refine hK' _ ?_
      clear hK' K'
      refine T3.tree_float rfl rfl (fun K' hK' => ?_)
      refine gives_assign _ rfl ?_
      go_simp
      refine hK' _ ?_
      clear hK' K'
      refine T3.tree_over ?_
      have zs := ZS.out
      have zm := ZM.out
      have zc := ZC.out
      have hb := B0.out.size
      have hd := disk_new QS.out QM.out QC.out FB (by omega) HN.out.1 HN.out.2.1 HN.out.2.2
      have hB4 := B3.out.trans (FB.bel.mono B3.out.size)
      clear FB QS QM QC
      have hown : ∀ k, Blks.own ⟨W3.heap.size, W1.heap.size, W0.heap.size, W2.heap.size⟩ k → w.heap.size ≤ k := fun k hk => by
        rcases hk with e | e | e | e <;> simp only at e <;> omega
      have HD := Lib.hid hd
      have HB := Lib.hid hB4
      have HO := Lib.hid hown
      clear hd hB4 hown zs zm zc hb ZS ZM ZC
      go_wp2
      go_ret2
      exact ⟨_, rfl, HD.out, HB.out, HO.out⟩
    · refine T3.tree_one rfl rfl (fun K' hK' => ?_)
      refine done_make_ints _ _ rfl m HM.out rfl rfl ?_
      intro W2 FC
      refine ⟨B1.out.trans (FC.bel.mono B1.out.size), hK' _ _ ?_⟩
      clear hK' K'
      have B2 := Lib.hid (B1.out.trans (FC.bel.mono B1.out.size))
      have PC := Lib.hid FC.blk
      have ZC := Lib.hid FC.size
      refine T3.tree_one rfl rfl (fun K' hK' => ?_)
      refine done_make_secs _ _ rfl n HN.out.2.1 rfl rfl ?_
      intro W3 FS
      refine ⟨B2.out.trans (FS.bel.mono B2.out.size), hK' _ _ ?_⟩
      clear hK' K'
      have B3 := Lib.hid (B2.out.trans (FS.bel.mono B2.out.size))
      have PS := Lib.hid FS.blk
      have ZS := Lib.hid FS.size
      have QM := Lib.hid (FS.keep (FC.keep (PM.out)))
      have QC := Lib.hid (FS.keep (PC.out))
      have QS := Lib.hid (PS.out)
      clear FS FM FC PS PM PC
      refine T3.tree_float rfl rfl (fun K' hK' => ?_)
      refine gives_plat _ _ _ rfl _ _ _ _ _ _ _ rfl rfl rfl ?_
      go_simp
      refine hK' _ ?_
      clear hK' K'
      refine T3.tree_one rfl rfl (fun K' hK' => ?_)
      refine done_box _ _ rfl (platV ⟨W3.heap.size, W2.heap.size, W0.heap.size, W1.heap.size⟩ (newD n m)) ?own ?_
      case own => simp only [platV, newD, List.length_replicate]; rfl
      intro W4 FB
      refine ⟨B3.out.trans (FB.bel.mono B3.out.size), hK' _ _ ?_⟩
      clear hK' K'
      refine T3.tree_float rfl rfl (fun K' hK' => ?_)
      refine gives_assign _ rfl ?_
      go_simp
      refine hK' _ ?_
      clear hK' K'
      refine T3.tree_float rfl rfl (fun K' hK' => ?_)
      refine gives_assign _ rfl ?_
      go_simp
      refine hK' _ ?_
      clear hK' K'
      refine T3.tree_over ?_
      have zs := ZS.out
      have zm := ZM.out
      have zc := ZC.out
      have hb := B0.out.size
      have hd := disk_new QS.out QM.out QC.out FB (by omega) HN.out.1 HN.out.2.1 HN.out.2.2
      have hB4 := B3.out.trans (FB.bel.mono B3.out.size)
      clear FB QS QM QC
      have hown : ∀ k, Blks.own ⟨W3.heap.size, W2.heap.size, W0.heap.size, W1.heap.size⟩ k → w.heap.size ≤ k := fun k hk => by
        rcases hk with e | e | e | e <;> simp only at e <;> omega
      have HD := Lib.hid hd
      have HB := Lib.hid hB4
      have HO := Lib.hid hown
      clear hd hB4 hown zs zm zc hb ZS ZM ZC
      go_wp2
      go_ret2
      exact ⟨_, rfl, HD.out, HB.out, HO.out⟩
  · refine T3.tree_one rfl rfl (fun K' hK' => ?_)
    refine done_make_ints _ _ rfl m HM.out rfl rfl ?_
    intro W1 FC
    refine ⟨B0.out.trans (FC.bel.mono B0.out.size), hK' _ _ ?_⟩
    clear hK' K'
    have B1 := Lib.hid (B0.out.trans (FC.bel.mono B0.out.size))
    have PC := Lib.hid FC.blk
    have ZC := Lib.hid FC.size
    refine T3.tree_two ?_ ?_
    · refine T3.tree_one rfl rfl (fun K' hK' => ?_)
      refine done_make_secs _ _ rfl n HN.out.2.1 rfl rfl ?_
      intro W2 FS
      refine ⟨B1.out.trans (FS.bel.mono B1.out.size), hK' _ _ ?_⟩
      clear hK' K'
      have B2 := Lib.hid (B1.out.trans (FS.bel.mono B1.out.size))
      have PS := Lib.hid FS.blk
      have ZS := Lib.hid FS.size
      refine T3.tree_one rfl rfl (fun K' hK' => ?_)
      refine done_make_map _ rfl ?_
      intro W3 FM
      refine ⟨B2.out.trans (FM.bel.mono B2.out.size), hK' _ _ ?_⟩
      clear hK' K'
      have B3 := Lib.hid (B2.out.trans (FM.bel.mono B2.out.size))
      have PM := Lib.hid FM.blk
      have ZM := Lib.hid FM.size
      have QC := Lib.hid (FM.keep (FS.keep (PC.out)))
      have QS := Lib.hid (FM.keep (PS.out))
      have QM := Lib.hid (PM.out)
      clear FS FM FC PS PM PC
      refine T3.tree_float rfl rfl (fun K' hK' => ?_)
      refine gives_plat _ _ _ rfl _ _ _ _ _ _ _ rfl rfl rfl ?_
      go_simp
      refine hK' _ ?_
      clear hK' K'
      refine T3.tree_one rfl rfl (fun K' hK' => ?_)
      refine done_box _ _ rfl (platV ⟨W3.heap.size, W1.heap.size, W2.heap.size, W0.heap.size⟩ (newD n m)) ?own ?_
      case own => simp only [platV, newD, List.length_replicate]; rfl
      intro W4 FB
      refine ⟨B3.out.trans (FB.bel.mono B3.out.size), hK' _ _ ?_⟩
      clear hK' K'
      refine T3.tree_float rfl rfl (fun K' hK' => ?_)
      refine gives_assign _ rfl ?_
      go_simp
      refine hK' _ ?_
      clear hK' K'
      refine T3.tree_float rfl rfl (fun K' hK' => ?_)
      refine gives_assign _ rfl ?_
      go_simp
      refine hK' _ ?_
      clear hK' K'
      refine T3.tree_over ?_
      have zs := ZS.out
      have zm := ZM.out
      have zc := ZC.out
      have hb := B0.out.size
      have hd := disk_new QS.out QM.out QC.out FB (by omega) HN.out.1 HN.out.2.1 HN.out.2.2
      have hB4 := B3.out.trans (FB.bel.mono B3.out.size)
      clear FB QS QM QC
      have hown : ∀ k, Blks.own ⟨W3.heap.size, W1.heap.size, W2.heap.size, W0.heap.size⟩ k → w.heap.size ≤ k := fun k hk => by
        rcases hk with e | e | e | e <;> simp only at e <;> omega
      have HD := Lib.hid hd
      have HB := Lib.hid hB4
      have HO := Lib.hid hown
      clear hd hB4 hown zs zm zc hb ZS ZM ZC
      go_wp2
      go_ret2
      exact ⟨_, rfl, HD.out, HB.out, HO.out⟩
    · refine T3.tree_one rfl rfl (fun K' hK' => ?_)
      refine done_make_map _ rfl ?_
      intro W2 FM
      refine ⟨B1.out.trans (FM.bel.mono B1.out.size), hK' _ _ ?_⟩
      clear hK' K'
      have B2 := Lib.hid (B1.out.trans (FM.bel.mono B1.out.size))
      have PM := Lib.hid FM.blk
      have ZM := Lib.hid FM.size
      refine T3.tree_one rfl rfl (fun K' hK' => ?_)
      refine done_make_secs _ _ rfl n HN.out.2.1 rfl rfl ?_
      intro W3 FS
      refine ⟨B2.out.trans (FS.bel.mono B2.out.size), hK' _ _ ?_⟩
      clear hK' K'
      have B3 := Lib.hid (B2.out.trans (FS.bel.mono B2.out.size))
      have PS := Lib.hid FS.blk
      have ZS := Lib.hid FS.size
      have QC := Lib.hid (FS.keep (FM.keep (PC.out)))
      have QM := Lib.hid (FS.keep (PM.out))
      have QS := Lib.hid (PS.out)
      clear FS FM FC PS PM PC
      refine T3.tree_float rfl rfl (fun K' hK' => ?_)
      refine gives_plat _ _ _ rfl _ _ _ _ _ _ _ rfl rfl rfl ?_
      go_simp
      refine hK' _ ?_
      clear hK' K'
      refine T3.tree_one rfl rfl (fun K' hK' => ?_)
      refine done_box _ _ rfl (platV ⟨W3.heap.size, W2.heap.size, W1.heap.size, W0.heap.size⟩ (newD n m)) ?own ?_
      case own => simp only [platV, newD, List.length_replicate]; rfl
      intro W4 FB
      refine ⟨B3.out.trans (FB.bel.mono B3.out.size), hK' _ _ ?_⟩
      clear hK' K'
      refine T3.tree_float rfl rfl (fun K' hK' => ?_)
      refine gives_assign _ rfl ?_
      go_simp
      refine hK' _ ?_
      clear hK' K'
      refine T3.tree_float rfl rfl (fun K' hK' => ?_)
      refine gives_assign _ rfl ?_
      go_simp
      refine hK' _ ?_
      clear hK' K'
      refine T3.tree_over ?_
      have zs := ZS.out
      have zm := ZM.out
      have zc := ZC.out
      have hb := B0.out.size
      have hd := disk_new QS.out QM.out QC.out FB (by omega) HN.out.1 HN.out.2.1 HN.out.2.2
      have hB4 := B3.out.trans (FB.bel.mono B3.out.size)
      clear FB QS QM QC
      have hown : ∀ k, Blks.own ⟨W3.heap.size, W2.heap.size, W1.heap.size, W0.heap.size⟩ k → w.heap.size ≤ k := fun k hk => by
        rcases hk with e | e | e | e <;> simp only at e <;> omega
      have HD := Lib.hid hd
      have HB := Lib.hid hB4
      have HO := Lib.hid hown
      clear hd hB4 hown zs zm zc hb ZS ZM ZC
      go_wp2
      go_ret2
      exact ⟨_, rfl, HD.out, HB.out, HO.out⟩
end Go.Proofs.Ytbejfpdkfpgipaa
