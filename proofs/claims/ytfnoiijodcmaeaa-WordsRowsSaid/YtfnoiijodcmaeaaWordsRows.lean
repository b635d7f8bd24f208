/- Which rows any bytes begin with, as many as are asked for, and whether they are rows alone: the statement WordsRows. No condition. -/
import Derived.Test.YtfnoiijodcmaeaaWdIter
import Derived.Test.YtfnoiijodcmaeaaWdRows
namespace Go.Proofs.Ytfnoiijodcmaeaa.wordsRows
open Go.ChangeShapes Go.WideShapes Go.ChangeAt Go.RowKit Go.Shelf
attribute [local go_sem] Oper.semAt_some
set_option linter.unusedVariables false

theorem own : ownKnob Try.prog.godebug = none := by kernel_rfl
set_option maxRecDepth 100000 in
set_option maxHeartbeats 1000000 in
/-- Bytes written over. -/
theorem Over_any (D n N cap : Nat) (F : Nat → Nat) (hF : ∀ j, j < N → F j < 256) (hn : n ≤ N) (hN : N ≤ 140737488355328) (w : World) (hD : IntBlk w D .u8 5 (mk N F)) :
    Calls Try.prog 26 #[.slice (some ⟨D, 0, none⟩) n cap] w fun e w' => (∃ v, e = .returned v) ∧ But D w w' := by
  have HD := Lib.hid hD; have HF := Lib.hid hF
  clear hD hF
  go_enter Try.func26, Try.ntmps26
  go_wp2
  go_loopw [5] (fun v wr => ∃ k : Nat, k ≤ n ∧ v = .int .i64 k ∧ (∃ G : Nat → Nat, (∀ j, j < N → G j < 256) ∧ IntBlk wr D .u8 5 (mk N G)) ∧ But D w wr) (fun v _ => n - (intOf v).toNat)
  case atStart => exact ⟨0, by omega, rfl, ⟨F, HF.out, HD.out⟩, .of (Below.refl _ _)⟩
  case round =>
    clear HD HF
    obtain ⟨k, hk, rfl, ⟨G, hG, ha⟩, hb⟩ := hrel
    have HA := Lib.hid ha; have HB := Lib.hid hb; have HG := Lib.hid hG
    by_cases hlt : k < n
    · have e1 : (k : Int) < (n : Int) := by omega
      have hkN : k < N := by omega
      have c1 := ha.cell (i := k) (by rw [mk_len]; exact hkN)
      rw [mk_get hkN] at c1
      have f1 := ha.free k
      obtain ⟨x, hx⟩ : ∃ x, G k = x := ⟨_, rfl⟩
      have hx2 := hG k hkN
      rw [hx] at c1 hx2
      have e2 : bits .xor .u8 (x : Int) 255 = ((x ^^^ 255 : Nat) : Int) := bits_xor_u8 (y := 255) hx2 (by decide)
      have HE := Lib.hid e2
      have HX := Lib.hid (show x ^^^ 255 < 256 from xor_lt hx2 (by decide))
      clear ha hb hG e2 hx
      go_wp2
      go_roundw
      case rel =>
        refine ⟨k + 1, by omega, by go_num, ⟨fun j => if j = k then x ^^^ 255 else G j, fun j hj => ?_, ?_⟩, HB.out.trans (.setCell _ _ _ _)⟩
        · show (if j = k then x ^^^ 255 else G j) < 256
          by_cases e : j = k
          · rw [if_pos e]; exact HX.out
          · rw [if_neg e]; exact HG.out j hj
        · have := HA.out.set k (bits .xor .u8 (x : Int) 255)
          rw [mk_set_is (v := x ^^^ 255) HE.out (fun j _ => rfl)] at this
          exact this
      case measure => simp [intOf]; omega
    · have e1 : ¬ (k : Int) < (n : Int) := by omega
      clear ha hb hG
      go_wp2
      refine bodyPost_end (results_none rfl _ _ _) rfl ?_
      exact ⟨⟨_, rfl⟩, HB.out⟩

/-! ### Examples -/
def fiveG : Nat → Nat := fun j => if j = 1 then 1 else if j = 2 then 7 else 0
def fiveP : Nat → Nat := fun i => if i = 0 then 0 else if i = 1 then 3 else 5
def threeG : Nat → Nat := fun j => if j = 1 then 2 else if j = 2 then 7 else 0
theorem five_rows : RowsOf 5 fiveG 2 fiveP := ⟨rfl, by decide, by decide, by decide⟩
theorem three_rows : RowsOf 3 threeG 0 (fun _ => 0) := ⟨rfl, by decide, by decide, by decide⟩
theorem five_list : mk 5 fiveG = [0, 1, 7, 0, 0] := by decide
theorem three_list : mk 3 threeG = [0, 2, 7] := by decide
theorem five_any (w : World) : Calls Try.prog 24 #[.slice (some ⟨w.heap.size, 0, none⟩) 5 5] (w.alloc (.cells #[.int .u8 0, .int .u8 1, .int .u8 7, .int .u8 0, .int .u8 0] 5)) fun e w' => e = .returned (.bool true) ∧ Below w.heap.size w w' := by
  have h : IntBlk (w.alloc (.cells #[.int .u8 0, .int .u8 1, .int .u8 7, .int .u8 0, .int .u8 0] 5)) w.heap.size .u8 5 (mk 5 fiveG) := by
    rw [five_list]; exact IntBlk.new w .u8 _ [0, 1, 7, 0, 0]
  refine (Whole_any (some ⟨w.heap.size, 0, none⟩) 5 5 fiveG (by decide) (by omega) (by omega) 2 fiveP five_rows _ h.bytesAt).mono ?_
  rintro e w' ⟨he, hb⟩
  exact ⟨he, ((Below.refl _ w).alloc (Nat.le_refl _) _).trans (hb.mono (by simp))⟩
theorem three_any (w : World) : Calls Try.prog 24 #[.slice (some ⟨w.heap.size, 0, none⟩) 3 3] (w.alloc (.cells #[.int .u8 0, .int .u8 2, .int .u8 7] 5)) fun e w' => e = .returned (.bool false) ∧ Below w.heap.size w w' := by
  have h : IntBlk (w.alloc (.cells #[.int .u8 0, .int .u8 2, .int .u8 7] 5)) w.heap.size .u8 5 (mk 3 threeG) := by
    rw [three_list]; exact IntBlk.new w .u8 _ [0, 2, 7]
  refine (Whole_any (some ⟨w.heap.size, 0, none⟩) 3 3 threeG (by decide) (by omega) (by omega) 0 (fun _ => 0) three_rows _ h.bytesAt).mono ?_
  rintro e w' ⟨he, hb⟩
  exact ⟨he, ((Below.refl _ w).alloc (Nat.le_refl _) _).trans (hb.mono (by simp))⟩
/-- The law's first two boxes: how many are asked for, and the answer. -/
structure Bx2 (w : World) (y : Int) (V : World) : Prop where
  mb : V.heap[w.heap.size]? = some (.cells #[.int .i64 y] 3 (0, 0))
  rb : V.heap[w.heap.size + 1]? = some (.cells #[.bool false] 4 (0, 0))
  low : Below w.heap.size w V
theorem Bx2.size {w : World} {y : Int} {V : World} (h : Bx2 w y V) : w.heap.size + 2 ≤ V.heap.size := by have := lt_of_block h.rb; omega
theorem Bx2.below {w : World} {y : Int} {V V' : World} {T : Nat} (h : Bx2 w y V) (hb : Below T V V') (hT : w.heap.size + 2 ≤ T) : Bx2 w y V' :=
  ⟨(hb.block _ (by omega)).trans h.mb, (hb.block _ (by omega)).trans h.rb, h.low.trans (hb.mono (by omega))⟩
theorem Bx2.set {w : World} {y : Int} {V : World} (h : Bx2 w y V) (z : Int) : Bx2 w z (V.setCell ⟨w.heap.size, 0, none⟩ (.int .i64 z)) :=
  ⟨one_set h.mb _, one_other h.rb (by omega) _, h.low.setCell (by show w.heap.size ≤ w.heap.size; omega) _⟩
/-- The cells of a list of rows. -/
theorem owns_all {w : World} {base M : Nat} {p : Option Addr} {c : Nat} {q : Option Addr} {cap : Nat} {P : Nat → Nat} (h : w.ownsRow base 22 1 (.slice p M c) M (rowsL q cap P M)) : ∀ i, i < M → ∃ L, p = some ⟨L, 0, none⟩ ∧ L < w.heap.size ∧ w.cell? ⟨L, i, none⟩ = some (rowV q cap (P i + 2) (P (i + 1))) := fun i hi => by
  obtain ⟨hl, ⟨_, h2⟩ | ⟨gb, c', cur, e, _, hh, _, _, hcs, ht⟩⟩ := h
  · omega
  · simp only [Value.slice.injEq] at e
    refine ⟨gb, e.1, lt_of_block hh, ?_⟩
    rw [cell_of_row w gb i cur _ (0, 0) hh]
    have : (cur.toList.take (M * 1))[i]? = (rowsL q cap P M)[i]? := by rw [ht]
    rw [List.getElem?_take_of_lt (by omega)] at this
    unfold rowsL at this
    simpa [hi] using this
/-- All that the loop reads and writes. -/
structure St (w : World) (mo : Int) (Bx D n : Nat) (g : Nat → Nat) (p8 : Option Addr) (M c8 : Nat) (q : Option Addr) (cap : Nat) (P : Nat → Nat) (T : Nat) (k a : Int) (V : World) : Prop where
  b2 : Bx2 w mo V
  x : RwR Bx D n g V
  lb : V.heap[T]? = some (.cells #[.slice p8 M c8] 33 (0, 0))
  nb : V.heap[T + 1]? = some (.cells #[.int .i64 k] 3 (0, 0))
  ab : V.heap[T + 2]? = some (.cells #[.int .i64 a] 3 (0, 0))
  ls : ∀ i, i < M → ∃ L, p8 = some ⟨L, 0, none⟩ ∧ L < T ∧ V.cell? ⟨L, i, none⟩ = some (rowV q cap (P i + 2) (P (i + 1)))
  far : w.heap.size + 2 ≤ T ∧ Bx < T ∧ D < T
section
variable {w : World} {mo : Int} {Bx D n : Nat} {g : Nat → Nat} {p8 : Option Addr} {M c8 : Nat} {q : Option Addr} {cap : Nat} {P : Nat → Nat} {T : Nat} {k a : Int} {V V' : World}
theorem St.below (h : St w mo Bx D n g p8 M c8 q cap P T k a V) (hb : Below (T + 3) V V') : St w mo Bx D n g p8 M c8 q cap P T k a V' := by
  obtain ⟨f1, f2, f3⟩ := h.far
  refine ⟨h.b2.below hb (by omega), ⟨(hb.block _ (by omega)).trans h.x.box, h.x.row.below hb (by omega)⟩, (hb.block _ (by omega)).trans h.lb, (hb.block _ (by omega)).trans h.nb, (hb.block _ (by omega)).trans h.ab, fun i hi => ?_, h.far⟩
  obtain ⟨L, h1, h2, h3⟩ := h.ls i hi
  exact ⟨L, h1, h2, (hb.cell (p := ⟨L, i, none⟩) (by show L < T + 3; omega)).trans h3⟩
theorem St.setN (h : St w mo Bx D n g p8 M c8 q cap P T k a V) (z : Int) : St w mo Bx D n g p8 M c8 q cap P T z a (V.setCell ⟨T + 1, 0, none⟩ (.int .i64 z)) := by
  obtain ⟨f1, f2, f3⟩ := h.far
  have hb : Below (T + 1) V (V.setCell ⟨T + 1, 0, none⟩ (.int .i64 z)) := (Below.refl _ _).setCell (p := ⟨T + 1, 0, none⟩) (Nat.le_refl _) _
  refine ⟨h.b2.below hb (by omega), ⟨(hb.block _ (by omega)).trans h.x.box, h.x.row.below hb (by omega)⟩, (hb.block _ (by omega)).trans h.lb, one_set h.nb _, one_other h.ab (by omega) _, fun i hi => ?_, h.far⟩
  obtain ⟨L, h1, h2, h3⟩ := h.ls i hi
  exact ⟨L, h1, h2, (hb.cell (p := ⟨L, i, none⟩) (by show L < T + 1; omega)).trans h3⟩
theorem St.setA (h : St w mo Bx D n g p8 M c8 q cap P T k a V) (z : Int) : St w mo Bx D n g p8 M c8 q cap P T k z (V.setCell ⟨T + 2, 0, none⟩ (.int .i64 z)) := by
  obtain ⟨f1, f2, f3⟩ := h.far
  have hb : Below (T + 2) V (V.setCell ⟨T + 2, 0, none⟩ (.int .i64 z)) := (Below.refl _ _).setCell (p := ⟨T + 2, 0, none⟩) (Nat.le_refl _) _
  refine ⟨h.b2.below hb (by omega), ⟨(hb.block _ (by omega)).trans h.x.box, h.x.row.below hb (by omega)⟩, (hb.block _ (by omega)).trans h.lb, (hb.block _ (by omega)).trans h.nb, one_set h.ab _, fun i hi => ?_, h.far⟩
  obtain ⟨L, h1, h2, h3⟩ := h.ls i hi
  exact ⟨L, h1, h2, (hb.cell (p := ⟨L, i, none⟩) (by show L < T + 2; omega)).trans h3⟩
theorem St.size (h : St w mo Bx D n g p8 M c8 q cap P T k a V) : T + 3 ≤ V.heap.size := by have := lt_of_block h.ab; omega
theorem St.start {w8 : World} (hb : Bx2 w mo w8) (hx : RwR Bx D n g w8) {base : Nat} (hr : w8.ownsRow base 22 1 (.slice p8 M c8) M (rowsL q cap P M)) :
    St w mo Bx D n g p8 M c8 q cap P w8.heap.size 0 0 (((w8.alloc (.cells #[.slice p8 M c8] 33)).alloc (.cells #[.int .i64 0] 3)).alloc (.cells #[.int .i64 0] 3)) := by
  have b3 := below_three w8 (.cells #[.slice p8 M c8] 33) (.cells #[.int .i64 0] 3) (.cells #[.int .i64 0] 3)
  refine ⟨hb.below b3 hb.size, hx.below b3, heap_keep (heap_keep (heap_alloc_new w8 _) _) _, ?_, ?_, fun i hi => ?_, hb.size, lt_of_block hx.box, hx.row.lt⟩
  · have h := heap_alloc_new (w8.alloc (.cells #[.slice p8 M c8] 33)) (.cells #[.int .i64 0] 3)
    rw [World.size_alloc] at h
    exact heap_keep h _
  · have h := heap_alloc_new ((w8.alloc (.cells #[.slice p8 M c8] 33)).alloc (.cells #[.int .i64 0] 3)) (.cells #[.int .i64 0] 3)
    rw [World.size_alloc, World.size_alloc] at h
    exact h
  · obtain ⟨L, h1, h2, h3⟩ := owns_all hr i hi
    exact ⟨L, h1, h2, (b3.cell (p := ⟨L, i, none⟩) h2).trans h3⟩
end
theorem rowV_is {n : Nat} {g : Nat → Nat} {M : Nat} {P : Nat → Nat} (RO : RowsOf n g M P) (q : Option Addr) (cap : Nat) (hcap : n ≤ cap) {i : Nat} (hi : i < M) : ∃ pv cv, rowV q cap (P i + 2) (P (i + 1)) = .slice pv (lenP P i) cv ∧ Behind q n (P i + 2) (lenP P i) pv := by
  have h1 := RO.next i hi
  have h2 := RO.room i hi
  refine ⟨_, _, rfl, behind_of q n cap (P i + 2) (lenP P i) (by unfold lenP; omega) hcap⟩
attribute [local irreducible] rowV rowsL lenAt markF
set_option maxRecDepth 100000 in
set_option maxHeartbeats 4000000 in
theorem walk (q : Option Addr) (n cap : Nat) (g : Nat → Nat) (y : Int) (hg : ∀ i, i < n → g i < 256) (hcap : n ≤ cap) (hn : n ≤ 140737488351232) (hy : (Lit.int .i64 y).wf = true) (w : World) (hq : BytesAt w q n g) :
    Calls Try.prog 7 #[.slice q n cap, .int .i64 y] w fun e w' => e = .returned (.bool true) ∧ Below w.heap.size w w' := by
  by_cases hl : 16384 < n
  · have d1 : decide ((16384 : Int) < (n : Int)) = true := by simp; omega
    have d2 : decide (16384 < n) = true := by simp; omega
    clear hg hcap hn hq hl hy
    go_enter Try.func7, Try.ntmps7
    go_wp2
    have hb : Below w.heap.size w ((w.alloc (.cells #[.int .i64 y] 3)).alloc (.cells #[.bool true] 4)) := below_two w _ _
    have h := heap_alloc_new (w.alloc (.cells #[.int .i64 y] 3)) (.cells #[.bool true] 4)
    rw [World.size_alloc] at h
    have hc := cell_of_one h
    refine bodyPost_ret (v := .bool true) ?_ rfl ⟨rfl, hb⟩
    simp [results, Try.f7, go_sem, hc]
  · have d1 : decide ((16384 : Int) < (n : Int)) = false := by simp; omega
    have d2 : decide (16384 < n) = false := by simp; omega
    obtain ⟨M, P, RO⟩ := rows_are n g
    obtain ⟨u, hu⟩ : ∃ u : Nat, IntKind.u64.wrap y = (u : Int) := by
      rw [IntKind.wrap_u64]; exact ⟨(y % 18446744073709551616).toNat, by omega⟩
    obtain ⟨mo, hmo, hmo1, hmo0⟩ : ∃ mo : Nat, mo = 1 + u % 50 ∧ mo ≤ 50 ∧ 1 ≤ mo := ⟨_, rfl, by omega, by omega⟩
    have q1 : IntKind.i64.wrap ((u : Int) % 50) = (u : Int) % 50 := IntWalk.i64_in _ (by omega)
    have q2 : IntKind.i64.wrap (1 + (u : Int) % 50) = 1 + (u : Int) % 50 := IntWalk.i64_in _ (by omega)
    have MO := Lib.hid (show 1 + (u : Int) % 50 = (mo : Int) by omega)
    clear hmo hy
    have W5 := Lib.hid (fun W => five_any W)
    have W3 := Lib.hid (fun W => three_any W)
    have CC := Lib.hid (fun (W : World) (hW : BytesAt W q n g) => Copy_row q n cap g hn W hW)
    have RC := Lib.hid (fun (C : Nat) (W : World) (hW : BytesAt W (some ⟨C, 0, none⟩) n g) => Rows_any (some ⟨C, 0, none⟩) n (n + 2) g hn W hW)
    have WC := Lib.hid (fun (C : Nat) (W : World) (hW : BytesAt W (some ⟨C, 0, none⟩) n g) => Whole_any (some ⟨C, 0, none⟩) n (n + 2) g hg (by omega) hn M P RO W hW)
    have OC := Lib.hid (fun (C : Nat) (W : World) hW => Over_any C n (n + 2) (n + 2) (markF n g) (fun j hj => by
      unfold markF; split
      · exact hg j (by assumption)
      · split <;> omega) (by omega) (by omega) W hW)
    have LR := Lib.hid (fun (W : World) (hW : BytesAt W q n g) => refRows_any q n cap g hg hcap (by omega) M P RO W hW)
    have HQ := Lib.hid (fun (W : World) (hb : Below w.heap.size w W) => hq.below hb)
    have GV := Lib.hid (fun m Bx D => rows_gives m Bx D n g hg hn M P RO)
    have b0 := below_two w (.cells #[.int .i64 y] 3) (.cells #[.bool false] 4)
    have B0 := Lib.hid (show Bx2 w y ((w.alloc (.cells #[.int .i64 y] 3)).alloc (.cells #[.bool false] 4)) from ⟨heap_keep (heap_alloc_new w _) _, by
      have h := heap_alloc_new (w.alloc (.cells #[.int .i64 y] 3)) (.cells #[.bool false] 4)
      rw [World.size_alloc] at h
      exact h, b0⟩)
    have S0 := Lib.hid (show ((w.alloc (.cells #[.int .i64 y] 3)).alloc (.cells #[.bool false] 4)).heap.size = w.heap.size + 2 by simp)
    have HRO := Lib.hid RO
    have GB := Lib.hid (show ∀ i, i < M → ∀ j, j < lenP P i → g (P i + 2 + j) < 256 from fun i hi j hj => hg _ (by have := RO.next i hi; have := RO.le (i + 1) hi; unfold lenP at hj; omega))
    have LB := Lib.hid (show ∀ i, i < M → lenP P i ≤ 140737488355328 from fun i hi => by have := RO.le (i + 1) hi; unfold lenP; omega)
    have HCAP := Lib.hid hcap
    have HN := Lib.hid (show n ≤ 16384 by omega)
    clear hg hcap hn hq hl b0 RO
    refine (callsIn_wide (n := 3)).1 ?_
    refine callsIn_of_wp_marks Try.func7 rfl trivial ?_ rfl
    simp only [Try.ntmps7, List.size_toArray, List.length_cons, List.length_nil, Nat.reduceAdd, Nat.reduceSub, Array.replicate_succ, Array.replicate_zero, List.push_toArray, List.append_toArray, List.nil_append, List.cons_append]
    refine wpIn_wide.2 ?_
    go_wp2_with (first
      | (go_at_call 24
         generalize (w.alloc (.cells #[.int .i64 y] 3)).alloc (.cells #[.bool false] 4) = w0 at *
         rw [← S0.out]
         change Calls _ _ _ (w0.alloc (.cells #[.int .u8 0, .int .u8 1, .int .u8 7, .int .u8 0, .int .u8 0] 5)) _
         refine (W5.out w0).mono ?_
         rintro e w1 ⟨rfl, hb1⟩
         have B1 := Lib.hid (B0.out.below hb1 B0.out.size)
         clear W5 hb1 B0)
      | (go_at_call 24
         change Calls _ _ _ (w1.alloc (.cells #[.int .u8 0, .int .u8 2, .int .u8 7] 5)) _
         refine (W3.out w1).mono ?_
         rintro e w2 ⟨rfl, hb2⟩
         have b2 := B1.out.below hb2 B1.out.size
         have c2 := cell_of_one b2.mb
         have f2 := free_of_one b2.mb
         have B2 := Lib.hid b2
         clear W3 hb2 B1 b2)
      | (go_at_call 12
         have b3 := B2.out.set (1 + (u : Int) % 50)
         change Calls _ _ _ (w2.setCell ⟨w.heap.size, 0, none⟩ (.int .i64 (1 + (u : Int) % 50))) _
         generalize w2.setCell ⟨w.heap.size, 0, none⟩ (.int .i64 (1 + (u : Int) % 50)) = w3 at *
         rw [MO.out] at b3
         refine (CC.out _ (HQ.out _ b3.low)).mono ?_
         rintro e w4 ⟨rfl, hr4, hb4⟩
         have B4 := Lib.hid (b3.below hb4 b3.size)
         have R4 := Lib.hid hr4
         have N4 := Lib.hid b3.size
         clear CC hr4 hb4 b3 B2 c2 f2)
      | (go_at_call 25
         refine (RC.out w3.heap.size w4 (R4.out.bytesAt.low rfl)).mono ?_
         rintro e w5 ⟨Bx, rfl, hr5, hb5⟩
         have B5 := Lib.hid (B4.out.below hb5 B4.out.size)
         have R5 := Lib.hid (R4.out.below hb5 R4.out.lt)
         have X5 := Lib.hid hr5
         have L5 := Lib.hid (show w3.heap.size < w4.heap.size from R4.out.lt)
         clear RC hr5 hb5 B4 R4)
      | (go_at_call 24
         refine (WC.out w3.heap.size w5 (R5.out.bytesAt.low rfl)).mono ?_
         rintro e w6 ⟨rfl, hb6⟩
         have B6 := Lib.hid (B5.out.below hb6 B5.out.size)
         have R6 := Lib.hid (R5.out.below hb6 R5.out.lt)
         have X6 := Lib.hid (X5.out.below hb6)
         clear WC hb6 B5 R5 X5)
      | (go_at_call 26
         refine (OC.out w3.heap.size w6 R6.out).mono ?_
         rintro e w7 ⟨⟨v7, rfl⟩, hb7⟩
         have B7 := Lib.hid (B6.out.below (hb7.below N4.out B6.out.size) (Nat.le_refl _))
         have X7 := Lib.hid (show RwR Bx w4.heap.size n g w7 from ⟨(hb7.same Bx (lt_of_block X6.out.box) (fun h => by have h1 := X6.out.box; have h2 := R6.out; rw [h] at h1; unfold IntBlk at h2; rw [h1] at h2; simp at h2)).trans X6.out.box, hb7.blk X6.out.row (Nat.ne_of_gt L5.out)⟩)
         clear OC hb7 B6 R6 X6)
      | (go_at_call 23
         refine (LR.out w7 (HQ.out _ B7.out.low)).mono ?_
         rintro e w8 ⟨v8, rfl, hr8, hb8⟩
         obtain ⟨p8, c8, hv8⟩ := owns_slice hr8
         subst hv8
         have B8 := Lib.hid (B7.out.below hb8 B7.out.size)
         have X8 := Lib.hid (X7.out.below hb8)
         have R8 := Lib.hid hr8
         clear LR hr8 hb8 B7 X7))
    have s9 : (((w8.alloc (.cells #[.slice p8 M c8] 33)).alloc (.cells #[.int .i64 0] 3)).alloc (.cells #[.int .i64 0] 3)).heap.size = w8.heap.size + 3 := by simp
    have i9 := St.start (q := q) (cap := cap) (P := P) B8.out X8.out R8.out
    generalize ((w8.alloc (.cells #[.slice p8 M c8] 33)).alloc (.cells #[.int .i64 0] 3)).alloc (.cells #[.int .i64 0] 3) = w9 at *
    have I9 := Lib.hid (show St w mo Bx w4.heap.size n g p8 M c8 q cap P w8.heap.size ((0 : Nat) : Int) (P 0 : Nat) w9 by rw [HRO.out.zero]; exact i9)
    clear i9 B8 X8 R8 S0 hu q1 q2 MO
    generalize w8.heap.size = T at *
    generalize w4.heap.size = D at *
    clear L5 N4
    refine (wpIn_wide (n := 3)).1 ?_
    refine range_givesX_brk rfl (by omega) (gf := 35) (lb := #[.pointer (some ⟨Bx, 0, none⟩)]) rfl trivial (enters_of Try.func35 (by kernel_rfl) rfl)
      (rwE P) rwOwn (rwEnc P g) M (RwR Bx D n g) (fun _ => rfl)
      (fun i V => (i < mo ∧ i ≤ M) ∧ St w mo Bx D n g p8 M c8 q cap P T (i : Nat) (P i : Nat) V) (fun V => mo ≤ M ∧ St w mo Bx D n g p8 M c8 q cap P T (mo : Nat) (P mo : Nat) V) ?rd ?st ?stx ?ow ⟨⟨hmo0, Nat.zero_le _⟩, I9.out⟩ (GV.out _ Bx D) ?round ?done
    case rd => exact fun i V h => h.2.x
    case st => exact fun i V V' h hb => ⟨h.1, h.2.below (by rw [s9] at hb; exact hb)⟩
    case stx => exact fun V V' h hb => ⟨h.1, h.2.below (by rw [s9] at hb; exact hb)⟩
    case ow =>
      rintro i V ⟨xi, D'⟩ ⟨_, h, _⟩ k hk
      have : k = D' := hk
      omega
    case round =>
      rintro l i ⟨xi, D'⟩ U hl hi hus ⟨⟨hlt, _⟩, hI⟩ ⟨hx1, hx2, hx3⟩
      have hxi : xi = i := hx1
      subst hxi
      rw [s9] at hus hl hx2
      have HI := Lib.hid hI; have HX3 := Lib.hid hx3
      have hD' : T + 5 ≤ D' := hx2
      clear hI hx3 hx1 hx2 I9
      unfold rwE
      gi_wp2
      refine ⟨Aft.refl _ _, fun V hVs hVk hVb => ?_⟩
      try rw [s9] at hVb
      try rw [s9] at hVk
      have qv := HI.out.below hVb
      have RV := Lib.hid (show IntBlk V D' .u8 5 (mk (lenP P xi) (fun j => g (P xi + 2 + j))) from (hVk D' (by omega)).trans HX3.out)
      have c1 := cell_of_one qv.nb
      have c2 := cell_of_one qv.ab
      have c3 := cell_of_one qv.lb
      have f2 := free_of_one qv.ab
      obtain ⟨Lq, hLq, hLT, c4⟩ := qv.ls xi hi
      obtain ⟨pv, cv, hrv, hbv⟩ := rowV_is HRO.out q cap HCAP.out hi
      rw [hrv] at c4
      subst hLq
      have PV := Lib.hid (hbv V g (HQ.out V qv.b2.low))
      have QV := Lib.hid qv
      have e1 : (xi : Int) < (M : Int) := by omega
      have d1 : decide ((M : Int) ≤ (xi : Int)) = false := by simp; omega
      have d2 : decide (M ≤ xi) = false := by simp; omega
      clear qv hVs hVk hVb HI HX3 hrv hbv
      refine wpIn_block ?_
      refine wpIn_seq_k (fun K hK => ?_)
      refine wpIn_seq_k (fun K2 hK2 => ?_)
      refine region_round rfl (by rintro ⟨_, _, h⟩; exact h) ?_
      go_wp2_with (first
        | (go_at_call 11; refine (Same_true (some ⟨D', 0, none⟩) (lenP P xi) (lenP P xi) pv cv _ _ (fun _ _ => rfl) V RV.out.bytesAt PV.out).mono ?_; rintro e w11 ⟨rfl, rfl⟩; clear PV))
      have hR := HRO.out
      have hP2 := hR.next xi hi
      have hPn := hR.le (xi + 1) hi
      have hrm := hR.room xi hi
      have q3 : IntKind.i64.wrap (2 + (lenP P xi : Nat)) = 2 + (lenP P xi : Nat) := IntWalk.i64_in _ (by unfold lenP; have := HN.out; omega)
      have q4 : IntKind.i64.wrap ((P xi : Nat) + (2 + (lenP P xi : Nat)) : Int) = ((P (xi + 1) : Nat) : Int) := by
        have := HN.out
        rw [IntWalk.i64_in _ (by unfold lenP; omega)]; unfold lenP; omega
      clear hR hP2 hPn hrm
      gi_wp2
      have v1 : St w mo Bx D n g (some ⟨Lq, 0, none⟩) M c8 q cap P T (xi : Nat) (P (xi + 1) : Nat) (V.setCell ⟨T + 1 + 1, 0, none⟩ (.int .i64 (P (xi + 1) : Nat))) := QV.out.setA _
      have a1 : AftX (rwOwn (xi, D')) (T + 3) V (V.setCell ⟨T + 1 + 1, 0, none⟩ (.int .i64 (P (xi + 1) : Nat))) := .of (Aft.setCell (Aft.refl _ _) (by show T + 1 + 1 < T + 3; omega) _)
      have r1 : IntBlk (V.setCell ⟨T + 1 + 1, 0, none⟩ (.int .i64 (P (xi + 1) : Nat))) D' .u8 5 (mk (lenP P xi) (fun j => g (P xi + 2 + j))) := RV.out.other (by show T + 1 + 1 ≠ D'; omega) _
      generalize V.setCell ⟨T + 1 + 1, 0, none⟩ (.int .i64 (P (xi + 1) : Nat)) = V1 at *
      refine ⟨trivial, (CallsIn.inRound _ (callsIn_wide.2 (Over_any D' (lenP P xi) (lenP P xi) (lenP P xi) (fun j => g (P xi + 2 + j)) (GB.out xi hi) (Nat.le_refl _) (LB.out xi hi) V1 r1))).mono ?_⟩
      rintro e V2 ⟨⟨v2, rfl⟩, hb2⟩
      have v2' := v1.below (hb2.below (show T + 3 ≤ D' by omega) v1.size)
      have a2 : AftX (rwOwn (xi, D')) (T + 3) V V2 := a1.trans ⟨hb2.size, fun k _ hkV ho => hb2.same k hkV ho⟩
      have c6 := cell_of_one v2'.nb
      have f6 := free_of_one v2'.nb
      have qn := v2'.setN ((xi : Int) + 1)
      have a3 : AftX (rwOwn (xi, D')) (T + 3) V (V2.setCell ⟨T + 1, 0, none⟩ (.int .i64 ((xi : Int) + 1))) := a2.trans (.of (Aft.setCell (Aft.refl _ _) (by show T + 1 < T + 3; omega) _))
      have c7 := cell_of_one qn.nb
      have c8' := cell_of_one qn.b2.mb
      have q5 : IntKind.i64.wrap ((xi : Int) + 1) = (xi : Int) + 1 := IntWalk.i64_in _ (by omega)
      have QN := Lib.hid qn; have A3 := Lib.hid a3
      clear v1 a1 r1 hb2 v2' a2 qn a3 QV RV c1 c2 c3 c4 f2 q3 q4 e1 d1 d2
      gi_wp2
      · have hcd : ((xi : Int) + 1 == (mo : Int)) = true := by assumption
        have hqN : xi + 1 = mo := by simp at hcd; omega
        refine ⟨A3.out, rfl, by omega, ?_⟩
        have := QN.out
        rw [hqN, show (xi : Int) + 1 = ((mo : Nat) : Int) by omega] at this
        rw [show (xi : Int) + 1 = ((mo : Nat) : Int) by omega]
        exact this
      · have hcd : ((xi : Int) + 1 == (mo : Int)) = false := by assumption
        have hqN : xi + 1 ≠ mo := fun h => by
          have hcd2 : ((xi : Int) + 1 == (mo : Int)) = true := by simp; omega
          rw [hcd] at hcd2; cases hcd2
        exact ⟨A3.out, ⟨by omega, by omega⟩, QN.out⟩
    case done =>
      intro D2 U hD hend hd
      obtain ⟨k, hk, hI⟩ : ∃ k : Nat, (k : Int) = min (mo : Int) (M : Int) ∧ St w mo Bx D n g p8 M c8 q cap P T (k : Nat) (P k : Nat) U := by
        rcases hend with ⟨⟨hlt, _⟩, hI⟩ | ⟨hle, hI⟩
        · exact ⟨M, by omega, hI⟩
        · exact ⟨mo, by omega, hI⟩
      rw [s9] at hD
      have c1 := cell_of_one hI.nb
      have c2 := cell_of_one hI.b2.mb
      have c3 := cell_of_one hI.lb
      have c4 := cell_of_one hI.b2.rb
      have f4 := free_of_one hI.b2.rb
      have HI := Lib.hid hI; have HD := Lib.hid hd
      have z1 : ((k : Int) == min (mo : Int) (M : Int)) = true := by rw [hk]; simp
      have HFT := Lib.hid hI.far.1
      clear hend hI hd I9 s9
      go_wp2
      have hft := HFT.out
      have hfin : Below w.heap.size w (U.setCell ⟨w.heap.size + 1, 0, none⟩ (.bool true)) := HI.out.b2.low.setCell (by show w.heap.size ≤ w.heap.size + 1; omega) _
      have hr : (U.setCell ⟨w.heap.size + 1, 0, none⟩ (.bool true)).heap[w.heap.size + 1]? = some (.cells #[.bool true] 4 (0, 0)) := one_set HI.out.b2.rb _
      have hd2 : (U.setCell ⟨w.heap.size + 1, 0, none⟩ (.bool true)).heap[D2]? = some (.deferred (some [])) := one_other HD.out (by omega) _
      refine ⟨by simp, .inl ⟨_, _, rfl, run_takeDeferred hd2, ?_⟩⟩
      have hc := cell_of_one (cells_turn (o' := .deferred none) hr hd2 rfl)
      refine ⟨.bool true, ?_, rfl, below_turn _ hfin (by omega)⟩
      simp [results, Try.f7, go_sem, hc]

theorem laidOut : laidOutB Try.prog = true := by kernel_rfl
set_option maxRecDepth 100000 in
theorem lifted (os : Os) (started : os.Started) (H : Type) (enc : TypeId × Value → H) :
    ReturnsInHanded {} Try.checked os 7 .any (Rows.wordsRowsSpec.pre6 enc Try.prog Try.f7 Rows.wordsRowsRow.domain false) (Rows.wordsRowsSpec.post enc Try.prog Try.f7 false true false false) := by
  refine returnsInHanded_of_change_sized (C := Try.checked) own started (by kernel_rfl) Try.func7
    (ChangeSpec.witness6 (enc := enc) (C := Try.checked) false ⟨#[], #[.slice none 0 0, .int .i64 0], []⟩ 8 (by kernel_rfl) (by kernel_rfl) (by kernel_rfl) (by kernel_rfl)) ?_
  intro W base args ds gs before hval0 hW hcnd hsz _
  have hval : ∀ (j : Nat) t v, Try.f7.params[j]? = some t → args[j]? = some v → Value.okWide Try.prog W .any base t v := hval0
  have hW' := hW
  obtain ⟨p, q, hA0, hV, rfl, hfz, hnd⟩ := hW
  have hA : DataW.TrodAll enc Try.prog W 0 (fun _ => true) true Try.f7.params.toList args.toList ds p := hA0
  rw [Try.params7] at hA hval
  obtain ⟨v0, vs0, d0, ds0, p0, q0, hargs, rfl, rfl, h0, r0⟩ := trodAll_cons hA
  obtain ⟨v1, vs1, d1, ds1, p1, q1, rfl, rfl, rfl, h1, r1⟩ := trodAll_cons r0
  obtain ⟨rfl, rfl, rfl⟩ := trodAll_nil r1
  obtain rfl : args = #[v0, v1] := by cases args; simp_all
  obtain ⟨rfl, rfl⟩ := trodVars_none hV
  have k0 := h0
  have lt0 : ∀ x ∈ p0, x.block < W.heap.size := by obtain ⟨m, hm⟩ := k0; exact DataW.trod_lt m _ _ _ hm
  obtain ⟨q0, n0, c0, a0, rfl, w0, y0, l0, m0⟩ := open_byteslice (hval 0 22 v0 rfl rfl) h0
  obtain ⟨a1, rfl, rfl, rfl, w1⟩ := open_int Try.underlying3 (hval 1 3 v1 rfl rfl) h1
  have z0 := open_size k0 hsz (j := 0) (by rw [Try.params7]; rfl) rfl
  clear hA0 hval0
  refine (walk q0 n0 c0 a0 a1 w0 l0 z0 w1 W y0).mono fun e W' ⟨he, bel⟩ => ?_
  subst he
  exact ⟨_, rfl, _, _, _, [], _, [], hW', trodAll_mk1 (shut_bool Try.underlying4 _), (trodAll_cons_mk (Below.trod laidOut (by kernel_rfl) (of_decide_eq_true (by kernel_rfl)) k0 bel lt0) (trodAll_cons_mk (shut_int Try.underlying3 w1) trodAll_mk0)), rfl, bel.frame _, fun h => by cases h⟩

theorem over : Rows.wordsRowsRow.holds Try.pinned (OpenSpec.ofChange Rows.wordsRowsSpec) :=
  OpenClaim.holds_of_wide 7 Try.f7 rfl rfl rfl rfl rfl rfl rfl ⟨rfl, rfl, rfl, rfl, rfl⟩ rfl rfl rfl rfl rfl (by kernel_rfl) Try.func7 (by kernel_rfl)
    (of_decide_eq_true (by kernel_rfl)) (by unfold Func.isWrapper; first | (rw [if_pos (by decide +kernel)]; kernel_rfl) | (rw [if_neg (by decide +kernel)]; exact ⟨rfl, rfl⟩))
    (fun os started H enc _ => lifted os started H enc)

theorem proved : Rows.WordsRowsSaid := over
end Go.Proofs.Ytfnoiijodcmaeaa.wordsRows
