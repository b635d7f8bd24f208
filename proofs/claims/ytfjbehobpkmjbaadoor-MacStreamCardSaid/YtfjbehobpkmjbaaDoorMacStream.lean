/- Which blocks a stream of keys has: the statement MacStream, tied to the program's text. No condition. -/
import Derived.Test.YtfjbehobpkmjbaaDoorOverC
import Derived.Test.YtfjbehobpkmjbaaDoorOpenD
namespace Go.Proofs.YtfjbehobpkmjbaaDoor.macStream
open Go.ChangeShapes Go.WideShapes Go.ChangeAt Go.RowKit Go.Shelf
attribute [local go_sem] Oper.semAt_some
set_option linter.unusedVariables false

theorem own : ownKnob Tryd.prog.godebug = none := by kernel_rfl

/-- The boxes of the arguments and of the answer. -/
def BoxS (w : World) (B0 : Nat) (p : Option Addr) (n cap : Nat) (s : ByteArray) (z : Int) (W : World) : Prop :=
  W.cell? ⟨B0, 0, none⟩ = some (.slice p n cap) ∧ W.cell? ⟨B0 + 1, 0, none⟩ = some (.string s) ∧ W.heap[B0 + 1 + 1]? = some (.cells #[.int .i64 z] 3 (0, 0)) ∧ W.heap[B0 + 1 + 1 + 1]? = some (.cells #[.bool false] 4 (0, 0)) ∧ Below w.heap.size w W
theorem BoxS.below {w W W' : World} {B0 T : Nat} {p : Option Addr} {n cap : Nat} {s : ByteArray} {z : Int} (h : BoxS w B0 p n cap s z W) (hb : Below T W W') (hT : B0 + 3 < T) (hw : w.heap.size ≤ T) : BoxS w B0 p n cap s z W' :=
  ⟨(hb.cell (p := ⟨B0, 0, none⟩) (by show B0 < T; omega)).trans h.1, (hb.cell (p := ⟨B0 + 1, 0, none⟩) (by show B0 + 1 < T; omega)).trans h.2.1, (hb.block _ (by omega)).trans h.2.2.1, (hb.block _ (by omega)).trans h.2.2.2.1, h.2.2.2.2.trans (hb.mono hw)⟩
theorem BoxS.store {w W : World} {B0 : Nat} {p : Option Addr} {n cap : Nat} {s : ByteArray} {z : Int} (h : BoxS w B0 p n cap s z W) (y : Int) (hw : w.heap.size ≤ B0) : BoxS w B0 p n cap s y (W.setCell ⟨B0 + 1 + 1, 0, none⟩ (.int .i64 y)) :=
  ⟨(cell_ext (Below.heap_setCell _ _ _ B0 (by show B0 ≠ B0 + 1 + 1; omega))).trans h.1, (cell_ext (Below.heap_setCell _ _ _ (B0 + 1) (by show B0 + 1 ≠ B0 + 1 + 1; omega))).trans h.2.1, one_setCell h.2.2.1, (Below.heap_setCell _ _ _ (B0 + 1 + 1 + 1) (by show B0 + 1 + 1 + 1 ≠ B0 + 1 + 1; omega)).trans h.2.2.2.1, h.2.2.2.2.setCell (by show w.heap.size ≤ B0 + 1 + 1; omega) _⟩
theorem box_four (w : World) (p : Option Addr) (n cap : Nat) (s : ByteArray) (z : Int) : BoxS w w.heap.size p n cap s z ((((w.alloc (.cells #[.slice p n cap] 22)).alloc (.cells #[.string s] 9)).alloc (.cells #[.int .i64 z] 3)).alloc (.cells #[.bool false] 4)) := by
  have e1 : (w.alloc (.cells #[.slice p n cap] 22)).heap.size = w.heap.size + 1 := by simp
  have e2 : ((w.alloc (.cells #[.slice p n cap] 22)).alloc (.cells #[.string s] 9)).heap.size = w.heap.size + 1 + 1 := by simp
  have e3 : (((w.alloc (.cells #[.slice p n cap] 22)).alloc (.cells #[.string s] 9)).alloc (.cells #[.int .i64 z] 3)).heap.size = w.heap.size + 1 + 1 + 1 := by simp
  have h0 := heap_alloc_new w (.cells #[.slice p n cap] 22)
  have h1 := heap_alloc_new (w.alloc (.cells #[.slice p n cap] 22)) (.cells #[.string s] 9)
  have h2 := heap_alloc_new ((w.alloc (.cells #[.slice p n cap] 22)).alloc (.cells #[.string s] 9)) (.cells #[.int .i64 z] 3)
  have h3 := heap_alloc_new (((w.alloc (.cells #[.slice p n cap] 22)).alloc (.cells #[.string s] 9)).alloc (.cells #[.int .i64 z] 3)) (.cells #[.bool false] 4)
  rw [e1] at h1; rw [e2] at h2; rw [e3] at h3
  refine ⟨cell_of_one (t := 22) ?_, cell_of_one (t := 9) ?_, ?_, h3, below_four w _ _ _ _⟩
  · rw [Below.heap_alloc _ _ _ (by rw [e3]; omega), Below.heap_alloc _ _ _ (by rw [e2]; omega), Below.heap_alloc _ _ _ (by rw [e1]; omega)]; exact h0
  · rw [Below.heap_alloc _ _ _ (by rw [e3]; omega), Below.heap_alloc _ _ _ (by rw [e2]; omega)]; exact h1
  · rw [Below.heap_alloc _ _ _ (by rw [e3]; omega)]; exact h2
/-- Between two blocks. -/
def StI (w : World) (p : Option Addr) (n cap : Nat) (s : ByteArray) (N KB LB M : Nat) (K : Nat → Nat) (i : Nat) (V : World) : Prop :=
  BoxS w w.heap.size p n cap s N V ∧ V.heap[KB]? = some (.cells #[.int .i64 i] 3 (0, 0)) ∧ StrmR LB M s K V
theorem StI.below {w V V' : World} {T : Nat} {p : Option Addr} {n cap : Nat} {s : ByteArray} {N KB LB M i : Nat} {K : Nat → Nat} (h : StI w p n cap s N KB LB M K i V) (hb : Below T V V') (h1 : w.heap.size + 3 < T) (h2 : KB < T) (h3 : LB < T) (h4 : M < T) (hT : TabAt w) : StI w p n cap s N KB LB M K i V' := by
  have c := h.1.below hb h1 (by omega)
  exact ⟨c, (hb.block _ h2).trans h.2.1, (hb.cell (p := ⟨LB, 0, none⟩) h3).trans h.2.2.1, h.2.2.2.1.below hb h4, hT.on c.2.2.2.2⟩
theorem StI.step {w V : World} {p : Option Addr} {n cap : Nat} {s : ByteArray} {N KB LB M i : Nat} {K : Nat → Nat} (h : StI w p n cap s N KB LB M K i V) (h1 : w.heap.size + 3 < KB) (h2 : KB ≠ LB) (hT : TabAt w) (y : Int) (hy : y = ((i + 1 : Nat) : Int)) : StI w p n cap s N KB LB M K (i + 1) (V.setCell ⟨KB, 0, none⟩ (.int .i64 y)) := by
  have mne : M ≠ KB := fun e => by
    subst e
    have := h.2.2.2.1.symm.trans h.2.1
    simp at this
  have hb : Below KB V (V.setCell ⟨KB, 0, none⟩ (.int .i64 y)) := (Below.refl KB V).setCell (p := ⟨KB, 0, none⟩) (Nat.le_refl KB) _
  have c := h.1.below hb h1 (by omega)
  exact ⟨c, by rw [← hy]; exact one_setCell h.2.1, (cell_ext (Below.heap_setCell _ _ _ LB (by show LB ≠ KB; omega))).trans h.2.2.1, h.2.2.2.1.other (by show KB ≠ M; omega) _, hT.on c.2.2.2.2⟩
attribute [local irreducible] numB digF pieK labB tagF blkF blkT cat2 sev

set_option maxRecDepth 100000 in
set_option maxHeartbeats 4000000 in
theorem walk (p : Option Addr) (n cap : Nat) (g : Nat → Nat) (s : ByteArray) (z : Int) (hg : ∀ i, i < n → g i < 256) (hcap : n ≤ cap) (hmax : n ≤ 140737488351232) (hs : s.size ≤ 140737488351232) (w : World) (hT : TabAt w) (hp : BytesAt w p n g) :
    Calls Tryd.prog 6 #[.slice p n cap, .string s, .int .i64 z] w fun e w' => e = .returned (.bool true) ∧ Below w.heap.size w w' := by
  obtain ⟨n1, hn1⟩ : ∃ n1 : Nat, IntKind.i64.wrap ((IntKind.u64.wrap z).tmod 6) = (n1 : Int) ∧ n1 < 6 := by
    have : IntKind.u64.wrap z = z % 18446744073709551616 := by simp [IntKind.wrap, IntKind.bits, IntKind.signed]
    refine ⟨((IntKind.u64.wrap z).tmod 6).toNat, ?_⟩
    rw [this]
    have h0 : (0 : Int) ≤ (z % 18446744073709551616).tmod 6 := by rw [Int.tmod_eq_emod_of_nonneg (by omega)]; omega
    have h1 : (z % 18446744073709551616).tmod 6 < 6 := by rw [Int.tmod_eq_emod_of_nonneg (by omega)]; omega
    rw [IntWalk.i64_in _ (by omega)]
    omega
  have hn2 := hn1.2
  have hn3 := hn1.1
  have q1 : IntKind.i64.wrap (1 + (n1 : Int)) = ((1 + n1 : Nat) : Int) := by rw [IntWalk.i64_in _ (by omega)]; omega
  clear hn1
  obtain ⟨N, hN⟩ : ∃ N, 1 + n1 = N := ⟨_, rfl⟩
  rw [hN] at q1
  have c0 := box_four w p n cap s z
  have PS := Lib.hid (fun D W hT hd => Piece_any (some ⟨D, 0, none⟩) 1 1 (fun _ => 7) (by omega) (by omega) (fun _ _ => by omega) W hT hd)
  have HP := Lib.hid hp; have HT := Lib.hid hT
  clear hp hT
  have Z0 : ((((w.alloc (.cells #[.slice p n cap] 22)).alloc (.cells #[.string s] 9)).alloc (.cells #[.int .i64 z] 3)).alloc (.cells #[.bool false] 4)).heap.size = w.heap.size + 1 + 1 + 1 + 1 := by simp
  have HC0 := Lib.hid c0; have HZ0 := Lib.hid Z0
  clear c0 Z0
  by_cases hl : n + s.size ≤ 4096
  · have hd : decide (4096 < n + s.size) = false := decide_eq_false (by omega)
    refine (callsIn_wide (n := 3)).1 ?_
    refine callsIn_of_wp_marks Tryd.func6 rfl trivial ?_ rfl
    simp only [Tryd.ntmps6, List.size_toArray, List.length_cons, List.length_nil, Nat.reduceAdd, Nat.reduceSub, Array.replicate_succ, Array.replicate_zero, List.push_toArray, List.append_toArray, List.nil_append, List.cons_append]
    refine wpIn_wide.2 ?_
    go_wp2_with (first
      | (go_at_call 12
         generalize ((((w.alloc (.cells #[.slice p n cap] 22)).alloc (.cells #[.string s] 9)).alloc (.cells #[.int .i64 z] 3)).alloc (.cells #[.bool false] 4)) = V0 at *
         have a1 : Below V0.heap.size V0 (V0.alloc (.cells #[.int .u8 7] 5)) := (Below.refl _ _).alloc (Nat.le_refl _) _
         have a2 : Below w.heap.size w (V0.alloc (.cells #[.int .u8 7] 5)) := HC0.out.2.2.2.2.trans (a1.mono (by rw [HZ0.out]; omega))
         have l1 : BytesAt (V0.alloc (.cells #[.int .u8 7] 5)) (some ⟨w.heap.size + 1 + 1 + 1 + 1, 0, none⟩) 1 (fun _ => 7) := by
           have := bytesAt_lit V0 1 (fun _ => 7) [(7 : Int)] rfl
           rw [HZ0.out] at this
           exact this
         refine (PS.out (w.heap.size + 1 + 1 + 1 + 1) _ (HT.out.on a2) l1).mono ?_; rintro e w1 ⟨rfl, hb1⟩
         have c1 := (HC0.out.below a1 (by rw [HZ0.out]; omega) (by rw [HZ0.out]; omega)).below hb1 (by rw [World.size_alloc, HZ0.out]; omega) (by rw [World.size_alloc, HZ0.out]; omega)
         have z1 : w.heap.size + 3 < w1.heap.size := by have := hb1.size; rw [World.size_alloc, HZ0.out] at this; omega
         have f0 := c1.1; have f1 := c1.2.1
         have HC1 := Lib.hid c1; have HZ1 := Lib.hid z1
         clear HC0 HZ0 hb1 c1 z1 a1 a2)
      | (refine wpList_gives rfl (fun K hK => ?_); refine gives_sev rfl ?_; refine hK _ ?_; clear hK K)
      | (refine wpList_gives rfl (fun K hK => ?_); refine gives_piece_neq _ _ rfl (pieK 1 fun _ => 7) sev rfl rfl (by rw [pieK_sev]; simp) ?_; refine hK _ ?_; clear hK K)
      | (refine wpList_conv_str rfl _ rfl s rfl ?_
         have bw := (conv_str_world s w1 hs).2
         generalize Lib.bytesWorld w1 5 s = v1 at *
         have HBW := Lib.hid bw
         clear bw)
      | (go_at_call 10
         have cs := two_cells v1 (.slice p n cap) (.slice (some ⟨w1.heap.size, 0, none⟩) s.size (grownCap w1 s.size 0 5)) 22
         have b2 := HBW.out.alloc HBW.out.size (.cells #[.slice p n cap, .slice (some ⟨w1.heap.size, 0, none⟩) s.size (grownCap w1 s.size 0 5)] 22)
         refine (large_two (c := 2) hmax hs cs.1 cs.2).mono ?_; rintro e w2 ⟨rfl, hw2⟩
         rw [hw2] at b2
         have c2 := HC1.out.below b2 HZ1.out (by have := HZ1.out; omega)
         have z2 : w.heap.size + 3 < w2.heap.size := by have := b2.size; have := HZ1.out; omega
         have f0 := c2.1; have f1 := c2.2.1
         have f2 := cell_of_one c2.2.2.1; have f3 := free_of_one c2.2.2.1
         have f4 := cell_of_one c2.2.2.2.1; have f5 := free_of_one c2.2.2.2.1
         have HC2 := Lib.hid c2; have HZ2 := Lib.hid z2
         rw [hd]
         clear hw2 cs b2 c2 z2 HBW HC1 HZ1)
      | (go_at_call 11
         have c3 := HC2.out.store (N : Int) (Nat.le_refl _)
         have z3 : w.heap.size + 3 < (w2.setCell ⟨w.heap.size + 1 + 1, 0, none⟩ (.int .i64 (N : Nat))).heap.size := by have := HZ2.out; simp [World.setCell]; exact this
         refine (Copy_row p n cap g (by omega) _ (HP.out.below c3.2.2.2.2)).mono ?_; rintro e w3 ⟨m, hm, rfl, hd3, hb3⟩
         have hd3' : IntBlk w3 w2.heap.size .u8 5 (mk m (markF n g)) := by
           have h0 : (w2.setCell ⟨w.heap.size + 1 + 1, 0, none⟩ (.int .i64 (N : Nat))).heap.size = w2.heap.size := by simp [World.setCell]
           rw [h0] at hd3; exact hd3
         have h0 : (w2.setCell ⟨w.heap.size + 1 + 1, 0, none⟩ (.int .i64 (N : Nat))).heap.size = w2.heap.size := by simp [World.setCell]
         rw [h0] at hb3 ⊢
         have c4 := c3.below hb3 HZ2.out (by have := HZ2.out; omega)
         have g2 : (w3.alloc (.cells #[.int .i64 0] 3)).cell? ⟨w.heap.size + 1, 0, none⟩ = some (.string s) := (cell_ext (Below.heap_alloc _ _ _ (by have := hb3.size; have := HZ2.out; omega))).trans c4.2.1
         have HC4 := Lib.hid c4; have HD4 := Lib.hid hd3'; have HL4 := Lib.hid hd3'.lt; have HM := Lib.hid hm
         clear hd3 hd3' hb3 c3 z3 h0 c4 hm f0 f1 f2 f3 f4 f5)
      | (go_at_call 19
         have hsz := HL4.out
         have b5 : Below w3.heap.size w3 (w3.alloc (.cells #[.int .i64 0] 3)) := (Below.refl _ _).alloc (Nat.le_refl _) _
         have e5 : (w3.alloc (.cells #[.int .i64 0] 3)).heap.size = w3.heap.size + 1 := by simp
         have k5 := heap_alloc_new w3 (.cells #[.int .i64 0] 3)
         generalize w3.alloc (.cells #[.int .i64 0] 3) = w5 at *
         have c5 := HC4.out.below b5 (by have := HZ2.out; omega) (by have := HZ2.out; omega)
         have d5 := HD4.out.below b5 hsz
         refine (Stream_any (some ⟨w2.heap.size, 0, none⟩) n m g s (by omega) (by have := HM.out; omega) hg w5 (HT.out.on c5.2.2.2.2) (d5.bytes.low HM.out)).mono ?_; rintro e w6 ⟨M, rfl, ha, hM6, hb6⟩
         rw [e5] at ha hb6 ⊢
         have c6 := c5.below hb6 (by have := HZ2.out; omega) (by have := HZ2.out; omega)
         have d6 := d5.below hb6 (by omega)
         have k6 := (hb6.block w3.heap.size (by omega)).trans k5
         have HC6 := Lib.hid c6; have HD6 := Lib.hid d6; have HK6 := Lib.hid k6; have HM6 := Lib.hid hM6; have HA6 := Lib.hid ha; have HS6 := Lib.hid hsz
         have HW6 := Lib.hid hb6.size
         clear c6 d6 k6 hM6 ha hb6 c5 d5 k5 b5 e5 g2 HC4 HD4 hsz)
      | (go_at_call 20
         refine (Over_any w2.heap.size n m (mk m (markF n g)) (by rw [mk_len]; have := HM.out; omega) (by omega) w6 HD6.out).mono ?_; rintro e w7 ⟨⟨v, rfl⟩, ob, ok, os⟩
         have C0 : StI w p n cap s N w3.heap.size (w3.heap.size + 1) M (pieK n g) 0 w7 := by
           have hz := HZ2.out
           have hd6 := HD6.out
           have hm6 := HM6.out
           have h6 := HS6.out
           have mne : M ≠ w2.heap.size := fun e => by
             subst e
             have := hm6.symm.trans hd6
             simp at this
           have c7 := HC6.out.below ob hz (by omega)
           exact ⟨c7, (ok w3.heap.size (by omega)).trans HK6.out, (cell_ext (ok (w3.heap.size + 1) (by omega))).trans HA6.out, (ok M mne).trans hm6, HT.out.on c7.2.2.2.2⟩
         have s7 : w3.heap.size + 1 < w7.heap.size := by have := HA6.out; have := block_lt_of_cell this; have h' : w3.heap.size + 1 < w6.heap.size := this; omega
         have m7 : M < w7.heap.size := by have := HM6.out.lt; omega
         have z7 : w.heap.size + 3 < w3.heap.size := by have := HZ2.out; have := HS6.out; omega
         have HC7 := Lib.hid C0
         clear ob ok os C0 HC6 HD6 HK6 HM6 HA6 HS6 HW6))
    have hK := pieK_lt hg
    have HNl : N ≤ 6 := by omega
    have HN1 : 0 < N := by omega
    have RB := Lib.hid (fun i hi W hp => refBlock_any p n cap g s i (by omega) hg (by omega) hi W hp)
    generalize pieK n g = K at *
    generalize hKB : w3.heap.size = KB at *
    clear hKB
    refine (wpIn_wide (n := 3)).1 ?_
    refine range_ends rfl (by omega) (gf := 29) (lb := #[.pointer (some ⟨KB + 1, 0, none⟩), .pointer (some ⟨M, 0, none⟩)]) rfl trivial (enters_of Tryd.func29 (by kernel_rfl) rfl)
      (fun x : Nat => #[.agg (cellsOf .u8 (mk 32 (blkF K s x)))]) (fun _ i _ x => x = i) 4096 (StrmR (KB + 1) M s K) (fun _ => rfl)
      (fun i V => i < N ∧ StI w p n cap s N KB (KB + 1) M K i V) (fun c V => c = .exit 0 ∧ StI w p n cap s N KB (KB + 1) M K N V) ?rd ?st ?stx ⟨HN1, HC7.out⟩ (stream_gives _ _ _ s K hK (by omega)) ?round ?done ?stop
    case rd => exact fun i U h => h.2.2.2
    case st => exact fun i U U' h hb => ⟨h.1, h.2.below hb (by omega) (by omega) s7 m7 HT.out⟩
    case stx => exact fun c U U' h hb => ⟨h.1, h.2.below hb (by omega) (by omega) s7 m7 HT.out⟩
    case done => exact fun D U hD h hd => absurd h.1 (by omega)
    case stop =>
      rintro D c U hD ⟨rfl, hI⟩ hd
      have kc := cell_of_one hI.2.1
      have nc := cell_of_one hI.1.2.2.1
      have rc := cell_of_one hI.1.2.2.2.1
      have rf := free_of_one hI.1.2.2.2.1
      have HI := Lib.hid hI; have HD := Lib.hid hd
      clear hI hd
      gi_wp2
      go_wp2
      have HD2 : (U.setCell ⟨w.heap.size + 1 + 1 + 1, 0, none⟩ (.bool true)).heap[D]? = some (.deferred (some [])) := (Below.heap_setCell U ⟨w.heap.size + 1 + 1 + 1, 0, none⟩ _ D (by show D ≠ w.heap.size + 1 + 1 + 1; omega)).trans HD.out
      refine ⟨by simp, .inl ⟨_, _, rfl, run_takeDeferred HD2, ?_⟩⟩
      have hc : ((U.setCell ⟨w.heap.size + 1 + 1 + 1, 0, none⟩ (.bool true)).putObj D (.deferred none)).cell? ⟨w.heap.size + 1 + 1 + 1, 0, none⟩ = some (.bool true) := cell_of_one (cells_turn (one_setCell HI.out.1.2.2.2.1) HD2 rfl)
      refine ⟨.bool true, ?_, rfl, below_turn _ (HI.out.1.2.2.2.2.setCell (by show w.heap.size ≤ w.heap.size + 1 + 1 + 1; omega) _) (by omega)⟩
      simp [results, Tryd.f6, go_sem, hc]
    case round =>
      rintro l i x U hl hi hus ⟨hlt, hI⟩ rfl
      have HI := Lib.hid hI
      clear hI
      have hRB := RB.out (x + 1) (by omega)
      rw [show x + 1 - 1 = x from rfl] at hRB
      generalize hgb : blkF K s x = G at *
      clear hgb
      refine region_round rfl (by rintro ⟨_, _, h⟩; exact h) ?_
      go_wp2_with (refine store_row_on rfl 30 _ _ rfl rfl U.heap.size (cellsOf .u8 (mk 32 G)) rfl rfl 30 (cellsOf .u8 (mk 32 zeroK)) (IntBlk.new U .u8 _ (mk 32 zeroK)) (sumSize _) (by rw [cellsOf_size, cellsOf_size, mk_len, mk_len]) (cellsOf_one _ _) ?_)
      have P1 : IntBlk ((U.alloc (.cells (cellsOf .u8 (mk 32 zeroK)) 30)).setRow U.heap.size (cellsOf .u8 (mk 32 G))) U.heap.size .u8 30 (mk 32 G) := (IntBlk.new U .u8 _ (mk 32 zeroK)).setRow .u8 _
      have P2 : Below U.heap.size U ((U.alloc (.cells (cellsOf .u8 (mk 32 zeroK)) 30)).setRow U.heap.size (cellsOf .u8 (mk 32 G))) := below_setRow ((Below.refl _ _).alloc (Nat.le_refl _) _) (Nat.le_refl _) _
      refine ⟨Aft.of_below _ P2, fun V hVs hVk0 hVb0 => ?_⟩
      have hVk : ∀ k, k ≠ w7.heap.size + 1 → V.heap[k]? = ((U.alloc (.cells (cellsOf .u8 (mk 32 zeroK)) 30)).setRow U.heap.size (cellsOf .u8 (mk 32 G))).heap[k]? := hVk0
      have hVb : Below w7.heap.size ((U.alloc (.cells (cellsOf .u8 (mk 32 zeroK)) 30)).setRow U.heap.size (cellsOf .u8 (mk 32 G))) V := hVb0
      clear hVk0 hVb0 hVs
      generalize ((U.alloc (.cells (cellsOf .u8 (mk 32 zeroK)) 30)).setRow U.heap.size (cellsOf .u8 (mk 32 G))) = U1 at *
      have Q1 : IntBlk V U.heap.size .u8 30 (mk 32 G) := (hVk _ (by omega)).trans P1
      have Q2 : StI w p n cap s N KB (KB + 1) M K x V := (HI.out.below (P2.mono (show w7.heap.size ≤ U.heap.size by omega)) (by omega) (by omega) s7 m7 HT.out).below hVb (by omega) (by omega) s7 m7 HT.out
      have hUV := Q1.lt
      have kc := cell_of_one Q2.2.1
      have kf := free_of_one Q2.2.1
      have Q3 := Q2.step (by omega) (by omega) HT.out ((x : Int) + 1) (by omega)
      have Q4 : Aft w7.heap.size V (V.setCell ⟨KB, 0, none⟩ (.int .i64 ((x : Int) + 1))) := Aft.setCell (Aft.refl _ _) (by show KB < w7.heap.size; omega) _
      have Q5 : IntBlk (V.setCell ⟨KB, 0, none⟩ (.int .i64 ((x : Int) + 1))) U.heap.size .u8 30 (mk 32 G) := Q1.other (by show KB ≠ U.heap.size; omega) _
      have Q6 : (V.setCell ⟨KB, 0, none⟩ (.int .i64 ((x : Int) + 1))).heap.size = V.heap.size := by simp [World.setCell]
      have HQ3 := Lib.hid Q3; have HQ4 := Lib.hid Q4; have HQ5 := Lib.hid Q5; have HQ6 := Lib.hid Q6
      have HRB := Lib.hid hRB
      clear P1 P2 Q1 Q2 Q3 Q4 Q5 Q6 hVk hVb HI hRB
      gi_wp2
      generalize V.setCell ⟨KB, 0, none⟩ (.int .i64 ((x : Int) + 1)) = V1 at *
      have c0 : Below V1.heap.size V1 V1.drew := (Below.refl _ V1).drew
      have hV1 := HQ6.out
      have hkb : KB < V1.heap.size := by omega
      refine region_round_sched [(0, true), (1, true), (2, true), (3, true), (4, false), (5, true)] (fun W => Below V1.heap.size V1 W) (by kernel_rfl) (by kernel_rfl) (by rintro ⟨_, _, h⟩; exact h) (by kernel_rfl) c0 ?_
      iterate 4 (
        refine walk_float rfl rfl (fun K' hK' => ?_)
        first
          | (refine gives_row 30 _ rfl U.heap.size .u8 (mk 32 G) rfl 32 5 sumUnder (sumSize _) (fun W h => HQ5.out.below h HQ5.out.lt) ?_)
          | (refine gives_box 22 _ rfl w.heap.size (.slice p n cap) rfl box_bytes (fun W h => (h.cell (p := ⟨w.heap.size, 0, none⟩) (by show w.heap.size < V1.heap.size; omega)).trans HQ3.out.1.1) ?_)
          | (refine gives_box 9 _ rfl (w.heap.size + 1) (.string s) rfl box_string (fun W h => (h.cell (p := ⟨w.heap.size + 1, 0, none⟩) (by show w.heap.size + 1 < V1.heap.size; omega)).trans HQ3.out.1.2.1) ?_)
          | (refine gives_box 3 _ rfl KB (.int .i64 ((x + 1 : Nat) : Int)) rfl box_int (fun W h => (h.cell (p := ⟨KB, 0, none⟩) hkb).trans (cell_of_one HQ3.out.2.1)) ?_)
        go_simp
        refine hK' _ ?_
        clear hK' K')
      refine walk_done rfl rfl (fun K' hK' => ?_)
      refine done_three _ _ _ _ _ rfl 21 rfl (.slice p n cap) (.string s) (.int .i64 ((x + 1 : Nat) : Int)) rfl rfl rfl (fun _ w => by simp [go_sem]) ((HRB.out V1.drew (HP.out.below (HQ3.out.1.2.2.2.2.trans (c0.mono (by omega))))).mono fun e v2 hv2 => ?_)
      obtain ⟨rfl, hv2⟩ := hv2
      have c1 := c0.trans hv2
      refine ⟨_, rfl, c1, ?_⟩
      go_simp
      refine hK' _ _ ?_
      clear hK' K' hv2
      refine walk_float rfl rfl (fun K' hK' => ?_)
      refine gives_sum_neq _ _ rfl G G rfl rfl (by simp) ?_
      go_simp
      refine hK' _ ?_
      clear hK' K'
      refine walk_nil ?_
      have R3 := HQ3.out.below c1 (by omega) hkb (by omega) (by omega) HT.out
      have kc2 := cell_of_one R3.2.1
      have nc2 := cell_of_one R3.1.2.2.1
      have HR3 := Lib.hid R3
      have HR4 := Lib.hid (HQ4.out.call c1)
      clear R3 c1 c0 HQ3 HQ4 HQ5
      gi_wp2
      · have hcd : ((x : Int) + 1 == (N : Int)) = true := by assumption
        have hqN : x + 1 = N := by simp at hcd; omega
        refine ⟨HR4.out, rfl, ?_⟩
        have := HR3.out
        rw [hqN] at this
        exact this
      · have hcd : ((x : Int) + 1 == (N : Int)) = false := by assumption
        have hqN : x + 1 ≠ N := fun h => by
          have hcd2 : ((x : Int) + 1 == (N : Int)) = true := by simp; omega
          rw [hcd] at hcd2; cases hcd2
        exact ⟨HR4.out, by omega, HR3.out⟩
  · have hd : decide (4096 < n + s.size) = true := decide_eq_true (by omega)
    go_enter Tryd.func6, Tryd.ntmps6
    go_wp2_with (first
      | (go_at_call 12
         generalize ((((w.alloc (.cells #[.slice p n cap] 22)).alloc (.cells #[.string s] 9)).alloc (.cells #[.int .i64 z] 3)).alloc (.cells #[.bool false] 4)) = V0 at *
         have a1 : Below V0.heap.size V0 (V0.alloc (.cells #[.int .u8 7] 5)) := (Below.refl _ _).alloc (Nat.le_refl _) _
         have a2 : Below w.heap.size w (V0.alloc (.cells #[.int .u8 7] 5)) := HC0.out.2.2.2.2.trans (a1.mono (by rw [HZ0.out]; omega))
         have l1 : BytesAt (V0.alloc (.cells #[.int .u8 7] 5)) (some ⟨w.heap.size + 1 + 1 + 1 + 1, 0, none⟩) 1 (fun _ => 7) := by
           have := bytesAt_lit V0 1 (fun _ => 7) [(7 : Int)] rfl
           rw [HZ0.out] at this
           exact this
         refine (PS.out (w.heap.size + 1 + 1 + 1 + 1) _ (HT.out.on a2) l1).mono ?_; rintro e w1 ⟨rfl, hb1⟩
         have c1 := (HC0.out.below a1 (by rw [HZ0.out]; omega) (by rw [HZ0.out]; omega)).below hb1 (by rw [World.size_alloc, HZ0.out]; omega) (by rw [World.size_alloc, HZ0.out]; omega)
         have z1 : w.heap.size + 3 < w1.heap.size := by have := hb1.size; rw [World.size_alloc, HZ0.out] at this; omega
         have f0 := c1.1; have f1 := c1.2.1
         have HC1 := Lib.hid c1; have HZ1 := Lib.hid z1
         clear HC0 HZ0 hb1 c1 z1 a1 a2)
      | (refine wpList_gives rfl (fun K hK => ?_); refine gives_sev rfl ?_; refine hK _ ?_; clear hK K)
      | (refine wpList_gives rfl (fun K hK => ?_); refine gives_piece_neq _ _ rfl (pieK 1 fun _ => 7) sev rfl rfl (by rw [pieK_sev]; simp) ?_; refine hK _ ?_; clear hK K)
      | (refine wpList_conv_str rfl _ rfl s rfl ?_
         have bw := (conv_str_world s w1 hs).2
         generalize Lib.bytesWorld w1 5 s = v1 at *
         have HBW := Lib.hid bw
         clear bw)
      | (go_at_call 10
         have cs := two_cells v1 (.slice p n cap) (.slice (some ⟨w1.heap.size, 0, none⟩) s.size (grownCap w1 s.size 0 5)) 22
         have b2 := HBW.out.alloc HBW.out.size (.cells #[.slice p n cap, .slice (some ⟨w1.heap.size, 0, none⟩) s.size (grownCap w1 s.size 0 5)] 22)
         refine (large_two (c := 2) hmax hs cs.1 cs.2).mono ?_; rintro e w2 ⟨rfl, hw2⟩
         rw [hw2] at b2
         have c2 := HC1.out.below b2 HZ1.out (by have := HZ1.out; omega)
         have z2 : w.heap.size + 3 < w2.heap.size := by have := b2.size; have := HZ1.out; omega
         have f0 := c2.1; have f1 := c2.2.1
         have f2 := cell_of_one c2.2.2.1; have f3 := free_of_one c2.2.2.1
         have f4 := cell_of_one c2.2.2.2.1; have f5 := free_of_one c2.2.2.2.1
         have HC2 := Lib.hid c2; have HZ2 := Lib.hid z2
         rw [hd]
         clear hw2 cs b2 c2 z2 HBW HC1 HZ1))
    have hc : (w2.setCell ⟨w.heap.size + 1 + 1 + 1, 0, none⟩ (.bool true)).cell? ⟨w.heap.size + 1 + 1 + 1, 0, none⟩ = some (.bool true) := cell_of_one (one_setCell HC2.out.2.2.2.1)
    refine bodyPost_ret (v := .bool true) ?_ rfl ⟨rfl, HC2.out.2.2.2.2.setCell (by show w.heap.size ≤ w.heap.size + 1 + 1 + 1; omega) _⟩
    simp [results, Tryd.f6, go_sem, hc]

theorem laidOut : laidOutB Tryd.prog = true := by kernel_rfl
set_option maxRecDepth 100000 in
theorem lifted (os : Os) (started : os.Started) (H : Type) (enc : TypeId × Value → H) :
    ReturnsInHanded {} Tryd.checked os 6 .any (fun w args => (Rows.macStreamSpec.pre enc Tryd.prog Tryd.f6 Rows.macStreamRow.domain false w args ∧ laidMetH Tryd.prog Rows.macStreamRow.laid w) ∧ sizedMet enc Tryd.prog Tryd.f6 (OpenSpec.ofChange Rows.macStreamSpec) false w args) (Rows.macStreamSpec.post enc Tryd.prog Tryd.f6 false true false false) := by
  refine returnsInHanded_of_change_and (C := Tryd.checked) (X := fun w _ => laidMetH Tryd.prog Rows.macStreamRow.laid w) (fun _ _ _ hh h => h.of_heap hh) own started (by kernel_rfl) Tryd.func6
    (ChangeSpec.witness_shaped (enc := enc) (C := Tryd.checked) (os := os) (X := fun w _ => laidMetH Tryd.prog Rows.macStreamRow.laid w) false (World.laidAll Tryd.prog os Rows.macStreamRow.laid) #[.slice none 0 0, .string ⟨#[]⟩, .int .i64 0] 8 (World.laidAll_os _ _ _)
      (World.shaped_of_ZipB (by kernel_rfl) (by kernel_rfl)) (by kernel_rfl) (by kernel_rfl) (by kernel_rfl)
      (by rw [MakeChecks.laidMetH_plain _ _ _ (by kernel_rfl)]; exact laidMet_laidAll _ (by kernel_rfl) (by kernel_rfl))) ?_
  intro W base args ds gs before hval0 hW hcnd hsz hL _
  have hT := tab_of_laid hL
  have hval : ∀ (j : Nat) t v, Tryd.f6.params[j]? = some t → args[j]? = some v → Value.okWide Tryd.prog W .any base t v := hval0
  have hW' := hW
  obtain ⟨p, q, hA0, hV, rfl, hfz, hnd⟩ := hW
  have hA : DataW.TrodAll enc Tryd.prog W 0 (fun _ => true) true Tryd.f6.params.toList args.toList ds p := hA0
  rw [Tryd.params6] at hA hval
  obtain ⟨v0, vs0, d0, ds0, p0, q0, hargs, rfl, rfl, h0, r0⟩ := trodAll_cons hA
  obtain ⟨v1, vs1, d1, ds1, p1, q1, rfl, rfl, rfl, h1, r1⟩ := trodAll_cons r0
  obtain ⟨v2, vs2, d2, ds2, p2, q2, rfl, rfl, rfl, h2, r2⟩ := trodAll_cons r1
  obtain ⟨rfl, rfl, rfl⟩ := trodAll_nil r2
  obtain rfl : args = #[v0, v1, v2] := by cases args; simp_all
  obtain ⟨rfl, rfl⟩ := trodVars_none hV
  have k0 := h0
  have lt0 : ∀ x ∈ p0, x.block < W.heap.size := by obtain ⟨m, hm⟩ := k0; exact DataW.trod_lt m _ _ _ hm
  obtain ⟨q0, n0, c0, a0, rfl, w0, y0, l0, m0⟩ := open_byteslice (hval 0 22 v0 rfl rfl) h0
  have k1 := h1
  have lt1 : ∀ x ∈ p1, x.block < W.heap.size := by obtain ⟨m, hm⟩ := k1; exact DataW.trod_lt m _ _ _ hm
  obtain ⟨a1, rfl, hs1⟩ := open_str (hval 1 9 v1 rfl rfl) h1 hsz (j := 1) (by rw [Tryd.params6]; rfl) rfl
  obtain ⟨a2, rfl, rfl, rfl, w2⟩ := open_int Tryd.underlying3 (hval 2 3 v2 rfl rfl) h2
  have z0 := open_size k0 hsz (j := 0) (by rw [Tryd.params6]; rfl) rfl
  clear hA0 hval0
  refine (walk q0 n0 c0 a0 a1 a2 w0 l0 z0 hs1 W hT y0).mono fun e W' ⟨he, bel⟩ => ?_
  subst he
  exact ⟨_, rfl, _, _, _, [], _, [], hW', trodAll_mk1 (shut_bool Tryd.underlying4 _), (trodAll_cons_mk (Below.trod laidOut (by kernel_rfl) (of_decide_eq_true (by kernel_rfl)) k0 bel lt0) (trodAll_cons_mk (Below.trod laidOut (by kernel_rfl) (of_decide_eq_true (by kernel_rfl)) k1 bel lt1) (trodAll_cons_mk (shut_int Tryd.underlying3 w2) trodAll_mk0))), rfl, bel.frame _, fun h => by cases h⟩

theorem over : Rows.macStreamRow.holds Tryd.pinned (OpenSpec.ofChange Rows.macStreamSpec) :=
  OpenClaim.holds_of_wide 6 Tryd.f6 rfl rfl rfl rfl rfl rfl rfl ⟨rfl, rfl, rfl, rfl, rfl⟩ rfl rfl rfl rfl rfl (by kernel_rfl) Tryd.func6 (by kernel_rfl)
    (of_decide_eq_true (by kernel_rfl)) (by unfold Func.isWrapper; first | (rw [if_pos (by decide +kernel)]; kernel_rfl) | (rw [if_neg (by decide +kernel)]; exact ⟨rfl, rfl⟩))
    (fun os started H enc _ => lifted os started H enc)

set_option maxRecDepth 100000 in
theorem proved : Rows.MacStreamCardSaid :=
  Claim7.holds_tied_plain_at .later [] [.data] true (true, "72f2077fc948681907f26b31a4bacbb36c81689644d2b26bb4272bed603e5c38") false
    over (fun _ h => by cases h) (by kernel_rfl) (fun _ h => by cases h) macStream_row_tie rfl ⟨rfl, rfl⟩ (by kernel_rfl) rfl
    (fun f fn hf hfn => by
      obtain rfl : f = 6 := Option.some.inj ((show Tryd.prog.funcNamed "citadel/citadellaw05.MacStream" = some 6 by kernel_rfl).symm.trans hf) |>.symm
      obtain rfl : fn = Tryd.f6 := (Option.some.inj (Tryd.func6.symm.trans hfn)).symm
      exact ⟨by kernel_rfl, fun j t ht => by
        rw [Tryd.params6] at ht
        rcases j with _ | _ | _ | j
        · obtain rfl : t = 22 := by simpa using ht.symm
          exact (show Tryd.prog.wantsStandIn 22 = false by kernel_rfl)
        · obtain rfl : t = 9 := by simpa using ht.symm
          exact (show Tryd.prog.wantsStandIn 9 = false by kernel_rfl)
        · obtain rfl : t = 3 := by simpa using ht.symm
          exact (show Tryd.prog.wantsStandIn 3 = false by kernel_rfl)
        · simp at ht⟩)
    (by kernel_rfl)
end Go.Proofs.YtfjbehobpkmjbaaDoor.macStream
