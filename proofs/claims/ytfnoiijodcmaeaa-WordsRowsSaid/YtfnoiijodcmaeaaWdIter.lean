/- The iterator of package words' Rows: it hands yield the places at which rows begin, and their bytes as new memory. Conditions: the bytes are bytes; the box and the bytes stand while the caller goes with it. -/
import Derived.Test.YtfnoiijodcmaeaaWdWhole
import Derived.Test.YtfnoiijodcmaeaaWdRange
import Derived.Test.YtfnoiijodcmaeaaWdSched
namespace Go.Proofs.Ytfnoiijodcmaeaa
open Go.ChangeShapes Go.WideShapes Go.ChangeAt Go.RowKit Go.Shelf
attribute [local go_sem] Oper.semAt_some
set_option linter.unusedVariables false

/-- What Rows keeps: a box, and a copy of the bytes. -/
structure RwR (Bx D n : Nat) (g : Nat → Nat) (V : World) : Prop where
  box : V.heap[Bx]? = some (.cells #[.slice (some ⟨D, 0, none⟩) n n] 22 (0, 0))
  row : IntBlk V D .u8 5 (mk n g)
theorem RwR.below {Bx D n : Nat} {g : Nat → Nat} {V V' : World} (h : RwR Bx D n g V) (hb : Below V.heap.size V V') : RwR Bx D n g V' :=
  ⟨(hb.block _ (lt_of_block h.box)).trans h.box, h.row.below hb h.row.lt⟩
set_option maxRecDepth 100000 in
set_option maxHeartbeats 1000000 in
theorem Rows_any (p : Option Addr) (n cap : Nat) (g : Nat → Nat) (hn : n ≤ 140737488351232) (w : World) (hp : BytesAt w p n g) :
    Calls Try.prog 25 #[.slice p n cap] w fun e w' => ∃ Bx, e = .returned (.func (.func 35) #[] #[.pointer (some ⟨Bx, 0, none⟩)]) ∧ RwR Bx w.heap.size n g w' ∧ Below w.heap.size w w' := by
  have EC := Lib.hid (clone_any p n cap g (by omega) w hp)
  clear hp hn
  go_enter Try.func25, Try.ntmps25
  go_wp2_with (first
    | (go_at_call 30; refine EC.out.mono ?_; rintro e w1 ⟨rfl, hr1, hb1⟩; have R1 := Lib.hid hr1; have B1 := Lib.hid hb1; clear EC hr1 hb1))
  go_ret
  exact ⟨_, rfl, ⟨heap_alloc_new _ _, R1.out.alloc _⟩, B1.out.alloc B1.out.size _⟩
theorem box_func (w : World) : (isAgg 69).run Try.prog w = .ok false w := by simp [go_sem]
theorem roundIn_any {n n' l lr : Nat} {f : FuncId} {tmps : Array Value} {asg bd : Code} {w : World} {R : Ending → World → Prop} (h : RoundIn Fence.wide n Try.prog lr f tmps asg bd w R) : RoundIn (Fence.wide.inRound l) n' Try.prog lr f tmps asg bd w R := ⟨h.1, fun c cs _ => h.2 c cs (room_wide _)⟩
/-- How long a row is. -/
def lenP (P : Nat → Nat) (i : Nat) : Nat := P (i + 1) - (P i + 2)
/-- A row's place, and its bytes. -/
def rwE (P : Nat → Nat) (x : Nat × Nat) : Array Value := #[.int .i64 (P x.1 : Nat), .slice (some ⟨x.2, 0, none⟩) (lenP P x.1) (lenP P x.1)]
def rwOwn (x : Nat × Nat) (k : Nat) : Prop := k = x.2
def rwEnc (P : Nat → Nat) (g : Nat → Nat) (B i : Nat) (V : World) (x : Nat × Nat) : Prop := x.1 = i ∧ B ≤ x.2 ∧ IntBlk V x.2 .u8 5 (mk (lenP P i) (fun j => g (P i + 2 + j)))
structure RwI (W : World) (l D n : Nat) (J : Nat → World → Prop) (i : Nat) (V : World) : Prop where
  j : J i V
  yb : V.heap[W.heap.size]? = some (.cells #[.func (.yield l) #[] #[]] 69 (0, 0))
  sb : V.heap[W.heap.size + 1]? = some (.cells #[.slice (some ⟨D, 0, none⟩) n n] 22 (0, 0))
set_option maxRecDepth 100000 in
set_option maxHeartbeats 2000000 in
theorem rows_gives (m Bx D n : Nat) (g : Nat → Nat) (hg : ∀ i, i < n → g i < 256) (hn : n ≤ 140737488351232) (M : Nat) (P : Nat → Nat) (RO : RowsOf n g M P) :
    GivesX Fence.wide m Try.prog 35 #[.pointer (some ⟨Bx, 0, none⟩)] (rwE P) rwOwn (rwEnc P g) M (RwR Bx D n g) := fun l J Jx W hR hJ hJx hY h0 => by
  refine callsIn_wide.2 ((callsIn_wide (n := 3)).1 ?_)
  refine callsIn_of_wp_marks Try.func35 rfl trivial ?_ rfl
  simp only [Try.ntmps35, List.size_toArray, List.length_cons, List.length_nil, Nat.reduceAdd, Nat.reduceSub, Array.replicate_succ, Array.replicate_zero, List.push_toArray, List.append_toArray, List.nil_append, List.cons_append]
  refine wpIn_wide.2 ?_
  have HSG := Lib.hid (fun m' S => spans_gives m' S (some ⟨D, 0, none⟩) n n g hg (Nat.le_refl _) hn M P RO)
  have HR := Lib.hid hR; have HJ := Lib.hid hJ; have HJX := Lib.hid hJx; have HY := Lib.hid hY
  have a0 : Below W.heap.size W (W.alloc (.cells #[.func (.yield l) #[] #[]] 69)) := (Below.refl _ _).alloc (Nat.le_refl _) _
  have J0 := Lib.hid (hJ 0 W _ h0 a0)
  have c0 := cell_of_one (hR 0 _ J0.out).box
  clear hR hJ hJx hY h0
  go_wp2_with (first
    | (go_at_call 34; refine (spans_any _ _ _ _).mono ?_; rintro e w1 ⟨rfl, hw1⟩))
  have I0 : RwI W l D n J 0 w1 := by
    rw [← hw1]
    refine ⟨HJ.out 0 _ _ J0.out ((Below.refl _ _).alloc (by simp) _), heap_keep (heap_alloc_new W _) _, ?_⟩
    have h := heap_alloc_new (W.alloc (.cells #[.func (.yield l) #[] #[]] 69)) (.cells #[.slice (some ⟨D, 0, none⟩) n n] 22)
    rw [World.size_alloc] at h
    exact h
  have s1 : w1.heap.size = W.heap.size + 2 := by rw [← hw1]; simp
  have HI0 := Lib.hid I0
  clear hw1 I0 J0 a0 c0
  refine (wpIn_wide (n := 3)).1 ?_
  refine range_ends rfl (by omega) (gf := 36) (lb := #[.pointer (some ⟨W.heap.size + 1, 0, none⟩)]) rfl trivial (enters_of Try.func36 (by kernel_rfl) rfl)
    (spE P) (fun _ i _ x => x = i) M (SpR (W.heap.size + 1) (some ⟨D, 0, none⟩) n n g) (fun _ => rfl)
    (RwI W l D n J) (fun c V => c = .ret ∧ Jx V) ?rd ?st ?stx HI0.out (HSG.out _ _) ?round ?done ?stop
  case rd => exact fun i V h => ⟨cell_of_one h.sb, (HR.out i V h.j).row.bytesAt⟩
  case st =>
    intro i V V' h hb
    rw [s1] at hb
    exact ⟨HJ.out _ _ _ h.j (hb.mono (by omega)), (hb.block _ (by omega)).trans h.yb, (hb.block _ (by omega)).trans h.sb⟩
  case stx =>
    intro c V V' h hb
    rw [s1] at hb
    exact ⟨h.1, HJX.out _ _ h.2 (hb.mono (by omega))⟩
  case done =>
    rintro D' U hD hI hd
    rw [s1] at hD
    have HI := Lib.hid hI; have HD := Lib.hid hd
    clear hI hd HI0 s1
    refine ⟨by simp, .inl ⟨_, _, rfl, run_takeDeferred HD.out, ?_⟩⟩
    refine ⟨_, results_none rfl _ _ _, ⟨_, rfl⟩, .inl (HJ.out _ _ _ HI.out.j (below_put _ (by omega)))⟩
  case stop =>
    rintro D' c U hD ⟨rfl, hx⟩ hd
    rw [s1] at hD
    have HX := Lib.hid hx; have HD := Lib.hid hd
    clear hx hd HI0 s1
    refine wpIn_ret ?_
    refine ⟨by simp, .inl ⟨_, _, rfl, run_takeDeferred HD.out, ?_⟩⟩
    exact ⟨_, results_none rfl _ _ _, ⟨_, rfl⟩, .inr (HJX.out _ _ HX.out (below_put _ (by omega)))⟩
  case round =>
    rintro l' i0 i U hl hi hus hI rfl
    have HI := Lib.hid hI
    clear hI HI0
    unfold spE
    gi_wp2
    refine ⟨Aft.refl _ _, fun V hVs hVk hVb => ?_⟩
    rw [s1] at hVb
    have hj : J i V := HJ.out _ _ _ HI.out.j (hVb.mono (by omega))
    have qr := HR.out i V hj
    have QY := Lib.hid (cell_of_one ((hVb.block W.heap.size (by omega)).trans HI.out.yb))
    have QB := Lib.hid (cell_of_one qr.box)
    have lb := lt_of_block qr.box
    have QR := Lib.hid qr.row
    have yb := (hVb.block W.heap.size (by omega)).trans HI.out.yb
    have sb := (hVb.block (W.heap.size + 1) (by omega)).trans HI.out.sb
    have ly : W.heap.size < V.heap.size := lt_of_block yb
    have ls : W.heap.size + 1 < V.heap.size := lt_of_block sb
    have KJ := Lib.hid hj; have YB := Lib.hid yb; have SB := Lib.hid sb
    have nx := RO.next i hi
    have hE : P i + 2 ≤ P (i + 1) := by omega
    have hEn : P (i + 1) ≤ n := RO.le (i + 1) hi
    have hLn : P (i + 1) - (P i + 2) = lenP P i := rfl
    have HLL := Lib.hid (show lenP P i ≤ n by unfold lenP; omega)
    have EC := Lib.hid (fun q (c' : Nat) X hX => clone_any q (lenP P i) c' (fun j => g (P i + 2 + j)) (by have := HLL.out; omega) X hX)
    have HBH := Lib.hid (fun q (hq : Behind (some ⟨D, 0, none⟩) n (P i + 2) (lenP P i) q) (X : World) (hX : Below V.heap.size V X) => hq X g (QR.out.below hX QR.out.lt).bytesAt)
    have c0 : Below V.heap.size V V.drew := (Below.refl _ V).drew
    have q1 : IntKind.i64.wrap ((P i : Nat) + 2 : Int) = ((P i + 2 : Nat) : Int) := by rw [IntWalk.i64_in _ (by omega)]; omega
    have Q1 := Lib.hid q1
    clear hj qr yb sb hVs hVk hVb HI nx q1
    gi_wp2
    refine wpIn_round_sched (n := 8) [(0, true), (1, true), (2, true), (3, true), (4, true), (5, true), (6, true), (7, false)] (fun X => Below V.heap.size V X) (by kernel_rfl) (by kernel_rfl) c0 ?_
    refine walk_float rfl rfl (fun K' hK' => ?_)
    refine apart.gives_lie 69 _ rfl ⟨W.heap.size, 0, none⟩ (.func (.yield l) #[] #[]) rfl box_func (fun X hX => (hX.cell (p := ⟨W.heap.size, 0, none⟩) ly).trans QY.out) ?_
    go_simp
    refine hK' _ ?_
    clear hK' K'
    refine walk_float rfl rfl (fun K' hK' => ?_)
    refine gives_move _ rfl ?_
    go_simp
    refine hK' _ ?_
    clear hK' K'
    refine walk_float rfl rfl (fun K' hK' => ?_)
    refine apart.gives_lie 22 _ rfl ⟨Bx, 0, none⟩ (.slice (some ⟨D, 0, none⟩) n n) rfl apart.box_bytes (fun X hX => (hX.cell (p := ⟨Bx, 0, none⟩) lb).trans QB.out) ?_
    go_simp
    refine hK' _ ?_
    clear hK' K'
    refine walk_float rfl rfl (fun K' hK' => ?_)
    refine gives_move _ rfl ?_
    go_simp
    refine hK' _ ?_
    clear hK' K'
    refine walk_float rfl rfl (fun K' hK' => ?_)
    refine apart.gives_int_add _ _ rfl (P i : Nat) 2 ((P i + 2 : Nat) : Int) rfl rfl Q1.out ?_
    go_simp
    refine hK' _ ?_
    clear hK' K'
    refine walk_float rfl rfl (fun K' hK' => ?_)
    refine gives_move _ rfl ?_
    go_simp
    refine hK' _ ?_
    clear hK' K'
    refine walk_float rfl rfl (fun K' hK' => ?_)
    refine gives_cut _ _ _ rfl (some ⟨D, 0, none⟩) n n (P i + 2) (P (i + 1)) _ _ rfl rfl rfl rfl rfl hE hEn (Nat.le_refl _) ?_
    intro q hq
    rw [hLn] at hq ⊢
    go_simp
    refine hK' _ ?_
    clear hK' K'
    refine walk_done rfl rfl (fun K' hK' => ?_)
    refine done_enter2 _ _ _ _ rfl 30 rfl (enters_of Try.func30 (by kernel_rfl) rfl) _ _ rfl rfl _ (EC.out q _ _ (HBH.out q hq _ c0)) ?_
    rintro e w7 ⟨rfl, hr7, hb7⟩
    have b7 : Below V.heap.size V w7 := c0.trans hb7
    refine ⟨_, rfl, b7, ?_⟩
    go_simp
    refine hK' _ _ ?_
    clear hK' K'
    refine walk_nil ?_
    obtain ⟨fn, tmps, assign, body, hy, hRr⟩ := HY.out i w7 (i, V.heap.size) hi (Nat.le_trans (Nat.le_of_lt ly) b7.size) (HJ.out _ _ _ KJ.out (b7.mono (Nat.le_of_lt ly))) ⟨rfl, Nat.le_of_lt ly, hr7⟩
    unfold rwE at hy
    have L7 := Lib.hid (show V.heap.size ≤ w7.heap.size from b7.size)
    have A7 := Lib.hid (show Aft w1.heap.size V w7 from Aft.of_below _ b7)
    have Y7 := Lib.hid ((b7.block _ ly).trans YB.out); have S7 := Lib.hid ((b7.block _ ls).trans SB.out)
    have LY := Lib.hid ly; have LS := Lib.hid ls
    clear KJ YB SB QY QB QR EC HBH c0 hr7 hb7 b7 hq lb hE hEn hLn ly ls
    simp only [List.drop_succ_cons, List.drop_zero]
    gi_wp2
    refine (roundIn_any hRr).mono ?_
    rintro e W3 (⟨rfl, hj3, ha3⟩ | ⟨rfl, hx3, ha3⟩)
    · have y3 : W3.heap[W.heap.size]? = _ := (ha3.same W.heap.size (Nat.le_refl _) (by have := LY.out; have := L7.out; omega) (fun h => by have : W.heap.size = V.heap.size := h; have := LY.out; omega)).trans Y7.out
      have z3 : W3.heap[W.heap.size + 1]? = _ := (ha3.same (W.heap.size + 1) (by omega) (by have := LS.out; have := L7.out; omega) (fun h => by have : W.heap.size + 1 = V.heap.size := h; have := LS.out; omega)).trans S7.out
      have A3 := Lib.hid (show Aft w1.heap.size V W3 from ⟨Nat.le_trans L7.out ha3.size, fun k hk hkV => (ha3.same k (by omega) (Nat.lt_of_lt_of_le hkV L7.out) (fun h => by have : k = V.heap.size := h; omega)).trans (A7.out.same k hk hkV)⟩)
      have I3 := Lib.hid (show RwI W l D n J (i + 1) W3 from ⟨hj3, y3, z3⟩)
      clear hRr hy hj3 ha3 y3 z3 Y7 S7 A7
      gi_wp2
      exact ⟨A3.out, I3.out⟩
    · have A3 := Lib.hid (show Aft w1.heap.size V W3 from ⟨Nat.le_trans L7.out ha3.size, fun k hk hkV => (ha3.same k (by omega) (Nat.lt_of_lt_of_le hkV L7.out) (fun h => by have : k = V.heap.size := h; omega)).trans (A7.out.same k hk hkV)⟩)
      have HX := Lib.hid hx3
      clear hRr hy hx3 ha3 Y7 S7 A7
      gi_wp2
      exact ⟨A3.out, rfl, HX.out⟩
end Go.Proofs.Ytfnoiijodcmaeaa
