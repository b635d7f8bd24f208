/- The iterator of package digest's pieces: it hands yield the padded text's pieces, one behind the other. Condition: the parts' box, the parts' addresses and bytes stand while the caller goes with it. -/
import Derived.Test.YtfjbehobpkmjbaaDoorPaddedC
import Derived.Test.YtfjbehobpkmjbaaDoorRoundW
import Derived.WalkMore
namespace Go.Proofs.YtfjbehobpkmjbaaDoor
open Go.RowKit Go.Shelf
attribute [local go_sem] Oper.semAt_some

theorem padded_any (q : Option Addr) (np cap : Nat) (w : World) : Calls Tryd.prog 42 #[.slice q np cap] w fun e w' => e = .returned (.func (.func 47) #[] #[.pointer (some ⟨w.heap.size, 0, none⟩)]) ∧ w.alloc (.cells #[.slice q np cap] 46) = w' := by
  go_enter Tryd.func42, Tryd.ntmps42
  go_wp2
  go_ret
  exact ⟨rfl, rfl⟩

theorem pieceZero_run (W : World) : (zeroValue 25).run Tryd.prog W = .ok (.agg (cellsOf .u8 (mk 64 zeroK))) W := by
  have h : (Tryd.prog.info? 25).bind (·.zero) = some (.agg (cellsOf .u8 (mk 64 zeroK))) := by kernel_rfl
  cases hq : Tryd.prog.info? 25 with
  | none => rw [hq] at h; simp at h
  | some i =>
    rw [hq] at h
    simp only [Option.bind_some] at h
    simp [zeroValue, typeInfo, hq, h]
/-- n bytes lie behind a pointer. -/
def TextAt (V : World) (p : Option Addr) (n : Nat) (g : Nat → Nat) : Prop := n = 0 ∨ ∃ B o, p = some ⟨B, o, none⟩ ∧ Cells V B o n g
/-- Where the text's parts begin and end; the last one is what is put behind it. -/
def offA (np : Nat) (P : Nat → Option Addr × Nat × Nat) (i : Nat) : Nat := if i ≤ np then lenTo P i else lenTo P np + padL (lenTo P np)
theorem offA_in {np : Nat} {P : Nat → Option Addr × Nat × Nat} {i : Nat} (h : i ≤ np) : offA np P i = lenTo P i := if_pos h
theorem offA_end (np : Nat) (P : Nat → Option Addr × Nat × Nat) : offA np P (np + 1) = 64 * cntP (lenTo P np) := by unfold offA; rw [if_neg (by omega), cntP_mul]
/-- What the program reads of its caller's: the parts' box, addresses and bytes. -/
def Reads (Bq np cap : Nat) (q : Option Addr) (P : Nat → Option Addr × Nat × Nat) (g : Nat → Nat) (V : World) : Prop :=
  V.cell? ⟨Bq, 0, none⟩ = some (.slice q np cap) ∧ PartsAt V q np P ∧ ∀ i, i < np → TextAt V (P i).1 (P i).2.1 (fun j => g (lenTo P i + j))
/-- The buffer holds what came behind the last whole piece. -/
def Fill (all : Nat → Nat) (T Sb : Nat) (V : World) : Prop :=
  ∃ F, IntBlk V Sb .u8 25 (mk 64 F) ∧ (∀ j, j < T % 64 → F j = all (64 * (T / 64) + j)) ∧ IntBlk V (Sb + 1) .i64 3 [((T % 64 : Nat) : Int)]
theorem Fill.below {all : Nat → Nat} {T Sb M : Nat} {V V' : World} (h : Fill all T Sb V) (hb : Below M V V') (hM : Sb + 1 < M) : Fill all T Sb V' :=
  let ⟨F, h1, h2, h3⟩ := h; ⟨F, h1.below hb (by omega), h2, h3.below hb hM⟩
theorem Fill.aft {all : Nat → Nat} {T Sb M : Nat} {V V' : World} (h : Fill all T Sb V) (hb : Aft M V V') (hM : M ≤ Sb) : Fill all T Sb V' :=
  let ⟨F, h1, h2, h3⟩ := h; ⟨F, (hb.same _ hM h1.lt).trans h1, h2, (hb.same _ (by omega) h3.lt).trans h3⟩
/-- Between two parts. -/
def PcI (S0 np cap l : Nat) (q : Option Addr) (P : Nat → Option Addr × Nat × Nat) (all : Nat → Nat) (J : Nat → World → Prop) (i : Nat) (V : World) : Prop :=
  J (offA np P i / 64) V ∧ Fill all (offA np P i) (S0 + 1) V ∧ V.heap[S0]? = some (.cells #[.func (.yield l) #[] #[]] 70 (0, 0)) ∧ V.heap[S0 + 3]? = some (.cells #[.slice q np cap] 46 (0, 0)) ∧ S0 + 4 ≤ V.heap.size
theorem offA_step {np i pn pc : Nat} {pa : Option Addr} {P : Nat → Option Addr × Nat × Nat} {base : Nat} {V : World} (h : handed np P base i V (pa, pn, pc)) : offA np P (i + 1) = offA np P i + pn := by
  rcases h with ⟨hi, hx⟩ | ⟨hi, D, hx, _⟩
  · rw [offA_in (by omega), offA_in (by omega)]
    show lenTo P i + (P i).2.1 = _
    rw [← hx]
  · subst hi
    have e : pn = padL (lenTo P i) := by simpa using congrArg (fun x => x.2.1) hx
    unfold offA; rw [if_neg (by omega), if_pos (Nat.le_refl _), e]
theorem part_key {S0 Bq np cap i pn pc : Nat} {q pa : Option Addr} {P : Nat → Option Addr × Nat × Nat} {g : Nat → Nat} {J : Nat → World → Prop} {U U2 : World} (hx : handed np P (S0 + 4 + 2) i U (pa, pn, pc)) (hk2 : ∀ k, k ≠ S0 + 4 + 1 → U2.heap[k]? = U.heap[k]?)
    (hPB : ∀ i, i < np → (P i).2.1 ≠ 0 → ∃ B o, (P i).1 = some ⟨B, o, none⟩ ∧ B < S0) (hPc : ∀ i, i < np → (P i).2.1 ≤ (P i).2.2) (hRd : ∀ k V, J k V → Reads Bq np cap q P g V) :
    pn ≤ pc ∧ ∃ B o, (pn ≠ 0 → pa = some ⟨B, o, none⟩) ∧ B ≠ S0 + 1 ∧ B ≠ S0 + 1 + 1 ∧ ∀ k U3, J k U3 → Aft (S0 + 4) U2 U3 → Cells U3 B o pn (fun j => allB (lenTo P np) g (offA np P i + j)) := by
  rcases hx with ⟨hi, hx⟩ | ⟨hi, D, hx, hD, hblk⟩
  · have ea : pa = (P i).1 := congrArg (fun x => x.1) hx
    have en : pn = (P i).2.1 := congrArg (fun x => x.2.1) hx
    have ec : pc = (P i).2.2 := congrArg (fun x => x.2.2) hx
    refine ⟨by rw [en, ec]; exact hPc i hi, ?_⟩
    by_cases h0 : pn = 0
    · exact ⟨S0, 0, fun h => absurd h0 h, by omega, by omega, fun k U3 _ _ j hj => by omega⟩
    · obtain ⟨B, o, hB, hlt⟩ := hPB i hi (by rw [← en]; exact h0)
      refine ⟨B, o, fun _ => by rw [ea, hB], by omega, by omega, fun k U3 hj _ j hjn => ?_⟩
      rcases (hRd k U3 hj).2.2 i hi with h | ⟨B', o', hB', hc⟩
      · omega
      · rw [hB] at hB'
        simp only [Option.some.injEq, Addr.mk.injEq, and_true] at hB'
        obtain ⟨rfl, rfl⟩ := hB'
        have hle := lenTo_mono P (show i + 1 ≤ np by omega)
        have hs : lenTo P (i + 1) = lenTo P i + (P i).2.1 := rfl
        have e : allB (lenTo P np) g (offA np P i + j) = g (lenTo P i + j) := by rw [offA_in (by omega)]; unfold allB; rw [if_pos (by omega)]
        show U3.cell? _ = some (.int .u8 (allB (lenTo P np) g (offA np P i + j) : Nat))
        rw [e]; exact hc j (by omega)
  · subst hi
    simp only [Prod.mk.injEq] at hx
    obtain ⟨rfl, rfl, rfl⟩ := hx
    refine ⟨Nat.le_refl _, D, 0, fun _ => rfl, by omega, by omega, fun k U3 _ hA j hjn => ?_⟩
    have e : allB (lenTo P i) g (offA i P i + j) = padB (lenTo P i) j := by rw [offA_in (Nat.le_refl _)]; unfold allB; rw [if_neg (by omega), Nat.add_sub_cancel_left]
    have b2 : IntBlk U2 D .u8 5 (mk (padL (lenTo P i)) (padB (lenTo P i))) := (hk2 D (by omega)).trans hblk
    have b3 : IntBlk U3 D .u8 5 (mk (padL (lenTo P i)) (padB (lenTo P i))) := (hA.same D (by omega) b2.lt).trans b2
    have := b3.cells (o := 0) (n := padL (lenTo P i)) (by omega) j hjn
    simp only [Nat.zero_add] at this
    show U3.cell? _ = some (.int .u8 (allB (lenTo P i) g (offA i P i + j) : Nat))
    rw [e, Nat.zero_add]; exact this
theorem wpListIn_load_piece {F : Fence} {l n : Nat} {ops : Array Oper} {rest : List Oper} {o : Oper} {a : Act} {w : World} {Q : Exit → Act → World → Prop} (hF : F = Fence.wide.inRound l) (hw : Region.wanted o (yielded ops a.tmps) = true) (x : Operand) (ho : o.op = .load 25 x) (B : Nat) (f : Nat → Nat)
    (hx : a.eval x = .pointer (some ⟨B, 0, none⟩)) (hB : IntBlk w B .u8 25 (mk 64 f)) (h : wpListIn F n Tryd.prog ops Q rest (a.put o.dst (.agg (cellsOf .u8 (mk 64 f)))) w) : wpListIn F n Tryd.prog ops Q (o :: rest) a w := by
  subst hF
  refine wpListIn_step fun K hK => ?_
  rw [if_pos hw]
  exact oper_round (by unfold noDefer; rw [ho]) (wp_load_row 25 x ho B hx 25 (cellsOf .u8 (mk 64 f)) (0, 0) _ hB pieceUnder rfl (pieceSize f) (hK _ _ h))
theorem Cells.part {w : World} {B o n0 : Nat} {f : Nat → Nat} (h : Cells w B o n0 f) {d n : Nat} (hd : d + n ≤ n0) : Cells w B (o + d) n (fun j => f (d + j)) := fun j hj => by
  rw [Nat.add_assoc]; exact h (d + j) (by omega)
theorem wpListIn_from {F : Fence} {l n : Nat} {ops : Array Oper} {rest : List Oper} {o : Oper} {a : Act} {w : World} {Q : Exit → Act → World → Prop} (hF : F = Fence.wide.inRound l) (hg : o.guard = none) (x y : Operand) (ho : o.op = .slice 22 x (some y) none none) (B off n1 c1 nn : Nat)
    (hx : a.eval x = .slice (some ⟨B, off, none⟩) n1 c1) (hy : a.eval y = .int .i64 nn) (h0 : nn ≤ n1) (h1 : n1 ≤ c1)
    (h : ∀ a' c', n1 - nn ≤ c' → (nn < n1 → a' = some ⟨B, off + nn, none⟩) → wpListIn F n Tryd.prog ops Q rest (a.put o.dst (.slice a' (n1 - nn) c')) w) : wpListIn F n Tryd.prog ops Q (o :: rest) a w := by
  subst hF
  refine wpListIn_plain hg fun K hK => ?_
  refine oper_round (by unfold noDefer; rw [ho]) ?_
  have e1 : (0 : Int) ≤ nn := by omega
  have e2 : (nn : Int) ≤ n1 := by omega
  have hs := byteElem.run_size (P := Tryd.prog) w
  have hr : (Instr.sliceAt 22 (.slice (some ⟨B, off, none⟩) n1 c1) (some (.int .i64 nn)) none none).run Tryd.prog w = .ok (.slice (if c1 = nn then some ⟨B, off, none⟩ else some ⟨B, off + nn, none⟩) (n1 - nn) (c1 - nn)) w := by
    simp [go_sem, e1, e2, hs, addr_add, Program.elem]
  have := hK _ _ (h (if c1 = nn then some ⟨B, off, none⟩ else some ⟨B, off + nn, none⟩) (c1 - nn) (by omega) (fun h => if_neg (by omega)))
  unfold Oper.wp execOp
  simp only [ho, hx]
  simp [hy, hr]
  exact this
theorem roundIn_any {n n' l lr : Nat} {f : FuncId} {tmps : Array Value} {asg bd : Code} {w : World} {R : Ending → World → Prop} (h : RoundIn Fence.wide n Tryd.prog lr f tmps asg bd w R) : RoundIn (Fence.wide.inRound l) n' Tryd.prog lr f tmps asg bd w R := ⟨h.1, fun c cs _ => h.2 c cs (room_wide _)⟩
theorem bytesInfo1 : (Tryd.prog.info? 5).map (·.size) = some 1 := by kernel_rfl
attribute [local irreducible] padL padB offA cntP

set_option maxRecDepth 100000 in
set_option maxHeartbeats 1000000 in
theorem pieces_gives (m Bq np cap : Nat) (q : Option Addr) (P : Nat → Option Addr × Nat × Nat) (g : Nat → Nat) (hnp : np ≤ 1000) (hN : lenTo P np ≤ 1000000) (hPc : ∀ i, i < np → (P i).2.1 ≤ (P i).2.2) :
    GivesTo Fence.wide m Tryd.prog 41 #[.pointer (some ⟨Bq, 0, none⟩)] (fun x : Nat => #[.agg (cellsOf .u8 (mk 64 (pieceB (allB (lenTo P np) g) x)))]) (fun _ i _ x => x = i) (cntP (lenTo P np))
      (Reads Bq np cap q P g) := fun l J Jx W hR hJ hJx hY h0 => by
  refine callsIn_of_wp_marks Tryd.func41 rfl trivial ?_ rfl
  simp only [Tryd.ntmps41, List.size_toArray, List.length_cons, List.length_nil, Nat.reduceAdd, Nat.reduceSub, Array.replicate_succ, Array.replicate_zero, List.push_toArray, List.append_toArray, List.nil_append, List.cons_append]
  obtain ⟨hb0, hpa0, htx0⟩ := hR 0 W h0
  have hBq := block_lt_of_cell hb0
  refine wpIn_wide.2 ?_
  go_wp2
  go_step3
  go_wp2
  go_step3
  change Exit.then _ _ _ _ (((W.alloc (.cells #[.func (.yield l) #[] #[]] 70)).alloc (.cells (cellsOf .u8 (mk 64 zeroK)) 25)).alloc (.cells #[.int .i64 0] 3))
  have A0 : (((W.alloc (.cells #[.func (.yield l) #[] #[]] 70)).alloc (.cells (cellsOf .u8 (mk 64 zeroK)) 25)).alloc (.cells #[.int .i64 0] 3)).heap[W.heap.size]? = some (.cells #[.func (.yield l) #[] #[]] 70 (0, 0)) := by
    rw [Below.heap_alloc _ _ _ (by simp; omega), Below.heap_alloc _ _ _ (by simp)]; exact heap_alloc_new _ _
  have A1 : IntBlk (((W.alloc (.cells #[.func (.yield l) #[] #[]] 70)).alloc (.cells (cellsOf .u8 (mk 64 zeroK)) 25)).alloc (.cells #[.int .i64 0] 3)) (W.heap.size + 1) .u8 25 (mk 64 zeroK) := blk_second W .u8 _ (mk 64 zeroK) _ _
  have A2 : IntBlk (((W.alloc (.cells #[.func (.yield l) #[] #[]] 70)).alloc (.cells (cellsOf .u8 (mk 64 zeroK)) 25)).alloc (.cells #[.int .i64 0] 3)) (W.heap.size + 1 + 1) .i64 3 [0] := blk_third W .i64 _ [0] _ _
  have A3 : Below W.heap.size W (((W.alloc (.cells #[.func (.yield l) #[] #[]] 70)).alloc (.cells (cellsOf .u8 (mk 64 zeroK)) 25)).alloc (.cells #[.int .i64 0] 3)) := below_three W _ _ _
  have A4 : (((W.alloc (.cells #[.func (.yield l) #[] #[]] 70)).alloc (.cells (cellsOf .u8 (mk 64 zeroK)) 25)).alloc (.cells #[.int .i64 0] 3)).heap.size = W.heap.size + 3 := by simp
  generalize (((W.alloc (.cells #[.func (.yield l) #[] #[]] 70)).alloc (.cells (cellsOf .u8 (mk 64 zeroK)) 25)).alloc (.cells #[.int .i64 0] 3)) = V at *
  have hb1 := (A3.cell (p := ⟨Bq, 0, none⟩) hBq).trans hb0
  have HR := Lib.hid hR
  have HJ := Lib.hid hJ
  have HJX := Lib.hid hJx
  have HY := Lib.hid hY
  have hI0 : PcI W.heap.size np cap l q P (allB (lenTo P np) g) J 0 (V.alloc (.cells #[.slice q np cap] 46)) := by
    have e0 : offA np P 0 = 0 := by rw [offA_in (Nat.zero_le _)]; rfl
    unfold PcI
    rw [e0]
    have hbv : Below W.heap.size W (V.alloc (.cells #[.slice q np cap] 46)) := A3.alloc (by omega) _
    refine ⟨hJ 0 _ _ h0 hbv, ⟨zeroK, A1.alloc _, fun j hj => absurd hj (by simp), A2.alloc _⟩, ?_, ?_, ?_⟩
    · rw [Below.heap_alloc _ _ _ (by omega)]; exact A0
    · rw [← A4]; exact heap_alloc_new _ _
    · simp; omega
  have HI0 := Lib.hid hI0
  have H4 := Lib.hid A4
  have hPB : ∀ i, i < np → (P i).2.1 ≠ 0 → ∃ B o, (P i).1 = some ⟨B, o, none⟩ ∧ B < W.heap.size := fun i hi h0 => by
    rcases htx0 i hi with h | ⟨B, o, hp, hc⟩
    · exact absurd h h0
    · exact ⟨B, o, hp, block_lt_of_cell (hc 0 (by omega))⟩
  have HPB := Lib.hid hPB
  clear hR hJ hJx hY h0 hI0 A0 A1 A2 A3 htx0 hpa0 hb0 hPB
  generalize W.heap.size = S0 at *
  go_wp2_with (go_at_call 42; refine (padded_any _ _ _ _).mono ?_; rintro e w1 ⟨rfl, rfl⟩)
  have hsz : (V.alloc (.cells #[.slice q np cap] 46)).heap.size = S0 + 4 := by rw [World.size_alloc, H4.out]
  generalize V.alloc (.cells #[.slice q np cap] 46) = V0 at *
  clear hb1 H4 hBq
  refine (wpIn_wide (n := 3)).1 ?_
  refine range_ends rfl (by omega) (gf := 47) (lb := #[.pointer (some ⟨S0 + 3, 0, none⟩)]) rfl trivial (enters_of Tryd.func47 (by kernel_rfl) rfl)
    (fun x : Option Addr × Nat × Nat => #[.slice x.1 x.2.1 x.2.2]) (handed np P) (np + 1) (fun V => V.cell? ⟨S0 + 3, 0, none⟩ = some (.slice q np cap) ∧ PartsAt V q np P) (fun _ => rfl)
    (PcI S0 np cap l q P (allB (lenTo P np) g) J) (fun c V => c = .exit 0 ∧ Jx V ∧ S0 + 4 ≤ V.heap.size) ?rd ?st ?stx HI0.out (padded_gives _ _ np cap q P hnp hN) ?round ?done ?stop
  case rd =>
    rintro i U ⟨h1, h2, h3, h4, h5⟩
    exact ⟨cell_of_one h4, (HR.out _ _ h1).2.1⟩
  case st =>
    rintro i U U' ⟨h1, h2, h3, h4, h5⟩ hb
    rw [hsz] at hb
    exact ⟨HJ.out _ _ _ h1 (hb.mono (by omega)), h2.below hb (by omega), (hb.block _ (by omega)).trans h3, (hb.block _ (by omega)).trans h4, Nat.le_trans h5 hb.size⟩
  case stx =>
    rintro c U U' ⟨h1, h2, h3⟩ hb
    rw [hsz] at hb
    exact ⟨h1, HJX.out _ _ h2 (hb.mono (by omega)), Nat.le_trans h3 hb.size⟩
  case done =>
    rintro D U hD ⟨h1, h2, h3, h4, h5⟩ hd
    rw [offA_end, Nat.mul_div_cancel_left _ (by omega)] at h1
    rw [hsz] at hD
    go_wp2
    refine ⟨by simp, .inl ⟨_, _, rfl, run_takeDeferred hd, ?_⟩⟩
    exact ⟨_, results_none rfl _ _ _, ⟨_, rfl⟩, .inl (HJ.out _ _ _ h1 (below_put _ (by omega)))⟩
  case stop =>
    rintro D c U hD ⟨rfl, hx, h5⟩ hd
    rw [hsz] at hD
    gi_wp2
    refine ⟨by simp, .inl ⟨_, _, rfl, run_takeDeferred hd, ?_⟩⟩
    exact ⟨_, results_none rfl _ _ _, ⟨_, rfl⟩, .inr (HJX.out _ _ hx (below_put _ (by omega)))⟩
  case round =>
    rintro l2 i ⟨pa, pn, pc⟩ U hl hi hus hI hx
    gi_wp2
    refine ⟨Aft.refl _ _, fun U2 hs2 hk2 hb2 => ?_⟩
    rw [hsz] at hk2 hb2 hus hx
    obtain ⟨h1, h2, h3, h4, h5⟩ := hI
    have g1 := HJ.out _ _ _ h1 (hb2.mono (by omega))
    have g2 := h2.below hb2 (by omega)
    have g3 := (hb2.block S0 (by omega)).trans h3
    have g4 := (hb2.block (S0 + 3) (by omega)).trans h4
    obtain ⟨hpc, B, o, hpa, hB1, hB2, hcl⟩ := part_key hx hk2 HPB.out hPc HR.out
    have hst := offA_step hx
    have hend : offA np P (i + 1) ≤ 64 * cntP (lenTo P np) := by
      rcases hx with ⟨hi, _⟩ | ⟨hi, _⟩
      · rw [offA_in (by omega), cntP_mul]; exact Nat.le_trans (lenTo_mono P (by omega)) (Nat.le_add_right _ _)
      · rw [hi, offA_end]; exact Nat.le_refl _
    have HCL := Lib.hid hcl
    have HZ := Lib.hid hsz
    have HST := Lib.hid hst
    rw [hst] at hend
    have hpcb : pc ≤ pc := Nat.le_refl _
    clear h1 h2 h3 h4 hx hk2 hcl HI0 hsz hb2 hst
    generalize allB (lenTo P np) g = all at *
    generalize hT0 : offA np P i = T0 at *
    generalize cntP (lenTo P np) = M at *
    gi_wp2
    gi_loopw [5] (fun v5 wr => ∃ d, d ≤ pn ∧ (∃ a' c', v5 = .slice a' (pn - d) c' ∧ pn - d ≤ c' ∧ (d < pn → a' = some ⟨B, o + d, none⟩)) ∧ J ((T0 + d) / 64) wr ∧ Fill all (T0 + d) (S0 + 1) wr ∧ wr.heap[S0]? = some (.cells #[.func (.yield l) #[] #[]] 70 (0, 0)) ∧
      wr.heap[S0 + 3]? = some (.cells #[.slice q np cap] 46 (0, 0)) ∧ Aft (S0 + 4) U2 wr) (fun v5 _ => match v5 with | .slice _ n _ => n | _ => 0)
    case atStart => exact ⟨0, by omega, ⟨pa, pc, rfl, by omega, fun h => by rw [Nat.add_zero]; exact hpa (by omega)⟩, g1, g2, g3, g4, Aft.refl _ _⟩
    case round =>
      clear g1 g2 g3 g4 hpa
      obtain ⟨d, hd, ⟨a', c', rfl, hc', ha'⟩, j1, j2, j3, j4, j5⟩ := hrel
      have hws := j5.size
      by_cases hlt : d < pn
      · have ha := ha' hlt
        subst ha
        have hcl := (HCL.out _ wr j1 j5).part (d := d) (n := pn - d) (by omega)
        obtain ⟨F, f1, f2, f3⟩ := j2
        obtain ⟨n1, hn1⟩ : ∃ n1, pn - d = n1 := ⟨_, rfl⟩
        obtain ⟨c, hc⟩ : ∃ c, (T0 + d) % 64 = c := ⟨_, rfl⟩
        obtain ⟨k, hk⟩ : ∃ k, (T0 + d) / 64 = k := ⟨_, rfl⟩
        rw [hn1] at hcl hc'
        rw [hc, hk] at f2
        rw [hc] at f3
        rw [hk] at j1
        obtain ⟨nn, hnn⟩ : ∃ nn, Nat.min n1 (64 - c) = nn := ⟨_, rfl⟩
        have hnn1 : nn ≤ n1 := by rw [← hnn]; exact Nat.min_le_left _ _
        have hnn2 : nn ≤ 64 - c := by rw [← hnn]; exact Nat.min_le_right _ _
        have hnn3 : nn = n1 ∨ nn = 64 - c := by
          rw [← hnn]; rcases Nat.le_total n1 (64 - c) with h | h
          · exact .inl (Nat.min_eq_left h)
          · exact .inr (Nat.min_eq_right h)
        have hc64 : c < 64 := by omega
        have hTc : T0 + d = 64 * k + c := by omega
        have hF' : ∀ j, j < c + nn → put F c nn (fun j => all (T0 + (d + j))) j = all (64 * k + j) := fun j hj => by
          unfold put
          by_cases h : c ≤ j ∧ j < c + nn
          · rw [if_pos h]; show all (T0 + (d + (j - c))) = _; rw [show T0 + (d + (j - c)) = 64 * k + j by omega]
          · rw [if_neg h]; exact f2 j (by omega)
        have cf := f3.cell (i := 0) (by simp)
        have ff := f3.free 0
        simp only [List.getD_cons_zero] at cf
        have HF1 := Lib.hid f1
        have HF3 := Lib.hid f3
        have HFF := Lib.hid hF'
        have HC : Hid (Cells wr B (o + d) nn (fun j => all (T0 + (d + j)))) := Lib.hid (fun j hj => hcl j (by omega))
        have HN := Lib.hid hnn.symm
        have H3 := Lib.hid j3
        have H4 := Lib.hid j4
        have H5 := Lib.hid j5
        have HJ1 := Lib.hid j1
        have l1 : (0 : Int) < n1 := by omega
        have l2' : (0 : Int) ≤ c := by omega
        have l3 : (c : Int) ≤ 64 := by omega
        have l4 : (0 : Int) ≤ nn := by omega
        have l5 : (nn : Int) ≤ n1 := by omega
        have l6 : n1 ≤ c' := hc'
        have hc0 : ¬ (64 = c) := by omega
        clear f1 f2 f3 hcl hnn j3 j4 j5 j1 ha' hc'
        rw [hn1]
        have hd2 : d + nn ≤ pn := by omega
        by_cases hfull : c + nn = 64
        · have t1 : (((c : Int) + nn) == 64) = true := by simp; omega
          have t2 : ((c : Int) + nn) % 64 = 0 := by omega
          have hpce : mk 64 (put F c nn (fun j => all (T0 + (d + j)))) = mk 64 (pieceB all k) := mk_ext fun j hj => hF' j (by omega)
          have HPC := Lib.hid hpce
          clear hpce hF'
          gi_wp2_with (first
            | (refine wpListIn_of_list rfl rfl rfl (wpList_copy_part rfl _ _ 22 22 rfl 5 bytesUnder bytesInfo1 (S0 + 1) c (64 - c) (64 - c) B (o + d) n1 c' nn 64 F (fun j => all (T0 + (d + j))) rfl rfl 25 HF1.out (by omega) HN.out HC.out ⟨rfl, rfl, rfl⟩) ?_
               have G1 := HF1.out.setRow .u8 (mk 64 (put F c nn (fun j => all (T0 + (d + j)))))
               have G3 := HF3.out.otherRow (C := S0 + 1) (by omega) (cellsOf .u8 (mk 64 (put F c nn (fun j => all (T0 + (d + j))))))
               have GA : Aft (S0 + 4) wr (wr.setRow (S0 + 1) (cellsOf .u8 (mk 64 (put F c nn (fun j => all (T0 + (d + j))))))) := ⟨by simp, fun k hk _ => setRow_other wr _ k _ (by omega)⟩
               have GB : Below S0 wr (wr.setRow (S0 + 1) (cellsOf .u8 (mk 64 (put F c nn (fun j => all (T0 + (d + j))))))) := below_setRow (Below.refl _ _) (by omega) _
               have K3 := (setRow_other wr (S0 + 1) S0 (cellsOf .u8 (mk 64 (put F c nn (fun j => all (T0 + (d + j)))))) (by omega)).trans H3.out
               have K4 := (setRow_other wr (S0 + 1) (S0 + 3) (cellsOf .u8 (mk 64 (put F c nn (fun j => all (T0 + (d + j)))))) (by omega)).trans H4.out
               generalize wr.setRow (S0 + 1) (cellsOf .u8 (mk 64 (put F c nn (fun j => all (T0 + (d + j)))))) = w6 at *
               have cf6 := G3.cell (i := 0) (by simp)
               have ff6 := G3.free 0
               simp only [List.getD_cons_zero] at cf6
               have HG1 := Lib.hid G1; have HG3 := Lib.hid G3; have HGA := Lib.hid GA; have HGB := Lib.hid GB; have HK3 := Lib.hid K3; have HK4 := Lib.hid K4
               have K3c : w6.cell? ⟨S0, 0, none⟩ = some (.func (.yield l) #[] #[]) := cell_of_one K3
               clear cf ff G1 G3 GA GB K3 K4)
            | (refine wpListIn_from rfl rfl _ _ rfl B (o + d) n1 c' nn rfl rfl hnn1 l6 ?_; intro a2 c2 hc2 ha2)
            | (refine wpListIn_load_piece rfl rfl _ rfl (S0 + 1) (pieceB all k) rfl (by rw [← HPC.out]; exact HG1.out.other (by show S0 + 1 + 1 ≠ S0 + 1; omega) _) ?_
               obtain ⟨fn, tmps, assign, body, hy, hRr⟩ := HY.out k (w6.setCell ⟨S0 + 1 + 1, 0, none⟩ (.int .i64 ((c : Int) + nn))) k (by omega) (by have := HGA.out.size; have := H5.out.size; simp [World.setCell]; omega) (HJ.out _ _ _ HJ1.out (HGB.out.setCell (by show S0 ≤ S0 + 1 + 1; omega) _)) rfl
               have hGB7 : Aft (S0 + 4) wr (w6.setCell ⟨S0 + 1 + 1, 0, none⟩ (.int .i64 ((c : Int) + nn))) := HGA.out.setCell (by show S0 + 1 + 1 < S0 + 4; omega) _
               have hB1 : IntBlk (w6.setCell ⟨S0 + 1 + 1, 0, none⟩ (.int .i64 ((c : Int) + nn))) (S0 + 1) .u8 25 (mk 64 (pieceB all k)) := by rw [← HPC.out]; exact HG1.out.other (by show S0 + 1 + 1 ≠ S0 + 1; omega) _
               have hB3 : IntBlk (w6.setCell ⟨S0 + 1 + 1, 0, none⟩ (.int .i64 ((c : Int) + nn))) (S0 + 1 + 1) .i64 3 [(c : Int) + nn] := HG3.out.set 0 _
               have hK3 := (Below.heap_setCell w6 ⟨S0 + 1 + 1, 0, none⟩ (.int .i64 ((c : Int) + nn)) S0 (by show S0 ≠ S0 + 1 + 1; omega)).trans HK3.out
               have hK4 := (Below.heap_setCell w6 ⟨S0 + 1 + 1, 0, none⟩ (.int .i64 ((c : Int) + nn)) (S0 + 3) (by show S0 + 3 ≠ S0 + 1 + 1; omega)).trans HK4.out
               have L7 := Lib.hid hGB7; have LB1 := Lib.hid hB1; have LB3 := Lib.hid hB3; have LK3 := Lib.hid hK3; have LK4 := Lib.hid hK4
               clear hGB7 hB1 hB3 hK3 hK4 HGA HGB HG1 HG3 HK3 HK4))
          refine RoundIn.mono (roundIn_any hRr) ?_
          rintro e W3 (⟨rfl, hj3, ha3⟩ | ⟨rfl, hx3, ha3⟩)
          · have M1 : IntBlk W3 (S0 + 1) .u8 25 (mk 64 (pieceB all k)) := (ha3.same _ (by omega) LB1.out.lt).trans LB1.out
            have M3 : IntBlk W3 (S0 + 1 + 1) .i64 3 [(c : Int) + nn] := (ha3.same _ (by omega) LB3.out.lt).trans LB3.out
            have MK3 := (ha3.same S0 (Nat.le_refl _) (Array.getElem?_eq_some_iff.1 LK3.out).1).trans LK3.out
            have MK4 := (ha3.same (S0 + 3) (by omega) (Array.getElem?_eq_some_iff.1 LK4.out).1).trans LK4.out
            have MA := H5.out.trans (L7.out.trans (ha3.mono (by omega)))
            have cf := M3.cell (i := 0) (by simp)
            have ff := M3.free 0
            simp only [List.getD_cons_zero] at cf
            have N1 := Lib.hid M1; have N3 := Lib.hid M3; have NK3 := Lib.hid MK3; have NK4 := Lib.hid MK4; have NA := Lib.hid MA; have NJ := Lib.hid hj3
            clear M1 M3 MK3 MK4 MA hj3 ha3 hRr hy K3c LB1 LB3 LK3 LK4 L7
            gi_wp2
            go_roundw
            case rel =>
              refine ⟨d + nn, hd2, ⟨a2, c2, by rw [show pn - (d + nn) = n1 - nn by omega], by omega, fun h => by rw [ha2 (by omega), Nat.add_assoc]⟩, ?_, ⟨pieceB all k, ?_, fun j hj => absurd hj (by omega), ?_⟩, ?_, ?_, NA.out.setCell (by show S0 + 1 + 1 < S0 + 4; omega) _⟩
              · rw [show (T0 + (d + nn)) / 64 = k + 1 by omega]
                exact HJ.out _ _ _ NJ.out ((Below.refl _ _).setCell (by show S0 ≤ S0 + 1 + 1; omega) _)
              · exact N1.out.other (by show S0 + 1 + 1 ≠ S0 + 1; omega) _
              · rw [show (T0 + (d + nn)) % 64 = 0 by omega]
                exact N3.out.set 0 _
              · exact (Below.heap_setCell W3 _ _ S0 (by show S0 ≠ S0 + 1 + 1; omega)).trans NK3.out
              · exact (Below.heap_setCell W3 _ _ (S0 + 3) (by show S0 + 3 ≠ S0 + 1 + 1; omega)).trans NK4.out
            case measure => show n1 - nn < n1; omega
          · gi_wp2
            exact ⟨by rw [HZ.out]; exact H5.out.trans (L7.out.trans (ha3.mono (by omega))), rfl, hx3, by have := ha3.size; have := L7.out.size; have := H5.out.size; omega⟩
        · have t1 : (((c : Int) + nn) == 64) = false := by simp; omega
          have t2 : ((c : Int) + nn) % 64 = (c : Int) + nn := by omega
          clear hF'
          gi_wp2_with (first
            | (refine wpListIn_of_list rfl rfl rfl (wpList_copy_part rfl _ _ 22 22 rfl 5 bytesUnder bytesInfo1 (S0 + 1) c (64 - c) (64 - c) B (o + d) n1 c' nn 64 F (fun j => all (T0 + (d + j))) rfl rfl 25 HF1.out (by omega) HN.out HC.out ⟨rfl, rfl, rfl⟩) ?_
               have G1 := HF1.out.setRow .u8 (mk 64 (put F c nn (fun j => all (T0 + (d + j)))))
               have G3 := HF3.out.otherRow (C := S0 + 1) (by omega) (cellsOf .u8 (mk 64 (put F c nn (fun j => all (T0 + (d + j))))))
               have GA : Aft (S0 + 4) wr (wr.setRow (S0 + 1) (cellsOf .u8 (mk 64 (put F c nn (fun j => all (T0 + (d + j))))))) := ⟨by simp, fun k hk _ => setRow_other wr _ k _ (by omega)⟩
               have GB : Below S0 wr (wr.setRow (S0 + 1) (cellsOf .u8 (mk 64 (put F c nn (fun j => all (T0 + (d + j))))))) := below_setRow (Below.refl _ _) (by omega) _
               have K3 := (setRow_other wr (S0 + 1) S0 (cellsOf .u8 (mk 64 (put F c nn (fun j => all (T0 + (d + j)))))) (by omega)).trans H3.out
               have K4 := (setRow_other wr (S0 + 1) (S0 + 3) (cellsOf .u8 (mk 64 (put F c nn (fun j => all (T0 + (d + j)))))) (by omega)).trans H4.out
               generalize wr.setRow (S0 + 1) (cellsOf .u8 (mk 64 (put F c nn (fun j => all (T0 + (d + j)))))) = w6 at *
               have cf6 := G3.cell (i := 0) (by simp)
               have ff6 := G3.free 0
               simp only [List.getD_cons_zero] at cf6
               have HG1 := Lib.hid G1; have HG3 := Lib.hid G3; have HGA := Lib.hid GA; have HGB := Lib.hid GB; have HK3 := Lib.hid K3; have HK4 := Lib.hid K4
               have K3c : w6.cell? ⟨S0, 0, none⟩ = some (.func (.yield l) #[] #[]) := cell_of_one K3
               clear cf ff G1 G3 GA GB K3 K4)
            | (refine wpListIn_from rfl rfl _ _ rfl B (o + d) n1 c' nn rfl rfl hnn1 l6 ?_; intro a2 c2 hc2 ha2))
          refine ⟨fun _ h => (by cases h), ?_⟩
          gi_wp2
          go_roundw
          case rel =>
            have eT : (((T0 + (d + nn)) % 64 : Nat) : Int) = (c : Int) + nn := by omega
            refine ⟨d + nn, hd2, ⟨a2, c2, by rw [show pn - (d + nn) = n1 - nn by omega], by omega, fun h => by rw [ha2 (by omega), Nat.add_assoc]⟩, ?_, ⟨put F c nn (fun j => all (T0 + (d + j))), ?_, ?_, ?_⟩, ?_, ?_, ?_⟩
            · rw [show (T0 + (d + nn)) / 64 = k by omega]
              exact HJ.out _ _ _ HJ1.out ((HGB.out.setCell (by show S0 ≤ S0 + 1 + 1; omega) _).setCell (by show S0 ≤ S0 + 1 + 1; omega) _)
            · exact (HG1.out.other (by show S0 + 1 + 1 ≠ S0 + 1; omega) _).other (by show S0 + 1 + 1 ≠ S0 + 1; omega) _
            · rw [show (T0 + (d + nn)) / 64 = k by omega]
              exact fun j hj => HFF.out j (by omega)
            · rw [eT]
              exact (HG3.out.set 0 _).set 0 _
            · exact (Below.heap_setCell _ _ _ S0 (by show S0 ≠ S0 + 1 + 1; omega)).trans ((Below.heap_setCell _ _ _ S0 (by show S0 ≠ S0 + 1 + 1; omega)).trans HK3.out)
            · exact (Below.heap_setCell _ _ _ (S0 + 3) (by show S0 + 3 ≠ S0 + 1 + 1; omega)).trans ((Below.heap_setCell _ _ _ (S0 + 3) (by show S0 + 3 ≠ S0 + 1 + 1; omega)).trans HK4.out)
            · exact H5.out.trans ((HGA.out.setCell (by show S0 + 1 + 1 < S0 + 4; omega) _).setCell (by show S0 + 1 + 1 < S0 + 4; omega) _)
          case measure => show n1 - nn < n1; omega
      · have e : d = pn := by omega
        subst e
        have ht : T0 + d = offA np P (i + 1) := HST.out.symm
        rw [ht] at j1 j2
        have e1 : d - d = 0 := Nat.sub_self d
        have HJ1 := Lib.hid j1; have HJ2 := Lib.hid j2; have HJ3 := Lib.hid j3; have HJ4 := Lib.hid j4; have HJ5 := Lib.hid j5
        clear j1 j2 j3 j4 j5 ha' hc'
        rw [e1]
        gi_wp2
        exact ⟨by rw [HZ.out]; exact HJ5.out, HJ1.out, HJ2.out, HJ3.out, HJ4.out, by omega⟩
end Go.Proofs.YtfjbehobpkmjbaaDoor
