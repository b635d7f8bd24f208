/- PlatterPlays: a disk does what the document's does, call by call, for every number of sectors and counters and every script that is not too great to count. Condition: what comes in is of bulk at most 1048576. -/
import Derived.Test.YtbejfpdkfpgipaaPlPlay
import Derived.JoinedCond
namespace Go.Proofs.Ytbejfpdkfpgipaa.platterPlays
open Go.ChangeShapes Go.WideShapes Go.ChangeAt Go.RowKit
set_option linter.unusedVariables false
theorem own : ownKnob Try.prog.godebug = none := by kernel_rfl
theorem apartO {w0 wr wb : World} {b : Blks} {r : RBlk} {base : Nat} {d e : Disk} {L : Nat} {R : Since} (h : PS w0 wr b r base d e L R) : ¬ b.own wr.heap.size ∧ ¬ r.own R e.ns wr.heap.size := ⟨h.newB (Nat.le_refl _), h.newR (Nat.le_refl _)⟩
theorem start_ps {w W2 W3 : World} {b : Blks} {r : RBlk} {n m : Nat} (h2 : DiskAt W2 b (newD n m)) (lb : ∀ k, b.own k → w.heap.size ≤ k) (b2 : Below w.heap.size w W2) (hr : RefAt W3 r W3.heap.size (newD n m) 0 noRows) (hb : Below W2.heap.size W2 W3) (ho : ∀ k, r.fix k → W2.heap.size ≤ k) : PS w W3 b r W3.heap.size (newD n m) (newD n m) 0 noRows :=
  ⟨h2.below hb, hr, b2.trans (hb.mono b2.size), fun k hk => ⟨lb k hk, Nat.lt_of_lt_of_le (h2.lt hk) hb.size⟩, fun k hk => Nat.le_trans b2.size (ho k hk), fun k hk hr => by have := h2.lt hk; have := ho k hr; omega, Nat.le_trans b2.size hb.size, Nat.le_refl _⟩
theorem int_low {z : Int} (h : (Lit.int .i64 z).wf = true) : -9223372036854775808 ≤ z := (bounds_i64 h).1
theorem int_high {z : Int} (h : (Lit.int .i64 z).wf = true) : z ≤ 9223372036854775807 := (bounds_i64 h).2
theorem own_type {W : World} {r : RBlk} {base : Nat} {e : Disk} {L : Nat} {R : Since} {D : Nat} {l : List Int} (h : RefAt W r base e L R) (hD : IntBlk W D .u8 5 l) (hf : ¬ r.fix D) : ¬ r.own R e.ns D := by
  rintro (hk | ⟨i, hi, hg⟩)
  · exact hf hk
  · rcases (h.rows.row i hi).2 with ⟨e1, _⟩ | ⟨g, cap, cur, e1, _, hh, _⟩
    · rw [e1] at hg; cases hg
    · rw [e1] at hg
      cases hg
      unfold IntBlk at hD
      rw [hh] at hD
      injection hD with h1
      injection h1 with h2 h3
      cases h3
theorem _root_.Go.Proofs.Ytbejfpdkfpgipaa.OpBox.set {W : World} {O B : Nat} {c : CallOf} (h : OpBox W O c) (hO : O ≠ B) (k : Nat) (v : Value) : OpBox (W.setCell ⟨B, k, none⟩ v) O c := (Below.heap_setCell _ _ _ O (fun e => hO e)).trans h
theorem Is_one (w : World) : Calls Try.prog 28 #[errN 1, .int .i64 1] w fun e w' => e = .returned (.bool true) ∧ w = w' := Is_err 1 rfl w
theorem Arm_rangeN (w : World) (B : Nat) (x : Int) (hx : x < 0) : Calls Try.prog 27 #[.pointer (some ⟨B, 0, none⟩), .int .i64 x] w fun e w' => e = .returned (errN 1) ∧ w = w' := Arm_range w B x hx
theorem Arm_okN {w : World} {b : Blks} {d : Disk} (h : DiskAt w b d) (n : Nat) : Calls Try.prog 27 #[.pointer (some ⟨b.B, 0, none⟩), .int .i64 n] w fun e w' => e = .returned (errN 0) ∧ DiskAt w' b (d.armedWith n) ∧ Keeps b.own w w' := Arm_ok h n
theorem _root_.Go.Proofs.Ytbejfpdkfpgipaa.IntsAt.oldI {w : World} {p : Option Addr} {l : List Int} (h : IntsAt w p l) : ∀ B o, p = some ⟨B, o, none⟩ → l ≠ [] → B < w.heap.size := fun B o e h0 => by
  rcases h with h | ⟨B', o', e', hB, _⟩
  · exact absurd h h0
  · rw [e'] at e; cases e; exact hB
attribute [local irreducible] Go.Proofs.Ytbejfpdkfpgipaa.mk lenS errN cellF markF
set_option maxRecDepth 100000 in
set_option maxHeartbeats 20000000 in
theorem walk (x y : Int) (q : Option Addr) (n cap : Nat) (T : Nat → CallOf) (wx : (Lit.int .i64 x).wf = true) (wy : (Lit.int .i64 y).wf = true) (hb : sumN (fun i => 1 + (T i).bytes.n + (T i).kl.length) n ≤ 1048576) (w : World) (hc : CallsAt w q n T) :
    Calls Try.prog 3 #[.int .i64 x, .int .i64 y, .slice q n cap] w fun e w' => e = .returned (.bool true) ∧ Below w.heap.size w w' := by
  have AL := Lib.hid (alive_ok w)
  have HC := Lib.hid hc
  have HBU := Lib.hid (fun i (hi : i < n) => Nat.le_trans (sumN_at (f := fun i => 1 + (T i).bytes.n + (T i).kl.length) hi) hb)
  by_cases hlong : (400 : Int) < (lenS T n : Nat)
  · have LG := Lib.hid (fun W (hW : Below w.heap.size w W) => show Calls Try.prog 11 #[.slice q n cap] W fun e w' => e = .returned (.bool true) ∧ Below W.heap.size W w' from by
      have := long_ok q n cap T W (hc.below hW) hb
      rw [decide_eq_true hlong] at this
      exact this)
    clear hlong hb hc
    go_enter Try.func3, Try.ntmps3
    go_wp2_with (first
      | (go_at_call 10; refine (AL.out).mono ?_; rintro e w1 ⟨rfl, hb1⟩; have B1 := Lib.hid hb1; clear hb1)
      | (go_at_call 11; refine (LG.out w1 B1.out).mono ?_; rintro e w2 ⟨rfl, hb2⟩))
    go_ret
    exact ⟨rfl, B1.out.trans (hb2.mono B1.out.size)⟩
  have LG := Lib.hid (fun W (hW : Below w.heap.size w W) => show Calls Try.prog 11 #[.slice q n cap] W fun e w' => e = .returned (.bool false) ∧ Below W.heap.size W w' from by
    have := long_ok q n cap T W (hc.below hW) hb
    rw [decide_eq_false hlong] at this
    exact this)
  have HFEW := Lib.hid (lenS_few T (n := n) (by omega))
  clear hlong hb hc
  by_cases hr : x < 1 ∨ 2048 < x ∨ y < 1 ∨ 16 < y
  · have NC := Lib.hid (fun W => (show Calls Try.prog 12 #[.int .i64 x, .int .i64 y] W fun e w' => e = .returned (.tuple #[.pointer none, .iface 52 (.int .i64 1)]) ∧ W = w' from New_range x y hr W))
    have RC := Lib.hid (fun W => rNew_range x y hr W)
    clear hr
    go_enter Try.func3, Try.ntmps3
    go_wp2_with (first
      | (go_at_call 10; refine (AL.out).mono ?_; rintro e w1 ⟨rfl, hb1⟩; have B1 := Lib.hid hb1; clear hb1)
      | (go_at_call 11; refine (LG.out w1 B1.out).mono ?_; rintro e w2 ⟨rfl, hb2⟩
         have B2 := Lib.hid (B1.out.trans (hb2.mono B1.out.size))
         clear hb2 B1 LG)
      | (go_at_call 12; refine (NC.out _).mono ?_; rintro e w3 ⟨rfl, rfl⟩)
      | (go_at_call 13; refine (RC.out _).mono ?_; rintro e w3 ⟨rfl, rfl⟩)
      | (go_at_call 14; refine (Num_err 1 rfl _).mono ?_; rintro e w8 ⟨rfl, rfl⟩))
    go_ret
    exact ⟨rfl, B2.out⟩
  obtain ⟨N, rfl⟩ : ∃ N : Nat, x = (N : Int) := ⟨x.toNat, by omega⟩
  obtain ⟨M, rfl⟩ : ∃ M : Nat, y = (M : Int) := ⟨y.toNat, by omega⟩
  have NC := Lib.hid (fun W => New_ok N M (by omega) (by omega) (by omega) (by omega) W)
  have RC := Lib.hid (fun W => rNew_ok N M (by omega) (by omega) (by omega) (by omega) W)
  clear hr wx wy
  go_enter Try.func3, Try.ntmps3
  go_wp2_with (first
    | (go_at_call 10; refine (AL.out).mono ?_; rintro e w1 ⟨rfl, hb1⟩; have B1 := Lib.hid hb1; clear hb1)
    | (go_at_call 11; refine (LG.out w1 B1.out).mono ?_; rintro e w2 ⟨rfl, hb2⟩
       have B2 := Lib.hid (B1.out.trans (hb2.mono B1.out.size))
       clear hb2 B1 LG AL)
    | (go_at_call 12; refine (NC.out w2).mono ?_; rintro e w3 ⟨b, rfl, hd3, hb3, ho3⟩
       have D3 := Lib.hid hd3
       have B3 := Lib.hid (B2.out.trans (hb3.mono B2.out.size))
       have O3 := Lib.hid (fun k hk => Nat.le_trans B2.out.size (ho3 k hk))
       clear hd3 hb3 ho3 B2 NC)
    | (go_at_call 13; refine (RC.out w3).mono ?_; rintro e w4 ⟨r, rfl, hr4, hb4, ho4⟩
       have P4 := Lib.hid (start_ps D3.out O3.out B3.out hr4 hb4 ho4)
       clear hr4 hb4 ho4 D3 B3 O3 RC))
  generalize w4.heap.size = base at P4
  go_loopw [56] (fun v56 wr => ∃ k : Nat, k ≤ n ∧ v56 = .int .i64 k ∧ ∃ d L R, PS w wr b r base d d L R ∧ d.made ≤ k ∧ d.left < 9223372036854775808) (fun v56 _ => n - (intOf v56).toNat)
  case atStart => exact ⟨0, Nat.zero_le _, rfl, _, _, _, P4.out, Nat.le_refl _, by show (0 : Nat) < _; omega⟩
  case round =>
    obtain ⟨k, hk, rfl, d, L, R, hps, hmk, hlf⟩ := hrel
    have PSR := Lib.hid hps
    clear hps P4
    by_cases hlt : k < n
    · rcases HC.out with he | ⟨B, o, rfl, hB, hcc⟩
      · omega
      have HLT := Lib.hid hlt
      have e1 : (k : Int) < (n : Int) := by omega
      have e2 : (0 : Int) ≤ k := by omega
      have e3 : IntKind.i64.wrap ((k : Int) + 1) = ((k + 1 : Nat) : Int) := by have := HFEW.out.1; rw [IntWalk.i64_in _ (by omega)]; omega
      obtain ⟨hcl, hok⟩ := hcc k hlt
      have HRG := Lib.hid (CallsAt.range (n := n) (k := k) fun j hj => (PSR.out.low.cell (p := ⟨B, o + (5 * k + j), none⟩) hB).trans (hcl j hj))
      have HOK := Lib.hid hok
      have HBK := Lib.hid (HBU.out k hlt)
      have HKL := Lib.hid (HFEW.out.2 k hlt)
      have HML := Lib.hid (show d.made ≤ k ∧ d.left < 9223372036854775808 ∧ d.made ≤ 100000 from ⟨hmk, hlf, by have := HFEW.out.1; omega⟩)
      have HMK := Lib.hid (show k + 1 ≤ 100000 by have := HFEW.out.1; omega)
      generalize hT : T k = c at *
      have HAP := Lib.hid (apartO (wb := wr) PSR.out)
      clear hcl hok hcc hB hlt hmk hlf hT hk
      by_cases hK0 : c.kind = 0
      · have HKD := Lib.hid hK0
        clear hK0
        as_aux_lemma =>
          obtain ⟨no, d9, hno, hfit, hpc, hrc⟩ := write_any d HML.out.2.2 HML.out.2.1 c.at' (cellF c.bytes.n c.bytes.g)
          have HNO := Lib.hid hno
          have HFIT := Lib.hid hfit
          have HPC := Lib.hid hpc
          have HRC := Lib.hid hrc
          clear hno hfit hpc hrc
          have HM40 := Lib.hid (show d9.made ≤ 100000 by have := HFIT.out.1; have := HML.out.1; have := HMK.out; omega)
          have HF9 := Lib.hid (show d9.made ≤ k + 1 ∧ d9.left < 9223372036854775808 from ⟨by have := HFIT.out.1; have := HML.out.1; omega, HFIT.out.2⟩)
          go_wp2_with (first
            | (refine wpList_op_elem rfl _ _ rfl B o n cap k rfl rfl HLT.out ?_)
            | (refine wpList_op_load rfl _ rfl B (o + 5 * k) rfl c HRG.out ?_)
            | (refine wpList_op_alloc rfl rfl ?_)
            | (refine store_row_on rfl 37 _ _ rfl rfl wr.heap.size c.cells.toArray rfl rfl 37 opZero (heap_alloc_new _ _) (opSize c) rfl c.one ?_
               have PB := Lib.hid (PSR.out.below (op_box_below wr c))
               have OB := Lib.hid (OpBox.new wr c)
               generalize hW : (wr.alloc (.cells opZero 37)).setRow wr.heap.size c.cells.toArray = wb at *
               have NEW := Lib.hid (show wr.heap.size < wb.heap.size from OB.out.lt)
               have c0 : wb.cell? ⟨wr.heap.size, 0, none⟩ = some (.int .i64 0) := by rw [← HKD.out]; exact OB.out.cell 0
               clear hW))
          have C0 := Lib.hid (show OpBox wb.drew wr.heap.size c from OB.out)
          have P0 := Lib.hid PB.out.drew
          clear PB OB c0
          refine wp_region_sched [(0, true), (1, true), (2, true), (3, true), (4, true), (5, true), (9, true), (10, true), (11, true), (12, true), (13, true), (6, false), (7, false), (8, false), (14, false), (15, false), (16, true), (17, true)] (fun W' => OpBox W' wr.heap.size c) (by kernel_rfl) (by kernel_rfl) C0.out ?_
          refine walk_float rfl rfl (fun K' hK' => ?_)
          refine gives_move _ rfl ?_
          go_simp
          refine hK' _ ?_
          clear hK' K'
          refine walk_float rfl rfl (fun K' hK' => ?_)
          refine gives_move _ rfl ?_
          go_simp
          refine hK' _ ?_
          clear hK' K'
          refine walk_float rfl rfl (fun K' hK' => ?_)
          refine gives_opfield _ 1 rfl (by omega) wr.heap.size rfl ?_
          go_simp
          refine hK' _ ?_
          clear hK' K'
          refine walk_float rfl rfl (fun K' hK' => ?_)
          refine gives_box 3 _ rfl ⟨wr.heap.size, 1, none⟩ (.int .i64 c.at') rfl box_int (fun W' hW => hW.cell 1) ?_
          go_simp
          refine hK' _ ?_
          clear hK' K'
          refine walk_float rfl rfl (fun K' hK' => ?_)
          refine gives_opfield _ 3 rfl (by omega) wr.heap.size rfl ?_
          go_simp
          refine hK' _ ?_
          clear hK' K'
          refine walk_float rfl rfl (fun K' hK' => ?_)
          refine gives_box 34 _ rfl ⟨wr.heap.size, 3, none⟩ (.slice c.bytes.p c.bytes.n c.bytes.c) rfl box_bytes (fun W' hW => hW.cell 3) ?_
          go_simp
          refine hK' _ ?_
          clear hK' K'
          refine walk_float rfl rfl (fun K' hK' => ?_)
          refine gives_move _ rfl ?_
          go_simp
          refine hK' _ ?_
          clear hK' K'
          refine walk_float rfl rfl (fun K' hK' => ?_)
          refine gives_opfield _ 1 rfl (by omega) wr.heap.size rfl ?_
          go_simp
          refine hK' _ ?_
          clear hK' K'
          refine walk_float rfl rfl (fun K' hK' => ?_)
          refine gives_box 3 _ rfl ⟨wr.heap.size, 1, none⟩ (.int .i64 c.at') rfl box_int (fun W' hW => hW.cell 1) ?_
          go_simp
          refine hK' _ ?_
          clear hK' K'
          refine walk_float rfl rfl (fun K' hK' => ?_)
          refine gives_opfield _ 3 rfl (by omega) wr.heap.size rfl ?_
          go_simp
          refine hK' _ ?_
          clear hK' K'
          refine walk_float rfl rfl (fun K' hK' => ?_)
          refine gives_box 34 _ rfl ⟨wr.heap.size, 3, none⟩ (.slice c.bytes.p c.bytes.n c.bytes.c) rfl box_bytes (fun W' hW => hW.cell 3) ?_
          go_simp
          refine hK' _ ?_
          clear hK' K'
          refine walk_done rfl rfl (fun K' hK' => ?_)
          refine done_enter1 _ _ _ rfl 16 rfl (enters_of Try.func16 (by kernel_rfl) rfl) _ rfl _ (Cell_any c.bytes.p c.bytes.n c.bytes.c c.bytes.g _ (HOK.out.bytes.below P0.out.low)) ?_
          rintro e w5 ⟨rfl, h1⟩
          have P5 := Lib.hid (P0.out.below h1)
          have C5 := Lib.hid (C0.out.below h1)
          clear h1 P0 C0
          refine ⟨_, rfl, C5.out, ?_⟩
          go_simp
          refine hK' _ _ ?_
          clear hK' K'
          refine walk_done rfl rfl (fun K' hK' => ?_)
          refine done_enter3 _ _ _ _ _ rfl 15 rfl (enters_of Try.func15 (by kernel_rfl) rfl) _ _ _ rfl rfl rfl _ (HPC.out _ b P5.out.plat) ?_
          rintro e w6 ⟨rfl, h1, h2⟩
          have P6 := Lib.hid (P5.out.left h1 h2)
          have C6 := Lib.hid (C5.out.keeps h2 HAP.out.1)
          clear h1 h2 P5 C5
          refine ⟨_, rfl, C6.out, ?_⟩
          go_simp
          refine hK' _ _ ?_
          clear hK' K'
          refine walk_done rfl rfl (fun K' hK' => ?_)
          refine done_enter1 _ _ _ rfl 14 rfl (enters_of Try.func14 (by kernel_rfl) rfl) _ rfl _ (Num_any HNO.out _) ?_
          rintro e w7 ⟨rfl, rfl⟩
          refine ⟨_, rfl, C6.out, ?_⟩
          go_simp
          refine hK' _ _ ?_
          clear hK' K'
          refine walk_done rfl rfl (fun K' hK' => ?_)
          refine done_enter1 _ _ _ rfl 16 rfl (enters_of Try.func16 (by kernel_rfl) rfl) _ rfl _ (Cell_any c.bytes.p c.bytes.n c.bytes.c c.bytes.g _ (HOK.out.bytes.below P6.out.low)) ?_
          rintro e w8 ⟨rfl, h1⟩
          have P8 := Lib.hid (P6.out.below h1)
          have C8 := Lib.hid (C6.out.below h1)
          clear h1 P6 C6
          refine ⟨_, rfl, C8.out, ?_⟩
          go_simp
          refine hK' _ _ ?_
          clear hK' K'
          refine walk_done rfl rfl (fun K' hK' => ?_)
          refine done_enter3 _ _ _ _ _ rfl 17 rfl (enters_of Try.func17 (by kernel_rfl) rfl) _ _ _ rfl rfl rfl _ (HRC.out _ r base L R P8.out.ref P8.out.fit) ?_
          rintro e w9 ⟨rfl, ⟨L9, R9, h1⟩, h2⟩
          have P9 := Lib.hid (P8.out.right h1 h2)
          have C9 := Lib.hid (C8.out.keeps h2 HAP.out.2)
          clear h1 h2 P8 C8
          refine ⟨_, rfl, C9.out, ?_⟩
          go_simp
          refine hK' _ _ ?_
          clear hK' K'
          refine walk_float rfl rfl (fun K' hK' => ?_)
          refine gives_int_eq _ _ rfl (no : Nat) rfl rfl ?_
          go_simp
          refine hK' _ ?_
          clear hK' K'
          refine walk_float rfl rfl (fun K' hK' => ?_)
          refine gives_assign _ rfl ?_
          go_simp
          refine hK' _ ?_
          clear hK' K'
          refine walk_nil ?_
          clear C9 HPC HRC HNO
          go_wp2
          obtain ⟨lo, hlo, hop, hro⟩ := P9.out.opens HM40.out
          have HLO := Lib.hid hlo
          have HOP := Lib.hid hop
          have HRO := Lib.hid hro
          have Q0 := Lib.hid P9.out.drew
          clear hlo hop hro
          refine wp_region_sched [(0, true), (1, true), (2, true), (3, true), (5, true), (6, true), (7, true), (8, true), (4, false), (9, true), (10, true), (11, true), (12, true), (14, true), (15, true), (16, true), (17, true), (13, false), (18, true), (19, true), (20, true), (21, true), (23, true), (22, false), (24, false), (25, false), (26, true), (27, true)] (fun W' => PS w W' b r base d9 d9 L9 R9) (by kernel_rfl) (by kernel_rfl) Q0.out ?_
          refine walk_float rfl rfl (fun K' hK' => ?_)
          refine gives_move _ rfl ?_
          go_simp
          refine hK' _ ?_
          clear hK' K'
          refine walk_float rfl rfl (fun K' hK' => ?_)
          refine gives_not _ _ rfl true false rfl rfl ?_
          go_simp
          refine hK' _ ?_
          clear hK' K'
          refine walk_float rfl rfl (fun K' hK' => ?_)
          refine gives_move _ rfl ?_
          go_simp
          refine hK' _ ?_
          clear hK' K'
          refine walk_float rfl rfl (fun K' hK' => ?_)
          refine gives_move _ rfl ?_
          go_simp
          refine hK' _ ?_
          clear hK' K'
          refine walk_float rfl rfl (fun K' hK' => ?_)
          refine gives_move _ rfl ?_
          go_simp
          refine hK' _ ?_
          clear hK' K'
          refine walk_float rfl rfl (fun K' hK' => ?_)
          refine gives_nil_check _ rfl ⟨r.B, 0, none⟩ rfl ?_
          go_simp
          refine hK' _ ?_
          clear hK' K'
          refine walk_float rfl rfl (fun K' hK' => ?_)
          refine gives_field _ 3 rfl (by omega) r.B rfl ?_
          go_simp
          refine hK' _ ?_
          clear hK' K'
          refine walk_float rfl rfl (fun K' hK' => ?_)
          refine gives_box 3 _ rfl ⟨r.B, 3, none⟩ (.int .i64 (d9.made : Nat)) rfl box_int (fun W' hW => hW.ref.c3) ?_
          go_simp
          refine hK' _ ?_
          clear hK' K'
          refine walk_done rfl rfl (fun K' hK' => ?_)
          refine done_enter1 _ _ _ rfl 34 rfl (enters_of Try.func34 (by kernel_rfl) rfl) _ rfl _ (Steps_ok Q0.out.plat) ?_
          rintro e w40 ⟨rfl, rfl⟩
          refine ⟨_, rfl, Q0.out, ?_⟩
          go_simp
          refine hK' _ _ ?_
          clear hK' K'
          refine walk_float rfl rfl (fun K' hK' => ?_)
          refine gives_int_neq _ _ rfl (d9.made : Nat) rfl rfl ?_
          go_simp
          refine hK' _ ?_
          clear hK' K'
          refine walk_float rfl rfl (fun K' hK' => ?_)
          refine gives_pick_no _ _ _ rfl rfl (.bool false) rfl ?_
          go_simp
          refine hK' _ ?_
          clear hK' K'
          refine walk_float rfl rfl (fun K' hK' => ?_)
          refine gives_move _ rfl ?_
          go_simp
          refine hK' _ ?_
          clear hK' K'
          refine walk_float rfl rfl (fun K' hK' => ?_)
          refine gives_move _ rfl ?_
          go_simp
          refine hK' _ ?_
          clear hK' K'
          refine walk_float rfl rfl (fun K' hK' => ?_)
          refine gives_move _ rfl ?_
          go_simp
          refine hK' _ ?_
          clear hK' K'
          refine walk_float rfl rfl (fun K' hK' => ?_)
          refine gives_nil_check _ rfl ⟨r.B, 0, none⟩ rfl ?_
          go_simp
          refine hK' _ ?_
          clear hK' K'
          refine walk_float rfl rfl (fun K' hK' => ?_)
          refine gives_field _ 6 rfl (by omega) r.B rfl ?_
          go_simp
          refine hK' _ ?_
          clear hK' K'
          refine walk_float rfl rfl (fun K' hK' => ?_)
          refine gives_box 4 _ rfl ⟨r.B, 6, none⟩ (.bool d9.down) rfl box_bool (fun W' hW => hW.ref.c6) ?_
          go_simp
          refine hK' _ ?_
          clear hK' K'
          refine walk_done rfl rfl (fun K' hK' => ?_)
          refine done_enter1 _ _ _ rfl 35 rfl (enters_of Try.func35 (by kernel_rfl) rfl) _ rfl _ (Down_ok Q0.out.plat) ?_
          rintro e w40 ⟨rfl, rfl⟩
          refine ⟨_, rfl, Q0.out, ?_⟩
          go_simp
          refine hK' _ _ ?_
          clear hK' K'
          refine walk_float rfl rfl (fun K' hK' => ?_)
          refine gives_bool_neq _ _ rfl d9.down rfl rfl ?_
          go_simp
          refine hK' _ ?_
          clear hK' K'
          refine walk_float rfl rfl (fun K' hK' => ?_)
          refine gives_pick_no _ _ _ rfl rfl (.bool false) rfl ?_
          go_simp
          refine hK' _ ?_
          clear hK' K'
          refine walk_float rfl rfl (fun K' hK' => ?_)
          refine gives_move _ rfl ?_
          go_simp
          refine hK' _ ?_
          clear hK' K'
          refine walk_float rfl rfl (fun K' hK' => ?_)
          refine gives_move _ rfl ?_
          go_simp
          refine hK' _ ?_
          clear hK' K'
          refine walk_float rfl rfl (fun K' hK' => ?_)
          refine gives_move _ rfl ?_
          go_simp
          refine hK' _ ?_
          clear hK' K'
          refine walk_done rfl rfl (fun K' hK' => ?_)
          refine done_enter2 _ _ _ _ rfl 36 rfl (enters_of Try.func36 (by kernel_rfl) rfl) _ _ rfl rfl _ (HOP.out _ Q0.out.plat) ?_
          rintro e w41 ⟨q6, c6, rfl, hi6, hb6⟩
          have Q1 := Lib.hid (Q0.out.below hb6)
          refine ⟨_, rfl, Q1.out, ?_⟩
          go_simp
          refine hK' _ _ ?_
          clear hK' K'
          refine walk_done rfl rfl (fun K' hK' => ?_)
          refine done_enter1 _ _ _ rfl 37 rfl (enters_of Try.func37 (by kernel_rfl) rfl) _ rfl _ (HRO.out _ Q1.out.ref) ?_
          rintro e w42 ⟨q8, c8, rfl, hi8, hb8⟩
          have Q2 := Lib.hid (Q1.out.below hb8)
          refine ⟨_, rfl, Q2.out, ?_⟩
          go_simp
          refine hK' _ _ ?_
          clear hK' K'
          refine walk_done rfl rfl (fun K' hK' => ?_)
          refine done_enter2 _ _ _ _ rfl 31 rfl (enters_of Try.func31 (by kernel_rfl) rfl) _ _ rfl rfl _ (Ints_eq q6 q8 lo c6 c8 (by have := HLO.out; omega) w42 (hi6.below hb8) hi8) ?_
          rintro e w43 ⟨rfl, hb9⟩
          have Q3 := Lib.hid (Q2.out.below hb9)
          refine ⟨_, rfl, Q3.out, ?_⟩
          go_simp
          refine hK' _ _ ?_
          clear hK' K'
          refine walk_float rfl rfl (fun K' hK' => ?_)
          refine gives_not _ _ rfl true false rfl rfl ?_
          go_simp
          refine hK' _ ?_
          clear hK' K'
          refine walk_float rfl rfl (fun K' hK' => ?_)
          refine gives_pick_no _ _ _ rfl rfl (.bool false) rfl ?_
          go_simp
          refine hK' _ ?_
          clear hK' K'
          refine walk_nil ?_
          clear hi6 hb6 hi8 hb8 hb9 Q0 Q1 Q2 HOP HRO HLO
          go_wp2
          go_roundw
          case rel => exact ⟨k + 1, HLT.out, by go_num, d9, L9, R9, Q3.out, HF9.out.1, HF9.out.2⟩
          case measure => have := HLT.out; simp [intOf]; omega
      by_cases hK1 : c.kind = 1
      · have HKD := Lib.hid hK1
        clear hK0 hK1
        as_aux_lemma =>
          have HN64 := Lib.hid (int_low HOK.out.k3)
          obtain ⟨no, d9, hno, hfit, hpc, hrc⟩ := flush_any d HML.out.2.2 HML.out.2.1 c.at' c.n HN64.out
          have HNO := Lib.hid hno
          have HFIT := Lib.hid hfit
          have HPC := Lib.hid hpc
          have HRC := Lib.hid hrc
          clear hno hfit hpc hrc
          have HM40 := Lib.hid (show d9.made ≤ 100000 by have := HFIT.out.1; have := HML.out.1; have := HMK.out; omega)
          have HF9 := Lib.hid (show d9.made ≤ k + 1 ∧ d9.left < 9223372036854775808 from ⟨by have := HFIT.out.1; have := HML.out.1; omega, HFIT.out.2⟩)
          go_wp2_with (first
            | (refine wpList_op_elem rfl _ _ rfl B o n cap k rfl rfl HLT.out ?_)
            | (refine wpList_op_load rfl _ rfl B (o + 5 * k) rfl c HRG.out ?_)
            | (refine wpList_op_alloc rfl rfl ?_)
            | (refine store_row_on rfl 37 _ _ rfl rfl wr.heap.size c.cells.toArray rfl rfl 37 opZero (heap_alloc_new _ _) (opSize c) rfl c.one ?_
               have PB := Lib.hid (PSR.out.below (op_box_below wr c))
               have OB := Lib.hid (OpBox.new wr c)
               generalize hW : (wr.alloc (.cells opZero 37)).setRow wr.heap.size c.cells.toArray = wb at *
               have NEW := Lib.hid (show wr.heap.size < wb.heap.size from OB.out.lt)
               have c0 : wb.cell? ⟨wr.heap.size, 0, none⟩ = some (.int .i64 1) := by rw [← HKD.out]; exact OB.out.cell 0
               clear hW))
          have C0 := Lib.hid (show OpBox wb.drew wr.heap.size c from OB.out)
          have P0 := Lib.hid PB.out.drew
          clear PB OB c0
          refine wp_region_sched [(0, true), (1, true), (2, true), (3, true), (4, true), (5, true), (8, true), (9, true), (10, true), (11, true), (12, true), (6, false), (7, false), (13, false), (14, true), (15, true)] (fun W' => OpBox W' wr.heap.size c) (by kernel_rfl) (by kernel_rfl) C0.out ?_
          refine walk_float rfl rfl (fun K' hK' => ?_)
          refine gives_move _ rfl ?_
          go_simp
          refine hK' _ ?_
          clear hK' K'
          refine walk_float rfl rfl (fun K' hK' => ?_)
          refine gives_move _ rfl ?_
          go_simp
          refine hK' _ ?_
          clear hK' K'
          refine walk_float rfl rfl (fun K' hK' => ?_)
          refine gives_opfield _ 1 rfl (by omega) wr.heap.size rfl ?_
          go_simp
          refine hK' _ ?_
          clear hK' K'
          refine walk_float rfl rfl (fun K' hK' => ?_)
          refine gives_box 3 _ rfl ⟨wr.heap.size, 1, none⟩ (.int .i64 c.at') rfl box_int (fun W' hW => hW.cell 1) ?_
          go_simp
          refine hK' _ ?_
          clear hK' K'
          refine walk_float rfl rfl (fun K' hK' => ?_)
          refine gives_opfield _ 2 rfl (by omega) wr.heap.size rfl ?_
          go_simp
          refine hK' _ ?_
          clear hK' K'
          refine walk_float rfl rfl (fun K' hK' => ?_)
          refine gives_box 3 _ rfl ⟨wr.heap.size, 2, none⟩ (.int .i64 c.n) rfl box_int (fun W' hW => hW.cell 2) ?_
          go_simp
          refine hK' _ ?_
          clear hK' K'
          refine walk_float rfl rfl (fun K' hK' => ?_)
          refine gives_move _ rfl ?_
          go_simp
          refine hK' _ ?_
          clear hK' K'
          refine walk_float rfl rfl (fun K' hK' => ?_)
          refine gives_opfield _ 1 rfl (by omega) wr.heap.size rfl ?_
          go_simp
          refine hK' _ ?_
          clear hK' K'
          refine walk_float rfl rfl (fun K' hK' => ?_)
          refine gives_box 3 _ rfl ⟨wr.heap.size, 1, none⟩ (.int .i64 c.at') rfl box_int (fun W' hW => hW.cell 1) ?_
          go_simp
          refine hK' _ ?_
          clear hK' K'
          refine walk_float rfl rfl (fun K' hK' => ?_)
          refine gives_opfield _ 2 rfl (by omega) wr.heap.size rfl ?_
          go_simp
          refine hK' _ ?_
          clear hK' K'
          refine walk_float rfl rfl (fun K' hK' => ?_)
          refine gives_box 3 _ rfl ⟨wr.heap.size, 2, none⟩ (.int .i64 c.n) rfl box_int (fun W' hW => hW.cell 2) ?_
          go_simp
          refine hK' _ ?_
          clear hK' K'
          refine walk_done rfl rfl (fun K' hK' => ?_)
          refine done_enter3 _ _ _ _ _ rfl 18 rfl (enters_of Try.func18 (by kernel_rfl) rfl) _ _ _ rfl rfl rfl _ (HPC.out _ b P0.out.plat) ?_
          rintro e w6 ⟨rfl, h1, h2⟩
          have P1 := Lib.hid (P0.out.left h1 h2)
          have C1 := Lib.hid (C0.out.keeps h2 HAP.out.1)
          clear h1 h2 P0 C0
          refine ⟨_, rfl, C1.out, ?_⟩
          go_simp
          refine hK' _ _ ?_
          clear hK' K'
          refine walk_done rfl rfl (fun K' hK' => ?_)
          refine done_enter1 _ _ _ rfl 14 rfl (enters_of Try.func14 (by kernel_rfl) rfl) _ rfl _ (Num_any HNO.out _) ?_
          rintro e w7 ⟨rfl, rfl⟩
          refine ⟨_, rfl, C1.out, ?_⟩
          go_simp
          refine hK' _ _ ?_
          clear hK' K'
          refine walk_done rfl rfl (fun K' hK' => ?_)
          refine done_enter3 _ _ _ _ _ rfl 19 rfl (enters_of Try.func19 (by kernel_rfl) rfl) _ _ _ rfl rfl rfl _ (HRC.out _ r base L R P1.out.ref P1.out.fit) ?_
          rintro e w8 ⟨rfl, ⟨L9, R9, h1⟩, h2⟩
          have P2 := Lib.hid (P1.out.right h1 h2)
          have C2 := Lib.hid (C1.out.keeps h2 HAP.out.2)
          clear h1 h2 P1 C1
          refine ⟨_, rfl, C2.out, ?_⟩
          go_simp
          refine hK' _ _ ?_
          clear hK' K'
          refine walk_float rfl rfl (fun K' hK' => ?_)
          refine gives_int_eq _ _ rfl (no : Nat) rfl rfl ?_
          go_simp
          refine hK' _ ?_
          clear hK' K'
          refine walk_float rfl rfl (fun K' hK' => ?_)
          refine gives_assign _ rfl ?_
          go_simp
          refine hK' _ ?_
          clear hK' K'
          refine walk_nil ?_
          clear C2 HPC HRC HNO
          go_wp2
          obtain ⟨lo, hlo, hop, hro⟩ := P2.out.opens HM40.out
          have HLO := Lib.hid hlo
          have HOP := Lib.hid hop
          have HRO := Lib.hid hro
          have Q0 := Lib.hid P2.out.drew
          clear hlo hop hro
          refine wp_region_sched [(0, true), (1, true), (2, true), (3, true), (5, true), (6, true), (7, true), (8, true), (4, false), (9, true), (10, true), (11, true), (12, true), (14, true), (15, true), (16, true), (17, true), (13, false), (18, true), (19, true), (20, true), (21, true), (23, true), (22, false), (24, false), (25, false), (26, true), (27, true)] (fun W' => PS w W' b r base d9 d9 L9 R9) (by kernel_rfl) (by kernel_rfl) Q0.out ?_
          refine walk_float rfl rfl (fun K' hK' => ?_)
          refine gives_move _ rfl ?_
          go_simp
          refine hK' _ ?_
          clear hK' K'
          refine walk_float rfl rfl (fun K' hK' => ?_)
          refine gives_not _ _ rfl true false rfl rfl ?_
          go_simp
          refine hK' _ ?_
          clear hK' K'
          refine walk_float rfl rfl (fun K' hK' => ?_)
          refine gives_move _ rfl ?_
          go_simp
          refine hK' _ ?_
          clear hK' K'
          refine walk_float rfl rfl (fun K' hK' => ?_)
          refine gives_move _ rfl ?_
          go_simp
          refine hK' _ ?_
          clear hK' K'
          refine walk_float rfl rfl (fun K' hK' => ?_)
          refine gives_move _ rfl ?_
          go_simp
          refine hK' _ ?_
          clear hK' K'
          refine walk_float rfl rfl (fun K' hK' => ?_)
          refine gives_nil_check _ rfl ⟨r.B, 0, none⟩ rfl ?_
          go_simp
          refine hK' _ ?_
          clear hK' K'
          refine walk_float rfl rfl (fun K' hK' => ?_)
          refine gives_field _ 3 rfl (by omega) r.B rfl ?_
          go_simp
          refine hK' _ ?_
          clear hK' K'
          refine walk_float rfl rfl (fun K' hK' => ?_)
          refine gives_box 3 _ rfl ⟨r.B, 3, none⟩ (.int .i64 (d9.made : Nat)) rfl box_int (fun W' hW => hW.ref.c3) ?_
          go_simp
          refine hK' _ ?_
          clear hK' K'
          refine walk_done rfl rfl (fun K' hK' => ?_)
          refine done_enter1 _ _ _ rfl 34 rfl (enters_of Try.func34 (by kernel_rfl) rfl) _ rfl _ (Steps_ok Q0.out.plat) ?_
          rintro e w40 ⟨rfl, rfl⟩
          refine ⟨_, rfl, Q0.out, ?_⟩
          go_simp
          refine hK' _ _ ?_
          clear hK' K'
          refine walk_float rfl rfl (fun K' hK' => ?_)
          refine gives_int_neq _ _ rfl (d9.made : Nat) rfl rfl ?_
          go_simp
          refine hK' _ ?_
          clear hK' K'
          refine walk_float rfl rfl (fun K' hK' => ?_)
          refine gives_pick_no _ _ _ rfl rfl (.bool false) rfl ?_
          go_simp
          refine hK' _ ?_
          clear hK' K'
          refine walk_float rfl rfl (fun K' hK' => ?_)
          refine gives_move _ rfl ?_
          go_simp
          refine hK' _ ?_
          clear hK' K'
          refine walk_float rfl rfl (fun K' hK' => ?_)
          refine gives_move _ rfl ?_
          go_simp
          refine hK' _ ?_
          clear hK' K'
          refine walk_float rfl rfl (fun K' hK' => ?_)
          refine gives_move _ rfl ?_
          go_simp
          refine hK' _ ?_
          clear hK' K'
          refine walk_float rfl rfl (fun K' hK' => ?_)
          refine gives_nil_check _ rfl ⟨r.B, 0, none⟩ rfl ?_
          go_simp
          refine hK' _ ?_
          clear hK' K'
          refine walk_float rfl rfl (fun K' hK' => ?_)
          refine gives_field _ 6 rfl (by omega) r.B rfl ?_
          go_simp
          refine hK' _ ?_
          clear hK' K'
          refine walk_float rfl rfl (fun K' hK' => ?_)
          refine gives_box 4 _ rfl ⟨r.B, 6, none⟩ (.bool d9.down) rfl box_bool (fun W' hW => hW.ref.c6) ?_
          go_simp
          refine hK' _ ?_
          clear hK' K'
          refine walk_done rfl rfl (fun K' hK' => ?_)
          refine done_enter1 _ _ _ rfl 35 rfl (enters_of Try.func35 (by kernel_rfl) rfl) _ rfl _ (Down_ok Q0.out.plat) ?_
          rintro e w40 ⟨rfl, rfl⟩
          refine ⟨_, rfl, Q0.out, ?_⟩
          go_simp
          refine hK' _ _ ?_
          clear hK' K'
          refine walk_float rfl rfl (fun K' hK' => ?_)
          refine gives_bool_neq _ _ rfl d9.down rfl rfl ?_
          go_simp
          refine hK' _ ?_
          clear hK' K'
          refine walk_float rfl rfl (fun K' hK' => ?_)
          refine gives_pick_no _ _ _ rfl rfl (.bool false) rfl ?_
          go_simp
          refine hK' _ ?_
          clear hK' K'
          refine walk_float rfl rfl (fun K' hK' => ?_)
          refine gives_move _ rfl ?_
          go_simp
          refine hK' _ ?_
          clear hK' K'
          refine walk_float rfl rfl (fun K' hK' => ?_)
          refine gives_move _ rfl ?_
          go_simp
          refine hK' _ ?_
          clear hK' K'
          refine walk_float rfl rfl (fun K' hK' => ?_)
          refine gives_move _ rfl ?_
          go_simp
          refine hK' _ ?_
          clear hK' K'
          refine walk_done rfl rfl (fun K' hK' => ?_)
          refine done_enter2 _ _ _ _ rfl 36 rfl (enters_of Try.func36 (by kernel_rfl) rfl) _ _ rfl rfl _ (HOP.out _ Q0.out.plat) ?_
          rintro e w41 ⟨q6, c6, rfl, hi6, hb6⟩
          have Q1 := Lib.hid (Q0.out.below hb6)
          refine ⟨_, rfl, Q1.out, ?_⟩
          go_simp
          refine hK' _ _ ?_
          clear hK' K'
          refine walk_done rfl rfl (fun K' hK' => ?_)
          refine done_enter1 _ _ _ rfl 37 rfl (enters_of Try.func37 (by kernel_rfl) rfl) _ rfl _ (HRO.out _ Q1.out.ref) ?_
          rintro e w42 ⟨q8, c8, rfl, hi8, hb8⟩
          have Q2 := Lib.hid (Q1.out.below hb8)
          refine ⟨_, rfl, Q2.out, ?_⟩
          go_simp
          refine hK' _ _ ?_
          clear hK' K'
          refine walk_done rfl rfl (fun K' hK' => ?_)
          refine done_enter2 _ _ _ _ rfl 31 rfl (enters_of Try.func31 (by kernel_rfl) rfl) _ _ rfl rfl _ (Ints_eq q6 q8 lo c6 c8 (by have := HLO.out; omega) w42 (hi6.below hb8) hi8) ?_
          rintro e w43 ⟨rfl, hb9⟩
          have Q3 := Lib.hid (Q2.out.below hb9)
          refine ⟨_, rfl, Q3.out, ?_⟩
          go_simp
          refine hK' _ _ ?_
          clear hK' K'
          refine walk_float rfl rfl (fun K' hK' => ?_)
          refine gives_not _ _ rfl true false rfl rfl ?_
          go_simp
          refine hK' _ ?_
          clear hK' K'
          refine walk_float rfl rfl (fun K' hK' => ?_)
          refine gives_pick_no _ _ _ rfl rfl (.bool false) rfl ?_
          go_simp
          refine hK' _ ?_
          clear hK' K'
          refine walk_nil ?_
          clear hi6 hb6 hi8 hb8 hb9 Q0 Q1 Q2 HOP HRO HLO
          go_wp2
          go_roundw
          case rel => exact ⟨k + 1, HLT.out, by go_num, d9, L9, R9, Q3.out, HF9.out.1, HF9.out.2⟩
          case measure => have := HLT.out; simp [intOf]; omega
      by_cases hK2 : c.kind = 2
      · have HKD := Lib.hid hK2
        clear hK0 hK1 hK2
        as_aux_lemma =>
          obtain ⟨no, d9, hno, hfit, hpc, hrc⟩ := raise_any d HML.out.2.2 HML.out.2.1 c.at' c.n
          have HNO := Lib.hid hno
          have HFIT := Lib.hid hfit
          have HPC := Lib.hid hpc
          have HRC := Lib.hid hrc
          clear hno hfit hpc hrc
          have HM40 := Lib.hid (show d9.made ≤ 100000 by have := HFIT.out.1; have := HML.out.1; have := HMK.out; omega)
          have HF9 := Lib.hid (show d9.made ≤ k + 1 ∧ d9.left < 9223372036854775808 from ⟨by have := HFIT.out.1; have := HML.out.1; omega, HFIT.out.2⟩)
          go_wp2_with (first
            | (refine wpList_op_elem rfl _ _ rfl B o n cap k rfl rfl HLT.out ?_)
            | (refine wpList_op_load rfl _ rfl B (o + 5 * k) rfl c HRG.out ?_)
            | (refine wpList_op_alloc rfl rfl ?_)
            | (refine store_row_on rfl 37 _ _ rfl rfl wr.heap.size c.cells.toArray rfl rfl 37 opZero (heap_alloc_new _ _) (opSize c) rfl c.one ?_
               have PB := Lib.hid (PSR.out.below (op_box_below wr c))
               have OB := Lib.hid (OpBox.new wr c)
               generalize hW : (wr.alloc (.cells opZero 37)).setRow wr.heap.size c.cells.toArray = wb at *
               have NEW := Lib.hid (show wr.heap.size < wb.heap.size from OB.out.lt)
               have c0 : wb.cell? ⟨wr.heap.size, 0, none⟩ = some (.int .i64 2) := by rw [← HKD.out]; exact OB.out.cell 0
               clear hW))
          have C0 := Lib.hid (show OpBox wb.drew wr.heap.size c from OB.out)
          have P0 := Lib.hid PB.out.drew
          clear PB OB c0
          refine wp_region_sched [(0, true), (1, true), (2, true), (3, true), (4, true), (5, true), (8, true), (9, true), (10, true), (11, true), (12, true), (6, false), (7, false), (13, false), (14, true), (15, true)] (fun W' => OpBox W' wr.heap.size c) (by kernel_rfl) (by kernel_rfl) C0.out ?_
          refine walk_float rfl rfl (fun K' hK' => ?_)
          refine gives_move _ rfl ?_
          go_simp
          refine hK' _ ?_
          clear hK' K'
          refine walk_float rfl rfl (fun K' hK' => ?_)
          refine gives_move _ rfl ?_
          go_simp
          refine hK' _ ?_
          clear hK' K'
          refine walk_float rfl rfl (fun K' hK' => ?_)
          refine gives_opfield _ 1 rfl (by omega) wr.heap.size rfl ?_
          go_simp
          refine hK' _ ?_
          clear hK' K'
          refine walk_float rfl rfl (fun K' hK' => ?_)
          refine gives_box 3 _ rfl ⟨wr.heap.size, 1, none⟩ (.int .i64 c.at') rfl box_int (fun W' hW => hW.cell 1) ?_
          go_simp
          refine hK' _ ?_
          clear hK' K'
          refine walk_float rfl rfl (fun K' hK' => ?_)
          refine gives_opfield _ 2 rfl (by omega) wr.heap.size rfl ?_
          go_simp
          refine hK' _ ?_
          clear hK' K'
          refine walk_float rfl rfl (fun K' hK' => ?_)
          refine gives_box 3 _ rfl ⟨wr.heap.size, 2, none⟩ (.int .i64 c.n) rfl box_int (fun W' hW => hW.cell 2) ?_
          go_simp
          refine hK' _ ?_
          clear hK' K'
          refine walk_float rfl rfl (fun K' hK' => ?_)
          refine gives_move _ rfl ?_
          go_simp
          refine hK' _ ?_
          clear hK' K'
          refine walk_float rfl rfl (fun K' hK' => ?_)
          refine gives_opfield _ 1 rfl (by omega) wr.heap.size rfl ?_
          go_simp
          refine hK' _ ?_
          clear hK' K'
          refine walk_float rfl rfl (fun K' hK' => ?_)
          refine gives_box 3 _ rfl ⟨wr.heap.size, 1, none⟩ (.int .i64 c.at') rfl box_int (fun W' hW => hW.cell 1) ?_
          go_simp
          refine hK' _ ?_
          clear hK' K'
          refine walk_float rfl rfl (fun K' hK' => ?_)
          refine gives_opfield _ 2 rfl (by omega) wr.heap.size rfl ?_
          go_simp
          refine hK' _ ?_
          clear hK' K'
          refine walk_float rfl rfl (fun K' hK' => ?_)
          refine gives_box 3 _ rfl ⟨wr.heap.size, 2, none⟩ (.int .i64 c.n) rfl box_int (fun W' hW => hW.cell 2) ?_
          go_simp
          refine hK' _ ?_
          clear hK' K'
          refine walk_done rfl rfl (fun K' hK' => ?_)
          refine done_enter3 _ _ _ _ _ rfl 20 rfl (enters_of Try.func20 (by kernel_rfl) rfl) _ _ _ rfl rfl rfl _ (HPC.out _ b P0.out.plat) ?_
          rintro e w6 ⟨rfl, h1, h2⟩
          have P1 := Lib.hid (P0.out.left h1 h2)
          have C1 := Lib.hid (C0.out.keeps h2 HAP.out.1)
          clear h1 h2 P0 C0
          refine ⟨_, rfl, C1.out, ?_⟩
          go_simp
          refine hK' _ _ ?_
          clear hK' K'
          refine walk_done rfl rfl (fun K' hK' => ?_)
          refine done_enter1 _ _ _ rfl 14 rfl (enters_of Try.func14 (by kernel_rfl) rfl) _ rfl _ (Num_any HNO.out _) ?_
          rintro e w7 ⟨rfl, rfl⟩
          refine ⟨_, rfl, C1.out, ?_⟩
          go_simp
          refine hK' _ _ ?_
          clear hK' K'
          refine walk_done rfl rfl (fun K' hK' => ?_)
          refine done_enter3 _ _ _ _ _ rfl 21 rfl (enters_of Try.func21 (by kernel_rfl) rfl) _ _ _ rfl rfl rfl _ (HRC.out _ r base L R P1.out.ref P1.out.fit) ?_
          rintro e w8 ⟨rfl, ⟨L9, R9, h1⟩, h2⟩
          have P2 := Lib.hid (P1.out.right h1 h2)
          have C2 := Lib.hid (C1.out.keeps h2 HAP.out.2)
          clear h1 h2 P1 C1
          refine ⟨_, rfl, C2.out, ?_⟩
          go_simp
          refine hK' _ _ ?_
          clear hK' K'
          refine walk_float rfl rfl (fun K' hK' => ?_)
          refine gives_int_eq _ _ rfl (no : Nat) rfl rfl ?_
          go_simp
          refine hK' _ ?_
          clear hK' K'
          refine walk_float rfl rfl (fun K' hK' => ?_)
          refine gives_assign _ rfl ?_
          go_simp
          refine hK' _ ?_
          clear hK' K'
          refine walk_nil ?_
          clear C2 HPC HRC HNO
          go_wp2
          obtain ⟨lo, hlo, hop, hro⟩ := P2.out.opens HM40.out
          have HLO := Lib.hid hlo
          have HOP := Lib.hid hop
          have HRO := Lib.hid hro
          have Q0 := Lib.hid P2.out.drew
          clear hlo hop hro
          refine wp_region_sched [(0, true), (1, true), (2, true), (3, true), (5, true), (6, true), (7, true), (8, true), (4, false), (9, true), (10, true), (11, true), (12, true), (14, true), (15, true), (16, true), (17, true), (13, false), (18, true), (19, true), (20, true), (21, true), (23, true), (22, false), (24, false), (25, false), (26, true), (27, true)] (fun W' => PS w W' b r base d9 d9 L9 R9) (by kernel_rfl) (by kernel_rfl) Q0.out ?_
          refine walk_float rfl rfl (fun K' hK' => ?_)
          refine gives_move _ rfl ?_
          go_simp
          refine hK' _ ?_
          clear hK' K'
          refine walk_float rfl rfl (fun K' hK' => ?_)
          refine gives_not _ _ rfl true false rfl rfl ?_
          go_simp
          refine hK' _ ?_
          clear hK' K'
          refine walk_float rfl rfl (fun K' hK' => ?_)
          refine gives_move _ rfl ?_
          go_simp
          refine hK' _ ?_
          clear hK' K'
          refine walk_float rfl rfl (fun K' hK' => ?_)
          refine gives_move _ rfl ?_
          go_simp
          refine hK' _ ?_
          clear hK' K'
          refine walk_float rfl rfl (fun K' hK' => ?_)
          refine gives_move _ rfl ?_
          go_simp
          refine hK' _ ?_
          clear hK' K'
          refine walk_float rfl rfl (fun K' hK' => ?_)
          refine gives_nil_check _ rfl ⟨r.B, 0, none⟩ rfl ?_
          go_simp
          refine hK' _ ?_
          clear hK' K'
          refine walk_float rfl rfl (fun K' hK' => ?_)
          refine gives_field _ 3 rfl (by omega) r.B rfl ?_
          go_simp
          refine hK' _ ?_
          clear hK' K'
          refine walk_float rfl rfl (fun K' hK' => ?_)
          refine gives_box 3 _ rfl ⟨r.B, 3, none⟩ (.int .i64 (d9.made : Nat)) rfl box_int (fun W' hW => hW.ref.c3) ?_
          go_simp
          refine hK' _ ?_
          clear hK' K'
          refine walk_done rfl rfl (fun K' hK' => ?_)
          refine done_enter1 _ _ _ rfl 34 rfl (enters_of Try.func34 (by kernel_rfl) rfl) _ rfl _ (Steps_ok Q0.out.plat) ?_
          rintro e w40 ⟨rfl, rfl⟩
          refine ⟨_, rfl, Q0.out, ?_⟩
          go_simp
          refine hK' _ _ ?_
          clear hK' K'
          refine walk_float rfl rfl (fun K' hK' => ?_)
          refine gives_int_neq _ _ rfl (d9.made : Nat) rfl rfl ?_
          go_simp
          refine hK' _ ?_
          clear hK' K'
          refine walk_float rfl rfl (fun K' hK' => ?_)
          refine gives_pick_no _ _ _ rfl rfl (.bool false) rfl ?_
          go_simp
          refine hK' _ ?_
          clear hK' K'
          refine walk_float rfl rfl (fun K' hK' => ?_)
          refine gives_move _ rfl ?_
          go_simp
          refine hK' _ ?_
          clear hK' K'
          refine walk_float rfl rfl (fun K' hK' => ?_)
          refine gives_move _ rfl ?_
          go_simp
          refine hK' _ ?_
          clear hK' K'
          refine walk_float rfl rfl (fun K' hK' => ?_)
          refine gives_move _ rfl ?_
          go_simp
          refine hK' _ ?_
          clear hK' K'
          refine walk_float rfl rfl (fun K' hK' => ?_)
          refine gives_nil_check _ rfl ⟨r.B, 0, none⟩ rfl ?_
          go_simp
          refine hK' _ ?_
          clear hK' K'
          refine walk_float rfl rfl (fun K' hK' => ?_)
          refine gives_field _ 6 rfl (by omega) r.B rfl ?_
          go_simp
          refine hK' _ ?_
          clear hK' K'
          refine walk_float rfl rfl (fun K' hK' => ?_)
          refine gives_box 4 _ rfl ⟨r.B, 6, none⟩ (.bool d9.down) rfl box_bool (fun W' hW => hW.ref.c6) ?_
          go_simp
          refine hK' _ ?_
          clear hK' K'
          refine walk_done rfl rfl (fun K' hK' => ?_)
          refine done_enter1 _ _ _ rfl 35 rfl (enters_of Try.func35 (by kernel_rfl) rfl) _ rfl _ (Down_ok Q0.out.plat) ?_
          rintro e w40 ⟨rfl, rfl⟩
          refine ⟨_, rfl, Q0.out, ?_⟩
          go_simp
          refine hK' _ _ ?_
          clear hK' K'
          refine walk_float rfl rfl (fun K' hK' => ?_)
          refine gives_bool_neq _ _ rfl d9.down rfl rfl ?_
          go_simp
          refine hK' _ ?_
          clear hK' K'
          refine walk_float rfl rfl (fun K' hK' => ?_)
          refine gives_pick_no _ _ _ rfl rfl (.bool false) rfl ?_
          go_simp
          refine hK' _ ?_
          clear hK' K'
          refine walk_float rfl rfl (fun K' hK' => ?_)
          refine gives_move _ rfl ?_
          go_simp
          refine hK' _ ?_
          clear hK' K'
          refine walk_float rfl rfl (fun K' hK' => ?_)
          refine gives_move _ rfl ?_
          go_simp
          refine hK' _ ?_
          clear hK' K'
          refine walk_float rfl rfl (fun K' hK' => ?_)
          refine gives_move _ rfl ?_
          go_simp
          refine hK' _ ?_
          clear hK' K'
          refine walk_done rfl rfl (fun K' hK' => ?_)
          refine done_enter2 _ _ _ _ rfl 36 rfl (enters_of Try.func36 (by kernel_rfl) rfl) _ _ rfl rfl _ (HOP.out _ Q0.out.plat) ?_
          rintro e w41 ⟨q6, c6, rfl, hi6, hb6⟩
          have Q1 := Lib.hid (Q0.out.below hb6)
          refine ⟨_, rfl, Q1.out, ?_⟩
          go_simp
          refine hK' _ _ ?_
          clear hK' K'
          refine walk_done rfl rfl (fun K' hK' => ?_)
          refine done_enter1 _ _ _ rfl 37 rfl (enters_of Try.func37 (by kernel_rfl) rfl) _ rfl _ (HRO.out _ Q1.out.ref) ?_
          rintro e w42 ⟨q8, c8, rfl, hi8, hb8⟩
          have Q2 := Lib.hid (Q1.out.below hb8)
          refine ⟨_, rfl, Q2.out, ?_⟩
          go_simp
          refine hK' _ _ ?_
          clear hK' K'
          refine walk_done rfl rfl (fun K' hK' => ?_)
          refine done_enter2 _ _ _ _ rfl 31 rfl (enters_of Try.func31 (by kernel_rfl) rfl) _ _ rfl rfl _ (Ints_eq q6 q8 lo c6 c8 (by have := HLO.out; omega) w42 (hi6.below hb8) hi8) ?_
          rintro e w43 ⟨rfl, hb9⟩
          have Q3 := Lib.hid (Q2.out.below hb9)
          refine ⟨_, rfl, Q3.out, ?_⟩
          go_simp
          refine hK' _ _ ?_
          clear hK' K'
          refine walk_float rfl rfl (fun K' hK' => ?_)
          refine gives_not _ _ rfl true false rfl rfl ?_
          go_simp
          refine hK' _ ?_
          clear hK' K'
          refine walk_float rfl rfl (fun K' hK' => ?_)
          refine gives_pick_no _ _ _ rfl rfl (.bool false) rfl ?_
          go_simp
          refine hK' _ ?_
          clear hK' K'
          refine walk_nil ?_
          clear hi6 hb6 hi8 hb8 hb9 Q0 Q1 Q2 HOP HRO HLO
          go_wp2
          go_roundw
          case rel => exact ⟨k + 1, HLT.out, by go_num, d9, L9, R9, Q3.out, HF9.out.1, HF9.out.2⟩
          case measure => have := HLT.out; simp [intOf]; omega
      by_cases hK3 : c.kind = 3
      · have HKD := Lib.hid hK3
        clear hK0 hK1 hK2 hK3
        as_aux_lemma =>
          obtain ⟨no, d9, hno, hfit, hpc, hrc⟩ := tamper_any d HML.out.2.2 HML.out.2.1 c.at' c.bytes.n c.bytes.g
          have HNO := Lib.hid hno
          have HFIT := Lib.hid hfit
          have HPC := Lib.hid hpc
          have HRC := Lib.hid hrc
          clear hno hfit hpc hrc
          have HM40 := Lib.hid (show d9.made ≤ 100000 by have := HFIT.out.1; have := HML.out.1; have := HMK.out; omega)
          have HF9 := Lib.hid (show d9.made ≤ k + 1 ∧ d9.left < 9223372036854775808 from ⟨by have := HFIT.out.1; have := HML.out.1; omega, HFIT.out.2⟩)
          have HBN := Lib.hid (show c.bytes.n ≤ 140737488351232 by have := HBK.out; omega)
          go_wp2_with (first
            | (refine wpList_op_elem rfl _ _ rfl B o n cap k rfl rfl HLT.out ?_)
            | (refine wpList_op_load rfl _ rfl B (o + 5 * k) rfl c HRG.out ?_)
            | (refine wpList_op_alloc rfl rfl ?_)
            | (refine store_row_on rfl 37 _ _ rfl rfl wr.heap.size c.cells.toArray rfl rfl 37 opZero (heap_alloc_new _ _) (opSize c) rfl c.one ?_
               have PB := Lib.hid (PSR.out.below (op_box_below wr c))
               have OB := Lib.hid (OpBox.new wr c)
               generalize hW : (wr.alloc (.cells opZero 37)).setRow wr.heap.size c.cells.toArray = wb at *
               have NEW := Lib.hid (show wr.heap.size < wb.heap.size from OB.out.lt)
               have c0 : wb.cell? ⟨wr.heap.size, 0, none⟩ = some (.int .i64 3) := by rw [← HKD.out]; exact OB.out.cell 0
               clear hW
               have c3 : wb.cell? ⟨wr.heap.size, 3, none⟩ = some (.slice c.bytes.p c.bytes.n c.bytes.c) := OB.out.cell 3)
            | (go_at_call 22; refine (Copy_row c.bytes.p c.bytes.n c.bytes.c c.bytes.g HBN.out wb (HOK.out.bytes.below PB.out.low)).mono ?_; rintro e w5 ⟨rfl, h1, h2⟩
               have ROW := Lib.hid h1
               have P5 := Lib.hid (PB.out.below h2)
               have C5 := Lib.hid (OB.out.below h2)
               have NB := Lib.hid (show ¬ b.own wb.heap.size ∧ ¬ r.own R d.ns wb.heap.size from ⟨PB.out.newB (Nat.le_refl _), PB.out.newR (Nat.le_refl _)⟩)
               have NL := Lib.hid (show w.heap.size ≤ wb.heap.size from PB.out.low.size)
               clear h1 h2 PB OB c0 c3))
          generalize wb.heap.size = D at *
          have C0 := Lib.hid (show OpBox w5.drew wr.heap.size c from C5.out)
          have P0 := Lib.hid P5.out.drew
          have ROW0 := Lib.hid (show IntBlk w5.drew D .u8 5 (Go.Proofs.Ytbejfpdkfpgipaa.mk (c.bytes.n + 2) (markF c.bytes.n c.bytes.g)) from ROW.out)
          clear P5 C5 ROW
          refine wp_region_sched [(0, true), (1, true), (2, true), (3, true), (4, true), (7, true), (8, true), (9, true), (10, true), (11, true), (5, false), (6, false), (12, false), (13, true), (14, true), (15, true), (16, true), (17, true), (18, false), (19, true), (20, true)] (fun W' => OpBox W' wr.heap.size c) (by kernel_rfl) (by kernel_rfl) C0.out ?_
          refine walk_float rfl rfl (fun K' hK' => ?_)
          refine gives_move _ rfl ?_
          go_simp
          refine hK' _ ?_
          clear hK' K'
          refine walk_float rfl rfl (fun K' hK' => ?_)
          refine gives_move _ rfl ?_
          go_simp
          refine hK' _ ?_
          clear hK' K'
          refine walk_float rfl rfl (fun K' hK' => ?_)
          refine gives_opfield _ 1 rfl (by omega) wr.heap.size rfl ?_
          go_simp
          refine hK' _ ?_
          clear hK' K'
          refine walk_float rfl rfl (fun K' hK' => ?_)
          refine gives_box 3 _ rfl ⟨wr.heap.size, 1, none⟩ (.int .i64 c.at') rfl box_int (fun W' hW => hW.cell 1) ?_
          go_simp
          refine hK' _ ?_
          clear hK' K'
          refine walk_float rfl rfl (fun K' hK' => ?_)
          refine gives_move _ rfl ?_
          go_simp
          refine hK' _ ?_
          clear hK' K'
          refine walk_float rfl rfl (fun K' hK' => ?_)
          refine gives_move _ rfl ?_
          go_simp
          refine hK' _ ?_
          clear hK' K'
          refine walk_float rfl rfl (fun K' hK' => ?_)
          refine gives_opfield _ 1 rfl (by omega) wr.heap.size rfl ?_
          go_simp
          refine hK' _ ?_
          clear hK' K'
          refine walk_float rfl rfl (fun K' hK' => ?_)
          refine gives_box 3 _ rfl ⟨wr.heap.size, 1, none⟩ (.int .i64 c.at') rfl box_int (fun W' hW => hW.cell 1) ?_
          go_simp
          refine hK' _ ?_
          clear hK' K'
          refine walk_float rfl rfl (fun K' hK' => ?_)
          refine gives_opfield _ 3 rfl (by omega) wr.heap.size rfl ?_
          go_simp
          refine hK' _ ?_
          clear hK' K'
          refine walk_float rfl rfl (fun K' hK' => ?_)
          refine gives_box 34 _ rfl ⟨wr.heap.size, 3, none⟩ (.slice c.bytes.p c.bytes.n c.bytes.c) rfl box_bytes (fun W' hW => hW.cell 3) ?_
          go_simp
          refine hK' _ ?_
          clear hK' K'
          refine walk_done rfl rfl (fun K' hK' => ?_)
          refine done_enter3 _ _ _ _ _ rfl 23 rfl (enters_of Try.func23 (by kernel_rfl) rfl) _ _ _ rfl rfl rfl _ (HPC.out _ b (some ⟨D, 0, none⟩) (c.bytes.n + 2) P0.out.plat (ROW0.out.bytesAt.low rfl) (fun D' o' e _ => by cases e; exact NB.out.1)) ?_
          rintro e w6 ⟨rfl, h1, h2⟩
          have P6 := Lib.hid (P0.out.left h1 h2)
          have C6 := Lib.hid (C0.out.keeps h2 HAP.out.1)
          have ROW6 := Lib.hid ((h2.block D ROW0.out.lt NB.out.1).trans ROW0.out)
          clear h1 h2 P0 C0 ROW0
          refine ⟨_, rfl, C6.out, ?_⟩
          go_simp
          refine hK' _ _ ?_
          clear hK' K'
          refine walk_done rfl rfl (fun K' hK' => ?_)
          refine done_enter1 _ _ _ rfl 14 rfl (enters_of Try.func14 (by kernel_rfl) rfl) _ rfl _ (Num_any HNO.out _) ?_
          rintro e w7 ⟨rfl, rfl⟩
          refine ⟨_, rfl, C6.out, ?_⟩
          go_simp
          refine hK' _ _ ?_
          clear hK' K'
          refine walk_done rfl rfl (fun K' hK' => ?_)
          refine done_enter3 _ _ _ _ _ rfl 24 rfl (enters_of Try.func24 (by kernel_rfl) rfl) _ _ _ rfl rfl rfl _ (HRC.out _ r base L R c.bytes.p c.bytes.c P6.out.ref (HOK.out.bytes.below P6.out.low) (fun D' o' e h0 => by rcases HOK.out.bytes.old with e0 | ⟨B0, o0, e0, hB0⟩; exact absurd e0 h0; rw [e0] at e; cases e; exact P6.out.oldR hB0)) ?_
          rintro e w8 ⟨rfl, ⟨L9, R9, h1⟩, h2⟩
          have P8 := Lib.hid (P6.out.right h1 h2)
          have C8 := Lib.hid (C6.out.keeps h2 HAP.out.2)
          have ROW8 := Lib.hid (show IntBlk w8 D .u8 5 (Go.Proofs.Ytbejfpdkfpgipaa.mk (c.bytes.n + 2) (markF c.bytes.n c.bytes.g)) from (h2.block D (by have := ROW6.out; exact (Array.getElem?_eq_some_iff.1 this).1) NB.out.2).trans ROW6.out)
          have N8 := Lib.hid (own_type h1 ROW8.out (fun hf => NB.out.2 (.inl hf)))
          clear h1 h2 P6 C6 ROW6
          refine ⟨_, rfl, C8.out, ?_⟩
          go_simp
          refine hK' _ _ ?_
          clear hK' K'
          refine walk_float rfl rfl (fun K' hK' => ?_)
          refine gives_int_eq _ _ rfl (no : Nat) rfl rfl ?_
          go_simp
          refine hK' _ ?_
          clear hK' K'
          refine walk_float rfl rfl (fun K' hK' => ?_)
          refine gives_move _ rfl ?_
          go_simp
          refine hK' _ ?_
          clear hK' K'
          refine walk_float rfl rfl (fun K' hK' => ?_)
          refine gives_move _ rfl ?_
          go_simp
          refine hK' _ ?_
          clear hK' K'
          refine walk_float rfl rfl (fun K' hK' => ?_)
          refine gives_opfield _ 3 rfl (by omega) wr.heap.size rfl ?_
          go_simp
          refine hK' _ ?_
          clear hK' K'
          refine walk_float rfl rfl (fun K' hK' => ?_)
          refine gives_box 34 _ rfl ⟨wr.heap.size, 3, none⟩ (.slice c.bytes.p c.bytes.n c.bytes.c) rfl box_bytes (fun W' hW => hW.cell 3) ?_
          go_simp
          refine hK' _ ?_
          clear hK' K'
          refine walk_done rfl rfl (fun K' hK' => ?_)
          refine done_enter2 _ _ _ _ rfl 25 rfl (enters_of Try.func25 (by kernel_rfl) rfl) _ _ rfl rfl _ (Kept_row c.bytes.p c.bytes.n c.bytes.c D c.bytes.g HBN.out _ (HOK.out.bytes.below P8.out.low) ROW8.out) ?_
          rintro e w9 ⟨rfl, rfl⟩
          refine ⟨_, rfl, C8.out, ?_⟩
          go_simp
          refine hK' _ _ ?_
          clear hK' K'
          refine walk_float rfl rfl (fun K' hK' => ?_)
          refine gives_pick_yes _ _ _ rfl rfl (.bool true) rfl ?_
          go_simp
          refine hK' _ ?_
          clear hK' K'
          refine walk_float rfl rfl (fun K' hK' => ?_)
          refine gives_assign _ rfl ?_
          go_simp
          refine hK' _ ?_
          clear hK' K'
          refine walk_nil ?_
          clear C8 HPC HRC HNO
          go_wp2_with (first
            | (go_at_call 26; refine (Over_row D c.bytes.n (c.bytes.n + 2) (c.bytes.n + 2) _ (by omega) (by have := HBN.out; omega) w8 ROW8.out).mono ?_; rintro e w10 ⟨rfl, h1⟩
               have P10 := Lib.hid (P8.out.but h1 NL.out NB.out.1 N8.out)
               clear h1 P8 ROW8))
          obtain ⟨lo, hlo, hop, hro⟩ := P10.out.opens HM40.out
          have HLO := Lib.hid hlo
          have HOP := Lib.hid hop
          have HRO := Lib.hid hro
          have Q0 := Lib.hid P10.out.drew
          clear hlo hop hro
          refine wp_region_sched [(0, true), (1, true), (2, true), (3, true), (5, true), (6, true), (7, true), (8, true), (4, false), (9, true), (10, true), (11, true), (12, true), (14, true), (15, true), (16, true), (17, true), (13, false), (18, true), (19, true), (20, true), (21, true), (23, true), (22, false), (24, false), (25, false), (26, true), (27, true)] (fun W' => PS w W' b r base d9 d9 L9 R9) (by kernel_rfl) (by kernel_rfl) Q0.out ?_
          refine walk_float rfl rfl (fun K' hK' => ?_)
          refine gives_move _ rfl ?_
          go_simp
          refine hK' _ ?_
          clear hK' K'
          refine walk_float rfl rfl (fun K' hK' => ?_)
          refine gives_not _ _ rfl true false rfl rfl ?_
          go_simp
          refine hK' _ ?_
          clear hK' K'
          refine walk_float rfl rfl (fun K' hK' => ?_)
          refine gives_move _ rfl ?_
          go_simp
          refine hK' _ ?_
          clear hK' K'
          refine walk_float rfl rfl (fun K' hK' => ?_)
          refine gives_move _ rfl ?_
          go_simp
          refine hK' _ ?_
          clear hK' K'
          refine walk_float rfl rfl (fun K' hK' => ?_)
          refine gives_move _ rfl ?_
          go_simp
          refine hK' _ ?_
          clear hK' K'
          refine walk_float rfl rfl (fun K' hK' => ?_)
          refine gives_nil_check _ rfl ⟨r.B, 0, none⟩ rfl ?_
          go_simp
          refine hK' _ ?_
          clear hK' K'
          refine walk_float rfl rfl (fun K' hK' => ?_)
          refine gives_field _ 3 rfl (by omega) r.B rfl ?_
          go_simp
          refine hK' _ ?_
          clear hK' K'
          refine walk_float rfl rfl (fun K' hK' => ?_)
          refine gives_box 3 _ rfl ⟨r.B, 3, none⟩ (.int .i64 (d9.made : Nat)) rfl box_int (fun W' hW => hW.ref.c3) ?_
          go_simp
          refine hK' _ ?_
          clear hK' K'
          refine walk_done rfl rfl (fun K' hK' => ?_)
          refine done_enter1 _ _ _ rfl 34 rfl (enters_of Try.func34 (by kernel_rfl) rfl) _ rfl _ (Steps_ok Q0.out.plat) ?_
          rintro e w40 ⟨rfl, rfl⟩
          refine ⟨_, rfl, Q0.out, ?_⟩
          go_simp
          refine hK' _ _ ?_
          clear hK' K'
          refine walk_float rfl rfl (fun K' hK' => ?_)
          refine gives_int_neq _ _ rfl (d9.made : Nat) rfl rfl ?_
          go_simp
          refine hK' _ ?_
          clear hK' K'
          refine walk_float rfl rfl (fun K' hK' => ?_)
          refine gives_pick_no _ _ _ rfl rfl (.bool false) rfl ?_
          go_simp
          refine hK' _ ?_
          clear hK' K'
          refine walk_float rfl rfl (fun K' hK' => ?_)
          refine gives_move _ rfl ?_
          go_simp
          refine hK' _ ?_
          clear hK' K'
          refine walk_float rfl rfl (fun K' hK' => ?_)
          refine gives_move _ rfl ?_
          go_simp
          refine hK' _ ?_
          clear hK' K'
          refine walk_float rfl rfl (fun K' hK' => ?_)
          refine gives_move _ rfl ?_
          go_simp
          refine hK' _ ?_
          clear hK' K'
          refine walk_float rfl rfl (fun K' hK' => ?_)
          refine gives_nil_check _ rfl ⟨r.B, 0, none⟩ rfl ?_
          go_simp
          refine hK' _ ?_
          clear hK' K'
          refine walk_float rfl rfl (fun K' hK' => ?_)
          refine gives_field _ 6 rfl (by omega) r.B rfl ?_
          go_simp
          refine hK' _ ?_
          clear hK' K'
          refine walk_float rfl rfl (fun K' hK' => ?_)
          refine gives_box 4 _ rfl ⟨r.B, 6, none⟩ (.bool d9.down) rfl box_bool (fun W' hW => hW.ref.c6) ?_
          go_simp
          refine hK' _ ?_
          clear hK' K'
          refine walk_done rfl rfl (fun K' hK' => ?_)
          refine done_enter1 _ _ _ rfl 35 rfl (enters_of Try.func35 (by kernel_rfl) rfl) _ rfl _ (Down_ok Q0.out.plat) ?_
          rintro e w40 ⟨rfl, rfl⟩
          refine ⟨_, rfl, Q0.out, ?_⟩
          go_simp
          refine hK' _ _ ?_
          clear hK' K'
          refine walk_float rfl rfl (fun K' hK' => ?_)
          refine gives_bool_neq _ _ rfl d9.down rfl rfl ?_
          go_simp
          refine hK' _ ?_
          clear hK' K'
          refine walk_float rfl rfl (fun K' hK' => ?_)
          refine gives_pick_no _ _ _ rfl rfl (.bool false) rfl ?_
          go_simp
          refine hK' _ ?_
          clear hK' K'
          refine walk_float rfl rfl (fun K' hK' => ?_)
          refine gives_move _ rfl ?_
          go_simp
          refine hK' _ ?_
          clear hK' K'
          refine walk_float rfl rfl (fun K' hK' => ?_)
          refine gives_move _ rfl ?_
          go_simp
          refine hK' _ ?_
          clear hK' K'
          refine walk_float rfl rfl (fun K' hK' => ?_)
          refine gives_move _ rfl ?_
          go_simp
          refine hK' _ ?_
          clear hK' K'
          refine walk_done rfl rfl (fun K' hK' => ?_)
          refine done_enter2 _ _ _ _ rfl 36 rfl (enters_of Try.func36 (by kernel_rfl) rfl) _ _ rfl rfl _ (HOP.out _ Q0.out.plat) ?_
          rintro e w41 ⟨q6, c6, rfl, hi6, hb6⟩
          have Q1 := Lib.hid (Q0.out.below hb6)
          refine ⟨_, rfl, Q1.out, ?_⟩
          go_simp
          refine hK' _ _ ?_
          clear hK' K'
          refine walk_done rfl rfl (fun K' hK' => ?_)
          refine done_enter1 _ _ _ rfl 37 rfl (enters_of Try.func37 (by kernel_rfl) rfl) _ rfl _ (HRO.out _ Q1.out.ref) ?_
          rintro e w42 ⟨q8, c8, rfl, hi8, hb8⟩
          have Q2 := Lib.hid (Q1.out.below hb8)
          refine ⟨_, rfl, Q2.out, ?_⟩
          go_simp
          refine hK' _ _ ?_
          clear hK' K'
          refine walk_done rfl rfl (fun K' hK' => ?_)
          refine done_enter2 _ _ _ _ rfl 31 rfl (enters_of Try.func31 (by kernel_rfl) rfl) _ _ rfl rfl _ (Ints_eq q6 q8 lo c6 c8 (by have := HLO.out; omega) w42 (hi6.below hb8) hi8) ?_
          rintro e w43 ⟨rfl, hb9⟩
          have Q3 := Lib.hid (Q2.out.below hb9)
          refine ⟨_, rfl, Q3.out, ?_⟩
          go_simp
          refine hK' _ _ ?_
          clear hK' K'
          refine walk_float rfl rfl (fun K' hK' => ?_)
          refine gives_not _ _ rfl true false rfl rfl ?_
          go_simp
          refine hK' _ ?_
          clear hK' K'
          refine walk_float rfl rfl (fun K' hK' => ?_)
          refine gives_pick_no _ _ _ rfl rfl (.bool false) rfl ?_
          go_simp
          refine hK' _ ?_
          clear hK' K'
          refine walk_nil ?_
          clear hi6 hb6 hi8 hb8 hb9 Q0 Q1 Q2 HOP HRO HLO
          go_wp2
          go_roundw
          case rel => exact ⟨k + 1, HLT.out, by go_num, d9, L9, R9, Q3.out, HF9.out.1, HF9.out.2⟩
          case measure => have := HLT.out; simp [intOf]; omega
      by_cases hK4 : c.kind = 4
      · have HKD := Lib.hid hK4
        clear hK0 hK1 hK2 hK3 hK4
        by_cases hneg : c.n < 0
        · skip
          as_aux_lemma =>
            have HNG := Lib.hid hneg
            have hd9 : ∃ d9, d9 = d := ⟨d, rfl⟩
            obtain ⟨d9, hd9⟩ := hd9
            have HNE := Lib.hid hd9
            have HM40 := Lib.hid (show d.made ≤ 100000 from HML.out.2.2)
            have HF9 := Lib.hid (show d.made ≤ k + 1 ∧ d.left < 9223372036854775808 from ⟨by have := HML.out.1; omega, HML.out.2.1⟩)
            have q1 : decide ((0 : Int) ≤ c.n) = false := by simpa using hneg
            clear hd9 hneg
            go_wp2_with (first
              | (refine wpList_op_elem rfl _ _ rfl B o n cap k rfl rfl HLT.out ?_)
              | (refine wpList_op_load rfl _ rfl B (o + 5 * k) rfl c HRG.out ?_)
              | (refine wpList_op_alloc rfl rfl ?_)
              | (refine store_row_on rfl 37 _ _ rfl rfl wr.heap.size c.cells.toArray rfl rfl 37 opZero (heap_alloc_new _ _) (opSize c) rfl c.one ?_
                 have PB := Lib.hid (PSR.out.below (op_box_below wr c))
                 have OB := Lib.hid (OpBox.new wr c)
                 generalize hW : (wr.alloc (.cells opZero 37)).setRow wr.heap.size c.cells.toArray = wb at *
                 have NEW := Lib.hid (show wr.heap.size < wb.heap.size from OB.out.lt)
                 have c0 : wb.cell? ⟨wr.heap.size, 0, none⟩ = some (.int .i64 4) := by rw [← HKD.out]; exact OB.out.cell 0
                 clear hW
                 have c2 : wb.cell? ⟨wr.heap.size, 2, none⟩ = some (.int .i64 c.n) := OB.out.cell 2)
              | (go_at_call 27; refine (Arm_rangeN wb b.B c.n HNG.out).mono ?_; rintro e w5 ⟨rfl, rfl⟩
                 have P5 := Lib.hid PB.out
                 have C5 := Lib.hid OB.out
                 clear PB OB c0 c2))
            have C0 := Lib.hid (show OpBox wb.drew wr.heap.size c from C5.out)
            have P0 := Lib.hid P5.out.drew
            clear P5 C5
            refine wp_region_sched [(0, true), (1, true), (2, true), (3, true), (4, true), (5, true), (6, true), (7, true), (8, true), (9, true), (10, true), (11, false), (12, true), (13, true), (14, true)] (fun W' => OpBox W' wr.heap.size c) (by kernel_rfl) (by kernel_rfl) C0.out ?_
            refine walk_float rfl rfl (fun K' hK' => ?_)
            refine gives_move _ rfl ?_
            go_simp
            refine hK' _ ?_
            clear hK' K'
            refine walk_float rfl rfl (fun K' hK' => ?_)
            refine gives_err_eq _ rfl 1 (.inr (.inl rfl)) rfl false rfl ?_
            go_simp
            refine hK' _ ?_
            clear hK' K'
            refine walk_float rfl rfl (fun K' hK' => ?_)
            refine gives_opfield _ 2 rfl (by omega) wr.heap.size rfl ?_
            go_simp
            refine hK' _ ?_
            clear hK' K'
            refine walk_float rfl rfl (fun K' hK' => ?_)
            refine gives_box 3 _ rfl ⟨wr.heap.size, 2, none⟩ (.int .i64 c.n) rfl box_int (fun W' hW => hW.cell 2) ?_
            go_simp
            refine hK' _ ?_
            clear hK' K'
            refine walk_float rfl rfl (fun K' hK' => ?_)
            refine gives_int_geq _ _ rfl c.n 0 rfl rfl false q1 ?_
            go_simp
            refine hK' _ ?_
            clear hK' K'
            refine walk_float rfl rfl (fun K' hK' => ?_)
            refine gives_bool_eq _ _ rfl false rfl rfl ?_
            go_simp
            refine hK' _ ?_
            clear hK' K'
            refine walk_float rfl rfl (fun K' hK' => ?_)
            refine gives_move _ rfl ?_
            go_simp
            refine hK' _ ?_
            clear hK' K'
            refine walk_float rfl rfl (fun K' hK' => ?_)
            refine gives_move _ rfl ?_
            go_simp
            refine hK' _ ?_
            clear hK' K'
            refine walk_float rfl rfl (fun K' hK' => ?_)
            refine gives_err_eq _ rfl 1 (.inr (.inl rfl)) rfl false rfl ?_
            go_simp
            refine hK' _ ?_
            clear hK' K'
            refine walk_float rfl rfl (fun K' hK' => ?_)
            refine gives_move _ rfl ?_
            go_simp
            refine hK' _ ?_
            clear hK' K'
            refine walk_float rfl rfl (fun K' hK' => ?_)
            refine gives_move _ rfl ?_
            go_simp
            refine hK' _ ?_
            clear hK' K'
            refine walk_done rfl rfl (fun K' hK' => ?_)
            refine done_enter2 _ _ _ _ rfl 28 rfl (enters_of Try.func28 (by kernel_rfl) rfl) _ _ rfl rfl _ (Is_one _) ?_
            rintro e w7 ⟨rfl, rfl⟩
            refine ⟨_, rfl, C0.out, ?_⟩
            go_simp
            refine hK' _ _ ?_
            clear hK' K'
            refine walk_float rfl rfl (fun K' hK' => ?_)
            refine gives_pick_no _ _ _ rfl rfl (.bool true) rfl ?_
            go_simp
            refine hK' _ ?_
            clear hK' K'
            refine walk_float rfl rfl (fun K' hK' => ?_)
            refine gives_pick_yes _ _ _ rfl rfl (.bool true) rfl ?_
            go_simp
            refine hK' _ ?_
            clear hK' K'
            refine walk_float rfl rfl (fun K' hK' => ?_)
            refine gives_assign _ rfl ?_
            go_simp
            refine hK' _ ?_
            clear hK' K'
            refine walk_nil ?_
            have c2 : (wb.drew).cell? ⟨wr.heap.size, 2, none⟩ = some (.int .i64 c.n) := C0.out.cell 2
            have L9 := L
            obtain ⟨L9, hL9⟩ : ∃ L9, L9 = L := ⟨_, rfl⟩
            obtain ⟨R9, hR9⟩ : ∃ R9, R9 = R := ⟨_, rfl⟩
            have P6 := Lib.hid (show PS w wb.drew b r base d d L9 R9 from hL9 ▸ hR9 ▸ P0.out)
            clear P0 C0 hL9 hR9
            go_wp2
            clear c2
            obtain ⟨lo, hlo, hop, hro⟩ := P6.out.opens HM40.out
            have HLO := Lib.hid hlo
            have HOP := Lib.hid hop
            have HRO := Lib.hid hro
            have Q0 := Lib.hid P6.out.drew
            clear hlo hop hro
            refine wp_region_sched [(0, true), (1, true), (2, true), (3, true), (5, true), (6, true), (7, true), (8, true), (4, false), (9, true), (10, true), (11, true), (12, true), (14, true), (15, true), (16, true), (17, true), (13, false), (18, true), (19, true), (20, true), (21, true), (23, true), (22, false), (24, false), (25, false), (26, true), (27, true)] (fun W' => PS w W' b r base d d L9 R9) (by kernel_rfl) (by kernel_rfl) Q0.out ?_
            refine walk_float rfl rfl (fun K' hK' => ?_)
            refine gives_move _ rfl ?_
            go_simp
            refine hK' _ ?_
            clear hK' K'
            refine walk_float rfl rfl (fun K' hK' => ?_)
            refine gives_not _ _ rfl true false rfl rfl ?_
            go_simp
            refine hK' _ ?_
            clear hK' K'
            refine walk_float rfl rfl (fun K' hK' => ?_)
            refine gives_move _ rfl ?_
            go_simp
            refine hK' _ ?_
            clear hK' K'
            refine walk_float rfl rfl (fun K' hK' => ?_)
            refine gives_move _ rfl ?_
            go_simp
            refine hK' _ ?_
            clear hK' K'
            refine walk_float rfl rfl (fun K' hK' => ?_)
            refine gives_move _ rfl ?_
            go_simp
            refine hK' _ ?_
            clear hK' K'
            refine walk_float rfl rfl (fun K' hK' => ?_)
            refine gives_nil_check _ rfl ⟨r.B, 0, none⟩ rfl ?_
            go_simp
            refine hK' _ ?_
            clear hK' K'
            refine walk_float rfl rfl (fun K' hK' => ?_)
            refine gives_field _ 3 rfl (by omega) r.B rfl ?_
            go_simp
            refine hK' _ ?_
            clear hK' K'
            refine walk_float rfl rfl (fun K' hK' => ?_)
            refine gives_box 3 _ rfl ⟨r.B, 3, none⟩ (.int .i64 (d.made : Nat)) rfl box_int (fun W' hW => hW.ref.c3) ?_
            go_simp
            refine hK' _ ?_
            clear hK' K'
            refine walk_done rfl rfl (fun K' hK' => ?_)
            refine done_enter1 _ _ _ rfl 34 rfl (enters_of Try.func34 (by kernel_rfl) rfl) _ rfl _ (Steps_ok Q0.out.plat) ?_
            rintro e w40 ⟨rfl, rfl⟩
            refine ⟨_, rfl, Q0.out, ?_⟩
            go_simp
            refine hK' _ _ ?_
            clear hK' K'
            refine walk_float rfl rfl (fun K' hK' => ?_)
            refine gives_int_neq _ _ rfl (d.made : Nat) rfl rfl ?_
            go_simp
            refine hK' _ ?_
            clear hK' K'
            refine walk_float rfl rfl (fun K' hK' => ?_)
            refine gives_pick_no _ _ _ rfl rfl (.bool false) rfl ?_
            go_simp
            refine hK' _ ?_
            clear hK' K'
            refine walk_float rfl rfl (fun K' hK' => ?_)
            refine gives_move _ rfl ?_
            go_simp
            refine hK' _ ?_
            clear hK' K'
            refine walk_float rfl rfl (fun K' hK' => ?_)
            refine gives_move _ rfl ?_
            go_simp
            refine hK' _ ?_
            clear hK' K'
            refine walk_float rfl rfl (fun K' hK' => ?_)
            refine gives_move _ rfl ?_
            go_simp
            refine hK' _ ?_
            clear hK' K'
            refine walk_float rfl rfl (fun K' hK' => ?_)
            refine gives_nil_check _ rfl ⟨r.B, 0, none⟩ rfl ?_
            go_simp
            refine hK' _ ?_
            clear hK' K'
            refine walk_float rfl rfl (fun K' hK' => ?_)
            refine gives_field _ 6 rfl (by omega) r.B rfl ?_
            go_simp
            refine hK' _ ?_
            clear hK' K'
            refine walk_float rfl rfl (fun K' hK' => ?_)
            refine gives_box 4 _ rfl ⟨r.B, 6, none⟩ (.bool d.down) rfl box_bool (fun W' hW => hW.ref.c6) ?_
            go_simp
            refine hK' _ ?_
            clear hK' K'
            refine walk_done rfl rfl (fun K' hK' => ?_)
            refine done_enter1 _ _ _ rfl 35 rfl (enters_of Try.func35 (by kernel_rfl) rfl) _ rfl _ (Down_ok Q0.out.plat) ?_
            rintro e w40 ⟨rfl, rfl⟩
            refine ⟨_, rfl, Q0.out, ?_⟩
            go_simp
            refine hK' _ _ ?_
            clear hK' K'
            refine walk_float rfl rfl (fun K' hK' => ?_)
            refine gives_bool_neq _ _ rfl d.down rfl rfl ?_
            go_simp
            refine hK' _ ?_
            clear hK' K'
            refine walk_float rfl rfl (fun K' hK' => ?_)
            refine gives_pick_no _ _ _ rfl rfl (.bool false) rfl ?_
            go_simp
            refine hK' _ ?_
            clear hK' K'
            refine walk_float rfl rfl (fun K' hK' => ?_)
            refine gives_move _ rfl ?_
            go_simp
            refine hK' _ ?_
            clear hK' K'
            refine walk_float rfl rfl (fun K' hK' => ?_)
            refine gives_move _ rfl ?_
            go_simp
            refine hK' _ ?_
            clear hK' K'
            refine walk_float rfl rfl (fun K' hK' => ?_)
            refine gives_move _ rfl ?_
            go_simp
            refine hK' _ ?_
            clear hK' K'
            refine walk_done rfl rfl (fun K' hK' => ?_)
            refine done_enter2 _ _ _ _ rfl 36 rfl (enters_of Try.func36 (by kernel_rfl) rfl) _ _ rfl rfl _ (HOP.out _ Q0.out.plat) ?_
            rintro e w41 ⟨q6, c6, rfl, hi6, hb6⟩
            have Q1 := Lib.hid (Q0.out.below hb6)
            refine ⟨_, rfl, Q1.out, ?_⟩
            go_simp
            refine hK' _ _ ?_
            clear hK' K'
            refine walk_done rfl rfl (fun K' hK' => ?_)
            refine done_enter1 _ _ _ rfl 37 rfl (enters_of Try.func37 (by kernel_rfl) rfl) _ rfl _ (HRO.out _ Q1.out.ref) ?_
            rintro e w42 ⟨q8, c8, rfl, hi8, hb8⟩
            have Q2 := Lib.hid (Q1.out.below hb8)
            refine ⟨_, rfl, Q2.out, ?_⟩
            go_simp
            refine hK' _ _ ?_
            clear hK' K'
            refine walk_done rfl rfl (fun K' hK' => ?_)
            refine done_enter2 _ _ _ _ rfl 31 rfl (enters_of Try.func31 (by kernel_rfl) rfl) _ _ rfl rfl _ (Ints_eq q6 q8 lo c6 c8 (by have := HLO.out; omega) w42 (hi6.below hb8) hi8) ?_
            rintro e w43 ⟨rfl, hb9⟩
            have Q3 := Lib.hid (Q2.out.below hb9)
            refine ⟨_, rfl, Q3.out, ?_⟩
            go_simp
            refine hK' _ _ ?_
            clear hK' K'
            refine walk_float rfl rfl (fun K' hK' => ?_)
            refine gives_not _ _ rfl true false rfl rfl ?_
            go_simp
            refine hK' _ ?_
            clear hK' K'
            refine walk_float rfl rfl (fun K' hK' => ?_)
            refine gives_pick_no _ _ _ rfl rfl (.bool false) rfl ?_
            go_simp
            refine hK' _ ?_
            clear hK' K'
            refine walk_nil ?_
            clear hi6 hb6 hi8 hb8 hb9 Q0 Q1 Q2 HOP HRO HLO
            go_wp2
            go_roundw
            case rel => exact ⟨k + 1, HLT.out, by go_num, d, L9, R9, Q3.out, HF9.out.1, HF9.out.2⟩
            case measure => have := HLT.out; simp [intOf]; omega
        · have hneg : 0 ≤ c.n := by omega
          as_aux_lemma =>
            obtain ⟨m, hm⟩ : ∃ m : Nat, c.n = (m : Int) := ⟨c.n.toNat, by omega⟩
            have HMM := Lib.hid hm
            have HMB := Lib.hid (show m < 9223372036854775808 by have := (int_high HOK.out.k3); omega)
            have q1 : decide ((0 : Int) ≤ c.n) = true := by simpa using hneg
            have HM40 := Lib.hid (show (d.armedWith m).made ≤ 100000 from HML.out.2.2)
            have HF9 := Lib.hid (show (d.armedWith m).made ≤ k + 1 ∧ (d.armedWith m).left < 9223372036854775808 from ⟨by have := HML.out.1; show d.made ≤ k + 1; omega, HMB.out⟩)
            clear hm hneg
            go_wp2_with (first
              | (refine wpList_op_elem rfl _ _ rfl B o n cap k rfl rfl HLT.out ?_)
              | (refine wpList_op_load rfl _ rfl B (o + 5 * k) rfl c HRG.out ?_)
              | (refine wpList_op_alloc rfl rfl ?_)
              | (refine store_row_on rfl 37 _ _ rfl rfl wr.heap.size c.cells.toArray rfl rfl 37 opZero (heap_alloc_new _ _) (opSize c) rfl c.one ?_
                 have PB := Lib.hid (PSR.out.below (op_box_below wr c))
                 have OB := Lib.hid (OpBox.new wr c)
                 generalize hW : (wr.alloc (.cells opZero 37)).setRow wr.heap.size c.cells.toArray = wb at *
                 have NEW := Lib.hid (show wr.heap.size < wb.heap.size from OB.out.lt)
                 have c0 : wb.cell? ⟨wr.heap.size, 0, none⟩ = some (.int .i64 4) := by rw [← HKD.out]; exact OB.out.cell 0
                 clear hW
                 have c2 : wb.cell? ⟨wr.heap.size, 2, none⟩ = some (.int .i64 c.n) := OB.out.cell 2)
              | (go_at_call 27; rw [HMM.out]; refine (Arm_okN PB.out.plat m).mono ?_; rintro e w5 ⟨rfl, h1, h2⟩
                 have P5 := Lib.hid (PB.out.left h1 h2)
                 have C5 := Lib.hid (OB.out.keeps h2 HAP.out.1)
                 clear h1 h2 PB OB c0 c2))
            have C0 := Lib.hid (show OpBox w5.drew wr.heap.size c from C5.out)
            have P0 := Lib.hid P5.out.drew
            clear P5 C5
            refine wp_region_sched [(0, true), (1, true), (2, true), (3, true), (4, true), (5, true), (6, true), (7, true), (8, true), (9, true), (10, true), (11, false), (12, true), (13, true), (14, true)] (fun W' => OpBox W' wr.heap.size c) (by kernel_rfl) (by kernel_rfl) C0.out ?_
            refine walk_float rfl rfl (fun K' hK' => ?_)
            refine gives_move _ rfl ?_
            go_simp
            refine hK' _ ?_
            clear hK' K'
            refine walk_float rfl rfl (fun K' hK' => ?_)
            refine gives_err_eq _ rfl 0 (.inl rfl) rfl true rfl ?_
            go_simp
            refine hK' _ ?_
            clear hK' K'
            refine walk_float rfl rfl (fun K' hK' => ?_)
            refine gives_opfield _ 2 rfl (by omega) wr.heap.size rfl ?_
            go_simp
            refine hK' _ ?_
            clear hK' K'
            refine walk_float rfl rfl (fun K' hK' => ?_)
            refine gives_box 3 _ rfl ⟨wr.heap.size, 2, none⟩ (.int .i64 c.n) rfl box_int (fun W' hW => hW.cell 2) ?_
            go_simp
            refine hK' _ ?_
            clear hK' K'
            refine walk_float rfl rfl (fun K' hK' => ?_)
            refine gives_int_geq _ _ rfl c.n 0 rfl rfl true q1 ?_
            go_simp
            refine hK' _ ?_
            clear hK' K'
            refine walk_float rfl rfl (fun K' hK' => ?_)
            refine gives_bool_eq _ _ rfl true rfl rfl ?_
            go_simp
            refine hK' _ ?_
            clear hK' K'
            refine walk_float rfl rfl (fun K' hK' => ?_)
            refine gives_move _ rfl ?_
            go_simp
            refine hK' _ ?_
            clear hK' K'
            refine walk_float rfl rfl (fun K' hK' => ?_)
            refine gives_move _ rfl ?_
            go_simp
            refine hK' _ ?_
            clear hK' K'
            refine walk_float rfl rfl (fun K' hK' => ?_)
            refine gives_err_eq _ rfl 0 (.inl rfl) rfl true rfl ?_
            go_simp
            refine hK' _ ?_
            clear hK' K'
            refine walk_float rfl rfl (fun K' hK' => ?_)
            refine gives_move _ rfl ?_
            go_simp
            refine hK' _ ?_
            clear hK' K'
            refine walk_off rfl rfl ?_
            go_simp
            refine walk_off' rfl rfl ?_
            go_simp
            refine walk_float rfl rfl (fun K' hK' => ?_)
            refine gives_pick_yes _ _ _ rfl rfl (.bool true) rfl ?_
            go_simp
            refine hK' _ ?_
            clear hK' K'
            refine walk_float rfl rfl (fun K' hK' => ?_)
            refine gives_pick_yes _ _ _ rfl rfl (.bool true) rfl ?_
            go_simp
            refine hK' _ ?_
            clear hK' K'
            refine walk_float rfl rfl (fun K' hK' => ?_)
            refine gives_assign _ rfl ?_
            go_simp
            refine hK' _ ?_
            clear hK' K'
            refine walk_nil ?_
            have c2 : (w5.drew).cell? ⟨wr.heap.size, 2, none⟩ = some (.int .i64 c.n) := C0.out.cell 2
            have R1 := P0.out.ref.setB 4 (.bool true) { d with armed := true, left := L } L rfl (fun _ => rfl) rfl rfl rfl rfl (Nat.le_refl _)
            have R2 := R1.setB 5 (.int .i64 (m : Nat)) (d.armedWith m) m rfl (fun _ => rfl) rfl rfl rfl rfl (Nat.le_refl _)
            have KK := ((Keeps.refl (r.own R d.ns) w5.drew).setCell (S := r.own R d.ns) (B := r.B) (.inl (.inl rfl)) 4 (.bool true)).setCell (S := r.own R d.ns) (B := r.B) (.inl (.inl rfl)) 5 (.int .i64 (m : Nat))
            have P6 := Lib.hid (P0.out.right R2 KK)
            have a4 := Lib.hid P0.out.ref.c4
            have a4f := Lib.hid (P0.out.ref.free 4)
            have a5 := Lib.hid R1.c5
            have a5f := Lib.hid (R1.free 5)
            clear R1 R2 KK
            go_wp2
            have C1 := Lib.hid (show OpBox w5.drew.drew wr.heap.size c from C0.out)
            have NO := Lib.hid (show wr.heap.size ≠ r.B from fun e => HAP.out.2 (e ▸ .inl (.inl rfl)))
            clear c2
            refine wp_region_sched [(0, true), (1, true), (2, true), (3, true), (4, true), (5, true), (6, false), (7, true), (8, true), (9, false)] (fun W' => OpBox W' wr.heap.size c) (by kernel_rfl) (by kernel_rfl) C1.out ?_
            refine walk_float rfl rfl (fun K' hK' => ?_)
            refine gives_move _ rfl ?_
            go_simp
            refine hK' _ ?_
            clear hK' K'
            refine walk_float rfl rfl (fun K' hK' => ?_)
            refine gives_move _ rfl ?_
            go_simp
            refine hK' _ ?_
            clear hK' K'
            refine walk_float rfl rfl (fun K' hK' => ?_)
            refine gives_opfield _ 2 rfl (by omega) wr.heap.size rfl ?_
            go_simp
            refine hK' _ ?_
            clear hK' K'
            refine walk_float rfl rfl (fun K' hK' => ?_)
            refine gives_box 3 _ rfl ⟨wr.heap.size, 2, none⟩ (.int .i64 (m : Nat)) rfl box_int (fun W' hW => (hW.cell 2).trans (congrArg (fun z => some (Value.int .i64 z)) HMM.out)) ?_
            go_simp
            refine hK' _ ?_
            clear hK' K'
            refine walk_float rfl rfl (fun K' hK' => ?_)
            refine gives_nil_check _ rfl ⟨r.B, 0, none⟩ rfl ?_
            go_simp
            refine hK' _ ?_
            clear hK' K'
            refine walk_float rfl rfl (fun K' hK' => ?_)
            refine gives_field _ 4 rfl (by omega) r.B rfl ?_
            go_simp
            refine hK' _ ?_
            clear hK' K'
            refine walk_done rfl rfl (fun K' hK' => ?_)
            refine done_store_bool _ _ rfl ⟨r.B, 4, none⟩ true rfl rfl _ a4.out a4f.out ?_
            refine ⟨OpBox.set C1.out NO.out _ _, ?_⟩
            go_simp
            refine hK' _ _ ?_
            clear hK' K'
            refine walk_float rfl rfl (fun K' hK' => ?_)
            refine gives_nil_check _ rfl ⟨r.B, 0, none⟩ rfl ?_
            go_simp
            refine hK' _ ?_
            clear hK' K'
            refine walk_float rfl rfl (fun K' hK' => ?_)
            refine gives_field _ 5 rfl (by omega) r.B rfl ?_
            go_simp
            refine hK' _ ?_
            clear hK' K'
            refine walk_done rfl rfl (fun K' hK' => ?_)
            refine done_store_int _ _ rfl ⟨r.B, 5, none⟩ (m : Nat) rfl rfl _ a5.out a5f.out ?_
            refine ⟨OpBox.set (OpBox.set C1.out NO.out _ _) NO.out _ _, ?_⟩
            go_simp
            refine hK' _ _ ?_
            clear hK' K'
            refine walk_nil ?_
            have P7 := Lib.hid (show PS w (((w5.setCell ⟨r.B, 4, none⟩ (.bool true)).setCell ⟨r.B, 5, none⟩ (.int .i64 (m : Nat))).drew.drew) b r base (d.armedWith m) (d.armedWith m) m R from P6.out.drew)
            clear P6 P0 C0 C1 a4 a4f a5 a5f
            generalize ((w5.setCell ⟨r.B, 4, none⟩ (.bool true)).setCell ⟨r.B, 5, none⟩ (.int .i64 (m : Nat))).drew.drew = w8 at *
            go_wp2
            obtain ⟨lo, hlo, hop, hro⟩ := P7.out.opens HM40.out
            have HLO := Lib.hid hlo
            have HOP := Lib.hid hop
            have HRO := Lib.hid hro
            have Q0 := Lib.hid P7.out.drew
            clear hlo hop hro
            refine wp_region_sched [(0, true), (1, true), (2, true), (3, true), (5, true), (6, true), (7, true), (8, true), (4, false), (9, true), (10, true), (11, true), (12, true), (14, true), (15, true), (16, true), (17, true), (13, false), (18, true), (19, true), (20, true), (21, true), (23, true), (22, false), (24, false), (25, false), (26, true), (27, true)] (fun W' => PS w W' b r base (d.armedWith m) (d.armedWith m) m R) (by kernel_rfl) (by kernel_rfl) Q0.out ?_
            refine walk_float rfl rfl (fun K' hK' => ?_)
            refine gives_move _ rfl ?_
            go_simp
            refine hK' _ ?_
            clear hK' K'
            refine walk_float rfl rfl (fun K' hK' => ?_)
            refine gives_not _ _ rfl true false rfl rfl ?_
            go_simp
            refine hK' _ ?_
            clear hK' K'
            refine walk_float rfl rfl (fun K' hK' => ?_)
            refine gives_move _ rfl ?_
            go_simp
            refine hK' _ ?_
            clear hK' K'
            refine walk_float rfl rfl (fun K' hK' => ?_)
            refine gives_move _ rfl ?_
            go_simp
            refine hK' _ ?_
            clear hK' K'
            refine walk_float rfl rfl (fun K' hK' => ?_)
            refine gives_move _ rfl ?_
            go_simp
            refine hK' _ ?_
            clear hK' K'
            refine walk_float rfl rfl (fun K' hK' => ?_)
            refine gives_nil_check _ rfl ⟨r.B, 0, none⟩ rfl ?_
            go_simp
            refine hK' _ ?_
            clear hK' K'
            refine walk_float rfl rfl (fun K' hK' => ?_)
            refine gives_field _ 3 rfl (by omega) r.B rfl ?_
            go_simp
            refine hK' _ ?_
            clear hK' K'
            refine walk_float rfl rfl (fun K' hK' => ?_)
            refine gives_box 3 _ rfl ⟨r.B, 3, none⟩ (.int .i64 ((d.armedWith m).made : Nat)) rfl box_int (fun W' hW => hW.ref.c3) ?_
            go_simp
            refine hK' _ ?_
            clear hK' K'
            refine walk_done rfl rfl (fun K' hK' => ?_)
            refine done_enter1 _ _ _ rfl 34 rfl (enters_of Try.func34 (by kernel_rfl) rfl) _ rfl _ (Steps_ok Q0.out.plat) ?_
            rintro e w40 ⟨rfl, rfl⟩
            refine ⟨_, rfl, Q0.out, ?_⟩
            go_simp
            refine hK' _ _ ?_
            clear hK' K'
            refine walk_float rfl rfl (fun K' hK' => ?_)
            refine gives_int_neq _ _ rfl ((d.armedWith m).made : Nat) rfl rfl ?_
            go_simp
            refine hK' _ ?_
            clear hK' K'
            refine walk_float rfl rfl (fun K' hK' => ?_)
            refine gives_pick_no _ _ _ rfl rfl (.bool false) rfl ?_
            go_simp
            refine hK' _ ?_
            clear hK' K'
            refine walk_float rfl rfl (fun K' hK' => ?_)
            refine gives_move _ rfl ?_
            go_simp
            refine hK' _ ?_
            clear hK' K'
            refine walk_float rfl rfl (fun K' hK' => ?_)
            refine gives_move _ rfl ?_
            go_simp
            refine hK' _ ?_
            clear hK' K'
            refine walk_float rfl rfl (fun K' hK' => ?_)
            refine gives_move _ rfl ?_
            go_simp
            refine hK' _ ?_
            clear hK' K'
            refine walk_float rfl rfl (fun K' hK' => ?_)
            refine gives_nil_check _ rfl ⟨r.B, 0, none⟩ rfl ?_
            go_simp
            refine hK' _ ?_
            clear hK' K'
            refine walk_float rfl rfl (fun K' hK' => ?_)
            refine gives_field _ 6 rfl (by omega) r.B rfl ?_
            go_simp
            refine hK' _ ?_
            clear hK' K'
            refine walk_float rfl rfl (fun K' hK' => ?_)
            refine gives_box 4 _ rfl ⟨r.B, 6, none⟩ (.bool (d.armedWith m).down) rfl box_bool (fun W' hW => hW.ref.c6) ?_
            go_simp
            refine hK' _ ?_
            clear hK' K'
            refine walk_done rfl rfl (fun K' hK' => ?_)
            refine done_enter1 _ _ _ rfl 35 rfl (enters_of Try.func35 (by kernel_rfl) rfl) _ rfl _ (Down_ok Q0.out.plat) ?_
            rintro e w40 ⟨rfl, rfl⟩
            refine ⟨_, rfl, Q0.out, ?_⟩
            go_simp
            refine hK' _ _ ?_
            clear hK' K'
            refine walk_float rfl rfl (fun K' hK' => ?_)
            refine gives_bool_neq _ _ rfl (d.armedWith m).down rfl rfl ?_
            go_simp
            refine hK' _ ?_
            clear hK' K'
            refine walk_float rfl rfl (fun K' hK' => ?_)
            refine gives_pick_no _ _ _ rfl rfl (.bool false) rfl ?_
            go_simp
            refine hK' _ ?_
            clear hK' K'
            refine walk_float rfl rfl (fun K' hK' => ?_)
            refine gives_move _ rfl ?_
            go_simp
            refine hK' _ ?_
            clear hK' K'
            refine walk_float rfl rfl (fun K' hK' => ?_)
            refine gives_move _ rfl ?_
            go_simp
            refine hK' _ ?_
            clear hK' K'
            refine walk_float rfl rfl (fun K' hK' => ?_)
            refine gives_move _ rfl ?_
            go_simp
            refine hK' _ ?_
            clear hK' K'
            refine walk_done rfl rfl (fun K' hK' => ?_)
            refine done_enter2 _ _ _ _ rfl 36 rfl (enters_of Try.func36 (by kernel_rfl) rfl) _ _ rfl rfl _ (HOP.out _ Q0.out.plat) ?_
            rintro e w41 ⟨q6, c6, rfl, hi6, hb6⟩
            have Q1 := Lib.hid (Q0.out.below hb6)
            refine ⟨_, rfl, Q1.out, ?_⟩
            go_simp
            refine hK' _ _ ?_
            clear hK' K'
            refine walk_done rfl rfl (fun K' hK' => ?_)
            refine done_enter1 _ _ _ rfl 37 rfl (enters_of Try.func37 (by kernel_rfl) rfl) _ rfl _ (HRO.out _ Q1.out.ref) ?_
            rintro e w42 ⟨q8, c8, rfl, hi8, hb8⟩
            have Q2 := Lib.hid (Q1.out.below hb8)
            refine ⟨_, rfl, Q2.out, ?_⟩
            go_simp
            refine hK' _ _ ?_
            clear hK' K'
            refine walk_done rfl rfl (fun K' hK' => ?_)
            refine done_enter2 _ _ _ _ rfl 31 rfl (enters_of Try.func31 (by kernel_rfl) rfl) _ _ rfl rfl _ (Ints_eq q6 q8 lo c6 c8 (by have := HLO.out; omega) w42 (hi6.below hb8) hi8) ?_
            rintro e w43 ⟨rfl, hb9⟩
            have Q3 := Lib.hid (Q2.out.below hb9)
            refine ⟨_, rfl, Q3.out, ?_⟩
            go_simp
            refine hK' _ _ ?_
            clear hK' K'
            refine walk_float rfl rfl (fun K' hK' => ?_)
            refine gives_not _ _ rfl true false rfl rfl ?_
            go_simp
            refine hK' _ ?_
            clear hK' K'
            refine walk_float rfl rfl (fun K' hK' => ?_)
            refine gives_pick_no _ _ _ rfl rfl (.bool false) rfl ?_
            go_simp
            refine hK' _ ?_
            clear hK' K'
            refine walk_nil ?_
            clear hi6 hb6 hi8 hb8 hb9 Q0 Q1 Q2 HOP HRO HLO
            go_wp2
            go_roundw
            case rel => exact ⟨k + 1, HLT.out, by go_num, (d.armedWith m), m, R, Q3.out, HF9.out.1, HF9.out.2⟩
            case measure => have := HLT.out; simp [intOf]; omega
      by_cases hK5 : c.kind = 5
      · have HKD := Lib.hid hK5
        clear hK0 hK1 hK2 hK3 hK4 hK5
        as_aux_lemma =>
          have HM40 := Lib.hid (show (d.crashed c.kl).made ≤ 100000 from HML.out.2.2)
          have HF9 := Lib.hid (show (d.crashed c.kl).made ≤ k + 1 ∧ (d.crashed c.kl).left < 9223372036854775808 from ⟨by have := HML.out.1; show d.made ≤ k + 1; omega, by show (0 : Nat) < _; omega⟩)
          have HKEEP := Lib.hid (fun W (hW : Below w.heap.size w W) => HOK.out.keep.below hW)
          have HKO := Lib.hid (HOK.out.keep.oldI)
          go_wp2_with (first
            | (refine wpList_op_elem rfl _ _ rfl B o n cap k rfl rfl HLT.out ?_)
            | (refine wpList_op_load rfl _ rfl B (o + 5 * k) rfl c HRG.out ?_)
            | (refine wpList_op_alloc rfl rfl ?_)
            | (refine store_row_on rfl 37 _ _ rfl rfl wr.heap.size c.cells.toArray rfl rfl 37 opZero (heap_alloc_new _ _) (opSize c) rfl c.one ?_
               have PB := Lib.hid (PSR.out.below (op_box_below wr c))
               have OB := Lib.hid (OpBox.new wr c)
               generalize hW : (wr.alloc (.cells opZero 37)).setRow wr.heap.size c.cells.toArray = wb at *
               have NEW := Lib.hid (show wr.heap.size < wb.heap.size from OB.out.lt)
               have c0 : wb.cell? ⟨wr.heap.size, 0, none⟩ = some (.int .i64 5) := by rw [← HKD.out]; exact OB.out.cell 0
               clear hW
               have c4 : (wb.alloc (.cells #[] 3)).cell? ⟨wr.heap.size, 4, none⟩ = some (.slice c.kq c.kl.length c.kc) := (Below.cell ((Below.refl _ wb).alloc (Nat.le_refl _) (.cells #[] 3)) (p := ⟨wr.heap.size, 4, none⟩) NEW.out).trans (OB.out.cell 4))
            | (at_builtin
               obtain ⟨q5, c5, w5, hr5, hi5, hb5, hq5⟩ := append_ints (w := wb.alloc (.cells #[] 3)) wb.heap.size wb.heap.size _ c.kq c.kl c.kc (HKEEP.out _ (PB.out.low.alloc PB.out.low.size _)) (by have := HKL.out; omega) (by simp) (Nat.le_refl _) (ownsRow_empty wb wb.heap.size (Nat.le_refl _) 3)
               refine wpList_append_run rfl _ _ _ _ rfl _ _ rfl rfl _ w5 hr5 ?_
               have hb5' := ((Below.refl _ wb).alloc (Nat.le_refl _) (.cells #[] 3)).trans hb5
               have P5 := Lib.hid (PB.out.below hb5')
               have C5 := Lib.hid (OB.out.below hb5')
               have I5 := Lib.hid hi5
               have QN := Lib.hid (show ∀ B o, q5 = some ⟨B, o, none⟩ → c.kl ≠ [] → ¬ b.own B ∧ ¬ r.own R d.ns B from fun B o e _ => ⟨PB.out.newB (hq5 B o e), PB.out.newR (hq5 B o e)⟩)
               clear hr5 hi5 hb5 hb5' hq5 PB OB c0 c4)
            | (go_at_call 29; refine (Crash_ok P5.out.plat q5 c.kl c5 I5.out HOK.out.ok.2).mono ?_; rintro e w6 ⟨rfl, h1, h2⟩
               have P6 := Lib.hid (P5.out.left h1 h2)
               have C6 := Lib.hid (C5.out.keeps h2 HAP.out.1)
               have I6 := Lib.hid (I5.out.keeps h2 (fun B o e h0 => (QN.out B o e h0).1))
               have c4 : w6.cell? ⟨wr.heap.size, 4, none⟩ = some (.slice c.kq c.kl.length c.kc) := C6.out.cell 4
               clear h1 h2 P5 C5 I5)
            | (go_at_call 30; refine (rCrash_ok P6.out.ref c.kq c.kl c.kc (HKEEP.out _ P6.out.low) (by have := HKL.out; omega) (fun B o e h0 => fun hf => P6.out.oldR (HKO.out B o e h0) (.inl hf))).mono ?_; rintro e w7 ⟨rfl, ⟨L9, R9, h1⟩, h2⟩
               have P7 := Lib.hid (P6.out.right h1 (h2.mono fun k _ e => .inl e))
               have C7 := Lib.hid (C6.out.keeps h2 (fun hf => HAP.out.2 (.inl hf)))
               have I7 := Lib.hid (I6.out.keeps h2 (fun B o e h0 hf => (QN.out B o e h0).2 (.inl hf)))
               have c4 : w7.cell? ⟨wr.heap.size, 4, none⟩ = some (.slice c.kq c.kl.length c.kc) := C7.out.cell 4
               clear h1 h2 P6 C6 I6)
            | (go_at_call 31; refine (Ints_eq q5 c.kq c.kl c5 c.kc (by have := HKL.out; omega) w7 I7.out (HKEEP.out _ P7.out.low)).mono ?_; rintro e w8 ⟨rfl, h1⟩
               have P8 := Lib.hid (P7.out.below h1)
               clear h1 P7 C7 I7 c4))
          obtain ⟨lo, hlo, hop, hro⟩ := P8.out.opens HM40.out
          have HLO := Lib.hid hlo
          have HOP := Lib.hid hop
          have HRO := Lib.hid hro
          have Q0 := Lib.hid P8.out.drew
          clear hlo hop hro
          refine wp_region_sched [(0, true), (1, true), (2, true), (3, true), (5, true), (6, true), (7, true), (8, true), (4, false), (9, true), (10, true), (11, true), (12, true), (14, true), (15, true), (16, true), (17, true), (13, false), (18, true), (19, true), (20, true), (21, true), (23, true), (22, false), (24, false), (25, false), (26, true), (27, true)] (fun W' => PS w W' b r base (d.crashed c.kl) (d.crashed c.kl) L9 R9) (by kernel_rfl) (by kernel_rfl) Q0.out ?_
          refine walk_float rfl rfl (fun K' hK' => ?_)
          refine gives_move _ rfl ?_
          go_simp
          refine hK' _ ?_
          clear hK' K'
          refine walk_float rfl rfl (fun K' hK' => ?_)
          refine gives_not _ _ rfl true false rfl rfl ?_
          go_simp
          refine hK' _ ?_
          clear hK' K'
          refine walk_float rfl rfl (fun K' hK' => ?_)
          refine gives_move _ rfl ?_
          go_simp
          refine hK' _ ?_
          clear hK' K'
          refine walk_float rfl rfl (fun K' hK' => ?_)
          refine gives_move _ rfl ?_
          go_simp
          refine hK' _ ?_
          clear hK' K'
          refine walk_float rfl rfl (fun K' hK' => ?_)
          refine gives_move _ rfl ?_
          go_simp
          refine hK' _ ?_
          clear hK' K'
          refine walk_float rfl rfl (fun K' hK' => ?_)
          refine gives_nil_check _ rfl ⟨r.B, 0, none⟩ rfl ?_
          go_simp
          refine hK' _ ?_
          clear hK' K'
          refine walk_float rfl rfl (fun K' hK' => ?_)
          refine gives_field _ 3 rfl (by omega) r.B rfl ?_
          go_simp
          refine hK' _ ?_
          clear hK' K'
          refine walk_float rfl rfl (fun K' hK' => ?_)
          refine gives_box 3 _ rfl ⟨r.B, 3, none⟩ (.int .i64 ((d.crashed c.kl).made : Nat)) rfl box_int (fun W' hW => hW.ref.c3) ?_
          go_simp
          refine hK' _ ?_
          clear hK' K'
          refine walk_done rfl rfl (fun K' hK' => ?_)
          refine done_enter1 _ _ _ rfl 34 rfl (enters_of Try.func34 (by kernel_rfl) rfl) _ rfl _ (Steps_ok Q0.out.plat) ?_
          rintro e w40 ⟨rfl, rfl⟩
          refine ⟨_, rfl, Q0.out, ?_⟩
          go_simp
          refine hK' _ _ ?_
          clear hK' K'
          refine walk_float rfl rfl (fun K' hK' => ?_)
          refine gives_int_neq _ _ rfl ((d.crashed c.kl).made : Nat) rfl rfl ?_
          go_simp
          refine hK' _ ?_
          clear hK' K'
          refine walk_float rfl rfl (fun K' hK' => ?_)
          refine gives_pick_no _ _ _ rfl rfl (.bool false) rfl ?_
          go_simp
          refine hK' _ ?_
          clear hK' K'
          refine walk_float rfl rfl (fun K' hK' => ?_)
          refine gives_move _ rfl ?_
          go_simp
          refine hK' _ ?_
          clear hK' K'
          refine walk_float rfl rfl (fun K' hK' => ?_)
          refine gives_move _ rfl ?_
          go_simp
          refine hK' _ ?_
          clear hK' K'
          refine walk_float rfl rfl (fun K' hK' => ?_)
          refine gives_move _ rfl ?_
          go_simp
          refine hK' _ ?_
          clear hK' K'
          refine walk_float rfl rfl (fun K' hK' => ?_)
          refine gives_nil_check _ rfl ⟨r.B, 0, none⟩ rfl ?_
          go_simp
          refine hK' _ ?_
          clear hK' K'
          refine walk_float rfl rfl (fun K' hK' => ?_)
          refine gives_field _ 6 rfl (by omega) r.B rfl ?_
          go_simp
          refine hK' _ ?_
          clear hK' K'
          refine walk_float rfl rfl (fun K' hK' => ?_)
          refine gives_box 4 _ rfl ⟨r.B, 6, none⟩ (.bool (d.crashed c.kl).down) rfl box_bool (fun W' hW => hW.ref.c6) ?_
          go_simp
          refine hK' _ ?_
          clear hK' K'
          refine walk_done rfl rfl (fun K' hK' => ?_)
          refine done_enter1 _ _ _ rfl 35 rfl (enters_of Try.func35 (by kernel_rfl) rfl) _ rfl _ (Down_ok Q0.out.plat) ?_
          rintro e w40 ⟨rfl, rfl⟩
          refine ⟨_, rfl, Q0.out, ?_⟩
          go_simp
          refine hK' _ _ ?_
          clear hK' K'
          refine walk_float rfl rfl (fun K' hK' => ?_)
          refine gives_bool_neq _ _ rfl (d.crashed c.kl).down rfl rfl ?_
          go_simp
          refine hK' _ ?_
          clear hK' K'
          refine walk_float rfl rfl (fun K' hK' => ?_)
          refine gives_pick_no _ _ _ rfl rfl (.bool false) rfl ?_
          go_simp
          refine hK' _ ?_
          clear hK' K'
          refine walk_float rfl rfl (fun K' hK' => ?_)
          refine gives_move _ rfl ?_
          go_simp
          refine hK' _ ?_
          clear hK' K'
          refine walk_float rfl rfl (fun K' hK' => ?_)
          refine gives_move _ rfl ?_
          go_simp
          refine hK' _ ?_
          clear hK' K'
          refine walk_float rfl rfl (fun K' hK' => ?_)
          refine gives_move _ rfl ?_
          go_simp
          refine hK' _ ?_
          clear hK' K'
          refine walk_done rfl rfl (fun K' hK' => ?_)
          refine done_enter2 _ _ _ _ rfl 36 rfl (enters_of Try.func36 (by kernel_rfl) rfl) _ _ rfl rfl _ (HOP.out _ Q0.out.plat) ?_
          rintro e w41 ⟨q6, c6, rfl, hi6, hb6⟩
          have Q1 := Lib.hid (Q0.out.below hb6)
          refine ⟨_, rfl, Q1.out, ?_⟩
          go_simp
          refine hK' _ _ ?_
          clear hK' K'
          refine walk_done rfl rfl (fun K' hK' => ?_)
          refine done_enter1 _ _ _ rfl 37 rfl (enters_of Try.func37 (by kernel_rfl) rfl) _ rfl _ (HRO.out _ Q1.out.ref) ?_
          rintro e w42 ⟨q8, c8, rfl, hi8, hb8⟩
          have Q2 := Lib.hid (Q1.out.below hb8)
          refine ⟨_, rfl, Q2.out, ?_⟩
          go_simp
          refine hK' _ _ ?_
          clear hK' K'
          refine walk_done rfl rfl (fun K' hK' => ?_)
          refine done_enter2 _ _ _ _ rfl 31 rfl (enters_of Try.func31 (by kernel_rfl) rfl) _ _ rfl rfl _ (Ints_eq q6 q8 lo c6 c8 (by have := HLO.out; omega) w42 (hi6.below hb8) hi8) ?_
          rintro e w43 ⟨rfl, hb9⟩
          have Q3 := Lib.hid (Q2.out.below hb9)
          refine ⟨_, rfl, Q3.out, ?_⟩
          go_simp
          refine hK' _ _ ?_
          clear hK' K'
          refine walk_float rfl rfl (fun K' hK' => ?_)
          refine gives_not _ _ rfl true false rfl rfl ?_
          go_simp
          refine hK' _ ?_
          clear hK' K'
          refine walk_float rfl rfl (fun K' hK' => ?_)
          refine gives_pick_no _ _ _ rfl rfl (.bool false) rfl ?_
          go_simp
          refine hK' _ ?_
          clear hK' K'
          refine walk_nil ?_
          clear hi6 hb6 hi8 hb8 hb9 Q0 Q1 Q2 HOP HRO HLO
          go_wp2
          go_roundw
          case rel => exact ⟨k + 1, HLT.out, by go_num, (d.crashed c.kl), L9, R9, Q3.out, HF9.out.1, HF9.out.2⟩
          case measure => have := HLT.out; simp [intOf]; omega
      as_aux_lemma =>
        obtain ⟨no, f, hno, hpc, hrc⟩ := read_any PSR.out.ref c.at'
        have HNO := Lib.hid hno
        have HPC := Lib.hid hpc
        have HRC := Lib.hid hrc
        have HM40 := Lib.hid (show d.made ≤ 100000 from HML.out.2.2)
        have HF9 := Lib.hid (show d.made ≤ k + 1 ∧ d.left < 9223372036854775808 from ⟨by have := HML.out.1; omega, HML.out.2.1⟩)
        generalize hKK : c.kind = KK at *
        have HKD := Lib.hid hKK
        have z0 : (KK == 0) = false := by simpa using hK0
        have y0 : decide (KK = 0) = false := by simpa using hK0
        have z1 : (KK == 1) = false := by simpa using hK1
        have y1 : decide (KK = 1) = false := by simpa using hK1
        have z2 : (KK == 2) = false := by simpa using hK2
        have y2 : decide (KK = 2) = false := by simpa using hK2
        have z3 : (KK == 3) = false := by simpa using hK3
        have y3 : decide (KK = 3) = false := by simpa using hK3
        have z4 : (KK == 4) = false := by simpa using hK4
        have y4 : decide (KK = 4) = false := by simpa using hK4
        have z5 : (KK == 5) = false := by simpa using hK5
        have y5 : decide (KK = 5) = false := by simpa using hK5
        clear hno hpc hrc hKK hK0 hK1 hK2 hK3 hK4 hK5
        go_wp2_with (first
          | (refine wpList_op_elem rfl _ _ rfl B o n cap k rfl rfl HLT.out ?_)
          | (refine wpList_op_load rfl _ rfl B (o + 5 * k) rfl c HRG.out ?_)
          | (refine wpList_op_alloc rfl rfl ?_)
          | (refine store_row_on rfl 37 _ _ rfl rfl wr.heap.size c.cells.toArray rfl rfl 37 opZero (heap_alloc_new _ _) (opSize c) rfl c.one ?_
             have PB := Lib.hid (PSR.out.below (op_box_below wr c))
             have OB := Lib.hid (OpBox.new wr c)
             generalize hW : (wr.alloc (.cells opZero 37)).setRow wr.heap.size c.cells.toArray = wb at *
             have NEW := Lib.hid (show wr.heap.size < wb.heap.size from OB.out.lt)
             have c0 : wb.cell? ⟨wr.heap.size, 0, none⟩ = some (.int .i64 KK) := by rw [← HKD.out]; exact OB.out.cell 0
             clear hW
             have c1 : wb.cell? ⟨wr.heap.size, 1, none⟩ = some (.int .i64 c.at') := OB.out.cell 1)
          | (go_at_call 32; refine (HPC.out _ b PB.out.plat).mono ?_; rintro e w5 ⟨rfl, h1⟩
             have P5 := Lib.hid (PB.out.below h1)
             have C5 := Lib.hid (OB.out.below h1)
             clear h1 PB OB c0 c1)
          | (refine wpList_sec_alloc rfl rfl w5.heap.size rfl ?_)
          | (refine store_row_on rfl 40 _ _ rfl rfl w5.heap.size (cellsOf .u8 (Go.Proofs.Ytbejfpdkfpgipaa.mk 128 f)) rfl rfl 40 (cellsOf .u8 (Go.Proofs.Ytbejfpdkfpgipaa.mk 128 zeroK)) (heap_alloc_new _ _) (secSize _) (sec_same _ _) (cellsOf_one _ _) ?_
             have LY6 := Lib.hid (sec_laid w5 f)
             have P6 := Lib.hid (P5.out.below LY6.out.2)
             have C6 := Lib.hid (C5.out.below LY6.out.2)
             generalize (w5.alloc (.cells (cellsOf .u8 (Go.Proofs.Ytbejfpdkfpgipaa.mk 128 zeroK)) 40)).setRow w5.heap.size (cellsOf .u8 (Go.Proofs.Ytbejfpdkfpgipaa.mk 128 f)) = w6 at *
             have A6 := Lib.hid LY6.out.1
             have c1 : w6.cell? ⟨wr.heap.size, 1, none⟩ = some (.int .i64 c.at') := C6.out.cell 1
             clear P5 C5)
          | (go_at_call 33; refine (HRC.out _ r base L R P6.out.ref).mono ?_; rintro e w7 ⟨rfl, h1⟩
             have P7 := Lib.hid (P6.out.below h1)
             have C7 := Lib.hid (C6.out.below h1)
             have A7 := Lib.hid (A6.out.below h1 A6.out.lt)
             clear h1 P6 C6 A6 c1)
          | (refine wpList_sec_alloc rfl rfl w7.heap.size rfl ?_)
          | (refine store_row_on rfl 40 _ _ rfl rfl w7.heap.size (cellsOf .u8 (Go.Proofs.Ytbejfpdkfpgipaa.mk 128 f)) rfl rfl 40 (cellsOf .u8 (Go.Proofs.Ytbejfpdkfpgipaa.mk 128 zeroK)) (heap_alloc_new _ _) (secSize _) (sec_same _ _) (cellsOf_one _ _) ?_
             have LY8 := Lib.hid (sec_laid w7 f)
             have P8 := Lib.hid (P7.out.below LY8.out.2)
             have C8 := Lib.hid (C7.out.below LY8.out.2)
             generalize (w7.alloc (.cells (cellsOf .u8 (Go.Proofs.Ytbejfpdkfpgipaa.mk 128 zeroK)) 40)).setRow w7.heap.size (cellsOf .u8 (Go.Proofs.Ytbejfpdkfpgipaa.mk 128 f)) = w8 at *
             have A8 := Lib.hid LY8.out.1
             have c1 : w8.cell? ⟨wr.heap.size, 1, none⟩ = some (.int .i64 c.at') := C8.out.cell 1
             clear P7 C7)
          | (refine wpList_sec_load rfl _ rfl w5.heap.size f rfl (A7.out.below LY8.out.2 A7.out.lt) ?_)
          | (refine wpList_sec_load rfl _ rfl w7.heap.size f rfl A8.out ?_)
          | (refine wpList_sec_eql rfl _ _ rfl f f rfl rfl rfl ?_)
          | (go_at_call 14; refine (Num_any HNO.out _).mono ?_; rintro e w9 ⟨rfl, rfl⟩))
        clear c1
        obtain ⟨L9, hL9⟩ : ∃ L9, L9 = L := ⟨_, rfl⟩
        obtain ⟨R9, hR9⟩ : ∃ R9, R9 = R := ⟨_, rfl⟩
        have P9 := Lib.hid (show PS w w8 b r base d d L9 R9 from hL9 ▸ hR9 ▸ P8.out)
        clear P8 C8 A8 A7 hL9 hR9
        obtain ⟨lo, hlo, hop, hro⟩ := P9.out.opens HM40.out
        have HLO := Lib.hid hlo
        have HOP := Lib.hid hop
        have HRO := Lib.hid hro
        have Q0 := Lib.hid P9.out.drew
        clear hlo hop hro
        refine wp_region_sched [(0, true), (1, true), (2, true), (3, true), (5, true), (6, true), (7, true), (8, true), (4, false), (9, true), (10, true), (11, true), (12, true), (14, true), (15, true), (16, true), (17, true), (13, false), (18, true), (19, true), (20, true), (21, true), (23, true), (22, false), (24, false), (25, false), (26, true), (27, true)] (fun W' => PS w W' b r base d d L9 R9) (by kernel_rfl) (by kernel_rfl) Q0.out ?_
        refine walk_float rfl rfl (fun K' hK' => ?_)
        refine gives_move _ rfl ?_
        go_simp
        refine hK' _ ?_
        clear hK' K'
        refine walk_float rfl rfl (fun K' hK' => ?_)
        refine gives_not _ _ rfl true false rfl rfl ?_
        go_simp
        refine hK' _ ?_
        clear hK' K'
        refine walk_float rfl rfl (fun K' hK' => ?_)
        refine gives_move _ rfl ?_
        go_simp
        refine hK' _ ?_
        clear hK' K'
        refine walk_float rfl rfl (fun K' hK' => ?_)
        refine gives_move _ rfl ?_
        go_simp
        refine hK' _ ?_
        clear hK' K'
        refine walk_float rfl rfl (fun K' hK' => ?_)
        refine gives_move _ rfl ?_
        go_simp
        refine hK' _ ?_
        clear hK' K'
        refine walk_float rfl rfl (fun K' hK' => ?_)
        refine gives_nil_check _ rfl ⟨r.B, 0, none⟩ rfl ?_
        go_simp
        refine hK' _ ?_
        clear hK' K'
        refine walk_float rfl rfl (fun K' hK' => ?_)
        refine gives_field _ 3 rfl (by omega) r.B rfl ?_
        go_simp
        refine hK' _ ?_
        clear hK' K'
        refine walk_float rfl rfl (fun K' hK' => ?_)
        refine gives_box 3 _ rfl ⟨r.B, 3, none⟩ (.int .i64 (d.made : Nat)) rfl box_int (fun W' hW => hW.ref.c3) ?_
        go_simp
        refine hK' _ ?_
        clear hK' K'
        refine walk_done rfl rfl (fun K' hK' => ?_)
        refine done_enter1 _ _ _ rfl 34 rfl (enters_of Try.func34 (by kernel_rfl) rfl) _ rfl _ (Steps_ok Q0.out.plat) ?_
        rintro e w40 ⟨rfl, rfl⟩
        refine ⟨_, rfl, Q0.out, ?_⟩
        go_simp
        refine hK' _ _ ?_
        clear hK' K'
        refine walk_float rfl rfl (fun K' hK' => ?_)
        refine gives_int_neq _ _ rfl (d.made : Nat) rfl rfl ?_
        go_simp
        refine hK' _ ?_
        clear hK' K'
        refine walk_float rfl rfl (fun K' hK' => ?_)
        refine gives_pick_no _ _ _ rfl rfl (.bool false) rfl ?_
        go_simp
        refine hK' _ ?_
        clear hK' K'
        refine walk_float rfl rfl (fun K' hK' => ?_)
        refine gives_move _ rfl ?_
        go_simp
        refine hK' _ ?_
        clear hK' K'
        refine walk_float rfl rfl (fun K' hK' => ?_)
        refine gives_move _ rfl ?_
        go_simp
        refine hK' _ ?_
        clear hK' K'
        refine walk_float rfl rfl (fun K' hK' => ?_)
        refine gives_move _ rfl ?_
        go_simp
        refine hK' _ ?_
        clear hK' K'
        refine walk_float rfl rfl (fun K' hK' => ?_)
        refine gives_nil_check _ rfl ⟨r.B, 0, none⟩ rfl ?_
        go_simp
        refine hK' _ ?_
        clear hK' K'
        refine walk_float rfl rfl (fun K' hK' => ?_)
        refine gives_field _ 6 rfl (by omega) r.B rfl ?_
        go_simp
        refine hK' _ ?_
        clear hK' K'
        refine walk_float rfl rfl (fun K' hK' => ?_)
        refine gives_box 4 _ rfl ⟨r.B, 6, none⟩ (.bool d.down) rfl box_bool (fun W' hW => hW.ref.c6) ?_
        go_simp
        refine hK' _ ?_
        clear hK' K'
        refine walk_done rfl rfl (fun K' hK' => ?_)
        refine done_enter1 _ _ _ rfl 35 rfl (enters_of Try.func35 (by kernel_rfl) rfl) _ rfl _ (Down_ok Q0.out.plat) ?_
        rintro e w40 ⟨rfl, rfl⟩
        refine ⟨_, rfl, Q0.out, ?_⟩
        go_simp
        refine hK' _ _ ?_
        clear hK' K'
        refine walk_float rfl rfl (fun K' hK' => ?_)
        refine gives_bool_neq _ _ rfl d.down rfl rfl ?_
        go_simp
        refine hK' _ ?_
        clear hK' K'
        refine walk_float rfl rfl (fun K' hK' => ?_)
        refine gives_pick_no _ _ _ rfl rfl (.bool false) rfl ?_
        go_simp
        refine hK' _ ?_
        clear hK' K'
        refine walk_float rfl rfl (fun K' hK' => ?_)
        refine gives_move _ rfl ?_
        go_simp
        refine hK' _ ?_
        clear hK' K'
        refine walk_float rfl rfl (fun K' hK' => ?_)
        refine gives_move _ rfl ?_
        go_simp
        refine hK' _ ?_
        clear hK' K'
        refine walk_float rfl rfl (fun K' hK' => ?_)
        refine gives_move _ rfl ?_
        go_simp
        refine hK' _ ?_
        clear hK' K'
        refine walk_done rfl rfl (fun K' hK' => ?_)
        refine done_enter2 _ _ _ _ rfl 36 rfl (enters_of Try.func36 (by kernel_rfl) rfl) _ _ rfl rfl _ (HOP.out _ Q0.out.plat) ?_
        rintro e w41 ⟨q6, c6, rfl, hi6, hb6⟩
        have Q1 := Lib.hid (Q0.out.below hb6)
        refine ⟨_, rfl, Q1.out, ?_⟩
        go_simp
        refine hK' _ _ ?_
        clear hK' K'
        refine walk_done rfl rfl (fun K' hK' => ?_)
        refine done_enter1 _ _ _ rfl 37 rfl (enters_of Try.func37 (by kernel_rfl) rfl) _ rfl _ (HRO.out _ Q1.out.ref) ?_
        rintro e w42 ⟨q8, c8, rfl, hi8, hb8⟩
        have Q2 := Lib.hid (Q1.out.below hb8)
        refine ⟨_, rfl, Q2.out, ?_⟩
        go_simp
        refine hK' _ _ ?_
        clear hK' K'
        refine walk_done rfl rfl (fun K' hK' => ?_)
        refine done_enter2 _ _ _ _ rfl 31 rfl (enters_of Try.func31 (by kernel_rfl) rfl) _ _ rfl rfl _ (Ints_eq q6 q8 lo c6 c8 (by have := HLO.out; omega) w42 (hi6.below hb8) hi8) ?_
        rintro e w43 ⟨rfl, hb9⟩
        have Q3 := Lib.hid (Q2.out.below hb9)
        refine ⟨_, rfl, Q3.out, ?_⟩
        go_simp
        refine hK' _ _ ?_
        clear hK' K'
        refine walk_float rfl rfl (fun K' hK' => ?_)
        refine gives_not _ _ rfl true false rfl rfl ?_
        go_simp
        refine hK' _ ?_
        clear hK' K'
        refine walk_float rfl rfl (fun K' hK' => ?_)
        refine gives_pick_no _ _ _ rfl rfl (.bool false) rfl ?_
        go_simp
        refine hK' _ ?_
        clear hK' K'
        refine walk_nil ?_
        clear hi6 hb6 hi8 hb8 hb9 Q0 Q1 Q2 HOP HRO HLO
        go_wp2
        go_roundw
        case rel => exact ⟨k + 1, HLT.out, by go_num, d, L9, R9, Q3.out, HF9.out.1, HF9.out.2⟩
        case measure => have := HLT.out; simp [intOf]; omega
    · have e1 : ¬ (k : Int) < (n : Int) := by omega
      go_wp2_with (first
        | (go_at_call 38; refine (same_ok PSR.out.plat PSR.out.ref).mono ?_; rintro e w5 ⟨rfl, h1⟩))
      go_ret
      exact ⟨rfl, PSR.out.low.trans (h1.mono PSR.out.low.size)⟩
theorem laidOut : laidOutB Try.prog = true := by kernel_rfl
set_option maxRecDepth 100000 in
theorem lifted (os : Os) (started : os.Started) (H : Type) (enc : TypeId × Value → H) (F0 : Stop.Interp) :
    ReturnsInHanded {} Try.checked os 3 .any ((Rows.OpenSpec.upto Rows.platterPlaysSpec).pre6 enc Try.prog Try.f3 Rows.platterPlaysUptoRow.domain false) (((Rows.OpenSpec.upto Rows.platterPlaysSpec).at F0).post enc Try.prog Try.f3 false true false false) := by
  refine returnsInHanded_of_cond (C := Try.checked) (s := Rows.OpenSpec.upto Rows.platterPlaysSpec) (k := Rows.uptoSmall) rfl own started (by kernel_rfl) Try.func3
    (OpenSpec.witness (enc := enc) (C := Try.checked) (s := Rows.OpenSpec.upto Rows.platterPlaysSpec) (k := Rows.uptoSmall) rfl false ⟨#[], #[.int .i64 0, .int .i64 0, .slice none 0 0], []⟩ 8 (by kernel_rfl) (by kernel_rfl) (by kernel_rfl)
      (x := ([.lit (.int .i64 0), .lit (.int .i64 0), .nil], [], [])) (by kernel_rfl) (by kernel_rfl) (by simp [Rows.uptoSmall, Rows.uptoBulkAll, Rows.uptoBulk])) ?_
  intro W base args ds gs before hval0 hW hcnd hbulk _
  have hval : ∀ (j : Nat) t v, Try.f3.params[j]? = some t → args[j]? = some v → Value.okWide Try.prog W .any base t v := hval0
  have hW' := hW
  obtain ⟨p, q, hA0, hV, rfl, hfz, hnd⟩ := hW
  have hA : DataW.TrodAll enc Try.prog W 0 (fun _ => true) true Try.f3.params.toList args.toList ds p := hA0
  rw [Try.params3] at hA hval
  obtain ⟨v0, vs0, d0, ds0, p0, q0, hargs, rfl, rfl, h0, r0⟩ := trodAll_cons hA
  obtain ⟨v1, vs1, d1, ds1, p1, q1, rfl, rfl, rfl, h1, r1⟩ := trodAll_cons r0
  obtain ⟨v2, vs2, d2, ds2, p2, q2, rfl, rfl, rfl, h2, r2⟩ := trodAll_cons r1
  obtain ⟨rfl, rfl, rfl⟩ := trodAll_nil r2
  obtain rfl : args = #[v0, v1, v2] := by cases args; simp_all
  obtain ⟨rfl, rfl⟩ := trodVars_none hV
  obtain ⟨a0, rfl, rfl, rfl, w0⟩ := open_int Try.underlying3 (hval 0 3 v0 rfl rfl) h0
  obtain ⟨a1, rfl, rfl, rfl, w1⟩ := open_int Try.underlying3 (hval 1 3 v1 rfl rfl) h1
  have k2 := h2
  have lt2 : ∀ x ∈ p2, x.block < W.heap.size := by obtain ⟨m, hm⟩ := k2; exact DataW.trod_lt m _ _ _ hm
  obtain ⟨q2, n2, c2, T2, rfl, y2, z2⟩ := open_calls (hval 2 22 v2 rfl rfl) h2
  have z3 : Rows.uptoBulk d2 ≤ 1048576 := by
    simp only [Rows.uptoSmall, decide_eq_true_eq, List.append_nil, Rows.uptoBulkAll] at hbulk
    omega
  clear hA0 hval0
  refine (walk a0 a1 q2 n2 c2 T2 w0 w1 (Nat.le_trans z2 z3) W y2).mono fun e W' ⟨he, bel⟩ => ?_
  subst he
  exact ⟨_, rfl, _, _, _, [], _, [], hW', trodAll_mk1 (shut_bool Try.underlying4 _), (trodAll_cons_mk (shut_int Try.underlying3 w0) (trodAll_cons_mk (shut_int Try.underlying3 w1) (trodAll_cons_mk (Below.trod laidOut (by kernel_rfl) (of_decide_eq_true (by kernel_rfl)) k2 bel lt2) trodAll_mk0))), rfl, bel.frame _, fun h => by cases h⟩

theorem over : Rows.platterPlaysUptoRow.holds Try.pinned (Rows.OpenSpec.upto Rows.platterPlaysSpec) :=
  OpenClaim.holds_of_cond 3 Try.f3 rfl rfl rfl rfl rfl rfl rfl ⟨rfl, rfl, rfl, rfl, rfl⟩ rfl rfl rfl rfl rfl (by kernel_rfl) Try.func3 (by kernel_rfl)
    (of_decide_eq_true (by kernel_rfl)) (by unfold Func.isWrapper; first | (rw [if_pos (by decide +kernel)]; kernel_rfl) | (rw [if_neg (by decide +kernel)]; exact ⟨rfl, rfl⟩))
    (fun os started H enc _ F0 => lifted os started H enc F0)

theorem proved : Rows.PlatterPlaysUptoSaid := over
end Go.Proofs.Ytbejfpdkfpgipaa.platterPlays
