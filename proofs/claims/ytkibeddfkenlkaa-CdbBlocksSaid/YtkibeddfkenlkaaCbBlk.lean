/- The contract of the program's Blocks. Conditions: the Data lies in memory. -/
import Derived.Test.YtkibeddfkenlkaaCbItA
namespace Go.Proofs.Ytkibeddfkenlkaa
open Go.ChangeShapes Go.WideShapes Go.ChangeAt Go.RowKit Go.Shelf
set_option linter.unusedVariables false
set_option linter.unusedSimpArgs false
/-- A row of one's own, or none. -/
def RowN (w0 V : World) (q : Option Addr) (m : Nat) (F : Nat → Nat) : Prop := (q = none ∧ m = 0) ∨ ∃ D, q = some ⟨D, 0, none⟩ ∧ IntBlk V D .u8 5 (mk m F) ∧ w0.heap.size ≤ D
theorem RowN.mono {w0 V V' : World} {q : Option Addr} {m : Nat} {F : Nat → Nat} (h : RowN w0 V q m F) (hb : Below V.heap.size V V') : RowN w0 V' q m F := by
  rcases h with h | ⟨D, h1, h2, h3⟩
  · exact .inl h
  · exact .inr ⟨D, h1, h2.below hb h2.lt, h3⟩
theorem RowN.base {w0 w1 V : World} {q : Option Addr} {m : Nat} {F : Nat → Nat} (h : RowN w0 V q m F) (hb : w1.heap.size ≤ w0.heap.size) : RowN w1 V q m F := by
  rcases h with h | ⟨D, h1, h2, h3⟩
  · exact .inl h
  · exact .inr ⟨D, h1, h2, Nat.le_trans hb h3⟩
theorem RowN.keep {w0 V V' : World} {q : Option Addr} {m : Nat} {F : Nat → Nat} {O : Nat} (h : RowN w0 V q m F) (k : Keeps (fun j => j = O) V V') (hO : ∀ D, q = some ⟨D, 0, none⟩ → D ≠ O) : RowN w0 V' q m F := by
  rcases h with h | ⟨D, h1, h2, h3⟩
  · exact .inl h
  · exact .inr ⟨D, h1, (k.block D h2.lt (hO D h1)).trans h2, h3⟩
theorem RowN.lt {w0 V : World} {q : Option Addr} {m : Nat} {F : Nat → Nat} (h : RowN w0 V q m F) {D : Nat} (hD : q = some ⟨D, 0, none⟩) : D < V.heap.size ∧ w0.heap.size ≤ D := by
  rcases h with ⟨h1, -⟩ | ⟨D', h1, h2, h3⟩
  · rw [h1] at hD; cases hD
  · rw [h1] at hD; cases hD; exact ⟨h2.lt, h3⟩
theorem blockBytes_any {w : World} {q : Option Addr} {n c : Nat} {g : Nat → Nat} {x : CmdOf} (hq : BytesAt w q n g) (N : Nat) (hN : N = 128 * manyC x n) : Calls Try.prog 36 #[.agg (cmA q n c x)] w fun e w' => ∃ p, e = .returned (.slice p N N) ∧ RowN w w' p N (extF n g) ∧ Below w.heap.size w w' := by
  by_cases h : (x.k == 1 || x.k == 2) = true ∧ checkN x n = 0
  · obtain ⟨hm, m0, -⟩ := many_some h.1 h.2
    refine (blockBytes_some hq h.1 h.2 N (by rw [hN, hm]; omega)).mono ?_
    rintro e w' ⟨D, rfl, h1, h2, h3⟩
    exact ⟨_, rfl, .inr ⟨D, rfl, h1, h2⟩, h3⟩
  · rw [many_none h] at hN
    subst hN
    refine (blockBytes_none h).mono ?_
    rintro e w' ⟨rfl, h3⟩
    exact ⟨_, rfl, .inl ⟨rfl, rfl⟩, h3⟩
attribute [local irreducible] cmA checkN errN goodC mk zeroK extF manyC
attribute [local go_sem] Oper.semAt_some
theorem gives_cmfield2 {o : Oper} {a : Act} {C : World → Prop} {K : Act → Prop} (x : Operand) (ho : o.op = .fieldAddr cmT x 2) (B : Nat) (hx : a.eval x = .pointer (some ⟨B, 0, none⟩)) (hk : K (a.put o.dst (.pointer (some ⟨B, 2, none⟩)))) : ∃ v, Gives Try.prog C o a v ∧ K (a.put o.dst v) :=
  ⟨_, fun w _ => by
    unfold execOp
    simp only [ho, hx]
    simp [go_sem], hk⟩
set_option maxRecDepth 100000 in
set_option maxHeartbeats 16000000 in
theorem Blocks_any {w : World} {q : Option Addr} {n c : Nat} {g : Nat → Nat} {x : CmdOf} (hq : BytesAt w q n g) (N : Nat) (hN : N = 128 * manyC x n) :
    Calls Try.prog 25 #[.agg (cmA q n c x)] w fun e w' => ∃ B4 B3 p, e = .returned (.func (.func 37) #[] #[.pointer (some ⟨B4, 0, none⟩), .pointer (some ⟨B3, 0, none⟩)]) ∧ BoxA w' B4 22 #[.slice p N N] ∧ BoxA w' B3 3 #[.int .i64 x.b] ∧ RowN w w' p N (extF n g) ∧ w.heap.size ≤ B4 ∧ w.heap.size ≤ B3 ∧ Below w.heap.size w w' := by
  have HBB := Lib.hid (fun (W : World) (hW : Below w.heap.size w W) => blockBytes_any (c := c) (hq.below hW) N hN)
  clear hq hN
  go_enter Try.func25, Try.ntmps25
  go_wp2_with (first
  | (with_reducible show wpList _ _ _ (⟨some 1, Op.box cmT _, _, _, _, none⟩ :: _) _ _
     refine wpList_boxA_of rfl _ rfl (cmA q n c x) (by rfl) ?_
     intro w1 x1 l1 s1
     have X1 := Lib.hid x1
     have L1 := Lib.hid l1
     clear x1 l1 s1))
  have X1d := Lib.hid (show BoxA w1.drew w.heap.size cmT (cmA q n c x) from X1.out)
  have L1d := Lib.hid L1.out.drew
  refine wp_region_tri (.float 0 (.float 1 (.float 2 (.three 3 (.two 4 (.one 5 (.one 6 (.one 7 .over))) 5 (.one 4 (.one 6 (.one 7 .over)))) 4 (.two 3 (.one 5 (.one 6 (.one 7 .over))) 5 (.one 3 (.one 6 (.one 7 .over)))) 5 (.two 3 (.one 4 (.one 6 (.one 7 .over))) 4 (.one 3 (.one 6 (.one 7 .over)))))))) (fun V => BoxA V w.heap.size cmT (cmA q n c x)) (by kernel_rfl) (by kernel_rfl) (show BoxA w1.drew w.heap.size cmT (cmA q n c x) from X1.out) ?_
  refine tri_float rfl rfl (fun K hK => ?_)
  refine gives_cmfield2 _ rfl w.heap.size rfl ?_
  go_simp
  refine hK _ ?_
  clear hK K
  refine tri_float rfl rfl (fun K hK => ?_)
  refine gives_cell 3 _ rfl ⟨w.heap.size, 2, none⟩ (.int .i64 x.b) rfl box_int (fun V hV => (boxCm hV).2.2.1) ?_
  go_simp
  refine hK _ ?_
  clear hK K
  refine tri_float rfl rfl (fun K hK => ?_)
  refine gives_boxA_load rowCm _ rfl w.heap.size (cmA q n c x) (cmA_size _ _ _ _) rfl (fun V hV => hV) ?_
  go_simp
  refine hK _ ?_
  clear hK K
  refine tri_three ?_ ?_ ?_
  · refine tri_one rfl rfl (fun K hK => ?_)
    refine done_enter1 _ _ _ rfl 36 rfl (enters_of Try.func36 (by kernel_rfl) rfl) _ rfl _ (HBB.out _ L1d.out) ?_
    rintro e z1 ⟨p, rfl, r1, l1⟩
    have X1 := Lib.hid (X1d.out.keep (l1.block _ X1d.out.lt))
    have L1 := Lib.hid (L1d.out.trans (l1.mono L1d.out.size))
    have R1 := Lib.hid (r1.base L1d.out.size)
    clear r1 l1
    refine ⟨_, rfl, X1.out, ?_⟩
    go_simp
    refine hK _ _ ?_
    clear hK K
    refine tri_two ?_ ?_
    · refine tri_one rfl rfl (fun K hK => ?_)
      refine done_one_new oneInt rfl ?_
      intro z2 x2 l2 s2
      have X2 := Lib.hid (X1.out.keep (l2.block _ X1.out.lt))
      have R2 := Lib.hid (R1.out.mono l2)
      have L2 := Lib.hid (L1.out.trans (l2.mono L1.out.size))
      have A2 := Lib.hid x2
      have LWA := Lib.hid L1.out.size
      have LXA := Lib.hid X1.out.lt
      have NEA := Lib.hid (show ∀ D, p = some ⟨D, 0, none⟩ → D ≠ z1.heap.size from fun D hD => Nat.ne_of_lt (R1.out.lt hD).1)
      clear x2 l2 s2
      refine ⟨X2.out, ?_⟩
      go_simp
      refine hK _ _ ?_
      clear hK K
      refine tri_one rfl rfl (fun K hK => ?_)
      refine done_one_new oneBytes rfl ?_
      intro z3 x3 l3 s3
      have X3 := Lib.hid (X2.out.keep (l3.block _ X2.out.lt))
      have A3 := Lib.hid (A2.out.keep (l3.block _ A2.out.lt))
      have R3 := Lib.hid (R2.out.mono l3)
      have L3 := Lib.hid (L2.out.trans (l3.mono L2.out.size))
      have B3 := Lib.hid x3
      have LWB := Lib.hid L2.out.size
      have LXB := Lib.hid X2.out.lt
      have NEB := Lib.hid (show ∀ D, p = some ⟨D, 0, none⟩ → D ≠ z2.heap.size from fun D hD => Nat.ne_of_lt (R2.out.lt hD).1)
      have NAB := Lib.hid (show z2.heap.size ≠ z1.heap.size from by have := A2.out.lt; omega)
      clear x3 l3 s3
      refine ⟨X3.out, ?_⟩
      go_simp
      refine hK _ _ ?_
      clear hK K
      refine tri_one rfl rfl (fun K hK => ?_)
      refine done_int_put _ _ rfl (z1.heap.size) 0 x.b rfl rfl A3.out ?_
      intro z4 x4 k4 s4
      have X4 := Lib.hid (X3.out.keep (k4.block _ X3.out.lt (Nat.ne_of_lt LXA.out)))
      have B4 := Lib.hid (B3.out.keep (k4.block _ B3.out.lt (NAB.out)))
      have A4 := Lib.hid x4
      have R4 := Lib.hid (R3.out.keep k4 NEA.out)
      have L4 := Lib.hid (low_put L3.out LWA.out k4)
      clear x4 k4 s4
      refine ⟨X4.out, ?_⟩
      go_simp
      refine hK _ _ ?_
      clear hK K
      refine tri_one rfl rfl (fun K hK => ?_)
      refine done_bytes_put _ _ rfl (z2.heap.size) (.slice none 0 0) p N N rfl rfl B4.out ?_
      intro z5 x5 k5 s5
      have X5 := Lib.hid (X4.out.keep (k5.block _ X4.out.lt (Nat.ne_of_lt LXB.out)))
      have A5 := Lib.hid (A4.out.keep (k5.block _ A4.out.lt (NAB.out.symm)))
      have B5 := Lib.hid x5
      have R5 := Lib.hid (R4.out.keep k5 NEB.out)
      have L5 := Lib.hid (low_put L4.out LWB.out k5)
      clear x5 k5 s5
      refine ⟨X5.out, ?_⟩
      go_simp
      refine hK _ _ ?_
      clear hK K
      refine tri_over ?_
      go_wp2
      go_ret
      exact ⟨_, _, p, rfl, B5.out, A5.out, R5.out, LWB.out, LWA.out, L5.out⟩
    · refine tri_one rfl rfl (fun K hK => ?_)
      refine done_one_new oneBytes rfl ?_
      intro z6 x6 l6 s6
      have X6 := Lib.hid (X1.out.keep (l6.block _ X1.out.lt))
      have R6 := Lib.hid (R1.out.mono l6)
      have L6 := Lib.hid (L1.out.trans (l6.mono L1.out.size))
      have B6 := Lib.hid x6
      have LWB := Lib.hid L1.out.size
      have LXB := Lib.hid X1.out.lt
      have NEB := Lib.hid (show ∀ D, p = some ⟨D, 0, none⟩ → D ≠ z1.heap.size from fun D hD => Nat.ne_of_lt (R1.out.lt hD).1)
      clear x6 l6 s6
      refine ⟨X6.out, ?_⟩
      go_simp
      refine hK _ _ ?_
      clear hK K
      refine tri_one rfl rfl (fun K hK => ?_)
      refine done_one_new oneInt rfl ?_
      intro z7 x7 l7 s7
      have X7 := Lib.hid (X6.out.keep (l7.block _ X6.out.lt))
      have B7 := Lib.hid (B6.out.keep (l7.block _ B6.out.lt))
      have R7 := Lib.hid (R6.out.mono l7)
      have L7 := Lib.hid (L6.out.trans (l7.mono L6.out.size))
      have A7 := Lib.hid x7
      have LWA := Lib.hid L6.out.size
      have LXA := Lib.hid X6.out.lt
      have NEA := Lib.hid (show ∀ D, p = some ⟨D, 0, none⟩ → D ≠ z6.heap.size from fun D hD => Nat.ne_of_lt (R6.out.lt hD).1)
      have NAB := Lib.hid (show z1.heap.size ≠ z6.heap.size from by have := B6.out.lt; omega)
      clear x7 l7 s7
      refine ⟨X7.out, ?_⟩
      go_simp
      refine hK _ _ ?_
      clear hK K
      refine tri_one rfl rfl (fun K hK => ?_)
      refine done_int_put _ _ rfl (z6.heap.size) 0 x.b rfl rfl A7.out ?_
      intro z8 x8 k8 s8
      have X8 := Lib.hid (X7.out.keep (k8.block _ X7.out.lt (Nat.ne_of_lt LXA.out)))
      have B8 := Lib.hid (B7.out.keep (k8.block _ B7.out.lt (NAB.out)))
      have A8 := Lib.hid x8
      have R8 := Lib.hid (R7.out.keep k8 NEA.out)
      have L8 := Lib.hid (low_put L7.out LWA.out k8)
      clear x8 k8 s8
      refine ⟨X8.out, ?_⟩
      go_simp
      refine hK _ _ ?_
      clear hK K
      refine tri_one rfl rfl (fun K hK => ?_)
      refine done_bytes_put _ _ rfl (z1.heap.size) (.slice none 0 0) p N N rfl rfl B8.out ?_
      intro z9 x9 k9 s9
      have X9 := Lib.hid (X8.out.keep (k9.block _ X8.out.lt (Nat.ne_of_lt LXB.out)))
      have A9 := Lib.hid (A8.out.keep (k9.block _ A8.out.lt (NAB.out.symm)))
      have B9 := Lib.hid x9
      have R9 := Lib.hid (R8.out.keep k9 NEB.out)
      have L9 := Lib.hid (low_put L8.out LWB.out k9)
      clear x9 k9 s9
      refine ⟨X9.out, ?_⟩
      go_simp
      refine hK _ _ ?_
      clear hK K
      refine tri_over ?_
      go_wp2
      go_ret
      exact ⟨_, _, p, rfl, B9.out, A9.out, R9.out, LWB.out, LWA.out, L9.out⟩
  · refine tri_one rfl rfl (fun K hK => ?_)
    refine done_one_new oneInt rfl ?_
    intro z10 x10 l10 s10
    have X10 := Lib.hid (X1d.out.keep (l10.block _ X1d.out.lt))
    have L10 := Lib.hid (L1d.out.trans (l10.mono L1d.out.size))
    have A10 := Lib.hid x10
    have LWA := Lib.hid L1d.out.size
    have LXA := Lib.hid X1d.out.lt
    clear x10 l10 s10
    refine ⟨X10.out, ?_⟩
    go_simp
    refine hK _ _ ?_
    clear hK K
    refine tri_two ?_ ?_
    · refine tri_one rfl rfl (fun K hK => ?_)
      refine done_enter1 _ _ _ rfl 36 rfl (enters_of Try.func36 (by kernel_rfl) rfl) _ rfl _ (HBB.out _ L10.out) ?_
      rintro e z11 ⟨p, rfl, r11, l11⟩
      have X11 := Lib.hid (X10.out.keep (l11.block _ X10.out.lt))
      have A11 := Lib.hid (A10.out.keep (l11.block _ A10.out.lt))
      have L11 := Lib.hid (L10.out.trans (l11.mono L10.out.size))
      have R11 := Lib.hid (r11.base L10.out.size)
      have NEA := Lib.hid (show ∀ D, p = some ⟨D, 0, none⟩ → D ≠ w1.drew.heap.size from fun D hD => by have h1 := (r11.lt hD).2; have h2 := A10.out.lt; omega)
      clear r11 l11
      refine ⟨_, rfl, X11.out, ?_⟩
      go_simp
      refine hK _ _ ?_
      clear hK K
      refine tri_one rfl rfl (fun K hK => ?_)
      refine done_one_new oneBytes rfl ?_
      intro z12 x12 l12 s12
      have X12 := Lib.hid (X11.out.keep (l12.block _ X11.out.lt))
      have A12 := Lib.hid (A11.out.keep (l12.block _ A11.out.lt))
      have R12 := Lib.hid (R11.out.mono l12)
      have L12 := Lib.hid (L11.out.trans (l12.mono L11.out.size))
      have B12 := Lib.hid x12
      have LWB := Lib.hid L11.out.size
      have LXB := Lib.hid X11.out.lt
      have NEB := Lib.hid (show ∀ D, p = some ⟨D, 0, none⟩ → D ≠ z11.heap.size from fun D hD => Nat.ne_of_lt (R11.out.lt hD).1)
      have NAB := Lib.hid (show z11.heap.size ≠ w1.drew.heap.size from by have := A11.out.lt; omega)
      clear x12 l12 s12
      refine ⟨X12.out, ?_⟩
      go_simp
      refine hK _ _ ?_
      clear hK K
      refine tri_one rfl rfl (fun K hK => ?_)
      refine done_int_put _ _ rfl (w1.drew.heap.size) 0 x.b rfl rfl A12.out ?_
      intro z13 x13 k13 s13
      have X13 := Lib.hid (X12.out.keep (k13.block _ X12.out.lt (Nat.ne_of_lt LXA.out)))
      have B13 := Lib.hid (B12.out.keep (k13.block _ B12.out.lt (NAB.out)))
      have A13 := Lib.hid x13
      have R13 := Lib.hid (R12.out.keep k13 NEA.out)
      have L13 := Lib.hid (low_put L12.out LWA.out k13)
      clear x13 k13 s13
      refine ⟨X13.out, ?_⟩
      go_simp
      refine hK _ _ ?_
      clear hK K
      refine tri_one rfl rfl (fun K hK => ?_)
      refine done_bytes_put _ _ rfl (z11.heap.size) (.slice none 0 0) p N N rfl rfl B13.out ?_
      intro z14 x14 k14 s14
      have X14 := Lib.hid (X13.out.keep (k14.block _ X13.out.lt (Nat.ne_of_lt LXB.out)))
      have A14 := Lib.hid (A13.out.keep (k14.block _ A13.out.lt (NAB.out.symm)))
      have B14 := Lib.hid x14
      have R14 := Lib.hid (R13.out.keep k14 NEB.out)
      have L14 := Lib.hid (low_put L13.out LWB.out k14)
      clear x14 k14 s14
      refine ⟨X14.out, ?_⟩
      go_simp
      refine hK _ _ ?_
      clear hK K
      refine tri_over ?_
      go_wp2
      go_ret
      exact ⟨_, _, p, rfl, B14.out, A14.out, R14.out, LWB.out, LWA.out, L14.out⟩
    · refine tri_one rfl rfl (fun K hK => ?_)
      refine done_one_new oneBytes rfl ?_
      intro z15 x15 l15 s15
      have X15 := Lib.hid (X10.out.keep (l15.block _ X10.out.lt))
      have A15 := Lib.hid (A10.out.keep (l15.block _ A10.out.lt))
      have L15 := Lib.hid (L10.out.trans (l15.mono L10.out.size))
      have B15 := Lib.hid x15
      have LWB := Lib.hid L10.out.size
      have LXB := Lib.hid X10.out.lt
      have NAB := Lib.hid (show z10.heap.size ≠ w1.drew.heap.size from by have := A10.out.lt; omega)
      clear x15 l15 s15
      refine ⟨X15.out, ?_⟩
      go_simp
      refine hK _ _ ?_
      clear hK K
      refine tri_one rfl rfl (fun K hK => ?_)
      refine done_enter1 _ _ _ rfl 36 rfl (enters_of Try.func36 (by kernel_rfl) rfl) _ rfl _ (HBB.out _ L15.out) ?_
      rintro e z16 ⟨p, rfl, r16, l16⟩
      have X16 := Lib.hid (X15.out.keep (l16.block _ X15.out.lt))
      have A16 := Lib.hid (A15.out.keep (l16.block _ A15.out.lt))
      have B16 := Lib.hid (B15.out.keep (l16.block _ B15.out.lt))
      have L16 := Lib.hid (L15.out.trans (l16.mono L15.out.size))
      have R16 := Lib.hid (r16.base L15.out.size)
      have NEA := Lib.hid (show ∀ D, p = some ⟨D, 0, none⟩ → D ≠ w1.drew.heap.size from fun D hD => by have h1 := (r16.lt hD).2; have h2 := A15.out.lt; omega)
      have NEB := Lib.hid (show ∀ D, p = some ⟨D, 0, none⟩ → D ≠ z10.heap.size from fun D hD => by have h1 := (r16.lt hD).2; have h2 := B15.out.lt; omega)
      clear r16 l16
      refine ⟨_, rfl, X16.out, ?_⟩
      go_simp
      refine hK _ _ ?_
      clear hK K
      refine tri_one rfl rfl (fun K hK => ?_)
      refine done_int_put _ _ rfl (w1.drew.heap.size) 0 x.b rfl rfl A16.out ?_
      intro z17 x17 k17 s17
      have X17 := Lib.hid (X16.out.keep (k17.block _ X16.out.lt (Nat.ne_of_lt LXA.out)))
      have B17 := Lib.hid (B16.out.keep (k17.block _ B16.out.lt (NAB.out)))
      have A17 := Lib.hid x17
      have R17 := Lib.hid (R16.out.keep k17 NEA.out)
      have L17 := Lib.hid (low_put L16.out LWA.out k17)
      clear x17 k17 s17
      refine ⟨X17.out, ?_⟩
      go_simp
      refine hK _ _ ?_
      clear hK K
      refine tri_one rfl rfl (fun K hK => ?_)
      refine done_bytes_put _ _ rfl (z10.heap.size) (.slice none 0 0) p N N rfl rfl B17.out ?_
      intro z18 x18 k18 s18
      have X18 := Lib.hid (X17.out.keep (k18.block _ X17.out.lt (Nat.ne_of_lt LXB.out)))
      have A18 := Lib.hid (A17.out.keep (k18.block _ A17.out.lt (NAB.out.symm)))
      have B18 := Lib.hid x18
      have R18 := Lib.hid (R17.out.keep k18 NEB.out)
      have L18 := Lib.hid (low_put L17.out LWB.out k18)
      clear x18 k18 s18
      refine ⟨X18.out, ?_⟩
      go_simp
      refine hK _ _ ?_
      clear hK K
      refine tri_over ?_
      go_wp2
      go_ret
      exact ⟨_, _, p, rfl, B18.out, A18.out, R18.out, LWB.out, LWA.out, L18.out⟩
  · refine tri_one rfl rfl (fun K hK => ?_)
    refine done_one_new oneBytes rfl ?_
    intro z19 x19 l19 s19
    have X19 := Lib.hid (X1d.out.keep (l19.block _ X1d.out.lt))
    have L19 := Lib.hid (L1d.out.trans (l19.mono L1d.out.size))
    have B19 := Lib.hid x19
    have LWB := Lib.hid L1d.out.size
    have LXB := Lib.hid X1d.out.lt
    clear x19 l19 s19
    refine ⟨X19.out, ?_⟩
    go_simp
    refine hK _ _ ?_
    clear hK K
    refine tri_two ?_ ?_
    · refine tri_one rfl rfl (fun K hK => ?_)
      refine done_enter1 _ _ _ rfl 36 rfl (enters_of Try.func36 (by kernel_rfl) rfl) _ rfl _ (HBB.out _ L19.out) ?_
      rintro e z20 ⟨p, rfl, r20, l20⟩
      have X20 := Lib.hid (X19.out.keep (l20.block _ X19.out.lt))
      have B20 := Lib.hid (B19.out.keep (l20.block _ B19.out.lt))
      have L20 := Lib.hid (L19.out.trans (l20.mono L19.out.size))
      have R20 := Lib.hid (r20.base L19.out.size)
      have NEB := Lib.hid (show ∀ D, p = some ⟨D, 0, none⟩ → D ≠ w1.drew.heap.size from fun D hD => by have h1 := (r20.lt hD).2; have h2 := B19.out.lt; omega)
      clear r20 l20
      refine ⟨_, rfl, X20.out, ?_⟩
      go_simp
      refine hK _ _ ?_
      clear hK K
      refine tri_one rfl rfl (fun K hK => ?_)
      refine done_one_new oneInt rfl ?_
      intro z21 x21 l21 s21
      have X21 := Lib.hid (X20.out.keep (l21.block _ X20.out.lt))
      have B21 := Lib.hid (B20.out.keep (l21.block _ B20.out.lt))
      have R21 := Lib.hid (R20.out.mono l21)
      have L21 := Lib.hid (L20.out.trans (l21.mono L20.out.size))
      have A21 := Lib.hid x21
      have LWA := Lib.hid L20.out.size
      have LXA := Lib.hid X20.out.lt
      have NEA := Lib.hid (show ∀ D, p = some ⟨D, 0, none⟩ → D ≠ z20.heap.size from fun D hD => Nat.ne_of_lt (R20.out.lt hD).1)
      have NAB := Lib.hid (show w1.drew.heap.size ≠ z20.heap.size from by have := B20.out.lt; omega)
      clear x21 l21 s21
      refine ⟨X21.out, ?_⟩
      go_simp
      refine hK _ _ ?_
      clear hK K
      refine tri_one rfl rfl (fun K hK => ?_)
      refine done_int_put _ _ rfl (z20.heap.size) 0 x.b rfl rfl A21.out ?_
      intro z22 x22 k22 s22
      have X22 := Lib.hid (X21.out.keep (k22.block _ X21.out.lt (Nat.ne_of_lt LXA.out)))
      have B22 := Lib.hid (B21.out.keep (k22.block _ B21.out.lt (NAB.out)))
      have A22 := Lib.hid x22
      have R22 := Lib.hid (R21.out.keep k22 NEA.out)
      have L22 := Lib.hid (low_put L21.out LWA.out k22)
      clear x22 k22 s22
      refine ⟨X22.out, ?_⟩
      go_simp
      refine hK _ _ ?_
      clear hK K
      refine tri_one rfl rfl (fun K hK => ?_)
      refine done_bytes_put _ _ rfl (w1.drew.heap.size) (.slice none 0 0) p N N rfl rfl B22.out ?_
      intro z23 x23 k23 s23
      have X23 := Lib.hid (X22.out.keep (k23.block _ X22.out.lt (Nat.ne_of_lt LXB.out)))
      have A23 := Lib.hid (A22.out.keep (k23.block _ A22.out.lt (NAB.out.symm)))
      have B23 := Lib.hid x23
      have R23 := Lib.hid (R22.out.keep k23 NEB.out)
      have L23 := Lib.hid (low_put L22.out LWB.out k23)
      clear x23 k23 s23
      refine ⟨X23.out, ?_⟩
      go_simp
      refine hK _ _ ?_
      clear hK K
      refine tri_over ?_
      go_wp2
      go_ret
      exact ⟨_, _, p, rfl, B23.out, A23.out, R23.out, LWB.out, LWA.out, L23.out⟩
    · refine tri_one rfl rfl (fun K hK => ?_)
      refine done_one_new oneInt rfl ?_
      intro z24 x24 l24 s24
      have X24 := Lib.hid (X19.out.keep (l24.block _ X19.out.lt))
      have B24 := Lib.hid (B19.out.keep (l24.block _ B19.out.lt))
      have L24 := Lib.hid (L19.out.trans (l24.mono L19.out.size))
      have A24 := Lib.hid x24
      have LWA := Lib.hid L19.out.size
      have LXA := Lib.hid X19.out.lt
      have NAB := Lib.hid (show w1.drew.heap.size ≠ z19.heap.size from by have := B19.out.lt; omega)
      clear x24 l24 s24
      refine ⟨X24.out, ?_⟩
      go_simp
      refine hK _ _ ?_
      clear hK K
      refine tri_one rfl rfl (fun K hK => ?_)
      refine done_enter1 _ _ _ rfl 36 rfl (enters_of Try.func36 (by kernel_rfl) rfl) _ rfl _ (HBB.out _ L24.out) ?_
      rintro e z25 ⟨p, rfl, r25, l25⟩
      have X25 := Lib.hid (X24.out.keep (l25.block _ X24.out.lt))
      have A25 := Lib.hid (A24.out.keep (l25.block _ A24.out.lt))
      have B25 := Lib.hid (B24.out.keep (l25.block _ B24.out.lt))
      have L25 := Lib.hid (L24.out.trans (l25.mono L24.out.size))
      have R25 := Lib.hid (r25.base L24.out.size)
      have NEA := Lib.hid (show ∀ D, p = some ⟨D, 0, none⟩ → D ≠ z19.heap.size from fun D hD => by have h1 := (r25.lt hD).2; have h2 := A24.out.lt; omega)
      have NEB := Lib.hid (show ∀ D, p = some ⟨D, 0, none⟩ → D ≠ w1.drew.heap.size from fun D hD => by have h1 := (r25.lt hD).2; have h2 := B24.out.lt; omega)
      clear r25 l25
      refine ⟨_, rfl, X25.out, ?_⟩
      go_simp
      refine hK _ _ ?_
      clear hK K
      refine tri_one rfl rfl (fun K hK => ?_)
      refine done_int_put _ _ rfl (z19.heap.size) 0 x.b rfl rfl A25.out ?_
      intro z26 x26 k26 s26
      have X26 := Lib.hid (X25.out.keep (k26.block _ X25.out.lt (Nat.ne_of_lt LXA.out)))
      have B26 := Lib.hid (B25.out.keep (k26.block _ B25.out.lt (NAB.out)))
      have A26 := Lib.hid x26
      have R26 := Lib.hid (R25.out.keep k26 NEA.out)
      have L26 := Lib.hid (low_put L25.out LWA.out k26)
      clear x26 k26 s26
      refine ⟨X26.out, ?_⟩
      go_simp
      refine hK _ _ ?_
      clear hK K
      refine tri_one rfl rfl (fun K hK => ?_)
      refine done_bytes_put _ _ rfl (w1.drew.heap.size) (.slice none 0 0) p N N rfl rfl B26.out ?_
      intro z27 x27 k27 s27
      have X27 := Lib.hid (X26.out.keep (k27.block _ X26.out.lt (Nat.ne_of_lt LXB.out)))
      have A27 := Lib.hid (A26.out.keep (k27.block _ A26.out.lt (NAB.out.symm)))
      have B27 := Lib.hid x27
      have R27 := Lib.hid (R26.out.keep k27 NEB.out)
      have L27 := Lib.hid (low_put L26.out LWB.out k27)
      clear x27 k27 s27
      refine ⟨X27.out, ?_⟩
      go_simp
      refine hK _ _ ?_
      clear hK K
      refine tri_over ?_
      go_wp2
      go_ret
      exact ⟨_, _, p, rfl, B27.out, A27.out, R27.out, LWB.out, LWA.out, L27.out⟩
end Go.Proofs.Ytkibeddfkenlkaa
