/- The contract of the document's Tamper that writes: the walk. Conditions: the disk lies in memory; the bytes lie in no block of it. -/
import Derived.Test.YtbejfpdkfpgipaaPlRefK
import Derived.Test.YtbejfpdkfpgipaaPlRefH
namespace Go.Proofs.Ytbejfpdkfpgipaa
open Go.ChangeShapes Go.WideShapes Go.ChangeAt Go.RowKit
set_option linter.unusedVariables false
section
variable {o : Oper} {a : Act} {C : World → Prop} {K : Act → Prop}
theorem quiet_place_at (x y : Operand) (ho : o.op = .indexAddr 40 x y) (B off k : Nat) (hx : a.eval x = .pointer (some ⟨B, off, none⟩)) (hy : a.eval y = .int .i64 k) (hk4 : k < 128) (hk : K (a.put o.dst (.pointer (some ⟨B, off + k, none⟩)))) : o.quiet Try.prog a C K :=
  quiet_value _ (fun w _ => by
    have h0 : (k : Int) < 128 := by omega
    have hs := byteElem.run_size (P := Try.prog) w
    unfold execOp
    simp only [ho, hx, hy]
    simp [go_sem, Try.underlying40, h0, hs, addr_add]) hk
theorem quiet_byte_at (x y : Operand) (ho : o.op = .indexAddr 34 x y) (B off n cap k : Nat) (hx : a.eval x = .slice (some ⟨B, off, none⟩) n cap) (hy : a.eval y = .int .i64 k) (hk4 : k < n) (hk : K (a.put o.dst (.pointer (some ⟨B, off + k, none⟩)))) : o.quiet Try.prog a C K :=
  quiet_value _ (fun w _ => by
    have h0 : (k : Int) < n := by omega
    have hs := byteElem.run_size (P := Try.prog) w
    unfold execOp
    simp only [ho, hx, hy]
    simp [go_sem, h0, hs, addr_add]) hk
theorem quiet_byte_load (x : Operand) (ho : o.op = .load 5 x) (p : Addr) (v : Value) (hx : a.eval x = .pointer (some p)) (hB : ∀ w, C w → w.cell? p = some v) (hk : K (a.put o.dst v)) : o.quiet Try.prog a C K :=
  quiet_value _ (fun w hw => by
    have hc := hB w hw
    unfold execOp
    simp only [ho, hx]
    simp [go_sem, hc]) hk
theorem quiet_slot (x y : Operand) (ho : o.op = .indexAddr 54 x y) (B n cap k : Nat) (hx : a.eval x = .slice (some ⟨B, 0, none⟩) n cap) (hy : a.eval y = .int .i64 k) (hk4 : k < n) (hk : K (a.put o.dst (.pointer (some ⟨B, k, none⟩)))) : o.quiet Try.prog a C K :=
  quiet_value _ (fun w _ => by
    have h0 : (k : Int) < n := by omega
    unfold execOp
    simp only [ho, hx, hy]
    simp [go_sem, Try.underlying54, h0, addr_add]) hk
end
structure TamS (w wr : World) (r : RBlk) (base : Nat) (d : Disk) (L : Nat) (R : Since) (i : Nat) (f g : Nat → Nat) (k m j : Nat) : Prop where
  at' : RefAt wr r base (tamD d R i f g k m j) L (tamR R i g k j)
  keep : Keeps (r.own R d.ns) w wr
section
variable {w : World} {r : RBlk} {base : Nat} {d : Disk} {L : Nat} {R : Since}
theorem TamS.slot {wr : World} {i : Nat} {f g : Nat → Nat} {k m j : Nat} (h : TamS w wr r base d L R i f g k m j) (hi : i < d.ns) : wr.cell? ⟨r.zb, i, none⟩ = some (R.V i) := h.at'.slot hi
theorem TamS.c0 {wr : World} {i : Nat} {f g : Nat → Nat} {k m j : Nat} (h : TamS w wr r base d L R i f g k m j) : wr.cell? ⟨r.B, 0, none⟩ = some (.slice (some ⟨r.sb, 0, none⟩) d.ns d.ns) := h.at'.c0
theorem TamS.c1 {wr : World} {i : Nat} {f g : Nat → Nat} {k m j : Nat} (h : TamS w wr r base d L R i f g k m j) : wr.cell? ⟨r.B, 1, none⟩ = some (.slice (some ⟨r.zb, 0, none⟩) d.ns d.ns) := h.at'.c1
theorem TamS.sure {wr : World} {i : Nat} {f g : Nat → Nat} {k j : Nat} (h : TamS w wr r base d L R i f g k k j) (hi : i < d.ns) (hk : k < 128) : TamS w (wr.setCell ⟨r.sb, 128 * i + k, none⟩ (.int .u8 (g k : Nat))) r base d L R i f g k (k + 1) j :=
  ⟨tam_sure f g h.at' hi hk, h.keep.setCell (S := r.own R d.ns) (B := r.sb) (.inl (.inr (.inl rfl))) _ _⟩
theorem TamS.row {wr : World} {i : Nat} {f g : Nat → Nat} {k m j cap B : Nat} (h : TamS w wr r base d L R i f g k m j) (hi : i < d.ns) (hj : j < R.n i) (hk : k < 128) (hV : R.V i = .slice (some ⟨B, 0, none⟩) (R.n i) cap) : TamS w (wr.setCell ⟨B, 128 * j + k, none⟩ (.int .u8 (g k : Nat))) r base d L R i f g k m (j + 1) :=
  ⟨tam_row f g h.at' hi hj hk hV, h.keep.setCell (S := r.own R d.ns) (B := B) (.inr ⟨i, hi, by rw [hV]; rfl⟩) _ _⟩
theorem TamS.below {wr wr' : World} {i : Nat} {f g : Nat → Nat} {k m j : Nat} (h : TamS w wr r base d L R i f g k m j) (hb : Below wr.heap.size wr wr') : TamS w wr' r base d L R i f g k m j :=
  ⟨h.at'.below hb, h.keep.trans (Keeps.of hb)⟩
theorem TamS.turn {wr : World} {i : Nat} {f g : Nat → Nat} {k m : Nat} (h : TamS w wr r base d L R i f g k m (R.n i)) : TamS w wr r base d L R i f g (k + 1) m 0 :=
  ⟨by have := h.at'; rw [tam_turn, tam_turnD] at this; exact this, h.keep⟩
theorem TamS.sureCell {wr : World} {i : Nat} {f g : Nat → Nat} {k m j : Nat} (h : TamS w wr r base d L R i f g k m j) (hi : i < d.ns) (hk : k < 128) : ∃ c : Nat, wr.cell? ⟨r.sb, 128 * i + k, none⟩ = some (.int .u8 (c : Nat)) := by
  obtain ⟨F, hF, hs⟩ := h.at'.sect
  refine ⟨F (128 * i + k), ?_⟩
  have hlt : 128 * i + k < 128 * d.ns := by omega
  have := hF.cell (i := 128 * i + k) (by rw [mk_len]; exact hlt)
  exact this.trans (congrArg (fun z => some (Value.int .u8 z)) (mk_get (f := F) hlt))
theorem TamS.sureFree {wr : World} {i : Nat} {f g : Nat → Nat} {k m j : Nat} (h : TamS w wr r base d L R i f g k m j) (p : Nat) : wr.frozen? ⟨r.sb, p, none⟩ = false := by
  obtain ⟨F, hF, hs⟩ := h.at'.sect
  exact hF.free p
theorem TamS.rowCell {wr : World} {i : Nat} {f g : Nat → Nat} {k m j j' cap B : Nat} (h : TamS w wr r base d L R i f g k m j) (hi : i < d.ns) (hj : j' < R.n i) (hk : k < 128) (hV : R.V i = .slice (some ⟨B, 0, none⟩) (R.n i) cap) : (∃ c : Nat, wr.cell? ⟨B, 128 * j' + k, none⟩ = some (.int .u8 (c : Nat))) ∧ wr.frozen? ⟨B, 128 * j' + k, none⟩ = false := by
  have hr := h.at'.rows.row i hi
  rw [show (tamR R i g k j).V i = R.V i from rfl, hV] at hr
  obtain ⟨_, h2⟩ := hr
  rcases h2 with ⟨e, _⟩ | ⟨g', cap', cur, e, hb, hh, hc1, hc2, hc3, ht⟩
  · cases e
  · cases e
    refine ⟨⟨(tamR R i g k j).G i (128 * j' + k), (cell_of_row _ _ _ _ _ _ hh).trans ?_⟩, frozen_of_row _ _ _ _ _ hh⟩
    have hn : (tamR R i g k j).n i = R.n i := rfl
    have h3 : (cur.toList.take ((tamR R i g k j).n i * 128))[128 * j' + k]? = some (.int .u8 ((tamR R i g k j).G i (128 * j' + k) : Nat)) := by
      rw [ht, hn]
      unfold bytesList
      rw [List.getElem?_map, List.getElem?_range (by omega)]
      rfl
    rw [List.getElem?_take_of_lt (by rw [hn]; omega), Array.getElem?_toList] at h3
    exact h3
attribute [local irreducible] mk tamD tamR tamG put
set_option maxRecDepth 100000 in
set_option maxHeartbeats 2000000 in
theorem rTamper_ok (h : RefAt w r base d L R) (i : Nat) (hi : i < d.ns) (p : Option Addr) (n cap : Nat) (hn : n ≤ 128) (g : Nat → Nat) (hp : BytesAt w p n g) (hne : ∀ D o, p = some ⟨D, o, none⟩ → n ≠ 0 → ¬ r.own R d.ns D) (hmd : d.made ≤ 100000) :
    Calls Try.prog 24 #[.pointer (some ⟨r.B, 0, none⟩), .int .i64 i, .slice p n cap] w fun e w' => e = .returned (.int .i64 0) ∧ (∃ L' R', RefAt w' r base (d.tampered i n g) L' R') ∧ Keeps (r.own R d.ns) w w' := by
  obtain ⟨f, hf⟩ : ∃ f : Nat → Nat, d.sure i = Go.Proofs.Ytbejfpdkfpgipaa.mk 128 f := by
    obtain ⟨F, hF, hs⟩ := h.sect
    exact ⟨_, hs i hi⟩
  have T0 := Lib.hid (show TamS w w r base d L R i f g 0 0 0 from ⟨tam_start h hi hf g, .refl _ _⟩)
  have TE := Lib.hid (tam_end (n := n) h hi hf g)
  have HI := Lib.hid hi
  have HP := Lib.hid hp
  have HNE := Lib.hid hne
  have HN := Lib.hid hn
  have hfw : R.n i ≤ 100000 := Nat.le_trans (h.rows.few i hi) hmd
  have HF := Lib.hid hfw
  obtain ⟨q, cv, hV⟩ := h.shape' hi
  have HV := Lib.hid hV
  have HVB := Lib.hid (fun (hz : 0 < R.n i) => (show ∃ B, q = some ⟨B, 0, none⟩ from by
    rcases h.shape hi with ⟨e, _⟩ | ⟨_, B, c, e, _⟩
    · omega
    · rw [hV] at e; cases e; exact ⟨B, rfl⟩))
  have hns := h.ns2
  have HNS := Lib.hid hns
  have c0 := h.c0
  have p1 : decide ((i : Int) < 0) = false := by simp
  have p2 : decide ((d.ns : Int) ≤ (i : Int)) = false := by simp; omega
  have p2b : decide (d.ns ≤ i) = false := by simp; omega
  have p3 : decide ((128 : Int) < (n : Int)) = false := by simp; omega
  have p3b : decide (128 < n) = false := by simp; omega
  clear h hi hp hne hn hf hV hns hfw hmd
  go_enter Try.func24, Try.ntmps24
  go_wp2
  clear p1 p2 p2b p3 p3b c0
  go_loopw [7, 8] (fun v7 v8 wr => ∃ k : Nat, k ≤ n ∧ v7 = .int .i64 k ∧ TamS w wr r base d L R i f g k k 0) (fun v7 _ _ => n - (intOf v7).toNat)
  case atStart => exact ⟨0, Nat.zero_le _, rfl, T0.out⟩
  case round =>
    obtain ⟨k, hk, rfl, ht⟩ := hrel
    have HT := Lib.hid ht
    clear ht T0
    by_cases hlt : k < n
    · rcases HP.out with he | ⟨B0, o0, rfl, hB, hc⟩
      · omega
      have cl := (World.cell?_of_block (w := w) (w' := wr) (a := ⟨B0, o0 + k, none⟩) (HT.out.keep.block B0 hB (HNE.out B0 o0 rfl (by omega)))).trans (hc k hlt)
      have HLT := Lib.hid hlt
      have f1 : (k : Int) < (n : Int) := by omega
      have f2 : (0 : Int) ≤ k := by omega
      have f3 : IntKind.i64.wrap ((k : Int) + 1) = ((k + 1 : Nat) : Int) := by have := HN.out; rw [IntWalk.i64_in _ (by omega)]; omega
      have HK := Lib.hid (show k < 128 by have := HN.out; omega)
      have c0 := HT.out.c0
      have HBl := Lib.hid (block_lt_of_cell cl)
      have hr0 := HT.out.at'.fits (.inl rfl)
      have HR0 := Lib.hid hr0
      have CL := Lib.hid cl
      have HB0 := Lib.hid hB
      have HC0 := Lib.hid (hc k hlt)
      have HN0 := Lib.hid (show n ≠ 0 by omega)
      have CC0 := Lib.hid (show wr.cell? ⟨r.B, 0, none⟩ = some (.slice (some ⟨r.sb, 0, none⟩) d.ns d.ns) from c0)
      clear hB hc hlt cl c0 hr0
      go_wp2
      refine wp_region_class_tail 12 (fun W => Below wr.heap.size wr W) (by kernel_rfl) (by kernel_rfl) ((Below.refl _ wr).drew) ?_
      simp only [List.take_succ_cons, List.take_zero, List.drop_succ_cons, List.drop_zero]
      iterate 12 (first
        | go_big_quiet_skip
        | (go_big_quiet_want
           first
             | (go_big_quiet_op; go_big_quiet_on)
             | ((first
                 | (refine quiet_box 53 _ rfl ⟨r.B, 0, none⟩ (.slice (some ⟨r.sb, 0, none⟩) d.ns d.ns) rfl box_secs (fun w' hw => (hw.cell (p := ⟨r.B, 0, none⟩) HR0.out).trans CC0.out) ?_)
                 | (refine quiet_nil_check _ rfl ⟨r.B, 0, none⟩ rfl ?_)
                 | (refine quiet_field _ 0 rfl (by omega) r.B rfl ?_)
                 | (refine quiet_byte_at _ _ rfl B0 o0 n cap k rfl rfl HLT.out ?_)
                 | (refine quiet_byte_load _ rfl ⟨B0, o0 + k, none⟩ (.int .u8 (g k : Nat)) rfl (fun w' hw => (hw.cell (p := ⟨B0, o0 + k, none⟩) HBl.out).trans CL.out) ?_)
                 | (refine quiet_elem_sec _ _ rfl r.sb d.ns d.ns i rfl rfl HI.out ?_)
                 | (refine quiet_place_at _ _ rfl r.sb (128 * i) k rfl rfl HK.out ?_)); go_simp; go_big_quiet_on)))
      refine wpQuiet_nil ?_
      intro wx hwx
      have HX := Lib.hid (HT.out.below hwx)
      obtain ⟨cc, cs⟩ := HX.out.sureCell HI.out HK.out
      have cf := HX.out.sureFree (128 * i + k)
      have HS := Lib.hid (HX.out.sure HI.out HK.out)
      clear HT hwx HX
      go_wp2
      clear cs cf
      generalize wx.setCell ⟨r.sb, 128 * i + k, none⟩ (.int .u8 (g k : Nat)) = wy at *
      go_loopw [8] (fun v8 wr => ∃ j : Nat, j ≤ R.n i ∧ v8 = .int .i64 j ∧ TamS w wr r base d L R i f g k (k + 1) j) (fun v8 _ => R.n i - (intOf v8).toNat)
      case atStart => exact ⟨0, Nat.zero_le _, rfl, HS.out⟩
      case round =>
        obtain ⟨j, hj, rfl, ht⟩ := hrel
        have HT := Lib.hid ht
        have c1 : wr.cell? ⟨r.B, 1, none⟩ = some (.slice (some ⟨r.zb, 0, none⟩) d.ns d.ns) := ht.c1
        have hz := ht.slot HI.out
        rw [HV.out] at hz
        have i1 : (i : Int) < (d.ns : Int) := by have := HI.out; omega
        have i2 : (0 : Int) ≤ i := by omega
        clear ht HS
        by_cases hjl : j < R.n i
        · have HJL := Lib.hid hjl
          obtain ⟨B1, rfl⟩ := HVB.out (by omega)
          have g1 : (j : Int) < ((R.n i : Nat) : Int) := by omega
          have g3 : IntKind.i64.wrap ((j : Int) + 1) = ((j + 1 : Nat) : Int) := by have := HF.out; rw [IntWalk.i64_in _ (by omega)]; omega
          have cl2 := (World.cell?_of_block (w := w) (w' := wr) (a := ⟨B0, o0 + k, none⟩) (HT.out.keep.block B0 HB0.out (HNE.out B0 o0 rfl HN0.out))).trans HC0.out
          have HBl2 := Lib.hid (block_lt_of_cell cl2)
          have CL2 := Lib.hid cl2
          have hr1 := HT.out.at'.fits (.inl rfl)
          have HR1 := Lib.hid hr1
          have HRZ := Lib.hid (HT.out.at'.fits (.inr (.inr (.inl rfl))))
          have CC1 := Lib.hid c1
          have CZ := Lib.hid hz
          generalize hN : R.n i = N at *
          have HNN := Lib.hid hN
          clear hjl cl2 hr1 hN
          go_wp2
          refine wp_region_class_tail 15 (fun W => Below wr.heap.size wr W) (by kernel_rfl) (by kernel_rfl) ((Below.refl _ wr).drew) ?_
          simp only [List.take_succ_cons, List.take_zero, List.drop_succ_cons, List.drop_zero]
          iterate 15 (first
            | go_big_quiet_skip
            | (go_big_quiet_want
               first
                 | (go_big_quiet_op; go_big_quiet_on)
                 | ((first
                     | (refine quiet_box 54 _ rfl ⟨r.B, 1, none⟩ (.slice (some ⟨r.zb, 0, none⟩) d.ns d.ns) rfl box_tabs (fun w' hw => (hw.cell (p := ⟨r.B, 1, none⟩) HR1.out).trans CC1.out) ?_)
                     | (refine quiet_box 53 _ rfl ⟨r.zb, i, none⟩ (.slice (some ⟨B1, 0, none⟩) N cv) rfl box_secs (fun w' hw => (hw.cell (p := ⟨r.zb, i, none⟩) HRZ.out).trans CZ.out) ?_)
                     | (refine quiet_nil_check _ rfl ⟨r.B, 0, none⟩ rfl ?_)
                     | (refine quiet_field _ 1 rfl (by omega) r.B rfl ?_)
                     | (refine quiet_slot _ _ rfl r.zb d.ns d.ns i rfl rfl HI.out ?_)
                     | (refine quiet_byte_at _ _ rfl B0 o0 n cap k rfl rfl HLT.out ?_)
                     | (refine quiet_byte_load _ rfl ⟨B0, o0 + k, none⟩ (.int .u8 (g k : Nat)) rfl (fun w' hw => (hw.cell (p := ⟨B0, o0 + k, none⟩) HBl2.out).trans CL2.out) ?_)
                     | (refine quiet_elem_sec _ _ rfl B1 N cv j rfl rfl HJL.out ?_)
                     | (refine quiet_place_at _ _ rfl B1 (128 * j) k rfl rfl HK.out ?_)); go_simp; go_big_quiet_on)))
          refine wpQuiet_nil ?_
          intro wx2 hwx2
          have HX := Lib.hid (HT.out.below hwx2)
          obtain ⟨⟨cc2, cs2⟩, cf2⟩ := HX.out.rowCell (j' := j) HI.out (by rw [HNN.out]; exact HJL.out) HK.out (by rw [HNN.out]; exact HV.out)
          have HS2 := Lib.hid (HX.out.row HI.out (by rw [HNN.out]; exact HJL.out) HK.out (by rw [HNN.out]; exact HV.out))
          clear HT hwx2 HX c1 hz
          go_wp2
          clear cs2 cf2
          generalize wx2.setCell ⟨B1, 128 * j + k, none⟩ (.int .u8 (g k : Nat)) = wy2 at *
          go_roundw
          case rel => exact ⟨j + 1, HJL.out, by go_num, HS2.out⟩
          case measure => have := HJL.out; simp [intOf]; omega
        · have g1 : ¬ (j : Int) < ((R.n i : Nat) : Int) := by omega
          obtain rfl : j = R.n i := by omega
          have HS2 := Lib.hid HT.out.turn
          clear hjl hj HT
          go_wp2
          go_roundw
          case rel => exact ⟨k + 1, HLT.out, by go_num, HS2.out⟩
          case measure => have := HLT.out; simp [intOf]; omega
    · have f1 : ¬ (k : Int) < (n : Int) := by omega
      obtain rfl : k = n := by omega
      clear hlt hk
      go_wp2
      go_ret
      exact ⟨rfl, ⟨L, _, TE.out ▸ HT.out.at'⟩, HT.out.keep⟩
end
end Go.Proofs.Ytbejfpdkfpgipaa
