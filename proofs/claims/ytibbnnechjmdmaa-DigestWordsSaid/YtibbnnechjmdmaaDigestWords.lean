/- A schedule begins with the piece's words, and each word behind hangs on four ahead of it: the statement DigestWords. No condition. -/
import Derived.Test.YtibbnnechjmdmaaSchC
import Derived.Test.YtibbnnechjmdmaaWordsN
import Derived.Test.YtibbnnechjmdmaaQuietA
import Derived.Great.BuildSlice
import Derived.Deep.QuietTactic
import Derived.BigQuiet
namespace Go.Proofs.Ytibbnnechjmdmaa.digestWords
open Go.ChangeShapes Go.WideShapes Go.ChangeAt Go.RowKit
set_option linter.unusedVariables false

theorem own : ownKnob Try.prog.godebug = none := by kernel_rfl
def one3 : Nat → Nat := fun j => if j = 3 then 1 else 0
theorem one3_lt : ∀ j, j < 64 → one3 j < 256 := fun j _ => by unfold one3; split <;> omega
theorem one3_sched : schT one3 64 0 = 1 := by rw [sch_low one3 (by omega)]; decide +kernel
theorem run_index_at {P : Program} {e : TypeId} {k : IntKind} (t : TypeId) (n : Nat) (f : Nat → Nat) (ht : P.underlying t = some (.array n e)) (h : IntElem P e k) {i : Nat} (hi : i < n) (W : World) : (Instr.index t (.agg (cellsOf k (mk n f))) (.int .i64 i)).run P W = .ok (.int k (f i)) W := by
  have := run_index_ints W (t := t) (mk n f) (by rw [mk_len]; exact ht) h (i := i) (by rw [mk_len]; exact hi)
  rw [mk_get hi] at this; exact this
theorem bump_set (f : Nat → Nat) (k : Nat) {v : Int} (hv : v = ((f (4 * k + 3) + 1) % 256 : Nat)) : (mk 64 f).set (4 * k + 3) v = mk 64 (bump f k) :=
  mk_set_is (v := bump f k (4 * k + 3)) (by rw [hv]; unfold bump; rw [if_pos rfl]) fun j _ => by
    unfold bump
    by_cases h : j = 4 * k + 3
    · subst h; rw [if_pos rfl, if_pos rfl]
    · rw [if_neg h, if_neg h]
attribute [local irreducible] schT inG beW bump

set_option maxRecDepth 100000 in
set_option maxHeartbeats 4000000 in
theorem walk (p : Option Addr) (n cap : Nat) (g : Nat → Nat) (i0 : Int) (hg : ∀ i, i < n → g i < 256) (hcap : n ≤ cap) (hmax : cap ≤ maxLen) (hm : (Lit.int .i64 i0).wf = true) (w : World) (hp : BytesAt w p n g) :
    Calls Try.prog 5 #[.slice p n cap, .int .i64 i0] w fun e w' => e = .returned (.bool true) ∧ Below w.heap.size w w' := by
  have HZ := Lib.hid (IntBlk.new w .u8 26 (mk 64 zeroK))
  have hz2 : IntBlk ((w.alloc (.cells (cellsOf .u8 (mk 64 zeroK)) 26)).setRow w.heap.size (cellsOf .u8 (mk 64 zeroK))) w.heap.size .u8 26 (mk 64 zeroK) := HZ.out.setRow .u8 _
  have hl2 : Below w.heap.size w ((w.alloc (.cells (cellsOf .u8 (mk 64 zeroK)) 26)).setRow w.heap.size (cellsOf .u8 (mk 64 zeroK))) := below_setRow ((Below.refl _ w).alloc (Nat.le_refl _) _) (Nat.le_refl _) _
  have HZ2 := Lib.hid hz2
  have HP := Lib.hid (hp.below hl2)
  have HL2 := Lib.hid hl2
  have hpf : ∀ i, i < 64 → inG n 64 g zeroK i < 256 := inG_lt hg (fun i _ => by show (0 : Nat) < 256; omega)
  have HF := Lib.hid hpf
  obtain ⟨f, hf0⟩ : ∃ f, inG n 64 g zeroK = f := ⟨_, rfl⟩
  rw [hf0] at HF
  have Hf0 := Lib.hid hf0
  clear hz2 hl2 hp hpf hf0
  go_enter Try.func5, Try.ntmps5
  go_wp2_with (first
    | (refine wpList_buildTo rfl 26 _ rfl (some 12) rfl (cellsOf .u8 (mk 64 zeroK)) (by kernel_rfl) ?_)
    | (refine store_row_on rfl 26 _ _ rfl rfl w.heap.size (cellsOf .u8 (mk 64 zeroK)) rfl rfl 26 (cellsOf .u8 (mk 64 zeroK)) HZ.out (pieceSize _) rfl (cellsOf_one _ _) ?_)
    | (refine wpList_copy_in rfl _ _ rfl w.heap.size 26 64 zeroK g p n cap rfl rfl HZ2.out HP.out ?_; intro w1 hb1 hl1
       rw [Hf0.out] at hb1
       have HB1 := Lib.hid hb1; have HL1 := Lib.hid (HL2.out.trans hl1)
       clear hb1 hl1 HZ2 HP HL2 HZ)
    | (refine wpList_load_row rfl 26 _ rfl w.heap.size rfl 26 (cellsOf .u8 (mk 64 f)) (0, 0) _ HB1.out pieceUnder rfl (pieceSize f) ?_)
    | (go_at_call 9; refine (Schedule_any f HF.out _).mono ?_; rintro e w2 ⟨rfl, hl2⟩
       have HB2 := Lib.hid (HB1.out.below hl2 HB1.out.lt)
       have HL3 := Lib.hid (HL1.out.trans (hl2.mono HL1.out.size))
       have hlt2 := HB2.out.lt
       clear hl2 HB1 HL1)
    | (refine store_row_on rfl 28 _ _ rfl rfl w2.heap.size (cellsOf .u32 (mk 64 (schT f 64))) rfl rfl 28 (cellsOf .u32 (mk 64 zeroK)) (IntBlk.new w2 .u32 _ (mk 64 zeroK)) (schedSize _) (by rw [cellsOf_size, cellsOf_size, mk_len, mk_len]) (cellsOf_one _ _) ?_)
    | fail)
  have E1 : IntBlk ((w2.alloc (.cells (cellsOf .u32 (mk 64 zeroK)) 28)).setRow w2.heap.size (cellsOf .u32 (mk 64 (schT f 64)))) w.heap.size .u8 26 (mk 64 f) := (HB2.out.alloc _).otherRow (by omega) _
  have E2 : IntBlk ((w2.alloc (.cells (cellsOf .u32 (mk 64 zeroK)) 28)).setRow w2.heap.size (cellsOf .u32 (mk 64 (schT f 64)))) w2.heap.size .u32 28 (mk 64 (schT f 64)) := (IntBlk.new w2 .u32 _ (mk 64 zeroK)).setRow .u32 _
  have E3 : Below w.heap.size w ((w2.alloc (.cells (cellsOf .u32 (mk 64 zeroK)) 28)).setRow w2.heap.size (cellsOf .u32 (mk 64 (schT f 64)))) := below_setRow (HL3.out.alloc (by omega) _) (by omega) _
  change Code.wp _ _ _ _ ((w2.alloc (.cells (cellsOf .u32 (mk 64 zeroK)) 28)).setRow w2.heap.size (cellsOf .u32 (mk 64 (schT f 64))))
  generalize ((w2.alloc (.cells (cellsOf .u32 (mk 64 zeroK)) 28)).setRow w2.heap.size (cellsOf .u32 (mk 64 (schT f 64)))) = V at *
  have HE1 := Lib.hid E1; have HE2 := Lib.hid E2; have HE3 := Lib.hid E3
  clear E1 E2 E3 HB2 HL3
  generalize w2.heap.size = S0 at *
  go_loopw [7, 18] (fun _ v wr => ∃ k : Nat, k ≤ 16 ∧ v = .int .i64 k ∧ IntBlk wr w.heap.size .u8 26 (mk 64 f) ∧ IntBlk wr S0 .u32 28 (mk 64 (schT f 64)) ∧ Below w.heap.size w wr) (fun _ v _ => 16 - (intOf v).toNat)
  case atStart => exact ⟨0, by omega, rfl, HE1.out, HE2.out, HE3.out⟩
  case round =>
    clear HE1 HE2 HE3
    obtain ⟨k, hk, rfl, ha, hs, hb⟩ := hrel
    by_cases hlt : k < 16
    · have e3 : (k : Int) < 16 := by omega
      have a0 := HF.out (4 * k) (by omega); have b0 := HF.out (4 * k + 1) (by omega); have c0 := HF.out (4 * k + 2) (by omega); have d0 := HF.out (4 * k + 3) (by omega)
      have E := word_bits a0 b0 c0 d0
      have HE : schT f 64 k = f (4 * k) * 16777216 + f (4 * k + 1) * 65536 + f (4 * k + 2) * 256 + f (4 * k + 3) := by rw [sch_low f hlt]; unfold beW; rfl
      have cw := hs.cell (i := k) (by rw [mk_len]; omega)
      rw [mk_get (by omega)] at cw
      rw [← HE] at E
      clear HE
      obtain ⟨m, hm⟩ : ∃ m, 4 * k = m := ⟨_, rfl⟩
      rw [hm] at a0 b0 c0 d0 E
      have c1 := ha.cell (i := m) (by rw [mk_len]; omega)
      have c2 := ha.cell (i := m + 1) (by rw [mk_len]; omega)
      have c3 := ha.cell (i := m + 2) (by rw [mk_len]; omega)
      have c4 := ha.cell (i := m + 3) (by rw [mk_len]; omega)
      rw [mk_get (by omega)] at c1 c2 c3 c4
      have q : IntKind.i64.wrap (4 * (k : Int)) = (m : Int) := by rw [IntWalk.i64_in _ (by omega)]; omega
      have q1 : IntKind.i64.wrap ((m : Int) + 1) = (m : Int) + 1 := IntWalk.i64_in _ (by omega)
      have q2 : IntKind.i64.wrap ((m : Int) + 2) = (m : Int) + 2 := IntWalk.i64_in _ (by omega)
      have q3 : IntKind.i64.wrap ((m : Int) + 3) = (m : Int) + 3 := IntWalk.i64_in _ (by omega)
      have k0 : (0 : Int) ≤ k := by omega
      have k1 : (k : Int) < 64 := by omega
      have l0 : (0 : Int) ≤ m := by omega
      have l1 : (0 : Int) ≤ (m : Int) + 1 := by omega
      have l2 : (0 : Int) ≤ (m : Int) + 2 := by omega
      have l3 : (0 : Int) ≤ (m : Int) + 3 := by omega
      have u0 : (m : Int) < 64 := by omega
      have u1 : (m : Int) + 1 < 64 := by omega
      have u2 : (m : Int) + 2 < 64 := by omega
      have u3 : (m : Int) + 3 < 64 := by omega
      have n1 : ((m : Int) + 1).toNat = m + 1 := by omega
      have n2 : ((m : Int) + 2).toNat = m + 2 := by omega
      have n3 : ((m : Int) + 3).toNat = m + 3 := by omega
      generalize f m = a at *
      generalize f (m + 1) = b at *
      generalize f (m + 2) = c at *
      generalize f (m + 3) = d at *
      have w1 : IntKind.u32.wrap ((a : Int) * 16777216) = (a : Int) * 16777216 := by rw [IntKind.wrap_u32']; omega
      have w2 : IntKind.u32.wrap ((b : Int) * 65536) = (b : Int) * 65536 := by rw [IntKind.wrap_u32']; omega
      have w3 : IntKind.u32.wrap ((c : Int) * 256) = (c : Int) * 256 := by rw [IntKind.wrap_u32']; omega
      have x1 : IntKind.u32.wrap (a : Int) = (a : Int) := by rw [IntKind.wrap_u32']; omega
      have x2 : IntKind.u32.wrap (b : Int) = (b : Int) := by rw [IntKind.wrap_u32']; omega
      have x3 : IntKind.u32.wrap (c : Int) = (c : Int) := by rw [IntKind.wrap_u32']; omega
      have x4 : IntKind.u32.wrap (d : Int) = (d : Int) := by rw [IntKind.wrap_u32']; omega
      generalize schT f 64 k = wd at *
      have HA := Lib.hid ha.drew; have HS := Lib.hid hs.drew; have HB := Lib.hid hb.drew; have HC := Lib.hid hm
      clear ha hs hb hm a0 b0 c0 d0
      go_wp2
      refine wp_region_still_tail 32 (by kernel_rfl) (by kernel_rfl) ?_
      simp only [List.take_succ_cons, List.take_zero, List.drop_succ_cons, List.drop_zero]
      change wpStill _ _ wr.drew (fun a' => wpList _ _ _ _ a' wr.drew) _ _
      iterate 32 still_step
      refine wpStill_nil ?_
      go_wp2
      go_roundw
      case rel => exact ⟨k + 1, by omega, by go_num, HA.out, HS.out, HB.out⟩
      case measure => simp [intOf]; omega
    · have ek : k = 16 := by omega
      have hd1 : decide ((k : Int) < 16) = false := by simp; omega
      clear ek hlt hk
      obtain ⟨u, hu⟩ : ∃ u : Nat, IntKind.u64.wrap i0 = (u : Int) := ⟨(IntKind.u64.wrap i0).toNat, by
        have : 0 ≤ IntKind.u64.wrap i0 := by simp only [IntKind.wrap, IntKind.bits, IntKind.signed]; simp; omega
        omega⟩
      obtain ⟨q, hq⟩ : ∃ q : Nat, u % 16 = q := ⟨_, rfl⟩
      have r1 : (u : Int).tmod 16 = (q : Int) := by rw [Int.tmod_eq_emod_of_nonneg (by omega)]; omega
      have r2 : IntKind.i64.wrap (q : Int) = (q : Int) := IntWalk.i64_in _ (by omega)
      have hq16 : q < 16 := by omega
      obtain ⟨m, hm2⟩ : ∃ m, 4 * q = m := ⟨_, rfl⟩
      have r3 : IntKind.i64.wrap (4 * (q : Int)) = (m : Int) := by rw [IntWalk.i64_in _ (by omega)]; omega
      obtain ⟨m3, hm3⟩ : ∃ m3, m + 3 = m3 := ⟨_, rfl⟩
      have r4 : IntKind.i64.wrap ((m : Int) + 3) = (m3 : Int) := by rw [IntWalk.i64_in _ (by omega)]; omega
      have l3 : (0 : Int) ≤ m3 := by omega
      have u3 : (m3 : Int) < 64 := by omega
      have W1b : IntBlk ((wr.alloc (.cells (cellsOf .u8 (mk 64 zeroK)) 26)).setRow wr.heap.size (cellsOf .u8 (mk 64 f))) wr.heap.size .u8 26 (mk 64 f) := (IntBlk.new wr .u8 _ (mk 64 zeroK)).setRow .u8 _
      have W1l : Below wr.heap.size wr ((wr.alloc (.cells (cellsOf .u8 (mk 64 zeroK)) 26)).setRow wr.heap.size (cellsOf .u8 (mk 64 f))) := below_setRow ((Below.refl _ wr).alloc (Nat.le_refl _) _) (Nat.le_refl _) _
      have c4 := W1b.cell (i := m3) (by rw [mk_len]; omega)
      rw [mk_get (by omega)] at c4
      have f4 := W1b.free m3
      have hd4 : f m3 < 256 := HF.out m3 (by omega)
      have hbs : (mk 64 f).set (4 * q + 3) (((f m3 + 1) % 256 : Nat) : Int) = mk 64 (bump f q) := bump_set f q (by rw [hm2, hm3])
      rw [hm2, hm3] at hbs
      have r5 : IntKind.u8.wrap (((f m3 : Nat) : Int) + 1) = (((f m3 + 1) % 256 : Nat) : Int) := by rw [IntKind.wrap_u8']; omega
      have HBF := Lib.hid (bump_lt HF.out q)
      generalize hv4 : (f m3 + 1) % 256 = v4 at *
      generalize f m3 = d4 at *
      have HA := Lib.hid ha; have HS := Lib.hid hs; have HB := Lib.hid hb; have HW1 := Lib.hid W1b; have HL1 := Lib.hid W1l; have HBS := Lib.hid hbs; have HQ := Lib.hid hq16
      have hsz := hs.lt
      clear ha hs hb W1b W1l hbs hm hq hq16 hm2 hm3 hv4 hd4
      go_wp2_with (first
        | (refine wpList_load_row rfl 26 _ rfl w.heap.size rfl 26 (cellsOf .u8 (mk 64 f)) (0, 0) _ HA.out pieceUnder rfl (pieceSize f) ?_)
        | (refine store_row_on rfl 26 _ _ rfl rfl wr.heap.size (cellsOf .u8 (mk 64 f)) rfl rfl 26 (cellsOf .u8 (mk 64 zeroK)) (IntBlk.new wr .u8 _ (mk 64 zeroK)) (pieceSize _) (by rw [cellsOf_size, cellsOf_size, mk_len, mk_len]) (cellsOf_one _ _) ?_
           change wpList _ _ _ _ _ ((wr.alloc (.cells (cellsOf .u8 (mk 64 zeroK)) 26)).setRow wr.heap.size (cellsOf .u8 (mk 64 f)))
           generalize ((wr.alloc (.cells (cellsOf .u8 (mk 64 zeroK)) 26)).setRow wr.heap.size (cellsOf .u8 (mk 64 f))) = W1 at *)
        | (refine wpList_load_row rfl 26 _ rfl wr.heap.size rfl 26 (cellsOf .u8 (mk 64 (bump f q))) (0, 0) _ (by rw [← HBS.out]; exact HW1.out.set m3 _) pieceUnder rfl (pieceSize _) ?_)
        | (go_at_call 9; refine (Schedule_any (bump f q) HBF.out _).mono ?_; rintro e w5 ⟨rfl, hl5⟩
           have g1 : Below wr.heap.size wr w5 := (HL1.out.setCell (p := ⟨wr.heap.size, m3, none⟩) (Nat.le_refl _) (.int .u8 (v4 : Int))).trans (hl5.mono (by have := HL1.out.size; simpa [World.setCell] using this))
           have G1 := Lib.hid g1
           clear hl5 HL1 HW1 c4 f4 g1)
        | (refine store_row_on rfl 28 _ _ rfl rfl w5.heap.size (cellsOf .u32 (mk 64 (schT (bump f q) 64))) rfl rfl 28 (cellsOf .u32 (mk 64 zeroK)) (IntBlk.new w5 .u32 _ (mk 64 zeroK)) (schedSize _) (by rw [cellsOf_size, cellsOf_size, mk_len, mk_len]) (cellsOf_one _ _) ?_)
        | fail)
      have hs5 := G1.out.size
      have D1 : IntBlk ((w5.alloc (.cells (cellsOf .u32 (mk 64 zeroK)) 28)).setRow w5.heap.size (cellsOf .u32 (mk 64 (schT (bump f q) 64)))) S0 .u32 28 (mk 64 (schT f 64)) := ((HS.out.below G1.out hsz).alloc _).otherRow (by omega) _
      have D2 : IntBlk ((w5.alloc (.cells (cellsOf .u32 (mk 64 zeroK)) 28)).setRow w5.heap.size (cellsOf .u32 (mk 64 (schT (bump f q) 64)))) w5.heap.size .u32 28 (mk 64 (schT (bump f q) 64)) := (IntBlk.new w5 .u32 _ (mk 64 zeroK)).setRow .u32 _
      have hw5 := HB.out.size
      have D3 : Below w.heap.size w ((w5.alloc (.cells (cellsOf .u32 (mk 64 zeroK)) 28)).setRow w5.heap.size (cellsOf .u32 (mk 64 (schT (bump f q) 64)))) := below_setRow ((HB.out.trans (G1.out.mono hw5)).alloc (by omega) _) (by omega) _
      change Code.wp _ _ _ _ ((w5.alloc (.cells (cellsOf .u32 (mk 64 zeroK)) 28)).setRow w5.heap.size (cellsOf .u32 (mk 64 (schT (bump f q) 64))))
      generalize ((w5.alloc (.cells (cellsOf .u32 (mk 64 zeroK)) 28)).setRow w5.heap.size (cellsOf .u32 (mk 64 (schT (bump f q) 64)))) = V2 at *
      have HD1 := Lib.hid D1; have HD2 := Lib.hid D2; have HD3 := Lib.hid D3
      clear D1 D2 D3 HA HS HB G1 hu r1 r2 r3 r4 r5 l3 u3 hs5 hw5 hsz HBS
      generalize w5.heap.size = S1 at *
      generalize wr = wo at *
      go_loopw [11, 69] (fun _ v wr => ∃ j : Nat, j ≤ 16 ∧ v = .int .i64 j ∧ IntBlk wr S0 .u32 28 (mk 64 (schT f 64)) ∧ IntBlk wr S1 .u32 28 (mk 64 (schT (bump f q) 64)) ∧ Below w.heap.size w wr) (fun _ v _ => 16 - (intOf v).toNat)
      case atStart => exact ⟨0, by omega, rfl, HD1.out, HD2.out, HD3.out⟩
      case round =>
        clear HD1 HD2 HD3
        obtain ⟨j, hj, rfl, h1, h2, hb⟩ := hrel
        have HQ2 := HQ.out
        by_cases hlt : j < 16
        · have e3 : (j : Int) < 16 := by omega
          have cv := h2.cell (i := j) (by rw [mk_len]; omega)
          rw [mk_get (by omega)] at cv
          have cw := h1.cell (i := j) (by rw [mk_len]; omega)
          rw [mk_get (by omega)] at cw
          have j0 : (0 : Int) ≤ j := by omega
          have j1 : (j : Int) < 64 := by omega
          have H1 := Lib.hid h1.drew; have H2 := Lib.hid h2.drew; have HB := Lib.hid hb.drew
          by_cases he : j = q
          · have hne : schT (bump f q) 64 j ≠ schT f 64 j := by rw [sch_low _ hlt, sch_low _ hlt, he]; exact beW_ne HF.out HQ2
            generalize schT (bump f q) 64 j = va at *
            generalize schT f 64 j = vb at *
            have hne2 : ¬ ((va : Int) = (vb : Int)) := by omega
            have b1 : ((va : Int) != (vb : Int)) = true := by simp; omega
            have b2 : ((va : Int) == (vb : Int)) = false := by simp; omega
            subst he
            clear h1 h2 hb hne
            go_wp2
            refine wp_region_still_tail 10 (by kernel_rfl) (by kernel_rfl) ?_
            simp only [List.take_succ_cons, List.take_zero, List.drop_succ_cons, List.drop_zero]
            change wpStill _ _ wr.drew (fun a' => wpList _ _ _ _ a' wr.drew) _ _
            iterate 10 still_step
            refine wpStill_nil ?_
            go_wp2
            go_roundw
            case rel => exact ⟨j + 1, by omega, by go_num, H1.out, H2.out, HB.out⟩
            case measure => simp [intOf]; omega
          · have heq : schT (bump f q) 64 j = schT f 64 j := by rw [sch_low _ hlt, sch_low _ hlt, beW_bump he]
            rw [heq] at cv
            generalize schT f 64 j = vb at *
            have hne2 : ¬ ((j : Int) = (q : Int)) := by omega
            have b2 : ((j : Int) == (q : Int)) = false := by simp; omega
            clear h1 h2 hb heq he
            go_wp2
            refine wp_region_still_tail 10 (by kernel_rfl) (by kernel_rfl) ?_
            simp only [List.take_succ_cons, List.take_zero, List.drop_succ_cons, List.drop_zero]
            change wpStill _ _ wr.drew (fun a' => wpList _ _ _ _ a' wr.drew) _ _
            iterate 10 still_step
            refine wpStill_nil ?_
            go_wp2
            go_roundw
            case rel => exact ⟨j + 1, by omega, by go_num, H1.out, H2.out, HB.out⟩
            case measure => simp [intOf]; omega
        · have ej : j = 16 := by omega
          have hd1 : decide ((j : Int) < 16) = false := by simp; omega
          clear ej hlt hj
          have H1 := Lib.hid h1; have H2 := Lib.hid h2; have HB := Lib.hid hb
          clear h1 h2 hb
          have ix : ∀ W, (Instr.index 28 (.agg (cellsOf .u32 (mk 64 (schT one3 64)))) (.int .i64 0)).run Try.prog W = .ok (.int .u32 1) W := fun W => by
            have := run_index_at (P := Try.prog) 28 64 (schT one3 64) schedUnder wdElem (i := 0) (by omega) W
            rw [one3_sched] at this; exact this
          by_cases h4 : q = 0 ∨ q = 1 ∨ q = 9 ∨ q = 14
          · have hne : schT (bump f q) 64 16 ≠ schT f 64 16 := sch_16_ne HF.out h4
            generalize hva : schT (bump f q) 64 16 = va at *
            generalize hvb : schT f 64 16 = vb at *
            have HVA := Lib.hid hva; have HVB := Lib.hid hvb
            clear hva hvb
            have hne2 : ¬ ((va : Int) = (vb : Int)) := by omega
            have b1 : ((va : Int) != (vb : Int)) = true := by simp; omega
            have b2 : ((va : Int) == (vb : Int)) = false := by simp; omega
            clear hne HQ2
            rcases h4 with rfl | rfl | rfl | rfl
            all_goals (
              go_wp2_with (first
                | (refine wpList_buildTo rfl 26 _ rfl (some 84) rfl (cellsOf .u8 (mk 64 one3)) (by kernel_rfl) ?_)
                | (go_at_call 9; refine (Schedule_any one3 one3_lt _).mono ?_; rintro e w7 ⟨rfl, hl7⟩
                   have cv := (H2.out.below hl7 H2.out.lt).cell (i := 16) (by rw [mk_len]; omega)
                   rw [mk_get (by omega), HVA.out] at cv
                   have cw := (H1.out.below hl7 H1.out.lt).cell (i := 16) (by rw [mk_len]; omega)
                   rw [mk_get (by omega), HVB.out] at cw
                   have HL7 := Lib.hid hl7
                   clear hl7)
                | fail)
              go_ret
              exact ⟨rfl, HB.out.trans (HL7.out.mono HB.out.size)⟩)
          · have heq : schT (bump f q) 64 16 = schT f 64 16 := sch_16_same (by omega) (by omega) (by omega) (by omega)
            have y0 : ((q : Int) == 0) = false := by simp; omega
            have y1 : ((q : Int) == 1) = false := by simp; omega
            have y9 : ((q : Int) == 9) = false := by simp; omega
            have y14 : ((q : Int) == 14) = false := by simp; omega
            generalize hvb : schT f 64 16 = vb at *
            have HVA := Lib.hid heq; have HVB := Lib.hid hvb
            clear heq hvb h4 HQ2
            go_wp2_with (first
              | (refine wpList_buildTo rfl 26 _ rfl (some 84) rfl (cellsOf .u8 (mk 64 one3)) (by kernel_rfl) ?_)
              | (go_at_call 9; refine (Schedule_any one3 one3_lt _).mono ?_; rintro e w7 ⟨rfl, hl7⟩
                 have cv := (H2.out.below hl7 H2.out.lt).cell (i := 16) (by rw [mk_len]; omega)
                 rw [mk_get (by omega), HVA.out] at cv
                 have cw := (H1.out.below hl7 H1.out.lt).cell (i := 16) (by rw [mk_len]; omega)
                 rw [mk_get (by omega), HVB.out] at cw
                 have HL7 := Lib.hid hl7
                 clear hl7)
              | fail)
            go_ret
            exact ⟨rfl, HB.out.trans (HL7.out.mono HB.out.size)⟩

theorem laidOut : laidOutB Try.prog = true := by kernel_rfl
set_option maxRecDepth 100000 in
theorem lifted (os : Os) (started : os.Started) (H : Type) (enc : TypeId × Value → H) :
    ReturnsInHanded {} Try.checked os 5 .any (Rows.digestWordsSpec.pre6 enc Try.prog Try.f5 Rows.digestWordsRow.domain false) (Rows.digestWordsSpec.post enc Try.prog Try.f5 false true false false) := by
  refine returnsInHanded_of_change (C := Try.checked) own started (by kernel_rfl) Try.func5
    (ChangeSpec.witness6 (enc := enc) (C := Try.checked) false ⟨#[], #[.slice none 0 0, .int .i64 0], []⟩ 8 (by kernel_rfl) (by kernel_rfl) (by kernel_rfl) (by kernel_rfl)) ?_
  intro W base args ds gs before hval0 hW hcnd _
  have hval : ∀ (j : Nat) t v, Try.f5.params[j]? = some t → args[j]? = some v → Value.okWide Try.prog W .any base t v := hval0
  have hW' := hW
  obtain ⟨p, q, hA0, hV, rfl, hfz, hnd⟩ := hW
  have hA : DataW.TrodAll enc Try.prog W 0 (fun _ => true) true Try.f5.params.toList args.toList ds p := hA0
  rw [Try.params5] at hA hval
  obtain ⟨v0, vs0, d0, ds0, p0, q0, hargs, rfl, rfl, h0, r0⟩ := trodAll_cons hA
  obtain ⟨v1, vs1, d1, ds1, p1, q1, rfl, rfl, rfl, h1, r1⟩ := trodAll_cons r0
  obtain ⟨rfl, rfl, rfl⟩ := trodAll_nil r1
  obtain rfl : args = #[v0, v1] := by cases args; simp_all
  obtain ⟨rfl, rfl⟩ := trodVars_none hV
  have k0 := h0
  have lt0 : ∀ x ∈ p0, x.block < W.heap.size := by obtain ⟨m, hm⟩ := k0; exact DataW.trod_lt m _ _ _ hm
  obtain ⟨q0, n0, c0, a0, rfl, w0, y0, l0, m0⟩ := open_byteslice (hval 0 22 v0 rfl rfl) h0
  obtain ⟨a1, rfl, rfl, rfl, w1⟩ := open_int Try.underlying3 (hval 1 3 v1 rfl rfl) h1
  clear hA0 hval0
  refine (walk q0 n0 c0 a0 a1 w0 l0 m0 w1 W y0).mono fun e W' ⟨he, bel⟩ => ?_
  subst he
  exact ⟨_, rfl, _, _, _, [], _, [], hW', trodAll_mk1 (shut_bool Try.underlying4 _), (trodAll_cons_mk (Below.trod laidOut (by kernel_rfl) (of_decide_eq_true (by kernel_rfl)) k0 bel lt0) (trodAll_cons_mk (shut_int Try.underlying3 w1) trodAll_mk0)), rfl, bel.frame _, fun h => by cases h⟩

theorem over : Rows.digestWordsRow.holds Try.pinned (OpenSpec.ofChange Rows.digestWordsSpec) :=
  OpenClaim.holds_of_wide 5 Try.f5 rfl rfl rfl rfl rfl rfl rfl ⟨rfl, rfl, rfl, rfl, rfl⟩ rfl rfl rfl rfl rfl (by kernel_rfl) Try.func5 (by kernel_rfl)
    (of_decide_eq_true (by kernel_rfl)) (by unfold Func.isWrapper; first | (rw [if_pos (by decide +kernel)]; kernel_rfl) | (rw [if_neg (by decide +kernel)]; exact ⟨rfl, rfl⟩))
    (fun os started H enc _ => lifted os started H enc)

theorem proved : Rows.DigestWordsSaid := over
end Go.Proofs.Ytibbnnechjmdmaa.digestWords
