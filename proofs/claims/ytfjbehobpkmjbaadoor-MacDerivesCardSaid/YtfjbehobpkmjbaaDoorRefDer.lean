/- The contract of the document's Derive: a key from a key. Conditions: the key and the label have no more than 70000 bytes. -/
import Derived.Test.YtfjbehobpkmjbaaDoorRefBlk
import Derived.Test.YtfjbehobpkmjbaaDoorDerC
namespace Go.Proofs.YtfjbehobpkmjbaaDoor
open Go.ChangeShapes Go.WideShapes Go.ChangeAt Go.RowKit
set_option linter.unusedVariables false
attribute [local irreducible] numB digF pieK labB tagF blkF blkT cat2 derF derTo

/-- A number of bytes that is out of range: none. -/
theorem refDerive_no (p : Option Addr) (n cap : Nat) (s : ByteArray) (z : Int) (hz : z < 1 ∨ 1024 < z) (w : World) :
    Calls Tryd.prog 23 #[.slice p n cap, .string s, .int .i64 z] w fun e w' => e = .returned (.slice none 0 0) ∧ w = w' := by
  by_cases h : z < 1
  · clear hz
    go_enter Tryd.func23, Tryd.ntmps23
    go_wp2
    go_ret
    exact ⟨rfl, rfl⟩
  · have h2 : 1024 < z := by omega
    clear hz
    go_enter Tryd.func23, Tryd.ntmps23
    go_wp2
    go_ret
    exact ⟨rfl, rfl⟩

set_option maxRecDepth 100000 in
set_option maxHeartbeats 4000000 in
theorem refDerive_any (p : Option Addr) (n cap : Nat) (g : Nat → Nat) (s : ByteArray) (N : Nat) (hN : 1 ≤ N ∧ N ≤ 1024) (hn : n ≤ 70000) (hg : ∀ i, i < n → g i < 256) (hs : s.size ≤ 70000) (w : World) (hp : BytesAt w p n g) :
    Calls Tryd.prog 23 #[.slice p n cap, .string s, .int .i64 N] w fun e w' => (∃ B c, e = .returned (.slice B N c) ∧ N ≤ c ∧ BytesAt w' B N (derF (pieK n g) s) ∧ ∀ B0 o, B = some ⟨B0, o, none⟩ → w.heap.size ≤ B0) ∧ Below w.heap.size w w' := by
  have e1 : ¬ (N : Int) < 1 := by omega
  have e2 : ¬ 1024 < (N : Int) := by omega
  have hF := fun i k (hk : k < 32) => derF_at (pieK n g) s i k hk
  have RB := Lib.hid (fun i hi W hp => refBlock_any p n cap g s i hn hg hs hi W hp)
  have HP := Lib.hid hp
  clear hp
  generalize pieK n g = K at *
  have HF := Lib.hid hF
  clear hF
  go_enter Tryd.func23, Tryd.ntmps23
  go_wp2
  go_loopw [7, 8] (fun v7 v8 wr => ∃ k L : Nat, L ≤ N ∧ (L = 32 * k ∨ L = N) ∧ k ≤ L ∧ v8 = .int .i64 ((k : Int) + 1) ∧ OwnS 5 1 wr w.heap.size wr.heap.size v7 L (derF K s) ∧ Below w.heap.size w wr) (fun v7 _ _ => N - (match v7 with | .slice _ n _ => n | _ => 0))
  case atStart => exact ⟨0, 0, by omega, .inl rfl, by omega, rfl, OwnS.nil _ _ _ _ _ _, Below.refl _ _⟩
  case round =>
    obtain ⟨k, L, hL, hLk, hkL, rfl, hv, hb⟩ := hrel
    obtain ⟨q, c, rfl, hc, hc2, hq, hq2⟩ := hv.bytes (Nat.le_refl _)
    by_cases hlt : L < N
    · have e3 : (L : Int) < N := by omega
      have e4 : L = 32 * k := by omega
      have RB2 := Lib.hid (RB.out (k + 1) (by omega) wr (HP.out.below hb))
      have HV := Lib.hid hv; have HB := Lib.hid hb; have HQ := Lib.hid hq; have HQ2 := Lib.hid hq2
      have hki : ((k + 1 : Nat) : Int) = (k : Int) + 1 := by omega
      rw [show k + 1 - 1 = k from rfl, hki] at RB2
      have hG := fun j (hj : j < 32) => HF.out k j hj
      generalize blkF K s k = G at *
      have HG := Lib.hid hG
      clear hv hb hq hq2 hLk hG
      go_wp2_with (first
        | (go_at_call 21; refine RB2.out.mono ?_; rintro e w1 ⟨rfl, hb1⟩
           have HV1 := Lib.hid (HV.out.same (w' := w1) (fun B _ hB => hb1.block B hB))
           have HB1 := Lib.hid (HB.out.trans (hb1.mono HB.out.size))
           have HS1 := Lib.hid hb1.size
           clear hb1 RB2 HB)
        | (refine store_row_on rfl 30 _ _ rfl rfl w1.heap.size (cellsOf .u8 (mk 32 G)) rfl rfl 30 (cellsOf .u8 (mk 32 zeroK)) (IntBlk.new w1 .u8 _ (mk 32 zeroK)) (sumSize _) (by rw [cellsOf_size, cellsOf_size, mk_len, mk_len]) (cellsOf_one _ _) ?_))
      have U1 : IntBlk ((w1.alloc (.cells (cellsOf .u8 (mk 32 zeroK)) 30)).setRow w1.heap.size (cellsOf .u8 (mk 32 G))) w1.heap.size .u8 30 (mk 32 G) := (IntBlk.new w1 .u8 _ (mk 32 zeroK)).setRow .u8 _
      have U2 : Below w1.heap.size w1 ((w1.alloc (.cells (cellsOf .u8 (mk 32 zeroK)) 30)).setRow w1.heap.size (cellsOf .u8 (mk 32 G))) := below_setRow ((Below.refl _ _).alloc (Nat.le_refl _) _) (Nat.le_refl _) _
      have hwr := HS1.out
      change Code.wp _ _ _ _ ((w1.alloc (.cells (cellsOf .u8 (mk 32 zeroK)) 30)).setRow w1.heap.size (cellsOf .u8 (mk 32 G)))
      generalize ((w1.alloc (.cells (cellsOf .u8 (mk 32 zeroK)) 30)).setRow w1.heap.size (cellsOf .u8 (mk 32 G))) = U at *
      have U3 : OwnS 5 1 U w.heap.size U.heap.size (.slice q L c) L (derF K s) := (HV1.out.same (fun B _ hB => U2.block B (by omega))).raise (by have := U2.size; omega)
      have U4 : Below w.heap.size w U := HB1.out.trans (U2.mono HB1.out.size)
      have W1 := HB1.out.size
      have U5 : (Value.slice q L c).ownBlock ≠ some w1.heap.size := by
        intro h
        rcases q with _ | ⟨B0, o0, s0⟩
        · simp [Value.ownBlock] at h
        · simp only [Value.ownBlock, Option.some.injEq] at h
          rcases HV1.out with ⟨h1, _⟩ | ⟨B', c', cur, h1, h2, h3, _⟩
          · cases h1
          · simp only [Value.slice.injEq, Option.some.injEq, Addr.mk.injEq] at h1
            omega
      have HNE := Lib.hid U5
      clear U5
      have HU1 := Lib.hid U1; have HU3 := Lib.hid U3; have HU4 := Lib.hid U4
      clear U1 U2 U3 U4 HV1 HB1 HV
      go_loopw [7, 10] (fun v7 v10 wi => ∃ j : Nat, j ≤ 32 ∧ 32 * k + j ≤ N ∧ v10 = .int .i64 j ∧ OwnS 5 1 wi w.heap.size wi.heap.size v7 (32 * k + j) (derF K s) ∧ IntBlk wi w1.heap.size .u8 30 (mk 32 G) ∧ v7.ownBlock ≠ some w1.heap.size ∧ Below w.heap.size w wi) (fun _ v10 _ => 32 - (intOf v10).toNat)
      case atStart => exact ⟨0, by omega, by omega, rfl, by rw [Nat.add_zero, ← e4]; exact HU3.out, HU1.out, by first | exact HNE.out | (rw [← e4]; exact HNE.out), HU4.out⟩
      case round =>
        clear HU1 HU3 HU4
        obtain ⟨j, hj, hjN, rfl, hv, hz, hne, hb⟩ := hrel
        obtain ⟨q', c', rfl, hc', hc2', hq', hq2'⟩ := hv.bytes (Nat.le_refl _)
        have hjj : ∀ j, j < 32 → derF K s (32 * k + j) = G j := HG.out
        by_cases h32 : j < 32
        · have d1 : (j : Int) < 32 := by omega
          by_cases hlt2 : 32 * k + j < N
          · have d2 : ((32 * k + j : Nat) : Int) < N := by omega
            have hGj := (hjj j h32).symm
            have cs := hz.cell (i := j) (by rw [mk_len]; omega)
            rw [mk_get h32] at cs
            have HV := Lib.hid hv; have HZ := Lib.hid hz; have HB := Lib.hid hb; have HN := Lib.hid hne
            have hzl := hz.lt
            have HGj := Lib.hid hGj
            clear hv hz hb hq' hq2' hne hjj hGj
            generalize G j = gj at *
            obtain ⟨L', hL'⟩ : ∃ L', 32 * k + j = L' := ⟨_, rfl⟩
            rw [hL'] at HV HGj d2 hlt2 hjN hc' HN ⊢
            go_wp2_with (first
              | (refine wpList_append_own_row rfl (.tmp 37) (.tmp 41) rfl w.heap.size wr.heap.size L' (.slice q' L' c') (derF K s) (fun _ => gj) (some ⟨wr.heap.size, 0, none⟩) 1 1 rfl rfl ?own ?by1 ?fj ?lim ?sz ?_
                 case own => exact HV.out.same (fun B hB hB2 => Below.heap_alloc _ _ _ hB2)
                 case lim => omega
                 case sz => rw [World.size_alloc]; exact Nat.le_succ_of_le HB.out.size
                 case by1 =>
                   refine .inr ⟨wr.heap.size, 0, rfl, by simp, fun j hj => ?_⟩
                   obtain rfl : j = 0 := by omega
                   exact cell_of_one (heap_alloc_new wr (.cells #[.int .u8 (gj : Nat)] 5))
                 case fj =>
                   intro j0 hj0
                   obtain rfl : j0 = 0 := by omega
                   rw [Nat.add_zero]; exact HGj.out
                 intro v2 w2 hv2 hg2 hr2
                 have hn2 : v2.ownBlock ≠ some w1.heap.size := by
                   rcases hr2 with hr2 | hr2
                   · rw [hr2]; exact HN.out
                   · rw [hr2]; simp; omega
                 have hb2 : Below w.heap.size w w2 := by
                   have hb3 : Below w.heap.size wr (wr.alloc (.cells #[.int .u8 (gj : Nat)] 5)) := (Below.refl _ _).alloc HB.out.size _
                   refine HB.out.trans (hb3.trans (below_own hg2 (fun B hB => HV.out.block B hB) (by have := HB.out.size; simp; omega)))
                 have hz2 : IntBlk w2 w1.heap.size .u8 30 (mk 32 G) := (hg2.block w1.heap.size (by simp; omega) (fun h => HN.out h.symm)).trans (HZ.out.alloc _)
                 have HV2 := Lib.hid hv2; have HN2 := Lib.hid hn2; have HB2 := Lib.hid hb2; have HZ2 := Lib.hid hz2
                 clear hv2 hn2 hb2 hz2 hg2 hr2 HV HN HB HZ))
            exact ⟨⟨j + 1, by omega, by omega, by go_num, by rw [show 32 * k + (j + 1) = L' + 1 by omega]; exact HV2.out, HZ2.out, HN2.out, HB2.out⟩, by simp [intOf]; omega⟩
          · have e5 : 32 * k + j = N := by omega
            have d2 : ¬ ((32 * k + j : Nat) : Int) < N := by omega
            have HV := Lib.hid hv; have HB := Lib.hid hb
            clear hv hz hb hq' hq2' hne hjj
            go_wp2
            exact ⟨⟨k + 1, N, Nat.le_refl _, .inr rfl, by omega, by go_num, by rw [← e5]; exact HV.out, HB.out⟩, by simp only []; omega⟩
        · have e5 : j = 32 := by omega
          have d1 : ¬ (j : Int) < 32 := by omega
          have HV := Lib.hid hv; have HB := Lib.hid hb
          clear hv hz hb hq' hq2' hne hjj
          go_wp2
          refine ⟨⟨k + 1, 32 * k + j, hjN, .inl (by omega), by omega, by go_num, HV.out, HB.out⟩, by simp only []; omega⟩
    · have e3 : L = N := by omega
      have e4 : ¬ ((L : Int) < N) := by omega
      rw [e3] at hv hq hc
      have HV := Lib.hid hv; have HB := Lib.hid hb; have HQ := Lib.hid hq; have HQ2 := Lib.hid hq2
      clear hv hb hq hq2 hLk
      go_wp2
      go_ret
      exact ⟨⟨_, _, rfl, hc, HQ.out, fun B0 o h => (HQ2.out B0 o h).1⟩, HB.out⟩
end Go.Proofs.YtfjbehobpkmjbaaDoor
