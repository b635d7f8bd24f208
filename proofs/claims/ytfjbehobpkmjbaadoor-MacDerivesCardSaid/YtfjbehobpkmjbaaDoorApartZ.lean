/- The contract of citadelnum's Apart for two slices of no bytes. No condition. -/
import Derived.Test.YtfjbehobpkmjbaaDoorApartC
namespace Go.Proofs.YtfjbehobpkmjbaaDoor
open Go.ChangeShapes Go.WideShapes Go.ChangeAt Go.RowKit
set_option linter.unusedVariables false

def StZ (T LB N : Nat) (w : World) (V : World) : Prop :=
  V.heap[LB]? = some (.cells #[.slice none N N, .slice none N N] 22 (0, 0)) ∧ Below T w V ∧ V.heap.size = w.heap.size
theorem StZ.cell {T LB N : Nat} {w V : World} (h : StZ T LB N w V) {i : Nat} (hi : i < 2) : V.cell? ⟨LB, i, none⟩ = some (.slice none N N) := by
  have := h.1
  rcases (show i = 0 ∨ i = 1 by omega) with rfl | rfl <;> simp [World.cell?, this]
theorem owns_grow {N k j : Nat} {V wi : World} {u : Value} (hb : Below V.heap.size V wi) (hv : OwnS 5 1 wi V.heap.size wi.heap.size u (N + j) (patK k)) (hN : N ≤ 1024) (hj : j < 10) (pk : Nat) (hpk : patK k (N + j) = pk) (ty : TypeId) :
    ∃ v' w', (Builtin.append_ #[22, 22] ty #[u, .slice (some ⟨wi.heap.size, 0, none⟩) 1 1]).run Tryd.prog (wi.alloc (.cells #[.int .u8 (pk : Nat)] 5)) = .ok v' w' ∧ Below V.heap.size V w' ∧ OwnS 5 1 w' V.heap.size w'.heap.size v' (N + (j + 1)) (patK k) := by
  have hn := heap_alloc_new wi (.cells #[.int .u8 (pk : Nat)] 5)
  have hc := cell_of_one hn
  have b1 : Below V.heap.size V (wi.alloc (.cells #[.int .u8 (pk : Nat)] 5)) := hb.alloc hb.size _
  have hv2 := hv.same (w' := wi.alloc (.cells #[.int .u8 (pk : Nat)] 5)) (fun B _ hB => Below.heap_alloc _ _ _ hB)
  obtain ⟨v', w', hr, ho, hb⟩ := append_own_run (f := fun _ => pk) (wi.alloc (.cells #[.int .u8 (pk : Nat)] 5)) ty hv2 (some ⟨wi.heap.size, 0, none⟩) 1 1 (.inr ⟨wi.heap.size, 0, rfl, by simp, fun i hi => by
    obtain rfl : i = 0 := by omega
    exact hc⟩) (fun i hi => by
    obtain rfl : i = 0 := by omega
    rw [Nat.add_zero]; exact hpk.symm) (by omega) b1.size
  exact ⟨v', w', hr, b1.trans hb, ho⟩
attribute [local irreducible] patK hA

set_option maxRecDepth 100000 in
set_option maxHeartbeats 4000000 in
theorem Apart_none (T LB N : Nat) (hN0 : N = 0) (w : World) (hw : T ≤ w.heap.size)
    (hL : w.heap[LB]? = some (.cells #[.slice none N N, .slice none N N] 22 (0, 0))) :
    Calls Tryd.prog 24 #[.slice (some ⟨LB, 0, none⟩) 2 2] w fun e w' => e = .returned (.bool true) ∧ Below T w w' := by
  have A0 : StZ T LB N w w := ⟨hL, Below.refl _ _, rfl⟩
  have hN : N ≤ 1024 := by omega
  have HN0 := Lib.hid hN0
  have HA0 := Lib.hid A0
  clear A0 hL hN0
  go_enter Tryd.func24, Tryd.ntmps24
  go_wp2
  go_loopw [15] (fun v wr => ∃ k : Nat, k ≤ 2 ∧ v = .int .i64 k ∧ StZ T LB N w wr) (fun v _ => 2 - (intOf v).toNat)
  case atStart => exact ⟨0, by omega, rfl, HA0.out⟩
  case round =>
    clear HA0
    obtain ⟨k, hk, rfl, hs⟩ := hrel
    by_cases h2 : k < 2
    · have e1 : (k : Int) < 2 := by omega
      have lc := hs.cell h2
      have HS := Lib.hid hs
      clear hs
      go_wp2
      go_loopw [22] (fun v wi => ∃ j : Nat, j ≤ N ∧ v = .int .i64 j ∧ StZ T LB N w wi) (fun v _ => N - (intOf v).toNat)
      case atStart => exact ⟨0, by omega, rfl, HS.out⟩
      case round =>
        clear HS lc
        obtain ⟨j, hj, rfl, hs⟩ := hrel
        by_cases hjn : j < N
        · exact absurd hjn (by have := HN0.out; omega)
        · have e2 : j = N := by omega
          have e3 : ¬ (j : Int) < N := by omega
          have HS := Lib.hid hs
          clear hs
          go_wp2
          exact ⟨⟨k + 1, by omega, by go_num, HS.out⟩, by simp [intOf]; omega⟩
    · have e2 : k = 2 := by omega
      have e1 : ¬ (k : Int) < 2 := by omega
      have HS := Lib.hid hs
      clear hs
      clear hk
      generalize (k : Int) = kk at *
      go_wp2
      obtain ⟨wA, hwA⟩ : ∃ wA, wr = wA := ⟨_, rfl⟩
      obtain ⟨S, hS⟩ : ∃ S, wA.heap.size = S := ⟨_, rfl⟩
      have hwS : w.heap.size = S := by rw [← hS, ← hwA]; exact HS.out.2.2.symm
      have B0 : StB T LB N S (fun _ => 0) wA 0 (.slice (some ⟨wr.heap.size, 0, none⟩) 0 0) (wr.alloc (.cells #[] 22)) := by
        rw [hwA]
        refine ⟨(Below.refl _ _).alloc (by omega) _, fun _ => undef, ⟨rfl, .inr ⟨wA.heap.size, 0, #[], rfl, by omega, heap_alloc_new _ _, Nat.le_refl _, Nat.zero_le _, rfl, rfl⟩⟩, fun i hi => absurd hi (by omega)⟩
      have HB0 := Lib.hid B0
      clear B0
      rw [hwA] at HS
      rw [hwA] at HB0 ⊢
      have HSz := Lib.hid hS; have HwS := Lib.hid hwS
      clear hwA hS hwS
      go_loopw [6, 40] (fun v6 v40 wr => ∃ k : Nat, k ≤ 2 ∧ v40 = .int .i64 k ∧ StB T LB N S (fun _ => 0) wA k v6 wr) (fun _ v _ => 2 - (intOf v).toNat)
      case atStart => exact ⟨0, by omega, rfl, HB0.out⟩
      case round =>
        clear HB0
        obtain ⟨k, hk, rfl, hs⟩ := hrel
        by_cases h2 : k < 2
        · have e1 : (k : Int) < 2 := by omega
          have bA := hs.1
          have lc : wr.cell? ⟨LB, k, none⟩ = some (.slice none N N) := by
            have hlt : LB < S := by rw [← HSz.out]; exact lt_of_block HS.out.1
            rw [bA.cell (p := ⟨LB, k, none⟩) hlt]; exact HS.out.cell h2
          have HB := Lib.hid hs
          clear hs bA
          go_wp2
          clear lc
          generalize wr = Vk at *
          go_loopw [8] (fun v8 wi => ∃ j : Nat, j ≤ 10 ∧ Below Vk.heap.size Vk wi ∧ OwnS 5 1 wi Vk.heap.size wi.heap.size v8 (N + j) (patK k)) (fun v8 _ => N + 10 - lenV v8)
          case atStart => exact ⟨0, by omega, Below.refl _ _, .inl ⟨by rw [HN0.out], by rw [HN0.out]⟩⟩
          case round =>
            obtain ⟨j, hj, hbi, hor⟩ := hrel
            obtain ⟨q, c, hv8⟩ : ∃ q c, u8 = .slice q (N + j) c := by
              obtain ⟨q, c, rfl, _⟩ := hor.bytes (Nat.le_refl _)
              exact ⟨_, _, rfl⟩
            subst hv8
            have hq10 : IntKind.i64.wrap ((N : Int) + 10) = (N : Int) + 10 := IntWalk.i64_in _ (by omega)
            by_cases h10 : j < 10
            · have e2 : ((N + j : Nat) : Int) < (N : Int) + 10 := by omega
              obtain ⟨L, hLj⟩ : ∃ L, N + j = L := ⟨_, rfl⟩
              have q1 := patK_is k L (by omega) (by omega)
              have hpk := patK_lt k L
              have HBI := Lib.hid hbi; have HOR := Lib.hid hor
              rw [hLj] at HOR e2 ⊢
              clear hbi hor
              generalize hpp : patK k L = pk at *
              have hst : OwnS 5 1 wr Vk.heap.size wr.heap.size (.slice q L c) (N + j) (patK k) := by have := HOR.out; rw [← hLj] at this ⊢; exact this
              obtain ⟨v9, w9, hr9, hs8, hs9⟩ := owns_grow HBI.out hst (by omega) h10 pk (by rw [hLj]; exact hpp) 22
              obtain ⟨q9, c9, hv9⟩ : ∃ q9 c9, v9 = .slice q9 (L + 1) c9 := by
                obtain ⟨q, c, rfl, _⟩ := hs9.bytes (Nat.le_refl _)
                exact ⟨q, c, by rw [← hLj, Nat.add_assoc]⟩
              subst hv9
              have HR9 := Lib.hid hr9; have HS9 := Lib.hid hs9; have HS8 := Lib.hid hs8; have HLJ := Lib.hid hLj
              clear hr9 hs9 hs8 HBI HOR hst hpp hLj
              go_wp2_with (first
                | (refine Lib.wpList_append_run _ rfl _ _ _ _ rfl _ _ rfl rfl _ _ HR9.out ?_))
              refine ⟨⟨j + 1, by omega, HS8.out, HS9.out⟩, ?_⟩
              have := HLJ.out
              show N + 10 - (L + 1) < N + 10 - L
              omega
            · have e2 : ¬ ((N + j : Nat) : Int) < (N : Int) + 10 := by omega
              have e3 : j = 10 := by omega
              have hvk : OwnS 5 1 wr Vk.heap.size wr.heap.size (.slice q (N + j) c) (N + 10) (patK k) := by
                rw [e3] at hor ⊢; exact hor
              have HBI := Lib.hid hbi; have HVK := Lib.hid hvk
              obtain ⟨L, hLj⟩ : ∃ L, N + j = L := ⟨_, rfl⟩
              rw [hLj] at HVK e2 ⊢
              clear hbi hor hvk hLj
              obtain ⟨v9, w9, hr9, hs9⟩ := StB.append HB.out h2 HSz.out HBI.out HVK.out rfl 46
              have HR9 := Lib.hid hr9; have HS9 := Lib.hid hs9
              clear hr9 hs9 HBI HVK HB
              go_wp2_with (first
                | (refine Lib.wpList_append_run _ rfl _ _ _ _ rfl _ _ rfl rfl _ _ HR9.out ?_))
              exact ⟨⟨k + 1, by omega, by go_num, HS9.out⟩, by simp [intOf]; omega⟩
        · have e3 : k = 2 := by omega
          have e1 : ¬ (k : Int) < 2 := by omega
          rw [e3] at hs
          obtain ⟨hbA, G, hg, hG⟩ := hs
          obtain ⟨g0, c0, rfl, hgc⟩ : ∃ g0 c0, u6 = .slice (some ⟨g0, 0, none⟩) 2 c0 ∧ ∀ i, i < 2 → wr.cell? ⟨g0, i, none⟩ = some (G i) := by
            obtain ⟨_, ⟨_, h2⟩ | ⟨g, c, cur, e, _, hh, _, _, hcs, ht⟩⟩ := hg
            · simp at h2
            · refine ⟨g, c, e, fun i hi => ?_⟩
              rw [cell_of_row wr g i cur _ (0, 0) hh]
              have : (cur.toList.take (2 * 1))[i]? = ((List.range 2).map G)[i]? := by rw [ht]
              rw [List.getElem?_take_of_lt (by omega)] at this
              simpa [hi] using this
          obtain ⟨Bk, ck, hGk, hBk⟩ : ∃ Bk ck : Nat → Nat, (∀ i, i < 2 → G i = .slice (some ⟨Bk i, 0, none⟩) (N + 10) (ck i)) ∧ ∀ i, i < 2 → BytesAt wr (some ⟨Bk i, 0, none⟩) (N + 10) (patK i) := by
            have each : ∀ i, i < 2 → ∃ b c, G i = .slice (some ⟨b, 0, none⟩) (N + 10) c ∧ BytesAt wr (some ⟨b, 0, none⟩) (N + 10) (patK i) := fun i hi => by
              rcases hG i hi with ⟨_, h0⟩ | ⟨B, c, cur, e, h⟩
              · omega
              · obtain ⟨p, c', e2, _, _, hb, _⟩ := (hG i hi).bytes (Nat.le_refl _)
                rw [e] at e2
                simp only [Value.slice.injEq] at e2
                rw [← e2.1] at hb
                exact ⟨B, c, e, hb⟩
            obtain ⟨b0, x0, p0, r0⟩ := each 0 (by omega)
            obtain ⟨b1, x1, p1, r1⟩ := each 1 (by omega)
            refine ⟨fun i => if i = 0 then b0 else b1, fun i => if i = 0 then x0 else x1, fun i hi => ?_, fun i hi => ?_⟩
            · rcases (show i = 0 ∨ i = 1 by omega) with rfl | rfl
              · simpa using p0
              · simpa using p1
            · rcases (show i = 0 ∨ i = 1 by omega) with rfl | rfl
              · simpa using r0
              · simpa using r1
          have hL2 : ∀ i, i < 2 → wr.cell? ⟨LB, i, none⟩ = some (.slice none N N) := fun i hi => by
            have hlt : LB < S := by rw [← HSz.out]; exact lt_of_block HS.out.1
            rw [hbA.cell (p := ⟨LB, i, none⟩) hlt]; exact HS.out.cell hi
          have hTw : Below T w wr := HS.out.2.1.trans (hbA.mono (by rw [← HwS.out]; exact hw))
          have hTs : T ≤ wr.heap.size := Nat.le_trans hw hTw.size
          have HL2 := Lib.hid hL2; have HTW := Lib.hid hTw; have HBk := Lib.hid hBk
          have HGC : Hid (∀ i, i < 2 → wr.cell? ⟨g0, i, none⟩ = some (.slice (some ⟨Bk i, 0, none⟩) (N + 10) (ck i))) := Lib.hid (fun i hi => by rw [hgc i hi, hGk i hi])
          have HE3 := Lib.hid e3
          clear hL2 hTw hBk hgc hGk hG hg hbA HS HSz HwS e3
          generalize (k : Int) = kk2 at *
          go_wp2
          generalize wr = V at *
          go_loopw [70] (fun v wr => ∃ k : Nat, k ≤ 2 ∧ v = .int .i64 k ∧ Below V.heap.size V wr) (fun v _ => 2 - (intOf v).toNat)
          case atStart => exact ⟨0, by omega, rfl, Below.refl _ _⟩
          case round =>
            obtain ⟨k, hk, rfl, hb⟩ := hrel
            by_cases h2 : k < 2
            · have e1 : (k : Int) < 2 := by omega
              have lc : wr.cell? ⟨g0, k, none⟩ = some (.slice (some ⟨Bk k, 0, none⟩) (N + 10) (ck k)) := (hb.cell (p := ⟨g0, k, none⟩) (block_lt_of_cell (HGC.out k h2))).trans (HGC.out k h2)
              have HB := Lib.hid hb
              clear hb
              go_wp2
              go_loopw [77] (fun v wi => ∃ j : Nat, j ≤ N + 10 ∧ v = .int .i64 j ∧ Below V.heap.size V wi) (fun v _ => N + 10 - (intOf v).toNat)
              case atStart => exact ⟨0, by omega, rfl, HB.out⟩
              case round =>
                clear HB lc
                obtain ⟨j, hj, rfl, hb⟩ := hrel
                by_cases hjn : j < N + 10
                · have e4 : (j : Int) < (N : Int) + 10 := by omega
                  have e5 : (j : Int) < ((N + 10 : Nat) : Int) := by omega
                  have HB := Lib.hid hb
                  clear hb
                  have hq : IntKind.u8.wrap (29 * (k : Int) + 5 * (j : Int) + 3) = (patK k j : Nat) := by rw [IntKind.wrap_u8']; exact patK_is k j (by omega) (by omega)
                  have HQ := Lib.hid hq
                  clear hq
                  go_wp2
                  by_cases hjN : j < N
                  · exact absurd hjN (by have := HN0.out; omega)
                  · have hdN : decide ((j : Int) < (N : Int)) = false := by simp; omega
                    have c0 : Below wr.heap.size wr wr.drew := (Below.refl _ wr).drew
                    refine wp_region_sched [(0, true), (1, true), (2, true), (3, true), (4, true), (5, true), (6, true), (7, true), (8, true), (9, true), (10, true), (11, true), (12, true), (13, true), (14, true), (15, true), (16, true), (17, true), (18, true), (19, true), (20, true), (21, true), (22, true), (23, true), (24, true), (25, true), (26, true), (27, true), (28, true), (29, true), (30, true), (31, true), (32, true), (33, true), (34, true)] (fun W => Below wr.heap.size wr W) (by kernel_rfl) (by kernel_rfl) c0 ?_
                    refine walk_float rfl rfl (fun K' hK' => ?_)
                    refine gives_move _ rfl ?_
                    go_simp
                    refine hK' _ ?_
                    clear hK' K'
                    refine walk_float rfl rfl (fun K' hK' => ?_)
                    refine gives_move _ rfl ?_
                    go_simp
                    refine hK' _ ?_
                    clear hK' K'
                    refine walk_float rfl rfl (fun K' hK' => ?_)
                    refine gives_nth 22 5 _ _ rfl bytesUnder byteInfo (Bk k) (N + 10) (ck k) j rfl rfl hjn ?_
                    go_simp
                    refine hK' _ ?_
                    clear hK' K'
                    refine walk_float rfl rfl (fun K' hK' => ?_)
                    refine gives_lie 5 _ rfl ⟨Bk k, j, none⟩ (.int .u8 (patK k j : Nat)) rfl box_byte (fun W h => (h.cell (p := ⟨Bk k, j, none⟩) (by show Bk k < wr.heap.size; exact Nat.lt_of_lt_of_le (block_lt_of_cell ((HBk.out k h2).cell hjn)) HB.out.size)).trans ((HB.out.cell (p := ⟨Bk k, j, none⟩) (block_lt_of_cell ((HBk.out k h2).cell hjn))).trans ((HBk.out k h2).cell hjn))) ?_
                    go_simp
                    refine hK' _ ?_
                    clear hK' K'
                    refine walk_float rfl rfl (fun K' hK' => ?_)
                    refine gives_move _ rfl ?_
                    go_simp
                    refine hK' _ ?_
                    clear hK' K'
                    refine walk_float rfl rfl (fun K' hK' => ?_)
                    refine gives_times _ _ rfl 29 k (29 * (k : Int)) rfl rfl (IntWalk.i64_in _ (by omega)) ?_
                    go_simp
                    refine hK' _ ?_
                    clear hK' K'
                    refine walk_float rfl rfl (fun K' hK' => ?_)
                    refine gives_move _ rfl ?_
                    go_simp
                    refine hK' _ ?_
                    clear hK' K'
                    refine walk_float rfl rfl (fun K' hK' => ?_)
                    refine gives_times _ _ rfl 5 j (5 * (j : Int)) rfl rfl (IntWalk.i64_in _ (by omega)) ?_
                    go_simp
                    refine hK' _ ?_
                    clear hK' K'
                    refine walk_float rfl rfl (fun K' hK' => ?_)
                    refine gives_int_add _ _ rfl (29 * (k : Int)) (5 * (j : Int)) (29 * (k : Int) + 5 * (j : Int)) rfl rfl (IntWalk.i64_in _ (by omega)) ?_
                    go_simp
                    refine hK' _ ?_
                    clear hK' K'
                    refine walk_float rfl rfl (fun K' hK' => ?_)
                    refine gives_int_add _ _ rfl (29 * (k : Int) + 5 * (j : Int)) 3 (29 * (k : Int) + 5 * (j : Int) + 3) rfl rfl (IntWalk.i64_in _ (by omega)) ?_
                    go_simp
                    refine hK' _ ?_
                    clear hK' K'
                    refine walk_float rfl rfl (fun K' hK' => ?_)
                    refine gives_to_byte _ rfl (29 * (k : Int) + 5 * (j : Int) + 3) (patK k j : Nat) rfl HQ.out ?_
                    go_simp
                    refine hK' _ ?_
                    clear hK' K'
                    refine walk_float rfl rfl (fun K' hK' => ?_)
                    refine gives_u8_neq _ _ rfl (patK k j : Nat) (patK k j : Nat) false rfl rfl (by simp) ?_
                    go_simp
                    refine hK' _ ?_
                    clear hK' K'
                    refine walk_float rfl rfl (fun K' hK' => ?_)
                    refine gives_move _ rfl ?_
                    go_simp
                    refine hK' _ ?_
                    clear hK' K'
                    refine walk_float rfl rfl (fun K' hK' => ?_)
                    refine gives_move _ rfl ?_
                    go_simp
                    refine hK' _ ?_
                    clear hK' K'
                    refine walk_float rfl rfl (fun K' hK' => ?_)
                    refine gives_move _ rfl ?_
                    go_simp
                    refine hK' _ ?_
                    clear hK' K'
                    refine walk_float rfl rfl (fun K' hK' => ?_)
                    refine gives_move _ rfl ?_
                    go_simp
                    refine hK' _ ?_
                    clear hK' K'
                    refine walk_float rfl rfl (fun K' hK' => ?_)
                    refine gives_nth 46 22 _ _ rfl Tryd.underlying46 listInfo LB 2 2 k rfl rfl h2 ?_
                    go_simp
                    refine hK' _ ?_
                    clear hK' K'
                    refine walk_float rfl rfl (fun K' hK' => ?_)
                    refine gives_lie 22 _ rfl ⟨LB, k, none⟩ (.slice none N N) rfl box_bytes (fun W h => (h.cell (p := ⟨LB, k, none⟩) (by show LB < wr.heap.size; exact Nat.lt_of_lt_of_le (block_lt_of_cell (HL2.out k h2)) HB.out.size)).trans ((HB.out.cell (p := ⟨LB, k, none⟩) (block_lt_of_cell (HL2.out k h2))).trans (HL2.out k h2))) ?_
                    go_simp
                    refine hK' _ ?_
                    clear hK' K'
                    refine walk_float rfl rfl (fun K' hK' => ?_)
                    refine gives_len _ rfl none N N rfl ?_
                    go_simp
                    refine hK' _ ?_
                    clear hK' K'
                    refine walk_float rfl rfl (fun K' hK' => ?_)
                    refine gives_below _ _ rfl j N false rfl rfl hdN ?_
                    go_simp
                    refine hK' _ ?_
                    clear hK' K'
                    refine walk_float rfl rfl (fun K' hK' => ?_)
                    refine gives_move _ rfl ?_
                    go_simp
                    refine hK' _ ?_
                    clear hK' K'
                    refine walk_idle rfl rfl ?_
                    go_simp
                    refine walk_idle rfl rfl ?_
                    go_simp
                    refine walk_idle rfl rfl ?_
                    go_simp
                    refine walk_idle rfl rfl ?_
                    go_simp
                    refine walk_idle rfl rfl ?_
                    go_simp
                    refine walk_idle rfl rfl ?_
                    go_simp
                    refine walk_idle rfl rfl ?_
                    go_simp
                    refine walk_idle rfl rfl ?_
                    go_simp
                    refine walk_idle rfl rfl ?_
                    go_simp
                    refine walk_idle rfl rfl ?_
                    go_simp
                    refine walk_idle rfl rfl ?_
                    go_simp
                    refine walk_idle rfl rfl ?_
                    go_simp
                    refine walk_float rfl rfl (fun K' hK' => ?_)
                    refine gives_pick_no _ _ _ rfl rfl (.bool false) rfl ?_
                    go_simp
                    refine hK' _ ?_
                    clear hK' K'
                    refine walk_float rfl rfl (fun K' hK' => ?_)
                    refine gives_pick_no _ _ _ rfl rfl (.bool false) rfl ?_
                    go_simp
                    refine hK' _ ?_
                    clear hK' K'
                    refine walk_nil ?_
                    go_wp2
                    exact ⟨⟨j + 1, by omega, by go_num, HB.out.trans (c0.mono HB.out.size)⟩, by simp [intOf]; omega⟩
                · have e4 : ¬ (j : Int) < (N : Int) + 10 := by omega
                  have e5 : ¬ (j : Int) < ((N + 10 : Nat) : Int) := by omega
                  have HB := Lib.hid hb
                  clear hb
                  go_wp2
                  exact ⟨⟨k + 1, by omega, by go_num, HB.out⟩, by simp [intOf]; omega⟩
            · have e1 : ¬ (k : Int) < 2 := by omega
              have HB := Lib.hid hb
              clear hb
              go_wp2
              go_ret
              exact ⟨rfl, HTW.out.trans (HB.out.mono hTs)⟩
end Go.Proofs.YtfjbehobpkmjbaaDoor
