/- PlatterSure: what was flushed is there behind every crash; of the rest each sector is as it was, or as it was written: for all two lists of texts and all that is kept. No condition. -/
import Derived.Test.YtbejfpdkfpgipaaPlSureB
namespace Go.Proofs.Ytbejfpdkfpgipaa.platterSure
open Go.ChangeShapes Go.WideShapes Go.ChangeAt Go.RowKit Go.Maps
set_option linter.unusedVariables false
attribute [local go_sem] run_makeMap
attribute [local irreducible] Go.Proofs.Ytbejfpdkfpgipaa.mk
theorem own : ownKnob Try.prog.godebug = none := by kernel_rfl
set_option maxRecDepth 100000 in
set_option maxHeartbeats 4000000 in
theorem walk (q0 : Option Addr) (n0 c0 : Nat) (T0 : Nat → TextOf) (q1 : Option Addr) (n1 c1 : Nat) (T1 : Nat → TextOf) (q2 : Option Addr) (l2 : List Int) (c2 : Nat) (h0 : n0 ≤ 9223372036854775807) (h1 : n1 ≤ 9223372036854775807) (h2 : okInts l2) (w : World) (y0 : ListsAt w q0 n0 T0) (y1 : ListsAt w q1 n1 T1) (y2 : IntsAt w q2 l2) :
    Calls Try.prog 4 #[.slice q0 n0 c0, .slice q1 n1 c1, .slice q2 l2.length c2] w fun e w' => e = .returned (.bool true) ∧ Below w.heap.size w w' := by
  have AL := Lib.hid (alive_ok w)
  have H2 := Lib.hid h2
  have Y0 := Lib.hid y0
  have Y1 := Lib.hid y1
  have Y2 := Lib.hid y2
  obtain ⟨N, hN⟩ : ∃ N, max n0 n1 = N := ⟨_, rfl⟩
  have hNI : max (n0 : Int) (n1 : Int) = (N : Int) := by omega
  have HNI := Lib.hid hNI
  have HN := Lib.hid (show n0 ≤ N ∧ n1 ≤ N by omega)
  have HNM := Lib.hid (show N ≤ n0 ∨ N ≤ n1 by omega)
  clear h0 h1 h2 y0 y1 y2 hNI
  by_cases hz : N < 1
  · have d1 : decide ((N : Int) < 1) = true := by simp; omega
    have d1b : decide (N < 1) = true := by simp; omega
    have d1c : (N : Int) < 1 := by omega
    clear hN
    go_enter Try.func4, Try.ntmps4
    go_wp2_with (first
      | (refine wpList_max_ints rfl _ _ rfl n0 n1 rfl rfl ?_; rw [HNI.out])
      | (go_at_call 10; refine (AL.out).mono ?_; rintro e w1 ⟨rfl, hb1⟩))
    go_ret
    exact ⟨rfl, hb1⟩
  have HZ := Lib.hid (show 1 ≤ N by omega)
  have d1 : decide ((N : Int) < 1) = false := by simp; omega
  have d1b : decide (N < 1) = false := by simp; omega
  have d1c : ¬ (N : Int) < 1 := by omega
  by_cases hh : 100 < N
  · have d2 : decide ((100 : Int) < (N : Int)) = true := by simp; omega
    have d2b : decide (100 < N) = true := by simp; omega
    clear hN
    go_enter Try.func4, Try.ntmps4
    go_wp2_with (first
      | (refine wpList_max_ints rfl _ _ rfl n0 n1 rfl rfl ?_; rw [HNI.out])
      | (go_at_call 10; refine (AL.out).mono ?_; rintro e w1 ⟨rfl, hb1⟩))
    go_ret
    exact ⟨rfl, hb1⟩
  have HH := Lib.hid (show N ≤ 100 by omega)
  have d2 : decide ((100 : Int) < (N : Int)) = false := by simp; omega
  have d2b : decide (100 < N) = false := by simp; omega
  by_cases hk : 300 < l2.length
  · have d3 : decide ((300 : Int) < (l2.length : Int)) = true := by simp; omega
    have d3b : decide (300 < l2.length) = true := by simp; omega
    clear hN
    go_enter Try.func4, Try.ntmps4
    go_wp2_with (first
      | (refine wpList_max_ints rfl _ _ rfl n0 n1 rfl rfl ?_; rw [HNI.out])
      | (go_at_call 10; refine (AL.out).mono ?_; rintro e w1 ⟨rfl, hb1⟩))
    go_ret
    exact ⟨rfl, hb1⟩
  have HK := Lib.hid (show l2.length ≤ 300 by omega)
  have d3 : decide ((300 : Int) < (l2.length : Int)) = false := by simp; omega
  have d3b : decide (300 < l2.length) = false := by simp; omega
  have NC := Lib.hid (fun W => New_ok N 1 HZ.out (by have := HH.out; omega) (by omega) (by omega) W)
  clear hz hh hk hN
  go_enter Try.func4, Try.ntmps4
  go_wp2_with (first
    | (refine wpList_max_ints rfl _ _ rfl n0 n1 rfl rfl ?_; rw [HNI.out])
    | (go_at_call 10; refine (AL.out).mono ?_; rintro e w1 ⟨rfl, hb1⟩; have B1 := Lib.hid hb1; clear hb1 AL)
    | (go_at_call 12; refine (show Calls Try.prog 12 #[.int .i64 N, .int .i64 1] w1 _ from NC.out w1).mono ?_; rintro e w2 ⟨b, rfl, hd2, hb2, ho2⟩
       have D2 := Lib.hid (show SuI w b N 0 (opT T0 0) (fun _ => Go.Proofs.Ytbejfpdkfpgipaa.mk 128 zeroK) (newD N 1) w2 from ⟨hd2, rfl, Nat.le_refl _, rfl, rfl, rfl, opT_zero T0, fun _ _ => rfl, B1.out.trans (hb2.mono B1.out.size), fun k hk => Nat.le_trans B1.out.size (ho2 k hk)⟩)
       clear hd2 hb2 ho2 B1 NC))
  go_loopw [48] (fun v48 wr => ∃ k : Nat, k ≤ n0 ∧ v48 = .int .i64 k ∧ ∃ d, SuI w b N k (opT T0 k) (fun _ => Go.Proofs.Ytbejfpdkfpgipaa.mk 128 zeroK) d wr) (fun v48 _ => n0 - (intOf v48).toNat)
  case atStart => exact ⟨0, Nat.zero_le _, rfl, _, D2.out⟩
  case round =>
    obtain ⟨k, hk, rfl, d, hs⟩ := hrel
    have HS := Lib.hid hs
    clear hs D2
    by_cases hlt : k < n0
    · rcases Y0.out with he | ⟨B, o, rfl, hB, hc⟩
      · rw [he] at hlt; exact absurd hlt (Nat.not_lt_zero _)
      have cl := (HS.out.low.cell (p := ⟨B, o + k, none⟩) hB).trans (hc k hlt).1
      have HBY := Lib.hid ((hc k hlt).2.below (HS.out.low.mono (Nat.le_refl _)))
      have HLT := Lib.hid hlt
      have f1 : (k : Int) < (n0 : Int) := by omega
      have f2 : (0 : Int) ≤ k := by omega
      have f3 : IntKind.i64.wrap ((k : Int) + 1) = ((k + 1 : Nat) : Int) := by have := HH.out; have := HN.out; rw [IntWalk.i64_in _ (by omega)]; omega
      have HKN := Lib.hid (show k < N ∧ k ≤ 1000 by have := HH.out; have := HN.out; omega)
      have HST := Lib.hid (opT_step T0 k)
      clear hc hB hlt
      generalize T0 k = X at *
      go_wp2_with (first
        | (go_at_call 16; refine (Cell_any X.p X.n X.c X.g wr HBY.out).mono ?_; rintro e w3 ⟨rfl, hb3⟩
           have HS3 := Lib.hid (HS.out.below hb3)
           clear hb3)
        | (go_at_call 15
           refine (Write_on HS3.out.at' k (by unfold hasB; rw [HS3.out.ns]; have := HKN.out; simp; omega) HS3.out.gone (by have := HS3.out.made; have := HKN.out; omega) (by rw [HS3.out.left]; omega) (cellF X.n X.g)).mono ?_; rintro e w4 ⟨rfl, hd4, hk4⟩
           have HS4 := Lib.hid ((HS3.out.wrote k _ hd4 hk4).ext (Nat.le_refl _) HST.out (fun _ _ => rfl))
           clear hd4 hk4 HS3))
      go_roundw
      case rel => exact ⟨k + 1, HLT.out, by go_num, _, HS4.out⟩
      case measure => have := HLT.out; simp [intOf]; omega
    · have f1 : ¬ (k : Int) < (n0 : Int) := by omega
      obtain rfl : n0 = k := by omega
      clear hlt hk
      go_wp2_with (first
        | (go_at_call 18
           refine (show Calls Try.prog 18 #[.pointer (some ⟨b.B, 0, none⟩), .int .i64 0, .int .i64 N] wr _ from Flush_on HS.out.at' 0 N (by rw [HS.out.ns]; omega) HS.out.gone (by have := HS.out.made; have := HN.out; have := HH.out; omega) (by rw [HS.out.left]; omega)).mono ?_; rintro e w5 ⟨rfl, hd5, hk5⟩
           have S5 := Lib.hid (HS.out.flushed (fun x hx => by have := opT_some hx; have := HN.out; omega) hd5 hk5)
           clear hd5 hk5 HS))
      have C5 := Lib.hid (cnt_new w5)
      have B5 := Lib.hid ((Below.refl w5.heap.size w5).alloc (Nat.le_refl _) (.map #[] 0))
      generalize w5.alloc (.map #[] 0) = u5 at *
      go_loopw [67] (fun v67 wr => ∃ k : Nat, k ≤ l2.length ∧ v67 = .int .i64 k ∧ CntAt wr w5.heap.size k (fun x => x ∈ l2.take k) ∧ Below w5.heap.size w5 wr) (fun v67 _ => l2.length - (intOf v67).toNat)
      case atStart => exact ⟨0, Nat.zero_le _, rfl, by obtain ⟨D, e1, e2⟩ := C5.out; exact ⟨D, e1, ⟨fun x => by obtain ⟨c, a1, a2, a3⟩ := e2.has x; exact ⟨c, a1, a2, a3.trans (by simp)⟩⟩⟩, B5.out⟩
      case round =>
        obtain ⟨k, hk, rfl, hcn, hb⟩ := hrel
        have HCN := Lib.hid hcn
        have HB := Lib.hid hb
        clear hcn hb C5 B5
        by_cases hlt : k < l2.length
        · rcases Y2.out with he | ⟨B, o, rfl, hB, hc⟩
          · rw [he] at hlt; exact absurd hlt (Nat.not_lt_zero _)
          have cl := ((S5.out.low.trans (HB.out.mono S5.out.low.size)).cell (p := ⟨B, o + k, none⟩) hB).trans (hc k hlt)
          have bx := H2.out.1 k hlt
          have HLT := Lib.hid hlt
          have f1 : (k : Int) < (l2.length : Int) := by omega
          have f2 : (0 : Int) ≤ k := by omega
          have f3 : IntKind.i64.wrap ((k : Int) + 1) = ((k + 1 : Nat) : Int) := by have := HK.out; rw [IntWalk.i64_in _ (by omega)]; omega
          have HTS := Lib.hid (show l2.take (k + 1) = l2.take k ++ [l2.getD k 0] from take_step l2 hlt)
          obtain ⟨D, hown, hcnt⟩ := HCN.out
          generalize l2.getD k 0 = x at *
          obtain ⟨c, hck, hcat, -⟩ := hcnt.has x
          have g5 : IntKind.i64.wrap ((c : Int) + 1) = ((c + 1 : Nat) : Int) := by have := HK.out; rw [IntWalk.i64_in _ (by omega)]; omega
          have HOW := Lib.hid hown; have HCT := Lib.hid hcnt; have HCA := Lib.hid hcat
          have HKY := Lib.hid (key_i64 x bx.1 bx.2)
          have HKM := Lib.hid (show k < maxLen by have := HK.out; unfold maxLen; omega)
          have HVL := Lib.hid (plainElem_int (H := Value) Try.underlying3 (wf_i64 ((c + 1 : Nat) : Int) (by omega) (by have := HK.out; omega)))
          clear hc hB hlt hown hcnt hcat hck bx
          go_wp2_with (first
            | (refine wpList_lookup_own_int _ rfl _ _ 70 rfl 3 3 .i64 intKey Try.underlying70 Try.underlying3 (by kernel_rfl) w5.heap.size k D rfl HOW.out _ (.int .i64 x) rfl HKY.out ?_
               intro c' hat _
               have hcc : c' = (c : Int) := (lit_inj2 (HCA.out.symm.trans hat)).symm
               subst hcc
               clear hat)
            | (refine wpList_mapUpdate_in _ rfl _ _ _ 70 rfl 3 3 intKey Try.underlying70 (plainElem Try.prog 3) w5.heap.size k D rfl HOW.out HKM.out _ _ (.int .i64 x) rfl rfl HKY.out _ [] HVL.out ?_
               intro w6 hown6 ht6
               have C6 := Lib.hid (show CntAt w6 w5.heap.size (k + 1) (fun y => y ∈ l2.take (k + 1)) from ⟨_, hown6, HCT.out.put HOW.out.isMap x HCA.out _ (by rw [HTS.out]; simp) (fun y hy => by rw [HTS.out]; simp [hy])⟩)
               have B6 := Lib.hid (HB.out.trans (below_own ht6.grown (fun g hg => by cases hg; exact Nat.le_refl _) HB.out.size))
               clear hown6 ht6 HOW HCT HCN HB))
          go_roundw
          case rel => exact ⟨k + 1, HLT.out, by go_num, C6.out, B6.out⟩
          case measure => have := HLT.out; simp [intOf]; omega
        · have f1 : ¬ (k : Int) < (l2.length : Int) := by omega
          obtain rfl : k = l2.length := by omega
          have C7 := Lib.hid (show CntAt wr w5.heap.size l2.length (fun x => x ∈ l2) from by
            have := HCN.out; rwa [List.take_of_length_le (Nat.le_refl _)] at this)
          have S7 := Lib.hid ((S5.out.below HB.out).ext (m' := n0 + 1) (Nat.le_refl _) (opT_zero T1) (fun _ _ => rfl))
          have L7 := Lib.hid (show w5.heap.size < wr.heap.size from C7.out.lt)
          have M7 := Lib.hid (show ¬ b.own w5.heap.size from fun e => absurd (S5.out.at'.lt e) (Nat.lt_irrefl _))
          clear HCN HB S5 hlt hk
          generalize w5.heap.size = mb at *
          go_wp2
          go_loopw [78] (fun v78 wr => ∃ k : Nat, k ≤ n1 ∧ v78 = .int .i64 k ∧ CntAt wr mb l2.length (fun x => x ∈ l2) ∧ ∃ d, SuI w b N (n0 + 1 + k) (opT T1 k) (fun i => (opT T0 n0 i).getD (Go.Proofs.Ytbejfpdkfpgipaa.mk 128 zeroK)) d wr) (fun v78 _ => n1 - (intOf v78).toNat)
          case atStart => exact ⟨0, Nat.zero_le _, rfl, C7.out, _, S7.out⟩
          case round =>
            obtain ⟨k, hk, rfl, hcn, d7, hs⟩ := hrel
            have HS := Lib.hid hs
            have HCN := Lib.hid hcn
            clear hs hcn C7 S7 L7
            by_cases hlt : k < n1
            · rcases Y1.out with he | ⟨B, o, rfl, hB, hc⟩
              · rw [he] at hlt; exact absurd hlt (Nat.not_lt_zero _)
              have cl := (HS.out.low.cell (p := ⟨B, o + k, none⟩) hB).trans (hc k hlt).1
              have HBY := Lib.hid ((hc k hlt).2.below (HS.out.low.mono (Nat.le_refl _)))
              have HLT := Lib.hid hlt
              have f1 : (k : Int) < (n1 : Int) := by omega
              have f2 : (0 : Int) ≤ k := by omega
              have f3 : IntKind.i64.wrap ((k : Int) + 1) = ((k + 1 : Nat) : Int) := by have := HH.out; have := HN.out; rw [IntWalk.i64_in _ (by omega)]; omega
              have HKN := Lib.hid (show k < N ∧ n0 + 1 + k ≤ 1000 by have := HH.out; have := HN.out; omega)
              have HST := Lib.hid (opT_step T1 k)
              clear hc hB hlt
              generalize T1 k = X at *
              go_wp2_with (first
                | (go_at_call 16; refine (Cell_any X.p X.n X.c X.g wr HBY.out).mono ?_; rintro e w3 ⟨rfl, hb3⟩
                   have HS3 := Lib.hid (HS.out.below hb3)
                   have HC3 := Lib.hid (HCN.out.keep (hb3.block mb HCN.out.lt))
                   clear hb3)
                | (go_at_call 15
                   refine (Write_on HS3.out.at' k (by unfold hasB; rw [HS3.out.ns]; have := HKN.out; simp; omega) HS3.out.gone (by have := HS3.out.made; have := HKN.out; omega) (by rw [HS3.out.left]; omega) (cellF X.n X.g)).mono ?_; rintro e w4 ⟨rfl, hd4, hk4⟩
                   have HS4 := Lib.hid ((HS3.out.wrote k _ hd4 hk4).ext (m' := n0 + 1 + (k + 1)) (by omega) HST.out (fun _ _ => rfl))
                   have HC4 := Lib.hid (HC3.out.keep (hk4.block mb HC3.out.lt M7.out))
                   clear hd4 hk4 HS3 HC3))
              go_roundw
              case rel => exact ⟨k + 1, HLT.out, by go_num, HC4.out, _, HS4.out⟩
              case measure => have := HLT.out; simp [intOf]; omega
            · have f1 : ¬ (k : Int) < (n1 : Int) := by omega
              obtain rfl : n1 = k := by omega
              clear hlt hk
              go_wp2_with (first
                | (go_at_call 29; refine (Crash_ok HS.out.at' q2 l2 c2 (Y2.out.below (HS.out.low.mono (Nat.le_refl _))) H2.out.2).mono ?_; rintro e w8 ⟨rfl, hd8, hk8⟩
                   have S8 := Lib.hid (HS.out.crashed l2 hd8 hk8)
                   have C8 := Lib.hid (HCN.out.keep (hk8.block mb HCN.out.lt M7.out))
                   clear hd8 hk8 HS HCN))
              have SD := Lib.hid S8.out
              clear S8
              obtain ⟨d8, hd8⟩ : ∃ d8, d7.crashed l2 = d8 := ⟨_, rfl⟩
              have S9 := Lib.hid (show SuI w b N (n0 + 1 + n1) (fun _ => none) (suT T0 T1 n0 n1 l2) d8 w8 from hd8 ▸ SD.out)
              clear SD hd8
              go_loopw [94] (fun v94 wr => ∃ k : Nat, k ≤ N ∧ v94 = .int .i64 k ∧ CntAt wr mb l2.length (fun x => x ∈ l2) ∧ SuI w b N (n0 + 1 + n1) (fun _ => none) (suT T0 T1 n0 n1 l2) d8 wr) (fun v94 _ => N - (intOf v94).toNat)
              case atStart => exact ⟨0, Nat.zero_le _, rfl, C8.out, S9.out⟩
              case round =>
                obtain ⟨k, hk, rfl, hcn, hs⟩ := hrel
                have HS := Lib.hid hs
                have HCN := Lib.hid hcn
                clear hs hcn C8 S9
                by_cases hlt : k < N
                · have HLT := Lib.hid hlt
                  have f1 : (k : Int) < (N : Int) := by omega
                  have f2 : (0 : Int) ≤ k := by omega
                  have f3 : IntKind.i64.wrap ((k : Int) + 1) = ((k + 1 : Nat) : Int) := by have := HH.out; rw [IntWalk.i64_in _ (by omega)]; omega
                  have HL0 := Lib.hid (show k < n0 → ∃ B o, q0 = some ⟨B, o, none⟩ ∧ ∀ W, Below w.heap.size w W → W.cell? ⟨B, o + k, none⟩ = some (.slice (T0 k).p (T0 k).n (T0 k).c) ∧ BytesAt W (T0 k).p (T0 k).n (T0 k).g from fun h => by
                    rcases Y0.out with he | ⟨B, o, hq, hB, hc⟩
                    · omega
                    · exact ⟨B, o, hq, fun W hW => ⟨(hW.cell (p := ⟨B, o + k, none⟩) hB).trans (hc k h).1, (hc k h).2.below hW⟩⟩)
                  have HL1 := Lib.hid (show k < n1 → ∃ B o, q1 = some ⟨B, o, none⟩ ∧ ∀ W, Below w.heap.size w W → W.cell? ⟨B, o + k, none⟩ = some (.slice (T1 k).p (T1 k).n (T1 k).c) ∧ BytesAt W (T1 k).p (T1 k).n (T1 k).g from fun h => by
                    rcases Y1.out with he | ⟨B, o, hq, hB, hc⟩
                    · omega
                    · exact ⟨B, o, hq, fun W hW => ⟨(hW.cell (p := ⟨B, o + k, none⟩) hB).trans (hc k h).1, (hc k h).2.below hW⟩⟩)
                  have HKY := Lib.hid (key_i64 (k : Int) (by omega) (by have := HH.out; omega))
                  obtain ⟨D0, hown0, hcnt0⟩ := HCN.out
                  obtain ⟨c, hck, hcat, hc0⟩ := hcnt0.has k
                  have HCA := Lib.hid (show ∀ W : World, W.heap[mb]? = wr.heap[mb]? → W.ownsMap Try.prog 3 (plainElem Try.prog 3) mb l2.length D0 from fun W hW => ownsMap_keep hown0 hW)
                  have HCT := Lib.hid hcat
                  have HC0 := Lib.hid hc0
                  have HWN := Lib.hid (WnI.start HS.out HCN.out zeroK)
                  clear hown0 hcnt0 hck hcat hc0 hk hlt
                  by_cases q0 : k < n0
                  · by_cases q1 : k < n1
                    · by_cases q2 : 0 < c
                      · have p1 : decide ((k : Int) < (n0 : Int)) = true := by simp; omega
                        have p1b : decide (k < n0) = true := by simp; omega
                        have p1c : ((k : Int) < (n0 : Int)) := by omega
                        have p2 : decide ((k : Int) < (n1 : Int)) = true := by simp; omega
                        have p2b : decide (k < n1) = true := by simp; omega
                        have p2c : ((k : Int) < (n1 : Int)) := by omega
                        have p3 : decide ((0 : Int) < (c : Int)) = true := by simp; omega
                        have p3b : (0 < c) := by omega
                        obtain ⟨B0, o0, rfl, hl0⟩ := HL0.out (by omega)
                        have hl0 := Lib.hid hl0
                        obtain ⟨B1, o1, rfl, hl1⟩ := HL1.out (by omega)
                        have hl1 := Lib.hid hl1
                        have HNOW := Lib.hid (show suT T0 T1 n0 n1 l2 k = Go.Proofs.Ytbejfpdkfpgipaa.mk 128 (cellF (T1 k).n (T1 k).g) from suT_second T0 T1 (by omega) (HC0.out.1 (by omega)))
                        go_wp2_with (first
                          | (refine wpList_sec_build0 rfl rfl ?_)
                          | (refine wpList_sec_alloc rfl rfl wr.heap.size rfl ?_)
                          | (refine store_row_on rfl 40 _ _ rfl rfl wr.heap.size (cellsOf .u8 (Go.Proofs.Ytbejfpdkfpgipaa.mk 128 zeroK)) rfl rfl 40 (cellsOf .u8 (Go.Proofs.Ytbejfpdkfpgipaa.mk 128 zeroK)) (heap_alloc_new _ _) (secSize _) (sec_same _ _) (cellsOf_one _ _) ?_
                             have W9 := Lib.hid (show WnI _ _ _ _ _ _ _ _ _ _ _ _ _ ∧ _ from ⟨HWN.out, (sec_laid wr zeroK).2.block mb HCN.out.lt⟩)
                             generalize (wr.alloc (.cells (cellsOf .u8 (Go.Proofs.Ytbejfpdkfpgipaa.mk 128 zeroK)) 40)).setRow wr.heap.size (cellsOf .u8 (Go.Proofs.Ytbejfpdkfpgipaa.mk 128 zeroK)) = w9 at *
                             have cl0 := (hl0.out w9 W9.out.1.s.low).1
                             clear HWN)
                          | (go_at_call 16; refine (Cell_any (T0 k).p (T0 k).n (T0 k).c (T0 k).g w9 (hl0.out w9 W9.out.1.s.low).2).mono ?_; rintro e w10 ⟨rfl, hb10⟩
                             have W10 := Lib.hid (show WnI _ _ _ _ _ _ _ _ _ _ _ _ _ ∧ _ from ⟨W9.out.1.below hb10, (hb10.block mb W9.out.1.c.lt).trans W9.out.2⟩)
                             clear hb10 W9 cl0)
                          | (refine store_row_on rfl 40 _ _ rfl rfl wr.heap.size (cellsOf .u8 (Go.Proofs.Ytbejfpdkfpgipaa.mk 128 (cellF (T0 k).n (T0 k).g))) rfl rfl 40 (cellsOf .u8 (Go.Proofs.Ytbejfpdkfpgipaa.mk 128 zeroK)) W10.out.1.k (secSize _) (sec_same _ _) (cellsOf_one _ _) ?_
                             have W11 := Lib.hid (show WnI _ _ _ _ _ _ _ _ _ _ _ _ _ ∧ _ from ⟨W10.out.1.put (cellF (T0 k).n (T0 k).g), (setRow_other w10 wr.heap.size mb (cellsOf .u8 (Go.Proofs.Ytbejfpdkfpgipaa.mk 128 (cellF (T0 k).n (T0 k).g))) W10.out.1.nmb).trans W10.out.2⟩)
                             generalize w10.setRow wr.heap.size (cellsOf .u8 (Go.Proofs.Ytbejfpdkfpgipaa.mk 128 (cellF (T0 k).n (T0 k).g))) = w11 at *
                             have cl1 := (hl1.out w11 W11.out.1.s.low).1
                             clear W10)
                          | (refine wpList_look_wanted rfl _ _ rfl mb l2.length D0 rfl (HCA.out _ W11.out.2) k rfl HKY.out c HCT.out ?_)
                          | (go_at_call 16; refine (Cell_any (T1 k).p (T1 k).n (T1 k).c (T1 k).g w11 (hl1.out w11 W11.out.1.s.low).2).mono ?_; rintro e w12 ⟨rfl, hb12⟩
                             have W12 := Lib.hid (W11.out.1.below hb12)
                             clear hb12 cl1 W11)
                          | (refine store_row_on rfl 40 _ _ rfl rfl wr.heap.size (cellsOf .u8 (Go.Proofs.Ytbejfpdkfpgipaa.mk 128 (cellF (T1 k).n (T1 k).g))) rfl rfl 40 (cellsOf .u8 (Go.Proofs.Ytbejfpdkfpgipaa.mk 128 (cellF (T0 k).n (T0 k).g))) W12.out.k (secSize _) (sec_same _ _) (cellsOf_one _ _) ?_
                             have W13 := Lib.hid (W12.out.put (cellF (T1 k).n (T1 k).g))
                             generalize w12.setRow wr.heap.size (cellsOf .u8 (Go.Proofs.Ytbejfpdkfpgipaa.mk 128 (cellF (T1 k).n (T1 k).g))) = w13 at *
                             clear W12)
                          | (go_at_call 32; refine (Read_ok W13.out.s.at' k (by rw [W13.out.s.ns]; exact HLT.out) W13.out.s.down).mono ?_; rintro e w14 ⟨rfl, hb14⟩
                             rw [show d8.now k = Go.Proofs.Ytbejfpdkfpgipaa.mk 128 (cellF (T1 k).n (T1 k).g) from (show (d8.opn k).getD (d8.sure k) = _ by rw [W13.out.s.opn, W13.out.s.sure k HLT.out]; exact HNOW.out)]
                             have W14 := Lib.hid (W13.out.below hb14)
                             clear hb14 W13)
                          | (refine wpList_sec_alloc rfl rfl w14.heap.size rfl ?_)
                          | (refine store_row_on rfl 40 _ _ rfl rfl w14.heap.size (cellsOf .u8 (Go.Proofs.Ytbejfpdkfpgipaa.mk 128 (cellF (T1 k).n (T1 k).g))) rfl rfl 40 (cellsOf .u8 (Go.Proofs.Ytbejfpdkfpgipaa.mk 128 zeroK)) (heap_alloc_new _ _) (secSize _) (sec_same _ _) (cellsOf_one _ _) ?_
                             have W15 := Lib.hid (show WnI _ _ _ _ _ _ _ _ _ _ _ _ _ ∧ IntBlk _ _ _ _ _ from ⟨W14.out.below (sec_laid w14 (cellF (T1 k).n (T1 k).g)).2, (sec_laid w14 (cellF (T1 k).n (T1 k).g)).1⟩)
                             generalize (w14.alloc (.cells (cellsOf .u8 (Go.Proofs.Ytbejfpdkfpgipaa.mk 128 zeroK)) 40)).setRow w14.heap.size (cellsOf .u8 (Go.Proofs.Ytbejfpdkfpgipaa.mk 128 (cellF (T1 k).n (T1 k).g))) = w15 at *
                             clear W14)
                          | (refine wpList_sec_load rfl _ rfl w14.heap.size (cellF (T1 k).n (T1 k).g) rfl W15.out.2 ?_)
                          | (refine wpList_sec_load rfl _ rfl wr.heap.size (cellF (T1 k).n (T1 k).g) rfl W15.out.1.k ?_)
                          | (refine wpList_sec_neq rfl _ _ rfl (cellF (T1 k).n (T1 k).g) (cellF (T1 k).n (T1 k).g) rfl rfl rfl ?_))
                        go_roundw
                        case rel => exact ⟨k + 1, HLT.out, by go_num, W15.out.1.c, W15.out.1.s⟩
                        case measure => have := HLT.out; simp [intOf]; omega
                      · have p1 : decide ((k : Int) < (n0 : Int)) = true := by simp; omega
                        have p1b : decide (k < n0) = true := by simp; omega
                        have p1c : ((k : Int) < (n0 : Int)) := by omega
                        have p2 : decide ((k : Int) < (n1 : Int)) = true := by simp; omega
                        have p2b : decide (k < n1) = true := by simp; omega
                        have p2c : ((k : Int) < (n1 : Int)) := by omega
                        have p3 : decide ((0 : Int) < (c : Int)) = false := by simp; omega
                        have p3b : ¬ (0 < c) := by omega
                        obtain ⟨B0, o0, rfl, hl0⟩ := HL0.out (by omega)
                        have hl0 := Lib.hid hl0
                        have HNOW := Lib.hid (show suT T0 T1 n0 n1 l2 k = Go.Proofs.Ytbejfpdkfpgipaa.mk 128 (cellF (T0 k).n (T0 k).g) from (suT_first T0 T1 (fun h => absurd (HC0.out.2 h.2) (by omega))).trans (by rw [opT_in T0 (by omega)]; rfl))
                        go_wp2_with (first
                          | (refine wpList_sec_build0 rfl rfl ?_)
                          | (refine wpList_sec_alloc rfl rfl wr.heap.size rfl ?_)
                          | (refine store_row_on rfl 40 _ _ rfl rfl wr.heap.size (cellsOf .u8 (Go.Proofs.Ytbejfpdkfpgipaa.mk 128 zeroK)) rfl rfl 40 (cellsOf .u8 (Go.Proofs.Ytbejfpdkfpgipaa.mk 128 zeroK)) (heap_alloc_new _ _) (secSize _) (sec_same _ _) (cellsOf_one _ _) ?_
                             have W9 := Lib.hid (show WnI _ _ _ _ _ _ _ _ _ _ _ _ _ ∧ _ from ⟨HWN.out, (sec_laid wr zeroK).2.block mb HCN.out.lt⟩)
                             generalize (wr.alloc (.cells (cellsOf .u8 (Go.Proofs.Ytbejfpdkfpgipaa.mk 128 zeroK)) 40)).setRow wr.heap.size (cellsOf .u8 (Go.Proofs.Ytbejfpdkfpgipaa.mk 128 zeroK)) = w9 at *
                             have cl0 := (hl0.out w9 W9.out.1.s.low).1
                             clear HWN)
                          | (go_at_call 16; refine (Cell_any (T0 k).p (T0 k).n (T0 k).c (T0 k).g w9 (hl0.out w9 W9.out.1.s.low).2).mono ?_; rintro e w10 ⟨rfl, hb10⟩
                             have W10 := Lib.hid (show WnI _ _ _ _ _ _ _ _ _ _ _ _ _ ∧ _ from ⟨W9.out.1.below hb10, (hb10.block mb W9.out.1.c.lt).trans W9.out.2⟩)
                             clear hb10 W9 cl0)
                          | (refine store_row_on rfl 40 _ _ rfl rfl wr.heap.size (cellsOf .u8 (Go.Proofs.Ytbejfpdkfpgipaa.mk 128 (cellF (T0 k).n (T0 k).g))) rfl rfl 40 (cellsOf .u8 (Go.Proofs.Ytbejfpdkfpgipaa.mk 128 zeroK)) W10.out.1.k (secSize _) (sec_same _ _) (cellsOf_one _ _) ?_
                             have W11 := Lib.hid (show WnI _ _ _ _ _ _ _ _ _ _ _ _ _ ∧ _ from ⟨W10.out.1.put (cellF (T0 k).n (T0 k).g), (setRow_other w10 wr.heap.size mb (cellsOf .u8 (Go.Proofs.Ytbejfpdkfpgipaa.mk 128 (cellF (T0 k).n (T0 k).g))) W10.out.1.nmb).trans W10.out.2⟩)
                             generalize w10.setRow wr.heap.size (cellsOf .u8 (Go.Proofs.Ytbejfpdkfpgipaa.mk 128 (cellF (T0 k).n (T0 k).g))) = w11 at *
                             clear W10)
                          | (refine wpList_look_wanted rfl _ _ rfl mb l2.length D0 rfl (HCA.out _ W11.out.2) k rfl HKY.out c HCT.out ?_)
                          | (go_at_call 32; refine (Read_ok W11.out.1.s.at' k (by rw [W11.out.1.s.ns]; exact HLT.out) W11.out.1.s.down).mono ?_; rintro e w14 ⟨rfl, hb14⟩
                             rw [show d8.now k = Go.Proofs.Ytbejfpdkfpgipaa.mk 128 (cellF (T0 k).n (T0 k).g) from (show (d8.opn k).getD (d8.sure k) = _ by rw [W11.out.1.s.opn, W11.out.1.s.sure k HLT.out]; exact HNOW.out)]
                             have W14 := Lib.hid (W11.out.1.below hb14)
                             clear hb14 W11)
                          | (refine wpList_sec_alloc rfl rfl w14.heap.size rfl ?_)
                          | (refine store_row_on rfl 40 _ _ rfl rfl w14.heap.size (cellsOf .u8 (Go.Proofs.Ytbejfpdkfpgipaa.mk 128 (cellF (T0 k).n (T0 k).g))) rfl rfl 40 (cellsOf .u8 (Go.Proofs.Ytbejfpdkfpgipaa.mk 128 zeroK)) (heap_alloc_new _ _) (secSize _) (sec_same _ _) (cellsOf_one _ _) ?_
                             have W15 := Lib.hid (show WnI _ _ _ _ _ _ _ _ _ _ _ _ _ ∧ IntBlk _ _ _ _ _ from ⟨W14.out.below (sec_laid w14 (cellF (T0 k).n (T0 k).g)).2, (sec_laid w14 (cellF (T0 k).n (T0 k).g)).1⟩)
                             generalize (w14.alloc (.cells (cellsOf .u8 (Go.Proofs.Ytbejfpdkfpgipaa.mk 128 zeroK)) 40)).setRow w14.heap.size (cellsOf .u8 (Go.Proofs.Ytbejfpdkfpgipaa.mk 128 (cellF (T0 k).n (T0 k).g))) = w15 at *
                             clear W14)
                          | (refine wpList_sec_load rfl _ rfl w14.heap.size (cellF (T0 k).n (T0 k).g) rfl W15.out.2 ?_)
                          | (refine wpList_sec_load rfl _ rfl wr.heap.size (cellF (T0 k).n (T0 k).g) rfl W15.out.1.k ?_)
                          | (refine wpList_sec_neq rfl _ _ rfl (cellF (T0 k).n (T0 k).g) (cellF (T0 k).n (T0 k).g) rfl rfl rfl ?_))
                        go_roundw
                        case rel => exact ⟨k + 1, HLT.out, by go_num, W15.out.1.c, W15.out.1.s⟩
                        case measure => have := HLT.out; simp [intOf]; omega
                    · have p1 : decide ((k : Int) < (n0 : Int)) = true := by simp; omega
                      have p1b : decide (k < n0) = true := by simp; omega
                      have p1c : ((k : Int) < (n0 : Int)) := by omega
                      have p2 : decide ((k : Int) < (n1 : Int)) = false := by simp; omega
                      have p2b : decide (k < n1) = false := by simp; omega
                      have p2c : ¬ ((k : Int) < (n1 : Int)) := by omega
                      obtain ⟨B0, o0, rfl, hl0⟩ := HL0.out (by omega)
                      have hl0 := Lib.hid hl0
                      have HNOW := Lib.hid (show suT T0 T1 n0 n1 l2 k = Go.Proofs.Ytbejfpdkfpgipaa.mk 128 (cellF (T0 k).n (T0 k).g) from (suT_first T0 T1 (fun h => absurd h.1 (by omega))).trans (by rw [opT_in T0 (by omega)]; rfl))
                      go_wp2_with (first
                        | (refine wpList_sec_build0 rfl rfl ?_)
                        | (refine wpList_sec_alloc rfl rfl wr.heap.size rfl ?_)
                        | (refine store_row_on rfl 40 _ _ rfl rfl wr.heap.size (cellsOf .u8 (Go.Proofs.Ytbejfpdkfpgipaa.mk 128 zeroK)) rfl rfl 40 (cellsOf .u8 (Go.Proofs.Ytbejfpdkfpgipaa.mk 128 zeroK)) (heap_alloc_new _ _) (secSize _) (sec_same _ _) (cellsOf_one _ _) ?_
                           have W9 := Lib.hid (show WnI _ _ _ _ _ _ _ _ _ _ _ _ _ ∧ _ from ⟨HWN.out, (sec_laid wr zeroK).2.block mb HCN.out.lt⟩)
                           generalize (wr.alloc (.cells (cellsOf .u8 (Go.Proofs.Ytbejfpdkfpgipaa.mk 128 zeroK)) 40)).setRow wr.heap.size (cellsOf .u8 (Go.Proofs.Ytbejfpdkfpgipaa.mk 128 zeroK)) = w9 at *
                           have cl0 := (hl0.out w9 W9.out.1.s.low).1
                           clear HWN)
                        | (go_at_call 16; refine (Cell_any (T0 k).p (T0 k).n (T0 k).c (T0 k).g w9 (hl0.out w9 W9.out.1.s.low).2).mono ?_; rintro e w10 ⟨rfl, hb10⟩
                           have W10 := Lib.hid (show WnI _ _ _ _ _ _ _ _ _ _ _ _ _ ∧ _ from ⟨W9.out.1.below hb10, (hb10.block mb W9.out.1.c.lt).trans W9.out.2⟩)
                           clear hb10 W9 cl0)
                        | (refine store_row_on rfl 40 _ _ rfl rfl wr.heap.size (cellsOf .u8 (Go.Proofs.Ytbejfpdkfpgipaa.mk 128 (cellF (T0 k).n (T0 k).g))) rfl rfl 40 (cellsOf .u8 (Go.Proofs.Ytbejfpdkfpgipaa.mk 128 zeroK)) W10.out.1.k (secSize _) (sec_same _ _) (cellsOf_one _ _) ?_
                           have W11 := Lib.hid (show WnI _ _ _ _ _ _ _ _ _ _ _ _ _ ∧ _ from ⟨W10.out.1.put (cellF (T0 k).n (T0 k).g), (setRow_other w10 wr.heap.size mb (cellsOf .u8 (Go.Proofs.Ytbejfpdkfpgipaa.mk 128 (cellF (T0 k).n (T0 k).g))) W10.out.1.nmb).trans W10.out.2⟩)
                           generalize w10.setRow wr.heap.size (cellsOf .u8 (Go.Proofs.Ytbejfpdkfpgipaa.mk 128 (cellF (T0 k).n (T0 k).g))) = w11 at *
                           clear W10)
                        | (refine wpList_look_wanted rfl _ _ rfl mb l2.length D0 rfl (HCA.out _ W11.out.2) k rfl HKY.out c HCT.out ?_)
                        | (go_at_call 32; refine (Read_ok W11.out.1.s.at' k (by rw [W11.out.1.s.ns]; exact HLT.out) W11.out.1.s.down).mono ?_; rintro e w14 ⟨rfl, hb14⟩
                           rw [show d8.now k = Go.Proofs.Ytbejfpdkfpgipaa.mk 128 (cellF (T0 k).n (T0 k).g) from (show (d8.opn k).getD (d8.sure k) = _ by rw [W11.out.1.s.opn, W11.out.1.s.sure k HLT.out]; exact HNOW.out)]
                           have W14 := Lib.hid (W11.out.1.below hb14)
                           clear hb14 W11)
                        | (refine wpList_sec_alloc rfl rfl w14.heap.size rfl ?_)
                        | (refine store_row_on rfl 40 _ _ rfl rfl w14.heap.size (cellsOf .u8 (Go.Proofs.Ytbejfpdkfpgipaa.mk 128 (cellF (T0 k).n (T0 k).g))) rfl rfl 40 (cellsOf .u8 (Go.Proofs.Ytbejfpdkfpgipaa.mk 128 zeroK)) (heap_alloc_new _ _) (secSize _) (sec_same _ _) (cellsOf_one _ _) ?_
                           have W15 := Lib.hid (show WnI _ _ _ _ _ _ _ _ _ _ _ _ _ ∧ IntBlk _ _ _ _ _ from ⟨W14.out.below (sec_laid w14 (cellF (T0 k).n (T0 k).g)).2, (sec_laid w14 (cellF (T0 k).n (T0 k).g)).1⟩)
                           generalize (w14.alloc (.cells (cellsOf .u8 (Go.Proofs.Ytbejfpdkfpgipaa.mk 128 zeroK)) 40)).setRow w14.heap.size (cellsOf .u8 (Go.Proofs.Ytbejfpdkfpgipaa.mk 128 (cellF (T0 k).n (T0 k).g))) = w15 at *
                           clear W14)
                        | (refine wpList_sec_load rfl _ rfl w14.heap.size (cellF (T0 k).n (T0 k).g) rfl W15.out.2 ?_)
                        | (refine wpList_sec_load rfl _ rfl wr.heap.size (cellF (T0 k).n (T0 k).g) rfl W15.out.1.k ?_)
                        | (refine wpList_sec_neq rfl _ _ rfl (cellF (T0 k).n (T0 k).g) (cellF (T0 k).n (T0 k).g) rfl rfl rfl ?_))
                      go_roundw
                      case rel => exact ⟨k + 1, HLT.out, by go_num, W15.out.1.c, W15.out.1.s⟩
                      case measure => have := HLT.out; simp [intOf]; omega
                  · by_cases q1 : k < n1
                    · by_cases q2 : 0 < c
                      · have p1 : decide ((k : Int) < (n0 : Int)) = false := by simp; omega
                        have p1b : decide (k < n0) = false := by simp; omega
                        have p1c : ¬ ((k : Int) < (n0 : Int)) := by omega
                        have p2 : decide ((k : Int) < (n1 : Int)) = true := by simp; omega
                        have p2b : decide (k < n1) = true := by simp; omega
                        have p2c : ((k : Int) < (n1 : Int)) := by omega
                        have p3 : decide ((0 : Int) < (c : Int)) = true := by simp; omega
                        have p3b : (0 < c) := by omega
                        obtain ⟨B1, o1, rfl, hl1⟩ := HL1.out (by omega)
                        have hl1 := Lib.hid hl1
                        have HNOW := Lib.hid (show suT T0 T1 n0 n1 l2 k = Go.Proofs.Ytbejfpdkfpgipaa.mk 128 (cellF (T1 k).n (T1 k).g) from suT_second T0 T1 (by omega) (HC0.out.1 (by omega)))
                        go_wp2_with (first
                          | (refine wpList_sec_build0 rfl rfl ?_)
                          | (refine wpList_sec_alloc rfl rfl wr.heap.size rfl ?_)
                          | (refine store_row_on rfl 40 _ _ rfl rfl wr.heap.size (cellsOf .u8 (Go.Proofs.Ytbejfpdkfpgipaa.mk 128 zeroK)) rfl rfl 40 (cellsOf .u8 (Go.Proofs.Ytbejfpdkfpgipaa.mk 128 zeroK)) (heap_alloc_new _ _) (secSize _) (sec_same _ _) (cellsOf_one _ _) ?_
                             have W9 := Lib.hid (show WnI _ _ _ _ _ _ _ _ _ _ _ _ _ ∧ _ from ⟨HWN.out, (sec_laid wr zeroK).2.block mb HCN.out.lt⟩)
                             generalize (wr.alloc (.cells (cellsOf .u8 (Go.Proofs.Ytbejfpdkfpgipaa.mk 128 zeroK)) 40)).setRow wr.heap.size (cellsOf .u8 (Go.Proofs.Ytbejfpdkfpgipaa.mk 128 zeroK)) = w9 at *
                             have cl1 := (hl1.out w9 W9.out.1.s.low).1
                             clear HWN)
                          | (refine wpList_look_wanted rfl _ _ rfl mb l2.length D0 rfl (HCA.out _ W9.out.2) k rfl HKY.out c HCT.out ?_)
                          | (go_at_call 16; refine (Cell_any (T1 k).p (T1 k).n (T1 k).c (T1 k).g w9 (hl1.out w9 W9.out.1.s.low).2).mono ?_; rintro e w12 ⟨rfl, hb12⟩
                             have W12 := Lib.hid (W9.out.1.below hb12)
                             clear hb12 cl1 W9)
                          | (refine store_row_on rfl 40 _ _ rfl rfl wr.heap.size (cellsOf .u8 (Go.Proofs.Ytbejfpdkfpgipaa.mk 128 (cellF (T1 k).n (T1 k).g))) rfl rfl 40 (cellsOf .u8 (Go.Proofs.Ytbejfpdkfpgipaa.mk 128 zeroK)) W12.out.k (secSize _) (sec_same _ _) (cellsOf_one _ _) ?_
                             have W13 := Lib.hid (W12.out.put (cellF (T1 k).n (T1 k).g))
                             generalize w12.setRow wr.heap.size (cellsOf .u8 (Go.Proofs.Ytbejfpdkfpgipaa.mk 128 (cellF (T1 k).n (T1 k).g))) = w13 at *
                             clear W12)
                          | (go_at_call 32; refine (Read_ok W13.out.s.at' k (by rw [W13.out.s.ns]; exact HLT.out) W13.out.s.down).mono ?_; rintro e w14 ⟨rfl, hb14⟩
                             rw [show d8.now k = Go.Proofs.Ytbejfpdkfpgipaa.mk 128 (cellF (T1 k).n (T1 k).g) from (show (d8.opn k).getD (d8.sure k) = _ by rw [W13.out.s.opn, W13.out.s.sure k HLT.out]; exact HNOW.out)]
                             have W14 := Lib.hid (W13.out.below hb14)
                             clear hb14 W13)
                          | (refine wpList_sec_alloc rfl rfl w14.heap.size rfl ?_)
                          | (refine store_row_on rfl 40 _ _ rfl rfl w14.heap.size (cellsOf .u8 (Go.Proofs.Ytbejfpdkfpgipaa.mk 128 (cellF (T1 k).n (T1 k).g))) rfl rfl 40 (cellsOf .u8 (Go.Proofs.Ytbejfpdkfpgipaa.mk 128 zeroK)) (heap_alloc_new _ _) (secSize _) (sec_same _ _) (cellsOf_one _ _) ?_
                             have W15 := Lib.hid (show WnI _ _ _ _ _ _ _ _ _ _ _ _ _ ∧ IntBlk _ _ _ _ _ from ⟨W14.out.below (sec_laid w14 (cellF (T1 k).n (T1 k).g)).2, (sec_laid w14 (cellF (T1 k).n (T1 k).g)).1⟩)
                             generalize (w14.alloc (.cells (cellsOf .u8 (Go.Proofs.Ytbejfpdkfpgipaa.mk 128 zeroK)) 40)).setRow w14.heap.size (cellsOf .u8 (Go.Proofs.Ytbejfpdkfpgipaa.mk 128 (cellF (T1 k).n (T1 k).g))) = w15 at *
                             clear W14)
                          | (refine wpList_sec_load rfl _ rfl w14.heap.size (cellF (T1 k).n (T1 k).g) rfl W15.out.2 ?_)
                          | (refine wpList_sec_load rfl _ rfl wr.heap.size (cellF (T1 k).n (T1 k).g) rfl W15.out.1.k ?_)
                          | (refine wpList_sec_neq rfl _ _ rfl (cellF (T1 k).n (T1 k).g) (cellF (T1 k).n (T1 k).g) rfl rfl rfl ?_))
                        go_roundw
                        case rel => exact ⟨k + 1, HLT.out, by go_num, W15.out.1.c, W15.out.1.s⟩
                        case measure => have := HLT.out; simp [intOf]; omega
                      · have p1 : decide ((k : Int) < (n0 : Int)) = false := by simp; omega
                        have p1b : decide (k < n0) = false := by simp; omega
                        have p1c : ¬ ((k : Int) < (n0 : Int)) := by omega
                        have p2 : decide ((k : Int) < (n1 : Int)) = true := by simp; omega
                        have p2b : decide (k < n1) = true := by simp; omega
                        have p2c : ((k : Int) < (n1 : Int)) := by omega
                        have p3 : decide ((0 : Int) < (c : Int)) = false := by simp; omega
                        have p3b : ¬ (0 < c) := by omega
                        have HNOW := Lib.hid (show suT T0 T1 n0 n1 l2 k = Go.Proofs.Ytbejfpdkfpgipaa.mk 128 zeroK from (suT_first T0 T1 (fun h => absurd (HC0.out.2 h.2) (by omega))).trans (by rw [opT_out T0 (by omega)]; rfl))
                        go_wp2_with (first
                          | (refine wpList_sec_build0 rfl rfl ?_)
                          | (refine wpList_sec_alloc rfl rfl wr.heap.size rfl ?_)
                          | (refine store_row_on rfl 40 _ _ rfl rfl wr.heap.size (cellsOf .u8 (Go.Proofs.Ytbejfpdkfpgipaa.mk 128 zeroK)) rfl rfl 40 (cellsOf .u8 (Go.Proofs.Ytbejfpdkfpgipaa.mk 128 zeroK)) (heap_alloc_new _ _) (secSize _) (sec_same _ _) (cellsOf_one _ _) ?_
                             have W9 := Lib.hid (show WnI _ _ _ _ _ _ _ _ _ _ _ _ _ ∧ _ from ⟨HWN.out, (sec_laid wr zeroK).2.block mb HCN.out.lt⟩)
                             generalize (wr.alloc (.cells (cellsOf .u8 (Go.Proofs.Ytbejfpdkfpgipaa.mk 128 zeroK)) 40)).setRow wr.heap.size (cellsOf .u8 (Go.Proofs.Ytbejfpdkfpgipaa.mk 128 zeroK)) = w9 at *
                             clear HWN)
                          | (refine wpList_look_wanted rfl _ _ rfl mb l2.length D0 rfl (HCA.out _ W9.out.2) k rfl HKY.out c HCT.out ?_)
                          | (go_at_call 32; refine (Read_ok W9.out.1.s.at' k (by rw [W9.out.1.s.ns]; exact HLT.out) W9.out.1.s.down).mono ?_; rintro e w14 ⟨rfl, hb14⟩
                             rw [show d8.now k = Go.Proofs.Ytbejfpdkfpgipaa.mk 128 zeroK from (show (d8.opn k).getD (d8.sure k) = _ by rw [W9.out.1.s.opn, W9.out.1.s.sure k HLT.out]; exact HNOW.out)]
                             have W14 := Lib.hid (W9.out.1.below hb14)
                             clear hb14 W9)
                          | (refine wpList_sec_alloc rfl rfl w14.heap.size rfl ?_)
                          | (refine store_row_on rfl 40 _ _ rfl rfl w14.heap.size (cellsOf .u8 (Go.Proofs.Ytbejfpdkfpgipaa.mk 128 zeroK)) rfl rfl 40 (cellsOf .u8 (Go.Proofs.Ytbejfpdkfpgipaa.mk 128 zeroK)) (heap_alloc_new _ _) (secSize _) (sec_same _ _) (cellsOf_one _ _) ?_
                             have W15 := Lib.hid (show WnI _ _ _ _ _ _ _ _ _ _ _ _ _ ∧ IntBlk _ _ _ _ _ from ⟨W14.out.below (sec_laid w14 zeroK).2, (sec_laid w14 zeroK).1⟩)
                             generalize (w14.alloc (.cells (cellsOf .u8 (Go.Proofs.Ytbejfpdkfpgipaa.mk 128 zeroK)) 40)).setRow w14.heap.size (cellsOf .u8 (Go.Proofs.Ytbejfpdkfpgipaa.mk 128 zeroK)) = w15 at *
                             clear W14)
                          | (refine wpList_sec_load rfl _ rfl w14.heap.size zeroK rfl W15.out.2 ?_)
                          | (refine wpList_sec_load rfl _ rfl wr.heap.size zeroK rfl W15.out.1.k ?_)
                          | (refine wpList_sec_neq rfl _ _ rfl zeroK zeroK rfl rfl rfl ?_))
                        go_roundw
                        case rel => exact ⟨k + 1, HLT.out, by go_num, W15.out.1.c, W15.out.1.s⟩
                        case measure => have := HLT.out; simp [intOf]; omega
                    · exfalso
                      have := HLT.out
                      have := HNM.out
                      omega
                · have f1 : ¬ (k : Int) < (N : Int) := by omega
                  clear hk hlt
                  go_wp2_with (first
                    | (go_at_call 36
                       refine (open_any (.pointer (some ⟨b.B, 0, none⟩)) 9 [] (by simp) wr (fun W hW => (Open_ok (HS.out.at'.below hW) (by have := HS.out.made; have := HN.out; have := HH.out; omega)).mono fun e w' ⟨C, L, h1, h2, h3, h4⟩ => ⟨C, h1, by rw [isOpen_unique (L := []) (L' := L) ⟨List.Pairwise.nil, fun x => by rw [HS.out.opn]; simp⟩ h2]; exact h3, h4⟩)).mono ?_; rintro e w7 ⟨⟨q, c, rfl, -⟩, hb7⟩; have B7 := Lib.hid (HS.out.low.trans (hb7.mono HS.out.low.size)); clear hb7))
                  go_ret
                  exact ⟨rfl, B7.out⟩

theorem laidOut : laidOutB Try.prog = true := by kernel_rfl
set_option maxRecDepth 100000 in
theorem lifted (os : Os) (started : os.Started) (H : Type) (enc : TypeId × Value → H) :
    ReturnsInHanded {} Try.checked os 4 .any (Rows.platterSureSpec.pre6 enc Try.prog Try.f4 Rows.platterSureRow.domain false) (Rows.platterSureSpec.post enc Try.prog Try.f4 false true false false) := by
  refine returnsInHanded_of_change (C := Try.checked) own started (by kernel_rfl) Try.func4
    (ChangeSpec.witness6 (enc := enc) (C := Try.checked) false ⟨#[], #[.slice none 0 0, .slice none 0 0, .slice none 0 0], []⟩ 8 (by kernel_rfl) (by kernel_rfl) (by kernel_rfl) (by kernel_rfl)) ?_
  intro W base args ds gs before hval0 hW hcnd _
  have hval : ∀ (j : Nat) t v, Try.f4.params[j]? = some t → args[j]? = some v → Value.okWide Try.prog W .any base t v := hval0
  have hW' := hW
  obtain ⟨p, q, hA0, hV, rfl, hfz, hnd⟩ := hW
  have hA : DataW.TrodAll enc Try.prog W 0 (fun _ => true) true Try.f4.params.toList args.toList ds p := hA0
  rw [Try.params4] at hA hval
  obtain ⟨v0, vs0, d0, ds0, p0, q0, hargs, rfl, rfl, h0, r0⟩ := trodAll_cons hA
  obtain ⟨v1, vs1, d1, ds1, p1, q1, rfl, rfl, rfl, h1, r1⟩ := trodAll_cons r0
  obtain ⟨v2, vs2, d2, ds2, p2, q2, rfl, rfl, rfl, h2, r2⟩ := trodAll_cons r1
  obtain ⟨rfl, rfl, rfl⟩ := trodAll_nil r2
  obtain rfl : args = #[v0, v1, v2] := by cases args; simp_all
  obtain ⟨rfl, rfl⟩ := trodVars_none hV
  have k0 := h0
  have lt0 : ∀ x ∈ p0, x.block < W.heap.size := by obtain ⟨m, hm⟩ := k0; exact DataW.trod_lt m _ _ _ hm
  obtain ⟨q0, n0, c0, a0, rfl, y0, w0⟩ := open_lists (hval 0 69 v0 rfl rfl) h0
  have k1 := h1
  have lt1 : ∀ x ∈ p1, x.block < W.heap.size := by obtain ⟨m, hm⟩ := k1; exact DataW.trod_lt m _ _ _ hm
  obtain ⟨q1, n1, c1, a1, rfl, y1, w1⟩ := open_lists (hval 1 69 v1 rfl rfl) h1
  have k2 := h2
  have lt2 : ∀ x ∈ p2, x.block < W.heap.size := by obtain ⟨m, hm⟩ := k2; exact DataW.trod_lt m _ _ _ hm
  obtain ⟨q2, a2, c2, rfl, w2, y2⟩ := open_ints (hval 2 35 v2 rfl rfl) h2
  clear hA0 hval0
  refine (walk q0 n0 c0 a0 q1 n1 c1 a1 q2 a2 c2 w0 w1 w2 W y0 y1 y2).mono fun e W' ⟨he, bel⟩ => ?_
  subst he
  exact ⟨_, rfl, _, _, _, [], _, [], hW', trodAll_mk1 (shut_bool Try.underlying4 _), (trodAll_cons_mk (Below.trod laidOut (by kernel_rfl) (of_decide_eq_true (by kernel_rfl)) k0 bel lt0) (trodAll_cons_mk (Below.trod laidOut (by kernel_rfl) (of_decide_eq_true (by kernel_rfl)) k1 bel lt1) (trodAll_cons_mk (Below.trod laidOut (by kernel_rfl) (of_decide_eq_true (by kernel_rfl)) k2 bel lt2) trodAll_mk0))), rfl, bel.frame _, fun h => by cases h⟩

theorem over : Rows.platterSureRow.holds Try.pinned (OpenSpec.ofChange Rows.platterSureSpec) :=
  OpenClaim.holds_of_wide 4 Try.f4 rfl rfl rfl rfl rfl rfl rfl ⟨rfl, rfl, rfl, rfl, rfl⟩ rfl rfl rfl rfl rfl (by kernel_rfl) Try.func4 (by kernel_rfl)
    (of_decide_eq_true (by kernel_rfl)) (by unfold Func.isWrapper; first | (rw [if_pos (by decide +kernel)]; kernel_rfl) | (rw [if_neg (by decide +kernel)]; exact ⟨rfl, rfl⟩))
    (fun os started H enc _ => lifted os started H enc)

theorem proved : Rows.PlatterSureSaid := over
end Go.Proofs.Ytbejfpdkfpgipaa.platterSure
