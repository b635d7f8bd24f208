/- The contract of the document's Open: the open sectors, rising. Condition: the disk lies in memory. -/
import Derived.Test.YtbejfpdkfpgipaaPlRefD
namespace Go.Proofs.Ytbejfpdkfpgipaa
open Go.ChangeShapes Go.WideShapes Go.ChangeAt Go.RowKit
set_option linter.unusedVariables false
section
variable {w : World} {r : RBlk} {base : Nat} {d : Disk} {L : Nat} {R : Since}
theorem RefAt.isOpen (h : RefAt w r base d L R) {l : List Int} (hl : UpTo d.opn d.ns l) : IsOpen d.opn l :=
  ⟨hl.up, fun x => by
    rw [hl.mem]
    constructor
    · rintro ⟨_, _, h3⟩; exact h3
    · intro h3; exact ⟨(h.wf x h3).1, (h.wf x h3).2, h3⟩⟩
theorem RefAt.openIs (h : RefAt w r base d L R) {i : Nat} (hi : i < d.ns) : (d.opn i).isSome = true ↔ 0 < R.n i := by
  rw [h.rows.opn i hi]
  unfold Since.last
  by_cases e : R.n i = 0
  · rw [if_pos e]; simp [e]
  · rw [if_neg e]; simp; omega
/-- A slice of a sector's writes, by its length. -/
theorem RefAt.shape' (h : RefAt w r base d L R) {i : Nat} (hi : i < d.ns) : ∃ q c, R.V i = .slice q (R.n i) c := by
  rcases h.shape hi with ⟨hn, q, c, hv⟩ | ⟨hn, B, c, hv, _⟩
  · exact ⟨q, c, by rw [hv, hn]⟩
  · exact ⟨_, c, hv⟩
set_option maxRecDepth 100000 in
set_option maxHeartbeats 1000000 in
theorem rOpen_ok (h : RefAt w r base d L R) (hmk : d.made ≤ 100000) : Calls Try.prog 37 #[.pointer (some ⟨r.B, 0, none⟩)] w fun e w' => ∃ (l : List Int) (q : Option Addr) (c : Nat), e = .returned (.slice q l.length c) ∧ IsOpen d.opn l ∧ l.length ≤ d.ns ∧ IntsAt w' q l ∧ Below w.heap.size w w' := by
  have H := Lib.hid h
  have HNS := Lib.hid h.ns2
  have HMK := Lib.hid hmk
  have W0 := Lib.hid (World.ownsRow_nil w w.heap.size 3 1)
  have B0 := Lib.hid (Below.refl w.heap.size w)
  clear h hmk
  go_enter Try.func37, Try.ntmps37
  go_wp2
  go_loopw [4, 3] (fun v4 v3 wr => ∃ j : Nat, j ≤ d.ns ∧ v4 = .int .i64 j ∧ ∃ (l : List Int) (q : Option Addr) (cc : Nat), v3 = .slice q l.length cc ∧ UpTo d.opn j l ∧ wr.ownsRow w.heap.size 3 1 (.slice q l.length cc) l.length (l.map encZ) ∧ Below w.heap.size w wr) (fun v4 _ _ => d.ns - (intOf v4).toNat)
  case atStart => exact ⟨0, Nat.zero_le _, rfl, [], _, _, rfl, UpTo.zero _, W0.out, B0.out⟩
  case round =>
    obtain ⟨j, hj, rfl, l, q, cc, rfl, hup, hrow, hb⟩ := hrel
    have HRW := Lib.hid hrow
    have HB := Lib.hid hb
    have HR := Lib.hid (H.out.below hb)
    have LU := Lib.hid (show l.length ≤ 2048 from Nat.le_trans hup.len (Nat.le_trans hj HNS.out))
    have c1 := HR.out.c1
    clear hrow hb W0 B0
    by_cases hlt : j < d.ns
    · have HLT := Lib.hid hlt
      have cz := HR.out.slot hlt
      obtain ⟨q2, c2, hv⟩ := HR.out.shape' hlt
      rw [hv] at cz
      have hop := HR.out.openIs hlt
      have hnm : R.n j ≤ 100000 := Nat.le_trans (HR.out.rows.few j hlt) HMK.out
      generalize R.n j = n at *
      have f1 : (j : Int) < (d.ns : Int) := by omega
      have f2 : (0 : Int) ≤ j := by omega
      have f3 : IntKind.i64.wrap ((j : Int) + 1) = ((j + 1 : Nat) : Int) := by have := HNS.out; rw [IntWalk.i64_in _ (by omega)]; omega
      obtain ⟨ti, hti, htz, hts, htb⟩ := intInfo4
      have HN := Lib.hid (show ∀ (m : Nat) (u : Value), [Value.int .i64 (j : Int)][m]? = some u → (wr.alloc (.cells #[.int .i64 (j : Int)] 3)).cell? ((⟨wr.heap.size, 0, none⟩ : Addr).add m) = some u from fun m u hm => by
        rcases m with _ | m
        · simp at hm; subst hm; exact box_cell (heap_alloc_new _ _)
        · simp at hm)
      clear hv hlt
      by_cases hn : 0 < n
      · have p1 : decide (0 < (n : Int)) = true := by simp; omega
        have p1b : 0 < n := hn
        have HUP := Lib.hid (hup.more (hop.2 hn))
        clear hup hop hn hnm
        go_wp2_with (first
          | (at_builtin
             refine wpList_append_own _ rfl _ _ 35 rfl w.heap.size 3 ti (.int .i64 0) 1 8 (by rfl) hti htz hts htb rfl (by omega) _ l.length (l.map encZ) rfl (ownsRow_save HRW.out (fun g hg hl => Below.heap_alloc _ _ _ hl)) ⟨wr.heap.size, 0, none⟩ 1 1 [.int .i64 j] rfl (by simp) HN.out (by simp [Value.oneCell']) (by have := LU.out; simp only [maxLen]; omega) (by have := LU.out; omega) (by have := HB.out.size; simp; omega) ?_
             intro v' w7 hown hgr _
             obtain ⟨q3, c3, hv2, -, -⟩ := ints_of_owns (L := l ++ [(j : Int)]) (by rw [List.map_append]; exact hown) (by simp)
             have HRW2 := Lib.hid (show w7.ownsRow w.heap.size 3 1 v' (l ++ [(j : Int)]).length ((l ++ [(j : Int)]).map encZ) from by rw [List.map_append, List.length_append]; exact hown)
             have HB3 := Lib.hid (below_own hgr (fun g hg => HRW.out.2.elim (fun e => by rw [e.1] at hg; cases hg) (fun ⟨g', cap, cur, e, hl, _⟩ => by rw [e] at hg; cases hg; exact hl)) (by have := HB.out.size; simp; omega))
             subst hv2
             clear hown hgr))
        go_roundw
        case rel => exact ⟨j + 1, HLT.out, by go_num, _, _, _, by rw [List.length_append]; rfl, HUP.out, HRW2.out, (HB.out.alloc HB.out.size _).trans HB3.out⟩
        case measure => have := HLT.out; simp [intOf]; omega
      · have p1 : decide (0 < (n : Int)) = false := by simp; omega
        have p1b : ¬ 0 < n := hn
        have HUP := Lib.hid (hup.skip (fun e => hn (hop.1 e)))
        clear hup hop hn hnm
        go_wp2
        go_roundw
        case rel => exact ⟨j + 1, HLT.out, by go_num, _, _, _, rfl, HUP.out, HRW.out, HB.out⟩
        case measure => have := HLT.out; simp [intOf]; omega
    · have f1 : ¬ (j : Int) < (d.ns : Int) := by omega
      obtain rfl : j = d.ns := by omega
      obtain ⟨q', c', he, hi', -⟩ := ints_of_owns HRW.out rfl
      cases he
      have HO := Lib.hid (HR.out.isOpen hup)
      have HL := Lib.hid hup.len
      have HI := Lib.hid hi'
      clear hup hi' hlt hj
      go_wp2
      go_ret
      exact ⟨l, q, ⟨cc, rfl⟩, HO.out, HL.out, HI.out, HB.out⟩
end
end Go.Proofs.Ytbejfpdkfpgipaa
