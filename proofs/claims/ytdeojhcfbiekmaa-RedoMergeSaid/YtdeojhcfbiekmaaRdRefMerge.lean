/- The contract of citadelref10's Merge: the last put of each number, by rising numbers. Conditions: there are at most 1000 puts; their numbers rise as K. -/
import Derived.Test.YtdeojhcfbiekmaaRdGives
namespace Go.Proofs.Ytdeojhcfbiekmaa
open Go.ChangeShapes Go.WideShapes Go.ChangeAt Go.RowKit
set_option linter.unusedVariables false
/-- The place of the best one as an int. -/
def bestZ : Option Nat → Int
  | none => -1
  | some b => (b : Nat)
theorem bestTo_zero (l : List PutOf) (prev : Option Int) : bestTo l prev 0 = none := rfl
theorem bestTo_off {l : List PutOf} {prev : Option Int} {i : Nat} (h : ¬ laterP l prev i) : bestTo l prev (i + 1) = bestTo l prev i := if_neg h
theorem bestTo_first {l : List PutOf} {prev : Option Int} {i : Nat} (h : laterP l prev i) (hb : bestTo l prev i = none) : bestTo l prev (i + 1) = some i := by
  show (if _ then _ else _) = _
  rw [if_pos h, hb]
theorem bestTo_less {l : List PutOf} {prev : Option Int} {i b : Nat} (h : laterP l prev i) (hb : bestTo l prev i = some b) (hle : (l.getD i noPut).at' ≤ (l.getD b noPut).at') : bestTo l prev (i + 1) = some i := by
  show (if _ then _ else _) = _
  rw [if_pos h, hb]
  exact if_pos hle
theorem bestTo_more {l : List PutOf} {prev : Option Int} {i b : Nat} (h : laterP l prev i) (hb : bestTo l prev i = some b) (hle : ¬ (l.getD i noPut).at' ≤ (l.getD b noPut).at') : bestTo l prev (i + 1) = some b := by
  show (if _ then _ else _) = _
  rw [if_pos h, hb]
  exact if_neg hle
theorem prevK_zero (K : List Int) : prevK K 0 = none := rfl
theorem prevK_pos {K : List Int} {j : Nat} (h : 0 < j) (hj : j ≤ K.length) : prevK K j = some (K.getD (j - 1) 0) := by
  unfold prevK
  rw [if_neg (by omega), List.getD_eq_getElem?_getD, List.getElem?_eq_getElem (by omega)]; rfl
theorem later_none (l : List PutOf) (i : Nat) : laterP l none i := trivial
theorem later_some (l : List PutOf) (z : Int) (i : Nat) : laterP l (some z) i ↔ z < (l.getD i noPut).at' := Iff.rfl
theorem merge_last {l : List PutOf} {K : List Int} (h : IsKeys l K) {j : Nat} (h0 : 0 < j) (hj : j ≤ K.length) : ((mergeK l (K.take j)).getD (j - 1) noPut).at' = K.getD (j - 1) 0 := by
  have hlt : j - 1 < K.length := by omega
  obtain ⟨i, _, hi, hp, hat⟩ := h.pick (List.getElem_mem hlt)
  have e : (mergeK l (K.take j)).getD (j - 1) noPut = pickP l K[j - 1] := by
    unfold mergeK
    rw [List.getD_eq_getElem?_getD, List.getElem?_map, List.getElem?_take_of_lt (by omega), List.getElem?_eq_getElem hlt]; rfl
  rw [e, hp, hat, List.getD_eq_getElem?_getD, List.getElem?_eq_getElem hlt]; rfl
attribute [local irreducible] lastTo mergeK pickP putC natF bestTo laterP prevK bestZ
theorem bestZ_none : bestZ none = -1 := by unfold bestZ; rfl
theorem bestZ_some (b : Nat) : bestZ (some b) = (b : Nat) := by unfold bestZ; rfl
theorem at_cell {W : World} {B o : Nat} {c : PutOf} (h : W.rangeAt B o (putC c)) : W.cell? ⟨B, o, none⟩ = some (.int .i64 c.at') := h 0 _ (putC_at c)
set_option maxRecDepth 100000 in
set_option maxHeartbeats 8000000 in
theorem refMerge_any (q : Option Addr) (cap : Nat) (l : List PutOf) (K : List Int) (hK : IsKeys l K) (hn : l.length ≤ 1000) (w : World) (hp : RowsAt 129 putC w q l) :
    Calls Try.prog 10 #[.slice q l.length cap] w fun e w' => ∃ v, e = .returned v ∧ OwnL 31 129 putC w' w.heap.size w'.heap.size v (mergeK l K) ∧ Below w.heap.size w w' := by
  have HP := Lib.hid hp
  have HN := Lib.hid hn
  have HK := Lib.hid hK
  have KM := Lib.hid hK.most
  have O0 := Lib.hid (OwnL.nil (α := PutOf) 31 129 putC w w.heap.size w.heap.size)
  have B0 := Lib.hid (Below.refl w.heap.size w)
  clear hp hn hK
  generalize hL : l.length = n at *
  go_enter Try.func10, Try.ntmps10
  go_wp2
  go_loopw [4, 3] (fun v4 v3 wr => ∃ j : Nat, j ≤ K.length ∧ v4 = .int .i64 j ∧ OwnL 31 129 putC wr w.heap.size wr.heap.size v3 (mergeK l (K.take j)) ∧ Below w.heap.size w wr) (fun v4 _ _ => n - (intOf v4).toNat)
  case atStart => exact ⟨0, Nat.zero_le _, rfl, by rw [mergeK_zero]; exact O0.out, B0.out⟩
  case round =>
    obtain ⟨j, hj, rfl, ho, hb⟩ := hrel
    have hlen : (mergeK l (K.take j)).length = j := by rw [mergeK_len, List.length_take]; omega
    obtain ⟨op, oc, rfl, _, _, hro, hbo⟩ := ho.rows elemPut.len
    rw [hlen] at ho ⊢
    have HRO := Lib.hid hro
    have HO := Lib.hid ho
    have HB := Lib.hid hb
    have HJ := Lib.hid hj
    have HLN := Lib.hid hlen
    have HBO := Lib.hid hbo
    clear ho hb hj O0 B0 hro hlen hbo
    by_cases hlt : j < n
    · have f1 : (j : Int) < (n : Int) := by omega
      have HLT := Lib.hid hlt
      clear hlt
      go_wp2
      generalize wr = w1 at *
      go_loopw [6, 5] (fun v6 v5 wr => ∃ i : Nat, i ≤ n ∧ v6 = .int .i64 i ∧ v5 = .int .i64 (bestZ (bestTo l (prevK K j) i)) ∧ Below w1.heap.size w1 wr) (fun v6 _ _ => n - (intOf v6).toNat)
      case atStart => exact ⟨0, Nat.zero_le _, rfl, by rw [bestTo_zero, bestZ_none], Below.refl _ _⟩
      case round =>
        obtain ⟨i, hi, rfl, rfl, hb⟩ := hrel
        have HBI := Lib.hid hb
        clear hb
        by_cases hlt : i < n
        · obtain ⟨B, o, rfl, hB, hr⟩ := rowsAt_get HP.out (show i < l.length by omega)
          have HI := Lib.hid hlt
          have hbw : Below w.heap.size w wr := HB.out.trans (HBI.out.mono HB.out.size)
          have HC := Lib.hid (fun W (h : Below wr.heap.size wr W) => at_cell (rangeAt_below (rangeAt_below hr hbw hB) h (Nat.lt_of_lt_of_le hB hbw.size)))
          have HDX := Lib.hid (fun b (hbn : b < n) W (h : Below wr.heap.size wr W) => show W.cell? ⟨B, o + 129 * b, none⟩ = some (.int .i64 (l.getD b noPut).at') from by
            obtain ⟨B', o', e, hB', hr'⟩ := rowsAt_get HP.out (show b < l.length by omega)
            cases e
            exact at_cell (rangeAt_below (rangeAt_below hr' hbw hB') h (Nat.lt_of_lt_of_le hB' hbw.size)))
          have g1 : (i : Int) < (n : Int) := by omega
          have g2 : (0 : Int) ≤ i := by omega
          have g3 : IntKind.i64.wrap ((i : Int) + 1) = ((i + 1 : Nat) : Int) := by have := HN.out; rw [IntWalk.i64_in _ (by omega)]; omega
          have X1 := Lib.hid (fun h => bestTo_off (l := l) (prev := prevK K j) (i := i) h)
          have X2 := Lib.hid (fun h h' => bestTo_first (l := l) (prev := prevK K j) (i := i) h h')
          have X3 := Lib.hid (fun b h h' h'' => bestTo_less (l := l) (prev := prevK K j) (i := i) (b := b) h h' h'')
          have X4 := Lib.hid (fun b h h' h'' => bestTo_more (l := l) (prev := prevK K j) (i := i) (b := b) h h' h'')
          have HLX := Lib.hid (fun (h : j = 0) => show laterP l (prevK K j) i from by subst h; rw [prevK_zero]; unfold laterP; trivial)
          have HLY := Lib.hid (fun (h : 0 < j) => show laterP l (prevK K j) i ↔ K.getD (j - 1) 0 < (l.getD i noPut).at' from by rw [prevK_pos h HJ.out]; unfold laterP; exact Iff.rfl)
          have HMB := Lib.hid hbw
          clear hr hB hbw hlt
          generalize hc : l.getD i noPut = c at *
          generalize hz5 : bestZ (bestTo l (prevK K j) i) = z5 at *
          by_cases hj0 : j = 0
          · have dj : (((j : Nat) : Int) == 0) = true := by simp [hj0]
            have hla := HLX.out hj0
            rcases hbt : bestTo l (prevK K j) i with _ | b
            · obtain rfl : z5 = -1 := by rw [← hz5, hbt, bestZ_none]
              have HX := Lib.hid (show bestZ (bestTo l (prevK K j) (i + 1)) = (i : Nat) from by rw [X2.out hla hbt, bestZ_some])
              have db : decide ((-1 : Int) < 0) = true := rfl
              clear hj0 hla hbt hz5 X1 X2 X3 X4 HLX HLY hc
              go_wp2
              refine wp_region_sched [(0, true), (1, true), (2, true), (3, true), (4, true), (5, true), (6, true), (7, true), (8, true), (9, true), (10, true), (11, true), (12, true), (13, true), (14, true), (15, true), (16, true), (17, true), (18, true)] (fun W => Below wr.heap.size wr W) (by kernel_rfl) (by kernel_rfl) ((Below.refl _ wr).drew) ?_
              refine walk_float rfl rfl (fun K hK => ?_)
              first
                | (refine gives_move _ rfl ?_)
              go_simp
              refine hK _ ?_
              clear hK K
              refine walk_float rfl rfl (fun K hK => ?_)
              first
                | (refine gives_len_puts _ rfl _ j oc rfl ?_)
              go_simp
              refine hK _ ?_
              clear hK K
              refine walk_float rfl rfl (fun K hK => ?_)
              first
                | (refine gives_int_is _ _ rfl (j : Nat) 0 rfl rfl _ dj ?_)
              go_simp
              refine hK _ ?_
              clear hK K
              refine walk_float rfl rfl (fun K hK => ?_)
              first
                | (refine gives_move _ rfl ?_)
              go_simp
              refine hK _ ?_
              clear hK K
              refine walk_off rfl rfl ?_
              go_simp
              refine walk_off rfl rfl ?_
              go_simp
              refine walk_off rfl rfl ?_
              go_simp
              refine walk_off rfl rfl ?_
              go_simp
              refine walk_off rfl rfl ?_
              go_simp
              refine walk_off rfl rfl ?_
              go_simp
              refine walk_off rfl rfl ?_
              go_simp
              refine walk_off rfl rfl ?_
              go_simp
              refine walk_off rfl rfl ?_
              go_simp
              refine walk_off rfl rfl ?_
              go_simp
              refine walk_off rfl rfl ?_
              go_simp
              refine walk_off rfl rfl ?_
              go_simp
              refine walk_off rfl rfl ?_
              go_simp
              refine walk_float rfl rfl (fun K hK => ?_)
              first
                | (refine gives_pickT _ _ _ rfl rfl _ rfl ?_)
              go_simp
              refine hK _ ?_
              clear hK K
              refine walk_float rfl rfl (fun K hK => ?_)
              first
                | (refine gives_assign _ rfl ?_)
              go_simp
              refine hK _ ?_
              clear hK K
              refine walk_nil ?_
              go_wp2
              refine wp_region_sched [(0, true), (1, true), (2, true), (3, true), (4, true), (5, true), (6, true), (7, true), (8, true), (9, true), (10, true), (11, true), (12, true), (13, true), (14, true), (15, true), (16, true), (17, true)] (fun W => Below wr.heap.size wr W) (by kernel_rfl) (by kernel_rfl) (((Below.refl _ wr).drew).drew) ?_
              refine walk_float rfl rfl (fun K hK => ?_)
              first
                | (refine gives_move _ rfl ?_)
              go_simp
              refine hK _ ?_
              clear hK K
              refine walk_float rfl rfl (fun K hK => ?_)
              first
                | (refine gives_move _ rfl ?_)
              go_simp
              refine hK _ ?_
              clear hK K
              refine walk_float rfl rfl (fun K hK => ?_)
              first
                | (refine gives_move _ rfl ?_)
              go_simp
              refine hK _ ?_
              clear hK K
              refine walk_float rfl rfl (fun K hK => ?_)
              first
                | (refine gives_int_less _ _ rfl (-1) 0 rfl rfl _ db ?_)
              go_simp
              refine hK _ ?_
              clear hK K
              refine walk_float rfl rfl (fun K hK => ?_)
              first
                | (refine gives_move _ rfl ?_)
              go_simp
              refine hK _ ?_
              clear hK K
              refine walk_off rfl rfl ?_
              go_simp
              refine walk_off rfl rfl ?_
              go_simp
              refine walk_off rfl rfl ?_
              go_simp
              refine walk_off rfl rfl ?_
              go_simp
              refine walk_off rfl rfl ?_
              go_simp
              refine walk_off rfl rfl ?_
              go_simp
              refine walk_off rfl rfl ?_
              go_simp
              refine walk_off rfl rfl ?_
              go_simp
              refine walk_off rfl rfl ?_
              go_simp
              refine walk_off rfl rfl ?_
              go_simp
              refine walk_off rfl rfl ?_
              go_simp
              refine walk_float rfl rfl (fun K hK => ?_)
              first
                | (refine gives_pickT _ _ _ rfl rfl _ rfl ?_)
              go_simp
              refine hK _ ?_
              clear hK K
              refine walk_float rfl rfl (fun K hK => ?_)
              first
                | (refine gives_pickT _ _ _ rfl rfl _ rfl ?_)
              go_simp
              refine hK _ ?_
              clear hK K
              refine walk_nil ?_
              go_wp2
              go_roundw
              case rel => exact ⟨i + 1, HI.out, by go_num, by rw [HX.out], HBI.out.trans ((((Below.refl _ wr).drew).drew).mono HBI.out.size)⟩
              case measure => have := HI.out; simp [intOf]; omega
            · obtain rfl : z5 = (b : Nat) := by rw [← hz5, hbt, bestZ_some]
              have hbi := (bestTo_some hbt).1
              have HBI2 := Lib.hid (show b < n by have := HI.out; omega)
              have HD := Lib.hid (HDX.out b HBI2.out)
              have db : decide ((b : Int) < 0) = false := by simp
              by_cases hle : c.at' ≤ (l.getD b noPut).at'
              · have HX := Lib.hid (show bestZ (bestTo l (prevK K j) (i + 1)) = (i : Nat) from by rw [X3.out b hla hbt hle, bestZ_some])
                have dm : decide (c.at' ≤ (l.getD b noPut).at') = true := decide_eq_true hle
                clear hj0 hla hbt hz5 X1 X2 X3 X4 HLX HLY hle hbi HDX hc
                generalize l.getD b noPut = d at *
                go_wp2
                refine wp_region_sched [(0, true), (1, true), (2, true), (3, true), (4, true), (5, true), (6, true), (7, true), (8, true), (9, true), (10, true), (11, true), (12, true), (13, true), (14, true), (15, true), (16, true), (17, true), (18, true)] (fun W => Below wr.heap.size wr W) (by kernel_rfl) (by kernel_rfl) ((Below.refl _ wr).drew) ?_
                refine walk_float rfl rfl (fun K hK => ?_)
                first
                  | (refine gives_move _ rfl ?_)
                go_simp
                refine hK _ ?_
                clear hK K
                refine walk_float rfl rfl (fun K hK => ?_)
                first
                  | (refine gives_len_puts _ rfl _ j oc rfl ?_)
                go_simp
                refine hK _ ?_
                clear hK K
                refine walk_float rfl rfl (fun K hK => ?_)
                first
                  | (refine gives_int_is _ _ rfl (j : Nat) 0 rfl rfl _ dj ?_)
                go_simp
                refine hK _ ?_
                clear hK K
                refine walk_float rfl rfl (fun K hK => ?_)
                first
                  | (refine gives_move _ rfl ?_)
                go_simp
                refine hK _ ?_
                clear hK K
                refine walk_off rfl rfl ?_
                go_simp
                refine walk_off rfl rfl ?_
                go_simp
                refine walk_off rfl rfl ?_
                go_simp
                refine walk_off rfl rfl ?_
                go_simp
                refine walk_off rfl rfl ?_
                go_simp
                refine walk_off rfl rfl ?_
                go_simp
                refine walk_off rfl rfl ?_
                go_simp
                refine walk_off rfl rfl ?_
                go_simp
                refine walk_off rfl rfl ?_
                go_simp
                refine walk_off rfl rfl ?_
                go_simp
                refine walk_off rfl rfl ?_
                go_simp
                refine walk_off rfl rfl ?_
                go_simp
                refine walk_off rfl rfl ?_
                go_simp
                refine walk_float rfl rfl (fun K hK => ?_)
                first
                  | (refine gives_pickT _ _ _ rfl rfl _ rfl ?_)
                go_simp
                refine hK _ ?_
                clear hK K
                refine walk_float rfl rfl (fun K hK => ?_)
                first
                  | (refine gives_assign _ rfl ?_)
                go_simp
                refine hK _ ?_
                clear hK K
                refine walk_nil ?_
                go_wp2
                refine wp_region_sched [(0, true), (1, true), (2, true), (3, true), (4, true), (5, true), (6, true), (7, true), (8, true), (9, true), (10, true), (11, true), (12, true), (13, true), (14, true), (15, true), (16, true), (17, true)] (fun W => Below wr.heap.size wr W) (by kernel_rfl) (by kernel_rfl) (((Below.refl _ wr).drew).drew) ?_
                refine walk_float rfl rfl (fun K hK => ?_)
                first
                  | (refine gives_move _ rfl ?_)
                go_simp
                refine hK _ ?_
                clear hK K
                refine walk_float rfl rfl (fun K hK => ?_)
                first
                  | (refine gives_move _ rfl ?_)
                go_simp
                refine hK _ ?_
                clear hK K
                refine walk_float rfl rfl (fun K hK => ?_)
                first
                  | (refine gives_move _ rfl ?_)
                go_simp
                refine hK _ ?_
                clear hK K
                refine walk_float rfl rfl (fun K hK => ?_)
                first
                  | (refine gives_int_less _ _ rfl (b : Nat) 0 rfl rfl _ db ?_)
                go_simp
                refine hK _ ?_
                clear hK K
                refine walk_float rfl rfl (fun K hK => ?_)
                first
                  | (refine gives_move _ rfl ?_)
                go_simp
                refine hK _ ?_
                clear hK K
                refine walk_float rfl rfl (fun K hK => ?_)
                first
                  | (refine gives_move _ rfl ?_)
                go_simp
                refine hK _ ?_
                clear hK K
                refine walk_float rfl rfl (fun K hK => ?_)
                first
                  | (refine gives_move _ rfl ?_)
                go_simp
                refine hK _ ?_
                clear hK K
                refine walk_float rfl rfl (fun K hK => ?_)
                first
                  | (refine gives_put_elem _ _ rfl B o n cap i rfl rfl HI.out ?_)
                go_simp
                refine hK _ ?_
                clear hK K
                refine walk_float rfl rfl (fun K hK => ?_)
                first
                  | (refine gives_putfield _ 0 rfl (by decide) B (o + 129 * i) rfl ?_)
                go_simp
                refine hK _ ?_
                clear hK K
                refine walk_float rfl rfl (fun K hK => ?_)
                first
                  | (refine gives_cell 3 _ rfl ⟨B, o + 129 * i, none⟩ (.int .i64 c.at') rfl box_int HC.out ?_)
                go_simp
                refine hK _ ?_
                clear hK K
                refine walk_float rfl rfl (fun K hK => ?_)
                first
                  | (refine gives_move _ rfl ?_)
                go_simp
                refine hK _ ?_
                clear hK K
                refine walk_float rfl rfl (fun K hK => ?_)
                first
                  | (refine gives_move _ rfl ?_)
                go_simp
                refine hK _ ?_
                clear hK K
                refine walk_float rfl rfl (fun K hK => ?_)
                first
                  | (refine gives_put_elem _ _ rfl B o n cap b rfl rfl HBI2.out ?_)
                go_simp
                refine hK _ ?_
                clear hK K
                refine walk_float rfl rfl (fun K hK => ?_)
                first
                  | (refine gives_putfield _ 0 rfl (by decide) B (o + 129 * b) rfl ?_)
                go_simp
                refine hK _ ?_
                clear hK K
                refine walk_float rfl rfl (fun K hK => ?_)
                first
                  | (refine gives_cell 3 _ rfl ⟨B, o + 129 * b, none⟩ (.int .i64 d.at') rfl box_int HD.out ?_)
                go_simp
                refine hK _ ?_
                clear hK K
                refine walk_float rfl rfl (fun K hK => ?_)
                first
                  | (refine gives_int_most _ _ rfl c.at' d.at' rfl rfl _ dm ?_)
                go_simp
                refine hK _ ?_
                clear hK K
                refine walk_float rfl rfl (fun K hK => ?_)
                first
                  | (refine gives_pickF _ _ _ rfl rfl _ rfl ?_)
                go_simp
                refine hK _ ?_
                clear hK K
                refine walk_float rfl rfl (fun K hK => ?_)
                first
                  | (refine gives_pickT _ _ _ rfl rfl _ rfl ?_)
                go_simp
                refine hK _ ?_
                clear hK K
                refine walk_nil ?_
                go_wp2
                go_roundw
                case rel => exact ⟨i + 1, HI.out, by go_num, by rw [HX.out], HBI.out.trans ((((Below.refl _ wr).drew).drew).mono HBI.out.size)⟩
                case measure => have := HI.out; simp [intOf]; omega
              · have HX := Lib.hid (show bestZ (bestTo l (prevK K j) (i + 1)) = (b : Nat) from by rw [X4.out b hla hbt hle, bestZ_some])
                have dm : decide (c.at' ≤ (l.getD b noPut).at') = false := decide_eq_false hle
                clear hj0 hla hbt hz5 X1 X2 X3 X4 HLX HLY hle hbi HDX hc
                generalize l.getD b noPut = d at *
                go_wp2
                refine wp_region_sched [(0, true), (1, true), (2, true), (3, true), (4, true), (5, true), (6, true), (7, true), (8, true), (9, true), (10, true), (11, true), (12, true), (13, true), (14, true), (15, true), (16, true), (17, true), (18, true)] (fun W => Below wr.heap.size wr W) (by kernel_rfl) (by kernel_rfl) ((Below.refl _ wr).drew) ?_
                refine walk_float rfl rfl (fun K hK => ?_)
                first
                  | (refine gives_move _ rfl ?_)
                go_simp
                refine hK _ ?_
                clear hK K
                refine walk_float rfl rfl (fun K hK => ?_)
                first
                  | (refine gives_len_puts _ rfl _ j oc rfl ?_)
                go_simp
                refine hK _ ?_
                clear hK K
                refine walk_float rfl rfl (fun K hK => ?_)
                first
                  | (refine gives_int_is _ _ rfl (j : Nat) 0 rfl rfl _ dj ?_)
                go_simp
                refine hK _ ?_
                clear hK K
                refine walk_float rfl rfl (fun K hK => ?_)
                first
                  | (refine gives_move _ rfl ?_)
                go_simp
                refine hK _ ?_
                clear hK K
                refine walk_off rfl rfl ?_
                go_simp
                refine walk_off rfl rfl ?_
                go_simp
                refine walk_off rfl rfl ?_
                go_simp
                refine walk_off rfl rfl ?_
                go_simp
                refine walk_off rfl rfl ?_
                go_simp
                refine walk_off rfl rfl ?_
                go_simp
                refine walk_off rfl rfl ?_
                go_simp
                refine walk_off rfl rfl ?_
                go_simp
                refine walk_off rfl rfl ?_
                go_simp
                refine walk_off rfl rfl ?_
                go_simp
                refine walk_off rfl rfl ?_
                go_simp
                refine walk_off rfl rfl ?_
                go_simp
                refine walk_off rfl rfl ?_
                go_simp
                refine walk_float rfl rfl (fun K hK => ?_)
                first
                  | (refine gives_pickT _ _ _ rfl rfl _ rfl ?_)
                go_simp
                refine hK _ ?_
                clear hK K
                refine walk_float rfl rfl (fun K hK => ?_)
                first
                  | (refine gives_assign _ rfl ?_)
                go_simp
                refine hK _ ?_
                clear hK K
                refine walk_nil ?_
                go_wp2
                refine wp_region_sched [(0, true), (1, true), (2, true), (3, true), (4, true), (5, true), (6, true), (7, true), (8, true), (9, true), (10, true), (11, true), (12, true), (13, true), (14, true), (15, true), (16, true), (17, true)] (fun W => Below wr.heap.size wr W) (by kernel_rfl) (by kernel_rfl) (((Below.refl _ wr).drew).drew) ?_
                refine walk_float rfl rfl (fun K hK => ?_)
                first
                  | (refine gives_move _ rfl ?_)
                go_simp
                refine hK _ ?_
                clear hK K
                refine walk_float rfl rfl (fun K hK => ?_)
                first
                  | (refine gives_move _ rfl ?_)
                go_simp
                refine hK _ ?_
                clear hK K
                refine walk_float rfl rfl (fun K hK => ?_)
                first
                  | (refine gives_move _ rfl ?_)
                go_simp
                refine hK _ ?_
                clear hK K
                refine walk_float rfl rfl (fun K hK => ?_)
                first
                  | (refine gives_int_less _ _ rfl (b : Nat) 0 rfl rfl _ db ?_)
                go_simp
                refine hK _ ?_
                clear hK K
                refine walk_float rfl rfl (fun K hK => ?_)
                first
                  | (refine gives_move _ rfl ?_)
                go_simp
                refine hK _ ?_
                clear hK K
                refine walk_float rfl rfl (fun K hK => ?_)
                first
                  | (refine gives_move _ rfl ?_)
                go_simp
                refine hK _ ?_
                clear hK K
                refine walk_float rfl rfl (fun K hK => ?_)
                first
                  | (refine gives_move _ rfl ?_)
                go_simp
                refine hK _ ?_
                clear hK K
                refine walk_float rfl rfl (fun K hK => ?_)
                first
                  | (refine gives_put_elem _ _ rfl B o n cap i rfl rfl HI.out ?_)
                go_simp
                refine hK _ ?_
                clear hK K
                refine walk_float rfl rfl (fun K hK => ?_)
                first
                  | (refine gives_putfield _ 0 rfl (by decide) B (o + 129 * i) rfl ?_)
                go_simp
                refine hK _ ?_
                clear hK K
                refine walk_float rfl rfl (fun K hK => ?_)
                first
                  | (refine gives_cell 3 _ rfl ⟨B, o + 129 * i, none⟩ (.int .i64 c.at') rfl box_int HC.out ?_)
                go_simp
                refine hK _ ?_
                clear hK K
                refine walk_float rfl rfl (fun K hK => ?_)
                first
                  | (refine gives_move _ rfl ?_)
                go_simp
                refine hK _ ?_
                clear hK K
                refine walk_float rfl rfl (fun K hK => ?_)
                first
                  | (refine gives_move _ rfl ?_)
                go_simp
                refine hK _ ?_
                clear hK K
                refine walk_float rfl rfl (fun K hK => ?_)
                first
                  | (refine gives_put_elem _ _ rfl B o n cap b rfl rfl HBI2.out ?_)
                go_simp
                refine hK _ ?_
                clear hK K
                refine walk_float rfl rfl (fun K hK => ?_)
                first
                  | (refine gives_putfield _ 0 rfl (by decide) B (o + 129 * b) rfl ?_)
                go_simp
                refine hK _ ?_
                clear hK K
                refine walk_float rfl rfl (fun K hK => ?_)
                first
                  | (refine gives_cell 3 _ rfl ⟨B, o + 129 * b, none⟩ (.int .i64 d.at') rfl box_int HD.out ?_)
                go_simp
                refine hK _ ?_
                clear hK K
                refine walk_float rfl rfl (fun K hK => ?_)
                first
                  | (refine gives_int_most _ _ rfl c.at' d.at' rfl rfl _ dm ?_)
                go_simp
                refine hK _ ?_
                clear hK K
                refine walk_float rfl rfl (fun K hK => ?_)
                first
                  | (refine gives_pickF _ _ _ rfl rfl _ rfl ?_)
                go_simp
                refine hK _ ?_
                clear hK K
                refine walk_float rfl rfl (fun K hK => ?_)
                first
                  | (refine gives_pickT _ _ _ rfl rfl _ rfl ?_)
                go_simp
                refine hK _ ?_
                clear hK K
                refine walk_nil ?_
                go_wp2
                go_roundw
                case rel => exact ⟨i + 1, HI.out, by go_num, by rw [HX.out], HBI.out.trans ((((Below.refl _ wr).drew).drew).mono HBI.out.size)⟩
                case measure => have := HI.out; simp [intOf]; omega
          · have dj : (((j : Nat) : Int) == 0) = false := by simp [hj0]
            have J1 := Lib.hid (show IntKind.i64.wrap (((j : Nat) : Int) - 1) = ((j - 1 : Nat) : Int) by have := HN.out; have := HJ.out; have := KM.out; rw [IntWalk.i64_in _ (by omega)]; omega)
            have J2 := Lib.hid (show j - 1 < j by omega)
            have hly := HLY.out (by omega)
            obtain ⟨OB, oo, rfl, hOB, hor⟩ := rowsAt_get HRO.out (show j - 1 < (mergeK l (K.take j)).length by rw [HLN.out]; omega)
            have hml := merge_last HK.out (show 0 < j by omega) HJ.out
            have HZ := Lib.hid (fun W (h : Below wr.heap.size wr W) => show W.cell? ⟨OB, oo + 129 * (j - 1), none⟩ = some (.int .i64 (K.getD (j - 1) 0)) from by rw [← hml]; exact at_cell (rangeAt_below (rangeAt_below hor HBI.out hOB) h (Nat.lt_of_lt_of_le hOB HBI.out.size)))
            clear hor hml hj0
            generalize K.getD (j - 1) 0 = z at *
            by_cases hzc : z < c.at'
            · have dl : decide (z < c.at') = true := decide_eq_true hzc
              have hla := hly.2 hzc
              rcases hbt : bestTo l (prevK K j) i with _ | b
              · obtain rfl : z5 = -1 := by rw [← hz5, hbt, bestZ_none]
                have HX := Lib.hid (show bestZ (bestTo l (prevK K j) (i + 1)) = (i : Nat) from by rw [X2.out hla hbt, bestZ_some])
                have db : decide ((-1 : Int) < 0) = true := rfl
                clear hla hbt hz5 X1 X2 X3 X4 HLX HLY hly hzc hOB hc
                go_wp2
                refine wp_region_sched [(0, true), (1, true), (2, true), (3, true), (4, true), (5, true), (6, true), (7, true), (8, true), (9, true), (10, true), (11, true), (12, true), (13, true), (14, true), (15, true), (16, true), (17, true), (18, true)] (fun W => Below wr.heap.size wr W) (by kernel_rfl) (by kernel_rfl) ((Below.refl _ wr).drew) ?_
                refine walk_float rfl rfl (fun K hK => ?_)
                first
                  | (refine gives_move _ rfl ?_)
                go_simp
                refine hK _ ?_
                clear hK K
                refine walk_float rfl rfl (fun K hK => ?_)
                first
                  | (refine gives_len_puts _ rfl _ j oc rfl ?_)
                go_simp
                refine hK _ ?_
                clear hK K
                refine walk_float rfl rfl (fun K hK => ?_)
                first
                  | (refine gives_int_is _ _ rfl (j : Nat) 0 rfl rfl _ dj ?_)
                go_simp
                refine hK _ ?_
                clear hK K
                refine walk_float rfl rfl (fun K hK => ?_)
                first
                  | (refine gives_move _ rfl ?_)
                go_simp
                refine hK _ ?_
                clear hK K
                refine walk_float rfl rfl (fun K hK => ?_)
                first
                  | (refine gives_move _ rfl ?_)
                go_simp
                refine hK _ ?_
                clear hK K
                refine walk_float rfl rfl (fun K hK => ?_)
                first
                  | (refine gives_move _ rfl ?_)
                go_simp
                refine hK _ ?_
                clear hK K
                refine walk_float rfl rfl (fun K hK => ?_)
                first
                  | (refine gives_put_elem _ _ rfl B o n cap i rfl rfl HI.out ?_)
                go_simp
                refine hK _ ?_
                clear hK K
                refine walk_float rfl rfl (fun K hK => ?_)
                first
                  | (refine gives_putfield _ 0 rfl (by decide) B (o + 129 * i) rfl ?_)
                go_simp
                refine hK _ ?_
                clear hK K
                refine walk_float rfl rfl (fun K hK => ?_)
                first
                  | (refine gives_cell 3 _ rfl ⟨B, o + 129 * i, none⟩ (.int .i64 c.at') rfl box_int HC.out ?_)
                go_simp
                refine hK _ ?_
                clear hK K
                refine walk_float rfl rfl (fun K hK => ?_)
                first
                  | (refine gives_move _ rfl ?_)
                go_simp
                refine hK _ ?_
                clear hK K
                refine walk_float rfl rfl (fun K hK => ?_)
                first
                  | (refine gives_move _ rfl ?_)
                go_simp
                refine hK _ ?_
                clear hK K
                refine walk_float rfl rfl (fun K hK => ?_)
                first
                  | (refine gives_len_puts _ rfl _ j oc rfl ?_)
                go_simp
                refine hK _ ?_
                clear hK K
                refine walk_float rfl rfl (fun K hK => ?_)
                first
                  | (refine gives_int_less1 _ _ rfl (j : Nat) 1 ((j - 1 : Nat) : Int) rfl rfl J1.out ?_)
                go_simp
                refine hK _ ?_
                clear hK K
                refine walk_float rfl rfl (fun K hK => ?_)
                first
                  | (refine gives_put_elem _ _ rfl OB oo j oc (j - 1) rfl rfl J2.out ?_)
                go_simp
                refine hK _ ?_
                clear hK K
                refine walk_float rfl rfl (fun K hK => ?_)
                first
                  | (refine gives_putfield _ 0 rfl (by decide) OB (oo + 129 * (j - 1)) rfl ?_)
                go_simp
                refine hK _ ?_
                clear hK K
                refine walk_float rfl rfl (fun K hK => ?_)
                first
                  | (refine gives_cell 3 _ rfl ⟨OB, oo + 129 * (j - 1), none⟩ (.int .i64 z) rfl box_int HZ.out ?_)
                go_simp
                refine hK _ ?_
                clear hK K
                refine walk_float rfl rfl (fun K hK => ?_)
                first
                  | (refine gives_int_over _ _ rfl c.at' z rfl rfl _ dl ?_)
                go_simp
                refine hK _ ?_
                clear hK K
                refine walk_float rfl rfl (fun K hK => ?_)
                first
                  | (refine gives_pickF _ _ _ rfl rfl _ rfl ?_)
                go_simp
                refine hK _ ?_
                clear hK K
                refine walk_float rfl rfl (fun K hK => ?_)
                first
                  | (refine gives_assign _ rfl ?_)
                go_simp
                refine hK _ ?_
                clear hK K
                refine walk_nil ?_
                go_wp2
                refine wp_region_sched [(0, true), (1, true), (2, true), (3, true), (4, true), (5, true), (6, true), (7, true), (8, true), (9, true), (10, true), (11, true), (12, true), (13, true), (14, true), (15, true), (16, true), (17, true)] (fun W => Below wr.heap.size wr W) (by kernel_rfl) (by kernel_rfl) (((Below.refl _ wr).drew).drew) ?_
                refine walk_float rfl rfl (fun K hK => ?_)
                first
                  | (refine gives_move _ rfl ?_)
                go_simp
                refine hK _ ?_
                clear hK K
                refine walk_float rfl rfl (fun K hK => ?_)
                first
                  | (refine gives_move _ rfl ?_)
                go_simp
                refine hK _ ?_
                clear hK K
                refine walk_float rfl rfl (fun K hK => ?_)
                first
                  | (refine gives_move _ rfl ?_)
                go_simp
                refine hK _ ?_
                clear hK K
                refine walk_float rfl rfl (fun K hK => ?_)
                first
                  | (refine gives_int_less _ _ rfl (-1) 0 rfl rfl _ db ?_)
                go_simp
                refine hK _ ?_
                clear hK K
                refine walk_float rfl rfl (fun K hK => ?_)
                first
                  | (refine gives_move _ rfl ?_)
                go_simp
                refine hK _ ?_
                clear hK K
                refine walk_off rfl rfl ?_
                go_simp
                refine walk_off rfl rfl ?_
                go_simp
                refine walk_off rfl rfl ?_
                go_simp
                refine walk_off rfl rfl ?_
                go_simp
                refine walk_off rfl rfl ?_
                go_simp
                refine walk_off rfl rfl ?_
                go_simp
                refine walk_off rfl rfl ?_
                go_simp
                refine walk_off rfl rfl ?_
                go_simp
                refine walk_off rfl rfl ?_
                go_simp
                refine walk_off rfl rfl ?_
                go_simp
                refine walk_off rfl rfl ?_
                go_simp
                refine walk_float rfl rfl (fun K hK => ?_)
                first
                  | (refine gives_pickT _ _ _ rfl rfl _ rfl ?_)
                go_simp
                refine hK _ ?_
                clear hK K
                refine walk_float rfl rfl (fun K hK => ?_)
                first
                  | (refine gives_pickT _ _ _ rfl rfl _ rfl ?_)
                go_simp
                refine hK _ ?_
                clear hK K
                refine walk_nil ?_
                go_wp2
                go_roundw
                case rel => exact ⟨i + 1, HI.out, by go_num, by rw [HX.out], HBI.out.trans ((((Below.refl _ wr).drew).drew).mono HBI.out.size)⟩
                case measure => have := HI.out; simp [intOf]; omega
              · obtain rfl : z5 = (b : Nat) := by rw [← hz5, hbt, bestZ_some]
                have hbi := (bestTo_some hbt).1
                have HBI2 := Lib.hid (show b < n by have := HI.out; omega)
                have HD := Lib.hid (HDX.out b HBI2.out)
                have db : decide ((b : Int) < 0) = false := by simp
                by_cases hle : c.at' ≤ (l.getD b noPut).at'
                · have HX := Lib.hid (show bestZ (bestTo l (prevK K j) (i + 1)) = (i : Nat) from by rw [X3.out b hla hbt hle, bestZ_some])
                  have dm : decide (c.at' ≤ (l.getD b noPut).at') = true := decide_eq_true hle
                  clear hla hbt hz5 X1 X2 X3 X4 HLX HLY hle hbi HDX hly hzc hOB hc
                  generalize l.getD b noPut = d at *
                  go_wp2
                  refine wp_region_sched [(0, true), (1, true), (2, true), (3, true), (4, true), (5, true), (6, true), (7, true), (8, true), (9, true), (10, true), (11, true), (12, true), (13, true), (14, true), (15, true), (16, true), (17, true), (18, true)] (fun W => Below wr.heap.size wr W) (by kernel_rfl) (by kernel_rfl) ((Below.refl _ wr).drew) ?_
                  refine walk_float rfl rfl (fun K hK => ?_)
                  first
                    | (refine gives_move _ rfl ?_)
                  go_simp
                  refine hK _ ?_
                  clear hK K
                  refine walk_float rfl rfl (fun K hK => ?_)
                  first
                    | (refine gives_len_puts _ rfl _ j oc rfl ?_)
                  go_simp
                  refine hK _ ?_
                  clear hK K
                  refine walk_float rfl rfl (fun K hK => ?_)
                  first
                    | (refine gives_int_is _ _ rfl (j : Nat) 0 rfl rfl _ dj ?_)
                  go_simp
                  refine hK _ ?_
                  clear hK K
                  refine walk_float rfl rfl (fun K hK => ?_)
                  first
                    | (refine gives_move _ rfl ?_)
                  go_simp
                  refine hK _ ?_
                  clear hK K
                  refine walk_float rfl rfl (fun K hK => ?_)
                  first
                    | (refine gives_move _ rfl ?_)
                  go_simp
                  refine hK _ ?_
                  clear hK K
                  refine walk_float rfl rfl (fun K hK => ?_)
                  first
                    | (refine gives_move _ rfl ?_)
                  go_simp
                  refine hK _ ?_
                  clear hK K
                  refine walk_float rfl rfl (fun K hK => ?_)
                  first
                    | (refine gives_put_elem _ _ rfl B o n cap i rfl rfl HI.out ?_)
                  go_simp
                  refine hK _ ?_
                  clear hK K
                  refine walk_float rfl rfl (fun K hK => ?_)
                  first
                    | (refine gives_putfield _ 0 rfl (by decide) B (o + 129 * i) rfl ?_)
                  go_simp
                  refine hK _ ?_
                  clear hK K
                  refine walk_float rfl rfl (fun K hK => ?_)
                  first
                    | (refine gives_cell 3 _ rfl ⟨B, o + 129 * i, none⟩ (.int .i64 c.at') rfl box_int HC.out ?_)
                  go_simp
                  refine hK _ ?_
                  clear hK K
                  refine walk_float rfl rfl (fun K hK => ?_)
                  first
                    | (refine gives_move _ rfl ?_)
                  go_simp
                  refine hK _ ?_
                  clear hK K
                  refine walk_float rfl rfl (fun K hK => ?_)
                  first
                    | (refine gives_move _ rfl ?_)
                  go_simp
                  refine hK _ ?_
                  clear hK K
                  refine walk_float rfl rfl (fun K hK => ?_)
                  first
                    | (refine gives_len_puts _ rfl _ j oc rfl ?_)
                  go_simp
                  refine hK _ ?_
                  clear hK K
                  refine walk_float rfl rfl (fun K hK => ?_)
                  first
                    | (refine gives_int_less1 _ _ rfl (j : Nat) 1 ((j - 1 : Nat) : Int) rfl rfl J1.out ?_)
                  go_simp
                  refine hK _ ?_
                  clear hK K
                  refine walk_float rfl rfl (fun K hK => ?_)
                  first
                    | (refine gives_put_elem _ _ rfl OB oo j oc (j - 1) rfl rfl J2.out ?_)
                  go_simp
                  refine hK _ ?_
                  clear hK K
                  refine walk_float rfl rfl (fun K hK => ?_)
                  first
                    | (refine gives_putfield _ 0 rfl (by decide) OB (oo + 129 * (j - 1)) rfl ?_)
                  go_simp
                  refine hK _ ?_
                  clear hK K
                  refine walk_float rfl rfl (fun K hK => ?_)
                  first
                    | (refine gives_cell 3 _ rfl ⟨OB, oo + 129 * (j - 1), none⟩ (.int .i64 z) rfl box_int HZ.out ?_)
                  go_simp
                  refine hK _ ?_
                  clear hK K
                  refine walk_float rfl rfl (fun K hK => ?_)
                  first
                    | (refine gives_int_over _ _ rfl c.at' z rfl rfl _ dl ?_)
                  go_simp
                  refine hK _ ?_
                  clear hK K
                  refine walk_float rfl rfl (fun K hK => ?_)
                  first
                    | (refine gives_pickF _ _ _ rfl rfl _ rfl ?_)
                  go_simp
                  refine hK _ ?_
                  clear hK K
                  refine walk_float rfl rfl (fun K hK => ?_)
                  first
                    | (refine gives_assign _ rfl ?_)
                  go_simp
                  refine hK _ ?_
                  clear hK K
                  refine walk_nil ?_
                  go_wp2
                  refine wp_region_sched [(0, true), (1, true), (2, true), (3, true), (4, true), (5, true), (6, true), (7, true), (8, true), (9, true), (10, true), (11, true), (12, true), (13, true), (14, true), (15, true), (16, true), (17, true)] (fun W => Below wr.heap.size wr W) (by kernel_rfl) (by kernel_rfl) (((Below.refl _ wr).drew).drew) ?_
                  refine walk_float rfl rfl (fun K hK => ?_)
                  first
                    | (refine gives_move _ rfl ?_)
                  go_simp
                  refine hK _ ?_
                  clear hK K
                  refine walk_float rfl rfl (fun K hK => ?_)
                  first
                    | (refine gives_move _ rfl ?_)
                  go_simp
                  refine hK _ ?_
                  clear hK K
                  refine walk_float rfl rfl (fun K hK => ?_)
                  first
                    | (refine gives_move _ rfl ?_)
                  go_simp
                  refine hK _ ?_
                  clear hK K
                  refine walk_float rfl rfl (fun K hK => ?_)
                  first
                    | (refine gives_int_less _ _ rfl (b : Nat) 0 rfl rfl _ db ?_)
                  go_simp
                  refine hK _ ?_
                  clear hK K
                  refine walk_float rfl rfl (fun K hK => ?_)
                  first
                    | (refine gives_move _ rfl ?_)
                  go_simp
                  refine hK _ ?_
                  clear hK K
                  refine walk_float rfl rfl (fun K hK => ?_)
                  first
                    | (refine gives_move _ rfl ?_)
                  go_simp
                  refine hK _ ?_
                  clear hK K
                  refine walk_float rfl rfl (fun K hK => ?_)
                  first
                    | (refine gives_move _ rfl ?_)
                  go_simp
                  refine hK _ ?_
                  clear hK K
                  refine walk_float rfl rfl (fun K hK => ?_)
                  first
                    | (refine gives_put_elem _ _ rfl B o n cap i rfl rfl HI.out ?_)
                  go_simp
                  refine hK _ ?_
                  clear hK K
                  refine walk_float rfl rfl (fun K hK => ?_)
                  first
                    | (refine gives_putfield _ 0 rfl (by decide) B (o + 129 * i) rfl ?_)
                  go_simp
                  refine hK _ ?_
                  clear hK K
                  refine walk_float rfl rfl (fun K hK => ?_)
                  first
                    | (refine gives_cell 3 _ rfl ⟨B, o + 129 * i, none⟩ (.int .i64 c.at') rfl box_int HC.out ?_)
                  go_simp
                  refine hK _ ?_
                  clear hK K
                  refine walk_float rfl rfl (fun K hK => ?_)
                  first
                    | (refine gives_move _ rfl ?_)
                  go_simp
                  refine hK _ ?_
                  clear hK K
                  refine walk_float rfl rfl (fun K hK => ?_)
                  first
                    | (refine gives_move _ rfl ?_)
                  go_simp
                  refine hK _ ?_
                  clear hK K
                  refine walk_float rfl rfl (fun K hK => ?_)
                  first
                    | (refine gives_put_elem _ _ rfl B o n cap b rfl rfl HBI2.out ?_)
                  go_simp
                  refine hK _ ?_
                  clear hK K
                  refine walk_float rfl rfl (fun K hK => ?_)
                  first
                    | (refine gives_putfield _ 0 rfl (by decide) B (o + 129 * b) rfl ?_)
                  go_simp
                  refine hK _ ?_
                  clear hK K
                  refine walk_float rfl rfl (fun K hK => ?_)
                  first
                    | (refine gives_cell 3 _ rfl ⟨B, o + 129 * b, none⟩ (.int .i64 d.at') rfl box_int HD.out ?_)
                  go_simp
                  refine hK _ ?_
                  clear hK K
                  refine walk_float rfl rfl (fun K hK => ?_)
                  first
                    | (refine gives_int_most _ _ rfl c.at' d.at' rfl rfl _ dm ?_)
                  go_simp
                  refine hK _ ?_
                  clear hK K
                  refine walk_float rfl rfl (fun K hK => ?_)
                  first
                    | (refine gives_pickF _ _ _ rfl rfl _ rfl ?_)
                  go_simp
                  refine hK _ ?_
                  clear hK K
                  refine walk_float rfl rfl (fun K hK => ?_)
                  first
                    | (refine gives_pickT _ _ _ rfl rfl _ rfl ?_)
                  go_simp
                  refine hK _ ?_
                  clear hK K
                  refine walk_nil ?_
                  go_wp2
                  go_roundw
                  case rel => exact ⟨i + 1, HI.out, by go_num, by rw [HX.out], HBI.out.trans ((((Below.refl _ wr).drew).drew).mono HBI.out.size)⟩
                  case measure => have := HI.out; simp [intOf]; omega
                · have HX := Lib.hid (show bestZ (bestTo l (prevK K j) (i + 1)) = (b : Nat) from by rw [X4.out b hla hbt hle, bestZ_some])
                  have dm : decide (c.at' ≤ (l.getD b noPut).at') = false := decide_eq_false hle
                  clear hla hbt hz5 X1 X2 X3 X4 HLX HLY hle hbi HDX hly hzc hOB hc
                  generalize l.getD b noPut = d at *
                  go_wp2
                  refine wp_region_sched [(0, true), (1, true), (2, true), (3, true), (4, true), (5, true), (6, true), (7, true), (8, true), (9, true), (10, true), (11, true), (12, true), (13, true), (14, true), (15, true), (16, true), (17, true), (18, true)] (fun W => Below wr.heap.size wr W) (by kernel_rfl) (by kernel_rfl) ((Below.refl _ wr).drew) ?_
                  refine walk_float rfl rfl (fun K hK => ?_)
                  first
                    | (refine gives_move _ rfl ?_)
                  go_simp
                  refine hK _ ?_
                  clear hK K
                  refine walk_float rfl rfl (fun K hK => ?_)
                  first
                    | (refine gives_len_puts _ rfl _ j oc rfl ?_)
                  go_simp
                  refine hK _ ?_
                  clear hK K
                  refine walk_float rfl rfl (fun K hK => ?_)
                  first
                    | (refine gives_int_is _ _ rfl (j : Nat) 0 rfl rfl _ dj ?_)
                  go_simp
                  refine hK _ ?_
                  clear hK K
                  refine walk_float rfl rfl (fun K hK => ?_)
                  first
                    | (refine gives_move _ rfl ?_)
                  go_simp
                  refine hK _ ?_
                  clear hK K
                  refine walk_float rfl rfl (fun K hK => ?_)
                  first
                    | (refine gives_move _ rfl ?_)
                  go_simp
                  refine hK _ ?_
                  clear hK K
                  refine walk_float rfl rfl (fun K hK => ?_)
                  first
                    | (refine gives_move _ rfl ?_)
                  go_simp
                  refine hK _ ?_
                  clear hK K
                  refine walk_float rfl rfl (fun K hK => ?_)
                  first
                    | (refine gives_put_elem _ _ rfl B o n cap i rfl rfl HI.out ?_)
                  go_simp
                  refine hK _ ?_
                  clear hK K
                  refine walk_float rfl rfl (fun K hK => ?_)
                  first
                    | (refine gives_putfield _ 0 rfl (by decide) B (o + 129 * i) rfl ?_)
                  go_simp
                  refine hK _ ?_
                  clear hK K
                  refine walk_float rfl rfl (fun K hK => ?_)
                  first
                    | (refine gives_cell 3 _ rfl ⟨B, o + 129 * i, none⟩ (.int .i64 c.at') rfl box_int HC.out ?_)
                  go_simp
                  refine hK _ ?_
                  clear hK K
                  refine walk_float rfl rfl (fun K hK => ?_)
                  first
                    | (refine gives_move _ rfl ?_)
                  go_simp
                  refine hK _ ?_
                  clear hK K
                  refine walk_float rfl rfl (fun K hK => ?_)
                  first
                    | (refine gives_move _ rfl ?_)
                  go_simp
                  refine hK _ ?_
                  clear hK K
                  refine walk_float rfl rfl (fun K hK => ?_)
                  first
                    | (refine gives_len_puts _ rfl _ j oc rfl ?_)
                  go_simp
                  refine hK _ ?_
                  clear hK K
                  refine walk_float rfl rfl (fun K hK => ?_)
                  first
                    | (refine gives_int_less1 _ _ rfl (j : Nat) 1 ((j - 1 : Nat) : Int) rfl rfl J1.out ?_)
                  go_simp
                  refine hK _ ?_
                  clear hK K
                  refine walk_float rfl rfl (fun K hK => ?_)
                  first
                    | (refine gives_put_elem _ _ rfl OB oo j oc (j - 1) rfl rfl J2.out ?_)
                  go_simp
                  refine hK _ ?_
                  clear hK K
                  refine walk_float rfl rfl (fun K hK => ?_)
                  first
                    | (refine gives_putfield _ 0 rfl (by decide) OB (oo + 129 * (j - 1)) rfl ?_)
                  go_simp
                  refine hK _ ?_
                  clear hK K
                  refine walk_float rfl rfl (fun K hK => ?_)
                  first
                    | (refine gives_cell 3 _ rfl ⟨OB, oo + 129 * (j - 1), none⟩ (.int .i64 z) rfl box_int HZ.out ?_)
                  go_simp
                  refine hK _ ?_
                  clear hK K
                  refine walk_float rfl rfl (fun K hK => ?_)
                  first
                    | (refine gives_int_over _ _ rfl c.at' z rfl rfl _ dl ?_)
                  go_simp
                  refine hK _ ?_
                  clear hK K
                  refine walk_float rfl rfl (fun K hK => ?_)
                  first
                    | (refine gives_pickF _ _ _ rfl rfl _ rfl ?_)
                  go_simp
                  refine hK _ ?_
                  clear hK K
                  refine walk_float rfl rfl (fun K hK => ?_)
                  first
                    | (refine gives_assign _ rfl ?_)
                  go_simp
                  refine hK _ ?_
                  clear hK K
                  refine walk_nil ?_
                  go_wp2
                  refine wp_region_sched [(0, true), (1, true), (2, true), (3, true), (4, true), (5, true), (6, true), (7, true), (8, true), (9, true), (10, true), (11, true), (12, true), (13, true), (14, true), (15, true), (16, true), (17, true)] (fun W => Below wr.heap.size wr W) (by kernel_rfl) (by kernel_rfl) (((Below.refl _ wr).drew).drew) ?_
                  refine walk_float rfl rfl (fun K hK => ?_)
                  first
                    | (refine gives_move _ rfl ?_)
                  go_simp
                  refine hK _ ?_
                  clear hK K
                  refine walk_float rfl rfl (fun K hK => ?_)
                  first
                    | (refine gives_move _ rfl ?_)
                  go_simp
                  refine hK _ ?_
                  clear hK K
                  refine walk_float rfl rfl (fun K hK => ?_)
                  first
                    | (refine gives_move _ rfl ?_)
                  go_simp
                  refine hK _ ?_
                  clear hK K
                  refine walk_float rfl rfl (fun K hK => ?_)
                  first
                    | (refine gives_int_less _ _ rfl (b : Nat) 0 rfl rfl _ db ?_)
                  go_simp
                  refine hK _ ?_
                  clear hK K
                  refine walk_float rfl rfl (fun K hK => ?_)
                  first
                    | (refine gives_move _ rfl ?_)
                  go_simp
                  refine hK _ ?_
                  clear hK K
                  refine walk_float rfl rfl (fun K hK => ?_)
                  first
                    | (refine gives_move _ rfl ?_)
                  go_simp
                  refine hK _ ?_
                  clear hK K
                  refine walk_float rfl rfl (fun K hK => ?_)
                  first
                    | (refine gives_move _ rfl ?_)
                  go_simp
                  refine hK _ ?_
                  clear hK K
                  refine walk_float rfl rfl (fun K hK => ?_)
                  first
                    | (refine gives_put_elem _ _ rfl B o n cap i rfl rfl HI.out ?_)
                  go_simp
                  refine hK _ ?_
                  clear hK K
                  refine walk_float rfl rfl (fun K hK => ?_)
                  first
                    | (refine gives_putfield _ 0 rfl (by decide) B (o + 129 * i) rfl ?_)
                  go_simp
                  refine hK _ ?_
                  clear hK K
                  refine walk_float rfl rfl (fun K hK => ?_)
                  first
                    | (refine gives_cell 3 _ rfl ⟨B, o + 129 * i, none⟩ (.int .i64 c.at') rfl box_int HC.out ?_)
                  go_simp
                  refine hK _ ?_
                  clear hK K
                  refine walk_float rfl rfl (fun K hK => ?_)
                  first
                    | (refine gives_move _ rfl ?_)
                  go_simp
                  refine hK _ ?_
                  clear hK K
                  refine walk_float rfl rfl (fun K hK => ?_)
                  first
                    | (refine gives_move _ rfl ?_)
                  go_simp
                  refine hK _ ?_
                  clear hK K
                  refine walk_float rfl rfl (fun K hK => ?_)
                  first
                    | (refine gives_put_elem _ _ rfl B o n cap b rfl rfl HBI2.out ?_)
                  go_simp
                  refine hK _ ?_
                  clear hK K
                  refine walk_float rfl rfl (fun K hK => ?_)
                  first
                    | (refine gives_putfield _ 0 rfl (by decide) B (o + 129 * b) rfl ?_)
                  go_simp
                  refine hK _ ?_
                  clear hK K
                  refine walk_float rfl rfl (fun K hK => ?_)
                  first
                    | (refine gives_cell 3 _ rfl ⟨B, o + 129 * b, none⟩ (.int .i64 d.at') rfl box_int HD.out ?_)
                  go_simp
                  refine hK _ ?_
                  clear hK K
                  refine walk_float rfl rfl (fun K hK => ?_)
                  first
                    | (refine gives_int_most _ _ rfl c.at' d.at' rfl rfl _ dm ?_)
                  go_simp
                  refine hK _ ?_
                  clear hK K
                  refine walk_float rfl rfl (fun K hK => ?_)
                  first
                    | (refine gives_pickF _ _ _ rfl rfl _ rfl ?_)
                  go_simp
                  refine hK _ ?_
                  clear hK K
                  refine walk_float rfl rfl (fun K hK => ?_)
                  first
                    | (refine gives_pickT _ _ _ rfl rfl _ rfl ?_)
                  go_simp
                  refine hK _ ?_
                  clear hK K
                  refine walk_nil ?_
                  go_wp2
                  go_roundw
                  case rel => exact ⟨i + 1, HI.out, by go_num, by rw [HX.out], HBI.out.trans ((((Below.refl _ wr).drew).drew).mono HBI.out.size)⟩
                  case measure => have := HI.out; simp [intOf]; omega
            · have dl : decide (z < c.at') = false := decide_eq_false hzc
              have HX := Lib.hid (show bestZ (bestTo l (prevK K j) (i + 1)) = z5 from by rw [X1.out (fun h => hzc (hly.1 h)), hz5])
              clear hz5 X1 X2 X3 X4 HLX HLY hly hzc hOB HDX hc
              go_wp2
              refine wp_region_sched [(0, true), (1, true), (2, true), (3, true), (4, true), (5, true), (6, true), (7, true), (8, true), (9, true), (10, true), (11, true), (12, true), (13, true), (14, true), (15, true), (16, true), (17, true), (18, true)] (fun W => Below wr.heap.size wr W) (by kernel_rfl) (by kernel_rfl) ((Below.refl _ wr).drew) ?_
              refine walk_float rfl rfl (fun K hK => ?_)
              first
                | (refine gives_move _ rfl ?_)
              go_simp
              refine hK _ ?_
              clear hK K
              refine walk_float rfl rfl (fun K hK => ?_)
              first
                | (refine gives_len_puts _ rfl _ j oc rfl ?_)
              go_simp
              refine hK _ ?_
              clear hK K
              refine walk_float rfl rfl (fun K hK => ?_)
              first
                | (refine gives_int_is _ _ rfl (j : Nat) 0 rfl rfl _ dj ?_)
              go_simp
              refine hK _ ?_
              clear hK K
              refine walk_float rfl rfl (fun K hK => ?_)
              first
                | (refine gives_move _ rfl ?_)
              go_simp
              refine hK _ ?_
              clear hK K
              refine walk_float rfl rfl (fun K hK => ?_)
              first
                | (refine gives_move _ rfl ?_)
              go_simp
              refine hK _ ?_
              clear hK K
              refine walk_float rfl rfl (fun K hK => ?_)
              first
                | (refine gives_move _ rfl ?_)
              go_simp
              refine hK _ ?_
              clear hK K
              refine walk_float rfl rfl (fun K hK => ?_)
              first
                | (refine gives_put_elem _ _ rfl B o n cap i rfl rfl HI.out ?_)
              go_simp
              refine hK _ ?_
              clear hK K
              refine walk_float rfl rfl (fun K hK => ?_)
              first
                | (refine gives_putfield _ 0 rfl (by decide) B (o + 129 * i) rfl ?_)
              go_simp
              refine hK _ ?_
              clear hK K
              refine walk_float rfl rfl (fun K hK => ?_)
              first
                | (refine gives_cell 3 _ rfl ⟨B, o + 129 * i, none⟩ (.int .i64 c.at') rfl box_int HC.out ?_)
              go_simp
              refine hK _ ?_
              clear hK K
              refine walk_float rfl rfl (fun K hK => ?_)
              first
                | (refine gives_move _ rfl ?_)
              go_simp
              refine hK _ ?_
              clear hK K
              refine walk_float rfl rfl (fun K hK => ?_)
              first
                | (refine gives_move _ rfl ?_)
              go_simp
              refine hK _ ?_
              clear hK K
              refine walk_float rfl rfl (fun K hK => ?_)
              first
                | (refine gives_len_puts _ rfl _ j oc rfl ?_)
              go_simp
              refine hK _ ?_
              clear hK K
              refine walk_float rfl rfl (fun K hK => ?_)
              first
                | (refine gives_int_less1 _ _ rfl (j : Nat) 1 ((j - 1 : Nat) : Int) rfl rfl J1.out ?_)
              go_simp
              refine hK _ ?_
              clear hK K
              refine walk_float rfl rfl (fun K hK => ?_)
              first
                | (refine gives_put_elem _ _ rfl OB oo j oc (j - 1) rfl rfl J2.out ?_)
              go_simp
              refine hK _ ?_
              clear hK K
              refine walk_float rfl rfl (fun K hK => ?_)
              first
                | (refine gives_putfield _ 0 rfl (by decide) OB (oo + 129 * (j - 1)) rfl ?_)
              go_simp
              refine hK _ ?_
              clear hK K
              refine walk_float rfl rfl (fun K hK => ?_)
              first
                | (refine gives_cell 3 _ rfl ⟨OB, oo + 129 * (j - 1), none⟩ (.int .i64 z) rfl box_int HZ.out ?_)
              go_simp
              refine hK _ ?_
              clear hK K
              refine walk_float rfl rfl (fun K hK => ?_)
              first
                | (refine gives_int_over _ _ rfl c.at' z rfl rfl _ dl ?_)
              go_simp
              refine hK _ ?_
              clear hK K
              refine walk_float rfl rfl (fun K hK => ?_)
              first
                | (refine gives_pickF _ _ _ rfl rfl _ rfl ?_)
              go_simp
              refine hK _ ?_
              clear hK K
              refine walk_float rfl rfl (fun K hK => ?_)
              first
                | (refine gives_assign _ rfl ?_)
              go_simp
              refine hK _ ?_
              clear hK K
              refine walk_nil ?_
              go_wp2
              refine wp_region_sched [(0, true), (1, true), (2, true), (3, true), (4, true), (5, true), (6, true), (7, true), (8, true), (9, true), (10, true), (11, true), (12, true), (13, true), (14, true), (15, true), (16, true), (17, true)] (fun W => Below wr.heap.size wr W) (by kernel_rfl) (by kernel_rfl) (((Below.refl _ wr).drew).drew) ?_
              refine walk_float rfl rfl (fun K hK => ?_)
              first
                | (refine gives_move _ rfl ?_)
              go_simp
              refine hK _ ?_
              clear hK K
              refine walk_float rfl rfl (fun K hK => ?_)
              first
                | (refine gives_move _ rfl ?_)
              go_simp
              refine hK _ ?_
              clear hK K
              refine walk_off rfl rfl ?_
              go_simp
              refine walk_off rfl rfl ?_
              go_simp
              refine walk_off rfl rfl ?_
              go_simp
              refine walk_off rfl rfl ?_
              go_simp
              refine walk_off rfl rfl ?_
              go_simp
              refine walk_off rfl rfl ?_
              go_simp
              refine walk_off rfl rfl ?_
              go_simp
              refine walk_off rfl rfl ?_
              go_simp
              refine walk_off rfl rfl ?_
              go_simp
              refine walk_off rfl rfl ?_
              go_simp
              refine walk_off rfl rfl ?_
              go_simp
              refine walk_off rfl rfl ?_
              go_simp
              refine walk_off rfl rfl ?_
              go_simp
              refine walk_off rfl rfl ?_
              go_simp
              refine walk_off rfl rfl ?_
              go_simp
              refine walk_float rfl rfl (fun K hK => ?_)
              first
                | (refine gives_pickF _ _ _ rfl rfl _ rfl ?_)
              go_simp
              refine hK _ ?_
              clear hK K
              refine walk_nil ?_
              go_wp2
              go_roundw
              case rel => exact ⟨i + 1, HI.out, by go_num, by rw [HX.out], HBI.out.trans ((((Below.refl _ wr).drew).drew).mono HBI.out.size)⟩
              case measure => have := HI.out; simp [intOf]; omega
        · obtain rfl : i = n := by omega
          have g1 : ¬ (i : Int) < (i : Int) := by omega
          have HBW := Lib.hid (HB.out.trans (HBI.out.mono HB.out.size))
          rcases hbt : bestTo l (prevK K j) i with _ | b
          · have hend := best_end HK.out HJ.out (by rw [hL]; exact hbt)
            rw [bestZ_none]
            subst hend
            have O5 := Lib.hid (HO.out.below (Nat.le_refl _) HBI.out)
            rw [List.take_of_length_le (Nat.le_refl _)] at O5
            clear hlt hi hbt
            go_wp2
            go_ret
            exact ⟨_, rfl, O5.out.raise HBI.out.size, HBW.out⟩
          · obtain ⟨hjk, hpk, hbl⟩ := best_next HK.out HJ.out (by rw [hL]; exact hbt)
            obtain ⟨B, o, rfl, hB, hr⟩ := rowsAt_get HP.out hbl
            have HR := Lib.hid (rangeAt_below hr HBW.out hB)
            have hnx := mergeK_next l K hjk
            rw [bestZ_some]
            rw [hpk] at HR
            generalize pickP l K[j] = c at *
            have HNX := Lib.hid hnx
            have HJK := Lib.hid hjk
            have HBL := Lib.hid (show b < i by omega)
            have db : decide ((b : Int) < 0) = false := by simp
            have e0 : (b : Int) < (i : Int) := by omega
            have e1 : (0 : Int) ≤ b := by omega
            have e2 : IntKind.i64.wrap ((j : Int) + 1) = ((j + 1 : Nat) : Int) := by have := HN.out; have := HJ.out; have := KM.out; rw [IntWalk.i64_in _ (by omega)]; omega
            have O5 := Lib.hid (HO.out.below (Nat.le_refl _) HBI.out)
            have HLE := Lib.hid (show (mergeK l (K.take j)).length ≤ 1000 by rw [HLN.out]; have := HN.out; have := HJ.out; have := KM.out; omega)
            clear hlt hi hbt hjk hpk hbl hr hB hnx HK HRO HO HBO HLN
            generalize mergeK l (K.take j) = m at *
            go_wp2_with (first
              | (refine wpList_put_elem rfl _ _ rfl B o i cap b rfl rfl HBL.out ?_)
              | (refine wpList_put_load rfl _ rfl B (o + 129 * b) rfl c HR.out ?_)
              | (refine wpList_put1 rfl _ rfl c rfl ?_)
              | (refine wpList_append_list elemPut rfl _ _ rfl w.heap.size w1.heap.size _ m [c] (some ⟨wr.heap.size, 0, none⟩) 1 1 rfl rfl rfl (O5.out.below HBI.out.size ((Below.refl _ wr).alloc (Nat.le_refl _) _)) (rows_one wr c) (by have := HLE.out; simp; omega) (by decide) (Nat.le_trans HBW.out.size (by simp)) ?_
                 intro v5 w5 ho5 hg5 hr5
                 have O6 := Lib.hid ho5
                 have B6 := Lib.hid ((HBW.out.alloc HBW.out.size _).trans (below_own1 hg5 O5.out.block (Nat.le_trans HBW.out.size (by simp))))
                 clear ho5 hg5 hr5))
            go_roundw
            case rel => exact ⟨j + 1, HJK.out, by go_num, by rw [HNX.out]; exact O6.out, B6.out⟩
            case measure => have := HLT.out; simp [intOf]; omega
    · have f1 : ¬ (j : Int) < (n : Int) := by omega
      have hKJ : j = K.length := by have := HJ.out; have := KM.out; omega
      subst hKJ
      clear hlt
      rw [List.take_of_length_le (Nat.le_refl _)] at HO
      go_wp2
      go_ret
      exact ⟨_, rfl, HO.out, HB.out⟩
end Go.Proofs.Ytdeojhcfbiekmaa
