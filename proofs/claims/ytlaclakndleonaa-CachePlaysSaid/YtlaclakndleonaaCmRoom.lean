/- The contract of makeRoom. Conditions: the cache lies in memory, its lines are good. -/
import Derived.Test.YtlaclakndleonaaCmForget
import Derived.WalkMore
namespace Go.Proofs.Ytlaclakndleonaa
open Go.ChangeShapes Go.WideShapes Go.ChangeAt Go.RowKit
set_option linter.unusedVariables false
theorem GoodL.ap {q : Int} {ls : List LineOf} (h : GoodL q ls) : Apart ls := h.apart
theorem find_at {ls : List LineOf} (h : Apart ls) {i : Nat} (hi : i < ls.length) : findL ls (lineAt ls i).u (lineAt ls i).b = i ∧ gotL ls (lineAt ls i).u (lineAt ls i).b = lineAt ls i := by
  have hx : (lineAt ls i).is (lineAt ls i).u (lineAt ls i).b = true := LineOf.is_iff.2 ⟨rfl, rfl⟩
  refine ⟨?_, got_one h (lineAt_mem hi) hx⟩
  refine idx_here hi ?_ hx
  rcases Nat.lt_or_ge (findL ls (lineAt ls i).u (lineAt ls i).b) i with hlt | hge
  · exfalso
    have h1 := List.findIdx_getElem (p := fun l => l.is (lineAt ls i).u (lineAt ls i).b) (xs := ls) (w := Nat.lt_trans hlt hi)
    have h2 := List.pairwise_iff_getElem.1 h _ _ (Nat.lt_trans hlt hi) hi hlt
    have e := lineAt_eq hi
    rw [LineOf.is_iff] at h1
    exact h2 ⟨h1.1.trans (congrArg LineOf.u e), h1.2.trans (congrArg LineOf.b e)⟩
  · exact hge
theorem keys_at {ls : List LineOf} {i : Nat} (hi : i < ls.length) : atP (keysL ls) i = ((lineAt ls i).u, (lineAt ls i).b) := by
  unfold atP keysL
  rw [List.getD_eq_getElem?_getD, List.getElem?_map, lineAt_get hi]; rfl
theorem own_places {w : World} {base top n c : Nat} {p : Option Addr} {ks : List (Int × Int)} (h : OwnL plT 2 placeC w base top (.slice p n c) ks) {i : Nat} (hi : i < ks.length) : ∃ LB, p = some ⟨LB, 0, none⟩ ∧ LB < w.heap.size ∧ w.rangeAt LB (2 * i) (placeC (atP ks i)) := by
  rcases h with ⟨h1, rfl⟩ | ⟨B, cap, cur, h1, h2, h3, h4, h5, h6, h7, h8⟩
  · simp at hi
  · cases h1
    have hp : PB w B _ ks := ⟨cur, cur.toList.drop (ks.length * 2), h4, h7, by rw [← h8, List.take_append_drop]⟩
    exact ⟨B, rfl, (Array.getElem?_eq_some_iff.1 h4).1, hp.at hi⟩
theorem clean_next {ls : List LineOf} {i : Nat} (hi : i < ls.length) (hle : i ≤ cleanL ls) (hd : (lineAt ls i).d = true) : i + 1 ≤ cleanL ls := idx_next (p := fun l => !l.d) hi hle (by rw [hd]; rfl)
theorem clean_here {ls : List LineOf} {i : Nat} (hi : i < ls.length) (hle : i ≤ cleanL ls) (hd : (lineAt ls i).d = false) : cleanL ls = i := idx_here (p := fun l => !l.d) hi hle (by rw [hd]; rfl)
/-- Is there room for one more line, behind the going of a clean one if need be? And what is left then. -/
def roomB (q : Int) (ls : List LineOf) : Bool := decide ((ls.length : Int) < q) || decide (cleanL ls < ls.length)
def roomL (q : Int) (ls : List LineOf) : List LineOf := if (ls.length : Int) < q then ls else if cleanL ls < ls.length then outL ls (cleanL ls) else ls
theorem room_has {q : Int} {ls : List LineOf} (h : (ls.length : Int) < q) : roomB q ls = true ∧ roomL q ls = ls := ⟨by unfold roomB; rw [decide_eq_true h]; rfl, if_pos h⟩
theorem room_out {q : Int} {ls : List LineOf} (h : ¬ (ls.length : Int) < q) (hc : cleanL ls < ls.length) : roomB q ls = true ∧ roomL q ls = outL ls (cleanL ls) := ⟨by unfold roomB; rw [decide_eq_true hc, Bool.or_true], by unfold roomL; rw [if_neg h, if_pos hc]⟩
theorem room_no {q : Int} {ls : List LineOf} (h : ¬ (ls.length : Int) < q) (hc : ¬ cleanL ls < ls.length) : roomB q ls = false ∧ roomL q ls = ls := ⟨by unfold roomB; rw [decide_eq_false h, decide_eq_false hc]; rfl, by unfold roomL; rw [if_neg h, if_neg hc]⟩
theorem clean_le (ls : List LineOf) : cleanL ls ≤ ls.length := idx_le ls
attribute [local irreducible] findL outL lineC lineAt cleanL placeC gotL keysL roomB roomL
attribute [local go_sem] Oper.semAt_some
set_option maxRecDepth 100000 in
set_option maxHeartbeats 4000000 in
theorem makeRoom_any {w : World} {B M : Nat} {q : Int} {v : Value} {ls : List LineOf} (h : CS w B M q v ls (keysL ls)) (g : GoodL q ls) :
    Calls Try.prog 29 #[.pointer (some ⟨B, 0, none⟩)] w fun e w' =>
      e = .returned (.bool (roomB q ls)) ∧ CT w w' B M q v (roomL q ls) (keysL (roomL q ls)) := by
  have HA := Lib.hid g.ap
  have HG := Lib.hid g
  have HC := Lib.hid h
  have HL8 := Lib.hid (show ls.length ≤ 8 from by have := g.few; have := g.high; omega)
  obtain ⟨p, cap, hv, -, -, -, -⟩ := h.own.rows elemPlace.len
  rw [keysL_len] at hv
  subst hv
  have HDC := Lib.hid (show CS w.drew B M q (.slice p ls.length cap) ls (keysL ls) from h.keep (Nat.le_refl _) fun _ _ => rfl)
  have HCS := Lib.hid (fun (W : World) (hW : Below w.heap.size w W) => h.below hW)
  have HRW := Lib.hid (fun i (hi : i < ls.length) => own_places h.own (i := i) (by rw [keysL_len]; exact hi))
  have HKA := Lib.hid (fun i (hi : i < ls.length) => keys_at (ls := ls) hi)
  have HFA := Lib.hid (fun i (hi : i < ls.length) => find_at HA.out hi)
  have HOK := Lib.hid (fun i (hi : i < ls.length) => g.ok _ (lineAt_mem hi))
  have HNX := Lib.hid (fun i (hi : i < ls.length) (hle : i ≤ cleanL ls) (hd : (lineAt ls i).d = true) => clean_next hi hle hd)
  have HHR := Lib.hid (fun i (hi : i < ls.length) (hle : i ≤ cleanL ls) (hd : (lineAt ls i).d = false) => clean_here hi hle hd)
  have HR1 := Lib.hid (fun h : (ls.length : Int) < q => room_has h)
  have HR2 := Lib.hid (fun (h : ¬ (ls.length : Int) < q) (hc : cleanL ls < ls.length) => room_out h hc)
  have HR3 := Lib.hid (fun (h : ¬ (ls.length : Int) < q) (hc : ¬ cleanL ls < ls.length) => room_no h hc)
  clear h g
  generalize hn : ls.length = n at *
  go_enter Try.func29, Try.ntmps29
  go_wp2
  refine wp_region_sched [(0, true), (1, true), (2, true), (3, true), (4, true), (5, true), (6, true), (7, true), (8, true), (9, true)] (fun V => V = w.drew) (by kernel_rfl) (by kernel_rfl) rfl ?_
  refine walk_float rfl rfl (fun K hK => ?_)
  refine gives_move _ rfl ?_
  go_simp
  refine hK _ ?_
  clear hK K
  refine walk_float rfl rfl (fun K hK => ?_)
  refine gives_nil_check _ rfl ⟨B, 0, none⟩ rfl ?_
  go_simp
  refine hK _ ?_
  clear hK K
  refine walk_float rfl rfl (fun K hK => ?_)
  refine gives_cafield _ 1 rfl (by decide) B rfl ?_
  go_simp
  refine hK _ ?_
  clear hK K
  refine walk_float rfl rfl (fun K hK => ?_)
  refine gives_cell mapT _ rfl ⟨B, 1, none⟩ _ rfl box_map (fun V hV => by rw [hV]; exact HDC.out.c1) ?_
  go_simp
  refine hK _ ?_
  clear hK K
  refine walk_float rfl rfl (fun K hK => ?_)
  refine gives_map_len _ rfl M ls rfl (fun V hV => by rw [hV]; exact HDC.out.map) ?_
  rw [hn]
  go_simp
  refine hK _ ?_
  clear hK K
  refine walk_float rfl rfl (fun K hK => ?_)
  refine gives_move _ rfl ?_
  go_simp
  refine hK _ ?_
  clear hK K
  refine walk_float rfl rfl (fun K hK => ?_)
  refine gives_nil_check _ rfl ⟨B, 0, none⟩ rfl ?_
  go_simp
  refine hK _ ?_
  clear hK K
  refine walk_float rfl rfl (fun K hK => ?_)
  refine gives_cafield _ 0 rfl (by decide) B rfl ?_
  go_simp
  refine hK _ ?_
  clear hK K
  refine walk_float rfl rfl (fun K hK => ?_)
  refine gives_cell 3 _ rfl ⟨B, 0, none⟩ _ rfl box_int (fun V hV => by rw [hV]; exact HDC.out.c0) ?_
  go_simp
  refine hK _ ?_
  clear hK K
  refine walk_float rfl rfl (fun K hK => ?_)
  refine gives_int_less _ _ rfl n q rfl rfl _ rfl ?_
  go_simp
  refine hK _ ?_
  clear hK K
  refine walk_nil ?_
  by_cases hq : (n : Int) < q
  · have f1 : decide ((n : Int) < q) = true := decide_eq_true hq
    have HS := Lib.hid HDC.out.self
    have HX := Lib.hid (HR1.out hq)
    go_wp2
    go_ret
    exact ⟨by rw [HX.out.1]; rfl, by rw [HX.out.2]; obtain ⟨y1, y2, y3, y4⟩ := HS.out; exact ⟨y1, y2, ⟨y3.os, y3.tape, y3.output, y3.size, y3.block⟩, y4⟩⟩
  · have f1 : decide ((n : Int) < q) = false := decide_eq_false hq
    have HQ := Lib.hid hq
    clear hq
    have d2 := HDC.out.c2
    have B0 := Lib.hid (show Below w.heap.size w w.drew from (Below.refl w.heap.size w).drew)
    go_wp2
    go_loopw [20, 4] (fun v20 _ wr => ∃ i : Nat, i ≤ n ∧ v20 = .int .i64 i ∧ i ≤ cleanL ls ∧ Below w.heap.size w wr) (fun v20 _ _ => n - (intOf v20).toNat)
    case atStart => exact ⟨0, Nat.zero_le _, rfl, Nat.zero_le _, B0.out⟩
    case round =>
      obtain ⟨i, hi, rfl, hf, hb⟩ := hrel
      have HB := Lib.hid hb
      have HF := Lib.hid hf
      clear hb hf B0 HDC d2 f1
      by_cases hlt : i < n
      · have f1 : (i : Int) < (n : Int) := by omega
        have HLT := Lib.hid hlt
        have f3 : IntKind.i64.wrap ((i : Int) + 1) = ((i + 1 : Nat) : Int) := by have := HL8.out; rw [IntWalk.i64_in _ (by omega)]; omega
        obtain ⟨LB, rfl, hLB, hrg⟩ := HRW.out i hlt
        rw [HKA.out i hlt] at hrg
        have HRK := Lib.hid (rangeAt_below hrg HB.out hLB)
        have HF2 := Lib.hid (HFA.out i hlt)
        have HO2 := Lib.hid (HOK.out i hlt)
        have HN2 := Lib.hid (HNX.out i hlt HF.out)
        have HH2 := Lib.hid (HHR.out i hlt HF.out)
        clear hrg hi hlt hLB
        generalize lineAt ls i = l at *
        obtain ⟨u, c, s, d⟩ := l
        have hB1 : Below w.heap.size w (wr.alloc (.cells #[.int .i64 u, .int .i64 c] plT)).drew := (HB.out.alloc HB.out.size _).drew
        have H1 := Lib.hid (HCS.out _ hB1)
        have P1 := Lib.hid (show PlBox (wr.alloc (.cells #[.int .i64 u, .int .i64 c] plT)).drew wr.heap.size u c from PlBox.alloc wr u c)
        have BB1 := Lib.hid hB1
        clear hB1
        cases d with
        | true =>
          go_wp2_with (first
            | (refine wpList_pl_elem rfl _ _ rfl LB n cap i rfl rfl HLT.out ?_)
            | (refine wpList_pl_load rfl _ rfl LB (2 * i) rfl u c HRK.out ?_))
          refine wp_region_sched [(0, true), (1, true), (2, true), (3, true), (4, true), (5, true), (6, true), (7, true)] (fun V => V = (wr.alloc (.cells #[.int .i64 u, .int .i64 c] plT)).drew) (by kernel_rfl) (by kernel_rfl) rfl ?_
          refine walk_float rfl rfl (fun K hK => ?_)
          refine gives_move _ rfl ?_
          go_simp
          refine hK _ ?_
          clear hK K
          refine walk_float rfl rfl (fun K hK => ?_)
          refine gives_nil_check _ rfl ⟨B, 0, none⟩ rfl ?_
          go_simp
          refine hK _ ?_
          clear hK K
          refine walk_float rfl rfl (fun K hK => ?_)
          refine gives_cafield _ 1 rfl (by decide) B rfl ?_
          go_simp
          refine hK _ ?_
          clear hK K
          refine walk_float rfl rfl (fun K hK => ?_)
          refine gives_cell mapT _ rfl ⟨B, 1, none⟩ _ rfl box_map (fun V hV => by rw [hV]; exact H1.out.c1) ?_
          go_simp
          refine hK _ ?_
          clear hK K
          refine walk_float rfl rfl (fun K hK => ?_)
          refine gives_pl_load _ rfl wr.heap.size 0 rfl u c (fun V hV => by rw [hV]; exact P1.out.range) ?_
          go_simp
          refine hK _ ?_
          clear hK K
          refine walk_float rfl rfl (fun K hK => ?_)
          refine gives_look _ _ rfl M ls u c rfl rfl HO2.out.2.1 HO2.out.2.2 (fun V hV => by rw [hV]; exact H1.out.map) ?_
          rw [HF2.out.2]
          go_simp
          refine hK _ ?_
          clear hK K
          refine walk_float rfl rfl (fun K hK => ?_)
          refine gives_line_d _ rfl _ rfl ?_
          go_simp
          refine hK _ ?_
          clear hK K
          refine walk_float rfl rfl (fun K hK => ?_)
          refine gives_not2 _ _ rfl _ _ rfl rfl ?_
          go_simp
          refine hK _ ?_
          clear hK K
          refine walk_nil ?_
          go_wp2
          go_roundw
          case rel => exact ⟨i + 1, HLT.out, by go_num, HN2.out trivial, BB1.out⟩
          case measure => have := HLT.out; simp [intOf]; omega
        | false =>
          have eC := HH2.out rfl
          have HRM := Lib.hid (remove_any H1.out HA.out HO2.out.2.1 HO2.out.2.2 (show findL ls u c < ls.length by rw [HF2.out.1, hn]; exact HLT.out))
          have eK := keys_out HA.out u c (show findL ls u c < ls.length by rw [HF2.out.1, hn]; exact HLT.out)
          go_wp2_with (first
            | (refine wpList_pl_elem rfl _ _ rfl LB n cap i rfl rfl HLT.out ?_)
            | (refine wpList_pl_load rfl _ rfl LB (2 * i) rfl u c HRK.out ?_))
          refine wp_region_sched [(0, true), (1, true), (2, true), (3, true), (4, true), (5, true), (6, true), (7, true)] (fun V => V = (wr.alloc (.cells #[.int .i64 u, .int .i64 c] plT)).drew) (by kernel_rfl) (by kernel_rfl) rfl ?_
          refine walk_float rfl rfl (fun K hK => ?_)
          refine gives_move _ rfl ?_
          go_simp
          refine hK _ ?_
          clear hK K
          refine walk_float rfl rfl (fun K hK => ?_)
          refine gives_nil_check _ rfl ⟨B, 0, none⟩ rfl ?_
          go_simp
          refine hK _ ?_
          clear hK K
          refine walk_float rfl rfl (fun K hK => ?_)
          refine gives_cafield _ 1 rfl (by decide) B rfl ?_
          go_simp
          refine hK _ ?_
          clear hK K
          refine walk_float rfl rfl (fun K hK => ?_)
          refine gives_cell mapT _ rfl ⟨B, 1, none⟩ _ rfl box_map (fun V hV => by rw [hV]; exact H1.out.c1) ?_
          go_simp
          refine hK _ ?_
          clear hK K
          refine walk_float rfl rfl (fun K hK => ?_)
          refine gives_pl_load _ rfl wr.heap.size 0 rfl u c (fun V hV => by rw [hV]; exact P1.out.range) ?_
          go_simp
          refine hK _ ?_
          clear hK K
          refine walk_float rfl rfl (fun K hK => ?_)
          refine gives_look _ _ rfl M ls u c rfl rfl HO2.out.2.1 HO2.out.2.2 (fun V hV => by rw [hV]; exact H1.out.map) ?_
          rw [HF2.out.2]
          go_simp
          refine hK _ ?_
          clear hK K
          refine walk_float rfl rfl (fun K hK => ?_)
          refine gives_line_d _ rfl _ rfl ?_
          go_simp
          refine hK _ ?_
          clear hK K
          refine walk_float rfl rfl (fun K hK => ?_)
          refine gives_not2 _ _ rfl _ _ rfl rfl ?_
          go_simp
          refine hK _ ?_
          clear hK K
          refine walk_nil ?_
          have HX := Lib.hid (HR2.out HQ.out (by rw [eC]; exact HLT.out))
          have HY := Lib.hid eC
          have HZ := Lib.hid eK
          have F1 := Lib.hid HF2.out.1
          clear eC eK HR1 HR2 HR3 HNX HHR HFA HKA HOK HRW HN2 HH2 HF2
          go_wp2_with (first
            | (refine wpList_pl_load rfl _ rfl wr.heap.size 0 rfl u c P1.out.range ?_)
            | (go_at_call 31
               refine HRM.out.mono ?_; rintro e w6 ⟨rfl, t6⟩
               have T6 := Lib.hid (CT.from HC.out BB1.out t6)
               clear t6))
          go_ret
          refine ⟨by rw [HX.out.1]; rfl, ?_⟩
          rw [HX.out.2, HY.out]
          have := T6.out
          rw [HZ.out, F1.out] at this
          exact this
      · have f1 : ¬ (i : Int) < (n : Int) := by omega
        obtain rfl : i = n := by omega
        have HX := Lib.hid (HR3.out HQ.out (by have := HF.out; omega))
        have T6 := Lib.hid (HC.out.stay HB.out)
        clear hlt hi
        go_wp2
        go_ret
        exact ⟨by rw [HX.out.1]; rfl, by rw [HX.out.2]; exact T6.out⟩
end Go.Proofs.Ytlaclakndleonaa
