/- The contract of Drop. Conditions: the cache lies in memory, its lines are good. -/
import Derived.Test.YtlaclakndleonaaCmPut
namespace Go.Proofs.Ytlaclakndleonaa
open Go.ChangeShapes Go.WideShapes Go.ChangeAt Go.RowKit
set_option linter.unusedVariables false
/-- What is left behind the first k lines: those of unit u are gone. -/
def leftK (ls : List LineOf) (u : Int) (k : Nat) : List LineOf := (ls.take k).filter (fun l => !(l.u == u)) ++ ls.drop k
theorem leftK_zero (ls : List LineOf) (u : Int) : leftK ls u 0 = ls := by unfold leftK; simp
theorem leftK_all (ls : List LineOf) (u : Int) : leftK ls u ls.length = dropL ls u := by unfold leftK dropL; simp
theorem leftK_sub (ls : List LineOf) (u : Int) (k : Nat) : (leftK ls u k).Sublist ls := by
  have h : ((ls.take k).filter (fun l => !(l.u == u)) ++ ls.drop k).Sublist (ls.take k ++ ls.drop k) := List.Sublist.append List.filter_sublist (List.Sublist.refl _)
  rwa [List.take_append_drop] at h
theorem leftK_apart {ls : List LineOf} (h : Apart ls) (u : Int) (k : Nat) : Apart (leftK ls u k) := h.sublist (leftK_sub ls u k)
theorem drop_at {ls : List LineOf} {k : Nat} (hk : k < ls.length) : ls.drop k = lineAt ls k :: ls.drop (k + 1) := by rw [lineAt_eq hk]; exact List.drop_eq_getElem_cons hk
theorem leftK_skip {ls : List LineOf} {u : Int} {k : Nat} (hk : k < ls.length) (hn : ((lineAt ls k).u == u) = false) : leftK ls u (k + 1) = leftK ls u k := by
  unfold leftK
  rw [take_snoc hk, List.filter_append, drop_at hk, List.append_assoc]
  simp [hn]
theorem leftK_step {ls : List LineOf} (ha : Apart ls) {u : Int} {k : Nat} (hk : k < ls.length) (hn : ((lineAt ls k).u == u) = true) : findL (leftK ls u k) u (lineAt ls k).b < (leftK ls u k).length ∧ outL (leftK ls u k) (findL (leftK ls u k) u (lineAt ls k).b) = leftK ls u (k + 1) := by
  have hu : (lineAt ls k).u = u := by simpa using hn
  have hx : (lineAt ls k).is u (lineAt ls k).b = true := LineOf.is_iff.2 ⟨hu, rfl⟩
  have hm : lineAt ls k ∈ leftK ls u k := by unfold leftK; rw [drop_at hk]; simp
  have hf := find_yes hm hx
  refine ⟨hf, ?_⟩
  rw [← filter_at (leftK_apart ha u k) u _ hf]
  have ha2 : Apart (ls.take k ++ lineAt ls k :: ls.drop (k + 1)) := by rw [← drop_at hk, List.take_append_drop]; exact ha
  obtain ⟨-, a2, -⟩ := List.pairwise_append.1 ha2
  obtain ⟨a3, -⟩ := List.pairwise_cons.1 a2
  unfold leftK
  rw [take_snoc hk, drop_at hk, List.filter_append, List.filter_append, List.filter_cons, hx]
  have e1 : ((ls.take k).filter (fun l => !(l.u == u))).filter (fun l => !(l.is u (lineAt ls k).b)) = (ls.take k).filter (fun l => !(l.u == u)) := List.filter_eq_self.2 fun y hy => by
    have := (List.mem_filter.1 hy).2
    unfold LineOf.is
    cases hyu : (y.u == u) with
    | true => rw [hyu] at this; cases this
    | false => rfl
  have e2 : (ls.drop (k + 1)).filter (fun l => !(l.is u (lineAt ls k).b)) = ls.drop (k + 1) := List.filter_eq_self.2 fun y hy => by
    have h1 := a3 y hy
    have : y.is u (lineAt ls k).b = false := LineOf.is_not.2 fun e => h1 ⟨hu.trans e.1.symm, e.2.symm⟩
    rw [this]; rfl
  rw [e1, e2]
  simp [hn]
/-- How many are gone. -/
def goneN (ls : List LineOf) (u : Int) (k : Nat) : Nat := ls.length - (leftK ls u k).length
theorem goneN_step {ls : List LineOf} (ha : Apart ls) {u : Int} {k : Nat} (hk : k < ls.length) (hn : ((lineAt ls k).u == u) = true) : goneN ls u (k + 1) = goneN ls u k + 1 := by
  obtain ⟨h1, h2⟩ := leftK_step ha hk hn
  have h3 := outL_len h1
  have h4 := (leftK_sub ls u k).length_le
  unfold goneN
  rw [← h2, h3]
  omega
theorem goneN_le (ls : List LineOf) (u : Int) (k : Nat) : goneN ls u k ≤ ls.length := Nat.sub_le _ _
theorem goneN_zero (ls : List LineOf) (u : Int) : goneN ls u 0 = 0 := by unfold goneN; rw [leftK_zero]; omega
attribute [local irreducible] findL outL lineC lineAt cleanL placeC gotL keysL getL lineV leftK goneN dropL
attribute [local go_sem] Oper.semAt_some
set_option maxRecDepth 100000 in
set_option maxHeartbeats 2000000 in
theorem Drop_nil (u : Int) (w : World) : Calls Try.prog 20 #[.pointer none, .int .i64 u] w fun e w' => e = .returned (.int .i64 0) ∧ w = w' := by
  have HL := Lib.hid (Lines_nil w)
  go_enter Try.func20, Try.ntmps20
  go_wp2_with (go_at_call 22; refine HL.out.mono ?_; rintro e w1 ⟨rfl, rfl⟩)
  go_loopw [11, 5, 7] (fun v11 v5 _ wr => v11 = .int .i64 0 ∧ v5 = .int .i64 0 ∧ wr = w) (fun _ _ _ _ => 0)
  case atStart => exact ⟨rfl, rfl, rfl⟩
  case round =>
    obtain ⟨rfl, rfl, rfl⟩ := hrel
    go_wp2
    go_ret
    exact ⟨rfl, rfl⟩
set_option maxRecDepth 100000 in
set_option maxHeartbeats 4000000 in
theorem Drop_any {w : World} {B M : Nat} {q : Int} {v : Value} {ls : List LineOf} (h : CS w B M q v ls (keysL ls)) (g : GoodL q ls) (u : Int) (hu : okI u) :
    Calls Try.prog 20 #[.pointer (some ⟨B, 0, none⟩), .int .i64 u] w fun e w' => e = .returned (.int .i64 ((ls.length - (dropL ls u).length : Nat) : Int)) ∧ CT w w' B M q v (dropL ls u) (keysL (dropL ls u)) := by
  have HA := Lib.hid g.ap
  have HC := Lib.hid h
  have HL8 := Lib.hid (show ls.length ≤ 8 from by have := g.few; have := g.high; omega)
  have HLI := Lib.hid (Lines_any h g)
  have HCS := Lib.hid (fun (W : World) (hW : Below w.heap.size w W) => h.below hW)
  have HNS := Lib.hid (fun k (hk : w.heap.size ≤ k) => (show ¬ csS B M v k from fun e => by have := h.own_lt e; omega))
  have HOK := Lib.hid (fun i (hi : i < ls.length) => g.ok _ (lineAt_mem hi))
  have HDA := Lib.hid (fun k => leftK_apart HA.out u k)
  have HSK := Lib.hid (fun k (hk : k < ls.length) (hn : ((lineAt ls k).u == u) = false) => leftK_skip hk hn)
  have HST := Lib.hid (fun k (hk : k < ls.length) (hn : ((lineAt ls k).u == u) = true) => leftK_step HA.out hk hn)
  have HGS := Lib.hid (fun k (hk : k < ls.length) (hn : ((lineAt ls k).u == u) = true) => goneN_step HA.out hk hn)
  have HGK := Lib.hid (fun k (hk : k < ls.length) (hn : ((lineAt ls k).u == u) = false) => (show goneN ls u (k + 1) = goneN ls u k by unfold goneN; rw [leftK_skip hk hn]))
  have HGL := Lib.hid (fun k => Nat.le_trans (goneN_le ls u k) HL8.out)
  have HDL := Lib.hid (fun k => Nat.le_trans (leftK_sub ls u k).length_le HL8.out)
  have HZ := Lib.hid (leftK_zero ls u)
  have HGZ := Lib.hid (goneN_zero ls u)
  have HE := Lib.hid (leftK_all ls u)
  have HGE := Lib.hid (show goneN ls u ls.length = ls.length - (dropL ls u).length by unfold goneN; rw [leftK_all])
  rw [← HGE.out]
  clear h g
  generalize hn : ls.length = n at *
  go_enter Try.func20, Try.ntmps20
  go_wp2_with (go_at_call 22; refine HLI.out.mono ?_; rintro e w1 ⟨v1, rfl, ho, hb⟩
               obtain ⟨p, cap, hv, -, -, hrw, hpp⟩ := ho.rows elemLine.len
               rw [hn] at hv
               subst hv
               have HRW := Lib.hid hrw
               have HPP := Lib.hid hpp
               have H1 := Lib.hid (HCS.out w1 hb)
               have B1 := Lib.hid hb
               clear ho hrw hpp hb)
  have CT0 := Lib.hid H1.out.self
  go_loopw [11, 5, 7] (fun v11 v5 _ wr => ∃ k : Nat, k ≤ n ∧ v11 = .int .i64 k ∧ v5 = .int .i64 (goneN ls u k : Nat) ∧ CT w1 wr B M q v (leftK ls u k) (keysL (leftK ls u k))) (fun v11 _ _ _ => n - (intOf v11).toNat)
  case atStart => exact ⟨0, Nat.zero_le _, rfl, by rw [HGZ.out]; rfl, by rw [HZ.out]; exact CT0.out⟩
  case round =>
    obtain ⟨k, hk, rfl, rfl, ht⟩ := hrel
    have HT := Lib.hid ht
    clear ht CT0
    by_cases hlt : k < n
    · have f1 : (k : Int) < (n : Int) := by omega
      have HLT := Lib.hid hlt
      have f3 : IntKind.i64.wrap ((k : Int) + 1) = ((k + 1 : Nat) : Int) := by have := HL8.out; rw [IntWalk.i64_in _ (by omega)]; omega
      have f4 : IntKind.i64.wrap ((goneN ls u k : Int) + 1) = ((goneN ls u k + 1 : Nat) : Int) := by have := HGL.out k; rw [IntWalk.i64_in _ (by omega)]; omega
      obtain ⟨LB, o, rfl, hLB, hrg⟩ := line_rows HRW.out (show k < ls.length by omega)
      obtain ⟨hP1, -, hP3⟩ := HPP.out LB o rfl
      subst hP3
      have HRK := Lib.hid (show wr.rangeAt LB (0 + 131 * k) (lineC (lineAt ls k)) from fun j v hv => (cell_fr (p := ⟨LB, 0 + 131 * k + j, none⟩) (CT.other H1.out HT.out hLB (HNS.out _ hP1))).trans (hrg j v hv))
      have HO2 := Lib.hid (HOK.out k hlt)
      have HS2 := Lib.hid (HSK.out k hlt)
      have HT2 := Lib.hid (HST.out k hlt)
      have HG2 := Lib.hid (HGS.out k hlt)
      have HG3 := Lib.hid (HGK.out k hlt)
      have HD2 := Lib.hid (HDA.out k)
      clear hrg hk hlt hLB hP1
      generalize lineAt ls k = x at *
      obtain ⟨xu, xb, xs, xd⟩ := x
      generalize leftK ls u k = ds at *
      generalize goneN ls u k = gn at *
      dsimp only at *
      cases hq : (xu == u) with
      | false =>
        have E1 := Lib.hid (HS2.out hq)
        have E2 := Lib.hid (HG3.out hq)
        clear HS2 HT2 HG2 HG3
        have hq2 : decide (xu = u) = false := by simpa using hq
        go_wp2_with (first
          | (refine wpList_line_elem rfl _ _ rfl LB 0 n cap k rfl rfl HLT.out ?_)
          | (refine wpList_line_load rfl _ rfl LB (0 + 131 * k) rfl ⟨xu, xb, xs, xd⟩ HRK.out ?_)
          | (refine wpList_box_new rfl rfl wr.heap.size rfl ?_
             intro w2 b2 l2 s2
             have B2 := Lib.hid b2
             have L2 := Lib.hid l2
             clear b2 l2 s2)
          | (refine wpList_box_put rfl _ _ rfl rfl wr.heap.size ⟨xu, xb, xs, xd⟩ noLine rfl rfl B2.out ?_
             intro w3 b3 k3 s3
             have L3 := Lib.hid (L2.out.trans (k3.below L2.out.size (fun k hk e => by omega)))
             have k0 := (b3.cell 0).trans (lineC_0 _)
             clear b3 k3 s3))
        go_roundw
        case rel => exact ⟨k + 1, HLT.out, by go_num, by rw [E2.out], by rw [E1.out]; exact HT.out.after L3.out⟩
        case measure => have := HLT.out; simp [intOf]; omega
      | true =>
        obtain rfl : xu = u := by simpa using hq
        have E1 := Lib.hid (HT2.out hq)
        have E2 := Lib.hid (HG2.out hq)
        clear HS2 HT2 HG2 HG3 hq
        go_wp2_with (first
          | (refine wpList_line_elem rfl _ _ rfl LB 0 n cap k rfl rfl HLT.out ?_)
          | (refine wpList_line_load rfl _ rfl LB (0 + 131 * k) rfl ⟨xu, xb, xs, xd⟩ HRK.out ?_)
          | (refine wpList_box_new rfl rfl wr.heap.size rfl ?_
             intro w2 b2 l2 s2
             have B2 := Lib.hid b2
             have L2 := Lib.hid l2
             clear b2 l2 s2)
          | (refine wpList_box_put rfl _ _ rfl rfl wr.heap.size ⟨xu, xb, xs, xd⟩ noLine rfl rfl B2.out ?_
             intro w3 b3 k3 s3
             have L3 := Lib.hid (L2.out.trans (k3.below L2.out.size (fun k hk e => by omega)))
             have k0 := (b3.cell 0).trans (lineC_0 _)
             have k1 := (b3.cell 1).trans (lineC_1 _)
             obtain ⟨v3, h3, -, -⟩ := HT.out.after L3.out
             have H3 := Lib.hid h3
             have T3 := Lib.hid (HT.out.after L3.out)
             have RM := Lib.hid (remove_any h3 HD2.out HO2.out.2.1 HO2.out.2.2 E1.out.1)
             clear b3 k3 s3 h3)
          | (go_at_call 31
             refine RM.out.mono ?_; rintro e w4 ⟨rfl, t4⟩
             have T4 := Lib.hid (T3.out.then H3.out t4)
             clear t4))
        go_roundw
        case rel => exact ⟨k + 1, HLT.out, by go_num, by rw [E2.out]; go_num, by have t := T4.out; rw [E1.out.2, keys_out HD2.out _ _ E1.out.1, E1.out.2] at t; exact t⟩
        case measure => have := HLT.out; simp [intOf]; omega
    · have f1 : ¬ (k : Int) < (n : Int) := by omega
      obtain rfl : k = n := by omega
      have T := Lib.hid (CT.from HC.out B1.out HT.out)
      rw [HE.out] at T
      clear hlt hk
      go_wp2
      go_ret
      exact ⟨rfl, T.out⟩
end Go.Proofs.Ytlaclakndleonaa
