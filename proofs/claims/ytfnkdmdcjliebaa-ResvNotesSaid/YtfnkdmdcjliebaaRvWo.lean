/- The contracts of the program's without with its two closures, left, holderHas. Conditions: the registrations lie in memory, at most 1000. -/
import Derived.Test.YtfnkdmdcjliebaaRvAllw
namespace Go.Proofs.Ytfnkdmdcjliebaa
open Go.ChangeShapes Go.WideShapes Go.ChangeAt Go.RowKit
set_option linter.unusedVariables false
set_option linter.unusedSimpArgs false
theorem boxRo {W : World} {O : Nat} {o : ROp} (h : BoxA W O roT (ropA o)) : W.cell? ⟨O, 0, none⟩ = some (.int .i64 o.op) ∧ W.cell? ⟨O, 1, none⟩ = some (.int .i64 o.who) ∧ W.cell? ⟨O, 2, none⟩ = some (.int .i64 o.key) ∧ W.cell? ⟨O, 3, none⟩ = some (.int .i64 o.new) ∧ W.cell? ⟨O, 4, none⟩ = some (.int .i64 o.ty) ∧ W.cell? ⟨O, 5, none⟩ = some (.bool o.s) := ⟨h.cell 0, h.cell 1, h.cell 2, h.cell 3, h.cell 4, h.cell 5⟩
theorem boxRg {W : World} {O : Nat} {u c : Int} (h : BoxA W O rgT #[.int .i64 u, .int .i64 c]) : W.cell? ⟨O, 0, none⟩ = some (.int .i64 u) ∧ W.cell? ⟨O, 1, none⟩ = some (.int .i64 c) := ⟨h.cell 0, h.cell 1⟩
theorem filtF_next {ks : List (Int × Int)} {i : Nat} (hi : i < ks.length) (F : Int × Int → Bool) : (ks.take (i + 1)).filter F = (ks.take i).filter F ++ (if F (atR ks i) then [atR ks i] else []) := by
  rw [take_snocR hi, List.filter_append]
  cases h : F (atR ks i)
  · rw [List.filter_cons, h]; rfl
  · rw [List.filter_cons, h]; rfl
def goneF (o : ROp) (p : Int × Int) : Bool := !(p.1 == o.who) && p.2 == o.new
def selfF (o : ROp) (p : Int × Int) : Bool := p.1 == o.who
theorem left_is (r : ResvOf) (o : ROp) : leftR r o = r.regs.filter fun p => !(goneF o p) := rfl
theorem others_are (r : ResvOf) (o : ROp) : othersR r o = r.regs.filter fun p => !(selfF o p) := rfl
attribute [local irreducible] regC atR keyR inR risesR formR allR holdersR holdsR allowedR
attribute [local go_sem] Oper.semAt_some
theorem left1_any {w : World} {P : Nat} {o : ROp} (hP : BoxA w P roT (ropA o)) (u c : Int) :
    Calls Try.prog 68 #[.agg #[.int .i64 u, .int .i64 c], .pointer (some ⟨P, 0, none⟩)] w fun e w' => e = .returned (.bool (goneF o (u, c))) ∧ Below w.heap.size w w' := by
  have HV := Lib.hid (show goneF o (u, c) = (!(u == o.who) && c == o.new) from rfl)
  have HP := Lib.hid hP
  clear hP
  generalize goneF o (u, c) = v at *
  go_enter Try.func68, Try.ntmps68
  by_cases h1 : u = o.who
  · have e1 : (u == o.who) = true := by simpa using h1
    have e2 : (u != o.who) = false := by simpa using h1
    have HE := Lib.hid (show v = false by rw [HV.out, e1]; rfl)
    go_wp2_with (first
      | (with_reducible show wpList _ _ _ (⟨_, Op.box rgT _, _, _, _, none⟩ :: _) _ _
         refine wpList_boxA_of rfl _ rfl #[.int .i64 u, .int .i64 c] rfl ?_
         intro w1 x1 l1 s1
         obtain ⟨c0, c1⟩ := boxRg x1
         obtain ⟨d0, d1, d2, d3, d4, d5⟩ := boxRo (HP.out.keep (l1.block _ HP.out.lt))
         rw [← h1] at d1
         have L1 := Lib.hid l1
         clear x1 l1 s1))
    go_ret
    exact ⟨by rw [HE.out]; rfl, L1.out⟩
  · have e1 : (u == o.who) = false := by simpa using h1
    have e2 : (u != o.who) = true := by simpa using h1
    have HE := Lib.hid (show v = (c == o.new) by rw [HV.out, e1]; rfl)
    go_wp2_with (first
      | (with_reducible show wpList _ _ _ (⟨_, Op.box rgT _, _, _, _, none⟩ :: _) _ _
         refine wpList_boxA_of rfl _ rfl #[.int .i64 u, .int .i64 c] rfl ?_
         intro w1 x1 l1 s1
         obtain ⟨c0, c1⟩ := boxRg x1
         obtain ⟨d0, d1, d2, d3, d4, d5⟩ := boxRo (HP.out.keep (l1.block _ HP.out.lt))
         have L1 := Lib.hid l1
         clear x1 l1 s1))
    go_ret
    exact ⟨by rw [HE.out]; rfl, L1.out⟩
theorem register1_any {w : World} {P : Nat} {o : ROp} (hP : BoxA w P roT (ropA o)) (u c : Int) :
    Calls Try.prog 69 #[.agg #[.int .i64 u, .int .i64 c], .pointer (some ⟨P, 0, none⟩)] w fun e w' => e = .returned (.bool (selfF o (u, c))) ∧ Below w.heap.size w w' := by
  have HE := Lib.hid (show selfF o (u, c) = (u == o.who) from rfl)
  have HP := Lib.hid hP
  clear hP
  generalize selfF o (u, c) = v at *
  go_enter Try.func69, Try.ntmps69
  go_wp2_with (first
    | (with_reducible show wpList _ _ _ (⟨_, Op.box rgT _, _, _, _, none⟩ :: _) _ _
       refine wpList_boxA_of rfl _ rfl #[.int .i64 u, .int .i64 c] rfl ?_
       intro w1 x1 l1 s1
       obtain ⟨c0, c1⟩ := boxRg x1
       obtain ⟨d0, d1, d2, d3, d4, d5⟩ := boxRo (HP.out.keep (l1.block _ HP.out.lt))
       have L1 := Lib.hid l1
       clear x1 l1 s1))
  go_ret
  exact ⟨by rw [HE.out]; rfl, L1.out⟩
attribute [local irreducible] goneF selfF
set_option maxRecDepth 100000 in
set_option maxHeartbeats 8000000 in
theorem without_left {w : World} {q : Option Addr} {n c : Nat} {ks : List (Int × Int)} (hq : RegsAt w q ks) (hn : ks.length = n) (hl : n ≤ 1000) {P : Nat} {o : ROp} (hP : BoxA w P roT (ropA o)) :
    Calls Try.prog 67 #[.slice q n c, .func (.func 68) #[] #[.pointer (some ⟨P, 0, none⟩)]] w fun e w' => ∃ q' m c', e = .returned (.slice q' m c') ∧ OwnR w w' q' m c' (ks.filter fun p => !(goneF o p)) ∧ Below w.heap.size w w' := by
  have HR := Lib.hid (fun i (hi : i < ks.length) => regs_at hq (k := i) hi)
  have HP := Lib.hid hP
  have HN := Lib.hid (fun i (hi : i < ks.length) => filtF_next hi (fun p => !(goneF o p)))
  have HLE := Lib.hid (fun i => Nat.le_trans (List.length_filter_le (fun p => !(goneF o p)) (ks.take i)) (show (ks.take i).length ≤ 1000 by rw [List.length_take]; omega))
  have HA := Lib.hid (show (ks.take n).filter (fun p => !(goneF o p)) = ks.filter (fun p => !(goneF o p)) by rw [List.take_of_length_le (by omega)])
  have HL := Lib.hid hl
  rw [hn] at HR HN
  clear hq hl hn hP
  go_enter Try.func67, Try.ntmps67
  go_wp2
  go_loopw [9, 6, 5] (fun v9 _ v5 wr => ∃ k : Nat, k ≤ n ∧ v9 = .int .i64 k ∧ OwnL rgT 2 regC wr w.heap.size wr.heap.size v5 ((ks.take k).filter fun p => !(goneF o p)) ∧ Below w.heap.size w wr) (fun v9 _ _ _ => n - (intOf v9).toNat)
  case atStart => exact ⟨0, Nat.zero_le _, rfl, OwnL.nil _ _ _ _ _ _, Below.refl _ _⟩
  case round =>
    obtain ⟨k, hk, rfl, ho, hb⟩ := hrel
    have HO := Lib.hid ho
    have HB := Lib.hid hb
    have HLK := Lib.hid (HLE.out k)
    clear ho hb HLE
    by_cases hlt : k < n
    · have f1 : (k : Int) < (n : Int) := by omega
      have HLT := Lib.hid hlt
      have f3 : IntKind.i64.wrap ((k : Int) + 1) = ((k + 1 : Nat) : Int) := by have := HL.out; rw [IntWalk.i64_in _ (by omega)]; omega
      obtain ⟨QB, qo, rfl, hQB, hrg⟩ := HR.out k hlt
      have HRK := Lib.hid (rangeAt_below hrg HB.out hQB)
      have HN1 := Lib.hid (HN.out k hlt)
      have HPW := Lib.hid (HP.out.keep (HB.out.block _ HP.out.lt))
      clear hlt hk HR HN
      generalize (ks.take k).filter (fun p => !(goneF o p)) = l at *
      generalize atR ks k = p at *
      obtain ⟨pw, pk⟩ := p
      have HCL := Lib.hid (left1_any HPW.out pw pk)
      generalize hf : goneF o (pw, pk) = b at *
      cases b with
      | true =>
        clear hf
        go_wp2_with (first
        | (with_reducible show wpList _ _ _ (⟨_, Op.indexAddr _ _ _, _, _, _, none⟩ :: _) _ _
           refine wpList_reg_elem rfl _ _ rfl QB qo n c k rfl rfl HLT.out ?_)
        | (with_reducible show wpList _ _ _ (⟨_, Op.load rgT _, _, _, _, none⟩ :: _) _ _
           refine wpList_reg_load rfl _ rfl QB (qo + 2 * k) rfl pw pk HRK.out ?_)
        | (go_at_call 68
           refine HCL.out.mono ?_; rintro e w4 ⟨rfl, hb4⟩
           have O4 := Lib.hid ((OwnL.below HO.out (Nat.le_refl _) hb4).raise hb4.size)
           have L4 := Lib.hid (HB.out.trans (hb4.mono HB.out.size))
           have HRK := Lib.hid (rangeAt_below hrg L4.out hQB)
           clear hb4))
        go_roundw
        case rel => exact ⟨k + 1, HLT.out, by go_num, by rw [HN1.out, if_neg (by decide), List.append_nil]; exact O4.out, L4.out⟩
        case measure => have := HLT.out; simp [intOf]; omega
      | false =>
        clear hf
        go_wp2_with (first
        | (with_reducible show wpList _ _ _ (⟨_, Op.indexAddr _ _ _, _, _, _, none⟩ :: _) _ _
           refine wpList_reg_elem rfl _ _ rfl QB qo n c k rfl rfl HLT.out ?_)
        | (with_reducible show wpList _ _ _ (⟨_, Op.load rgT _, _, _, _, none⟩ :: _) _ _
           refine wpList_reg_load rfl _ rfl QB (qo + 2 * k) rfl pw pk HRK.out ?_)
        | (go_at_call 68
           refine HCL.out.mono ?_; rintro e w4 ⟨rfl, hb4⟩
           have O4 := Lib.hid ((OwnL.below HO.out (Nat.le_refl _) hb4).raise hb4.size)
           have L4 := Lib.hid (HB.out.trans (hb4.mono HB.out.size))
           have HRK := Lib.hid (rangeAt_below hrg L4.out hQB)
           clear hb4)
        | (with_reducible show wpList _ _ _ (⟨_, Op.buildSlice _ _ _, _, _, _, none⟩ :: _) _ _
           refine wpList_reg1 rfl _ rfl (pw, pk) rfl ?_
           intro a1 r1 b1 s1
           have RA1 := Lib.hid r1
           have LA1 := Lib.hid b1
           clear r1 b1 s1)
        | (at_builtin
           refine wpList_regs_grow rfl _ _ rfl w.heap.size w4.heap.size u5 l [(pw, pk)] _ 1 1 rfl rfl rfl (OwnL.below O4.out (Nat.le_refl _) LA1.out) RA1.out (by have := HLK.out; simp; omega) (Nat.le_trans L4.out.size LA1.out.size) ?_
           intro v2 a2 o2 b2
           have O5 := Lib.hid o2
           have L5 := Lib.hid ((L4.out.trans (LA1.out.mono L4.out.size)).trans b2)
           clear o2 b2 RA1 LA1))
        go_roundw
        case rel => exact ⟨k + 1, HLT.out, by go_num, by rw [HN1.out, if_pos (by decide)]; exact O5.out, L5.out⟩
        case measure => have := HLT.out; simp [intOf]; omega
    · have f1 : ¬ (k : Int) < (n : Int) := by omega
      obtain rfl : k = n := by omega
      rw [HA.out] at HO
      clear hlt hk HN HR HA
      obtain ⟨q', c', hv, -, -, -, -⟩ := HO.out.rows elemReg.len
      generalize List.length _ = m at hv
      subst hv
      go_wp2
      go_ret
      exact ⟨q', m, c', rfl, HO.out, HB.out⟩
set_option maxRecDepth 100000 in
set_option maxHeartbeats 8000000 in
theorem without_self {w : World} {q : Option Addr} {n c : Nat} {ks : List (Int × Int)} (hq : RegsAt w q ks) (hn : ks.length = n) (hl : n ≤ 1000) {P : Nat} {o : ROp} (hP : BoxA w P roT (ropA o)) :
    Calls Try.prog 67 #[.slice q n c, .func (.func 69) #[] #[.pointer (some ⟨P, 0, none⟩)]] w fun e w' => ∃ q' m c', e = .returned (.slice q' m c') ∧ OwnR w w' q' m c' (ks.filter fun p => !(selfF o p)) ∧ Below w.heap.size w w' := by
  have HR := Lib.hid (fun i (hi : i < ks.length) => regs_at hq (k := i) hi)
  have HP := Lib.hid hP
  have HN := Lib.hid (fun i (hi : i < ks.length) => filtF_next hi (fun p => !(selfF o p)))
  have HLE := Lib.hid (fun i => Nat.le_trans (List.length_filter_le (fun p => !(selfF o p)) (ks.take i)) (show (ks.take i).length ≤ 1000 by rw [List.length_take]; omega))
  have HA := Lib.hid (show (ks.take n).filter (fun p => !(selfF o p)) = ks.filter (fun p => !(selfF o p)) by rw [List.take_of_length_le (by omega)])
  have HL := Lib.hid hl
  rw [hn] at HR HN
  clear hq hl hn hP
  go_enter Try.func67, Try.ntmps67
  go_wp2
  go_loopw [9, 6, 5] (fun v9 _ v5 wr => ∃ k : Nat, k ≤ n ∧ v9 = .int .i64 k ∧ OwnL rgT 2 regC wr w.heap.size wr.heap.size v5 ((ks.take k).filter fun p => !(selfF o p)) ∧ Below w.heap.size w wr) (fun v9 _ _ _ => n - (intOf v9).toNat)
  case atStart => exact ⟨0, Nat.zero_le _, rfl, OwnL.nil _ _ _ _ _ _, Below.refl _ _⟩
  case round =>
    obtain ⟨k, hk, rfl, ho, hb⟩ := hrel
    have HO := Lib.hid ho
    have HB := Lib.hid hb
    have HLK := Lib.hid (HLE.out k)
    clear ho hb HLE
    by_cases hlt : k < n
    · have f1 : (k : Int) < (n : Int) := by omega
      have HLT := Lib.hid hlt
      have f3 : IntKind.i64.wrap ((k : Int) + 1) = ((k + 1 : Nat) : Int) := by have := HL.out; rw [IntWalk.i64_in _ (by omega)]; omega
      obtain ⟨QB, qo, rfl, hQB, hrg⟩ := HR.out k hlt
      have HRK := Lib.hid (rangeAt_below hrg HB.out hQB)
      have HN1 := Lib.hid (HN.out k hlt)
      have HPW := Lib.hid (HP.out.keep (HB.out.block _ HP.out.lt))
      clear hlt hk HR HN
      generalize (ks.take k).filter (fun p => !(selfF o p)) = l at *
      generalize atR ks k = p at *
      obtain ⟨pw, pk⟩ := p
      have HCL := Lib.hid (register1_any HPW.out pw pk)
      generalize hf : selfF o (pw, pk) = b at *
      cases b with
      | true =>
        clear hf
        go_wp2_with (first
        | (with_reducible show wpList _ _ _ (⟨_, Op.indexAddr _ _ _, _, _, _, none⟩ :: _) _ _
           refine wpList_reg_elem rfl _ _ rfl QB qo n c k rfl rfl HLT.out ?_)
        | (with_reducible show wpList _ _ _ (⟨_, Op.load rgT _, _, _, _, none⟩ :: _) _ _
           refine wpList_reg_load rfl _ rfl QB (qo + 2 * k) rfl pw pk HRK.out ?_)
        | (go_at_call 69
           refine HCL.out.mono ?_; rintro e w4 ⟨rfl, hb4⟩
           have O4 := Lib.hid ((OwnL.below HO.out (Nat.le_refl _) hb4).raise hb4.size)
           have L4 := Lib.hid (HB.out.trans (hb4.mono HB.out.size))
           have HRK := Lib.hid (rangeAt_below hrg L4.out hQB)
           clear hb4))
        go_roundw
        case rel => exact ⟨k + 1, HLT.out, by go_num, by rw [HN1.out, if_neg (by decide), List.append_nil]; exact O4.out, L4.out⟩
        case measure => have := HLT.out; simp [intOf]; omega
      | false =>
        clear hf
        go_wp2_with (first
        | (with_reducible show wpList _ _ _ (⟨_, Op.indexAddr _ _ _, _, _, _, none⟩ :: _) _ _
           refine wpList_reg_elem rfl _ _ rfl QB qo n c k rfl rfl HLT.out ?_)
        | (with_reducible show wpList _ _ _ (⟨_, Op.load rgT _, _, _, _, none⟩ :: _) _ _
           refine wpList_reg_load rfl _ rfl QB (qo + 2 * k) rfl pw pk HRK.out ?_)
        | (go_at_call 69
           refine HCL.out.mono ?_; rintro e w4 ⟨rfl, hb4⟩
           have O4 := Lib.hid ((OwnL.below HO.out (Nat.le_refl _) hb4).raise hb4.size)
           have L4 := Lib.hid (HB.out.trans (hb4.mono HB.out.size))
           have HRK := Lib.hid (rangeAt_below hrg L4.out hQB)
           clear hb4)
        | (with_reducible show wpList _ _ _ (⟨_, Op.buildSlice _ _ _, _, _, _, none⟩ :: _) _ _
           refine wpList_reg1 rfl _ rfl (pw, pk) rfl ?_
           intro a1 r1 b1 s1
           have RA1 := Lib.hid r1
           have LA1 := Lib.hid b1
           clear r1 b1 s1)
        | (at_builtin
           refine wpList_regs_grow rfl _ _ rfl w.heap.size w4.heap.size u5 l [(pw, pk)] _ 1 1 rfl rfl rfl (OwnL.below O4.out (Nat.le_refl _) LA1.out) RA1.out (by have := HLK.out; simp; omega) (Nat.le_trans L4.out.size LA1.out.size) ?_
           intro v2 a2 o2 b2
           have O5 := Lib.hid o2
           have L5 := Lib.hid ((L4.out.trans (LA1.out.mono L4.out.size)).trans b2)
           clear o2 b2 RA1 LA1))
        go_roundw
        case rel => exact ⟨k + 1, HLT.out, by go_num, by rw [HN1.out, if_pos (by decide)]; exact O5.out, L5.out⟩
        case measure => have := HLT.out; simp [intOf]; omega
    · have f1 : ¬ (k : Int) < (n : Int) := by omega
      obtain rfl : k = n := by omega
      rw [HA.out] at HO
      clear hlt hk HN HR HA
      obtain ⟨q', c', hv, -, -, -, -⟩ := HO.out.rows elemReg.len
      generalize List.length _ = m at hv
      subst hv
      go_wp2
      go_ret
      exact ⟨q', m, c', rfl, HO.out, HB.out⟩
set_option maxRecDepth 100000 in
set_option maxHeartbeats 2000000 in
theorem left_any {w : World} {q : Option Addr} {n c : Nat} {ks : List (Int × Int)} (hq : RegsAt w q ks) (hn : ks.length = n) (hl : n ≤ 1000) (o : ROp) :
    Calls Try.prog 50 #[.slice q n c, .agg (ropA o)] w fun e w' => ∃ q' m c', e = .returned (.slice q' m c') ∧ OwnR w w' q' m c' (ks.filter fun p => !(goneF o p)) ∧ Below w.heap.size w w' := by
  have HW := Lib.hid (fun (W : World) (hb : Below w.heap.size w W) (hP : BoxA W w.heap.size roT (ropA o)) => without_left (c := c) (RowsAt.below hq hb) hn hl hP)
  clear hq hn hl
  go_enter Try.func50, Try.ntmps50
  go_wp2_with (first
    | (with_reducible show wpList _ _ _ (⟨_, Op.box roT _, _, _, _, none⟩ :: _) _ _
       refine wpList_boxA_of rfl _ rfl (ropA o) rfl ?_
       intro w1 x1 l1 s1
       have L1 := Lib.hid l1
       have HW1 := Lib.hid (HW.out w1 l1 x1)
       clear x1 l1 s1 HW)
    | (go_at_call 67
       refine HW1.out.mono ?_; rintro e w2 ⟨q', m, c', rfl, ho, hb2⟩
       have L2 := Lib.hid (L1.out.trans (hb2.mono L1.out.size))
       have O2 := Lib.hid (OwnL.lower ho L1.out.size)
       clear ho hb2 HW1))
  go_ret
  exact ⟨q', m, c', rfl, O2.out, L2.out⟩
set_option maxRecDepth 100000 in
set_option maxHeartbeats 2000000 in
theorem holderHas_any {w : World} {q : Option Addr} {n c : Nat} {r : ResvOf} (hq : RvAt w q n c r) (key : Int) :
    Calls Try.prog 51 #[.agg (resvA q n c r), .int .i64 key] w fun e w' => e = .returned (.bool (hasR r key)) ∧ Below w.heap.size w w' := by
  have HK := Lib.hid (fun (W : World) (hb : Below w.heap.size w W) => keyOf_any (c := c) (RowsAt.below hq.at_ hb) hq.len hq.few r.h)
  have HV := Lib.hid (show hasR r key = (inR r.regs r.h && keyR r.regs r.h == key) from rfl)
  clear hq
  generalize hasR r key = v at *
  generalize keyR r.regs r.h = x at *
  go_enter Try.func51, Try.ntmps51
  cases hd : inR r.regs r.h with
  | true =>
    rw [hd] at HV HK
    go_wp2_with (first
      | (with_reducible show wpList _ _ _ (⟨_, Op.box rvT _, _, _, _, none⟩ :: _) _ _
         refine wpList_boxA_of rfl _ rfl (resvA q n c r) rfl ?_
         intro w1 x1 l1 s1
         obtain ⟨c0, c1, c2, c3, c4⟩ := boxRv x1
         have L1 := Lib.hid l1
         have HK1 := Lib.hid (HK.out w1 l1)
         clear x1 l1 s1 HK)
      | (go_at_call 49
         refine HK1.out.mono ?_; rintro e w2 ⟨rfl, rfl⟩))
    go_ret
    exact ⟨by rw [HV.out]; rfl, L1.out⟩
  | false =>
    rw [hd] at HV HK
    go_wp2_with (first
      | (with_reducible show wpList _ _ _ (⟨_, Op.box rvT _, _, _, _, none⟩ :: _) _ _
         refine wpList_boxA_of rfl _ rfl (resvA q n c r) rfl ?_
         intro w1 x1 l1 s1
         obtain ⟨c0, c1, c2, c3, c4⟩ := boxRv x1
         have L1 := Lib.hid l1
         have HK1 := Lib.hid (HK.out w1 l1)
         clear x1 l1 s1 HK)
      | (go_at_call 49
         refine HK1.out.mono ?_; rintro e w2 ⟨rfl, rfl⟩))
    go_ret
    exact ⟨by rw [HV.out]; rfl, L1.out⟩
end Go.Proofs.Ytfnkdmdcjliebaa
