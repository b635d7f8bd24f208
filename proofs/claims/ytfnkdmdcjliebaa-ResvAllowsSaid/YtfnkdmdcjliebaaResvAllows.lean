/- ResvAllows: who may do what. Condition: none but the arguments' own forms; package resv by resvSpec. -/
import Derived.Test.YtfnkdmdcjliebaaRvAllowM
import Derived.Test.YtfnkdmdcjliebaaRvOps
import Derived.Test.YtfnkdmdcjliebaaRvDo
import Derived.Test.YtfnkdmdcjliebaaRvFair
namespace Go.Proofs.Ytfnkdmdcjliebaa
open Go.ChangeShapes Go.WideShapes Go.ChangeAt Go.RowKit
namespace resvAllows
set_option linter.unusedVariables false
theorem own : ownKnob Try.prog.godebug = none := by kernel_rfl
attribute [local irreducible] regC atR atO doR runR ropC allowedR holdsR holdersR cntH
attribute [local go_sem] Oper.semAt_some
set_option maxRecDepth 100000 in
set_option maxHeartbeats 8000000 in
theorem walk (K : ResvSpec) (q : Option Addr) (c : Nat) (r : ResvOf) (hok : r.ok) {w : World} (hq : RegsAt w q r.regs) (hnc : r.regs.length ≤ c) (hc : c ≤ maxLen) (who : Int) (hwho : okI who) (acc : Int) (hacc : okI acc) : Calls Try.prog 5 #[.agg (resvA q r.regs.length c r), .int .i64 who, .int .i64 acc] w fun e w' => e = .returned (.bool true) ∧ Below w.heap.size w w' := by
  have HK := Lib.hid K
  have HWH := Lib.hid hwho
  have HAC := Lib.hid hacc
  have HRV := Lib.hid (fun (hl : r.regs.length ≤ 100) (W : World) (hb : Below w.heap.size w W) => (show RvAt W q r.regs.length c r from ⟨RowsAt.below hq hb, rfl, hnc, hc, hok, by omega⟩))
  have HN := Lib.hid (show ∀ k, k < r.regs.length → ∃ B o, q = some ⟨B, o, none⟩ ∧ B < w.heap.size ∧ w.rangeAt B (o + 2 * k) (regC (atR r.regs k)) from fun k hk => regs_at hq hk)
  have HCN := Lib.hid (fun k (hk : k < r.regs.length) => cntH_next hk)
  have HCA := Lib.hid (cntH_all r)
  have HCL := Lib.hid (fun k => cntH_le r k)
  have HLM := Lib.hid (Nat.le_trans hnc hc)
  generalize hn : r.regs.length = n at *
  clear hq hnc hc hok hwho hacc hn K
  refine (callsIn_wide (n := 3)).1 ?_
  refine callsIn_of_wp_marks Try.func5 rfl trivial ?_ rfl
  simp only [Try.ntmps5, List.size_toArray, List.length_cons, List.length_nil, Nat.reduceAdd, Nat.reduceSub, Array.replicate_succ, Array.replicate_zero, List.push_toArray, List.append_toArray, List.nil_append, List.cons_append]
  refine wpIn_wide.2 ?_
  by_cases h100 : 100 < n
  · have f2 : (100 : Int) < (n : Int) := by omega
    have f1 : decide ((100 : Int) < (n : Int)) = true := by simp; omega
    clear h100 HRV HN
    go_wp2_with (first
      | (with_reducible show wpList _ _ _ (⟨_, Op.box rvT _, _, _, _, none⟩ :: _) _ _
         refine wpList_boxA_of rfl _ rfl (resvA q n c r) rfl ?_
         intro w1 x1 l1 s1
         have X1 := Lib.hid x1
         have B1 := Lib.hid l1
         have S1 := Lib.hid s1
         clear x1 l1 s1)
      | (go_at_call 9
         have OB := Lib.hid (heap_alloc_new w1 (.cells #[.bool false] 4))
         have B2 := Lib.hid (B1.out.trans ((box_below w1 (.cells #[.bool false] 4)).mono B1.out.size))
         have X2 := Lib.hid (X1.out.keep ((box_below w1 (.cells #[.bool false] 4)).block _ X1.out.lt))
         have OS := Lib.hid (show w1.heap.size = w.heap.size + 1 from S1.out)
         generalize hOO : w1.heap.size = O at *
         have HOO := Lib.hid (show O = w.heap.size + 1 from OS.out)
         clear hOO
         generalize w1.alloc (.cells #[.bool false] 4) = w2 at *
         clear B1 X1 S1 OS
         refine (alive_any HK.out w2).mono ?_; rintro e w3 ⟨rfl, hb3⟩
         have B3 := Lib.hid (B2.out.trans (hb3.mono B2.out.size))
         have X3 := Lib.hid (X2.out.keep (hb3.block _ X2.out.lt))
         have O3 := Lib.hid ((hb3.block _ (Array.getElem?_eq_some_iff.1 OB.out).1).trans OB.out)
         clear hb3 OB B2 X2
         have g0 : w3.cell? ⟨w.heap.size, 0, none⟩ = some (.slice q n c) := X3.out.cell 0
         have g5 : w3.cell? ⟨O, 0, none⟩ = some (.bool false) := cell_of_row _ _ _ _ _ _ O3.out
         have g6 : w3.frozen? ⟨O, 0, none⟩ = false := frozen_of_row _ _ _ _ _ O3.out))
    have hc := fin_cell0 (v := .bool true) O3.out
    refine ⟨.bool true, ?_, rfl, fin_belowO O3.out B3.out (by have := HOO.out; omega)⟩
    simp [results, Try.f5, go_sem, hc]
  have HL := Lib.hid (show n ≤ 100 from by omega)
  have HRW := Lib.hid (HRV.out HL.out)
  have f2 : ¬ (100 : Int) < (n : Int) := by omega
  have f1 : decide ((100 : Int) < (n : Int)) = false := by simp; omega
  clear h100 HRV
  cases hg : goodR r with
  | false =>
    have HG := Lib.hid hg
    clear hg HN
    go_wp2_with (first
      | (with_reducible show wpList _ _ _ (⟨_, Op.box rvT _, _, _, _, none⟩ :: _) _ _
         refine wpList_boxA_of rfl _ rfl (resvA q n c r) rfl ?_
         intro w1 x1 l1 s1
         have X1 := Lib.hid x1
         have B1 := Lib.hid l1
         have S1 := Lib.hid s1
         clear x1 l1 s1)
      | (go_at_call 9
         have OB := Lib.hid (heap_alloc_new w1 (.cells #[.bool false] 4))
         have B2 := Lib.hid (B1.out.trans ((box_below w1 (.cells #[.bool false] 4)).mono B1.out.size))
         have X2 := Lib.hid (X1.out.keep ((box_below w1 (.cells #[.bool false] 4)).block _ X1.out.lt))
         have OS := Lib.hid (show w1.heap.size = w.heap.size + 1 from S1.out)
         generalize hOO : w1.heap.size = O at *
         have HOO := Lib.hid (show O = w.heap.size + 1 from OS.out)
         clear hOO
         generalize w1.alloc (.cells #[.bool false] 4) = w2 at *
         clear B1 X1 S1 OS
         refine (alive_any HK.out w2).mono ?_; rintro e w3 ⟨rfl, hb3⟩
         have B3 := Lib.hid (B2.out.trans (hb3.mono B2.out.size))
         have X3 := Lib.hid (X2.out.keep (hb3.block _ X2.out.lt))
         have O3 := Lib.hid ((hb3.block _ (Array.getElem?_eq_some_iff.1 OB.out).1).trans OB.out)
         clear hb3 OB B2 X2
         have g0 : w3.cell? ⟨w.heap.size, 0, none⟩ = some (.slice q n c) := X3.out.cell 0
         have g5 : w3.cell? ⟨O, 0, none⟩ = some (.bool false) := cell_of_row _ _ _ _ _ _ O3.out
         have g6 : w3.frozen? ⟨O, 0, none⟩ = false := frozen_of_row _ _ _ _ _ O3.out)
      | (with_reducible show wpList _ _ _ (⟨_, Op.load rvT _, _, _, _, _⟩ :: _) _ _
         refine wpList_boxA_loadw rowRv _ rfl rfl w.heap.size (resvA q n c r) rfl rfl X3.out ?_)
      | (go_at_call 15
         have HGO := refGood_any (c := c) (HRW.out _ B3.out).at_ (HRW.out _ B3.out).len (by have := HL.out; omega)
         rw [HG.out] at HGO
         refine HGO.mono ?_; clear HGO; rintro e w4 ⟨rfl, hb4⟩
         have B4 := Lib.hid (B3.out.trans (hb4.mono B3.out.size))
         have X4 := Lib.hid (X3.out.keep (hb4.block _ X3.out.lt))
         have O4 := Lib.hid ((hb4.block _ (Array.getElem?_eq_some_iff.1 O3.out).1).trans O3.out)
         clear hb4 g0 g5 g6 B3 X3 O3
         have g0 : w4.cell? ⟨w.heap.size, 0, none⟩ = some (.slice q n c) := X4.out.cell 0
         have g5 : w4.cell? ⟨O, 0, none⟩ = some (.bool false) := cell_of_row _ _ _ _ _ _ O4.out
         have g6 : w4.frozen? ⟨O, 0, none⟩ = false := frozen_of_row _ _ _ _ _ O4.out)
      | (with_reducible show wpList _ _ _ (⟨_, Op.load rvT _, _, _, _, _⟩ :: _) _ _
         refine wpList_boxA_loadw rowRv _ rfl rfl w.heap.size (resvA q n c r) rfl rfl X4.out ?_)
      | (go_at_call 14
         have HC := HK.out.check (HRW.out _ B4.out)
         rw [if_neg (by rw [HG.out]; decide), errN_not (by decide)] at HC
         refine HC.mono ?_; clear HC; rintro e w5 ⟨rfl, hb5⟩
         have B5 := Lib.hid (B4.out.trans (hb5.mono B4.out.size))
         have O5 := Lib.hid ((hb5.block _ (Array.getElem?_eq_some_iff.1 O4.out).1).trans O4.out)
         clear hb5 g0 g5 g6 B4 X4 O4
         have g5 : w5.cell? ⟨O, 0, none⟩ = some (.bool false) := cell_of_row _ _ _ _ _ _ O5.out
         have g6 : w5.frozen? ⟨O, 0, none⟩ = false := frozen_of_row _ _ _ _ _ O5.out)
      | (go_at_call 17
         refine (Is_err 2 rfl _).mono ?_; rintro e w6 ⟨rfl, rfl⟩))
    have hc := fin_cell0 (v := .bool true) O5.out
    refine ⟨.bool true, ?_, rfl, fin_belowO O5.out B5.out (by have := HOO.out; omega)⟩
    simp [results, Try.f5, go_sem, hc]
  | true =>
    have HG := Lib.hid hg
    clear hg
    go_wp2_with (first
      | (with_reducible show wpList _ _ _ (⟨_, Op.box rvT _, _, _, _, none⟩ :: _) _ _
         refine wpList_boxA_of rfl _ rfl (resvA q n c r) rfl ?_
         intro w1 x1 l1 s1
         have X1 := Lib.hid x1
         have B1 := Lib.hid l1
         have S1 := Lib.hid s1
         clear x1 l1 s1)
      | (go_at_call 9
         have OB := Lib.hid (heap_alloc_new w1 (.cells #[.bool false] 4))
         have B2 := Lib.hid (B1.out.trans ((box_below w1 (.cells #[.bool false] 4)).mono B1.out.size))
         have X2 := Lib.hid (X1.out.keep ((box_below w1 (.cells #[.bool false] 4)).block _ X1.out.lt))
         have OS := Lib.hid (show w1.heap.size = w.heap.size + 1 from S1.out)
         generalize hOO : w1.heap.size = O at *
         have HOO := Lib.hid (show O = w.heap.size + 1 from OS.out)
         clear hOO
         generalize w1.alloc (.cells #[.bool false] 4) = w2 at *
         clear B1 X1 S1 OS
         refine (alive_any HK.out w2).mono ?_; rintro e w3 ⟨rfl, hb3⟩
         have B3 := Lib.hid (B2.out.trans (hb3.mono B2.out.size))
         have X3 := Lib.hid (X2.out.keep (hb3.block _ X2.out.lt))
         have O3 := Lib.hid ((hb3.block _ (Array.getElem?_eq_some_iff.1 OB.out).1).trans OB.out)
         clear hb3 OB B2 X2
         have g0 : w3.cell? ⟨w.heap.size, 0, none⟩ = some (.slice q n c) := X3.out.cell 0
         have g5 : w3.cell? ⟨O, 0, none⟩ = some (.bool false) := cell_of_row _ _ _ _ _ _ O3.out
         have g6 : w3.frozen? ⟨O, 0, none⟩ = false := frozen_of_row _ _ _ _ _ O3.out)
      | (with_reducible show wpList _ _ _ (⟨_, Op.load rvT _, _, _, _, _⟩ :: _) _ _
         refine wpList_boxA_loadw rowRv _ rfl rfl w.heap.size (resvA q n c r) rfl rfl X3.out ?_)
      | (go_at_call 15
         have HGO := refGood_any (c := c) (HRW.out _ B3.out).at_ (HRW.out _ B3.out).len (by have := HL.out; omega)
         rw [HG.out] at HGO
         refine HGO.mono ?_; clear HGO; rintro e w4 ⟨rfl, hb4⟩
         have B4 := Lib.hid (B3.out.trans (hb4.mono B3.out.size))
         have X4 := Lib.hid (X3.out.keep (hb4.block _ X3.out.lt))
         have O4 := Lib.hid ((hb4.block _ (Array.getElem?_eq_some_iff.1 O3.out).1).trans O3.out)
         clear hb4 g0 g5 g6 B3 X3 O3
         have g0 : w4.cell? ⟨w.heap.size, 0, none⟩ = some (.slice q n c) := X4.out.cell 0
         have g5 : w4.cell? ⟨O, 0, none⟩ = some (.bool false) := cell_of_row _ _ _ _ _ _ O4.out
         have g6 : w4.frozen? ⟨O, 0, none⟩ = false := frozen_of_row _ _ _ _ _ O4.out)
      | (with_reducible show wpList _ _ _ (⟨_, Op.load rvT _, _, _, _, _⟩ :: _) _ _
         refine wpList_boxA_loadw rowRv _ rfl rfl w.heap.size (resvA q n c r) rfl rfl X4.out ?_)
      | (with_reducible show wpList _ _ _ (⟨_, Op.load rvT _, _, _, _, none⟩ :: _) _ _
         have UB := Lib.hid (box_below w4 (.cells #[.int .i64 0] 3))
         have UN := Lib.hid (heap_alloc_new w4 (.cells #[.int .i64 0] 3))
         have X5 := Lib.hid (X4.out.keep (UB.out.block _ X4.out.lt))
         have B5 := Lib.hid (B4.out.trans (UB.out.mono B4.out.size))
         have O5 := Lib.hid ((UB.out.block _ (Array.getElem?_eq_some_iff.1 O4.out).1).trans O4.out)
         have NL := Lib.hid (show w4.heap.size < (w4.alloc (.cells #[.int .i64 0] 3)).heap.size from (Array.getElem?_eq_some_iff.1 UN.out).1)
         have ON := Lib.hid (show O < w4.heap.size from (Array.getElem?_eq_some_iff.1 O4.out).1)
         clear UB X4 B4 O4 g0 g5 g6
         generalize w4.alloc (.cells #[.int .i64 0] 3) = U at *
         generalize w4.heap.size = N at *
         refine wpList_boxA_loadw rowRv _ rfl rfl w.heap.size (resvA q n c r) rfl rfl X5.out ?_)
      | (go_at_call 18
         refine (HK.out.holders (HRW.out _ B5.out) HG.out).mono ?_; rintro e w5 ⟨fv, T, rfl, ⟨gf, lb, rfl, eg, hTl, hit⟩, hTT, b5⟩
         have X6 := Lib.hid (X5.out.keep (b5.block _ X5.out.lt))
         have B6 := Lib.hid (B5.out.trans (b5.mono B5.out.size))
         have O6 := Lib.hid ((b5.block _ (Array.getElem?_eq_some_iff.1 O5.out).1).trans O5.out)
         have N6 := Lib.hid ((b5.block _ NL.out).trans UN.out)
         have L6 := Lib.hid (show N < w5.heap.size from Nat.lt_of_lt_of_le NL.out b5.size)
         have HTL := Lib.hid hTl
         have HTN := Lib.hid (show ∀ k, T k → k ≠ N from fun k hk e => by
           rcases hTT k hk with hk | hk
           · obtain ⟨⟨o, ho⟩, hne⟩ := hk
             rcases (HRW.out w (Below.refl _ _)).at_ with h | ⟨B, o', h1, h2, h3⟩
             · exact hne h
             · rw [h1] at ho; cases ho
               have := ON.out; have := HOO.out; omega
           · have := NL.out; omega)
         have HIT := Lib.hid hit
         have HEG := Lib.hid eg
         clear b5 hit hTl hTT eg X5 B5 O5 UN NL))
    refine (wpIn_wide (n := 3)).1 ?_
    refine range_free rfl (by omega) (gf := gf) (lb := lb) rfl trivial HEG.out
      (fun z : Int => #[.int .i64 z]) (fun i => (holdersR r).getD i 0) (holdersR r).length (fun V => ∀ k, T k → V.heap[k]? = w5.heap[k]?) (fun _ => rfl)
      (fun i V => CntI w5 N i V) (fun _ _ => False) ?rd ?st ?stx ⟨Keeps.refl _ _, N6.out⟩ HIT.out ?round ?done ?stop
    case rd => exact fun i V h k hk => h.keeps.block k (HTL.out k hk) (HTN.out k hk)
    case st => exact fun i V V' h hs => h.save L6.out hs
    case stx => exact fun _ _ _ h _ => h
    case stop => exact fun _ _ _ _ h _ => h.elim
    case done =>
      intro D W hD hI hd
      have XW := Lib.hid (X6.out.keep (hI.keeps.block _ X6.out.lt (by have := ON.out; have := HOO.out; omega)))
      have OW := Lib.hid ((hI.keeps.block _ (Array.getElem?_eq_some_iff.1 O6.out).1 (by have := ON.out; omega)).trans O6.out)
      have NW := Lib.hid hI.cnt
      have BW := Lib.hid (B6.out.trans (hI.keeps.below B6.out.size (fun k hk e => by have := ON.out; have := HOO.out; omega)))
      have HD := Lib.hid hd
      have HOD := Lib.hid (show O ≠ D from by have := ON.out; have := L6.out; omega)
      have HDD := Lib.hid (show w.heap.size ≤ D from by have := B6.out.size; omega)
      have g0 : W.cell? ⟨w.heap.size, 0, none⟩ = some (.slice q n c) := XW.out.cell 0
      clear hI X6 O6 N6 B6 hd HIT HEG HTL HTN L6
      go_wp2
      go_loopw [44, 9, 11] (fun v44 v9 _ wr => ∃ k : Nat, k ≤ n ∧ v44 = .int .i64 k ∧ v9 = .int .i64 (cntH r k) ∧ Below W.heap.size W wr) (fun v44 _ _ _ => n - (intOf v44).toNat)
      case atStart => exact ⟨0, Nat.zero_le _, rfl, by unfold cntH; rfl, Below.refl _ _⟩
      case round =>
        obtain ⟨k, hk, rfl, rfl, hb⟩ := hrel
        have HB := Lib.hid hb
        clear hb
        by_cases hlt : k < n
        · obtain ⟨QB, qo, hqe, hQB, hrg⟩ := HN.out k hlt
          subst hqe
          have HRG := Lib.hid (rangeAt_below hrg (BW.out.trans (HB.out.mono BW.out.size)) hQB)
          have HLT := Lib.hid hlt
          have f3 : (k : Int) < (n : Int) := by omega
          have f4 : IntKind.i64.wrap ((k : Int) + 1) = ((k + 1 : Nat) : Int) := by have := HL.out; rw [IntWalk.i64_in _ (by omega)]; omega
          have f5 : IntKind.i64.wrap ((cntH r k : Int) + 1) = ((cntH r k + 1 : Nat) : Int) := by have := HL.out; have := HCL.out k; rw [IntWalk.i64_in _ (by omega)]; omega
          have HNX := Lib.hid (HCN.out k hlt)
          clear hrg hQB hlt hk
          generalize atR r.regs k = p at *
          obtain ⟨pw, pk⟩ := p
          have XR := Lib.hid (XW.out.keep (HB.out.block _ XW.out.lt))
          have BR := Lib.hid (BW.out.trans (HB.out.mono BW.out.size))
          have HHO := Lib.hid (fun (V : World) (hb : Below w.heap.size w V) => refHolds_any (c := c) (HRW.out _ hb).at_ (HRW.out _ hb).len (by have := HL.out; omega) pw)
          generalize cntH r k = ck at *
          cases hh : holdsR r pw
          · have HE := Lib.hid (show cntH r (k + 1) = ck from by rw [HNX.out]; show (if holdsR r pw = true then ck + 1 else ck) = ck; rw [hh]; rfl)
            rw [hh] at HHO
            clear hh HNX
            go_wp2_with (first
              | (with_reducible show wpList _ _ _ (⟨_, Op.indexAddr _ _ _, _, _, _, none⟩ :: _) _ _
                 refine wpList_reg_elem rfl _ _ rfl QB qo n c k rfl rfl HLT.out ?_)
              | (with_reducible show wpList _ _ _ (⟨_, Op.load rgT _, _, _, _, none⟩ :: _) _ _
                 refine wpList_reg_load rfl _ rfl QB (qo + 2 * k) rfl pw pk HRG.out ?_)
              | (with_reducible show wpList _ _ _ (⟨_, Op.alloc rgT, _, _, _, _⟩ :: _) _ _
                 refine wpList_boxA_new rowRg rfl rfl wr.heap.size rfl ?_
                 intro u1 y1 l1 s1
                 have Y1 := Lib.hid y1
                 have L1 := Lib.hid l1
                 have S1 := Lib.hid s1
                 clear y1 l1 s1)
              | (with_reducible show wpList _ _ _ (⟨_, Op.store rgT _ _, _, _, _, none⟩ :: _) _ _
                 refine wpList_boxA_put rowRg rfl _ _ rfl rfl wr.heap.size #[.int .i64 pw, .int .i64 pk] _ rfl (rg_one (pw, pk)) rfl rfl rfl Y1.out ?_
                 intro u2 y2 k2 s2
                 have Y2 := Lib.hid y2
                 have L2 := Lib.hid (L1.out.trans (show Below wr.heap.size u1 u2 from k2.below L1.out.size (fun k hk e => by omega)))
                 have X2 := Lib.hid (XR.out.keep (L2.out.block _ XR.out.lt))
                 have B2 := Lib.hid (BR.out.trans (L2.out.mono BR.out.size))
                 clear y2 k2 s2 Y1 L1 S1 XR BR HRG
                 have p0 : u2.cell? ⟨wr.heap.size, 0, none⟩ = some (.int .i64 pw) := Y2.out.cell 0)
              | (with_reducible show wpList _ _ _ (⟨_, Op.load rvT _, _, _, _, _⟩ :: _) _ _
                 refine wpList_boxA_loadw rowRv _ rfl rfl w.heap.size (resvA (some ⟨QB, qo, none⟩) n c r) rfl rfl X2.out ?_)
              | (go_at_call 19
                 refine (HHO.out _ B2.out).mono ?_; rintro e u3 ⟨rfl, b3⟩
                 have L3 := Lib.hid (L2.out.trans (b3.mono L2.out.size))
                 clear b3 Y2 X2 B2 L2 p0 HHO))
            go_roundw
            case rel => exact ⟨k + 1, HLT.out, by go_num, by first | (rw [HE.out]; done) | (rw [HE.out]; go_num), HB.out.trans (L3.out.mono HB.out.size)⟩
            case measure => have := HLT.out; simp [intOf]; omega
          · have HE := Lib.hid (show cntH r (k + 1) = ck + 1 from by rw [HNX.out]; show (if holdsR r pw = true then ck + 1 else ck) = ck + 1; rw [hh]; rfl)
            rw [hh] at HHO
            clear hh HNX
            go_wp2_with (first
              | (with_reducible show wpList _ _ _ (⟨_, Op.indexAddr _ _ _, _, _, _, none⟩ :: _) _ _
                 refine wpList_reg_elem rfl _ _ rfl QB qo n c k rfl rfl HLT.out ?_)
              | (with_reducible show wpList _ _ _ (⟨_, Op.load rgT _, _, _, _, none⟩ :: _) _ _
                 refine wpList_reg_load rfl _ rfl QB (qo + 2 * k) rfl pw pk HRG.out ?_)
              | (with_reducible show wpList _ _ _ (⟨_, Op.alloc rgT, _, _, _, _⟩ :: _) _ _
                 refine wpList_boxA_new rowRg rfl rfl wr.heap.size rfl ?_
                 intro u1 y1 l1 s1
                 have Y1 := Lib.hid y1
                 have L1 := Lib.hid l1
                 have S1 := Lib.hid s1
                 clear y1 l1 s1)
              | (with_reducible show wpList _ _ _ (⟨_, Op.store rgT _ _, _, _, _, none⟩ :: _) _ _
                 refine wpList_boxA_put rowRg rfl _ _ rfl rfl wr.heap.size #[.int .i64 pw, .int .i64 pk] _ rfl (rg_one (pw, pk)) rfl rfl rfl Y1.out ?_
                 intro u2 y2 k2 s2
                 have Y2 := Lib.hid y2
                 have L2 := Lib.hid (L1.out.trans (show Below wr.heap.size u1 u2 from k2.below L1.out.size (fun k hk e => by omega)))
                 have X2 := Lib.hid (XR.out.keep (L2.out.block _ XR.out.lt))
                 have B2 := Lib.hid (BR.out.trans (L2.out.mono BR.out.size))
                 clear y2 k2 s2 Y1 L1 S1 XR BR HRG
                 have p0 : u2.cell? ⟨wr.heap.size, 0, none⟩ = some (.int .i64 pw) := Y2.out.cell 0)
              | (with_reducible show wpList _ _ _ (⟨_, Op.load rvT _, _, _, _, _⟩ :: _) _ _
                 refine wpList_boxA_loadw rowRv _ rfl rfl w.heap.size (resvA (some ⟨QB, qo, none⟩) n c r) rfl rfl X2.out ?_)
              | (go_at_call 19
                 refine (HHO.out _ B2.out).mono ?_; rintro e u3 ⟨rfl, b3⟩
                 have L3 := Lib.hid (L2.out.trans (b3.mono L2.out.size))
                 clear b3 Y2 X2 B2 L2 p0 HHO))
            go_roundw
            case rel => exact ⟨k + 1, HLT.out, by go_num, by first | (rw [HE.out]; done) | (rw [HE.out]; go_num), HB.out.trans (L3.out.mono HB.out.size)⟩
            case measure => have := HLT.out; simp [intOf]; omega
        · have f3 : ¬ (k : Int) < (n : Int) := by omega
          obtain rfl : k = n := by omega
          have XR := Lib.hid (XW.out.keep (HB.out.block _ XW.out.lt))
          have OR := Lib.hid ((HB.out.block _ (Array.getElem?_eq_some_iff.1 OW.out).1).trans OW.out)
          have NR := Lib.hid ((HB.out.block _ (Array.getElem?_eq_some_iff.1 NW.out).1).trans NW.out)
          have BR := Lib.hid (BW.out.trans (HB.out.mono BW.out.size))
          have DR := Lib.hid ((HB.out.block _ (Array.getElem?_eq_some_iff.1 HD.out).1).trans HD.out)
          clear XW OW NW HD BW HB hlt hk g0 HN HCN HCL
          rw [HCA.out]
          generalize (holdersR r).length = M at *
          go_wp2
          refine wp_region_sched [(0, true), (1, true), (2, true), (3, true), (4, true), (5, true), (6, true), (8, true), (9, true), (10, true), (7, false), (11, false), (12, true), (13, true), (14, false)] (fun V => BoxA V w.heap.size rvT (resvA q k c r) ∧ V.heap[N]? = some (.cells #[.int .i64 M] 3 (0, 0))) (by kernel_rfl) (by kernel_rfl) (show BoxA wr.drew w.heap.size rvT (resvA q k c r) ∧ wr.drew.heap[N]? = _ from ⟨XR.out, NR.out⟩) ?_
          refine walk_float rfl rfl (fun K hK => ?_)
          refine gives_cell 3 _ rfl ⟨N, 0, none⟩ (.int .i64 M) rfl box_int (fun V hV => cell_of_row _ _ _ _ _ _ hV.2) ?_
          go_simp
          refine hK _ ?_
          clear hK K
          refine walk_float rfl rfl (fun K hK => ?_)
          refine gives_move _ rfl ?_
          go_simp
          refine hK _ ?_
          clear hK K
          refine walk_float rfl rfl (fun K hK => ?_)
          refine gives_int_is _ _ rfl M M rfl rfl true (by simp) ?_
          go_simp
          refine hK _ ?_
          clear hK K
          refine walk_float rfl rfl (fun K hK => ?_)
          refine gives_move _ rfl ?_
          go_simp
          refine hK _ ?_
          clear hK K
          refine walk_float rfl rfl (fun K hK => ?_)
          refine gives_boxA_load rowRv _ rfl w.heap.size (resvA q k c r) rfl rfl (fun V hV => hV.1) ?_
          go_simp
          refine hK _ ?_
          clear hK K
          refine walk_float rfl rfl (fun K hK => ?_)
          refine gives_move _ rfl ?_
          go_simp
          refine hK _ ?_
          clear hK K
          refine walk_float rfl rfl (fun K hK => ?_)
          refine gives_move _ rfl ?_
          go_simp
          refine hK _ ?_
          clear hK K
          refine walk_float rfl rfl (fun K hK => ?_)
          refine gives_boxA_load rowRv _ rfl w.heap.size (resvA q k c r) rfl rfl (fun V hV => hV.1) ?_
          go_simp
          refine hK _ ?_
          clear hK K
          refine walk_float rfl rfl (fun K hK => ?_)
          refine gives_move _ rfl ?_
          go_simp
          refine hK _ ?_
          clear hK K
          refine walk_float rfl rfl (fun K hK => ?_)
          refine gives_move _ rfl ?_
          go_simp
          refine hK _ ?_
          clear hK K
          have X1 := Lib.hid (show BoxA wr.drew w.heap.size rvT (resvA q k c r) from XR.out)
          have B1 := Lib.hid (BR.out.drew)
          have O1 := Lib.hid (show wr.drew.heap[O]? = _ from OR.out)
          have N1 := Lib.hid (show wr.drew.heap[N]? = _ from NR.out)
          have D1 := Lib.hid (show wr.drew.heap[D]? = _ from DR.out)
          clear XR BR OR NR DR
          refine walk_done rfl rfl (fun K hK => ?_)
          refine done_call3 _ _ _ _ _ rfl 20 rfl (.agg (resvA q k c r)) (.int .i64 who) (.int .i64 acc) rfl rfl rfl (enters_of Try.func20 (by kernel_rfl) rfl) ?_
          refine (HK.out.allowed who acc HWH.out HAC.out (HRW.out _ B1.out) HG.out).mono ?_
          rintro e y2 ⟨rfl, b2⟩
          have X2 := Lib.hid (X1.out.keep (b2.block _ X1.out.lt))
          have B2 := Lib.hid (B1.out.trans (b2.mono B1.out.size))
          have O2 := Lib.hid ((b2.block _ (Array.getElem?_eq_some_iff.1 O1.out).1).trans O1.out)
          have N2 := Lib.hid ((b2.block _ (Array.getElem?_eq_some_iff.1 N1.out).1).trans N1.out)
          have D2 := Lib.hid ((b2.block _ (Array.getElem?_eq_some_iff.1 D1.out).1).trans D1.out)
          clear b2
          refine ⟨_, rfl, ⟨X2.out, N2.out⟩, ?_⟩
          go_simp
          refine hK _ _ ?_
          clear hK K
          refine walk_done rfl rfl (fun K hK => ?_)
          refine done_call3 _ _ _ _ _ rfl 21 rfl (.agg (resvA q k c r)) (.int .i64 who) (.int .i64 acc) rfl rfl rfl (enters_of Try.func21 (by kernel_rfl) rfl) ?_
          refine (refAllowed_any (c := c) (HRW.out _ B2.out).at_ (HRW.out _ B2.out).len (by have := HL.out; omega) who acc).mono ?_
          rintro e y3 ⟨rfl, b3⟩
          have X3 := Lib.hid (X2.out.keep (b3.block _ X2.out.lt))
          have B3 := Lib.hid (B2.out.trans (b3.mono B2.out.size))
          have O3 := Lib.hid ((b3.block _ (Array.getElem?_eq_some_iff.1 O2.out).1).trans O2.out)
          have N3 := Lib.hid ((b3.block _ (Array.getElem?_eq_some_iff.1 N2.out).1).trans N2.out)
          have D3 := Lib.hid ((b3.block _ (Array.getElem?_eq_some_iff.1 D2.out).1).trans D2.out)
          clear b3
          refine ⟨_, rfl, ⟨X3.out, N3.out⟩, ?_⟩
          go_simp
          refine hK _ _ ?_
          clear hK K
          refine walk_float rfl rfl (fun K hK => ?_)
          refine gives_bool_same _ _ rfl (allowedR r who acc) rfl rfl ?_
          go_simp
          refine hK _ ?_
          clear hK K
          refine walk_float rfl rfl (fun K hK => ?_)
          refine gives_pickT _ _ _ rfl rfl (.bool true) rfl ?_
          go_simp
          refine hK _ ?_
          clear hK K
          refine walk_done rfl rfl (fun K hK => ?_)
          refine done_store_bool _ _ rfl ⟨O, 0, none⟩ true rfl rfl _ (cell_of_row _ _ _ _ _ _ O3.out) (frozen_of_row _ _ _ _ _ O3.out) ?_
          refine ⟨⟨(X3.out.keep (Below.heap_setCell _ _ _ _ (fun e => by have := ON.out; have := HOO.out; have e' : w.heap.size = O := e; omega))), ((Below.heap_setCell _ _ _ _ (fun e => by have := ON.out; have e' : N = O := e; omega)).trans N3.out)⟩, ?_⟩
          go_simp
          refine hK _ _ ?_
          clear hK K
          refine walk_nil ?_
          go_wp2
          refine ⟨by simp, .inl ⟨_, _, rfl, run_takeDeferred ((Below.heap_setCell _ _ _ D (fun e => HOD.out e.symm)).trans D3.out), ?_⟩⟩
          have hc := fin_cell (v := .bool true) (o := .deferred none) O3.out HOD.out
          refine ⟨.bool true, ?_, rfl, below_turn _ (fin_belowO O3.out B3.out (by have := HOO.out; omega)) (by have := HDD.out; omega)⟩
          simp [results, Try.f5, go_sem, hc]
    case round =>
      intro l i W hl hi hWs hI
      have HI := Lib.hid hI
      have HZ := Lib.hid (holders_hold hi)
      have HWS := Lib.hid hWs
      have HI1 := Lib.hid (show i < n from by have := HCL.out n; have := HCA.out; omega)
      clear hI hi hWs
      generalize (holdersR r).getD i 0 = z at *
      gi_wp2
      refine ⟨Rec.refl _ _, fun V hVs hVk hVS => ?_⟩
      have hV := HI.out.save L6.out hVS
      have HV := Lib.hid hV
      have XV := Lib.hid (X6.out.keep (hV.keeps.block _ X6.out.lt (by have := ON.out; have := HOO.out; omega)))
      have HVS := Lib.hid (show w5.heap.size + 2 ≤ V.heap.size from by have := HWS.out; omega)
      have BV := Lib.hid (B6.out.trans (hV.keeps.below B6.out.size (fun k hk e => by have := ON.out; have := HOO.out; omega)))
      clear hV hVs hVk hVS HI HWS
      refine wpIn_block ?_
      refine wpIn_seq_k fun K1 hK1 => ?_
      refine wpIn_seq_k fun K2 hK2 => ?_
      refine region_round rfl (by rintro ⟨_, _, h⟩; exact h) ?_
      go_wp2_with (first
        | (with_reducible show wpList _ _ _ (⟨_, Op.load rvT _, _, _, _, _⟩ :: _) _ _
           refine wpList_boxA_loadw rowRv _ rfl rfl w.heap.size (resvA q n c r) rfl rfl XV.out ?_)
        | (go_at_call 19
           have HC := refHolds_any (c := c) (HRW.out _ BV.out).at_ (HRW.out _ BV.out).len (by have := HL.out; omega) z
           rw [HZ.out] at HC
           refine HC.mono ?_; clear HC; rintro e w7 ⟨rfl, b7⟩
           have H7 := Lib.hid (HV.out.below L6.out b7)
           have R7 := Lib.hid (show V.heap.size ≤ w7.heap.size ∧ w7.heap[w5.heap.size]? = V.heap[w5.heap.size]? ∧ w7.heap[w5.heap.size + 1]? = V.heap[w5.heap.size + 1]? from ⟨b7.size, b7.block _ (by have := HVS.out; omega), b7.block _ (by have := HVS.out; omega)⟩)
           clear b7 XV BV HV))
      have c7 : w7.cell? ⟨N, 0, none⟩ = some (.int .i64 i) := cell_of_row _ _ _ _ _ _ H7.out.cnt
      have f7 : w7.frozen? ⟨N, 0, none⟩ = false := frozen_of_row _ _ _ _ _ H7.out.cnt
      have e7 : IntKind.i64.wrap ((i : Int) + 1) = ((i + 1 : Nat) : Int) := by have := HI1.out; have := HL.out; rw [IntWalk.i64_in _ (by omega)]; omega
      gi_wp2
      exact ⟨⟨by simpa using R7.out.1, (Below.heap_setCell _ _ _ _ (fun e => by have := L6.out; have e' : w5.heap.size = N := e; omega)).trans R7.out.2.1, (Below.heap_setCell _ _ _ _ (fun e => by have := L6.out; have e' : w5.heap.size + 1 = N := e; omega)).trans R7.out.2.2⟩, H7.out.next⟩
theorem laidOut : laidOutB Try.prog = true := by kernel_rfl
set_option maxRecDepth 100000 in
theorem lifted (os : Os) (started : os.Started) (H : Type) (enc : TypeId × Value → H) :
    ReturnsInHanded {} Try.checked os 5 .any (Rows.resvAllowsSpec.pre6 enc Try.prog Try.f5 Rows.resvAllowsRow.domain false) (Rows.resvAllowsSpec.post enc Try.prog Try.f5 false true false false) := by
  refine returnsInHanded_of_change (C := Try.checked) own started (by kernel_rfl) Try.func5
    (ChangeSpec.witness6 (enc := enc) (C := Try.checked) false ⟨#[], #[.agg #[.slice none 0 0, .int .i64 0, .int .i64 0, .bool false, .int .i64 0], .int .i64 0, .int .i64 0], []⟩ 8 (by kernel_rfl) (by kernel_rfl) (by kernel_rfl) (by kernel_rfl)) ?_
  intro W base args ds gs before hval0 hW hcnd _
  have hval : ∀ (j : Nat) t v, Try.f5.params[j]? = some t → args[j]? = some v → Value.okWide Try.prog W .any base t v := hval0
  have hW' := hW
  obtain ⟨p, q, hA0, hV, rfl, hfz, hnd⟩ := hW
  have hA : DataW.TrodAll enc Try.prog W 0 (fun _ => true) true Try.f5.params.toList args.toList ds p := hA0
  rw [Try.params5] at hA hval
  obtain ⟨v0, vs0, d0, ds0, p0, q0, hargs, rfl, rfl, h0, r0⟩ := trodAll_cons hA
  obtain ⟨v1, vs1, d1, ds1, p1, q1, rfl, rfl, rfl, h1, r1⟩ := trodAll_cons r0
  obtain ⟨v2, vs2, d2, ds2, p2, q2, rfl, rfl, rfl, h2, r2⟩ := trodAll_cons r1
  obtain ⟨rfl, rfl, rfl⟩ := trodAll_nil r2
  obtain rfl : args = #[v0, v1, v2] := by cases args; simp_all
  obtain ⟨rfl, rfl⟩ := trodVars_none hV
  have k0 := h0
  have lt0 : ∀ x ∈ p0, x.block < W.heap.size := by obtain ⟨m, hm⟩ := k0; exact DataW.trod_lt m _ _ _ hm
  obtain ⟨q0, c0, z0, rfl, w0, y0, b0, m0⟩ := open_resv (hval 0 24 v0 rfl rfl) h0
  obtain ⟨a1, rfl, rfl, rfl, w1⟩ := open_int Try.underlying3 (hval 1 3 v1 rfl rfl) h1
  obtain ⟨a2, rfl, rfl, rfl, w2⟩ := open_int Try.underlying3 (hval 2 3 v2 rfl rfl) h2
  clear hA0 hval0
  refine (walk resvSpec q0 c0 z0 w0 y0 b0 m0 a1 (okI_wf w1) a2 (okI_wf w2)).mono fun e W' ⟨he, bel⟩ => ?_
  subst he
  exact ⟨_, rfl, _, _, _, [], _, [], hW', trodAll_mk1 (shut_bool Try.underlying4 _), (trodAll_cons_mk (Below.trod laidOut (by kernel_rfl) (of_decide_eq_true (by kernel_rfl)) k0 bel lt0) (trodAll_cons_mk (shut_int Try.underlying3 w1) (trodAll_cons_mk (shut_int Try.underlying3 w2) trodAll_mk0))), rfl, bel.frame _, fun h => by cases h⟩

theorem over : Rows.resvAllowsRow.holds Try.pinned (OpenSpec.ofChange Rows.resvAllowsSpec) :=
  OpenClaim.holds_of_wide 5 Try.f5 rfl rfl rfl rfl rfl rfl rfl ⟨rfl, rfl, rfl, rfl, rfl⟩ rfl rfl rfl rfl rfl (by kernel_rfl) Try.func5 (by kernel_rfl)
    (of_decide_eq_true (by kernel_rfl)) (by unfold Func.isWrapper; first | (rw [if_pos (by decide +kernel)]; kernel_rfl) | (rw [if_neg (by decide +kernel)]; exact ⟨rfl, rfl⟩))
    (fun os started H enc _ => lifted os started H enc)

theorem proved : Rows.ResvAllowsSaid := over
end resvAllows
end Go.Proofs.Ytfnkdmdcjliebaa
