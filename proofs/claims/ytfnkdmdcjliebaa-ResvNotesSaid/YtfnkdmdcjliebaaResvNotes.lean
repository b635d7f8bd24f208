/- ResvNotes: the sector of reservations, and what they are again behind a start. Of the landed package resv. -/
import Derived.Test.YtfnkdmdcjliebaaRvAlive
import Derived.Test.YtfnkdmdcjliebaaRvOps
import Derived.Test.YtfnkdmdcjliebaaRvDo
import Derived.Test.YtfnkdmdcjliebaaRvRn
namespace Go.Proofs.Ytfnkdmdcjliebaa
open Go.ChangeShapes Go.WideShapes Go.ChangeAt Go.RowKit
namespace resvNotes
set_option linter.unusedVariables false
set_option linter.unusedSimpArgs false
theorem own : ownKnob Try.prog.godebug = none := by kernel_rfl
/-- Boxes that lie in a world. -/
structure LwS (w : World) (L : List (Nat × TypeId × Array Value)) (V : World) : Prop where
  box : ∀ {i : Nat} {x : Nat × TypeId × Array Value}, L[i]? = some x → BoxA V x.1 x.2.1 x.2.2
  low : Below w.heap.size w V
theorem LwS.mono {w V V' : World} {L : List (Nat × TypeId × Array Value)} (h : LwS w L V) (hb : Below V.heap.size V V') : LwS w L V' :=
  ⟨fun hi => (h.box hi).keep (hb.block _ (h.box hi).lt), h.low.trans (hb.mono h.low.size)⟩
theorem LwS.add {w V V1 V2 : World} {L : List (Nat × TypeId × Array Value)} {J : Nat} {T : TypeId} {A : Array Value} (h : LwS w L V) (hJ : V.heap.size = J) (hb : Below V.heap.size V V1) (hx : BoxA V2 J T A) (k : Keeps (fun j => j = J) V1 V2) : LwS w ((J, T, A) :: L) V2 := by
  have h1 := h.mono hb
  refine ⟨fun {i x} hi => ?_, h1.low.trans (k.below h1.low.size (fun j hj e => by have := h.low.size; omega))⟩
  rcases i with _ | i
  · obtain rfl : (J, T, A) = x := by simpa using hi
    exact hx
  · have hi' : L[i]? = some x := by simpa using hi
    exact (h1.box hi').keep (k.block _ (h1.box hi').lt (by have := (h.box hi').lt; omega))
theorem regs_low {V V' : World} {q : Option Addr} {ks : List (Int × Int)} {J : Nat} (h : RegsAt V q ks) (hJ : V.heap.size = J) {V1 : World} (hb : Below V.heap.size V V1) (k : Keeps (fun j => j = J) V1 V') : RegsAt V' q ks :=
  RowsAt.below h (hb.trans (k.below hb.size (fun j hj e => by omega)))
theorem own_lenE {base top : Nat} {w : World} {q : Option Addr} {m c : Nat} {ks : List (Int × Int)} (h : OwnL rgT 2 regC w base top (.slice q m c) ks) : m = ks.length := by
  obtain ⟨p, c', hv, -⟩ := h.rows elemReg.len
  cases hv; rfl
theorem box_bool (w : World) : (isAgg 4).run Try.prog w = .ok false w := by simp [go_sem]
attribute [local irreducible] regC atR goodR doR errN noteF secF startR mk zeroK
attribute [local go_sem] Oper.semAt_some
set_option maxRecDepth 100000 in
set_option maxHeartbeats 16000000 in
theorem walk_yes_good (K : ResvSpec) (q : Option Addr) (c : Nat) (r : ResvOf) (hok : r.ok) {w : World} (hq : RegsAt w q r.regs) (n : Nat) (hn : r.regs.length = n) (hnc : n ≤ c) (hc : c ≤ maxLen) (h100 : n ≤ 100) (hs : r.s = true) (hg : goodR r = true) : Calls Try.prog 7 #[.agg (resvA q n c r)] w fun e w' => e = .returned (.bool true) ∧ Below w.heap.size w w' := by
  have HK := Lib.hid K
  have HRV := fun (W : World) (hb : Below w.heap.size w W) => (show RvAt W q n c r from ⟨RowsAt.below hq hb, hn, hnc, hc, hok, by omega⟩)
  have HNT := Lib.hid (fun (W : World) (hb : Below w.heap.size w W) => (by have h := Note_any (HRV W hb); rw [hg] at h; first | (rw [if_pos rfl, errN_zero] at h; exact h) | (rw [if_neg (by decide), errN_not (by decide)] at h; exact h) : Calls Try.prog 23 #[.agg (resvA q n c r)] W fun e w' => e = .returned (.tuple #[.agg (cellsOf .u8 (mk 128 (secF r))), .nilIface]) ∧ Below W.heap.size W w'))
  have HRN := Lib.hid (fun (W : World) (hb : Below w.heap.size w W) => (by have h := refNote_any (HRV W hb); rw [hg] at h; exact h : Calls Try.prog 24 #[.agg (resvA q n c r)] W fun e w' => e = .returned (.tuple #[.agg (cellsOf .u8 (mk 128 (secF r))), .bool true]) ∧ Below W.heap.size W w'))
  have HST := Lib.hid (fun (W : World) (hb : Below w.heap.size w W) => Start_any (c := c) (RowsAt.below hq hb) hn (show n ≤ 1000 by omega))
  have HSAME1 := Lib.hid (fun (hr : startR r = r) (W : World) {qs : Option Addr} {ms cs : Nat} (h : RegsAt W qs (startR r).regs) (hm : (startR r).regs.length = ms) (hb : Below w.heap.size w W) => (show Calls Try.prog 12 #[.agg (resvA qs ms cs (startR r)), .agg (resvA q n c r)] W fun e w' => e = .returned (.bool true) ∧ Below W.heap.size W w' from by
    rw [hr] at h hm ⊢
    obtain rfl : n = ms := hn.symm.trans hm
    exact refSame_eq h (RowsAt.below hq hb) hn (by omega)))
  have HSAME2 := Lib.hid (fun (hr : startR r = nobodyR) (W : World) {qs : Option Addr} {ms cs : Nat} (h : RegsAt W qs (startR r).regs) (hm : (startR r).regs.length = ms) => (show Calls Try.prog 12 #[.agg (resvA qs ms cs (startR r)), .agg (resvA none 0 0 nobodyR)] W fun e w' => e = .returned (.bool true) ∧ Below W.heap.size W w' from by
    rw [hr] at h hm ⊢
    obtain rfl : 0 = ms := hm
    exact refSame_eq h (.inl rfl) rfl (by omega)))
  have HS3 := Lib.hid (fun (W : World) (qb : Option Addr) (mb cb : Nat) (h : RegsAt W qb r.regs) (hm : mb = r.regs.length) (hb : Below w.heap.size w W) => (show Calls Try.prog 12 #[.agg (resvA qb mb cb r), .agg (resvA q n c r)] W fun e w' => e = .returned (.bool true) ∧ Below W.heap.size W w' from by
    obtain rfl : mb = n := hm.trans hn
    exact refSame_eq h (RowsAt.below hq hb) hn (by omega)))
  have HS4 := Lib.hid (fun (W : World) (qb : Option Addr) (mb cb : Nat) (h : RegsAt W qb r.regs) (hm : mb = r.regs.length) (hb : Below w.heap.size w W) => (show Calls Try.prog 28 #[.agg (resvA qb mb cb r), .agg (resvA q n c r)] W fun e w' => e = .returned (.bool true) ∧ Below W.heap.size W w' from by
    obtain rfl : mb = n := hm.trans hn
    exact Same_eq h (RowsAt.below hq hb) hn (by omega)))
  have HS := Lib.hid hs
  have HRS := Lib.hid (show startR r = r by unfold startR; rw [hs]; rfl)
  have HTK := Lib.hid (fun (W : World) => (by have h := Take_note (w := W) hg hok; rw [show secF r = noteF r by unfold secF; rw [hg]; rfl]; exact h : Calls Try.prog 27 #[.agg (cellsOf .u8 (mk 128 (secF r)))] W fun e w' => ∃ q' m c', e = .returned (.tuple #[.agg (resvA q' m c' r), .nilIface]) ∧ OwnR W w' q' m c' r.regs ∧ Below W.heap.size W w'))
  have f1 : decide ((100 : Int) < (n : Int)) = false := by simp; omega
  have f2 : ¬ (100 : Int) < (n : Int) := by omega
  clear hok hq hn hnc hc h100 hs hg K HRV
  go_enter Try.func7, Try.ntmps7
  go_wp2_with (first
  | (with_reducible show wpList _ _ _ (⟨_, Op.box rvT _, _, _, _, none⟩ :: _) _ _
     refine wpList_boxA_of rfl _ rfl (resvA q n c r) rfl ?_
     intro w1 x1 l1 s1
     have P1 := Lib.hid (show LwS w [(w.heap.size, rvT, resvA q n c r)] w1 from ⟨fun {i x} hi => by
       rcases i with _ | i
       · obtain rfl : (w.heap.size, rvT, resvA q n c r) = x := by simpa using hi
         exact x1
       · simp at hi, l1⟩)
     clear x1 l1 s1)
  | (go_at_call 9
     refine (alive_any HK.out w1).mono ?_; rintro e w3 ⟨rfl, hb3⟩
     have P3 := Lib.hid (P1.out.mono hb3)
     obtain ⟨c0, c1, c2, c3, c4⟩ := boxRv (P3.out.box (i := 0) rfl)
     clear hb3 P1)
  | (with_reducible show wpList _ _ _ (⟨some 16, Op.load rvT _, _, _, _, none⟩ :: _) _ _
     refine wpList_boxA_load rowRv rfl _ rfl w.heap.size (resvA q n c r) rfl rfl (P3.out.box (i := 0) rfl) ?_)
  | (go_at_call 23
     refine (HNT.out _ P3.out.low).mono ?_; rintro e w4 ⟨rfl, hb4⟩
     have P4 := Lib.hid (P3.out.mono hb4)
     clear hb4 P3 c0 c1 c2 c3 c4)
  | (with_reducible show wpList _ _ _ (⟨some 3, Op.alloc ceT, _, _, _, _⟩ :: _) _ _
     refine wpList_boxA_new rowCe rfl rfl w4.heap.size rfl ?_
     intro wa xa la sa
     have XA := Lib.hid xa
     have LA := Lib.hid la
     have HJC := Lib.hid (show w4.heap.size = w4.heap.size from rfl)
     clear xa la sa)
  | (with_reducible show wpList _ _ _ (⟨_, Op.store ceT (.tmp 3) _, _, _, _, none⟩ :: _) _ _
     refine wpList_boxA_put rowCe rfl _ _ rfl rfl w4.heap.size (cellsOf .u8 (mk 128 (secF r))) _ (ce_size _) (ce_one _) (ce_size _) rfl rfl XA.out ?_
     intro w5 x5 k5 s5
     have P5 := Lib.hid (P4.out.add rfl LA.out x5 k5)
     clear x5 k5 s5 XA LA P4)
  | (with_reducible show wpList _ _ _ (⟨some 21, Op.load rvT _, _, _, _, none⟩ :: _) _ _
     refine wpList_boxA_load rowRv rfl _ rfl w.heap.size (resvA q n c r) rfl rfl (P5.out.box (i := 1) rfl) ?_)
  | (go_at_call 24
     refine (HRN.out _ P5.out.low).mono ?_; rintro e w6 ⟨rfl, hb6⟩
     have P6 := Lib.hid (P5.out.mono hb6)
     clear hb6 P5)
  | (with_reducible show wpList _ _ _ (⟨some 5, Op.alloc ceT, _, _, _, _⟩ :: _) _ _
     refine wpList_boxA_new rowCe rfl rfl w6.heap.size rfl ?_
     intro wa xa la sa
     have XA := Lib.hid xa
     have LA := Lib.hid la
     clear xa la sa)
  | (with_reducible show wpList _ _ _ (⟨_, Op.store ceT (.tmp 5) _, _, _, _, none⟩ :: _) _ _
     refine wpList_boxA_put rowCe rfl _ _ rfl rfl w6.heap.size (cellsOf .u8 (mk 128 (secF r))) _ (ce_size _) (ce_one _) (ce_size _) rfl rfl XA.out ?_
     intro w7 x7 k7 s7
     have P7 := Lib.hid (P6.out.add rfl LA.out x7 k7)
     clear x7 k7 s7 XA LA P6)
  | (with_reducible show wpList _ _ _ (⟨some 25, Op.load ceT _, _, _, _, _⟩ :: _) _ _
     refine wpList_sec_load rfl _ rfl w4.heap.size (secF r) rfl (P7.out.box (i := 1) rfl) ?_)
  | (with_reducible show wpList _ _ _ (⟨some 26, Op.load ceT _, _, _, _, _⟩ :: _) _ _
     refine wpList_sec_load rfl _ rfl w6.heap.size (secF r) rfl (P7.out.box (i := 0) rfl) ?_)
  | (with_reducible show wpList _ _ _ (⟨some 27, Op.binOp .neq ceT _ _ _, _, _, _, _⟩ :: _) _ _
     refine wpList_sec_neq rfl _ _ rfl (secF r) (secF r) rfl rfl rfl ?_)
  | (go_at_call 17
     refine (Is_err 2 rfl w7).mono ?_; rintro e wx ⟨rfl, rfl⟩)
  | (with_reducible show wpList _ _ _ (⟨some 44, Op.load rvT _, _, _, _, none⟩ :: _) _ _
     refine wpList_boxA_load rowRv rfl _ rfl w.heap.size (resvA q n c r) rfl rfl (P7.out.box (i := 2) rfl) ?_)
  | (go_at_call 25
     refine (HST.out _ P7.out.low).mono ?_; rintro e w8 ⟨qs, ms, cs, rfl, hrs, hms, hb8⟩
     have P8 := Lib.hid (P7.out.mono hb8)
     have RS := Lib.hid hrs
     have MS := Lib.hid hms
     clear hb8 P7 hrs hms)
  | (with_reducible show wpList _ _ _ (⟨some 7, Op.alloc rvT, _, _, _, _⟩ :: _) _ _
     refine wpList_boxA_new rowRv rfl rfl w8.heap.size rfl ?_
     intro wa xa la sa
     have XA := Lib.hid xa
     have LA := Lib.hid la
     clear xa la sa)
  | (with_reducible show wpList _ _ _ (⟨_, Op.store rvT (.tmp 7) _, _, _, _, none⟩ :: _) _ _
     refine wpList_boxA_put rowRv rfl _ _ rfl rfl w8.heap.size (resvA qs ms cs (startR r)) _ rfl (rvA_one _ _ _ _) rfl rfl rfl XA.out ?_
     intro w9 x9 k9 s9
     have P9 := Lib.hid (P8.out.add rfl LA.out x9 k9)
     have RS9 := Lib.hid (regs_low RS.out rfl LA.out k9)
     clear x9 k9 s9 XA LA P8 RS))
  obtain ⟨LL, hLL⟩ : ∃ LL, LL = [(w8.heap.size, rvT, resvA qs ms cs (startR r)), (w6.heap.size, ceT, cellsOf .u8 (mk 128 (secF r))), (w4.heap.size, ceT, cellsOf .u8 (mk 128 (secF r))), (w.heap.size, rvT, resvA q n c r)] := ⟨_, rfl⟩
  have HL0 := Lib.hid (show LL[0]? = some (w8.heap.size, rvT, resvA qs ms cs (startR r)) by rw [hLL]; rfl)
  have HL2 := Lib.hid (show LL[2]? = some (w4.heap.size, ceT, cellsOf .u8 (mk 128 (secF r))) by rw [hLL]; rfl)
  have HL3 := Lib.hid (show LL[3]? = some (w.heap.size, rvT, resvA q n c r) by rw [hLL]; rfl)
  have D0 := Lib.hid (show LwS w LL w9.drew from by rw [hLL]; exact P9.out.mono (Below.refl _ w9).drew)
  have RS9D := Lib.hid (show RegsAt w9.drew qs (startR r).regs from RS9.out)
  have MS2 := MS.out
  clear hLL P9 RS9
  refine wp_region_sched [(0, true), (1, true), (2, true), (3, true), (4, true), (5, false), (6, true), (7, true), (8, true), (9, true), (10, true), (11, true), (12, true), (13, true), (14, false), (15, false), (16, true), (17, true), (18, true)] (fun V => LwS w LL V) (by kernel_rfl) (by kernel_rfl) D0.out ?_
  refine walk_float rfl rfl (fun K hK => ?_)
  refine gives_rvfield _ 3 rfl (by decide) w.heap.size rfl ?_
  go_simp
  refine hK _ ?_
  clear hK K
  refine walk_float rfl rfl (fun K hK => ?_)
  refine gives_cell 4 _ rfl ⟨w.heap.size, 3, none⟩ (.bool true) rfl box_bool (fun V hV => ((hV.box (i := 3) HL3.out).cell 3).trans (by show some (Value.bool r.s) = _; rw [HS.out])) ?_
  go_simp
  refine hK _ ?_
  clear hK K
  refine walk_float rfl rfl (fun K hK => ?_)
  refine gives_move _ rfl ?_
  go_simp
  refine hK _ ?_
  clear hK K
  refine walk_float rfl rfl (fun K hK => ?_)
  refine gives_boxA_load rowRv _ rfl w8.heap.size (resvA qs ms cs (startR r)) rfl rfl (fun V hV => hV.box (i := 0) HL0.out) ?_
  go_simp
  refine hK _ ?_
  clear hK K
  refine walk_float rfl rfl (fun K hK => ?_)
  refine gives_boxA_load rowRv _ rfl w.heap.size (resvA q n c r) rfl rfl (fun V hV => hV.box (i := 3) HL3.out) ?_
  go_simp
  refine hK _ ?_
  clear hK K
  refine walk_done rfl rfl (fun K hK => ?_)
  refine done_call2 _ _ _ _ rfl 12 rfl (.agg (resvA qs ms cs (startR r))) (.agg (resvA q n c r)) rfl rfl (enters_of Try.func12 (by kernel_rfl) rfl) ?_
  refine (HSAME1.out HRS.out _ RS9D.out MS2 D0.out.low).mono ?_
  rintro e zD1 ⟨rfl, hb⟩
  have D1 := Lib.hid (D0.out.mono hb)
  clear hb
  refine ⟨_, rfl, ?_⟩
  refine ⟨D1.out, ?_⟩
  go_simp
  refine hK _ _ ?_
  clear hK K
  refine walk_float rfl rfl (fun K hK => ?_)
  refine gives_not2 _ _ rfl true false rfl rfl ?_
  go_simp
  refine hK _ ?_
  clear hK K
  refine walk_float rfl rfl (fun K hK => ?_)
  refine gives_pickT _ _ _ rfl rfl (.bool false) rfl ?_
  go_simp
  refine hK _ ?_
  clear hK K
  refine walk_float rfl rfl (fun K hK => ?_)
  refine gives_move _ rfl ?_
  go_simp
  refine hK _ ?_
  clear hK K
  refine walk_float rfl rfl (fun K hK => ?_)
  refine gives_rvfield _ 3 rfl (by decide) w.heap.size rfl ?_
  go_simp
  refine hK _ ?_
  clear hK K
  refine walk_float rfl rfl (fun K hK => ?_)
  refine gives_cell 4 _ rfl ⟨w.heap.size, 3, none⟩ (.bool true) rfl box_bool (fun V hV => ((hV.box (i := 3) HL3.out).cell 3).trans (by show some (Value.bool r.s) = _; rw [HS.out])) ?_
  go_simp
  refine hK _ ?_
  clear hK K
  refine walk_float rfl rfl (fun K hK => ?_)
  refine gives_not2 _ _ rfl true false rfl rfl ?_
  go_simp
  refine hK _ ?_
  clear hK K
  refine walk_float rfl rfl (fun K hK => ?_)
  refine gives_move _ rfl ?_
  go_simp
  refine hK _ ?_
  clear hK K
  refine walk_off rfl rfl ?_
  go_simp
  refine walk_off' rfl rfl ?_
  go_simp
  refine walk_off' rfl rfl ?_
  go_simp
  refine walk_off rfl rfl ?_
  go_simp
  refine walk_float rfl rfl (fun K hK => ?_)
  refine gives_pickF _ _ _ rfl rfl (.bool false) rfl ?_
  go_simp
  refine hK _ ?_
  clear hK K
  refine walk_float rfl rfl (fun K hK => ?_)
  refine gives_pickF _ _ _ rfl rfl (.bool false) rfl ?_
  go_simp
  refine hK _ ?_
  clear hK K
  refine walk_nil ?_
  go_wp2_with (first
  | (with_reducible show wpList _ _ _ (⟨some 68, Op.load ceT _, _, _, _, none⟩ :: _) _ _
     refine wpList_sec_load rfl _ rfl w4.heap.size (secF r) rfl (D1.out.box (i := 2) HL2.out) ?_)
  | (go_at_call 27
     refine (HTK.out _).mono ?_; rintro e wt ⟨qb, mb, cb, rfl, ob, hbt⟩
     have PT := Lib.hid (D1.out.mono hbt)
     have OB := Lib.hid (OwnL.rows2 elemReg.len ob)
     have MB := Lib.hid (own_lenE ob)
     clear hbt ob)
  | (with_reducible show wpList _ _ _ (⟨some 8, Op.alloc rvT, _, _, _, _⟩ :: _) _ _
     refine wpList_boxA_new rowRv rfl rfl wt.heap.size rfl ?_
     intro wa xa la sa
     have XA := Lib.hid xa
     have LA := Lib.hid la
     clear xa la sa)
  | (with_reducible show wpList _ _ _ (⟨_, Op.store rvT (.tmp 8) _, _, _, _, none⟩ :: _) _ _
     refine wpList_boxA_put rowRv rfl _ _ rfl rfl wt.heap.size (resvA qb mb cb r) _ rfl (rvA_one _ _ _ _) rfl rfl rfl XA.out ?_
     intro wb xb kb sb
     have PB1 := Lib.hid (PT.out.add rfl LA.out xb kb)
     have OB1 := Lib.hid (regs_low OB.out rfl LA.out kb)
     clear xb kb sb XA LA PT OB)
  | (with_reducible show wpList _ _ _ (⟨some 75, Op.load rvT _, _, _, _, _⟩ :: _) _ _
     refine wpList_boxA_loadw rowRv _ rfl rfl wt.heap.size (resvA qb mb cb r) rfl rfl (PB1.out.box (i := 0) rfl) ?_)
  | (with_reducible show wpList _ _ _ (⟨some 76, Op.load rvT _, _, _, _, _⟩ :: _) _ _
     refine wpList_boxA_loadw rowRv _ rfl rfl w.heap.size (resvA q n c r) rfl rfl (PB1.out.box (i := 4) HL3.out) ?_)
  | (go_at_call 12
     refine (HS3.out wb qb mb cb OB1.out MB.out PB1.out.low).mono ?_; rintro e wc ⟨rfl, hbc⟩
     have PC := Lib.hid (PB1.out.mono hbc)
     have OC := Lib.hid (RowsAt.below OB1.out hbc)
     clear hbc PB1 OB1)
  | (with_reducible show wpList _ _ _ (⟨some 80, Op.load rvT _, _, _, _, _⟩ :: _) _ _
     refine wpList_boxA_loadw rowRv _ rfl rfl wt.heap.size (resvA qb mb cb r) rfl rfl (PC.out.box (i := 0) rfl) ?_)
  | (with_reducible show wpList _ _ _ (⟨some 81, Op.load rvT _, _, _, _, _⟩ :: _) _ _
     refine wpList_boxA_loadw rowRv _ rfl rfl w.heap.size (resvA q n c r) rfl rfl (PC.out.box (i := 4) HL3.out) ?_)
  | (go_at_call 28
     refine (HS4.out wc qb mb cb OC.out MB.out PC.out.low).mono ?_; rintro e wd ⟨rfl, hbd⟩
     have PD := Lib.hid (PC.out.mono hbd)
     clear hbd PC OC))
  go_ret
  exact ⟨rfl, PD.out.low⟩
set_option maxRecDepth 100000 in
set_option maxHeartbeats 16000000 in
theorem walk_yes_bad (K : ResvSpec) (q : Option Addr) (c : Nat) (r : ResvOf) (hok : r.ok) {w : World} (hq : RegsAt w q r.regs) (n : Nat) (hn : r.regs.length = n) (hnc : n ≤ c) (hc : c ≤ maxLen) (h100 : n ≤ 100) (hs : r.s = true) (hg : goodR r = false) : Calls Try.prog 7 #[.agg (resvA q n c r)] w fun e w' => e = .returned (.bool true) ∧ Below w.heap.size w w' := by
  have HK := Lib.hid K
  have HRV := fun (W : World) (hb : Below w.heap.size w W) => (show RvAt W q n c r from ⟨RowsAt.below hq hb, hn, hnc, hc, hok, by omega⟩)
  have HNT := Lib.hid (fun (W : World) (hb : Below w.heap.size w W) => (by have h := Note_any (HRV W hb); rw [hg] at h; first | (rw [if_pos rfl, errN_zero] at h; exact h) | (rw [if_neg (by decide), errN_not (by decide)] at h; exact h) : Calls Try.prog 23 #[.agg (resvA q n c r)] W fun e w' => e = .returned (.tuple #[.agg (cellsOf .u8 (mk 128 (secF r))), .iface 45 (.int .i64 2)]) ∧ Below W.heap.size W w'))
  have HRN := Lib.hid (fun (W : World) (hb : Below w.heap.size w W) => (by have h := refNote_any (HRV W hb); rw [hg] at h; exact h : Calls Try.prog 24 #[.agg (resvA q n c r)] W fun e w' => e = .returned (.tuple #[.agg (cellsOf .u8 (mk 128 (secF r))), .bool false]) ∧ Below W.heap.size W w'))
  have HST := Lib.hid (fun (W : World) (hb : Below w.heap.size w W) => Start_any (c := c) (RowsAt.below hq hb) hn (show n ≤ 1000 by omega))
  have HSAME1 := Lib.hid (fun (hr : startR r = r) (W : World) {qs : Option Addr} {ms cs : Nat} (h : RegsAt W qs (startR r).regs) (hm : (startR r).regs.length = ms) (hb : Below w.heap.size w W) => (show Calls Try.prog 12 #[.agg (resvA qs ms cs (startR r)), .agg (resvA q n c r)] W fun e w' => e = .returned (.bool true) ∧ Below W.heap.size W w' from by
    rw [hr] at h hm ⊢
    obtain rfl : n = ms := hn.symm.trans hm
    exact refSame_eq h (RowsAt.below hq hb) hn (by omega)))
  have HSAME2 := Lib.hid (fun (hr : startR r = nobodyR) (W : World) {qs : Option Addr} {ms cs : Nat} (h : RegsAt W qs (startR r).regs) (hm : (startR r).regs.length = ms) => (show Calls Try.prog 12 #[.agg (resvA qs ms cs (startR r)), .agg (resvA none 0 0 nobodyR)] W fun e w' => e = .returned (.bool true) ∧ Below W.heap.size W w' from by
    rw [hr] at h hm ⊢
    obtain rfl : 0 = ms := hm
    exact refSame_eq h (.inl rfl) rfl (by omega)))
  have HS3 := Lib.hid (fun (W : World) (qb : Option Addr) (mb cb : Nat) (h : RegsAt W qb r.regs) (hm : mb = r.regs.length) (hb : Below w.heap.size w W) => (show Calls Try.prog 12 #[.agg (resvA qb mb cb r), .agg (resvA q n c r)] W fun e w' => e = .returned (.bool true) ∧ Below W.heap.size W w' from by
    obtain rfl : mb = n := hm.trans hn
    exact refSame_eq h (RowsAt.below hq hb) hn (by omega)))
  have HS4 := Lib.hid (fun (W : World) (qb : Option Addr) (mb cb : Nat) (h : RegsAt W qb r.regs) (hm : mb = r.regs.length) (hb : Below w.heap.size w W) => (show Calls Try.prog 28 #[.agg (resvA qb mb cb r), .agg (resvA q n c r)] W fun e w' => e = .returned (.bool true) ∧ Below W.heap.size W w' from by
    obtain rfl : mb = n := hm.trans hn
    exact Same_eq h (RowsAt.below hq hb) hn (by omega)))
  have HS := Lib.hid hs
  have HRS := Lib.hid (show startR r = r by unfold startR; rw [hs]; rfl)
  skip
  have f1 : decide ((100 : Int) < (n : Int)) = false := by simp; omega
  have f2 : ¬ (100 : Int) < (n : Int) := by omega
  clear hok hq hn hnc hc h100 hs hg K HRV
  go_enter Try.func7, Try.ntmps7
  go_wp2_with (first
  | (with_reducible show wpList _ _ _ (⟨_, Op.box rvT _, _, _, _, none⟩ :: _) _ _
     refine wpList_boxA_of rfl _ rfl (resvA q n c r) rfl ?_
     intro w1 x1 l1 s1
     have P1 := Lib.hid (show LwS w [(w.heap.size, rvT, resvA q n c r)] w1 from ⟨fun {i x} hi => by
       rcases i with _ | i
       · obtain rfl : (w.heap.size, rvT, resvA q n c r) = x := by simpa using hi
         exact x1
       · simp at hi, l1⟩)
     clear x1 l1 s1)
  | (go_at_call 9
     refine (alive_any HK.out w1).mono ?_; rintro e w3 ⟨rfl, hb3⟩
     have P3 := Lib.hid (P1.out.mono hb3)
     obtain ⟨c0, c1, c2, c3, c4⟩ := boxRv (P3.out.box (i := 0) rfl)
     clear hb3 P1)
  | (with_reducible show wpList _ _ _ (⟨some 16, Op.load rvT _, _, _, _, none⟩ :: _) _ _
     refine wpList_boxA_load rowRv rfl _ rfl w.heap.size (resvA q n c r) rfl rfl (P3.out.box (i := 0) rfl) ?_)
  | (go_at_call 23
     refine (HNT.out _ P3.out.low).mono ?_; rintro e w4 ⟨rfl, hb4⟩
     have P4 := Lib.hid (P3.out.mono hb4)
     clear hb4 P3 c0 c1 c2 c3 c4)
  | (with_reducible show wpList _ _ _ (⟨some 3, Op.alloc ceT, _, _, _, _⟩ :: _) _ _
     refine wpList_boxA_new rowCe rfl rfl w4.heap.size rfl ?_
     intro wa xa la sa
     have XA := Lib.hid xa
     have LA := Lib.hid la
     have HJC := Lib.hid (show w4.heap.size = w4.heap.size from rfl)
     clear xa la sa)
  | (with_reducible show wpList _ _ _ (⟨_, Op.store ceT (.tmp 3) _, _, _, _, none⟩ :: _) _ _
     refine wpList_boxA_put rowCe rfl _ _ rfl rfl w4.heap.size (cellsOf .u8 (mk 128 (secF r))) _ (ce_size _) (ce_one _) (ce_size _) rfl rfl XA.out ?_
     intro w5 x5 k5 s5
     have P5 := Lib.hid (P4.out.add rfl LA.out x5 k5)
     clear x5 k5 s5 XA LA P4)
  | (with_reducible show wpList _ _ _ (⟨some 21, Op.load rvT _, _, _, _, none⟩ :: _) _ _
     refine wpList_boxA_load rowRv rfl _ rfl w.heap.size (resvA q n c r) rfl rfl (P5.out.box (i := 1) rfl) ?_)
  | (go_at_call 24
     refine (HRN.out _ P5.out.low).mono ?_; rintro e w6 ⟨rfl, hb6⟩
     have P6 := Lib.hid (P5.out.mono hb6)
     clear hb6 P5)
  | (with_reducible show wpList _ _ _ (⟨some 5, Op.alloc ceT, _, _, _, _⟩ :: _) _ _
     refine wpList_boxA_new rowCe rfl rfl w6.heap.size rfl ?_
     intro wa xa la sa
     have XA := Lib.hid xa
     have LA := Lib.hid la
     clear xa la sa)
  | (with_reducible show wpList _ _ _ (⟨_, Op.store ceT (.tmp 5) _, _, _, _, none⟩ :: _) _ _
     refine wpList_boxA_put rowCe rfl _ _ rfl rfl w6.heap.size (cellsOf .u8 (mk 128 (secF r))) _ (ce_size _) (ce_one _) (ce_size _) rfl rfl XA.out ?_
     intro w7 x7 k7 s7
     have P7 := Lib.hid (P6.out.add rfl LA.out x7 k7)
     clear x7 k7 s7 XA LA P6)
  | (with_reducible show wpList _ _ _ (⟨some 25, Op.load ceT _, _, _, _, _⟩ :: _) _ _
     refine wpList_sec_load rfl _ rfl w4.heap.size (secF r) rfl (P7.out.box (i := 1) rfl) ?_)
  | (with_reducible show wpList _ _ _ (⟨some 26, Op.load ceT _, _, _, _, _⟩ :: _) _ _
     refine wpList_sec_load rfl _ rfl w6.heap.size (secF r) rfl (P7.out.box (i := 0) rfl) ?_)
  | (with_reducible show wpList _ _ _ (⟨some 27, Op.binOp .neq ceT _ _ _, _, _, _, _⟩ :: _) _ _
     refine wpList_sec_neq rfl _ _ rfl (secF r) (secF r) rfl rfl rfl ?_)
  | (go_at_call 17
     refine (Is_err 2 rfl w7).mono ?_; rintro e wx ⟨rfl, rfl⟩)
  | (with_reducible show wpList _ _ _ (⟨some 44, Op.load rvT _, _, _, _, none⟩ :: _) _ _
     refine wpList_boxA_load rowRv rfl _ rfl w.heap.size (resvA q n c r) rfl rfl (P7.out.box (i := 2) rfl) ?_)
  | (go_at_call 25
     refine (HST.out _ P7.out.low).mono ?_; rintro e w8 ⟨qs, ms, cs, rfl, hrs, hms, hb8⟩
     have P8 := Lib.hid (P7.out.mono hb8)
     have RS := Lib.hid hrs
     have MS := Lib.hid hms
     clear hb8 P7 hrs hms)
  | (with_reducible show wpList _ _ _ (⟨some 7, Op.alloc rvT, _, _, _, _⟩ :: _) _ _
     refine wpList_boxA_new rowRv rfl rfl w8.heap.size rfl ?_
     intro wa xa la sa
     have XA := Lib.hid xa
     have LA := Lib.hid la
     clear xa la sa)
  | (with_reducible show wpList _ _ _ (⟨_, Op.store rvT (.tmp 7) _, _, _, _, none⟩ :: _) _ _
     refine wpList_boxA_put rowRv rfl _ _ rfl rfl w8.heap.size (resvA qs ms cs (startR r)) _ rfl (rvA_one _ _ _ _) rfl rfl rfl XA.out ?_
     intro w9 x9 k9 s9
     have P9 := Lib.hid (P8.out.add rfl LA.out x9 k9)
     have RS9 := Lib.hid (regs_low RS.out rfl LA.out k9)
     clear x9 k9 s9 XA LA P8 RS))
  obtain ⟨LL, hLL⟩ : ∃ LL, LL = [(w8.heap.size, rvT, resvA qs ms cs (startR r)), (w6.heap.size, ceT, cellsOf .u8 (mk 128 (secF r))), (w4.heap.size, ceT, cellsOf .u8 (mk 128 (secF r))), (w.heap.size, rvT, resvA q n c r)] := ⟨_, rfl⟩
  have HL0 := Lib.hid (show LL[0]? = some (w8.heap.size, rvT, resvA qs ms cs (startR r)) by rw [hLL]; rfl)
  have HL2 := Lib.hid (show LL[2]? = some (w4.heap.size, ceT, cellsOf .u8 (mk 128 (secF r))) by rw [hLL]; rfl)
  have HL3 := Lib.hid (show LL[3]? = some (w.heap.size, rvT, resvA q n c r) by rw [hLL]; rfl)
  have D0 := Lib.hid (show LwS w LL w9.drew from by rw [hLL]; exact P9.out.mono (Below.refl _ w9).drew)
  have RS9D := Lib.hid (show RegsAt w9.drew qs (startR r).regs from RS9.out)
  have MS2 := MS.out
  clear hLL P9 RS9
  refine wp_region_sched [(0, true), (1, true), (2, true), (3, true), (4, true), (5, false), (6, true), (7, true), (8, true), (9, true), (10, true), (11, true), (12, true), (13, true), (14, false), (15, false), (16, true), (17, true), (18, true)] (fun V => LwS w LL V) (by kernel_rfl) (by kernel_rfl) D0.out ?_
  refine walk_float rfl rfl (fun K hK => ?_)
  refine gives_rvfield _ 3 rfl (by decide) w.heap.size rfl ?_
  go_simp
  refine hK _ ?_
  clear hK K
  refine walk_float rfl rfl (fun K hK => ?_)
  refine gives_cell 4 _ rfl ⟨w.heap.size, 3, none⟩ (.bool true) rfl box_bool (fun V hV => ((hV.box (i := 3) HL3.out).cell 3).trans (by show some (Value.bool r.s) = _; rw [HS.out])) ?_
  go_simp
  refine hK _ ?_
  clear hK K
  refine walk_float rfl rfl (fun K hK => ?_)
  refine gives_move _ rfl ?_
  go_simp
  refine hK _ ?_
  clear hK K
  refine walk_float rfl rfl (fun K hK => ?_)
  refine gives_boxA_load rowRv _ rfl w8.heap.size (resvA qs ms cs (startR r)) rfl rfl (fun V hV => hV.box (i := 0) HL0.out) ?_
  go_simp
  refine hK _ ?_
  clear hK K
  refine walk_float rfl rfl (fun K hK => ?_)
  refine gives_boxA_load rowRv _ rfl w.heap.size (resvA q n c r) rfl rfl (fun V hV => hV.box (i := 3) HL3.out) ?_
  go_simp
  refine hK _ ?_
  clear hK K
  refine walk_done rfl rfl (fun K hK => ?_)
  refine done_call2 _ _ _ _ rfl 12 rfl (.agg (resvA qs ms cs (startR r))) (.agg (resvA q n c r)) rfl rfl (enters_of Try.func12 (by kernel_rfl) rfl) ?_
  refine (HSAME1.out HRS.out _ RS9D.out MS2 D0.out.low).mono ?_
  rintro e zD1 ⟨rfl, hb⟩
  have D1 := Lib.hid (D0.out.mono hb)
  clear hb
  refine ⟨_, rfl, ?_⟩
  refine ⟨D1.out, ?_⟩
  go_simp
  refine hK _ _ ?_
  clear hK K
  refine walk_float rfl rfl (fun K hK => ?_)
  refine gives_not2 _ _ rfl true false rfl rfl ?_
  go_simp
  refine hK _ ?_
  clear hK K
  refine walk_float rfl rfl (fun K hK => ?_)
  refine gives_pickT _ _ _ rfl rfl (.bool false) rfl ?_
  go_simp
  refine hK _ ?_
  clear hK K
  refine walk_float rfl rfl (fun K hK => ?_)
  refine gives_move _ rfl ?_
  go_simp
  refine hK _ ?_
  clear hK K
  refine walk_float rfl rfl (fun K hK => ?_)
  refine gives_rvfield _ 3 rfl (by decide) w.heap.size rfl ?_
  go_simp
  refine hK _ ?_
  clear hK K
  refine walk_float rfl rfl (fun K hK => ?_)
  refine gives_cell 4 _ rfl ⟨w.heap.size, 3, none⟩ (.bool true) rfl box_bool (fun V hV => ((hV.box (i := 3) HL3.out).cell 3).trans (by show some (Value.bool r.s) = _; rw [HS.out])) ?_
  go_simp
  refine hK _ ?_
  clear hK K
  refine walk_float rfl rfl (fun K hK => ?_)
  refine gives_not2 _ _ rfl true false rfl rfl ?_
  go_simp
  refine hK _ ?_
  clear hK K
  refine walk_float rfl rfl (fun K hK => ?_)
  refine gives_move _ rfl ?_
  go_simp
  refine hK _ ?_
  clear hK K
  refine walk_off rfl rfl ?_
  go_simp
  refine walk_off' rfl rfl ?_
  go_simp
  refine walk_off' rfl rfl ?_
  go_simp
  refine walk_off rfl rfl ?_
  go_simp
  refine walk_float rfl rfl (fun K hK => ?_)
  refine gives_pickF _ _ _ rfl rfl (.bool false) rfl ?_
  go_simp
  refine hK _ ?_
  clear hK K
  refine walk_float rfl rfl (fun K hK => ?_)
  refine gives_pickF _ _ _ rfl rfl (.bool false) rfl ?_
  go_simp
  refine hK _ ?_
  clear hK K
  refine walk_nil ?_
  go_wp2
  go_ret
  exact ⟨rfl, D1.out.low⟩
set_option maxRecDepth 100000 in
set_option maxHeartbeats 16000000 in
theorem walk_no_good (K : ResvSpec) (q : Option Addr) (c : Nat) (r : ResvOf) (hok : r.ok) {w : World} (hq : RegsAt w q r.regs) (n : Nat) (hn : r.regs.length = n) (hnc : n ≤ c) (hc : c ≤ maxLen) (h100 : n ≤ 100) (hs : r.s = false) (hg : goodR r = true) : Calls Try.prog 7 #[.agg (resvA q n c r)] w fun e w' => e = .returned (.bool true) ∧ Below w.heap.size w w' := by
  have HK := Lib.hid K
  have HRV := fun (W : World) (hb : Below w.heap.size w W) => (show RvAt W q n c r from ⟨RowsAt.below hq hb, hn, hnc, hc, hok, by omega⟩)
  have HNT := Lib.hid (fun (W : World) (hb : Below w.heap.size w W) => (by have h := Note_any (HRV W hb); rw [hg] at h; first | (rw [if_pos rfl, errN_zero] at h; exact h) | (rw [if_neg (by decide), errN_not (by decide)] at h; exact h) : Calls Try.prog 23 #[.agg (resvA q n c r)] W fun e w' => e = .returned (.tuple #[.agg (cellsOf .u8 (mk 128 (secF r))), .nilIface]) ∧ Below W.heap.size W w'))
  have HRN := Lib.hid (fun (W : World) (hb : Below w.heap.size w W) => (by have h := refNote_any (HRV W hb); rw [hg] at h; exact h : Calls Try.prog 24 #[.agg (resvA q n c r)] W fun e w' => e = .returned (.tuple #[.agg (cellsOf .u8 (mk 128 (secF r))), .bool true]) ∧ Below W.heap.size W w'))
  have HST := Lib.hid (fun (W : World) (hb : Below w.heap.size w W) => Start_any (c := c) (RowsAt.below hq hb) hn (show n ≤ 1000 by omega))
  have HSAME1 := Lib.hid (fun (hr : startR r = r) (W : World) {qs : Option Addr} {ms cs : Nat} (h : RegsAt W qs (startR r).regs) (hm : (startR r).regs.length = ms) (hb : Below w.heap.size w W) => (show Calls Try.prog 12 #[.agg (resvA qs ms cs (startR r)), .agg (resvA q n c r)] W fun e w' => e = .returned (.bool true) ∧ Below W.heap.size W w' from by
    rw [hr] at h hm ⊢
    obtain rfl : n = ms := hn.symm.trans hm
    exact refSame_eq h (RowsAt.below hq hb) hn (by omega)))
  have HSAME2 := Lib.hid (fun (hr : startR r = nobodyR) (W : World) {qs : Option Addr} {ms cs : Nat} (h : RegsAt W qs (startR r).regs) (hm : (startR r).regs.length = ms) => (show Calls Try.prog 12 #[.agg (resvA qs ms cs (startR r)), .agg (resvA none 0 0 nobodyR)] W fun e w' => e = .returned (.bool true) ∧ Below W.heap.size W w' from by
    rw [hr] at h hm ⊢
    obtain rfl : 0 = ms := hm
    exact refSame_eq h (.inl rfl) rfl (by omega)))
  have HS3 := Lib.hid (fun (W : World) (qb : Option Addr) (mb cb : Nat) (h : RegsAt W qb r.regs) (hm : mb = r.regs.length) (hb : Below w.heap.size w W) => (show Calls Try.prog 12 #[.agg (resvA qb mb cb r), .agg (resvA q n c r)] W fun e w' => e = .returned (.bool true) ∧ Below W.heap.size W w' from by
    obtain rfl : mb = n := hm.trans hn
    exact refSame_eq h (RowsAt.below hq hb) hn (by omega)))
  have HS4 := Lib.hid (fun (W : World) (qb : Option Addr) (mb cb : Nat) (h : RegsAt W qb r.regs) (hm : mb = r.regs.length) (hb : Below w.heap.size w W) => (show Calls Try.prog 28 #[.agg (resvA qb mb cb r), .agg (resvA q n c r)] W fun e w' => e = .returned (.bool true) ∧ Below W.heap.size W w' from by
    obtain rfl : mb = n := hm.trans hn
    exact Same_eq h (RowsAt.below hq hb) hn (by omega)))
  have HS := Lib.hid hs
  have HRS := Lib.hid (show startR r = nobodyR by unfold startR; rw [hs]; rfl)
  have HTK := Lib.hid (fun (W : World) => (by have h := Take_note (w := W) hg hok; rw [show secF r = noteF r by unfold secF; rw [hg]; rfl]; exact h : Calls Try.prog 27 #[.agg (cellsOf .u8 (mk 128 (secF r)))] W fun e w' => ∃ q' m c', e = .returned (.tuple #[.agg (resvA q' m c' r), .nilIface]) ∧ OwnR W w' q' m c' r.regs ∧ Below W.heap.size W w'))
  have f1 : decide ((100 : Int) < (n : Int)) = false := by simp; omega
  have f2 : ¬ (100 : Int) < (n : Int) := by omega
  clear hok hq hn hnc hc h100 hs hg K HRV
  go_enter Try.func7, Try.ntmps7
  go_wp2_with (first
  | (with_reducible show wpList _ _ _ (⟨_, Op.box rvT _, _, _, _, none⟩ :: _) _ _
     refine wpList_boxA_of rfl _ rfl (resvA q n c r) rfl ?_
     intro w1 x1 l1 s1
     have P1 := Lib.hid (show LwS w [(w.heap.size, rvT, resvA q n c r)] w1 from ⟨fun {i x} hi => by
       rcases i with _ | i
       · obtain rfl : (w.heap.size, rvT, resvA q n c r) = x := by simpa using hi
         exact x1
       · simp at hi, l1⟩)
     clear x1 l1 s1)
  | (go_at_call 9
     refine (alive_any HK.out w1).mono ?_; rintro e w3 ⟨rfl, hb3⟩
     have P3 := Lib.hid (P1.out.mono hb3)
     obtain ⟨c0, c1, c2, c3, c4⟩ := boxRv (P3.out.box (i := 0) rfl)
     clear hb3 P1)
  | (with_reducible show wpList _ _ _ (⟨some 16, Op.load rvT _, _, _, _, none⟩ :: _) _ _
     refine wpList_boxA_load rowRv rfl _ rfl w.heap.size (resvA q n c r) rfl rfl (P3.out.box (i := 0) rfl) ?_)
  | (go_at_call 23
     refine (HNT.out _ P3.out.low).mono ?_; rintro e w4 ⟨rfl, hb4⟩
     have P4 := Lib.hid (P3.out.mono hb4)
     clear hb4 P3 c0 c1 c2 c3 c4)
  | (with_reducible show wpList _ _ _ (⟨some 3, Op.alloc ceT, _, _, _, _⟩ :: _) _ _
     refine wpList_boxA_new rowCe rfl rfl w4.heap.size rfl ?_
     intro wa xa la sa
     have XA := Lib.hid xa
     have LA := Lib.hid la
     have HJC := Lib.hid (show w4.heap.size = w4.heap.size from rfl)
     clear xa la sa)
  | (with_reducible show wpList _ _ _ (⟨_, Op.store ceT (.tmp 3) _, _, _, _, none⟩ :: _) _ _
     refine wpList_boxA_put rowCe rfl _ _ rfl rfl w4.heap.size (cellsOf .u8 (mk 128 (secF r))) _ (ce_size _) (ce_one _) (ce_size _) rfl rfl XA.out ?_
     intro w5 x5 k5 s5
     have P5 := Lib.hid (P4.out.add rfl LA.out x5 k5)
     clear x5 k5 s5 XA LA P4)
  | (with_reducible show wpList _ _ _ (⟨some 21, Op.load rvT _, _, _, _, none⟩ :: _) _ _
     refine wpList_boxA_load rowRv rfl _ rfl w.heap.size (resvA q n c r) rfl rfl (P5.out.box (i := 1) rfl) ?_)
  | (go_at_call 24
     refine (HRN.out _ P5.out.low).mono ?_; rintro e w6 ⟨rfl, hb6⟩
     have P6 := Lib.hid (P5.out.mono hb6)
     clear hb6 P5)
  | (with_reducible show wpList _ _ _ (⟨some 5, Op.alloc ceT, _, _, _, _⟩ :: _) _ _
     refine wpList_boxA_new rowCe rfl rfl w6.heap.size rfl ?_
     intro wa xa la sa
     have XA := Lib.hid xa
     have LA := Lib.hid la
     clear xa la sa)
  | (with_reducible show wpList _ _ _ (⟨_, Op.store ceT (.tmp 5) _, _, _, _, none⟩ :: _) _ _
     refine wpList_boxA_put rowCe rfl _ _ rfl rfl w6.heap.size (cellsOf .u8 (mk 128 (secF r))) _ (ce_size _) (ce_one _) (ce_size _) rfl rfl XA.out ?_
     intro w7 x7 k7 s7
     have P7 := Lib.hid (P6.out.add rfl LA.out x7 k7)
     clear x7 k7 s7 XA LA P6)
  | (with_reducible show wpList _ _ _ (⟨some 25, Op.load ceT _, _, _, _, _⟩ :: _) _ _
     refine wpList_sec_load rfl _ rfl w4.heap.size (secF r) rfl (P7.out.box (i := 1) rfl) ?_)
  | (with_reducible show wpList _ _ _ (⟨some 26, Op.load ceT _, _, _, _, _⟩ :: _) _ _
     refine wpList_sec_load rfl _ rfl w6.heap.size (secF r) rfl (P7.out.box (i := 0) rfl) ?_)
  | (with_reducible show wpList _ _ _ (⟨some 27, Op.binOp .neq ceT _ _ _, _, _, _, _⟩ :: _) _ _
     refine wpList_sec_neq rfl _ _ rfl (secF r) (secF r) rfl rfl rfl ?_)
  | (go_at_call 17
     refine (Is_err 2 rfl w7).mono ?_; rintro e wx ⟨rfl, rfl⟩)
  | (with_reducible show wpList _ _ _ (⟨some 44, Op.load rvT _, _, _, _, none⟩ :: _) _ _
     refine wpList_boxA_load rowRv rfl _ rfl w.heap.size (resvA q n c r) rfl rfl (P7.out.box (i := 2) rfl) ?_)
  | (go_at_call 25
     refine (HST.out _ P7.out.low).mono ?_; rintro e w8 ⟨qs, ms, cs, rfl, hrs, hms, hb8⟩
     have P8 := Lib.hid (P7.out.mono hb8)
     have RS := Lib.hid hrs
     have MS := Lib.hid hms
     clear hb8 P7 hrs hms)
  | (with_reducible show wpList _ _ _ (⟨some 7, Op.alloc rvT, _, _, _, _⟩ :: _) _ _
     refine wpList_boxA_new rowRv rfl rfl w8.heap.size rfl ?_
     intro wa xa la sa
     have XA := Lib.hid xa
     have LA := Lib.hid la
     clear xa la sa)
  | (with_reducible show wpList _ _ _ (⟨_, Op.store rvT (.tmp 7) _, _, _, _, none⟩ :: _) _ _
     refine wpList_boxA_put rowRv rfl _ _ rfl rfl w8.heap.size (resvA qs ms cs (startR r)) _ rfl (rvA_one _ _ _ _) rfl rfl rfl XA.out ?_
     intro w9 x9 k9 s9
     have P9 := Lib.hid (P8.out.add rfl LA.out x9 k9)
     have RS9 := Lib.hid (regs_low RS.out rfl LA.out k9)
     clear x9 k9 s9 XA LA P8 RS))
  obtain ⟨LL, hLL⟩ : ∃ LL, LL = [(w8.heap.size, rvT, resvA qs ms cs (startR r)), (w6.heap.size, ceT, cellsOf .u8 (mk 128 (secF r))), (w4.heap.size, ceT, cellsOf .u8 (mk 128 (secF r))), (w.heap.size, rvT, resvA q n c r)] := ⟨_, rfl⟩
  have HL0 := Lib.hid (show LL[0]? = some (w8.heap.size, rvT, resvA qs ms cs (startR r)) by rw [hLL]; rfl)
  have HL2 := Lib.hid (show LL[2]? = some (w4.heap.size, ceT, cellsOf .u8 (mk 128 (secF r))) by rw [hLL]; rfl)
  have HL3 := Lib.hid (show LL[3]? = some (w.heap.size, rvT, resvA q n c r) by rw [hLL]; rfl)
  have D0 := Lib.hid (show LwS w LL w9.drew from by rw [hLL]; exact P9.out.mono (Below.refl _ w9).drew)
  have RS9D := Lib.hid (show RegsAt w9.drew qs (startR r).regs from RS9.out)
  have MS2 := MS.out
  clear hLL P9 RS9
  refine wp_region_sched [(0, true), (1, true), (2, true), (3, true), (4, true), (5, false), (6, true), (7, true), (8, true), (9, true), (10, true), (11, true), (12, true), (13, true), (14, false), (15, false), (16, true), (17, true), (18, true)] (fun V => LwS w LL V) (by kernel_rfl) (by kernel_rfl) D0.out ?_
  refine walk_float rfl rfl (fun K hK => ?_)
  refine gives_rvfield _ 3 rfl (by decide) w.heap.size rfl ?_
  go_simp
  refine hK _ ?_
  clear hK K
  refine walk_float rfl rfl (fun K hK => ?_)
  refine gives_cell 4 _ rfl ⟨w.heap.size, 3, none⟩ (.bool false) rfl box_bool (fun V hV => ((hV.box (i := 3) HL3.out).cell 3).trans (by show some (Value.bool r.s) = _; rw [HS.out])) ?_
  go_simp
  refine hK _ ?_
  clear hK K
  refine walk_float rfl rfl (fun K hK => ?_)
  refine gives_move _ rfl ?_
  go_simp
  refine hK _ ?_
  clear hK K
  refine walk_off rfl rfl ?_
  go_simp
  refine walk_off rfl rfl ?_
  go_simp
  refine walk_off' rfl rfl ?_
  go_simp
  refine walk_off rfl rfl ?_
  go_simp
  refine walk_float rfl rfl (fun K hK => ?_)
  refine gives_pickF _ _ _ rfl rfl (.bool false) rfl ?_
  go_simp
  refine hK _ ?_
  clear hK K
  refine walk_float rfl rfl (fun K hK => ?_)
  refine gives_move _ rfl ?_
  go_simp
  refine hK _ ?_
  clear hK K
  refine walk_float rfl rfl (fun K hK => ?_)
  refine gives_rvfield _ 3 rfl (by decide) w.heap.size rfl ?_
  go_simp
  refine hK _ ?_
  clear hK K
  refine walk_float rfl rfl (fun K hK => ?_)
  refine gives_cell 4 _ rfl ⟨w.heap.size, 3, none⟩ (.bool false) rfl box_bool (fun V hV => ((hV.box (i := 3) HL3.out).cell 3).trans (by show some (Value.bool r.s) = _; rw [HS.out])) ?_
  go_simp
  refine hK _ ?_
  clear hK K
  refine walk_float rfl rfl (fun K hK => ?_)
  refine gives_not2 _ _ rfl false true rfl rfl ?_
  go_simp
  refine hK _ ?_
  clear hK K
  refine walk_float rfl rfl (fun K hK => ?_)
  refine gives_move _ rfl ?_
  go_simp
  refine hK _ ?_
  clear hK K
  refine walk_float rfl rfl (fun K hK => ?_)
  refine gives_boxA_load rowRv _ rfl w8.heap.size (resvA qs ms cs (startR r)) rfl rfl (fun V hV => hV.box (i := 0) HL0.out) ?_
  go_simp
  refine hK _ ?_
  clear hK K
  refine walk_done rfl rfl (fun K hK => ?_)
  refine done_call _ #[] _ rfl 26 #[] rfl (by simp) (enters_of Try.func26 (by kernel_rfl) rfl _ _) ?_
  refine (refNobody_any _).mono ?_
  rintro e zD1 ⟨rfl, hb⟩
  have D1 := Lib.hid (D0.out.mono hb)
  have RSN := Lib.hid (RowsAt.below RS9D.out hb)
  clear hb
  refine ⟨_, rfl, ?_⟩
  refine ⟨D1.out, ?_⟩
  go_simp
  refine hK _ _ ?_
  clear hK K
  refine walk_done rfl rfl (fun K hK => ?_)
  refine done_call2 _ _ _ _ rfl 12 rfl (.agg (resvA qs ms cs (startR r))) (.agg (resvA none 0 0 nobodyR)) rfl rfl (enters_of Try.func12 (by kernel_rfl) rfl) ?_
  refine (HSAME2.out HRS.out _ RSN.out MS2).mono ?_
  rintro e zD2 ⟨rfl, hb⟩
  have D2 := Lib.hid (D1.out.mono hb)
  clear hb
  refine ⟨_, rfl, ?_⟩
  refine ⟨D2.out, ?_⟩
  go_simp
  refine hK _ _ ?_
  clear hK K
  refine walk_float rfl rfl (fun K hK => ?_)
  refine gives_not2 _ _ rfl true false rfl rfl ?_
  go_simp
  refine hK _ ?_
  clear hK K
  refine walk_float rfl rfl (fun K hK => ?_)
  refine gives_pickT _ _ _ rfl rfl (.bool false) rfl ?_
  go_simp
  refine hK _ ?_
  clear hK K
  refine walk_float rfl rfl (fun K hK => ?_)
  refine gives_pickF _ _ _ rfl rfl (.bool false) rfl ?_
  go_simp
  refine hK _ ?_
  clear hK K
  refine walk_nil ?_
  go_wp2_with (first
  | (with_reducible show wpList _ _ _ (⟨some 68, Op.load ceT _, _, _, _, none⟩ :: _) _ _
     refine wpList_sec_load rfl _ rfl w4.heap.size (secF r) rfl (D2.out.box (i := 2) HL2.out) ?_)
  | (go_at_call 27
     refine (HTK.out _).mono ?_; rintro e wt ⟨qb, mb, cb, rfl, ob, hbt⟩
     have PT := Lib.hid (D2.out.mono hbt)
     have OB := Lib.hid (OwnL.rows2 elemReg.len ob)
     have MB := Lib.hid (own_lenE ob)
     clear hbt ob)
  | (with_reducible show wpList _ _ _ (⟨some 8, Op.alloc rvT, _, _, _, _⟩ :: _) _ _
     refine wpList_boxA_new rowRv rfl rfl wt.heap.size rfl ?_
     intro wa xa la sa
     have XA := Lib.hid xa
     have LA := Lib.hid la
     clear xa la sa)
  | (with_reducible show wpList _ _ _ (⟨_, Op.store rvT (.tmp 8) _, _, _, _, none⟩ :: _) _ _
     refine wpList_boxA_put rowRv rfl _ _ rfl rfl wt.heap.size (resvA qb mb cb r) _ rfl (rvA_one _ _ _ _) rfl rfl rfl XA.out ?_
     intro wb xb kb sb
     have PB1 := Lib.hid (PT.out.add rfl LA.out xb kb)
     have OB1 := Lib.hid (regs_low OB.out rfl LA.out kb)
     clear xb kb sb XA LA PT OB)
  | (with_reducible show wpList _ _ _ (⟨some 75, Op.load rvT _, _, _, _, _⟩ :: _) _ _
     refine wpList_boxA_loadw rowRv _ rfl rfl wt.heap.size (resvA qb mb cb r) rfl rfl (PB1.out.box (i := 0) rfl) ?_)
  | (with_reducible show wpList _ _ _ (⟨some 76, Op.load rvT _, _, _, _, _⟩ :: _) _ _
     refine wpList_boxA_loadw rowRv _ rfl rfl w.heap.size (resvA q n c r) rfl rfl (PB1.out.box (i := 4) HL3.out) ?_)
  | (go_at_call 12
     refine (HS3.out wb qb mb cb OB1.out MB.out PB1.out.low).mono ?_; rintro e wc ⟨rfl, hbc⟩
     have PC := Lib.hid (PB1.out.mono hbc)
     have OC := Lib.hid (RowsAt.below OB1.out hbc)
     clear hbc PB1 OB1)
  | (with_reducible show wpList _ _ _ (⟨some 80, Op.load rvT _, _, _, _, _⟩ :: _) _ _
     refine wpList_boxA_loadw rowRv _ rfl rfl wt.heap.size (resvA qb mb cb r) rfl rfl (PC.out.box (i := 0) rfl) ?_)
  | (with_reducible show wpList _ _ _ (⟨some 81, Op.load rvT _, _, _, _, _⟩ :: _) _ _
     refine wpList_boxA_loadw rowRv _ rfl rfl w.heap.size (resvA q n c r) rfl rfl (PC.out.box (i := 4) HL3.out) ?_)
  | (go_at_call 28
     refine (HS4.out wc qb mb cb OC.out MB.out PC.out.low).mono ?_; rintro e wd ⟨rfl, hbd⟩
     have PD := Lib.hid (PC.out.mono hbd)
     clear hbd PC OC))
  go_ret
  exact ⟨rfl, PD.out.low⟩
set_option maxRecDepth 100000 in
set_option maxHeartbeats 16000000 in
theorem walk_no_bad (K : ResvSpec) (q : Option Addr) (c : Nat) (r : ResvOf) (hok : r.ok) {w : World} (hq : RegsAt w q r.regs) (n : Nat) (hn : r.regs.length = n) (hnc : n ≤ c) (hc : c ≤ maxLen) (h100 : n ≤ 100) (hs : r.s = false) (hg : goodR r = false) : Calls Try.prog 7 #[.agg (resvA q n c r)] w fun e w' => e = .returned (.bool true) ∧ Below w.heap.size w w' := by
  have HK := Lib.hid K
  have HRV := fun (W : World) (hb : Below w.heap.size w W) => (show RvAt W q n c r from ⟨RowsAt.below hq hb, hn, hnc, hc, hok, by omega⟩)
  have HNT := Lib.hid (fun (W : World) (hb : Below w.heap.size w W) => (by have h := Note_any (HRV W hb); rw [hg] at h; first | (rw [if_pos rfl, errN_zero] at h; exact h) | (rw [if_neg (by decide), errN_not (by decide)] at h; exact h) : Calls Try.prog 23 #[.agg (resvA q n c r)] W fun e w' => e = .returned (.tuple #[.agg (cellsOf .u8 (mk 128 (secF r))), .iface 45 (.int .i64 2)]) ∧ Below W.heap.size W w'))
  have HRN := Lib.hid (fun (W : World) (hb : Below w.heap.size w W) => (by have h := refNote_any (HRV W hb); rw [hg] at h; exact h : Calls Try.prog 24 #[.agg (resvA q n c r)] W fun e w' => e = .returned (.tuple #[.agg (cellsOf .u8 (mk 128 (secF r))), .bool false]) ∧ Below W.heap.size W w'))
  have HST := Lib.hid (fun (W : World) (hb : Below w.heap.size w W) => Start_any (c := c) (RowsAt.below hq hb) hn (show n ≤ 1000 by omega))
  have HSAME1 := Lib.hid (fun (hr : startR r = r) (W : World) {qs : Option Addr} {ms cs : Nat} (h : RegsAt W qs (startR r).regs) (hm : (startR r).regs.length = ms) (hb : Below w.heap.size w W) => (show Calls Try.prog 12 #[.agg (resvA qs ms cs (startR r)), .agg (resvA q n c r)] W fun e w' => e = .returned (.bool true) ∧ Below W.heap.size W w' from by
    rw [hr] at h hm ⊢
    obtain rfl : n = ms := hn.symm.trans hm
    exact refSame_eq h (RowsAt.below hq hb) hn (by omega)))
  have HSAME2 := Lib.hid (fun (hr : startR r = nobodyR) (W : World) {qs : Option Addr} {ms cs : Nat} (h : RegsAt W qs (startR r).regs) (hm : (startR r).regs.length = ms) => (show Calls Try.prog 12 #[.agg (resvA qs ms cs (startR r)), .agg (resvA none 0 0 nobodyR)] W fun e w' => e = .returned (.bool true) ∧ Below W.heap.size W w' from by
    rw [hr] at h hm ⊢
    obtain rfl : 0 = ms := hm
    exact refSame_eq h (.inl rfl) rfl (by omega)))
  have HS3 := Lib.hid (fun (W : World) (qb : Option Addr) (mb cb : Nat) (h : RegsAt W qb r.regs) (hm : mb = r.regs.length) (hb : Below w.heap.size w W) => (show Calls Try.prog 12 #[.agg (resvA qb mb cb r), .agg (resvA q n c r)] W fun e w' => e = .returned (.bool true) ∧ Below W.heap.size W w' from by
    obtain rfl : mb = n := hm.trans hn
    exact refSame_eq h (RowsAt.below hq hb) hn (by omega)))
  have HS4 := Lib.hid (fun (W : World) (qb : Option Addr) (mb cb : Nat) (h : RegsAt W qb r.regs) (hm : mb = r.regs.length) (hb : Below w.heap.size w W) => (show Calls Try.prog 28 #[.agg (resvA qb mb cb r), .agg (resvA q n c r)] W fun e w' => e = .returned (.bool true) ∧ Below W.heap.size W w' from by
    obtain rfl : mb = n := hm.trans hn
    exact Same_eq h (RowsAt.below hq hb) hn (by omega)))
  have HS := Lib.hid hs
  have HRS := Lib.hid (show startR r = nobodyR by unfold startR; rw [hs]; rfl)
  skip
  have f1 : decide ((100 : Int) < (n : Int)) = false := by simp; omega
  have f2 : ¬ (100 : Int) < (n : Int) := by omega
  clear hok hq hn hnc hc h100 hs hg K HRV
  go_enter Try.func7, Try.ntmps7
  go_wp2_with (first
  | (with_reducible show wpList _ _ _ (⟨_, Op.box rvT _, _, _, _, none⟩ :: _) _ _
     refine wpList_boxA_of rfl _ rfl (resvA q n c r) rfl ?_
     intro w1 x1 l1 s1
     have P1 := Lib.hid (show LwS w [(w.heap.size, rvT, resvA q n c r)] w1 from ⟨fun {i x} hi => by
       rcases i with _ | i
       · obtain rfl : (w.heap.size, rvT, resvA q n c r) = x := by simpa using hi
         exact x1
       · simp at hi, l1⟩)
     clear x1 l1 s1)
  | (go_at_call 9
     refine (alive_any HK.out w1).mono ?_; rintro e w3 ⟨rfl, hb3⟩
     have P3 := Lib.hid (P1.out.mono hb3)
     obtain ⟨c0, c1, c2, c3, c4⟩ := boxRv (P3.out.box (i := 0) rfl)
     clear hb3 P1)
  | (with_reducible show wpList _ _ _ (⟨some 16, Op.load rvT _, _, _, _, none⟩ :: _) _ _
     refine wpList_boxA_load rowRv rfl _ rfl w.heap.size (resvA q n c r) rfl rfl (P3.out.box (i := 0) rfl) ?_)
  | (go_at_call 23
     refine (HNT.out _ P3.out.low).mono ?_; rintro e w4 ⟨rfl, hb4⟩
     have P4 := Lib.hid (P3.out.mono hb4)
     clear hb4 P3 c0 c1 c2 c3 c4)
  | (with_reducible show wpList _ _ _ (⟨some 3, Op.alloc ceT, _, _, _, _⟩ :: _) _ _
     refine wpList_boxA_new rowCe rfl rfl w4.heap.size rfl ?_
     intro wa xa la sa
     have XA := Lib.hid xa
     have LA := Lib.hid la
     have HJC := Lib.hid (show w4.heap.size = w4.heap.size from rfl)
     clear xa la sa)
  | (with_reducible show wpList _ _ _ (⟨_, Op.store ceT (.tmp 3) _, _, _, _, none⟩ :: _) _ _
     refine wpList_boxA_put rowCe rfl _ _ rfl rfl w4.heap.size (cellsOf .u8 (mk 128 (secF r))) _ (ce_size _) (ce_one _) (ce_size _) rfl rfl XA.out ?_
     intro w5 x5 k5 s5
     have P5 := Lib.hid (P4.out.add rfl LA.out x5 k5)
     clear x5 k5 s5 XA LA P4)
  | (with_reducible show wpList _ _ _ (⟨some 21, Op.load rvT _, _, _, _, none⟩ :: _) _ _
     refine wpList_boxA_load rowRv rfl _ rfl w.heap.size (resvA q n c r) rfl rfl (P5.out.box (i := 1) rfl) ?_)
  | (go_at_call 24
     refine (HRN.out _ P5.out.low).mono ?_; rintro e w6 ⟨rfl, hb6⟩
     have P6 := Lib.hid (P5.out.mono hb6)
     clear hb6 P5)
  | (with_reducible show wpList _ _ _ (⟨some 5, Op.alloc ceT, _, _, _, _⟩ :: _) _ _
     refine wpList_boxA_new rowCe rfl rfl w6.heap.size rfl ?_
     intro wa xa la sa
     have XA := Lib.hid xa
     have LA := Lib.hid la
     clear xa la sa)
  | (with_reducible show wpList _ _ _ (⟨_, Op.store ceT (.tmp 5) _, _, _, _, none⟩ :: _) _ _
     refine wpList_boxA_put rowCe rfl _ _ rfl rfl w6.heap.size (cellsOf .u8 (mk 128 (secF r))) _ (ce_size _) (ce_one _) (ce_size _) rfl rfl XA.out ?_
     intro w7 x7 k7 s7
     have P7 := Lib.hid (P6.out.add rfl LA.out x7 k7)
     clear x7 k7 s7 XA LA P6)
  | (with_reducible show wpList _ _ _ (⟨some 25, Op.load ceT _, _, _, _, _⟩ :: _) _ _
     refine wpList_sec_load rfl _ rfl w4.heap.size (secF r) rfl (P7.out.box (i := 1) rfl) ?_)
  | (with_reducible show wpList _ _ _ (⟨some 26, Op.load ceT _, _, _, _, _⟩ :: _) _ _
     refine wpList_sec_load rfl _ rfl w6.heap.size (secF r) rfl (P7.out.box (i := 0) rfl) ?_)
  | (with_reducible show wpList _ _ _ (⟨some 27, Op.binOp .neq ceT _ _ _, _, _, _, _⟩ :: _) _ _
     refine wpList_sec_neq rfl _ _ rfl (secF r) (secF r) rfl rfl rfl ?_)
  | (go_at_call 17
     refine (Is_err 2 rfl w7).mono ?_; rintro e wx ⟨rfl, rfl⟩)
  | (with_reducible show wpList _ _ _ (⟨some 44, Op.load rvT _, _, _, _, none⟩ :: _) _ _
     refine wpList_boxA_load rowRv rfl _ rfl w.heap.size (resvA q n c r) rfl rfl (P7.out.box (i := 2) rfl) ?_)
  | (go_at_call 25
     refine (HST.out _ P7.out.low).mono ?_; rintro e w8 ⟨qs, ms, cs, rfl, hrs, hms, hb8⟩
     have P8 := Lib.hid (P7.out.mono hb8)
     have RS := Lib.hid hrs
     have MS := Lib.hid hms
     clear hb8 P7 hrs hms)
  | (with_reducible show wpList _ _ _ (⟨some 7, Op.alloc rvT, _, _, _, _⟩ :: _) _ _
     refine wpList_boxA_new rowRv rfl rfl w8.heap.size rfl ?_
     intro wa xa la sa
     have XA := Lib.hid xa
     have LA := Lib.hid la
     clear xa la sa)
  | (with_reducible show wpList _ _ _ (⟨_, Op.store rvT (.tmp 7) _, _, _, _, none⟩ :: _) _ _
     refine wpList_boxA_put rowRv rfl _ _ rfl rfl w8.heap.size (resvA qs ms cs (startR r)) _ rfl (rvA_one _ _ _ _) rfl rfl rfl XA.out ?_
     intro w9 x9 k9 s9
     have P9 := Lib.hid (P8.out.add rfl LA.out x9 k9)
     have RS9 := Lib.hid (regs_low RS.out rfl LA.out k9)
     clear x9 k9 s9 XA LA P8 RS))
  obtain ⟨LL, hLL⟩ : ∃ LL, LL = [(w8.heap.size, rvT, resvA qs ms cs (startR r)), (w6.heap.size, ceT, cellsOf .u8 (mk 128 (secF r))), (w4.heap.size, ceT, cellsOf .u8 (mk 128 (secF r))), (w.heap.size, rvT, resvA q n c r)] := ⟨_, rfl⟩
  have HL0 := Lib.hid (show LL[0]? = some (w8.heap.size, rvT, resvA qs ms cs (startR r)) by rw [hLL]; rfl)
  have HL2 := Lib.hid (show LL[2]? = some (w4.heap.size, ceT, cellsOf .u8 (mk 128 (secF r))) by rw [hLL]; rfl)
  have HL3 := Lib.hid (show LL[3]? = some (w.heap.size, rvT, resvA q n c r) by rw [hLL]; rfl)
  have D0 := Lib.hid (show LwS w LL w9.drew from by rw [hLL]; exact P9.out.mono (Below.refl _ w9).drew)
  have RS9D := Lib.hid (show RegsAt w9.drew qs (startR r).regs from RS9.out)
  have MS2 := MS.out
  clear hLL P9 RS9
  refine wp_region_sched [(0, true), (1, true), (2, true), (3, true), (4, true), (5, false), (6, true), (7, true), (8, true), (9, true), (10, true), (11, true), (12, true), (13, true), (14, false), (15, false), (16, true), (17, true), (18, true)] (fun V => LwS w LL V) (by kernel_rfl) (by kernel_rfl) D0.out ?_
  refine walk_float rfl rfl (fun K hK => ?_)
  refine gives_rvfield _ 3 rfl (by decide) w.heap.size rfl ?_
  go_simp
  refine hK _ ?_
  clear hK K
  refine walk_float rfl rfl (fun K hK => ?_)
  refine gives_cell 4 _ rfl ⟨w.heap.size, 3, none⟩ (.bool false) rfl box_bool (fun V hV => ((hV.box (i := 3) HL3.out).cell 3).trans (by show some (Value.bool r.s) = _; rw [HS.out])) ?_
  go_simp
  refine hK _ ?_
  clear hK K
  refine walk_float rfl rfl (fun K hK => ?_)
  refine gives_move _ rfl ?_
  go_simp
  refine hK _ ?_
  clear hK K
  refine walk_off rfl rfl ?_
  go_simp
  refine walk_off rfl rfl ?_
  go_simp
  refine walk_off' rfl rfl ?_
  go_simp
  refine walk_off rfl rfl ?_
  go_simp
  refine walk_float rfl rfl (fun K hK => ?_)
  refine gives_pickF _ _ _ rfl rfl (.bool false) rfl ?_
  go_simp
  refine hK _ ?_
  clear hK K
  refine walk_float rfl rfl (fun K hK => ?_)
  refine gives_move _ rfl ?_
  go_simp
  refine hK _ ?_
  clear hK K
  refine walk_float rfl rfl (fun K hK => ?_)
  refine gives_rvfield _ 3 rfl (by decide) w.heap.size rfl ?_
  go_simp
  refine hK _ ?_
  clear hK K
  refine walk_float rfl rfl (fun K hK => ?_)
  refine gives_cell 4 _ rfl ⟨w.heap.size, 3, none⟩ (.bool false) rfl box_bool (fun V hV => ((hV.box (i := 3) HL3.out).cell 3).trans (by show some (Value.bool r.s) = _; rw [HS.out])) ?_
  go_simp
  refine hK _ ?_
  clear hK K
  refine walk_float rfl rfl (fun K hK => ?_)
  refine gives_not2 _ _ rfl false true rfl rfl ?_
  go_simp
  refine hK _ ?_
  clear hK K
  refine walk_float rfl rfl (fun K hK => ?_)
  refine gives_move _ rfl ?_
  go_simp
  refine hK _ ?_
  clear hK K
  refine walk_float rfl rfl (fun K hK => ?_)
  refine gives_boxA_load rowRv _ rfl w8.heap.size (resvA qs ms cs (startR r)) rfl rfl (fun V hV => hV.box (i := 0) HL0.out) ?_
  go_simp
  refine hK _ ?_
  clear hK K
  refine walk_done rfl rfl (fun K hK => ?_)
  refine done_call _ #[] _ rfl 26 #[] rfl (by simp) (enters_of Try.func26 (by kernel_rfl) rfl _ _) ?_
  refine (refNobody_any _).mono ?_
  rintro e zD1 ⟨rfl, hb⟩
  have D1 := Lib.hid (D0.out.mono hb)
  have RSN := Lib.hid (RowsAt.below RS9D.out hb)
  clear hb
  refine ⟨_, rfl, ?_⟩
  refine ⟨D1.out, ?_⟩
  go_simp
  refine hK _ _ ?_
  clear hK K
  refine walk_done rfl rfl (fun K hK => ?_)
  refine done_call2 _ _ _ _ rfl 12 rfl (.agg (resvA qs ms cs (startR r))) (.agg (resvA none 0 0 nobodyR)) rfl rfl (enters_of Try.func12 (by kernel_rfl) rfl) ?_
  refine (HSAME2.out HRS.out _ RSN.out MS2).mono ?_
  rintro e zD2 ⟨rfl, hb⟩
  have D2 := Lib.hid (D1.out.mono hb)
  clear hb
  refine ⟨_, rfl, ?_⟩
  refine ⟨D2.out, ?_⟩
  go_simp
  refine hK _ _ ?_
  clear hK K
  refine walk_float rfl rfl (fun K hK => ?_)
  refine gives_not2 _ _ rfl true false rfl rfl ?_
  go_simp
  refine hK _ ?_
  clear hK K
  refine walk_float rfl rfl (fun K hK => ?_)
  refine gives_pickT _ _ _ rfl rfl (.bool false) rfl ?_
  go_simp
  refine hK _ ?_
  clear hK K
  refine walk_float rfl rfl (fun K hK => ?_)
  refine gives_pickF _ _ _ rfl rfl (.bool false) rfl ?_
  go_simp
  refine hK _ ?_
  clear hK K
  refine walk_nil ?_
  go_wp2
  go_ret
  exact ⟨rfl, D2.out.low⟩
set_option maxRecDepth 100000 in
set_option maxHeartbeats 8000000 in
theorem walk_long (K : ResvSpec) (q : Option Addr) (c : Nat) (r : ResvOf) {w : World} (n : Nat) (h100 : 100 < n) : Calls Try.prog 7 #[.agg (resvA q n c r)] w fun e w' => e = .returned (.bool true) ∧ Below w.heap.size w w' := by
  have HK := Lib.hid K
  have f1 : decide ((100 : Int) < (n : Int)) = true := by simp; omega
  have f2 : (100 : Int) < (n : Int) := by omega
  clear h100 K
  go_enter Try.func7, Try.ntmps7
  go_wp2_with (first
  | (with_reducible show wpList _ _ _ (⟨_, Op.box rvT _, _, _, _, none⟩ :: _) _ _
     refine wpList_boxA_of rfl _ rfl (resvA q n c r) rfl ?_
     intro w1 x1 l1 s1
     have X1 := Lib.hid x1
     have L1 := Lib.hid l1
     clear x1 l1 s1)
  | (go_at_call 9
     refine (alive_any HK.out w1).mono ?_; rintro e w3 ⟨rfl, hb3⟩
     obtain ⟨c0, c1, c2, c3, c4⟩ := boxRv (X1.out.keep (hb3.block _ X1.out.lt))
     have L3 := Lib.hid (L1.out.trans (hb3.mono L1.out.size))
     clear hb3 X1 L1))
  go_ret
  exact ⟨rfl, L3.out⟩
theorem walk (K : ResvSpec) (q : Option Addr) (c : Nat) (r : ResvOf) (hok : r.ok) {w : World} (hq : RegsAt w q r.regs) (hnc : r.regs.length ≤ c) (hc : c ≤ maxLen) : Calls Try.prog 7 #[.agg (resvA q r.regs.length c r)] w fun e w' => e = .returned (.bool true) ∧ Below w.heap.size w w' := by
  by_cases h : 100 < r.regs.length
  · exact walk_long K q c r _ h
  · cases hs : r.s with
    | true => cases hg : goodR r with
      | true => exact walk_yes_good K q c r hok hq _ rfl hnc hc (by omega) hs hg
      | false => exact walk_yes_bad K q c r hok hq _ rfl hnc hc (by omega) hs hg
    | false => cases hg : goodR r with
      | true => exact walk_no_good K q c r hok hq _ rfl hnc hc (by omega) hs hg
      | false => exact walk_no_bad K q c r hok hq _ rfl hnc hc (by omega) hs hg
theorem laidOut : laidOutB Try.prog = true := by kernel_rfl
set_option maxRecDepth 100000 in
theorem lifted (os : Os) (started : os.Started) (H : Type) (enc : TypeId × Value → H) :
    ReturnsInHanded {} Try.checked os 7 .any (Rows.resvNotesSpec.pre6 enc Try.prog Try.f7 Rows.resvNotesRow.domain false) (Rows.resvNotesSpec.post enc Try.prog Try.f7 false true false false) := by
  refine returnsInHanded_of_change (C := Try.checked) own started (by kernel_rfl) Try.func7
    (ChangeSpec.witness6 (enc := enc) (C := Try.checked) false ⟨#[], #[.agg #[.slice none 0 0, .int .i64 0, .int .i64 0, .bool false, .int .i64 0]], []⟩ 8 (by kernel_rfl) (by kernel_rfl) (by kernel_rfl) (by kernel_rfl)) ?_
  intro W base args ds gs before hval0 hW hcnd _
  have hval : ∀ (j : Nat) t v, Try.f7.params[j]? = some t → args[j]? = some v → Value.okWide Try.prog W .any base t v := hval0
  have hW' := hW
  obtain ⟨p, q, hA0, hV, rfl, hfz, hnd⟩ := hW
  have hA : DataW.TrodAll enc Try.prog W 0 (fun _ => true) true Try.f7.params.toList args.toList ds p := hA0
  rw [Try.params7] at hA hval
  obtain ⟨v0, vs0, d0, ds0, p0, q0, hargs, rfl, rfl, h0, r0⟩ := trodAll_cons hA
  obtain ⟨rfl, rfl, rfl⟩ := trodAll_nil r0
  obtain rfl : args = #[v0] := by cases args; simp_all
  obtain ⟨rfl, rfl⟩ := trodVars_none hV
  have k0 := h0
  have lt0 : ∀ x ∈ p0, x.block < W.heap.size := by obtain ⟨m, hm⟩ := k0; exact DataW.trod_lt m _ _ _ hm
  obtain ⟨q0, c0, z0, rfl, w0, y0, b0, m0⟩ := open_resv (hval 0 24 v0 rfl rfl) h0
  clear hA0 hval0
  refine (walk resvSpec q0 c0 z0 w0 y0 b0 m0).mono fun e W' ⟨he, bel⟩ => ?_
  subst he
  exact ⟨_, rfl, _, _, _, [], _, [], hW', trodAll_mk1 (shut_bool Try.underlying4 _), (trodAll_cons_mk (Below.trod laidOut (by kernel_rfl) (of_decide_eq_true (by kernel_rfl)) k0 bel lt0) trodAll_mk0), rfl, bel.frame _, fun h => by cases h⟩

theorem over : Rows.resvNotesRow.holds Try.pinned (OpenSpec.ofChange Rows.resvNotesSpec) :=
  OpenClaim.holds_of_wide 7 Try.f7 rfl rfl rfl rfl rfl rfl rfl ⟨rfl, rfl, rfl, rfl, rfl⟩ rfl rfl rfl rfl rfl (by kernel_rfl) Try.func7 (by kernel_rfl)
    (of_decide_eq_true (by kernel_rfl)) (by unfold Func.isWrapper; first | (rw [if_pos (by decide +kernel)]; kernel_rfl) | (rw [if_neg (by decide +kernel)]; exact ⟨rfl, rfl⟩))
    (fun os started H enc _ => lifted os started H enc)

theorem proved : Rows.ResvNotesSaid := over
end resvNotes
end Go.Proofs.Ytfnkdmdcjliebaa
