/- The contract of the document's Allowed: of each type what one who is registered and any other one may. Conditions: as each says. -/
import Derived.Test.YtfnkdmdcjliebaaRvBox
namespace Go.Proofs.Ytfnkdmdcjliebaa
open Go.ChangeShapes Go.WideShapes Go.ChangeAt Go.RowKit
set_option linter.unusedVariables false
abbrev stT : TypeId := 74
def readsA : Array Value := #[.string ⟨#[]⟩, .string ⟨#[114, 111]⟩, .string ⟨#[]⟩, .string ⟨#[114, 111]⟩, .string ⟨#[114]⟩, .string ⟨#[114, 111]⟩, .string ⟨#[]⟩]
def writesA : Array Value := #[.string ⟨#[]⟩, .string ⟨#[]⟩, .string ⟨#[]⟩, .string ⟨#[114]⟩, .string ⟨#[114]⟩, .string ⟨#[]⟩, .string ⟨#[]⟩]
theorem rowStr : IsRow stT 7 #[.string ⟨#[]⟩, .string ⟨#[]⟩, .string ⟨#[]⟩, .string ⟨#[]⟩, .string ⟨#[]⟩, .string ⟨#[]⟩, .string ⟨#[]⟩] := ⟨⟨_, Try.underlying74, rfl⟩, by kernel_rfl, by kernel_rfl, rfl⟩
theorem str_one : readsA.all (·.oneCell') = true ∧ writesA.all (·.oneCell') = true := by constructor <;> simp [readsA, writesA, Value.oneCell']
attribute [local go_sem] Oper.semAt_some
set_option maxRecDepth 100000 in
set_option maxHeartbeats 8000000 in
theorem allow_1_1_o {w : World} {q : Option Addr} {n c : Nat} {r : ResvOf} (hq : RegsAt w q r.regs) (hn : r.regs.length = n) (hl : n ≤ 1000) (who : Int) (e1 : (r.h == -1) = false) (e2 : holdsR r who = false) (ht : r.t = 1) (hk : ¬ 0 < keyR r.regs who) : Calls Try.prog 21 #[.agg (resvA q n c r), .int .i64 who, .int .i64 1] w fun e w' => e = .returned (.bool true) ∧ Below w.heap.size w w' := by
  have BX := Lib.hid (RvBox.alloc w q n c r)
  have BB := Lib.hid (box_below w (.cells (resvA q n c r) rvT))
  have HHO := Lib.hid (refHolds_any (c := c) (RowsAt.below hq BB.out) hn hl who)
  have c1 := BX.out.c1
  have HQ := Lib.hid hq
  have HN := Lib.hid hn
  have HL := Lib.hid hl
  clear hq hn hl
  rw [e2] at HHO
  have f1 : decide (0 < keyR r.regs who) = false := by simp [hk]
  go_enter Try.func21, Try.ntmps21
  go_wp2_with (first
    | (with_reducible show wpList _ _ _ (⟨_, Op.load rvT _, _, _, _, _⟩ :: _) _ _
       refine wpList_boxA_loadw rowRv _ rfl rfl w.heap.size (resvA q n c r) rfl rfl (show BoxA _ _ _ _ from BX.out) ?_)
    | (go_at_call 19
       refine HHO.out.mono ?_; rintro e w2 ⟨rfl, hb2⟩
       have B2 := Lib.hid (BB.out.trans (hb2.mono BB.out.size))
       have X2 := Lib.hid (show BoxA w2 w.heap.size rvT (resvA q n c r) from (hb2.block _ BX.out.lt).trans BX.out)
       have R2 := Lib.hid (RowsAt.below HQ.out B2.out)
       clear hb2 BB BX c1 HHO)
    | (with_reducible show wpList _ _ _ (⟨_, Op.alloc stT, _, _, _, _⟩ :: _) _ _
       refine wpList_boxA_new rowStr rfl rfl w2.heap.size rfl ?_
       intro w3 y3 l3 s3
       have Y3 := Lib.hid y3
       have L3 := Lib.hid l3
       have S3 := Lib.hid s3
       clear y3 l3 s3)
    | (with_reducible show wpList _ _ _ (⟨_, Op.store stT _ _, _, _, _, none⟩ :: _) _ _
       refine wpList_boxA_put rowStr rfl _ _ rfl rfl w2.heap.size readsA _ rfl str_one.1 rfl rfl rfl Y3.out ?_
       intro w4 y4 k4 s4
       have Y4 := Lib.hid y4
       have L4 := Lib.hid (L3.out.trans (show Below w2.heap.size w3 w4 from k4.below L3.out.size (fun k hk e => by have := S3.out; omega)))
       have X4 := Lib.hid (X2.out.keep (L4.out.block _ X2.out.lt))
       have B4 := Lib.hid (B2.out.trans (L4.out.mono B2.out.size))
       clear y4 k4 s4 Y3 L3 S3 X2 B2 L4
       generalize w2.heap.size = A1 at *)
    | (with_reducible show wpList _ _ _ (⟨_, Op.alloc stT, _, _, _, _⟩ :: _) _ _
       refine wpList_boxA_new rowStr rfl rfl w4.heap.size rfl ?_
       intro w5 y5 l5 s5
       have Z5 := Lib.hid y5
       have L5 := Lib.hid l5
       have S5 := Lib.hid s5
       clear y5 l5 s5)
    | (with_reducible show wpList _ _ _ (⟨_, Op.store stT _ _, _, _, _, none⟩ :: _) _ _
       refine wpList_boxA_put rowStr rfl _ _ rfl rfl w4.heap.size writesA _ rfl str_one.2 rfl rfl rfl Z5.out ?_
       intro w6 y6 k6 s6
       have Z6 := Lib.hid y6
       have L6 := Lib.hid (L5.out.trans (show Below w4.heap.size w5 w6 from k6.below L5.out.size (fun k hk e => by have := S5.out; omega)))
       have X6 := Lib.hid (X4.out.keep (L6.out.block _ X4.out.lt))
       have Y6 := Lib.hid (Y4.out.keep (L6.out.block _ Y4.out.lt))
       have B6 := Lib.hid (B4.out.trans (L6.out.mono B4.out.size))
       have R6 := Lib.hid (RowsAt.below HQ.out B6.out)
       have HKE := Lib.hid (refKey_any (r := r) (c := c) R6.out HN.out HL.out who)
       clear y6 k6 s6 Z5 L5 S5 X4 B4 Y4 L6 R2
       generalize w4.heap.size = A2 at *
       have c2 : w6.cell? ⟨w.heap.size, 2, none⟩ = some (.int .i64 (1)) := by rw [← ht]; exact X6.out.cell 2
       have d1 : w6.cell? ⟨A1, 1, none⟩ = some (.string ⟨#[114, 111]⟩) := Y6.out.cell 1
       have d2 : w6.cell? ⟨A2, 1, none⟩ = some (.string ⟨#[]⟩) := Z6.out.cell 1)
    | (with_reducible show wpList _ _ _ (⟨_, Op.load rvT _, _, _, _, _⟩ :: _) _ _
       refine wpList_boxA_loadw rowRv _ rfl rfl w.heap.size (resvA q n c r) rfl rfl X6.out ?_)
    | (go_at_call 16
       refine HKE.out.mono ?_; rintro e w7 ⟨rfl, hb7⟩
       have B7 := Lib.hid (B6.out.trans (hb7.mono B6.out.size))
       clear hb7 X6 Y6 Z6 B6 R6 HKE c2 d1 d2))
  go_loopw [11] (fun v11 wr => ∃ k : Nat, k ≤ 1 ∧ v11 = .int .i64 k ∧ Below w.heap.size w wr) (fun v11 _ => 2 - (intOf v11).toNat)
  case atStart => exact ⟨0, Nat.zero_le _, rfl, B7.out⟩
  case round =>
    obtain ⟨k, hk2, rfl, hb⟩ := hrel
    have HB := Lib.hid hb
    clear hb B7
    rcases k with _ | k
    · go_wp2
      go_roundw
      case rel => exact ⟨1, by omega, by go_num, HB.out⟩
      case measure => simp [intOf]
    · skip
      rcases k with _ | k
      · go_wp2
        go_ret
        exact ⟨rfl, HB.out⟩
      · exfalso; omega
set_option maxRecDepth 100000 in
set_option maxHeartbeats 8000000 in
theorem allow_1_1_r {w : World} {q : Option Addr} {n c : Nat} {r : ResvOf} (hq : RegsAt w q r.regs) (hn : r.regs.length = n) (hl : n ≤ 1000) (who : Int) (e1 : (r.h == -1) = false) (e2 : holdsR r who = false) (ht : r.t = 1) (hk : 0 < keyR r.regs who) : Calls Try.prog 21 #[.agg (resvA q n c r), .int .i64 who, .int .i64 1] w fun e w' => e = .returned (.bool true) ∧ Below w.heap.size w w' := by
  have BX := Lib.hid (RvBox.alloc w q n c r)
  have BB := Lib.hid (box_below w (.cells (resvA q n c r) rvT))
  have HHO := Lib.hid (refHolds_any (c := c) (RowsAt.below hq BB.out) hn hl who)
  have c1 := BX.out.c1
  have HQ := Lib.hid hq
  have HN := Lib.hid hn
  have HL := Lib.hid hl
  clear hq hn hl
  rw [e2] at HHO
  have f1 : decide (0 < keyR r.regs who) = true := by simp [hk]
  go_enter Try.func21, Try.ntmps21
  go_wp2_with (first
    | (with_reducible show wpList _ _ _ (⟨_, Op.load rvT _, _, _, _, _⟩ :: _) _ _
       refine wpList_boxA_loadw rowRv _ rfl rfl w.heap.size (resvA q n c r) rfl rfl (show BoxA _ _ _ _ from BX.out) ?_)
    | (go_at_call 19
       refine HHO.out.mono ?_; rintro e w2 ⟨rfl, hb2⟩
       have B2 := Lib.hid (BB.out.trans (hb2.mono BB.out.size))
       have X2 := Lib.hid (show BoxA w2 w.heap.size rvT (resvA q n c r) from (hb2.block _ BX.out.lt).trans BX.out)
       have R2 := Lib.hid (RowsAt.below HQ.out B2.out)
       clear hb2 BB BX c1 HHO)
    | (with_reducible show wpList _ _ _ (⟨_, Op.alloc stT, _, _, _, _⟩ :: _) _ _
       refine wpList_boxA_new rowStr rfl rfl w2.heap.size rfl ?_
       intro w3 y3 l3 s3
       have Y3 := Lib.hid y3
       have L3 := Lib.hid l3
       have S3 := Lib.hid s3
       clear y3 l3 s3)
    | (with_reducible show wpList _ _ _ (⟨_, Op.store stT _ _, _, _, _, none⟩ :: _) _ _
       refine wpList_boxA_put rowStr rfl _ _ rfl rfl w2.heap.size readsA _ rfl str_one.1 rfl rfl rfl Y3.out ?_
       intro w4 y4 k4 s4
       have Y4 := Lib.hid y4
       have L4 := Lib.hid (L3.out.trans (show Below w2.heap.size w3 w4 from k4.below L3.out.size (fun k hk e => by have := S3.out; omega)))
       have X4 := Lib.hid (X2.out.keep (L4.out.block _ X2.out.lt))
       have B4 := Lib.hid (B2.out.trans (L4.out.mono B2.out.size))
       clear y4 k4 s4 Y3 L3 S3 X2 B2 L4
       generalize w2.heap.size = A1 at *)
    | (with_reducible show wpList _ _ _ (⟨_, Op.alloc stT, _, _, _, _⟩ :: _) _ _
       refine wpList_boxA_new rowStr rfl rfl w4.heap.size rfl ?_
       intro w5 y5 l5 s5
       have Z5 := Lib.hid y5
       have L5 := Lib.hid l5
       have S5 := Lib.hid s5
       clear y5 l5 s5)
    | (with_reducible show wpList _ _ _ (⟨_, Op.store stT _ _, _, _, _, none⟩ :: _) _ _
       refine wpList_boxA_put rowStr rfl _ _ rfl rfl w4.heap.size writesA _ rfl str_one.2 rfl rfl rfl Z5.out ?_
       intro w6 y6 k6 s6
       have Z6 := Lib.hid y6
       have L6 := Lib.hid (L5.out.trans (show Below w4.heap.size w5 w6 from k6.below L5.out.size (fun k hk e => by have := S5.out; omega)))
       have X6 := Lib.hid (X4.out.keep (L6.out.block _ X4.out.lt))
       have Y6 := Lib.hid (Y4.out.keep (L6.out.block _ Y4.out.lt))
       have B6 := Lib.hid (B4.out.trans (L6.out.mono B4.out.size))
       have R6 := Lib.hid (RowsAt.below HQ.out B6.out)
       have HKE := Lib.hid (refKey_any (r := r) (c := c) R6.out HN.out HL.out who)
       clear y6 k6 s6 Z5 L5 S5 X4 B4 Y4 L6 R2
       generalize w4.heap.size = A2 at *
       have c2 : w6.cell? ⟨w.heap.size, 2, none⟩ = some (.int .i64 (1)) := by rw [← ht]; exact X6.out.cell 2
       have d1 : w6.cell? ⟨A1, 1, none⟩ = some (.string ⟨#[114, 111]⟩) := Y6.out.cell 1
       have d2 : w6.cell? ⟨A2, 1, none⟩ = some (.string ⟨#[]⟩) := Z6.out.cell 1)
    | (with_reducible show wpList _ _ _ (⟨_, Op.load rvT _, _, _, _, _⟩ :: _) _ _
       refine wpList_boxA_loadw rowRv _ rfl rfl w.heap.size (resvA q n c r) rfl rfl X6.out ?_)
    | (go_at_call 16
       refine HKE.out.mono ?_; rintro e w7 ⟨rfl, hb7⟩
       have B7 := Lib.hid (B6.out.trans (hb7.mono B6.out.size))
       clear hb7 X6 Y6 Z6 B6 R6 HKE c2 d1 d2))
  go_loopw [11] (fun v11 wr => ∃ k : Nat, k ≤ 0 ∧ v11 = .int .i64 k ∧ Below w.heap.size w wr) (fun v11 _ => 1 - (intOf v11).toNat)
  case atStart => exact ⟨0, Nat.zero_le _, rfl, B7.out⟩
  case round =>
    obtain ⟨k, hk2, rfl, hb⟩ := hrel
    have HB := Lib.hid hb
    clear hb B7
    rcases k with _ | k
    · go_wp2
      go_ret
      exact ⟨rfl, HB.out⟩
    · exfalso; omega
set_option maxRecDepth 100000 in
set_option maxHeartbeats 8000000 in
theorem allow_1_2_o {w : World} {q : Option Addr} {n c : Nat} {r : ResvOf} (hq : RegsAt w q r.regs) (hn : r.regs.length = n) (hl : n ≤ 1000) (who : Int) (e1 : (r.h == -1) = false) (e2 : holdsR r who = false) (ht : r.t = 1) (hk : ¬ 0 < keyR r.regs who) : Calls Try.prog 21 #[.agg (resvA q n c r), .int .i64 who, .int .i64 2] w fun e w' => e = .returned (.bool false) ∧ Below w.heap.size w w' := by
  have BX := Lib.hid (RvBox.alloc w q n c r)
  have BB := Lib.hid (box_below w (.cells (resvA q n c r) rvT))
  have HHO := Lib.hid (refHolds_any (c := c) (RowsAt.below hq BB.out) hn hl who)
  have c1 := BX.out.c1
  have HQ := Lib.hid hq
  have HN := Lib.hid hn
  have HL := Lib.hid hl
  clear hq hn hl
  rw [e2] at HHO
  have f1 : decide (0 < keyR r.regs who) = false := by simp [hk]
  go_enter Try.func21, Try.ntmps21
  go_wp2_with (first
    | (with_reducible show wpList _ _ _ (⟨_, Op.load rvT _, _, _, _, _⟩ :: _) _ _
       refine wpList_boxA_loadw rowRv _ rfl rfl w.heap.size (resvA q n c r) rfl rfl (show BoxA _ _ _ _ from BX.out) ?_)
    | (go_at_call 19
       refine HHO.out.mono ?_; rintro e w2 ⟨rfl, hb2⟩
       have B2 := Lib.hid (BB.out.trans (hb2.mono BB.out.size))
       have X2 := Lib.hid (show BoxA w2 w.heap.size rvT (resvA q n c r) from (hb2.block _ BX.out.lt).trans BX.out)
       have R2 := Lib.hid (RowsAt.below HQ.out B2.out)
       clear hb2 BB BX c1 HHO)
    | (with_reducible show wpList _ _ _ (⟨_, Op.alloc stT, _, _, _, _⟩ :: _) _ _
       refine wpList_boxA_new rowStr rfl rfl w2.heap.size rfl ?_
       intro w3 y3 l3 s3
       have Y3 := Lib.hid y3
       have L3 := Lib.hid l3
       have S3 := Lib.hid s3
       clear y3 l3 s3)
    | (with_reducible show wpList _ _ _ (⟨_, Op.store stT _ _, _, _, _, none⟩ :: _) _ _
       refine wpList_boxA_put rowStr rfl _ _ rfl rfl w2.heap.size readsA _ rfl str_one.1 rfl rfl rfl Y3.out ?_
       intro w4 y4 k4 s4
       have Y4 := Lib.hid y4
       have L4 := Lib.hid (L3.out.trans (show Below w2.heap.size w3 w4 from k4.below L3.out.size (fun k hk e => by have := S3.out; omega)))
       have X4 := Lib.hid (X2.out.keep (L4.out.block _ X2.out.lt))
       have B4 := Lib.hid (B2.out.trans (L4.out.mono B2.out.size))
       clear y4 k4 s4 Y3 L3 S3 X2 B2 L4
       generalize w2.heap.size = A1 at *)
    | (with_reducible show wpList _ _ _ (⟨_, Op.alloc stT, _, _, _, _⟩ :: _) _ _
       refine wpList_boxA_new rowStr rfl rfl w4.heap.size rfl ?_
       intro w5 y5 l5 s5
       have Z5 := Lib.hid y5
       have L5 := Lib.hid l5
       have S5 := Lib.hid s5
       clear y5 l5 s5)
    | (with_reducible show wpList _ _ _ (⟨_, Op.store stT _ _, _, _, _, none⟩ :: _) _ _
       refine wpList_boxA_put rowStr rfl _ _ rfl rfl w4.heap.size writesA _ rfl str_one.2 rfl rfl rfl Z5.out ?_
       intro w6 y6 k6 s6
       have Z6 := Lib.hid y6
       have L6 := Lib.hid (L5.out.trans (show Below w4.heap.size w5 w6 from k6.below L5.out.size (fun k hk e => by have := S5.out; omega)))
       have X6 := Lib.hid (X4.out.keep (L6.out.block _ X4.out.lt))
       have Y6 := Lib.hid (Y4.out.keep (L6.out.block _ Y4.out.lt))
       have B6 := Lib.hid (B4.out.trans (L6.out.mono B4.out.size))
       have R6 := Lib.hid (RowsAt.below HQ.out B6.out)
       have HKE := Lib.hid (refKey_any (r := r) (c := c) R6.out HN.out HL.out who)
       clear y6 k6 s6 Z5 L5 S5 X4 B4 Y4 L6 R2
       generalize w4.heap.size = A2 at *
       have c2 : w6.cell? ⟨w.heap.size, 2, none⟩ = some (.int .i64 (1)) := by rw [← ht]; exact X6.out.cell 2
       have d1 : w6.cell? ⟨A1, 1, none⟩ = some (.string ⟨#[114, 111]⟩) := Y6.out.cell 1
       have d2 : w6.cell? ⟨A2, 1, none⟩ = some (.string ⟨#[]⟩) := Z6.out.cell 1)
    | (with_reducible show wpList _ _ _ (⟨_, Op.load rvT _, _, _, _, _⟩ :: _) _ _
       refine wpList_boxA_loadw rowRv _ rfl rfl w.heap.size (resvA q n c r) rfl rfl X6.out ?_)
    | (go_at_call 16
       refine HKE.out.mono ?_; rintro e w7 ⟨rfl, hb7⟩
       have B7 := Lib.hid (B6.out.trans (hb7.mono B6.out.size))
       clear hb7 X6 Y6 Z6 B6 R6 HKE c2 d1 d2))
  go_loopw [11] (fun v11 wr => ∃ k : Nat, k ≤ 0 ∧ v11 = .int .i64 k ∧ Below w.heap.size w wr) (fun v11 _ => 1 - (intOf v11).toNat)
  case atStart => exact ⟨0, Nat.zero_le _, rfl, B7.out⟩
  case round =>
    obtain ⟨k, hk2, rfl, hb⟩ := hrel
    have HB := Lib.hid hb
    clear hb B7
    rcases k with _ | k
    · go_wp2
      go_ret
      exact ⟨rfl, HB.out⟩
    · exfalso; omega
set_option maxRecDepth 100000 in
set_option maxHeartbeats 8000000 in
theorem allow_1_2_r {w : World} {q : Option Addr} {n c : Nat} {r : ResvOf} (hq : RegsAt w q r.regs) (hn : r.regs.length = n) (hl : n ≤ 1000) (who : Int) (e1 : (r.h == -1) = false) (e2 : holdsR r who = false) (ht : r.t = 1) (hk : 0 < keyR r.regs who) : Calls Try.prog 21 #[.agg (resvA q n c r), .int .i64 who, .int .i64 2] w fun e w' => e = .returned (.bool false) ∧ Below w.heap.size w w' := by
  have BX := Lib.hid (RvBox.alloc w q n c r)
  have BB := Lib.hid (box_below w (.cells (resvA q n c r) rvT))
  have HHO := Lib.hid (refHolds_any (c := c) (RowsAt.below hq BB.out) hn hl who)
  have c1 := BX.out.c1
  have HQ := Lib.hid hq
  have HN := Lib.hid hn
  have HL := Lib.hid hl
  clear hq hn hl
  rw [e2] at HHO
  have f1 : decide (0 < keyR r.regs who) = true := by simp [hk]
  go_enter Try.func21, Try.ntmps21
  go_wp2_with (first
    | (with_reducible show wpList _ _ _ (⟨_, Op.load rvT _, _, _, _, _⟩ :: _) _ _
       refine wpList_boxA_loadw rowRv _ rfl rfl w.heap.size (resvA q n c r) rfl rfl (show BoxA _ _ _ _ from BX.out) ?_)
    | (go_at_call 19
       refine HHO.out.mono ?_; rintro e w2 ⟨rfl, hb2⟩
       have B2 := Lib.hid (BB.out.trans (hb2.mono BB.out.size))
       have X2 := Lib.hid (show BoxA w2 w.heap.size rvT (resvA q n c r) from (hb2.block _ BX.out.lt).trans BX.out)
       have R2 := Lib.hid (RowsAt.below HQ.out B2.out)
       clear hb2 BB BX c1 HHO)
    | (with_reducible show wpList _ _ _ (⟨_, Op.alloc stT, _, _, _, _⟩ :: _) _ _
       refine wpList_boxA_new rowStr rfl rfl w2.heap.size rfl ?_
       intro w3 y3 l3 s3
       have Y3 := Lib.hid y3
       have L3 := Lib.hid l3
       have S3 := Lib.hid s3
       clear y3 l3 s3)
    | (with_reducible show wpList _ _ _ (⟨_, Op.store stT _ _, _, _, _, none⟩ :: _) _ _
       refine wpList_boxA_put rowStr rfl _ _ rfl rfl w2.heap.size readsA _ rfl str_one.1 rfl rfl rfl Y3.out ?_
       intro w4 y4 k4 s4
       have Y4 := Lib.hid y4
       have L4 := Lib.hid (L3.out.trans (show Below w2.heap.size w3 w4 from k4.below L3.out.size (fun k hk e => by have := S3.out; omega)))
       have X4 := Lib.hid (X2.out.keep (L4.out.block _ X2.out.lt))
       have B4 := Lib.hid (B2.out.trans (L4.out.mono B2.out.size))
       clear y4 k4 s4 Y3 L3 S3 X2 B2 L4
       generalize w2.heap.size = A1 at *)
    | (with_reducible show wpList _ _ _ (⟨_, Op.alloc stT, _, _, _, _⟩ :: _) _ _
       refine wpList_boxA_new rowStr rfl rfl w4.heap.size rfl ?_
       intro w5 y5 l5 s5
       have Z5 := Lib.hid y5
       have L5 := Lib.hid l5
       have S5 := Lib.hid s5
       clear y5 l5 s5)
    | (with_reducible show wpList _ _ _ (⟨_, Op.store stT _ _, _, _, _, none⟩ :: _) _ _
       refine wpList_boxA_put rowStr rfl _ _ rfl rfl w4.heap.size writesA _ rfl str_one.2 rfl rfl rfl Z5.out ?_
       intro w6 y6 k6 s6
       have Z6 := Lib.hid y6
       have L6 := Lib.hid (L5.out.trans (show Below w4.heap.size w5 w6 from k6.below L5.out.size (fun k hk e => by have := S5.out; omega)))
       have X6 := Lib.hid (X4.out.keep (L6.out.block _ X4.out.lt))
       have Y6 := Lib.hid (Y4.out.keep (L6.out.block _ Y4.out.lt))
       have B6 := Lib.hid (B4.out.trans (L6.out.mono B4.out.size))
       have R6 := Lib.hid (RowsAt.below HQ.out B6.out)
       have HKE := Lib.hid (refKey_any (r := r) (c := c) R6.out HN.out HL.out who)
       clear y6 k6 s6 Z5 L5 S5 X4 B4 Y4 L6 R2
       generalize w4.heap.size = A2 at *
       have c2 : w6.cell? ⟨w.heap.size, 2, none⟩ = some (.int .i64 (1)) := by rw [← ht]; exact X6.out.cell 2
       have d1 : w6.cell? ⟨A1, 1, none⟩ = some (.string ⟨#[114, 111]⟩) := Y6.out.cell 1
       have d2 : w6.cell? ⟨A2, 1, none⟩ = some (.string ⟨#[]⟩) := Z6.out.cell 1)
    | (with_reducible show wpList _ _ _ (⟨_, Op.load rvT _, _, _, _, _⟩ :: _) _ _
       refine wpList_boxA_loadw rowRv _ rfl rfl w.heap.size (resvA q n c r) rfl rfl X6.out ?_)
    | (go_at_call 16
       refine HKE.out.mono ?_; rintro e w7 ⟨rfl, hb7⟩
       have B7 := Lib.hid (B6.out.trans (hb7.mono B6.out.size))
       clear hb7 X6 Y6 Z6 B6 R6 HKE c2 d1 d2))
  go_loopw [11] (fun v11 wr => ∃ k : Nat, k ≤ 0 ∧ v11 = .int .i64 k ∧ Below w.heap.size w wr) (fun v11 _ => 1 - (intOf v11).toNat)
  case atStart => exact ⟨0, Nat.zero_le _, rfl, B7.out⟩
  case round =>
    obtain ⟨k, hk2, rfl, hb⟩ := hrel
    have HB := Lib.hid hb
    clear hb B7
    rcases k with _ | k
    · go_wp2
      go_ret
      exact ⟨rfl, HB.out⟩
    · exfalso; omega
set_option maxRecDepth 100000 in
set_option maxHeartbeats 8000000 in
theorem allow_2_1_o {w : World} {q : Option Addr} {n c : Nat} {r : ResvOf} (hq : RegsAt w q r.regs) (hn : r.regs.length = n) (hl : n ≤ 1000) (who : Int) (e1 : (r.h == -1) = false) (e2 : holdsR r who = false) (ht : r.t = 2) (hk : ¬ 0 < keyR r.regs who) : Calls Try.prog 21 #[.agg (resvA q n c r), .int .i64 who, .int .i64 1] w fun e w' => e = .returned (.bool false) ∧ Below w.heap.size w w' := by
  have BX := Lib.hid (RvBox.alloc w q n c r)
  have BB := Lib.hid (box_below w (.cells (resvA q n c r) rvT))
  have HHO := Lib.hid (refHolds_any (c := c) (RowsAt.below hq BB.out) hn hl who)
  have c1 := BX.out.c1
  have HQ := Lib.hid hq
  have HN := Lib.hid hn
  have HL := Lib.hid hl
  clear hq hn hl
  rw [e2] at HHO
  have f1 : decide (0 < keyR r.regs who) = false := by simp [hk]
  go_enter Try.func21, Try.ntmps21
  go_wp2_with (first
    | (with_reducible show wpList _ _ _ (⟨_, Op.load rvT _, _, _, _, _⟩ :: _) _ _
       refine wpList_boxA_loadw rowRv _ rfl rfl w.heap.size (resvA q n c r) rfl rfl (show BoxA _ _ _ _ from BX.out) ?_)
    | (go_at_call 19
       refine HHO.out.mono ?_; rintro e w2 ⟨rfl, hb2⟩
       have B2 := Lib.hid (BB.out.trans (hb2.mono BB.out.size))
       have X2 := Lib.hid (show BoxA w2 w.heap.size rvT (resvA q n c r) from (hb2.block _ BX.out.lt).trans BX.out)
       have R2 := Lib.hid (RowsAt.below HQ.out B2.out)
       clear hb2 BB BX c1 HHO)
    | (with_reducible show wpList _ _ _ (⟨_, Op.alloc stT, _, _, _, _⟩ :: _) _ _
       refine wpList_boxA_new rowStr rfl rfl w2.heap.size rfl ?_
       intro w3 y3 l3 s3
       have Y3 := Lib.hid y3
       have L3 := Lib.hid l3
       have S3 := Lib.hid s3
       clear y3 l3 s3)
    | (with_reducible show wpList _ _ _ (⟨_, Op.store stT _ _, _, _, _, none⟩ :: _) _ _
       refine wpList_boxA_put rowStr rfl _ _ rfl rfl w2.heap.size readsA _ rfl str_one.1 rfl rfl rfl Y3.out ?_
       intro w4 y4 k4 s4
       have Y4 := Lib.hid y4
       have L4 := Lib.hid (L3.out.trans (show Below w2.heap.size w3 w4 from k4.below L3.out.size (fun k hk e => by have := S3.out; omega)))
       have X4 := Lib.hid (X2.out.keep (L4.out.block _ X2.out.lt))
       have B4 := Lib.hid (B2.out.trans (L4.out.mono B2.out.size))
       clear y4 k4 s4 Y3 L3 S3 X2 B2 L4
       generalize w2.heap.size = A1 at *)
    | (with_reducible show wpList _ _ _ (⟨_, Op.alloc stT, _, _, _, _⟩ :: _) _ _
       refine wpList_boxA_new rowStr rfl rfl w4.heap.size rfl ?_
       intro w5 y5 l5 s5
       have Z5 := Lib.hid y5
       have L5 := Lib.hid l5
       have S5 := Lib.hid s5
       clear y5 l5 s5)
    | (with_reducible show wpList _ _ _ (⟨_, Op.store stT _ _, _, _, _, none⟩ :: _) _ _
       refine wpList_boxA_put rowStr rfl _ _ rfl rfl w4.heap.size writesA _ rfl str_one.2 rfl rfl rfl Z5.out ?_
       intro w6 y6 k6 s6
       have Z6 := Lib.hid y6
       have L6 := Lib.hid (L5.out.trans (show Below w4.heap.size w5 w6 from k6.below L5.out.size (fun k hk e => by have := S5.out; omega)))
       have X6 := Lib.hid (X4.out.keep (L6.out.block _ X4.out.lt))
       have Y6 := Lib.hid (Y4.out.keep (L6.out.block _ Y4.out.lt))
       have B6 := Lib.hid (B4.out.trans (L6.out.mono B4.out.size))
       have R6 := Lib.hid (RowsAt.below HQ.out B6.out)
       have HKE := Lib.hid (refKey_any (r := r) (c := c) R6.out HN.out HL.out who)
       clear y6 k6 s6 Z5 L5 S5 X4 B4 Y4 L6 R2
       generalize w4.heap.size = A2 at *
       have c2 : w6.cell? ⟨w.heap.size, 2, none⟩ = some (.int .i64 (2)) := by rw [← ht]; exact X6.out.cell 2
       have d1 : w6.cell? ⟨A1, 2, none⟩ = some (.string ⟨#[]⟩) := Y6.out.cell 2
       have d2 : w6.cell? ⟨A2, 2, none⟩ = some (.string ⟨#[]⟩) := Z6.out.cell 2)
    | (with_reducible show wpList _ _ _ (⟨_, Op.load rvT _, _, _, _, _⟩ :: _) _ _
       refine wpList_boxA_loadw rowRv _ rfl rfl w.heap.size (resvA q n c r) rfl rfl X6.out ?_)
    | (go_at_call 16
       refine HKE.out.mono ?_; rintro e w7 ⟨rfl, hb7⟩
       have B7 := Lib.hid (B6.out.trans (hb7.mono B6.out.size))
       clear hb7 X6 Y6 Z6 B6 R6 HKE c2 d1 d2))
  go_loopw [11] (fun v11 wr => ∃ k : Nat, k ≤ 0 ∧ v11 = .int .i64 k ∧ Below w.heap.size w wr) (fun v11 _ => 1 - (intOf v11).toNat)
  case atStart => exact ⟨0, Nat.zero_le _, rfl, B7.out⟩
  case round =>
    obtain ⟨k, hk2, rfl, hb⟩ := hrel
    have HB := Lib.hid hb
    clear hb B7
    rcases k with _ | k
    · go_wp2
      go_ret
      exact ⟨rfl, HB.out⟩
    · exfalso; omega
set_option maxRecDepth 100000 in
set_option maxHeartbeats 8000000 in
theorem allow_2_1_r {w : World} {q : Option Addr} {n c : Nat} {r : ResvOf} (hq : RegsAt w q r.regs) (hn : r.regs.length = n) (hl : n ≤ 1000) (who : Int) (e1 : (r.h == -1) = false) (e2 : holdsR r who = false) (ht : r.t = 2) (hk : 0 < keyR r.regs who) : Calls Try.prog 21 #[.agg (resvA q n c r), .int .i64 who, .int .i64 1] w fun e w' => e = .returned (.bool false) ∧ Below w.heap.size w w' := by
  have BX := Lib.hid (RvBox.alloc w q n c r)
  have BB := Lib.hid (box_below w (.cells (resvA q n c r) rvT))
  have HHO := Lib.hid (refHolds_any (c := c) (RowsAt.below hq BB.out) hn hl who)
  have c1 := BX.out.c1
  have HQ := Lib.hid hq
  have HN := Lib.hid hn
  have HL := Lib.hid hl
  clear hq hn hl
  rw [e2] at HHO
  have f1 : decide (0 < keyR r.regs who) = true := by simp [hk]
  go_enter Try.func21, Try.ntmps21
  go_wp2_with (first
    | (with_reducible show wpList _ _ _ (⟨_, Op.load rvT _, _, _, _, _⟩ :: _) _ _
       refine wpList_boxA_loadw rowRv _ rfl rfl w.heap.size (resvA q n c r) rfl rfl (show BoxA _ _ _ _ from BX.out) ?_)
    | (go_at_call 19
       refine HHO.out.mono ?_; rintro e w2 ⟨rfl, hb2⟩
       have B2 := Lib.hid (BB.out.trans (hb2.mono BB.out.size))
       have X2 := Lib.hid (show BoxA w2 w.heap.size rvT (resvA q n c r) from (hb2.block _ BX.out.lt).trans BX.out)
       have R2 := Lib.hid (RowsAt.below HQ.out B2.out)
       clear hb2 BB BX c1 HHO)
    | (with_reducible show wpList _ _ _ (⟨_, Op.alloc stT, _, _, _, _⟩ :: _) _ _
       refine wpList_boxA_new rowStr rfl rfl w2.heap.size rfl ?_
       intro w3 y3 l3 s3
       have Y3 := Lib.hid y3
       have L3 := Lib.hid l3
       have S3 := Lib.hid s3
       clear y3 l3 s3)
    | (with_reducible show wpList _ _ _ (⟨_, Op.store stT _ _, _, _, _, none⟩ :: _) _ _
       refine wpList_boxA_put rowStr rfl _ _ rfl rfl w2.heap.size readsA _ rfl str_one.1 rfl rfl rfl Y3.out ?_
       intro w4 y4 k4 s4
       have Y4 := Lib.hid y4
       have L4 := Lib.hid (L3.out.trans (show Below w2.heap.size w3 w4 from k4.below L3.out.size (fun k hk e => by have := S3.out; omega)))
       have X4 := Lib.hid (X2.out.keep (L4.out.block _ X2.out.lt))
       have B4 := Lib.hid (B2.out.trans (L4.out.mono B2.out.size))
       clear y4 k4 s4 Y3 L3 S3 X2 B2 L4
       generalize w2.heap.size = A1 at *)
    | (with_reducible show wpList _ _ _ (⟨_, Op.alloc stT, _, _, _, _⟩ :: _) _ _
       refine wpList_boxA_new rowStr rfl rfl w4.heap.size rfl ?_
       intro w5 y5 l5 s5
       have Z5 := Lib.hid y5
       have L5 := Lib.hid l5
       have S5 := Lib.hid s5
       clear y5 l5 s5)
    | (with_reducible show wpList _ _ _ (⟨_, Op.store stT _ _, _, _, _, none⟩ :: _) _ _
       refine wpList_boxA_put rowStr rfl _ _ rfl rfl w4.heap.size writesA _ rfl str_one.2 rfl rfl rfl Z5.out ?_
       intro w6 y6 k6 s6
       have Z6 := Lib.hid y6
       have L6 := Lib.hid (L5.out.trans (show Below w4.heap.size w5 w6 from k6.below L5.out.size (fun k hk e => by have := S5.out; omega)))
       have X6 := Lib.hid (X4.out.keep (L6.out.block _ X4.out.lt))
       have Y6 := Lib.hid (Y4.out.keep (L6.out.block _ Y4.out.lt))
       have B6 := Lib.hid (B4.out.trans (L6.out.mono B4.out.size))
       have R6 := Lib.hid (RowsAt.below HQ.out B6.out)
       have HKE := Lib.hid (refKey_any (r := r) (c := c) R6.out HN.out HL.out who)
       clear y6 k6 s6 Z5 L5 S5 X4 B4 Y4 L6 R2
       generalize w4.heap.size = A2 at *
       have c2 : w6.cell? ⟨w.heap.size, 2, none⟩ = some (.int .i64 (2)) := by rw [← ht]; exact X6.out.cell 2
       have d1 : w6.cell? ⟨A1, 2, none⟩ = some (.string ⟨#[]⟩) := Y6.out.cell 2
       have d2 : w6.cell? ⟨A2, 2, none⟩ = some (.string ⟨#[]⟩) := Z6.out.cell 2)
    | (with_reducible show wpList _ _ _ (⟨_, Op.load rvT _, _, _, _, _⟩ :: _) _ _
       refine wpList_boxA_loadw rowRv _ rfl rfl w.heap.size (resvA q n c r) rfl rfl X6.out ?_)
    | (go_at_call 16
       refine HKE.out.mono ?_; rintro e w7 ⟨rfl, hb7⟩
       have B7 := Lib.hid (B6.out.trans (hb7.mono B6.out.size))
       clear hb7 X6 Y6 Z6 B6 R6 HKE c2 d1 d2))
  go_loopw [11] (fun v11 wr => ∃ k : Nat, k ≤ 0 ∧ v11 = .int .i64 k ∧ Below w.heap.size w wr) (fun v11 _ => 1 - (intOf v11).toNat)
  case atStart => exact ⟨0, Nat.zero_le _, rfl, B7.out⟩
  case round =>
    obtain ⟨k, hk2, rfl, hb⟩ := hrel
    have HB := Lib.hid hb
    clear hb B7
    rcases k with _ | k
    · go_wp2
      go_ret
      exact ⟨rfl, HB.out⟩
    · exfalso; omega
set_option maxRecDepth 100000 in
set_option maxHeartbeats 8000000 in
theorem allow_2_2_o {w : World} {q : Option Addr} {n c : Nat} {r : ResvOf} (hq : RegsAt w q r.regs) (hn : r.regs.length = n) (hl : n ≤ 1000) (who : Int) (e1 : (r.h == -1) = false) (e2 : holdsR r who = false) (ht : r.t = 2) (hk : ¬ 0 < keyR r.regs who) : Calls Try.prog 21 #[.agg (resvA q n c r), .int .i64 who, .int .i64 2] w fun e w' => e = .returned (.bool false) ∧ Below w.heap.size w w' := by
  have BX := Lib.hid (RvBox.alloc w q n c r)
  have BB := Lib.hid (box_below w (.cells (resvA q n c r) rvT))
  have HHO := Lib.hid (refHolds_any (c := c) (RowsAt.below hq BB.out) hn hl who)
  have c1 := BX.out.c1
  have HQ := Lib.hid hq
  have HN := Lib.hid hn
  have HL := Lib.hid hl
  clear hq hn hl
  rw [e2] at HHO
  have f1 : decide (0 < keyR r.regs who) = false := by simp [hk]
  go_enter Try.func21, Try.ntmps21
  go_wp2_with (first
    | (with_reducible show wpList _ _ _ (⟨_, Op.load rvT _, _, _, _, _⟩ :: _) _ _
       refine wpList_boxA_loadw rowRv _ rfl rfl w.heap.size (resvA q n c r) rfl rfl (show BoxA _ _ _ _ from BX.out) ?_)
    | (go_at_call 19
       refine HHO.out.mono ?_; rintro e w2 ⟨rfl, hb2⟩
       have B2 := Lib.hid (BB.out.trans (hb2.mono BB.out.size))
       have X2 := Lib.hid (show BoxA w2 w.heap.size rvT (resvA q n c r) from (hb2.block _ BX.out.lt).trans BX.out)
       have R2 := Lib.hid (RowsAt.below HQ.out B2.out)
       clear hb2 BB BX c1 HHO)
    | (with_reducible show wpList _ _ _ (⟨_, Op.alloc stT, _, _, _, _⟩ :: _) _ _
       refine wpList_boxA_new rowStr rfl rfl w2.heap.size rfl ?_
       intro w3 y3 l3 s3
       have Y3 := Lib.hid y3
       have L3 := Lib.hid l3
       have S3 := Lib.hid s3
       clear y3 l3 s3)
    | (with_reducible show wpList _ _ _ (⟨_, Op.store stT _ _, _, _, _, none⟩ :: _) _ _
       refine wpList_boxA_put rowStr rfl _ _ rfl rfl w2.heap.size readsA _ rfl str_one.1 rfl rfl rfl Y3.out ?_
       intro w4 y4 k4 s4
       have Y4 := Lib.hid y4
       have L4 := Lib.hid (L3.out.trans (show Below w2.heap.size w3 w4 from k4.below L3.out.size (fun k hk e => by have := S3.out; omega)))
       have X4 := Lib.hid (X2.out.keep (L4.out.block _ X2.out.lt))
       have B4 := Lib.hid (B2.out.trans (L4.out.mono B2.out.size))
       clear y4 k4 s4 Y3 L3 S3 X2 B2 L4
       generalize w2.heap.size = A1 at *)
    | (with_reducible show wpList _ _ _ (⟨_, Op.alloc stT, _, _, _, _⟩ :: _) _ _
       refine wpList_boxA_new rowStr rfl rfl w4.heap.size rfl ?_
       intro w5 y5 l5 s5
       have Z5 := Lib.hid y5
       have L5 := Lib.hid l5
       have S5 := Lib.hid s5
       clear y5 l5 s5)
    | (with_reducible show wpList _ _ _ (⟨_, Op.store stT _ _, _, _, _, none⟩ :: _) _ _
       refine wpList_boxA_put rowStr rfl _ _ rfl rfl w4.heap.size writesA _ rfl str_one.2 rfl rfl rfl Z5.out ?_
       intro w6 y6 k6 s6
       have Z6 := Lib.hid y6
       have L6 := Lib.hid (L5.out.trans (show Below w4.heap.size w5 w6 from k6.below L5.out.size (fun k hk e => by have := S5.out; omega)))
       have X6 := Lib.hid (X4.out.keep (L6.out.block _ X4.out.lt))
       have Y6 := Lib.hid (Y4.out.keep (L6.out.block _ Y4.out.lt))
       have B6 := Lib.hid (B4.out.trans (L6.out.mono B4.out.size))
       have R6 := Lib.hid (RowsAt.below HQ.out B6.out)
       have HKE := Lib.hid (refKey_any (r := r) (c := c) R6.out HN.out HL.out who)
       clear y6 k6 s6 Z5 L5 S5 X4 B4 Y4 L6 R2
       generalize w4.heap.size = A2 at *
       have c2 : w6.cell? ⟨w.heap.size, 2, none⟩ = some (.int .i64 (2)) := by rw [← ht]; exact X6.out.cell 2
       have d1 : w6.cell? ⟨A1, 2, none⟩ = some (.string ⟨#[]⟩) := Y6.out.cell 2
       have d2 : w6.cell? ⟨A2, 2, none⟩ = some (.string ⟨#[]⟩) := Z6.out.cell 2)
    | (with_reducible show wpList _ _ _ (⟨_, Op.load rvT _, _, _, _, _⟩ :: _) _ _
       refine wpList_boxA_loadw rowRv _ rfl rfl w.heap.size (resvA q n c r) rfl rfl X6.out ?_)
    | (go_at_call 16
       refine HKE.out.mono ?_; rintro e w7 ⟨rfl, hb7⟩
       have B7 := Lib.hid (B6.out.trans (hb7.mono B6.out.size))
       clear hb7 X6 Y6 Z6 B6 R6 HKE c2 d1 d2))
  go_loopw [11] (fun v11 wr => ∃ k : Nat, k ≤ 0 ∧ v11 = .int .i64 k ∧ Below w.heap.size w wr) (fun v11 _ => 1 - (intOf v11).toNat)
  case atStart => exact ⟨0, Nat.zero_le _, rfl, B7.out⟩
  case round =>
    obtain ⟨k, hk2, rfl, hb⟩ := hrel
    have HB := Lib.hid hb
    clear hb B7
    rcases k with _ | k
    · go_wp2
      go_ret
      exact ⟨rfl, HB.out⟩
    · exfalso; omega
set_option maxRecDepth 100000 in
set_option maxHeartbeats 8000000 in
theorem allow_2_2_r {w : World} {q : Option Addr} {n c : Nat} {r : ResvOf} (hq : RegsAt w q r.regs) (hn : r.regs.length = n) (hl : n ≤ 1000) (who : Int) (e1 : (r.h == -1) = false) (e2 : holdsR r who = false) (ht : r.t = 2) (hk : 0 < keyR r.regs who) : Calls Try.prog 21 #[.agg (resvA q n c r), .int .i64 who, .int .i64 2] w fun e w' => e = .returned (.bool false) ∧ Below w.heap.size w w' := by
  have BX := Lib.hid (RvBox.alloc w q n c r)
  have BB := Lib.hid (box_below w (.cells (resvA q n c r) rvT))
  have HHO := Lib.hid (refHolds_any (c := c) (RowsAt.below hq BB.out) hn hl who)
  have c1 := BX.out.c1
  have HQ := Lib.hid hq
  have HN := Lib.hid hn
  have HL := Lib.hid hl
  clear hq hn hl
  rw [e2] at HHO
  have f1 : decide (0 < keyR r.regs who) = true := by simp [hk]
  go_enter Try.func21, Try.ntmps21
  go_wp2_with (first
    | (with_reducible show wpList _ _ _ (⟨_, Op.load rvT _, _, _, _, _⟩ :: _) _ _
       refine wpList_boxA_loadw rowRv _ rfl rfl w.heap.size (resvA q n c r) rfl rfl (show BoxA _ _ _ _ from BX.out) ?_)
    | (go_at_call 19
       refine HHO.out.mono ?_; rintro e w2 ⟨rfl, hb2⟩
       have B2 := Lib.hid (BB.out.trans (hb2.mono BB.out.size))
       have X2 := Lib.hid (show BoxA w2 w.heap.size rvT (resvA q n c r) from (hb2.block _ BX.out.lt).trans BX.out)
       have R2 := Lib.hid (RowsAt.below HQ.out B2.out)
       clear hb2 BB BX c1 HHO)
    | (with_reducible show wpList _ _ _ (⟨_, Op.alloc stT, _, _, _, _⟩ :: _) _ _
       refine wpList_boxA_new rowStr rfl rfl w2.heap.size rfl ?_
       intro w3 y3 l3 s3
       have Y3 := Lib.hid y3
       have L3 := Lib.hid l3
       have S3 := Lib.hid s3
       clear y3 l3 s3)
    | (with_reducible show wpList _ _ _ (⟨_, Op.store stT _ _, _, _, _, none⟩ :: _) _ _
       refine wpList_boxA_put rowStr rfl _ _ rfl rfl w2.heap.size readsA _ rfl str_one.1 rfl rfl rfl Y3.out ?_
       intro w4 y4 k4 s4
       have Y4 := Lib.hid y4
       have L4 := Lib.hid (L3.out.trans (show Below w2.heap.size w3 w4 from k4.below L3.out.size (fun k hk e => by have := S3.out; omega)))
       have X4 := Lib.hid (X2.out.keep (L4.out.block _ X2.out.lt))
       have B4 := Lib.hid (B2.out.trans (L4.out.mono B2.out.size))
       clear y4 k4 s4 Y3 L3 S3 X2 B2 L4
       generalize w2.heap.size = A1 at *)
    | (with_reducible show wpList _ _ _ (⟨_, Op.alloc stT, _, _, _, _⟩ :: _) _ _
       refine wpList_boxA_new rowStr rfl rfl w4.heap.size rfl ?_
       intro w5 y5 l5 s5
       have Z5 := Lib.hid y5
       have L5 := Lib.hid l5
       have S5 := Lib.hid s5
       clear y5 l5 s5)
    | (with_reducible show wpList _ _ _ (⟨_, Op.store stT _ _, _, _, _, none⟩ :: _) _ _
       refine wpList_boxA_put rowStr rfl _ _ rfl rfl w4.heap.size writesA _ rfl str_one.2 rfl rfl rfl Z5.out ?_
       intro w6 y6 k6 s6
       have Z6 := Lib.hid y6
       have L6 := Lib.hid (L5.out.trans (show Below w4.heap.size w5 w6 from k6.below L5.out.size (fun k hk e => by have := S5.out; omega)))
       have X6 := Lib.hid (X4.out.keep (L6.out.block _ X4.out.lt))
       have Y6 := Lib.hid (Y4.out.keep (L6.out.block _ Y4.out.lt))
       have B6 := Lib.hid (B4.out.trans (L6.out.mono B4.out.size))
       have R6 := Lib.hid (RowsAt.below HQ.out B6.out)
       have HKE := Lib.hid (refKey_any (r := r) (c := c) R6.out HN.out HL.out who)
       clear y6 k6 s6 Z5 L5 S5 X4 B4 Y4 L6 R2
       generalize w4.heap.size = A2 at *
       have c2 : w6.cell? ⟨w.heap.size, 2, none⟩ = some (.int .i64 (2)) := by rw [← ht]; exact X6.out.cell 2
       have d1 : w6.cell? ⟨A1, 2, none⟩ = some (.string ⟨#[]⟩) := Y6.out.cell 2
       have d2 : w6.cell? ⟨A2, 2, none⟩ = some (.string ⟨#[]⟩) := Z6.out.cell 2)
    | (with_reducible show wpList _ _ _ (⟨_, Op.load rvT _, _, _, _, _⟩ :: _) _ _
       refine wpList_boxA_loadw rowRv _ rfl rfl w.heap.size (resvA q n c r) rfl rfl X6.out ?_)
    | (go_at_call 16
       refine HKE.out.mono ?_; rintro e w7 ⟨rfl, hb7⟩
       have B7 := Lib.hid (B6.out.trans (hb7.mono B6.out.size))
       clear hb7 X6 Y6 Z6 B6 R6 HKE c2 d1 d2))
  go_loopw [11] (fun v11 wr => ∃ k : Nat, k ≤ 0 ∧ v11 = .int .i64 k ∧ Below w.heap.size w wr) (fun v11 _ => 1 - (intOf v11).toNat)
  case atStart => exact ⟨0, Nat.zero_le _, rfl, B7.out⟩
  case round =>
    obtain ⟨k, hk2, rfl, hb⟩ := hrel
    have HB := Lib.hid hb
    clear hb B7
    rcases k with _ | k
    · go_wp2
      go_ret
      exact ⟨rfl, HB.out⟩
    · exfalso; omega
set_option maxRecDepth 100000 in
set_option maxHeartbeats 8000000 in
theorem allow_3_1_o {w : World} {q : Option Addr} {n c : Nat} {r : ResvOf} (hq : RegsAt w q r.regs) (hn : r.regs.length = n) (hl : n ≤ 1000) (who : Int) (e1 : (r.h == -1) = false) (e2 : holdsR r who = false) (ht : r.t = 3) (hk : ¬ 0 < keyR r.regs who) : Calls Try.prog 21 #[.agg (resvA q n c r), .int .i64 who, .int .i64 1] w fun e w' => e = .returned (.bool true) ∧ Below w.heap.size w w' := by
  have BX := Lib.hid (RvBox.alloc w q n c r)
  have BB := Lib.hid (box_below w (.cells (resvA q n c r) rvT))
  have HHO := Lib.hid (refHolds_any (c := c) (RowsAt.below hq BB.out) hn hl who)
  have c1 := BX.out.c1
  have HQ := Lib.hid hq
  have HN := Lib.hid hn
  have HL := Lib.hid hl
  clear hq hn hl
  rw [e2] at HHO
  have f1 : decide (0 < keyR r.regs who) = false := by simp [hk]
  go_enter Try.func21, Try.ntmps21
  go_wp2_with (first
    | (with_reducible show wpList _ _ _ (⟨_, Op.load rvT _, _, _, _, _⟩ :: _) _ _
       refine wpList_boxA_loadw rowRv _ rfl rfl w.heap.size (resvA q n c r) rfl rfl (show BoxA _ _ _ _ from BX.out) ?_)
    | (go_at_call 19
       refine HHO.out.mono ?_; rintro e w2 ⟨rfl, hb2⟩
       have B2 := Lib.hid (BB.out.trans (hb2.mono BB.out.size))
       have X2 := Lib.hid (show BoxA w2 w.heap.size rvT (resvA q n c r) from (hb2.block _ BX.out.lt).trans BX.out)
       have R2 := Lib.hid (RowsAt.below HQ.out B2.out)
       clear hb2 BB BX c1 HHO)
    | (with_reducible show wpList _ _ _ (⟨_, Op.alloc stT, _, _, _, _⟩ :: _) _ _
       refine wpList_boxA_new rowStr rfl rfl w2.heap.size rfl ?_
       intro w3 y3 l3 s3
       have Y3 := Lib.hid y3
       have L3 := Lib.hid l3
       have S3 := Lib.hid s3
       clear y3 l3 s3)
    | (with_reducible show wpList _ _ _ (⟨_, Op.store stT _ _, _, _, _, none⟩ :: _) _ _
       refine wpList_boxA_put rowStr rfl _ _ rfl rfl w2.heap.size readsA _ rfl str_one.1 rfl rfl rfl Y3.out ?_
       intro w4 y4 k4 s4
       have Y4 := Lib.hid y4
       have L4 := Lib.hid (L3.out.trans (show Below w2.heap.size w3 w4 from k4.below L3.out.size (fun k hk e => by have := S3.out; omega)))
       have X4 := Lib.hid (X2.out.keep (L4.out.block _ X2.out.lt))
       have B4 := Lib.hid (B2.out.trans (L4.out.mono B2.out.size))
       clear y4 k4 s4 Y3 L3 S3 X2 B2 L4
       generalize w2.heap.size = A1 at *)
    | (with_reducible show wpList _ _ _ (⟨_, Op.alloc stT, _, _, _, _⟩ :: _) _ _
       refine wpList_boxA_new rowStr rfl rfl w4.heap.size rfl ?_
       intro w5 y5 l5 s5
       have Z5 := Lib.hid y5
       have L5 := Lib.hid l5
       have S5 := Lib.hid s5
       clear y5 l5 s5)
    | (with_reducible show wpList _ _ _ (⟨_, Op.store stT _ _, _, _, _, none⟩ :: _) _ _
       refine wpList_boxA_put rowStr rfl _ _ rfl rfl w4.heap.size writesA _ rfl str_one.2 rfl rfl rfl Z5.out ?_
       intro w6 y6 k6 s6
       have Z6 := Lib.hid y6
       have L6 := Lib.hid (L5.out.trans (show Below w4.heap.size w5 w6 from k6.below L5.out.size (fun k hk e => by have := S5.out; omega)))
       have X6 := Lib.hid (X4.out.keep (L6.out.block _ X4.out.lt))
       have Y6 := Lib.hid (Y4.out.keep (L6.out.block _ Y4.out.lt))
       have B6 := Lib.hid (B4.out.trans (L6.out.mono B4.out.size))
       have R6 := Lib.hid (RowsAt.below HQ.out B6.out)
       have HKE := Lib.hid (refKey_any (r := r) (c := c) R6.out HN.out HL.out who)
       clear y6 k6 s6 Z5 L5 S5 X4 B4 Y4 L6 R2
       generalize w4.heap.size = A2 at *
       have c2 : w6.cell? ⟨w.heap.size, 2, none⟩ = some (.int .i64 (3)) := by rw [← ht]; exact X6.out.cell 2
       have d1 : w6.cell? ⟨A1, 3, none⟩ = some (.string ⟨#[114, 111]⟩) := Y6.out.cell 3
       have d2 : w6.cell? ⟨A2, 3, none⟩ = some (.string ⟨#[114]⟩) := Z6.out.cell 3)
    | (with_reducible show wpList _ _ _ (⟨_, Op.load rvT _, _, _, _, _⟩ :: _) _ _
       refine wpList_boxA_loadw rowRv _ rfl rfl w.heap.size (resvA q n c r) rfl rfl X6.out ?_)
    | (go_at_call 16
       refine HKE.out.mono ?_; rintro e w7 ⟨rfl, hb7⟩
       have B7 := Lib.hid (B6.out.trans (hb7.mono B6.out.size))
       clear hb7 X6 Y6 Z6 B6 R6 HKE c2 d1 d2))
  go_loopw [11] (fun v11 wr => ∃ k : Nat, k ≤ 1 ∧ v11 = .int .i64 k ∧ Below w.heap.size w wr) (fun v11 _ => 2 - (intOf v11).toNat)
  case atStart => exact ⟨0, Nat.zero_le _, rfl, B7.out⟩
  case round =>
    obtain ⟨k, hk2, rfl, hb⟩ := hrel
    have HB := Lib.hid hb
    clear hb B7
    rcases k with _ | k
    · go_wp2
      go_roundw
      case rel => exact ⟨1, by omega, by go_num, HB.out⟩
      case measure => simp [intOf]
    · skip
      rcases k with _ | k
      · go_wp2
        go_ret
        exact ⟨rfl, HB.out⟩
      · exfalso; omega
set_option maxRecDepth 100000 in
set_option maxHeartbeats 8000000 in
theorem allow_3_1_r {w : World} {q : Option Addr} {n c : Nat} {r : ResvOf} (hq : RegsAt w q r.regs) (hn : r.regs.length = n) (hl : n ≤ 1000) (who : Int) (e1 : (r.h == -1) = false) (e2 : holdsR r who = false) (ht : r.t = 3) (hk : 0 < keyR r.regs who) : Calls Try.prog 21 #[.agg (resvA q n c r), .int .i64 who, .int .i64 1] w fun e w' => e = .returned (.bool true) ∧ Below w.heap.size w w' := by
  have BX := Lib.hid (RvBox.alloc w q n c r)
  have BB := Lib.hid (box_below w (.cells (resvA q n c r) rvT))
  have HHO := Lib.hid (refHolds_any (c := c) (RowsAt.below hq BB.out) hn hl who)
  have c1 := BX.out.c1
  have HQ := Lib.hid hq
  have HN := Lib.hid hn
  have HL := Lib.hid hl
  clear hq hn hl
  rw [e2] at HHO
  have f1 : decide (0 < keyR r.regs who) = true := by simp [hk]
  go_enter Try.func21, Try.ntmps21
  go_wp2_with (first
    | (with_reducible show wpList _ _ _ (⟨_, Op.load rvT _, _, _, _, _⟩ :: _) _ _
       refine wpList_boxA_loadw rowRv _ rfl rfl w.heap.size (resvA q n c r) rfl rfl (show BoxA _ _ _ _ from BX.out) ?_)
    | (go_at_call 19
       refine HHO.out.mono ?_; rintro e w2 ⟨rfl, hb2⟩
       have B2 := Lib.hid (BB.out.trans (hb2.mono BB.out.size))
       have X2 := Lib.hid (show BoxA w2 w.heap.size rvT (resvA q n c r) from (hb2.block _ BX.out.lt).trans BX.out)
       have R2 := Lib.hid (RowsAt.below HQ.out B2.out)
       clear hb2 BB BX c1 HHO)
    | (with_reducible show wpList _ _ _ (⟨_, Op.alloc stT, _, _, _, _⟩ :: _) _ _
       refine wpList_boxA_new rowStr rfl rfl w2.heap.size rfl ?_
       intro w3 y3 l3 s3
       have Y3 := Lib.hid y3
       have L3 := Lib.hid l3
       have S3 := Lib.hid s3
       clear y3 l3 s3)
    | (with_reducible show wpList _ _ _ (⟨_, Op.store stT _ _, _, _, _, none⟩ :: _) _ _
       refine wpList_boxA_put rowStr rfl _ _ rfl rfl w2.heap.size readsA _ rfl str_one.1 rfl rfl rfl Y3.out ?_
       intro w4 y4 k4 s4
       have Y4 := Lib.hid y4
       have L4 := Lib.hid (L3.out.trans (show Below w2.heap.size w3 w4 from k4.below L3.out.size (fun k hk e => by have := S3.out; omega)))
       have X4 := Lib.hid (X2.out.keep (L4.out.block _ X2.out.lt))
       have B4 := Lib.hid (B2.out.trans (L4.out.mono B2.out.size))
       clear y4 k4 s4 Y3 L3 S3 X2 B2 L4
       generalize w2.heap.size = A1 at *)
    | (with_reducible show wpList _ _ _ (⟨_, Op.alloc stT, _, _, _, _⟩ :: _) _ _
       refine wpList_boxA_new rowStr rfl rfl w4.heap.size rfl ?_
       intro w5 y5 l5 s5
       have Z5 := Lib.hid y5
       have L5 := Lib.hid l5
       have S5 := Lib.hid s5
       clear y5 l5 s5)
    | (with_reducible show wpList _ _ _ (⟨_, Op.store stT _ _, _, _, _, none⟩ :: _) _ _
       refine wpList_boxA_put rowStr rfl _ _ rfl rfl w4.heap.size writesA _ rfl str_one.2 rfl rfl rfl Z5.out ?_
       intro w6 y6 k6 s6
       have Z6 := Lib.hid y6
       have L6 := Lib.hid (L5.out.trans (show Below w4.heap.size w5 w6 from k6.below L5.out.size (fun k hk e => by have := S5.out; omega)))
       have X6 := Lib.hid (X4.out.keep (L6.out.block _ X4.out.lt))
       have Y6 := Lib.hid (Y4.out.keep (L6.out.block _ Y4.out.lt))
       have B6 := Lib.hid (B4.out.trans (L6.out.mono B4.out.size))
       have R6 := Lib.hid (RowsAt.below HQ.out B6.out)
       have HKE := Lib.hid (refKey_any (r := r) (c := c) R6.out HN.out HL.out who)
       clear y6 k6 s6 Z5 L5 S5 X4 B4 Y4 L6 R2
       generalize w4.heap.size = A2 at *
       have c2 : w6.cell? ⟨w.heap.size, 2, none⟩ = some (.int .i64 (3)) := by rw [← ht]; exact X6.out.cell 2
       have d1 : w6.cell? ⟨A1, 3, none⟩ = some (.string ⟨#[114, 111]⟩) := Y6.out.cell 3
       have d2 : w6.cell? ⟨A2, 3, none⟩ = some (.string ⟨#[114]⟩) := Z6.out.cell 3)
    | (with_reducible show wpList _ _ _ (⟨_, Op.load rvT _, _, _, _, _⟩ :: _) _ _
       refine wpList_boxA_loadw rowRv _ rfl rfl w.heap.size (resvA q n c r) rfl rfl X6.out ?_)
    | (go_at_call 16
       refine HKE.out.mono ?_; rintro e w7 ⟨rfl, hb7⟩
       have B7 := Lib.hid (B6.out.trans (hb7.mono B6.out.size))
       clear hb7 X6 Y6 Z6 B6 R6 HKE c2 d1 d2))
  go_loopw [11] (fun v11 wr => ∃ k : Nat, k ≤ 0 ∧ v11 = .int .i64 k ∧ Below w.heap.size w wr) (fun v11 _ => 1 - (intOf v11).toNat)
  case atStart => exact ⟨0, Nat.zero_le _, rfl, B7.out⟩
  case round =>
    obtain ⟨k, hk2, rfl, hb⟩ := hrel
    have HB := Lib.hid hb
    clear hb B7
    rcases k with _ | k
    · go_wp2
      go_ret
      exact ⟨rfl, HB.out⟩
    · exfalso; omega
set_option maxRecDepth 100000 in
set_option maxHeartbeats 8000000 in
theorem allow_3_2_o {w : World} {q : Option Addr} {n c : Nat} {r : ResvOf} (hq : RegsAt w q r.regs) (hn : r.regs.length = n) (hl : n ≤ 1000) (who : Int) (e1 : (r.h == -1) = false) (e2 : holdsR r who = false) (ht : r.t = 3) (hk : ¬ 0 < keyR r.regs who) : Calls Try.prog 21 #[.agg (resvA q n c r), .int .i64 who, .int .i64 2] w fun e w' => e = .returned (.bool false) ∧ Below w.heap.size w w' := by
  have BX := Lib.hid (RvBox.alloc w q n c r)
  have BB := Lib.hid (box_below w (.cells (resvA q n c r) rvT))
  have HHO := Lib.hid (refHolds_any (c := c) (RowsAt.below hq BB.out) hn hl who)
  have c1 := BX.out.c1
  have HQ := Lib.hid hq
  have HN := Lib.hid hn
  have HL := Lib.hid hl
  clear hq hn hl
  rw [e2] at HHO
  have f1 : decide (0 < keyR r.regs who) = false := by simp [hk]
  go_enter Try.func21, Try.ntmps21
  go_wp2_with (first
    | (with_reducible show wpList _ _ _ (⟨_, Op.load rvT _, _, _, _, _⟩ :: _) _ _
       refine wpList_boxA_loadw rowRv _ rfl rfl w.heap.size (resvA q n c r) rfl rfl (show BoxA _ _ _ _ from BX.out) ?_)
    | (go_at_call 19
       refine HHO.out.mono ?_; rintro e w2 ⟨rfl, hb2⟩
       have B2 := Lib.hid (BB.out.trans (hb2.mono BB.out.size))
       have X2 := Lib.hid (show BoxA w2 w.heap.size rvT (resvA q n c r) from (hb2.block _ BX.out.lt).trans BX.out)
       have R2 := Lib.hid (RowsAt.below HQ.out B2.out)
       clear hb2 BB BX c1 HHO)
    | (with_reducible show wpList _ _ _ (⟨_, Op.alloc stT, _, _, _, _⟩ :: _) _ _
       refine wpList_boxA_new rowStr rfl rfl w2.heap.size rfl ?_
       intro w3 y3 l3 s3
       have Y3 := Lib.hid y3
       have L3 := Lib.hid l3
       have S3 := Lib.hid s3
       clear y3 l3 s3)
    | (with_reducible show wpList _ _ _ (⟨_, Op.store stT _ _, _, _, _, none⟩ :: _) _ _
       refine wpList_boxA_put rowStr rfl _ _ rfl rfl w2.heap.size readsA _ rfl str_one.1 rfl rfl rfl Y3.out ?_
       intro w4 y4 k4 s4
       have Y4 := Lib.hid y4
       have L4 := Lib.hid (L3.out.trans (show Below w2.heap.size w3 w4 from k4.below L3.out.size (fun k hk e => by have := S3.out; omega)))
       have X4 := Lib.hid (X2.out.keep (L4.out.block _ X2.out.lt))
       have B4 := Lib.hid (B2.out.trans (L4.out.mono B2.out.size))
       clear y4 k4 s4 Y3 L3 S3 X2 B2 L4
       generalize w2.heap.size = A1 at *)
    | (with_reducible show wpList _ _ _ (⟨_, Op.alloc stT, _, _, _, _⟩ :: _) _ _
       refine wpList_boxA_new rowStr rfl rfl w4.heap.size rfl ?_
       intro w5 y5 l5 s5
       have Z5 := Lib.hid y5
       have L5 := Lib.hid l5
       have S5 := Lib.hid s5
       clear y5 l5 s5)
    | (with_reducible show wpList _ _ _ (⟨_, Op.store stT _ _, _, _, _, none⟩ :: _) _ _
       refine wpList_boxA_put rowStr rfl _ _ rfl rfl w4.heap.size writesA _ rfl str_one.2 rfl rfl rfl Z5.out ?_
       intro w6 y6 k6 s6
       have Z6 := Lib.hid y6
       have L6 := Lib.hid (L5.out.trans (show Below w4.heap.size w5 w6 from k6.below L5.out.size (fun k hk e => by have := S5.out; omega)))
       have X6 := Lib.hid (X4.out.keep (L6.out.block _ X4.out.lt))
       have Y6 := Lib.hid (Y4.out.keep (L6.out.block _ Y4.out.lt))
       have B6 := Lib.hid (B4.out.trans (L6.out.mono B4.out.size))
       have R6 := Lib.hid (RowsAt.below HQ.out B6.out)
       have HKE := Lib.hid (refKey_any (r := r) (c := c) R6.out HN.out HL.out who)
       clear y6 k6 s6 Z5 L5 S5 X4 B4 Y4 L6 R2
       generalize w4.heap.size = A2 at *
       have c2 : w6.cell? ⟨w.heap.size, 2, none⟩ = some (.int .i64 (3)) := by rw [← ht]; exact X6.out.cell 2
       have d1 : w6.cell? ⟨A1, 3, none⟩ = some (.string ⟨#[114, 111]⟩) := Y6.out.cell 3
       have d2 : w6.cell? ⟨A2, 3, none⟩ = some (.string ⟨#[114]⟩) := Z6.out.cell 3)
    | (with_reducible show wpList _ _ _ (⟨_, Op.load rvT _, _, _, _, _⟩ :: _) _ _
       refine wpList_boxA_loadw rowRv _ rfl rfl w.heap.size (resvA q n c r) rfl rfl X6.out ?_)
    | (go_at_call 16
       refine HKE.out.mono ?_; rintro e w7 ⟨rfl, hb7⟩
       have B7 := Lib.hid (B6.out.trans (hb7.mono B6.out.size))
       clear hb7 X6 Y6 Z6 B6 R6 HKE c2 d1 d2))
  go_loopw [11] (fun v11 wr => ∃ k : Nat, k ≤ 1 ∧ v11 = .int .i64 k ∧ Below w.heap.size w wr) (fun v11 _ => 2 - (intOf v11).toNat)
  case atStart => exact ⟨0, Nat.zero_le _, rfl, B7.out⟩
  case round =>
    obtain ⟨k, hk2, rfl, hb⟩ := hrel
    have HB := Lib.hid hb
    clear hb B7
    rcases k with _ | k
    · go_wp2
      go_roundw
      case rel => exact ⟨1, by omega, by go_num, HB.out⟩
      case measure => simp [intOf]
    · skip
      rcases k with _ | k
      · go_wp2
        go_ret
        exact ⟨rfl, HB.out⟩
      · exfalso; omega
set_option maxRecDepth 100000 in
set_option maxHeartbeats 8000000 in
theorem allow_3_2_r {w : World} {q : Option Addr} {n c : Nat} {r : ResvOf} (hq : RegsAt w q r.regs) (hn : r.regs.length = n) (hl : n ≤ 1000) (who : Int) (e1 : (r.h == -1) = false) (e2 : holdsR r who = false) (ht : r.t = 3) (hk : 0 < keyR r.regs who) : Calls Try.prog 21 #[.agg (resvA q n c r), .int .i64 who, .int .i64 2] w fun e w' => e = .returned (.bool true) ∧ Below w.heap.size w w' := by
  have BX := Lib.hid (RvBox.alloc w q n c r)
  have BB := Lib.hid (box_below w (.cells (resvA q n c r) rvT))
  have HHO := Lib.hid (refHolds_any (c := c) (RowsAt.below hq BB.out) hn hl who)
  have c1 := BX.out.c1
  have HQ := Lib.hid hq
  have HN := Lib.hid hn
  have HL := Lib.hid hl
  clear hq hn hl
  rw [e2] at HHO
  have f1 : decide (0 < keyR r.regs who) = true := by simp [hk]
  go_enter Try.func21, Try.ntmps21
  go_wp2_with (first
    | (with_reducible show wpList _ _ _ (⟨_, Op.load rvT _, _, _, _, _⟩ :: _) _ _
       refine wpList_boxA_loadw rowRv _ rfl rfl w.heap.size (resvA q n c r) rfl rfl (show BoxA _ _ _ _ from BX.out) ?_)
    | (go_at_call 19
       refine HHO.out.mono ?_; rintro e w2 ⟨rfl, hb2⟩
       have B2 := Lib.hid (BB.out.trans (hb2.mono BB.out.size))
       have X2 := Lib.hid (show BoxA w2 w.heap.size rvT (resvA q n c r) from (hb2.block _ BX.out.lt).trans BX.out)
       have R2 := Lib.hid (RowsAt.below HQ.out B2.out)
       clear hb2 BB BX c1 HHO)
    | (with_reducible show wpList _ _ _ (⟨_, Op.alloc stT, _, _, _, _⟩ :: _) _ _
       refine wpList_boxA_new rowStr rfl rfl w2.heap.size rfl ?_
       intro w3 y3 l3 s3
       have Y3 := Lib.hid y3
       have L3 := Lib.hid l3
       have S3 := Lib.hid s3
       clear y3 l3 s3)
    | (with_reducible show wpList _ _ _ (⟨_, Op.store stT _ _, _, _, _, none⟩ :: _) _ _
       refine wpList_boxA_put rowStr rfl _ _ rfl rfl w2.heap.size readsA _ rfl str_one.1 rfl rfl rfl Y3.out ?_
       intro w4 y4 k4 s4
       have Y4 := Lib.hid y4
       have L4 := Lib.hid (L3.out.trans (show Below w2.heap.size w3 w4 from k4.below L3.out.size (fun k hk e => by have := S3.out; omega)))
       have X4 := Lib.hid (X2.out.keep (L4.out.block _ X2.out.lt))
       have B4 := Lib.hid (B2.out.trans (L4.out.mono B2.out.size))
       clear y4 k4 s4 Y3 L3 S3 X2 B2 L4
       generalize w2.heap.size = A1 at *)
    | (with_reducible show wpList _ _ _ (⟨_, Op.alloc stT, _, _, _, _⟩ :: _) _ _
       refine wpList_boxA_new rowStr rfl rfl w4.heap.size rfl ?_
       intro w5 y5 l5 s5
       have Z5 := Lib.hid y5
       have L5 := Lib.hid l5
       have S5 := Lib.hid s5
       clear y5 l5 s5)
    | (with_reducible show wpList _ _ _ (⟨_, Op.store stT _ _, _, _, _, none⟩ :: _) _ _
       refine wpList_boxA_put rowStr rfl _ _ rfl rfl w4.heap.size writesA _ rfl str_one.2 rfl rfl rfl Z5.out ?_
       intro w6 y6 k6 s6
       have Z6 := Lib.hid y6
       have L6 := Lib.hid (L5.out.trans (show Below w4.heap.size w5 w6 from k6.below L5.out.size (fun k hk e => by have := S5.out; omega)))
       have X6 := Lib.hid (X4.out.keep (L6.out.block _ X4.out.lt))
       have Y6 := Lib.hid (Y4.out.keep (L6.out.block _ Y4.out.lt))
       have B6 := Lib.hid (B4.out.trans (L6.out.mono B4.out.size))
       have R6 := Lib.hid (RowsAt.below HQ.out B6.out)
       have HKE := Lib.hid (refKey_any (r := r) (c := c) R6.out HN.out HL.out who)
       clear y6 k6 s6 Z5 L5 S5 X4 B4 Y4 L6 R2
       generalize w4.heap.size = A2 at *
       have c2 : w6.cell? ⟨w.heap.size, 2, none⟩ = some (.int .i64 (3)) := by rw [← ht]; exact X6.out.cell 2
       have d1 : w6.cell? ⟨A1, 3, none⟩ = some (.string ⟨#[114, 111]⟩) := Y6.out.cell 3
       have d2 : w6.cell? ⟨A2, 3, none⟩ = some (.string ⟨#[114]⟩) := Z6.out.cell 3)
    | (with_reducible show wpList _ _ _ (⟨_, Op.load rvT _, _, _, _, _⟩ :: _) _ _
       refine wpList_boxA_loadw rowRv _ rfl rfl w.heap.size (resvA q n c r) rfl rfl X6.out ?_)
    | (go_at_call 16
       refine HKE.out.mono ?_; rintro e w7 ⟨rfl, hb7⟩
       have B7 := Lib.hid (B6.out.trans (hb7.mono B6.out.size))
       clear hb7 X6 Y6 Z6 B6 R6 HKE c2 d1 d2))
  go_loopw [11] (fun v11 wr => ∃ k : Nat, k ≤ 0 ∧ v11 = .int .i64 k ∧ Below w.heap.size w wr) (fun v11 _ => 1 - (intOf v11).toNat)
  case atStart => exact ⟨0, Nat.zero_le _, rfl, B7.out⟩
  case round =>
    obtain ⟨k, hk2, rfl, hb⟩ := hrel
    have HB := Lib.hid hb
    clear hb B7
    rcases k with _ | k
    · go_wp2
      go_ret
      exact ⟨rfl, HB.out⟩
    · exfalso; omega
set_option maxRecDepth 100000 in
set_option maxHeartbeats 8000000 in
theorem allow_4_1_o {w : World} {q : Option Addr} {n c : Nat} {r : ResvOf} (hq : RegsAt w q r.regs) (hn : r.regs.length = n) (hl : n ≤ 1000) (who : Int) (e1 : (r.h == -1) = false) (e2 : holdsR r who = false) (ht : r.t = 4) (hk : ¬ 0 < keyR r.regs who) : Calls Try.prog 21 #[.agg (resvA q n c r), .int .i64 who, .int .i64 1] w fun e w' => e = .returned (.bool false) ∧ Below w.heap.size w w' := by
  have BX := Lib.hid (RvBox.alloc w q n c r)
  have BB := Lib.hid (box_below w (.cells (resvA q n c r) rvT))
  have HHO := Lib.hid (refHolds_any (c := c) (RowsAt.below hq BB.out) hn hl who)
  have c1 := BX.out.c1
  have HQ := Lib.hid hq
  have HN := Lib.hid hn
  have HL := Lib.hid hl
  clear hq hn hl
  rw [e2] at HHO
  have f1 : decide (0 < keyR r.regs who) = false := by simp [hk]
  go_enter Try.func21, Try.ntmps21
  go_wp2_with (first
    | (with_reducible show wpList _ _ _ (⟨_, Op.load rvT _, _, _, _, _⟩ :: _) _ _
       refine wpList_boxA_loadw rowRv _ rfl rfl w.heap.size (resvA q n c r) rfl rfl (show BoxA _ _ _ _ from BX.out) ?_)
    | (go_at_call 19
       refine HHO.out.mono ?_; rintro e w2 ⟨rfl, hb2⟩
       have B2 := Lib.hid (BB.out.trans (hb2.mono BB.out.size))
       have X2 := Lib.hid (show BoxA w2 w.heap.size rvT (resvA q n c r) from (hb2.block _ BX.out.lt).trans BX.out)
       have R2 := Lib.hid (RowsAt.below HQ.out B2.out)
       clear hb2 BB BX c1 HHO)
    | (with_reducible show wpList _ _ _ (⟨_, Op.alloc stT, _, _, _, _⟩ :: _) _ _
       refine wpList_boxA_new rowStr rfl rfl w2.heap.size rfl ?_
       intro w3 y3 l3 s3
       have Y3 := Lib.hid y3
       have L3 := Lib.hid l3
       have S3 := Lib.hid s3
       clear y3 l3 s3)
    | (with_reducible show wpList _ _ _ (⟨_, Op.store stT _ _, _, _, _, none⟩ :: _) _ _
       refine wpList_boxA_put rowStr rfl _ _ rfl rfl w2.heap.size readsA _ rfl str_one.1 rfl rfl rfl Y3.out ?_
       intro w4 y4 k4 s4
       have Y4 := Lib.hid y4
       have L4 := Lib.hid (L3.out.trans (show Below w2.heap.size w3 w4 from k4.below L3.out.size (fun k hk e => by have := S3.out; omega)))
       have X4 := Lib.hid (X2.out.keep (L4.out.block _ X2.out.lt))
       have B4 := Lib.hid (B2.out.trans (L4.out.mono B2.out.size))
       clear y4 k4 s4 Y3 L3 S3 X2 B2 L4
       generalize w2.heap.size = A1 at *)
    | (with_reducible show wpList _ _ _ (⟨_, Op.alloc stT, _, _, _, _⟩ :: _) _ _
       refine wpList_boxA_new rowStr rfl rfl w4.heap.size rfl ?_
       intro w5 y5 l5 s5
       have Z5 := Lib.hid y5
       have L5 := Lib.hid l5
       have S5 := Lib.hid s5
       clear y5 l5 s5)
    | (with_reducible show wpList _ _ _ (⟨_, Op.store stT _ _, _, _, _, none⟩ :: _) _ _
       refine wpList_boxA_put rowStr rfl _ _ rfl rfl w4.heap.size writesA _ rfl str_one.2 rfl rfl rfl Z5.out ?_
       intro w6 y6 k6 s6
       have Z6 := Lib.hid y6
       have L6 := Lib.hid (L5.out.trans (show Below w4.heap.size w5 w6 from k6.below L5.out.size (fun k hk e => by have := S5.out; omega)))
       have X6 := Lib.hid (X4.out.keep (L6.out.block _ X4.out.lt))
       have Y6 := Lib.hid (Y4.out.keep (L6.out.block _ Y4.out.lt))
       have B6 := Lib.hid (B4.out.trans (L6.out.mono B4.out.size))
       have R6 := Lib.hid (RowsAt.below HQ.out B6.out)
       have HKE := Lib.hid (refKey_any (r := r) (c := c) R6.out HN.out HL.out who)
       clear y6 k6 s6 Z5 L5 S5 X4 B4 Y4 L6 R2
       generalize w4.heap.size = A2 at *
       have c2 : w6.cell? ⟨w.heap.size, 2, none⟩ = some (.int .i64 (4)) := by rw [← ht]; exact X6.out.cell 2
       have d1 : w6.cell? ⟨A1, 4, none⟩ = some (.string ⟨#[114]⟩) := Y6.out.cell 4
       have d2 : w6.cell? ⟨A2, 4, none⟩ = some (.string ⟨#[114]⟩) := Z6.out.cell 4)
    | (with_reducible show wpList _ _ _ (⟨_, Op.load rvT _, _, _, _, _⟩ :: _) _ _
       refine wpList_boxA_loadw rowRv _ rfl rfl w.heap.size (resvA q n c r) rfl rfl X6.out ?_)
    | (go_at_call 16
       refine HKE.out.mono ?_; rintro e w7 ⟨rfl, hb7⟩
       have B7 := Lib.hid (B6.out.trans (hb7.mono B6.out.size))
       clear hb7 X6 Y6 Z6 B6 R6 HKE c2 d1 d2))
  go_loopw [11] (fun v11 wr => ∃ k : Nat, k ≤ 1 ∧ v11 = .int .i64 k ∧ Below w.heap.size w wr) (fun v11 _ => 2 - (intOf v11).toNat)
  case atStart => exact ⟨0, Nat.zero_le _, rfl, B7.out⟩
  case round =>
    obtain ⟨k, hk2, rfl, hb⟩ := hrel
    have HB := Lib.hid hb
    clear hb B7
    rcases k with _ | k
    · go_wp2
      go_roundw
      case rel => exact ⟨1, by omega, by go_num, HB.out⟩
      case measure => simp [intOf]
    · skip
      rcases k with _ | k
      · go_wp2
        go_ret
        exact ⟨rfl, HB.out⟩
      · exfalso; omega
set_option maxRecDepth 100000 in
set_option maxHeartbeats 8000000 in
theorem allow_4_1_r {w : World} {q : Option Addr} {n c : Nat} {r : ResvOf} (hq : RegsAt w q r.regs) (hn : r.regs.length = n) (hl : n ≤ 1000) (who : Int) (e1 : (r.h == -1) = false) (e2 : holdsR r who = false) (ht : r.t = 4) (hk : 0 < keyR r.regs who) : Calls Try.prog 21 #[.agg (resvA q n c r), .int .i64 who, .int .i64 1] w fun e w' => e = .returned (.bool true) ∧ Below w.heap.size w w' := by
  have BX := Lib.hid (RvBox.alloc w q n c r)
  have BB := Lib.hid (box_below w (.cells (resvA q n c r) rvT))
  have HHO := Lib.hid (refHolds_any (c := c) (RowsAt.below hq BB.out) hn hl who)
  have c1 := BX.out.c1
  have HQ := Lib.hid hq
  have HN := Lib.hid hn
  have HL := Lib.hid hl
  clear hq hn hl
  rw [e2] at HHO
  have f1 : decide (0 < keyR r.regs who) = true := by simp [hk]
  go_enter Try.func21, Try.ntmps21
  go_wp2_with (first
    | (with_reducible show wpList _ _ _ (⟨_, Op.load rvT _, _, _, _, _⟩ :: _) _ _
       refine wpList_boxA_loadw rowRv _ rfl rfl w.heap.size (resvA q n c r) rfl rfl (show BoxA _ _ _ _ from BX.out) ?_)
    | (go_at_call 19
       refine HHO.out.mono ?_; rintro e w2 ⟨rfl, hb2⟩
       have B2 := Lib.hid (BB.out.trans (hb2.mono BB.out.size))
       have X2 := Lib.hid (show BoxA w2 w.heap.size rvT (resvA q n c r) from (hb2.block _ BX.out.lt).trans BX.out)
       have R2 := Lib.hid (RowsAt.below HQ.out B2.out)
       clear hb2 BB BX c1 HHO)
    | (with_reducible show wpList _ _ _ (⟨_, Op.alloc stT, _, _, _, _⟩ :: _) _ _
       refine wpList_boxA_new rowStr rfl rfl w2.heap.size rfl ?_
       intro w3 y3 l3 s3
       have Y3 := Lib.hid y3
       have L3 := Lib.hid l3
       have S3 := Lib.hid s3
       clear y3 l3 s3)
    | (with_reducible show wpList _ _ _ (⟨_, Op.store stT _ _, _, _, _, none⟩ :: _) _ _
       refine wpList_boxA_put rowStr rfl _ _ rfl rfl w2.heap.size readsA _ rfl str_one.1 rfl rfl rfl Y3.out ?_
       intro w4 y4 k4 s4
       have Y4 := Lib.hid y4
       have L4 := Lib.hid (L3.out.trans (show Below w2.heap.size w3 w4 from k4.below L3.out.size (fun k hk e => by have := S3.out; omega)))
       have X4 := Lib.hid (X2.out.keep (L4.out.block _ X2.out.lt))
       have B4 := Lib.hid (B2.out.trans (L4.out.mono B2.out.size))
       clear y4 k4 s4 Y3 L3 S3 X2 B2 L4
       generalize w2.heap.size = A1 at *)
    | (with_reducible show wpList _ _ _ (⟨_, Op.alloc stT, _, _, _, _⟩ :: _) _ _
       refine wpList_boxA_new rowStr rfl rfl w4.heap.size rfl ?_
       intro w5 y5 l5 s5
       have Z5 := Lib.hid y5
       have L5 := Lib.hid l5
       have S5 := Lib.hid s5
       clear y5 l5 s5)
    | (with_reducible show wpList _ _ _ (⟨_, Op.store stT _ _, _, _, _, none⟩ :: _) _ _
       refine wpList_boxA_put rowStr rfl _ _ rfl rfl w4.heap.size writesA _ rfl str_one.2 rfl rfl rfl Z5.out ?_
       intro w6 y6 k6 s6
       have Z6 := Lib.hid y6
       have L6 := Lib.hid (L5.out.trans (show Below w4.heap.size w5 w6 from k6.below L5.out.size (fun k hk e => by have := S5.out; omega)))
       have X6 := Lib.hid (X4.out.keep (L6.out.block _ X4.out.lt))
       have Y6 := Lib.hid (Y4.out.keep (L6.out.block _ Y4.out.lt))
       have B6 := Lib.hid (B4.out.trans (L6.out.mono B4.out.size))
       have R6 := Lib.hid (RowsAt.below HQ.out B6.out)
       have HKE := Lib.hid (refKey_any (r := r) (c := c) R6.out HN.out HL.out who)
       clear y6 k6 s6 Z5 L5 S5 X4 B4 Y4 L6 R2
       generalize w4.heap.size = A2 at *
       have c2 : w6.cell? ⟨w.heap.size, 2, none⟩ = some (.int .i64 (4)) := by rw [← ht]; exact X6.out.cell 2
       have d1 : w6.cell? ⟨A1, 4, none⟩ = some (.string ⟨#[114]⟩) := Y6.out.cell 4
       have d2 : w6.cell? ⟨A2, 4, none⟩ = some (.string ⟨#[114]⟩) := Z6.out.cell 4)
    | (with_reducible show wpList _ _ _ (⟨_, Op.load rvT _, _, _, _, _⟩ :: _) _ _
       refine wpList_boxA_loadw rowRv _ rfl rfl w.heap.size (resvA q n c r) rfl rfl X6.out ?_)
    | (go_at_call 16
       refine HKE.out.mono ?_; rintro e w7 ⟨rfl, hb7⟩
       have B7 := Lib.hid (B6.out.trans (hb7.mono B6.out.size))
       clear hb7 X6 Y6 Z6 B6 R6 HKE c2 d1 d2))
  go_loopw [11] (fun v11 wr => ∃ k : Nat, k ≤ 0 ∧ v11 = .int .i64 k ∧ Below w.heap.size w wr) (fun v11 _ => 1 - (intOf v11).toNat)
  case atStart => exact ⟨0, Nat.zero_le _, rfl, B7.out⟩
  case round =>
    obtain ⟨k, hk2, rfl, hb⟩ := hrel
    have HB := Lib.hid hb
    clear hb B7
    rcases k with _ | k
    · go_wp2
      go_ret
      exact ⟨rfl, HB.out⟩
    · exfalso; omega
set_option maxRecDepth 100000 in
set_option maxHeartbeats 8000000 in
theorem allow_4_2_o {w : World} {q : Option Addr} {n c : Nat} {r : ResvOf} (hq : RegsAt w q r.regs) (hn : r.regs.length = n) (hl : n ≤ 1000) (who : Int) (e1 : (r.h == -1) = false) (e2 : holdsR r who = false) (ht : r.t = 4) (hk : ¬ 0 < keyR r.regs who) : Calls Try.prog 21 #[.agg (resvA q n c r), .int .i64 who, .int .i64 2] w fun e w' => e = .returned (.bool false) ∧ Below w.heap.size w w' := by
  have BX := Lib.hid (RvBox.alloc w q n c r)
  have BB := Lib.hid (box_below w (.cells (resvA q n c r) rvT))
  have HHO := Lib.hid (refHolds_any (c := c) (RowsAt.below hq BB.out) hn hl who)
  have c1 := BX.out.c1
  have HQ := Lib.hid hq
  have HN := Lib.hid hn
  have HL := Lib.hid hl
  clear hq hn hl
  rw [e2] at HHO
  have f1 : decide (0 < keyR r.regs who) = false := by simp [hk]
  go_enter Try.func21, Try.ntmps21
  go_wp2_with (first
    | (with_reducible show wpList _ _ _ (⟨_, Op.load rvT _, _, _, _, _⟩ :: _) _ _
       refine wpList_boxA_loadw rowRv _ rfl rfl w.heap.size (resvA q n c r) rfl rfl (show BoxA _ _ _ _ from BX.out) ?_)
    | (go_at_call 19
       refine HHO.out.mono ?_; rintro e w2 ⟨rfl, hb2⟩
       have B2 := Lib.hid (BB.out.trans (hb2.mono BB.out.size))
       have X2 := Lib.hid (show BoxA w2 w.heap.size rvT (resvA q n c r) from (hb2.block _ BX.out.lt).trans BX.out)
       have R2 := Lib.hid (RowsAt.below HQ.out B2.out)
       clear hb2 BB BX c1 HHO)
    | (with_reducible show wpList _ _ _ (⟨_, Op.alloc stT, _, _, _, _⟩ :: _) _ _
       refine wpList_boxA_new rowStr rfl rfl w2.heap.size rfl ?_
       intro w3 y3 l3 s3
       have Y3 := Lib.hid y3
       have L3 := Lib.hid l3
       have S3 := Lib.hid s3
       clear y3 l3 s3)
    | (with_reducible show wpList _ _ _ (⟨_, Op.store stT _ _, _, _, _, none⟩ :: _) _ _
       refine wpList_boxA_put rowStr rfl _ _ rfl rfl w2.heap.size readsA _ rfl str_one.1 rfl rfl rfl Y3.out ?_
       intro w4 y4 k4 s4
       have Y4 := Lib.hid y4
       have L4 := Lib.hid (L3.out.trans (show Below w2.heap.size w3 w4 from k4.below L3.out.size (fun k hk e => by have := S3.out; omega)))
       have X4 := Lib.hid (X2.out.keep (L4.out.block _ X2.out.lt))
       have B4 := Lib.hid (B2.out.trans (L4.out.mono B2.out.size))
       clear y4 k4 s4 Y3 L3 S3 X2 B2 L4
       generalize w2.heap.size = A1 at *)
    | (with_reducible show wpList _ _ _ (⟨_, Op.alloc stT, _, _, _, _⟩ :: _) _ _
       refine wpList_boxA_new rowStr rfl rfl w4.heap.size rfl ?_
       intro w5 y5 l5 s5
       have Z5 := Lib.hid y5
       have L5 := Lib.hid l5
       have S5 := Lib.hid s5
       clear y5 l5 s5)
    | (with_reducible show wpList _ _ _ (⟨_, Op.store stT _ _, _, _, _, none⟩ :: _) _ _
       refine wpList_boxA_put rowStr rfl _ _ rfl rfl w4.heap.size writesA _ rfl str_one.2 rfl rfl rfl Z5.out ?_
       intro w6 y6 k6 s6
       have Z6 := Lib.hid y6
       have L6 := Lib.hid (L5.out.trans (show Below w4.heap.size w5 w6 from k6.below L5.out.size (fun k hk e => by have := S5.out; omega)))
       have X6 := Lib.hid (X4.out.keep (L6.out.block _ X4.out.lt))
       have Y6 := Lib.hid (Y4.out.keep (L6.out.block _ Y4.out.lt))
       have B6 := Lib.hid (B4.out.trans (L6.out.mono B4.out.size))
       have R6 := Lib.hid (RowsAt.below HQ.out B6.out)
       have HKE := Lib.hid (refKey_any (r := r) (c := c) R6.out HN.out HL.out who)
       clear y6 k6 s6 Z5 L5 S5 X4 B4 Y4 L6 R2
       generalize w4.heap.size = A2 at *
       have c2 : w6.cell? ⟨w.heap.size, 2, none⟩ = some (.int .i64 (4)) := by rw [← ht]; exact X6.out.cell 2
       have d1 : w6.cell? ⟨A1, 4, none⟩ = some (.string ⟨#[114]⟩) := Y6.out.cell 4
       have d2 : w6.cell? ⟨A2, 4, none⟩ = some (.string ⟨#[114]⟩) := Z6.out.cell 4)
    | (with_reducible show wpList _ _ _ (⟨_, Op.load rvT _, _, _, _, _⟩ :: _) _ _
       refine wpList_boxA_loadw rowRv _ rfl rfl w.heap.size (resvA q n c r) rfl rfl X6.out ?_)
    | (go_at_call 16
       refine HKE.out.mono ?_; rintro e w7 ⟨rfl, hb7⟩
       have B7 := Lib.hid (B6.out.trans (hb7.mono B6.out.size))
       clear hb7 X6 Y6 Z6 B6 R6 HKE c2 d1 d2))
  go_loopw [11] (fun v11 wr => ∃ k : Nat, k ≤ 1 ∧ v11 = .int .i64 k ∧ Below w.heap.size w wr) (fun v11 _ => 2 - (intOf v11).toNat)
  case atStart => exact ⟨0, Nat.zero_le _, rfl, B7.out⟩
  case round =>
    obtain ⟨k, hk2, rfl, hb⟩ := hrel
    have HB := Lib.hid hb
    clear hb B7
    rcases k with _ | k
    · go_wp2
      go_roundw
      case rel => exact ⟨1, by omega, by go_num, HB.out⟩
      case measure => simp [intOf]
    · skip
      rcases k with _ | k
      · go_wp2
        go_ret
        exact ⟨rfl, HB.out⟩
      · exfalso; omega
set_option maxRecDepth 100000 in
set_option maxHeartbeats 8000000 in
theorem allow_4_2_r {w : World} {q : Option Addr} {n c : Nat} {r : ResvOf} (hq : RegsAt w q r.regs) (hn : r.regs.length = n) (hl : n ≤ 1000) (who : Int) (e1 : (r.h == -1) = false) (e2 : holdsR r who = false) (ht : r.t = 4) (hk : 0 < keyR r.regs who) : Calls Try.prog 21 #[.agg (resvA q n c r), .int .i64 who, .int .i64 2] w fun e w' => e = .returned (.bool true) ∧ Below w.heap.size w w' := by
  have BX := Lib.hid (RvBox.alloc w q n c r)
  have BB := Lib.hid (box_below w (.cells (resvA q n c r) rvT))
  have HHO := Lib.hid (refHolds_any (c := c) (RowsAt.below hq BB.out) hn hl who)
  have c1 := BX.out.c1
  have HQ := Lib.hid hq
  have HN := Lib.hid hn
  have HL := Lib.hid hl
  clear hq hn hl
  rw [e2] at HHO
  have f1 : decide (0 < keyR r.regs who) = true := by simp [hk]
  go_enter Try.func21, Try.ntmps21
  go_wp2_with (first
    | (with_reducible show wpList _ _ _ (⟨_, Op.load rvT _, _, _, _, _⟩ :: _) _ _
       refine wpList_boxA_loadw rowRv _ rfl rfl w.heap.size (resvA q n c r) rfl rfl (show BoxA _ _ _ _ from BX.out) ?_)
    | (go_at_call 19
       refine HHO.out.mono ?_; rintro e w2 ⟨rfl, hb2⟩
       have B2 := Lib.hid (BB.out.trans (hb2.mono BB.out.size))
       have X2 := Lib.hid (show BoxA w2 w.heap.size rvT (resvA q n c r) from (hb2.block _ BX.out.lt).trans BX.out)
       have R2 := Lib.hid (RowsAt.below HQ.out B2.out)
       clear hb2 BB BX c1 HHO)
    | (with_reducible show wpList _ _ _ (⟨_, Op.alloc stT, _, _, _, _⟩ :: _) _ _
       refine wpList_boxA_new rowStr rfl rfl w2.heap.size rfl ?_
       intro w3 y3 l3 s3
       have Y3 := Lib.hid y3
       have L3 := Lib.hid l3
       have S3 := Lib.hid s3
       clear y3 l3 s3)
    | (with_reducible show wpList _ _ _ (⟨_, Op.store stT _ _, _, _, _, none⟩ :: _) _ _
       refine wpList_boxA_put rowStr rfl _ _ rfl rfl w2.heap.size readsA _ rfl str_one.1 rfl rfl rfl Y3.out ?_
       intro w4 y4 k4 s4
       have Y4 := Lib.hid y4
       have L4 := Lib.hid (L3.out.trans (show Below w2.heap.size w3 w4 from k4.below L3.out.size (fun k hk e => by have := S3.out; omega)))
       have X4 := Lib.hid (X2.out.keep (L4.out.block _ X2.out.lt))
       have B4 := Lib.hid (B2.out.trans (L4.out.mono B2.out.size))
       clear y4 k4 s4 Y3 L3 S3 X2 B2 L4
       generalize w2.heap.size = A1 at *)
    | (with_reducible show wpList _ _ _ (⟨_, Op.alloc stT, _, _, _, _⟩ :: _) _ _
       refine wpList_boxA_new rowStr rfl rfl w4.heap.size rfl ?_
       intro w5 y5 l5 s5
       have Z5 := Lib.hid y5
       have L5 := Lib.hid l5
       have S5 := Lib.hid s5
       clear y5 l5 s5)
    | (with_reducible show wpList _ _ _ (⟨_, Op.store stT _ _, _, _, _, none⟩ :: _) _ _
       refine wpList_boxA_put rowStr rfl _ _ rfl rfl w4.heap.size writesA _ rfl str_one.2 rfl rfl rfl Z5.out ?_
       intro w6 y6 k6 s6
       have Z6 := Lib.hid y6
       have L6 := Lib.hid (L5.out.trans (show Below w4.heap.size w5 w6 from k6.below L5.out.size (fun k hk e => by have := S5.out; omega)))
       have X6 := Lib.hid (X4.out.keep (L6.out.block _ X4.out.lt))
       have Y6 := Lib.hid (Y4.out.keep (L6.out.block _ Y4.out.lt))
       have B6 := Lib.hid (B4.out.trans (L6.out.mono B4.out.size))
       have R6 := Lib.hid (RowsAt.below HQ.out B6.out)
       have HKE := Lib.hid (refKey_any (r := r) (c := c) R6.out HN.out HL.out who)
       clear y6 k6 s6 Z5 L5 S5 X4 B4 Y4 L6 R2
       generalize w4.heap.size = A2 at *
       have c2 : w6.cell? ⟨w.heap.size, 2, none⟩ = some (.int .i64 (4)) := by rw [← ht]; exact X6.out.cell 2
       have d1 : w6.cell? ⟨A1, 4, none⟩ = some (.string ⟨#[114]⟩) := Y6.out.cell 4
       have d2 : w6.cell? ⟨A2, 4, none⟩ = some (.string ⟨#[114]⟩) := Z6.out.cell 4)
    | (with_reducible show wpList _ _ _ (⟨_, Op.load rvT _, _, _, _, _⟩ :: _) _ _
       refine wpList_boxA_loadw rowRv _ rfl rfl w.heap.size (resvA q n c r) rfl rfl X6.out ?_)
    | (go_at_call 16
       refine HKE.out.mono ?_; rintro e w7 ⟨rfl, hb7⟩
       have B7 := Lib.hid (B6.out.trans (hb7.mono B6.out.size))
       clear hb7 X6 Y6 Z6 B6 R6 HKE c2 d1 d2))
  go_loopw [11] (fun v11 wr => ∃ k : Nat, k ≤ 0 ∧ v11 = .int .i64 k ∧ Below w.heap.size w wr) (fun v11 _ => 1 - (intOf v11).toNat)
  case atStart => exact ⟨0, Nat.zero_le _, rfl, B7.out⟩
  case round =>
    obtain ⟨k, hk2, rfl, hb⟩ := hrel
    have HB := Lib.hid hb
    clear hb B7
    rcases k with _ | k
    · go_wp2
      go_ret
      exact ⟨rfl, HB.out⟩
    · exfalso; omega
set_option maxRecDepth 100000 in
set_option maxHeartbeats 8000000 in
theorem allow_5_1_o {w : World} {q : Option Addr} {n c : Nat} {r : ResvOf} (hq : RegsAt w q r.regs) (hn : r.regs.length = n) (hl : n ≤ 1000) (who : Int) (e1 : (r.h == -1) = false) (e2 : holdsR r who = false) (ht : r.t = 5) (hk : ¬ 0 < keyR r.regs who) : Calls Try.prog 21 #[.agg (resvA q n c r), .int .i64 who, .int .i64 1] w fun e w' => e = .returned (.bool true) ∧ Below w.heap.size w w' := by
  have BX := Lib.hid (RvBox.alloc w q n c r)
  have BB := Lib.hid (box_below w (.cells (resvA q n c r) rvT))
  have HHO := Lib.hid (refHolds_any (c := c) (RowsAt.below hq BB.out) hn hl who)
  have c1 := BX.out.c1
  have HQ := Lib.hid hq
  have HN := Lib.hid hn
  have HL := Lib.hid hl
  clear hq hn hl
  rw [e2] at HHO
  have f1 : decide (0 < keyR r.regs who) = false := by simp [hk]
  go_enter Try.func21, Try.ntmps21
  go_wp2_with (first
    | (with_reducible show wpList _ _ _ (⟨_, Op.load rvT _, _, _, _, _⟩ :: _) _ _
       refine wpList_boxA_loadw rowRv _ rfl rfl w.heap.size (resvA q n c r) rfl rfl (show BoxA _ _ _ _ from BX.out) ?_)
    | (go_at_call 19
       refine HHO.out.mono ?_; rintro e w2 ⟨rfl, hb2⟩
       have B2 := Lib.hid (BB.out.trans (hb2.mono BB.out.size))
       have X2 := Lib.hid (show BoxA w2 w.heap.size rvT (resvA q n c r) from (hb2.block _ BX.out.lt).trans BX.out)
       have R2 := Lib.hid (RowsAt.below HQ.out B2.out)
       clear hb2 BB BX c1 HHO)
    | (with_reducible show wpList _ _ _ (⟨_, Op.alloc stT, _, _, _, _⟩ :: _) _ _
       refine wpList_boxA_new rowStr rfl rfl w2.heap.size rfl ?_
       intro w3 y3 l3 s3
       have Y3 := Lib.hid y3
       have L3 := Lib.hid l3
       have S3 := Lib.hid s3
       clear y3 l3 s3)
    | (with_reducible show wpList _ _ _ (⟨_, Op.store stT _ _, _, _, _, none⟩ :: _) _ _
       refine wpList_boxA_put rowStr rfl _ _ rfl rfl w2.heap.size readsA _ rfl str_one.1 rfl rfl rfl Y3.out ?_
       intro w4 y4 k4 s4
       have Y4 := Lib.hid y4
       have L4 := Lib.hid (L3.out.trans (show Below w2.heap.size w3 w4 from k4.below L3.out.size (fun k hk e => by have := S3.out; omega)))
       have X4 := Lib.hid (X2.out.keep (L4.out.block _ X2.out.lt))
       have B4 := Lib.hid (B2.out.trans (L4.out.mono B2.out.size))
       clear y4 k4 s4 Y3 L3 S3 X2 B2 L4
       generalize w2.heap.size = A1 at *)
    | (with_reducible show wpList _ _ _ (⟨_, Op.alloc stT, _, _, _, _⟩ :: _) _ _
       refine wpList_boxA_new rowStr rfl rfl w4.heap.size rfl ?_
       intro w5 y5 l5 s5
       have Z5 := Lib.hid y5
       have L5 := Lib.hid l5
       have S5 := Lib.hid s5
       clear y5 l5 s5)
    | (with_reducible show wpList _ _ _ (⟨_, Op.store stT _ _, _, _, _, none⟩ :: _) _ _
       refine wpList_boxA_put rowStr rfl _ _ rfl rfl w4.heap.size writesA _ rfl str_one.2 rfl rfl rfl Z5.out ?_
       intro w6 y6 k6 s6
       have Z6 := Lib.hid y6
       have L6 := Lib.hid (L5.out.trans (show Below w4.heap.size w5 w6 from k6.below L5.out.size (fun k hk e => by have := S5.out; omega)))
       have X6 := Lib.hid (X4.out.keep (L6.out.block _ X4.out.lt))
       have Y6 := Lib.hid (Y4.out.keep (L6.out.block _ Y4.out.lt))
       have B6 := Lib.hid (B4.out.trans (L6.out.mono B4.out.size))
       have R6 := Lib.hid (RowsAt.below HQ.out B6.out)
       have HKE := Lib.hid (refKey_any (r := r) (c := c) R6.out HN.out HL.out who)
       clear y6 k6 s6 Z5 L5 S5 X4 B4 Y4 L6 R2
       generalize w4.heap.size = A2 at *
       have c2 : w6.cell? ⟨w.heap.size, 2, none⟩ = some (.int .i64 (5)) := by rw [← ht]; exact X6.out.cell 2
       have d1 : w6.cell? ⟨A1, 5, none⟩ = some (.string ⟨#[114, 111]⟩) := Y6.out.cell 5
       have d2 : w6.cell? ⟨A2, 5, none⟩ = some (.string ⟨#[]⟩) := Z6.out.cell 5)
    | (with_reducible show wpList _ _ _ (⟨_, Op.load rvT _, _, _, _, _⟩ :: _) _ _
       refine wpList_boxA_loadw rowRv _ rfl rfl w.heap.size (resvA q n c r) rfl rfl X6.out ?_)
    | (go_at_call 16
       refine HKE.out.mono ?_; rintro e w7 ⟨rfl, hb7⟩
       have B7 := Lib.hid (B6.out.trans (hb7.mono B6.out.size))
       clear hb7 X6 Y6 Z6 B6 R6 HKE c2 d1 d2))
  go_loopw [11] (fun v11 wr => ∃ k : Nat, k ≤ 1 ∧ v11 = .int .i64 k ∧ Below w.heap.size w wr) (fun v11 _ => 2 - (intOf v11).toNat)
  case atStart => exact ⟨0, Nat.zero_le _, rfl, B7.out⟩
  case round =>
    obtain ⟨k, hk2, rfl, hb⟩ := hrel
    have HB := Lib.hid hb
    clear hb B7
    rcases k with _ | k
    · go_wp2
      go_roundw
      case rel => exact ⟨1, by omega, by go_num, HB.out⟩
      case measure => simp [intOf]
    · skip
      rcases k with _ | k
      · go_wp2
        go_ret
        exact ⟨rfl, HB.out⟩
      · exfalso; omega
set_option maxRecDepth 100000 in
set_option maxHeartbeats 8000000 in
theorem allow_5_1_r {w : World} {q : Option Addr} {n c : Nat} {r : ResvOf} (hq : RegsAt w q r.regs) (hn : r.regs.length = n) (hl : n ≤ 1000) (who : Int) (e1 : (r.h == -1) = false) (e2 : holdsR r who = false) (ht : r.t = 5) (hk : 0 < keyR r.regs who) : Calls Try.prog 21 #[.agg (resvA q n c r), .int .i64 who, .int .i64 1] w fun e w' => e = .returned (.bool true) ∧ Below w.heap.size w w' := by
  have BX := Lib.hid (RvBox.alloc w q n c r)
  have BB := Lib.hid (box_below w (.cells (resvA q n c r) rvT))
  have HHO := Lib.hid (refHolds_any (c := c) (RowsAt.below hq BB.out) hn hl who)
  have c1 := BX.out.c1
  have HQ := Lib.hid hq
  have HN := Lib.hid hn
  have HL := Lib.hid hl
  clear hq hn hl
  rw [e2] at HHO
  have f1 : decide (0 < keyR r.regs who) = true := by simp [hk]
  go_enter Try.func21, Try.ntmps21
  go_wp2_with (first
    | (with_reducible show wpList _ _ _ (⟨_, Op.load rvT _, _, _, _, _⟩ :: _) _ _
       refine wpList_boxA_loadw rowRv _ rfl rfl w.heap.size (resvA q n c r) rfl rfl (show BoxA _ _ _ _ from BX.out) ?_)
    | (go_at_call 19
       refine HHO.out.mono ?_; rintro e w2 ⟨rfl, hb2⟩
       have B2 := Lib.hid (BB.out.trans (hb2.mono BB.out.size))
       have X2 := Lib.hid (show BoxA w2 w.heap.size rvT (resvA q n c r) from (hb2.block _ BX.out.lt).trans BX.out)
       have R2 := Lib.hid (RowsAt.below HQ.out B2.out)
       clear hb2 BB BX c1 HHO)
    | (with_reducible show wpList _ _ _ (⟨_, Op.alloc stT, _, _, _, _⟩ :: _) _ _
       refine wpList_boxA_new rowStr rfl rfl w2.heap.size rfl ?_
       intro w3 y3 l3 s3
       have Y3 := Lib.hid y3
       have L3 := Lib.hid l3
       have S3 := Lib.hid s3
       clear y3 l3 s3)
    | (with_reducible show wpList _ _ _ (⟨_, Op.store stT _ _, _, _, _, none⟩ :: _) _ _
       refine wpList_boxA_put rowStr rfl _ _ rfl rfl w2.heap.size readsA _ rfl str_one.1 rfl rfl rfl Y3.out ?_
       intro w4 y4 k4 s4
       have Y4 := Lib.hid y4
       have L4 := Lib.hid (L3.out.trans (show Below w2.heap.size w3 w4 from k4.below L3.out.size (fun k hk e => by have := S3.out; omega)))
       have X4 := Lib.hid (X2.out.keep (L4.out.block _ X2.out.lt))
       have B4 := Lib.hid (B2.out.trans (L4.out.mono B2.out.size))
       clear y4 k4 s4 Y3 L3 S3 X2 B2 L4
       generalize w2.heap.size = A1 at *)
    | (with_reducible show wpList _ _ _ (⟨_, Op.alloc stT, _, _, _, _⟩ :: _) _ _
       refine wpList_boxA_new rowStr rfl rfl w4.heap.size rfl ?_
       intro w5 y5 l5 s5
       have Z5 := Lib.hid y5
       have L5 := Lib.hid l5
       have S5 := Lib.hid s5
       clear y5 l5 s5)
    | (with_reducible show wpList _ _ _ (⟨_, Op.store stT _ _, _, _, _, none⟩ :: _) _ _
       refine wpList_boxA_put rowStr rfl _ _ rfl rfl w4.heap.size writesA _ rfl str_one.2 rfl rfl rfl Z5.out ?_
       intro w6 y6 k6 s6
       have Z6 := Lib.hid y6
       have L6 := Lib.hid (L5.out.trans (show Below w4.heap.size w5 w6 from k6.below L5.out.size (fun k hk e => by have := S5.out; omega)))
       have X6 := Lib.hid (X4.out.keep (L6.out.block _ X4.out.lt))
       have Y6 := Lib.hid (Y4.out.keep (L6.out.block _ Y4.out.lt))
       have B6 := Lib.hid (B4.out.trans (L6.out.mono B4.out.size))
       have R6 := Lib.hid (RowsAt.below HQ.out B6.out)
       have HKE := Lib.hid (refKey_any (r := r) (c := c) R6.out HN.out HL.out who)
       clear y6 k6 s6 Z5 L5 S5 X4 B4 Y4 L6 R2
       generalize w4.heap.size = A2 at *
       have c2 : w6.cell? ⟨w.heap.size, 2, none⟩ = some (.int .i64 (5)) := by rw [← ht]; exact X6.out.cell 2
       have d1 : w6.cell? ⟨A1, 5, none⟩ = some (.string ⟨#[114, 111]⟩) := Y6.out.cell 5
       have d2 : w6.cell? ⟨A2, 5, none⟩ = some (.string ⟨#[]⟩) := Z6.out.cell 5)
    | (with_reducible show wpList _ _ _ (⟨_, Op.load rvT _, _, _, _, _⟩ :: _) _ _
       refine wpList_boxA_loadw rowRv _ rfl rfl w.heap.size (resvA q n c r) rfl rfl X6.out ?_)
    | (go_at_call 16
       refine HKE.out.mono ?_; rintro e w7 ⟨rfl, hb7⟩
       have B7 := Lib.hid (B6.out.trans (hb7.mono B6.out.size))
       clear hb7 X6 Y6 Z6 B6 R6 HKE c2 d1 d2))
  go_loopw [11] (fun v11 wr => ∃ k : Nat, k ≤ 0 ∧ v11 = .int .i64 k ∧ Below w.heap.size w wr) (fun v11 _ => 1 - (intOf v11).toNat)
  case atStart => exact ⟨0, Nat.zero_le _, rfl, B7.out⟩
  case round =>
    obtain ⟨k, hk2, rfl, hb⟩ := hrel
    have HB := Lib.hid hb
    clear hb B7
    rcases k with _ | k
    · go_wp2
      go_ret
      exact ⟨rfl, HB.out⟩
    · exfalso; omega
set_option maxRecDepth 100000 in
set_option maxHeartbeats 8000000 in
theorem allow_5_2_o {w : World} {q : Option Addr} {n c : Nat} {r : ResvOf} (hq : RegsAt w q r.regs) (hn : r.regs.length = n) (hl : n ≤ 1000) (who : Int) (e1 : (r.h == -1) = false) (e2 : holdsR r who = false) (ht : r.t = 5) (hk : ¬ 0 < keyR r.regs who) : Calls Try.prog 21 #[.agg (resvA q n c r), .int .i64 who, .int .i64 2] w fun e w' => e = .returned (.bool false) ∧ Below w.heap.size w w' := by
  have BX := Lib.hid (RvBox.alloc w q n c r)
  have BB := Lib.hid (box_below w (.cells (resvA q n c r) rvT))
  have HHO := Lib.hid (refHolds_any (c := c) (RowsAt.below hq BB.out) hn hl who)
  have c1 := BX.out.c1
  have HQ := Lib.hid hq
  have HN := Lib.hid hn
  have HL := Lib.hid hl
  clear hq hn hl
  rw [e2] at HHO
  have f1 : decide (0 < keyR r.regs who) = false := by simp [hk]
  go_enter Try.func21, Try.ntmps21
  go_wp2_with (first
    | (with_reducible show wpList _ _ _ (⟨_, Op.load rvT _, _, _, _, _⟩ :: _) _ _
       refine wpList_boxA_loadw rowRv _ rfl rfl w.heap.size (resvA q n c r) rfl rfl (show BoxA _ _ _ _ from BX.out) ?_)
    | (go_at_call 19
       refine HHO.out.mono ?_; rintro e w2 ⟨rfl, hb2⟩
       have B2 := Lib.hid (BB.out.trans (hb2.mono BB.out.size))
       have X2 := Lib.hid (show BoxA w2 w.heap.size rvT (resvA q n c r) from (hb2.block _ BX.out.lt).trans BX.out)
       have R2 := Lib.hid (RowsAt.below HQ.out B2.out)
       clear hb2 BB BX c1 HHO)
    | (with_reducible show wpList _ _ _ (⟨_, Op.alloc stT, _, _, _, _⟩ :: _) _ _
       refine wpList_boxA_new rowStr rfl rfl w2.heap.size rfl ?_
       intro w3 y3 l3 s3
       have Y3 := Lib.hid y3
       have L3 := Lib.hid l3
       have S3 := Lib.hid s3
       clear y3 l3 s3)
    | (with_reducible show wpList _ _ _ (⟨_, Op.store stT _ _, _, _, _, none⟩ :: _) _ _
       refine wpList_boxA_put rowStr rfl _ _ rfl rfl w2.heap.size readsA _ rfl str_one.1 rfl rfl rfl Y3.out ?_
       intro w4 y4 k4 s4
       have Y4 := Lib.hid y4
       have L4 := Lib.hid (L3.out.trans (show Below w2.heap.size w3 w4 from k4.below L3.out.size (fun k hk e => by have := S3.out; omega)))
       have X4 := Lib.hid (X2.out.keep (L4.out.block _ X2.out.lt))
       have B4 := Lib.hid (B2.out.trans (L4.out.mono B2.out.size))
       clear y4 k4 s4 Y3 L3 S3 X2 B2 L4
       generalize w2.heap.size = A1 at *)
    | (with_reducible show wpList _ _ _ (⟨_, Op.alloc stT, _, _, _, _⟩ :: _) _ _
       refine wpList_boxA_new rowStr rfl rfl w4.heap.size rfl ?_
       intro w5 y5 l5 s5
       have Z5 := Lib.hid y5
       have L5 := Lib.hid l5
       have S5 := Lib.hid s5
       clear y5 l5 s5)
    | (with_reducible show wpList _ _ _ (⟨_, Op.store stT _ _, _, _, _, none⟩ :: _) _ _
       refine wpList_boxA_put rowStr rfl _ _ rfl rfl w4.heap.size writesA _ rfl str_one.2 rfl rfl rfl Z5.out ?_
       intro w6 y6 k6 s6
       have Z6 := Lib.hid y6
       have L6 := Lib.hid (L5.out.trans (show Below w4.heap.size w5 w6 from k6.below L5.out.size (fun k hk e => by have := S5.out; omega)))
       have X6 := Lib.hid (X4.out.keep (L6.out.block _ X4.out.lt))
       have Y6 := Lib.hid (Y4.out.keep (L6.out.block _ Y4.out.lt))
       have B6 := Lib.hid (B4.out.trans (L6.out.mono B4.out.size))
       have R6 := Lib.hid (RowsAt.below HQ.out B6.out)
       have HKE := Lib.hid (refKey_any (r := r) (c := c) R6.out HN.out HL.out who)
       clear y6 k6 s6 Z5 L5 S5 X4 B4 Y4 L6 R2
       generalize w4.heap.size = A2 at *
       have c2 : w6.cell? ⟨w.heap.size, 2, none⟩ = some (.int .i64 (5)) := by rw [← ht]; exact X6.out.cell 2
       have d1 : w6.cell? ⟨A1, 5, none⟩ = some (.string ⟨#[114, 111]⟩) := Y6.out.cell 5
       have d2 : w6.cell? ⟨A2, 5, none⟩ = some (.string ⟨#[]⟩) := Z6.out.cell 5)
    | (with_reducible show wpList _ _ _ (⟨_, Op.load rvT _, _, _, _, _⟩ :: _) _ _
       refine wpList_boxA_loadw rowRv _ rfl rfl w.heap.size (resvA q n c r) rfl rfl X6.out ?_)
    | (go_at_call 16
       refine HKE.out.mono ?_; rintro e w7 ⟨rfl, hb7⟩
       have B7 := Lib.hid (B6.out.trans (hb7.mono B6.out.size))
       clear hb7 X6 Y6 Z6 B6 R6 HKE c2 d1 d2))
  go_loopw [11] (fun v11 wr => ∃ k : Nat, k ≤ 0 ∧ v11 = .int .i64 k ∧ Below w.heap.size w wr) (fun v11 _ => 1 - (intOf v11).toNat)
  case atStart => exact ⟨0, Nat.zero_le _, rfl, B7.out⟩
  case round =>
    obtain ⟨k, hk2, rfl, hb⟩ := hrel
    have HB := Lib.hid hb
    clear hb B7
    rcases k with _ | k
    · go_wp2
      go_ret
      exact ⟨rfl, HB.out⟩
    · exfalso; omega
set_option maxRecDepth 100000 in
set_option maxHeartbeats 8000000 in
theorem allow_5_2_r {w : World} {q : Option Addr} {n c : Nat} {r : ResvOf} (hq : RegsAt w q r.regs) (hn : r.regs.length = n) (hl : n ≤ 1000) (who : Int) (e1 : (r.h == -1) = false) (e2 : holdsR r who = false) (ht : r.t = 5) (hk : 0 < keyR r.regs who) : Calls Try.prog 21 #[.agg (resvA q n c r), .int .i64 who, .int .i64 2] w fun e w' => e = .returned (.bool false) ∧ Below w.heap.size w w' := by
  have BX := Lib.hid (RvBox.alloc w q n c r)
  have BB := Lib.hid (box_below w (.cells (resvA q n c r) rvT))
  have HHO := Lib.hid (refHolds_any (c := c) (RowsAt.below hq BB.out) hn hl who)
  have c1 := BX.out.c1
  have HQ := Lib.hid hq
  have HN := Lib.hid hn
  have HL := Lib.hid hl
  clear hq hn hl
  rw [e2] at HHO
  have f1 : decide (0 < keyR r.regs who) = true := by simp [hk]
  go_enter Try.func21, Try.ntmps21
  go_wp2_with (first
    | (with_reducible show wpList _ _ _ (⟨_, Op.load rvT _, _, _, _, _⟩ :: _) _ _
       refine wpList_boxA_loadw rowRv _ rfl rfl w.heap.size (resvA q n c r) rfl rfl (show BoxA _ _ _ _ from BX.out) ?_)
    | (go_at_call 19
       refine HHO.out.mono ?_; rintro e w2 ⟨rfl, hb2⟩
       have B2 := Lib.hid (BB.out.trans (hb2.mono BB.out.size))
       have X2 := Lib.hid (show BoxA w2 w.heap.size rvT (resvA q n c r) from (hb2.block _ BX.out.lt).trans BX.out)
       have R2 := Lib.hid (RowsAt.below HQ.out B2.out)
       clear hb2 BB BX c1 HHO)
    | (with_reducible show wpList _ _ _ (⟨_, Op.alloc stT, _, _, _, _⟩ :: _) _ _
       refine wpList_boxA_new rowStr rfl rfl w2.heap.size rfl ?_
       intro w3 y3 l3 s3
       have Y3 := Lib.hid y3
       have L3 := Lib.hid l3
       have S3 := Lib.hid s3
       clear y3 l3 s3)
    | (with_reducible show wpList _ _ _ (⟨_, Op.store stT _ _, _, _, _, none⟩ :: _) _ _
       refine wpList_boxA_put rowStr rfl _ _ rfl rfl w2.heap.size readsA _ rfl str_one.1 rfl rfl rfl Y3.out ?_
       intro w4 y4 k4 s4
       have Y4 := Lib.hid y4
       have L4 := Lib.hid (L3.out.trans (show Below w2.heap.size w3 w4 from k4.below L3.out.size (fun k hk e => by have := S3.out; omega)))
       have X4 := Lib.hid (X2.out.keep (L4.out.block _ X2.out.lt))
       have B4 := Lib.hid (B2.out.trans (L4.out.mono B2.out.size))
       clear y4 k4 s4 Y3 L3 S3 X2 B2 L4
       generalize w2.heap.size = A1 at *)
    | (with_reducible show wpList _ _ _ (⟨_, Op.alloc stT, _, _, _, _⟩ :: _) _ _
       refine wpList_boxA_new rowStr rfl rfl w4.heap.size rfl ?_
       intro w5 y5 l5 s5
       have Z5 := Lib.hid y5
       have L5 := Lib.hid l5
       have S5 := Lib.hid s5
       clear y5 l5 s5)
    | (with_reducible show wpList _ _ _ (⟨_, Op.store stT _ _, _, _, _, none⟩ :: _) _ _
       refine wpList_boxA_put rowStr rfl _ _ rfl rfl w4.heap.size writesA _ rfl str_one.2 rfl rfl rfl Z5.out ?_
       intro w6 y6 k6 s6
       have Z6 := Lib.hid y6
       have L6 := Lib.hid (L5.out.trans (show Below w4.heap.size w5 w6 from k6.below L5.out.size (fun k hk e => by have := S5.out; omega)))
       have X6 := Lib.hid (X4.out.keep (L6.out.block _ X4.out.lt))
       have Y6 := Lib.hid (Y4.out.keep (L6.out.block _ Y4.out.lt))
       have B6 := Lib.hid (B4.out.trans (L6.out.mono B4.out.size))
       have R6 := Lib.hid (RowsAt.below HQ.out B6.out)
       have HKE := Lib.hid (refKey_any (r := r) (c := c) R6.out HN.out HL.out who)
       clear y6 k6 s6 Z5 L5 S5 X4 B4 Y4 L6 R2
       generalize w4.heap.size = A2 at *
       have c2 : w6.cell? ⟨w.heap.size, 2, none⟩ = some (.int .i64 (5)) := by rw [← ht]; exact X6.out.cell 2
       have d1 : w6.cell? ⟨A1, 5, none⟩ = some (.string ⟨#[114, 111]⟩) := Y6.out.cell 5
       have d2 : w6.cell? ⟨A2, 5, none⟩ = some (.string ⟨#[]⟩) := Z6.out.cell 5)
    | (with_reducible show wpList _ _ _ (⟨_, Op.load rvT _, _, _, _, _⟩ :: _) _ _
       refine wpList_boxA_loadw rowRv _ rfl rfl w.heap.size (resvA q n c r) rfl rfl X6.out ?_)
    | (go_at_call 16
       refine HKE.out.mono ?_; rintro e w7 ⟨rfl, hb7⟩
       have B7 := Lib.hid (B6.out.trans (hb7.mono B6.out.size))
       clear hb7 X6 Y6 Z6 B6 R6 HKE c2 d1 d2))
  go_loopw [11] (fun v11 wr => ∃ k : Nat, k ≤ 0 ∧ v11 = .int .i64 k ∧ Below w.heap.size w wr) (fun v11 _ => 1 - (intOf v11).toNat)
  case atStart => exact ⟨0, Nat.zero_le _, rfl, B7.out⟩
  case round =>
    obtain ⟨k, hk2, rfl, hb⟩ := hrel
    have HB := Lib.hid hb
    clear hb B7
    rcases k with _ | k
    · go_wp2
      go_ret
      exact ⟨rfl, HB.out⟩
    · exfalso; omega
set_option maxRecDepth 100000 in
set_option maxHeartbeats 8000000 in
theorem allow_6_1_o {w : World} {q : Option Addr} {n c : Nat} {r : ResvOf} (hq : RegsAt w q r.regs) (hn : r.regs.length = n) (hl : n ≤ 1000) (who : Int) (e1 : (r.h == -1) = false) (e2 : holdsR r who = false) (ht : r.t = 6) (hk : ¬ 0 < keyR r.regs who) : Calls Try.prog 21 #[.agg (resvA q n c r), .int .i64 who, .int .i64 1] w fun e w' => e = .returned (.bool false) ∧ Below w.heap.size w w' := by
  have BX := Lib.hid (RvBox.alloc w q n c r)
  have BB := Lib.hid (box_below w (.cells (resvA q n c r) rvT))
  have HHO := Lib.hid (refHolds_any (c := c) (RowsAt.below hq BB.out) hn hl who)
  have c1 := BX.out.c1
  have HQ := Lib.hid hq
  have HN := Lib.hid hn
  have HL := Lib.hid hl
  clear hq hn hl
  rw [e2] at HHO
  have f1 : decide (0 < keyR r.regs who) = false := by simp [hk]
  go_enter Try.func21, Try.ntmps21
  go_wp2_with (first
    | (with_reducible show wpList _ _ _ (⟨_, Op.load rvT _, _, _, _, _⟩ :: _) _ _
       refine wpList_boxA_loadw rowRv _ rfl rfl w.heap.size (resvA q n c r) rfl rfl (show BoxA _ _ _ _ from BX.out) ?_)
    | (go_at_call 19
       refine HHO.out.mono ?_; rintro e w2 ⟨rfl, hb2⟩
       have B2 := Lib.hid (BB.out.trans (hb2.mono BB.out.size))
       have X2 := Lib.hid (show BoxA w2 w.heap.size rvT (resvA q n c r) from (hb2.block _ BX.out.lt).trans BX.out)
       have R2 := Lib.hid (RowsAt.below HQ.out B2.out)
       clear hb2 BB BX c1 HHO)
    | (with_reducible show wpList _ _ _ (⟨_, Op.alloc stT, _, _, _, _⟩ :: _) _ _
       refine wpList_boxA_new rowStr rfl rfl w2.heap.size rfl ?_
       intro w3 y3 l3 s3
       have Y3 := Lib.hid y3
       have L3 := Lib.hid l3
       have S3 := Lib.hid s3
       clear y3 l3 s3)
    | (with_reducible show wpList _ _ _ (⟨_, Op.store stT _ _, _, _, _, none⟩ :: _) _ _
       refine wpList_boxA_put rowStr rfl _ _ rfl rfl w2.heap.size readsA _ rfl str_one.1 rfl rfl rfl Y3.out ?_
       intro w4 y4 k4 s4
       have Y4 := Lib.hid y4
       have L4 := Lib.hid (L3.out.trans (show Below w2.heap.size w3 w4 from k4.below L3.out.size (fun k hk e => by have := S3.out; omega)))
       have X4 := Lib.hid (X2.out.keep (L4.out.block _ X2.out.lt))
       have B4 := Lib.hid (B2.out.trans (L4.out.mono B2.out.size))
       clear y4 k4 s4 Y3 L3 S3 X2 B2 L4
       generalize w2.heap.size = A1 at *)
    | (with_reducible show wpList _ _ _ (⟨_, Op.alloc stT, _, _, _, _⟩ :: _) _ _
       refine wpList_boxA_new rowStr rfl rfl w4.heap.size rfl ?_
       intro w5 y5 l5 s5
       have Z5 := Lib.hid y5
       have L5 := Lib.hid l5
       have S5 := Lib.hid s5
       clear y5 l5 s5)
    | (with_reducible show wpList _ _ _ (⟨_, Op.store stT _ _, _, _, _, none⟩ :: _) _ _
       refine wpList_boxA_put rowStr rfl _ _ rfl rfl w4.heap.size writesA _ rfl str_one.2 rfl rfl rfl Z5.out ?_
       intro w6 y6 k6 s6
       have Z6 := Lib.hid y6
       have L6 := Lib.hid (L5.out.trans (show Below w4.heap.size w5 w6 from k6.below L5.out.size (fun k hk e => by have := S5.out; omega)))
       have X6 := Lib.hid (X4.out.keep (L6.out.block _ X4.out.lt))
       have Y6 := Lib.hid (Y4.out.keep (L6.out.block _ Y4.out.lt))
       have B6 := Lib.hid (B4.out.trans (L6.out.mono B4.out.size))
       have R6 := Lib.hid (RowsAt.below HQ.out B6.out)
       have HKE := Lib.hid (refKey_any (r := r) (c := c) R6.out HN.out HL.out who)
       clear y6 k6 s6 Z5 L5 S5 X4 B4 Y4 L6 R2
       generalize w4.heap.size = A2 at *
       have c2 : w6.cell? ⟨w.heap.size, 2, none⟩ = some (.int .i64 (6)) := by rw [← ht]; exact X6.out.cell 2
       have d1 : w6.cell? ⟨A1, 6, none⟩ = some (.string ⟨#[]⟩) := Y6.out.cell 6
       have d2 : w6.cell? ⟨A2, 6, none⟩ = some (.string ⟨#[]⟩) := Z6.out.cell 6)
    | (with_reducible show wpList _ _ _ (⟨_, Op.load rvT _, _, _, _, _⟩ :: _) _ _
       refine wpList_boxA_loadw rowRv _ rfl rfl w.heap.size (resvA q n c r) rfl rfl X6.out ?_)
    | (go_at_call 16
       refine HKE.out.mono ?_; rintro e w7 ⟨rfl, hb7⟩
       have B7 := Lib.hid (B6.out.trans (hb7.mono B6.out.size))
       clear hb7 X6 Y6 Z6 B6 R6 HKE c2 d1 d2))
  go_loopw [11] (fun v11 wr => ∃ k : Nat, k ≤ 0 ∧ v11 = .int .i64 k ∧ Below w.heap.size w wr) (fun v11 _ => 1 - (intOf v11).toNat)
  case atStart => exact ⟨0, Nat.zero_le _, rfl, B7.out⟩
  case round =>
    obtain ⟨k, hk2, rfl, hb⟩ := hrel
    have HB := Lib.hid hb
    clear hb B7
    rcases k with _ | k
    · go_wp2
      go_ret
      exact ⟨rfl, HB.out⟩
    · exfalso; omega
set_option maxRecDepth 100000 in
set_option maxHeartbeats 8000000 in
theorem allow_6_1_r {w : World} {q : Option Addr} {n c : Nat} {r : ResvOf} (hq : RegsAt w q r.regs) (hn : r.regs.length = n) (hl : n ≤ 1000) (who : Int) (e1 : (r.h == -1) = false) (e2 : holdsR r who = false) (ht : r.t = 6) (hk : 0 < keyR r.regs who) : Calls Try.prog 21 #[.agg (resvA q n c r), .int .i64 who, .int .i64 1] w fun e w' => e = .returned (.bool false) ∧ Below w.heap.size w w' := by
  have BX := Lib.hid (RvBox.alloc w q n c r)
  have BB := Lib.hid (box_below w (.cells (resvA q n c r) rvT))
  have HHO := Lib.hid (refHolds_any (c := c) (RowsAt.below hq BB.out) hn hl who)
  have c1 := BX.out.c1
  have HQ := Lib.hid hq
  have HN := Lib.hid hn
  have HL := Lib.hid hl
  clear hq hn hl
  rw [e2] at HHO
  have f1 : decide (0 < keyR r.regs who) = true := by simp [hk]
  go_enter Try.func21, Try.ntmps21
  go_wp2_with (first
    | (with_reducible show wpList _ _ _ (⟨_, Op.load rvT _, _, _, _, _⟩ :: _) _ _
       refine wpList_boxA_loadw rowRv _ rfl rfl w.heap.size (resvA q n c r) rfl rfl (show BoxA _ _ _ _ from BX.out) ?_)
    | (go_at_call 19
       refine HHO.out.mono ?_; rintro e w2 ⟨rfl, hb2⟩
       have B2 := Lib.hid (BB.out.trans (hb2.mono BB.out.size))
       have X2 := Lib.hid (show BoxA w2 w.heap.size rvT (resvA q n c r) from (hb2.block _ BX.out.lt).trans BX.out)
       have R2 := Lib.hid (RowsAt.below HQ.out B2.out)
       clear hb2 BB BX c1 HHO)
    | (with_reducible show wpList _ _ _ (⟨_, Op.alloc stT, _, _, _, _⟩ :: _) _ _
       refine wpList_boxA_new rowStr rfl rfl w2.heap.size rfl ?_
       intro w3 y3 l3 s3
       have Y3 := Lib.hid y3
       have L3 := Lib.hid l3
       have S3 := Lib.hid s3
       clear y3 l3 s3)
    | (with_reducible show wpList _ _ _ (⟨_, Op.store stT _ _, _, _, _, none⟩ :: _) _ _
       refine wpList_boxA_put rowStr rfl _ _ rfl rfl w2.heap.size readsA _ rfl str_one.1 rfl rfl rfl Y3.out ?_
       intro w4 y4 k4 s4
       have Y4 := Lib.hid y4
       have L4 := Lib.hid (L3.out.trans (show Below w2.heap.size w3 w4 from k4.below L3.out.size (fun k hk e => by have := S3.out; omega)))
       have X4 := Lib.hid (X2.out.keep (L4.out.block _ X2.out.lt))
       have B4 := Lib.hid (B2.out.trans (L4.out.mono B2.out.size))
       clear y4 k4 s4 Y3 L3 S3 X2 B2 L4
       generalize w2.heap.size = A1 at *)
    | (with_reducible show wpList _ _ _ (⟨_, Op.alloc stT, _, _, _, _⟩ :: _) _ _
       refine wpList_boxA_new rowStr rfl rfl w4.heap.size rfl ?_
       intro w5 y5 l5 s5
       have Z5 := Lib.hid y5
       have L5 := Lib.hid l5
       have S5 := Lib.hid s5
       clear y5 l5 s5)
    | (with_reducible show wpList _ _ _ (⟨_, Op.store stT _ _, _, _, _, none⟩ :: _) _ _
       refine wpList_boxA_put rowStr rfl _ _ rfl rfl w4.heap.size writesA _ rfl str_one.2 rfl rfl rfl Z5.out ?_
       intro w6 y6 k6 s6
       have Z6 := Lib.hid y6
       have L6 := Lib.hid (L5.out.trans (show Below w4.heap.size w5 w6 from k6.below L5.out.size (fun k hk e => by have := S5.out; omega)))
       have X6 := Lib.hid (X4.out.keep (L6.out.block _ X4.out.lt))
       have Y6 := Lib.hid (Y4.out.keep (L6.out.block _ Y4.out.lt))
       have B6 := Lib.hid (B4.out.trans (L6.out.mono B4.out.size))
       have R6 := Lib.hid (RowsAt.below HQ.out B6.out)
       have HKE := Lib.hid (refKey_any (r := r) (c := c) R6.out HN.out HL.out who)
       clear y6 k6 s6 Z5 L5 S5 X4 B4 Y4 L6 R2
       generalize w4.heap.size = A2 at *
       have c2 : w6.cell? ⟨w.heap.size, 2, none⟩ = some (.int .i64 (6)) := by rw [← ht]; exact X6.out.cell 2
       have d1 : w6.cell? ⟨A1, 6, none⟩ = some (.string ⟨#[]⟩) := Y6.out.cell 6
       have d2 : w6.cell? ⟨A2, 6, none⟩ = some (.string ⟨#[]⟩) := Z6.out.cell 6)
    | (with_reducible show wpList _ _ _ (⟨_, Op.load rvT _, _, _, _, _⟩ :: _) _ _
       refine wpList_boxA_loadw rowRv _ rfl rfl w.heap.size (resvA q n c r) rfl rfl X6.out ?_)
    | (go_at_call 16
       refine HKE.out.mono ?_; rintro e w7 ⟨rfl, hb7⟩
       have B7 := Lib.hid (B6.out.trans (hb7.mono B6.out.size))
       clear hb7 X6 Y6 Z6 B6 R6 HKE c2 d1 d2))
  go_loopw [11] (fun v11 wr => ∃ k : Nat, k ≤ 0 ∧ v11 = .int .i64 k ∧ Below w.heap.size w wr) (fun v11 _ => 1 - (intOf v11).toNat)
  case atStart => exact ⟨0, Nat.zero_le _, rfl, B7.out⟩
  case round =>
    obtain ⟨k, hk2, rfl, hb⟩ := hrel
    have HB := Lib.hid hb
    clear hb B7
    rcases k with _ | k
    · go_wp2
      go_ret
      exact ⟨rfl, HB.out⟩
    · exfalso; omega
set_option maxRecDepth 100000 in
set_option maxHeartbeats 8000000 in
theorem allow_6_2_o {w : World} {q : Option Addr} {n c : Nat} {r : ResvOf} (hq : RegsAt w q r.regs) (hn : r.regs.length = n) (hl : n ≤ 1000) (who : Int) (e1 : (r.h == -1) = false) (e2 : holdsR r who = false) (ht : r.t = 6) (hk : ¬ 0 < keyR r.regs who) : Calls Try.prog 21 #[.agg (resvA q n c r), .int .i64 who, .int .i64 2] w fun e w' => e = .returned (.bool false) ∧ Below w.heap.size w w' := by
  have BX := Lib.hid (RvBox.alloc w q n c r)
  have BB := Lib.hid (box_below w (.cells (resvA q n c r) rvT))
  have HHO := Lib.hid (refHolds_any (c := c) (RowsAt.below hq BB.out) hn hl who)
  have c1 := BX.out.c1
  have HQ := Lib.hid hq
  have HN := Lib.hid hn
  have HL := Lib.hid hl
  clear hq hn hl
  rw [e2] at HHO
  have f1 : decide (0 < keyR r.regs who) = false := by simp [hk]
  go_enter Try.func21, Try.ntmps21
  go_wp2_with (first
    | (with_reducible show wpList _ _ _ (⟨_, Op.load rvT _, _, _, _, _⟩ :: _) _ _
       refine wpList_boxA_loadw rowRv _ rfl rfl w.heap.size (resvA q n c r) rfl rfl (show BoxA _ _ _ _ from BX.out) ?_)
    | (go_at_call 19
       refine HHO.out.mono ?_; rintro e w2 ⟨rfl, hb2⟩
       have B2 := Lib.hid (BB.out.trans (hb2.mono BB.out.size))
       have X2 := Lib.hid (show BoxA w2 w.heap.size rvT (resvA q n c r) from (hb2.block _ BX.out.lt).trans BX.out)
       have R2 := Lib.hid (RowsAt.below HQ.out B2.out)
       clear hb2 BB BX c1 HHO)
    | (with_reducible show wpList _ _ _ (⟨_, Op.alloc stT, _, _, _, _⟩ :: _) _ _
       refine wpList_boxA_new rowStr rfl rfl w2.heap.size rfl ?_
       intro w3 y3 l3 s3
       have Y3 := Lib.hid y3
       have L3 := Lib.hid l3
       have S3 := Lib.hid s3
       clear y3 l3 s3)
    | (with_reducible show wpList _ _ _ (⟨_, Op.store stT _ _, _, _, _, none⟩ :: _) _ _
       refine wpList_boxA_put rowStr rfl _ _ rfl rfl w2.heap.size readsA _ rfl str_one.1 rfl rfl rfl Y3.out ?_
       intro w4 y4 k4 s4
       have Y4 := Lib.hid y4
       have L4 := Lib.hid (L3.out.trans (show Below w2.heap.size w3 w4 from k4.below L3.out.size (fun k hk e => by have := S3.out; omega)))
       have X4 := Lib.hid (X2.out.keep (L4.out.block _ X2.out.lt))
       have B4 := Lib.hid (B2.out.trans (L4.out.mono B2.out.size))
       clear y4 k4 s4 Y3 L3 S3 X2 B2 L4
       generalize w2.heap.size = A1 at *)
    | (with_reducible show wpList _ _ _ (⟨_, Op.alloc stT, _, _, _, _⟩ :: _) _ _
       refine wpList_boxA_new rowStr rfl rfl w4.heap.size rfl ?_
       intro w5 y5 l5 s5
       have Z5 := Lib.hid y5
       have L5 := Lib.hid l5
       have S5 := Lib.hid s5
       clear y5 l5 s5)
    | (with_reducible show wpList _ _ _ (⟨_, Op.store stT _ _, _, _, _, none⟩ :: _) _ _
       refine wpList_boxA_put rowStr rfl _ _ rfl rfl w4.heap.size writesA _ rfl str_one.2 rfl rfl rfl Z5.out ?_
       intro w6 y6 k6 s6
       have Z6 := Lib.hid y6
       have L6 := Lib.hid (L5.out.trans (show Below w4.heap.size w5 w6 from k6.below L5.out.size (fun k hk e => by have := S5.out; omega)))
       have X6 := Lib.hid (X4.out.keep (L6.out.block _ X4.out.lt))
       have Y6 := Lib.hid (Y4.out.keep (L6.out.block _ Y4.out.lt))
       have B6 := Lib.hid (B4.out.trans (L6.out.mono B4.out.size))
       have R6 := Lib.hid (RowsAt.below HQ.out B6.out)
       have HKE := Lib.hid (refKey_any (r := r) (c := c) R6.out HN.out HL.out who)
       clear y6 k6 s6 Z5 L5 S5 X4 B4 Y4 L6 R2
       generalize w4.heap.size = A2 at *
       have c2 : w6.cell? ⟨w.heap.size, 2, none⟩ = some (.int .i64 (6)) := by rw [← ht]; exact X6.out.cell 2
       have d1 : w6.cell? ⟨A1, 6, none⟩ = some (.string ⟨#[]⟩) := Y6.out.cell 6
       have d2 : w6.cell? ⟨A2, 6, none⟩ = some (.string ⟨#[]⟩) := Z6.out.cell 6)
    | (with_reducible show wpList _ _ _ (⟨_, Op.load rvT _, _, _, _, _⟩ :: _) _ _
       refine wpList_boxA_loadw rowRv _ rfl rfl w.heap.size (resvA q n c r) rfl rfl X6.out ?_)
    | (go_at_call 16
       refine HKE.out.mono ?_; rintro e w7 ⟨rfl, hb7⟩
       have B7 := Lib.hid (B6.out.trans (hb7.mono B6.out.size))
       clear hb7 X6 Y6 Z6 B6 R6 HKE c2 d1 d2))
  go_loopw [11] (fun v11 wr => ∃ k : Nat, k ≤ 0 ∧ v11 = .int .i64 k ∧ Below w.heap.size w wr) (fun v11 _ => 1 - (intOf v11).toNat)
  case atStart => exact ⟨0, Nat.zero_le _, rfl, B7.out⟩
  case round =>
    obtain ⟨k, hk2, rfl, hb⟩ := hrel
    have HB := Lib.hid hb
    clear hb B7
    rcases k with _ | k
    · go_wp2
      go_ret
      exact ⟨rfl, HB.out⟩
    · exfalso; omega
set_option maxRecDepth 100000 in
set_option maxHeartbeats 8000000 in
theorem allow_6_2_r {w : World} {q : Option Addr} {n c : Nat} {r : ResvOf} (hq : RegsAt w q r.regs) (hn : r.regs.length = n) (hl : n ≤ 1000) (who : Int) (e1 : (r.h == -1) = false) (e2 : holdsR r who = false) (ht : r.t = 6) (hk : 0 < keyR r.regs who) : Calls Try.prog 21 #[.agg (resvA q n c r), .int .i64 who, .int .i64 2] w fun e w' => e = .returned (.bool false) ∧ Below w.heap.size w w' := by
  have BX := Lib.hid (RvBox.alloc w q n c r)
  have BB := Lib.hid (box_below w (.cells (resvA q n c r) rvT))
  have HHO := Lib.hid (refHolds_any (c := c) (RowsAt.below hq BB.out) hn hl who)
  have c1 := BX.out.c1
  have HQ := Lib.hid hq
  have HN := Lib.hid hn
  have HL := Lib.hid hl
  clear hq hn hl
  rw [e2] at HHO
  have f1 : decide (0 < keyR r.regs who) = true := by simp [hk]
  go_enter Try.func21, Try.ntmps21
  go_wp2_with (first
    | (with_reducible show wpList _ _ _ (⟨_, Op.load rvT _, _, _, _, _⟩ :: _) _ _
       refine wpList_boxA_loadw rowRv _ rfl rfl w.heap.size (resvA q n c r) rfl rfl (show BoxA _ _ _ _ from BX.out) ?_)
    | (go_at_call 19
       refine HHO.out.mono ?_; rintro e w2 ⟨rfl, hb2⟩
       have B2 := Lib.hid (BB.out.trans (hb2.mono BB.out.size))
       have X2 := Lib.hid (show BoxA w2 w.heap.size rvT (resvA q n c r) from (hb2.block _ BX.out.lt).trans BX.out)
       have R2 := Lib.hid (RowsAt.below HQ.out B2.out)
       clear hb2 BB BX c1 HHO)
    | (with_reducible show wpList _ _ _ (⟨_, Op.alloc stT, _, _, _, _⟩ :: _) _ _
       refine wpList_boxA_new rowStr rfl rfl w2.heap.size rfl ?_
       intro w3 y3 l3 s3
       have Y3 := Lib.hid y3
       have L3 := Lib.hid l3
       have S3 := Lib.hid s3
       clear y3 l3 s3)
    | (with_reducible show wpList _ _ _ (⟨_, Op.store stT _ _, _, _, _, none⟩ :: _) _ _
       refine wpList_boxA_put rowStr rfl _ _ rfl rfl w2.heap.size readsA _ rfl str_one.1 rfl rfl rfl Y3.out ?_
       intro w4 y4 k4 s4
       have Y4 := Lib.hid y4
       have L4 := Lib.hid (L3.out.trans (show Below w2.heap.size w3 w4 from k4.below L3.out.size (fun k hk e => by have := S3.out; omega)))
       have X4 := Lib.hid (X2.out.keep (L4.out.block _ X2.out.lt))
       have B4 := Lib.hid (B2.out.trans (L4.out.mono B2.out.size))
       clear y4 k4 s4 Y3 L3 S3 X2 B2 L4
       generalize w2.heap.size = A1 at *)
    | (with_reducible show wpList _ _ _ (⟨_, Op.alloc stT, _, _, _, _⟩ :: _) _ _
       refine wpList_boxA_new rowStr rfl rfl w4.heap.size rfl ?_
       intro w5 y5 l5 s5
       have Z5 := Lib.hid y5
       have L5 := Lib.hid l5
       have S5 := Lib.hid s5
       clear y5 l5 s5)
    | (with_reducible show wpList _ _ _ (⟨_, Op.store stT _ _, _, _, _, none⟩ :: _) _ _
       refine wpList_boxA_put rowStr rfl _ _ rfl rfl w4.heap.size writesA _ rfl str_one.2 rfl rfl rfl Z5.out ?_
       intro w6 y6 k6 s6
       have Z6 := Lib.hid y6
       have L6 := Lib.hid (L5.out.trans (show Below w4.heap.size w5 w6 from k6.below L5.out.size (fun k hk e => by have := S5.out; omega)))
       have X6 := Lib.hid (X4.out.keep (L6.out.block _ X4.out.lt))
       have Y6 := Lib.hid (Y4.out.keep (L6.out.block _ Y4.out.lt))
       have B6 := Lib.hid (B4.out.trans (L6.out.mono B4.out.size))
       have R6 := Lib.hid (RowsAt.below HQ.out B6.out)
       have HKE := Lib.hid (refKey_any (r := r) (c := c) R6.out HN.out HL.out who)
       clear y6 k6 s6 Z5 L5 S5 X4 B4 Y4 L6 R2
       generalize w4.heap.size = A2 at *
       have c2 : w6.cell? ⟨w.heap.size, 2, none⟩ = some (.int .i64 (6)) := by rw [← ht]; exact X6.out.cell 2
       have d1 : w6.cell? ⟨A1, 6, none⟩ = some (.string ⟨#[]⟩) := Y6.out.cell 6
       have d2 : w6.cell? ⟨A2, 6, none⟩ = some (.string ⟨#[]⟩) := Z6.out.cell 6)
    | (with_reducible show wpList _ _ _ (⟨_, Op.load rvT _, _, _, _, _⟩ :: _) _ _
       refine wpList_boxA_loadw rowRv _ rfl rfl w.heap.size (resvA q n c r) rfl rfl X6.out ?_)
    | (go_at_call 16
       refine HKE.out.mono ?_; rintro e w7 ⟨rfl, hb7⟩
       have B7 := Lib.hid (B6.out.trans (hb7.mono B6.out.size))
       clear hb7 X6 Y6 Z6 B6 R6 HKE c2 d1 d2))
  go_loopw [11] (fun v11 wr => ∃ k : Nat, k ≤ 0 ∧ v11 = .int .i64 k ∧ Below w.heap.size w wr) (fun v11 _ => 1 - (intOf v11).toNat)
  case atStart => exact ⟨0, Nat.zero_le _, rfl, B7.out⟩
  case round =>
    obtain ⟨k, hk2, rfl, hb⟩ := hrel
    have HB := Lib.hid hb
    clear hb B7
    rcases k with _ | k
    · go_wp2
      go_ret
      exact ⟨rfl, HB.out⟩
    · exfalso; omega
end Go.Proofs.Ytfnkdmdcjliebaa
