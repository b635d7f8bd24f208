/- MacRef: merged by merge.py out of RefPieceC OwnTwo RefTagC. Conditions: as each part says. -/
import Derived.Test.YtccpecajbfpjdaaDoorMacProg
import Derived.Test.YtccpecajbfpjdaaDoorDigRef
import Derived.Maps.AppendAt
/- The contract of package citadelref05's Piece: a key's piece. It writes nothing that was there. Condition: the key has no more than 90000 bytes. -/
namespace Go.Proofs.YtccpecajbfpjdaaDoor
open Go.ChangeShapes Go.WideShapes Go.ChangeAt Go.RowKit

theorem pieK_in {n : Nat} {g : Nat → Nat} (h : n ≤ 64) : ∀ j, j < n → g j = pieK n g (0 + j) := fun j hj => by
  rw [pieK_short h, Nat.zero_add]; unfold inG; rw [if_pos ⟨hj, by omega⟩]
theorem pieK_zero {n : Nat} {g : Nat → Nat} (h : n ≤ 64) : ∀ j, n ≤ j → j < 64 → pieK n g j = 0 := fun j hj _ => by
  rw [pieK_short h]; unfold inG; rw [if_neg (by omega)]; rfl
theorem pieK_dig {n : Nat} {g : Nat → Nat} (h : 64 < n) : ∀ j, j < 32 → digF n g j = pieK n g (0 + j) := fun j hj => by
  rw [pieK_long h, Nat.zero_add]; unfold inG; rw [if_pos ⟨hj, by omega⟩]
theorem pieK_after {n : Nat} {g : Nat → Nat} (h : 64 < n) : ∀ j, 32 ≤ j → j < 64 → pieK n g j = 0 := fun j hj _ => by
  rw [pieK_long h]; unfold inG; rw [if_neg (by omega)]; rfl
attribute [local irreducible] digF pieK mskB inG cat2

set_option maxRecDepth 100000 in
set_option maxHeartbeats 2000000 in
theorem refPiece_any (p : Option Addr) (n cap : Nat) (g : Nat → Nat) (hn : n ≤ 90000) (hg : ∀ i, i < n → g i < 256) (w : World) (hp : BytesAt w p n g) :
    Calls Tryd.prog 40 #[.slice p n cap] w fun e w' => ∃ p' c', e = .returned (.slice p' 64 c') ∧ 64 ≤ c' ∧ BytesAt w' p' 64 (pieK n g) ∧ Below w.heap.size w w' := by
  have a0 : Below w.heap.size w (w.alloc (.cells (cellsOf .u8 []) 5)) := (Below.refl _ w).alloc (Nat.le_refl _) _
  have HP := Lib.hid (hp.below a0)
  have HQ := Lib.hid hp
  have A0 := Lib.hid a0
  have RO := Lib.hid (fun W h => refOf_any p n cap g hn hg W h)
  clear a0
  by_cases h : 64 < n
  · have e1 : ¬ n ≤ 64 := by omega
    have e2 : (64 : Int) < n := by omega
    have HF0 := Lib.hid (pieK_dig (g := g) h)
    have HFZ := Lib.hid (pieK_after (g := g) h)
    have HFI := Lib.hid (show ∀ j, j < n → g j = g (0 + j) from fun j _ => by rw [Nat.zero_add])
    generalize digF n g = D at *
    generalize pieK n g = F at *
    clear hp
    go_enter Tryd.func40, Tryd.ntmps40
    go_wp2_with (first
      | (refine wpList_buildFlat rfl 22 5 0 _ rfl .u8 [] bytesUnder byteInfo (by rw [byteZero1]; rfl) rfl (by omega) (by omega) rfl ?_)
      | (refine wpList_append_own_bytes rfl (.tmp 5) (.tmp 6) rfl w.heap.size (w.heap.size + 1) 0 _ g g p n cap rfl rfl (OwnS.empty w g w.heap.size (Nat.le_refl _)) HP.out HFI.out (by omega) (by simp) ?_; intro v1 w1 hv1 hb1
         rw [Nat.zero_add] at hv1
         obtain ⟨q1, c1, rfl, _, _, _, _⟩ := hv1.bytes (Nat.le_refl _)
         have L1 := Lib.hid (A0.out.trans hb1)
         have P1 := Lib.hid (HQ.out.below (A0.out.trans hb1))
         clear hv1 hb1 A0 HP)
      | (go_at_call 23; refine (RO.out w1 P1.out).mono ?_; rintro e w2 ⟨rfl, hb2⟩
         have L2 := Lib.hid (L1.out.trans (hb2.mono L1.out.size))
         clear hb2 L1 P1)
      | (refine store_row_on rfl 25 _ _ rfl rfl w2.heap.size (cellsOf .u8 (mk 32 D)) rfl rfl 25 (cellsOf .u8 (mk 32 zeroK)) (IntBlk.new w2 .u8 _ (mk 32 zeroK)) (sumSize _) (by rw [cellsOf_size, cellsOf_size, mk_len, mk_len]) (cellsOf_one _ _) ?_
         have E0 : Below w2.heap.size w2 ((w2.alloc (.cells (cellsOf .u8 (mk 32 zeroK)) 25)).setRow w2.heap.size (cellsOf .u8 (mk 32 D))) := below_setRow ((Below.refl _ w2).alloc (Nat.le_refl _) _) (Nat.le_refl _) _
         have E1 : IntBlk ((w2.alloc (.cells (cellsOf .u8 (mk 32 zeroK)) 25)).setRow w2.heap.size (cellsOf .u8 (mk 32 D))) w2.heap.size .u8 25 (mk 32 D) := (IntBlk.new w2 .u8 _ (mk 32 zeroK)).setRow .u8 _
         change wpList _ _ _ _ _ ((w2.alloc (.cells (cellsOf .u8 (mk 32 zeroK)) 25)).setRow w2.heap.size (cellsOf .u8 (mk 32 D)))
         generalize (w2.alloc (.cells (cellsOf .u8 (mk 32 zeroK)) 25)).setRow w2.heap.size (cellsOf .u8 (mk 32 D)) = V at *
         have L3 := Lib.hid (L2.out.trans (E0.mono L2.out.size))
         have V3 := Lib.hid (E1.alloc (.cells (cellsOf .u8 []) 5)).bytes
         clear E0 E1 L2)
      | (refine wpList_append_own_bytes rfl (.tmp 13) (.tmp 14) rfl V.heap.size (V.heap.size + 1) 0 _ F D (some ⟨w2.heap.size, 0, none⟩) 32 32 rfl rfl (OwnS.empty V F V.heap.size (Nat.le_refl _)) V3.out HF0.out (by omega) (by simp) ?_; intro v4 w4 hv4 hb4
         have HV0 : Hid (OwnS 5 1 w4 w.heap.size w4.heap.size v4 32 F) := Lib.hid (hv4.lower (by have := L3.out.size; omega))
         have HL0 : Hid (Below w.heap.size w w4) := Lib.hid (L3.out.trans ((((Below.refl _ V).alloc (Nat.le_refl _) (.cells (cellsOf .u8 []) 5)).trans hb4).mono L3.out.size))
         clear hv4 hb4 L3 V3))
    go_loopw [3] (fun v3 wr => ∃ k : Nat, 32 ≤ k ∧ k ≤ 64 ∧ OwnS 5 1 wr w.heap.size wr.heap.size v3 k F ∧ Below w.heap.size w wr) (fun v3 _ => 64 - (match v3 with | .slice _ k _ => k | _ => 0))
    case atStart => exact ⟨32, by omega, by omega, HV0.out, HL0.out⟩
    case round =>
      clear HV0 HL0
      obtain ⟨k, k1, k2, hv, hw⟩ := hrel
      obtain ⟨p', c', rfl, kc, cm, hbytes, hpb⟩ := hv.bytes (Nat.le_refl _)
      have HV := Lib.hid hv
      have HW := Lib.hid hw
      have HBY := Lib.hid hbytes
      have hws := hw.size
      clear hv hw hbytes hpb
      by_cases hlt : k = 64
      · have t0 : decide ((k : Int) < 64) = false := by simp; omega
        have HLT := Lib.hid hlt
        clear hlt
        go_wp2
        go_ret
        exact ⟨p', c', by rw [HLT.out]; rfl, by have := HLT.out; omega, by rw [← HLT.out]; exact HBY.out, HW.out⟩
      · have t0 : decide ((k : Int) < 64) = true := by simp; omega
        have HF1 : Hid (∀ j, j < 1 → (0 : Nat) = F (k + j)) := Lib.hid (fun j hj => (HFZ.out (k + j) (by omega) (by omega)).symm)
        have HA : Hid (OwnS 5 1 (wr.alloc (.cells (cellsOf .u8 [((0 : Nat) : Int)]) 5)) w.heap.size wr.heap.size (.slice p' k c') k F) := Lib.hid (HV.out.alloc (Nat.le_refl _) _)
        go_wp2_with (first
          | (refine wpList_buildFlat rfl 22 5 1 _ rfl .u8 [((0 : Nat) : Int)] bytesUnder byteInfo (by rw [byteZero1]; rfl) rfl (by omega) (by omega) rfl ?_)
          | (refine wpList_append_own_bytes rfl _ _ rfl w.heap.size wr.heap.size k _ F (fun _ => 0) (some ⟨wr.heap.size, 0, none⟩) 1 1 rfl rfl HA.out (bytesAt_one wr 0) HF1.out (by omega) (by rw [World.size_alloc]; omega) ?_; intro v' w' hv' hb'))
        obtain ⟨p2, c2, rfl, _, _, _, _⟩ := hv'.bytes (Nat.le_refl _)
        go_roundw
        case rel => exact ⟨k + 1, by omega, by omega, hv', (HW.out.alloc hws _).trans (hb'.mono (Nat.le_refl _))⟩
        case measure => simp only []; omega
  · have e1 : n ≤ 64 := by omega
    have e2 : ¬ (64 : Int) < n := by omega
    have HF0 := Lib.hid (pieK_in (g := g) e1)
    have HFZ := Lib.hid (pieK_zero (g := g) e1)
    generalize pieK n g = F at *
    clear hp RO
    go_enter Tryd.func40, Tryd.ntmps40
    go_wp2_with (first
      | (refine wpList_buildFlat rfl 22 5 0 _ rfl .u8 [] bytesUnder byteInfo (by rw [byteZero1]; rfl) rfl (by omega) (by omega) rfl ?_)
      | (refine wpList_append_own_bytes rfl (.tmp 5) (.tmp 6) rfl w.heap.size (w.heap.size + 1) 0 _ F g p n cap rfl rfl (OwnS.empty w F w.heap.size (Nat.le_refl _)) HP.out HF0.out (by omega) (by simp) ?_; intro v1 w1 hv1 hb1
         rw [Nat.zero_add] at hv1
         obtain ⟨q1, c1, rfl, _, _, _, _⟩ := hv1.bytes (Nat.le_refl _)
         have HV0 := Lib.hid hv1
         have HL0 := Lib.hid (A0.out.trans hb1)
         clear hv1 hb1 A0 HP))
    go_loopw [3] (fun v3 wr => ∃ k : Nat, n ≤ k ∧ k ≤ 64 ∧ OwnS 5 1 wr w.heap.size wr.heap.size v3 k F ∧ Below w.heap.size w wr) (fun v3 _ => 64 - (match v3 with | .slice _ k _ => k | _ => 0))
    case atStart => exact ⟨n, by omega, by omega, HV0.out, HL0.out⟩
    case round =>
      clear HV0 HL0
      obtain ⟨k, k1, k2, hv, hw⟩ := hrel
      obtain ⟨p', c', rfl, kc, cm, hbytes, hpb⟩ := hv.bytes (Nat.le_refl _)
      have HV := Lib.hid hv
      have HW := Lib.hid hw
      have HBY := Lib.hid hbytes
      have hws := hw.size
      clear hv hw hbytes hpb
      by_cases hlt : k = 64
      · have t0 : decide ((k : Int) < 64) = false := by simp; omega
        have HLT := Lib.hid hlt
        clear hlt
        go_wp2
        go_ret
        exact ⟨p', c', by rw [HLT.out]; rfl, by have := HLT.out; omega, by rw [← HLT.out]; exact HBY.out, HW.out⟩
      · have t0 : decide ((k : Int) < 64) = true := by simp; omega
        have HF1 : Hid (∀ j, j < 1 → (0 : Nat) = F (k + j)) := Lib.hid (fun j hj => (HFZ.out (k + j) (by omega) (by omega)).symm)
        have HA : Hid (OwnS 5 1 (wr.alloc (.cells (cellsOf .u8 [((0 : Nat) : Int)]) 5)) w.heap.size wr.heap.size (.slice p' k c') k F) := Lib.hid (HV.out.alloc (Nat.le_refl _) _)
        go_wp2_with (first
          | (refine wpList_buildFlat rfl 22 5 1 _ rfl .u8 [((0 : Nat) : Int)] bytesUnder byteInfo (by rw [byteZero1]; rfl) rfl (by omega) (by omega) rfl ?_)
          | (refine wpList_append_own_bytes rfl _ _ rfl w.heap.size wr.heap.size k _ F (fun _ => 0) (some ⟨wr.heap.size, 0, none⟩) 1 1 rfl rfl HA.out (bytesAt_one wr 0) HF1.out (by omega) (by rw [World.size_alloc]; omega) ?_; intro v' w' hv' hb'))
        obtain ⟨p2, c2, rfl, _, _, _, _⟩ := hv'.bytes (Nat.le_refl _)
        go_roundw
        case rel => exact ⟨k + 1, by omega, by omega, hv', (HW.out.alloc hws _).trans (hb'.mono (Nat.le_refl _))⟩
        case measure => simp only []; omega
end Go.Proofs.YtccpecajbfpjdaaDoor

/- Slices of bytes that grow side by side, each in a row of its own: an append's row is the old one or a new one. Condition: no more than 100000 bytes. -/
namespace Go.Proofs.YtccpecajbfpjdaaDoor
open Go.ChangeShapes Go.WideShapes Go.ChangeAt Go.RowKit

section
variable {base top : Nat} {v : Value} {k : Nat} {F : Nat → Nat} {w w' : World}
theorem OwnS.kept {row : Option Nat} (h : OwnS 5 1 w base top v k F) (ht : top ≤ w.heap.size) (hg : w.grownBy w' row) (hne : v.ownBlock = none ∨ v.ownBlock ≠ row) : OwnS 5 1 w' base top v k F := by
  rcases h with h | ⟨B, c, cur, h1, h2, h3, h4, h5⟩
  · exact .inl h
  · subst h1
    refine .inr ⟨B, c, cur, rfl, h2, h3, ?_, h5⟩
    rw [hg.block B (by omega) (by simpa [Value.ownBlock] using hne)]; exact h4
theorem OwnS.row (h : OwnS 5 1 w base top v k F) : v.ownBlock = none ∨ ∃ B, v.ownBlock = some B ∧ base ≤ B ∧ B < top := by
  rcases h with ⟨h1, _⟩ | ⟨B, c, cur, h1, h2, h3, _⟩
  · subst h1; exact .inl rfl
  · subst h1; exact .inr ⟨B, rfl, h2, h3⟩
end
theorem wpList_append_own_row {ops : Array Oper} {rest : List Oper} {o : Oper} {a : Act} {w : World} {Q : Exit → Act → World → Prop} (hgd : o.guard = none) (s x : Operand)
    (ho : o.op = .call { callee := .builtin .append, args := #[s, x], argTypes := #[22, 22] }) (base top k : Nat) (v : Value) (F f : Nat → Nat) (p : Option Addr) (n cap : Nat) (hs : a.eval s = v) (hx : a.eval x = .slice p n cap)
    (hv : OwnS 5 1 w base top v k F) (hp : BytesAt w p n f) (hf : ∀ j, j < n → f j = F (k + j)) (hk : k + n ≤ 100000) (hbase : base ≤ w.heap.size)
    (h : ∀ v' w', OwnS 5 1 w' base w'.heap.size v' (k + n) F → w.grownBy w' v.ownBlock → v'.ownBlock = v.ownBlock ∨ v'.ownBlock = some w.heap.size → wpList Tryd.prog ops Q rest (a.put o.dst v') w') : wpList Tryd.prog ops Q (o :: rest) a w := by
  have hi := byteInfo
  have hz := byteZero1
  have hb := byteBytes1
  cases hq : Tryd.prog.info? 5 with
  | none => rw [hq] at hi; simp at hi
  | some i =>
    rw [hq] at hi hb hz
    have hsz : i.size = 1 := by simpa using hi
    have hzz : i.zero = some (.int .u8 0) := by simpa using hz
    have hby : i.bytes = 1 := by simpa using hb
    by_cases h0 : n = 0
    · subst h0
      have hsrc : Src Tryd.prog i.size 22 (.slice p 0 cap) 0 [] w := by
        cases p with
        | none => exact Src.ofNil w bytesUnder cap
        | some ad => exact Src.ofSlice w bytesUnder ad 0 cap [] (by simp) (fun j u hu => by simp at hu) (fun u hu => by cases hu)
      refine wpList_plain hgd fun K hK => ?_
      have hrow := hv.owns
      obtain ⟨q, c, rfl, hc⟩ : ∃ q c, v = .slice q k c ∧ k ≤ c := by
        rcases hv with ⟨h1, h2⟩ | ⟨B, c, cur, h1, _, _, _, h5, _⟩
        · subst h2; exact ⟨none, 0, h1, Nat.le_refl _⟩
        · exact ⟨_, c, h1, h5⟩
      have hrun := run_append_nothing (P := Tryd.prog) w 22 22 o.type 5 i bytesUnder hq q k c hc (.slice p 0 cap) hsrc
      unfold Oper.wp
      simp [execOp, ho, resolve, invoke, builtin, hs, hx, hrun, Result.andThen]
      exact hK _ _ (h _ w (OwnS.of_owns hrow) ⟨rfl, rfl, rfl, Nat.le_refl _, fun _ _ _ => rfl⟩ (.inl rfl))
    · rcases hp with hp | ⟨B, off, rfl, hB, hc⟩
      · exact absurd hp h0
      · obtain ⟨v', w', hrun, r1, r2, _, r3⟩ := run_append_own_at (P := Tryd.prog) w base 22 o.type 5 i (.int .u8 0) 1 1 bytesUnder hq hzz hsz hby rfl (by omega)
          v k (bytesList (k * 1) F) hv.owns ⟨B, off, none⟩ n cap (bytesList n f) (by rw [bytesList_len, Nat.mul_one]) (fun j u hj => by
            obtain ⟨hj1, rfl⟩ := bytesList_get hj
            rw [addr_add]; exact hc j hj1) bytesList_one (by simp only [maxLen]; omega) (by omega) hbase
        rw [bytesList_more (k * 1) n F f (fun j hj => by rw [Nat.mul_one]; exact hf j hj), show k * 1 + n = (k + n) * 1 by omega] at r1
        refine wpList_plain hgd fun K hK => ?_
        unfold Oper.wp
        simp [execOp, ho, resolve, invoke, builtin, hs, hx, hrun, Result.andThen]
        exact hK _ _ (h v' w' (OwnS.of_owns r1) r2 r3)
theorem below_row {base top : Nat} {w w' : World} {row : Option Nat} (h : w.grownBy w' row) (hr : row = none ∨ ∃ B, row = some B ∧ base ≤ B ∧ B < top) (hb : base ≤ w.heap.size) : Below base w w' :=
  below_own h (fun B e => by rcases hr with hr | ⟨C, hr, hC, _⟩ <;> rw [hr] at e <;> cases e; exact hC) hb
theorem apart_sym {a b : Option Nat} (h : a = none ∨ a ≠ b) : b = none ∨ b ≠ a := by
  rcases h with rfl | h
  · cases b with
    | none => exact .inl rfl
    | some _ => exact .inr (by simp)
  · exact .inr (Ne.symm h)
/-- A row that is the old one or a new one lies apart as the old one did. -/
theorem apart_new {a a' b : Option Nat} {B N T : Nat} (h : a = none ∨ a ≠ b) (ha : a' = a ∨ a' = some B) (hb : b = none ∨ ∃ C, b = some C ∧ N ≤ C ∧ C < T) (hT : T ≤ B) : a' = none ∨ a' ≠ b := by
  rcases ha with rfl | rfl
  · exact h
  · refine .inr ?_
    rcases hb with rfl | ⟨C, rfl, _, hC⟩
    · simp
    · simp; omega
end Go.Proofs.YtccpecajbfpjdaaDoor

/- The contract of package citadelref05's Tag: a text's tag. It writes nothing that was there. Condition: the key and the text have no more than 80000 bytes each. -/
namespace Go.Proofs.YtccpecajbfpjdaaDoor
open Go.ChangeShapes Go.WideShapes Go.ChangeAt Go.RowKit

attribute [local irreducible] digF pieK mskB inG cat2 innF

set_option maxRecDepth 100000 in
set_option maxHeartbeats 4000000 in
theorem refTag_any (p : Option Addr) (n cap : Nat) (g : Nat → Nat) (pt : Option Addr) (nt ct : Nat) (gt : Nat → Nat) (hn : n ≤ 80000) (hg : ∀ i, i < n → g i < 256) (hnt : nt ≤ 80000) (hgt : ∀ i, i < nt → gt i < 256) (w : World) (hp : BytesAt w p n g) (ht : BytesAt w pt nt gt) :
    Calls Tryd.prog 27 #[.slice p n cap, .slice pt nt ct] w fun e w' => e = .returned (.agg (cellsOf .u8 (mk 32 (tagF n g nt gt)))) ∧ Below w.heap.size w w' := by
  have hlt := pieK_lt hg
  have RP := Lib.hid (fun W h => refPiece_any p n cap g (by omega) hg W h)
  show Calls _ _ _ _ fun e w' => e = .returned (.agg (cellsOf .u8 (mk 32 (digF 96 (cat2 64 (mskB 92 (pieK n g)) (innF (pieK n g) nt gt)))))) ∧ Below w.heap.size w w'
  have hin : innF (pieK n g) nt gt = digF (64 + nt) (cat2 64 (mskB 54 (pieK n g)) gt) := by unfold innF; rfl
  have hx1 : ∀ i, i < 64 → bits .xor .u8 (pieK n g i : Int) 54 = (mskB 54 (pieK n g) i : Nat) := fun i hi => by
    have := bits_xor_u8 (y := 54) (hlt i hi) (by omega); unfold mskB; exact this
  have hx2 : ∀ i, i < 64 → bits .xor .u8 (pieK n g i : Int) 92 = (mskB 92 (pieK n g) i : Nat) := fun i hi => by
    have := bits_xor_u8 (y := 92) (hlt i hi) (by omega); unfold mskB; exact this
  have hl1 := mskB_lt (m := 54) (by omega) hlt
  have hl2 := mskB_lt (m := 92) (by omega) hlt
  have hlD : ∀ i, i < 32 → innF (pieK n g) nt gt i < 256 := fun i _ => innF_lt _ _ _ i
  generalize innF (pieK n g) nt gt = D at *
  generalize mskB 54 (pieK n g) = FA at *
  generalize mskB 92 (pieK n g) = FB at *
  generalize pieK n g = K at *
  have HIN := Lib.hid hin; have HX1 := Lib.hid hx1; have HX2 := Lib.hid hx2; have HL1 := Lib.hid hl1; have HL2 := Lib.hid hl2; have HLD := Lib.hid hlD
  have h0 := IntBlk.new w .u8 25 (mk 32 zeroK)
  have a0 : Below w.heap.size w (w.alloc (.cells (cellsOf .u8 (mk 32 zeroK)) 25)) := (Below.refl _ w).alloc (Nat.le_refl _) _
  have H0 := Lib.hid h0; have A0 := Lib.hid a0; have HP := Lib.hid (hp.below a0); have HT := Lib.hid (ht.below a0)
  clear h0 a0 hp ht hin hx1 hx2 hl1 hl2 hlD hlt
  go_enter Tryd.func27, Tryd.ntmps27
  go_wp2_with (first
    | (go_at_call 40
       change Calls _ _ _ (w.alloc (.cells (cellsOf .u8 (mk 32 zeroK)) 25)) _
       refine (RP.out _ HP.out).mono ?_; rintro e w1 ⟨p1, c1, rfl, hc1, hb1, hl1⟩
       have hs1 : w.heap.size + 1 ≤ w1.heap.size := by have := hl1.size; rw [World.size_alloc] at this; exact this
       have B0 := Lib.hid (H0.out.below hl1 H0.out.lt)
       have BL := Lib.hid (A0.out.trans (hl1.mono (by rw [World.size_alloc]; omega)))
       have BT := Lib.hid (HT.out.below hl1)
       have BP := Lib.hid hb1
       clear hl1 hb1 H0 A0 HP HT RP))
  rcases BP.out with h | ⟨Bp, op, rfl, hBp, hcp⟩
  · omega
  have HCP := Lib.hid hcp
  clear hcp BP
  go_loopw [6, 7, 8] (fun v6 v7 v8 wr => ∃ i : Nat, i ≤ 64 ∧ v8 = .int .i64 i ∧ OwnS 5 1 wr w1.heap.size wr.heap.size v6 i FA ∧ OwnS 5 1 wr w1.heap.size wr.heap.size v7 i FB ∧ (v6.ownBlock = none ∨ v6.ownBlock ≠ v7.ownBlock) ∧ Below w1.heap.size w1 wr) (fun _ _ v8 _ => 64 - (intOf v8).toNat)
  case atStart => exact ⟨0, by omega, rfl, OwnS.nil _ _ _ _ _ _, OwnS.nil _ _ _ _ _ _, .inl rfl, Below.refl _ _⟩
  case round =>
    obtain ⟨i, hi, rfl, hv6, hv7, hne, hw⟩ := hrel
    have H6 := Lib.hid hv6; have H7 := Lib.hid hv7; have HN := Lib.hid hne; have HW := Lib.hid hw
    have hws := hw.size
    obtain ⟨p6, c6, rfl, kc6, _, hb6, _⟩ := hv6.bytes (Nat.le_refl _)
    obtain ⟨p7, c7, rfl, kc7, _, hb7, _⟩ := hv7.bytes (Nat.le_refl _)
    clear hv6 hv7 hne hw hb6 hb7
    by_cases h64 : i < 64
    · have e1 : (i : Int) < 64 := by omega
      have l0 : (0 : Int) ≤ i := by omega
      have cs : wr.cell? ⟨Bp, op + i, none⟩ = some (.int .u8 (K i : Nat)) := (HCP.out.below HW.out hBp) i h64
      have x1 := HX1.out i h64
      have x2 := HX2.out i h64
      have hf1 : ∀ j, j < 1 → (fun _ => FA i) j = FA (i + j) := fun j hj => by rw [show j = 0 by omega]; rfl
      have hf2 : ∀ j, j < 1 → (fun _ => FB i) j = FB (i + j) := fun j hj => by rw [show j = 0 by omega]; rfl
      have HF1 := Lib.hid hf1; have HF2 := Lib.hid hf2
      clear hf1 hf2
      generalize FA i = xa at *
      generalize FB i = xb at *
      go_wp2_with (first
        | (refine wpList_buildFlat rfl 22 5 1 _ rfl .u8 [(xa : Int)] bytesUnder byteInfo (by rw [byteZero1]; rfl) rfl (by omega) (by omega) rfl ?_)
        | (refine wpList_append_own_row rfl (.tmp 16) (.tmp 22) rfl w1.heap.size wr.heap.size i _ FA (fun _ => xa) (some ⟨wr.heap.size, 0, none⟩) 1 1 rfl rfl (H6.out.alloc (Nat.le_refl _) _) (bytesAt_one wr xa) HF1.out (by omega) (by rw [World.size_alloc]; omega) ?_; intro va wa hva hga hra
           have hbw : Below w1.heap.size wr wa := ((Below.refl _ wr).alloc hws _).trans (below_row hga H6.out.row (by rw [World.size_alloc]; omega))
           have ca : wa.cell? ⟨Bp, op + i, none⟩ = some (.int .u8 (K i : Nat)) := (HCP.out.below (HW.out.trans hbw) hBp) i h64
           have hsa := hga.size
           rw [World.size_alloc] at hsa hra
           have h7a := (H7.out.alloc (Nat.le_refl _) (.cells (cellsOf .u8 [(xa : Int)]) 5)).kept (by rw [World.size_alloc]; omega) hga (apart_sym HN.out)
           have HA := Lib.hid hva
           have HB := Lib.hid h7a
           have HWA := Lib.hid (HW.out.trans hbw)
           have HNA := Lib.hid (apart_sym (apart_new HN.out hra H7.out.row (Nat.le_succ _)))
           clear hva h7a hga hra hbw H6 H7 HN HW)
        | (refine wpList_buildFlat rfl 22 5 1 _ rfl .u8 [(xb : Int)] bytesUnder byteInfo (by rw [byteZero1]; rfl) rfl (by omega) (by omega) rfl ?_)
        | (refine wpList_append_own_row rfl (.tmp 24) (.tmp 30) rfl w1.heap.size wr.heap.size i _ FB (fun _ => xb) (some ⟨wa.heap.size, 0, none⟩) 1 1 rfl rfl (HB.out.alloc (by omega) _) (bytesAt_one wa xb) HF2.out (by omega) (by rw [World.size_alloc]; omega) ?_; intro vb wb hvb hgb hrb
           rw [World.size_alloc] at hrb))
      have hbw : Below w1.heap.size wa wb := ((Below.refl _ wa).alloc (by omega) _).trans (below_row hgb HB.out.row (by rw [World.size_alloc]; omega))
      have hsb := hbw.size
      have hva2 := (HA.out.alloc (Nat.le_refl _) (.cells (cellsOf .u8 [(xb : Int)]) 5)).kept (by rw [World.size_alloc]; omega) hgb (apart_sym HNA.out)
      have hne2 := apart_sym (apart_new HNA.out hrb HA.out.row (Nat.le_succ _))
      obtain ⟨pa, ca', rfl, _, _, _, _⟩ := HA.out.bytes (Nat.le_refl _)
      obtain ⟨pb, cb', rfl, _, _, _, _⟩ := hvb.bytes (Nat.le_refl _)
      go_roundw
      case rel => exact ⟨i + 1, by omega, by go_num, hva2.raise hsb, hvb, hne2, HWA.out.trans hbw⟩
      case measure => simp [intOf]; omega
    · obtain rfl : i = 64 := by omega
      have hd1 : decide (((64 : Nat) : Int) < 64) = false := rfl
      have hfc : ∀ j, j < nt → gt j = cat2 64 FA gt (64 + j) := fun j _ => (cat2_high 64 FA gt j).symm
      have hfd : ∀ j, j < 32 → D j = cat2 64 FB D (64 + j) := fun j _ => (cat2_high 64 FB D j).symm
      have HFC := Lib.hid hfc; have HFD := Lib.hid hfd
      have h6c := H6.out.congr (F' := cat2 64 FA gt) (fun j hj => (cat2_low hj).symm)
      have h7c := H7.out.congr (F' := cat2 64 FB D) (fun j hj => (cat2_low hj).symm)
      have H6C := Lib.hid h6c; have H7C := Lib.hid h7c
      have hlc : ∀ j, j < 64 + nt → cat2 64 FA gt j < 256 := cat2_lt HL1.out hgt
      have hld : ∀ j, j < 64 + 32 → cat2 64 FB D j < 256 := cat2_lt HL2.out HLD.out
      have HLC := Lib.hid hlc; have HLE := Lib.hid hld
      have HTW := Lib.hid (BT.out.below (HW.out.mono (Nat.le_refl _)))
      have HB0 := Lib.hid (B0.out.below HW.out B0.out.lt)
      have HBL := Lib.hid (BL.out.trans (HW.out.mono BL.out.size))
      clear hfc hfd h6c h7c hlc hld H6 H7 HW BT B0 BL HX1 HX2 HL1 HL2 HLD HCP h64 hi
      generalize cat2 64 FA gt = GA at *
      generalize hGB : cat2 64 FB D = GB at *
      have HGB := Lib.hid hGB
      clear hGB
      generalize wr = wq at *
      go_wp2_with (first
        | (refine wpList_append_own_row rfl (.tmp 32) (.tmp 33) rfl w1.heap.size wq.heap.size 64 _ GA gt pt nt ct rfl rfl H6C.out HTW.out HFC.out (by omega) hws ?_; intro va wa hva hga hra
           have hbw := below_row hga H6C.out.row hws
           have hsa := hga.size
           have H7A := Lib.hid (H7C.out.kept (Nat.le_refl _) hga (apart_sym HN.out))
           have S0 := Lib.hid (HB0.out.below hbw (by omega))
           have SL := Lib.hid (HBL.out.trans (hbw.mono (by omega)))
           obtain ⟨pa, ca, rfl, hca, _, hba, _⟩ := hva.bytes (Nat.le_refl _)
           have SB := Lib.hid hba
           clear hva hga hra hbw hba H6C H7C HB0 HBL HTW HN)
        | (go_at_call 23; refine (refOf_any pa (64 + nt) ca GA (by omega) HLC.out _ SB.out).mono ?_; rw [← HIN.out]; rintro e w2 ⟨rfl, hb2⟩
           have H7B := Lib.hid (H7A.out.later hsa hb2)
           have T0 := Lib.hid (S0.out.below hb2 S0.out.lt)
           have TL := Lib.hid (SL.out.trans (hb2.mono SL.out.size))
           have hs2 := hb2.size
           clear hb2 H7A S0 SL SB)
        | (refine store_row_on rfl 25 _ _ rfl rfl w2.heap.size (cellsOf .u8 (mk 32 D)) rfl rfl 25 (cellsOf .u8 (mk 32 zeroK)) (IntBlk.new w2 .u8 _ (mk 32 zeroK)) (sumSize _) (by rw [cellsOf_size, cellsOf_size, mk_len, mk_len]) (cellsOf_one _ _) ?_
           have E0 : Below w2.heap.size w2 ((w2.alloc (.cells (cellsOf .u8 (mk 32 zeroK)) 25)).setRow w2.heap.size (cellsOf .u8 (mk 32 D))) := below_setRow ((Below.refl _ w2).alloc (Nat.le_refl _) _) (Nat.le_refl _) _
           have E1 : IntBlk ((w2.alloc (.cells (cellsOf .u8 (mk 32 zeroK)) 25)).setRow w2.heap.size (cellsOf .u8 (mk 32 D))) w2.heap.size .u8 25 (mk 32 D) := (IntBlk.new w2 .u8 _ (mk 32 zeroK)).setRow .u8 _
           change wpList _ _ _ _ _ ((w2.alloc (.cells (cellsOf .u8 (mk 32 zeroK)) 25)).setRow w2.heap.size (cellsOf .u8 (mk 32 D)))
           generalize (w2.alloc (.cells (cellsOf .u8 (mk 32 zeroK)) 25)).setRow w2.heap.size (cellsOf .u8 (mk 32 D)) = V at *
           have H7D := Lib.hid (H7B.out.later (by omega) E0)
           have U0 := Lib.hid (T0.out.below E0 T0.out.lt)
           have UL := Lib.hid (TL.out.trans (E0.mono TL.out.size))
           have UD := Lib.hid E1.bytes
           have hs3 := E0.size
           clear E0 E1 H7B T0 TL)
        | (refine wpList_append_own_bytes rfl (.tmp 36) (.tmp 37) rfl w1.heap.size wq.heap.size 64 _ GB D (some ⟨w2.heap.size, 0, none⟩) 32 32 rfl rfl H7D.out UD.out HFD.out (by omega) (by omega) ?_; intro vb wb hvb hbb
           have W0 := Lib.hid (U0.out.below hbb (by omega))
           have WL := Lib.hid (UL.out.trans (hbb.mono (by omega)))
           obtain ⟨pb, cb, rfl, hcb, _, hbB, _⟩ := hvb.bytes (Nat.le_refl _)
           have WB := Lib.hid hbB
           clear hvb hbb hbB H7D U0 UL UD)
        | (go_at_call 23; refine (refOf_any pb (64 + 32) cb GB (by omega) HLE.out _ WB.out).mono ?_; rintro e w5 ⟨rfl, hb5⟩
           have X0 := Lib.hid (W0.out.below hb5 W0.out.lt)
           have XL := Lib.hid (WL.out.trans (hb5.mono WL.out.size))
           clear hb5 W0 WL WB)
        | (refine store_row_on rfl 25 _ _ rfl rfl w.heap.size (cellsOf .u8 (mk 32 (digF (64 + 32) GB))) rfl rfl 25 (cellsOf .u8 (mk 32 zeroK)) X0.out (sumSize _) (by rw [cellsOf_size, cellsOf_size, mk_len, mk_len]) (cellsOf_one _ _) ?_))
      refine bodyPost_ret (results_cell_row rfl _ _ w.heap.size 25 (cellsOf .u8 (mk 32 (digF (64 + 32) GB))) (0, 0) _ rfl (X0.out.setRow .u8 _) sumUnder rfl (sumSize _)) rfl ⟨by rw [HGB.out], below_setRow XL.out (Nat.le_refl _) _⟩
end Go.Proofs.YtccpecajbfpjdaaDoor
