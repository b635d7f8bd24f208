/- The contracts of package mac's Stream and of its iterator: a stream's blocks, one behind the other, 4096 at most. Conditions: the package's variable holds the constants; the key has no more than 100000 bytes, the label no more than 500000. -/
import Derived.Test.YtfjbehobpkmjbaaDoorNumbC
import Derived.Test.YtfjbehobpkmjbaaDoorSchedIn
import Derived.Lib.AppendZeros
namespace Go.Proofs.YtfjbehobpkmjbaaDoor
open Go.ChangeShapes Go.WideShapes Go.ChangeAt Go.RowKit Go.Shelf
attribute [local go_sem] Oper.semAt_some
set_option linter.unusedVariables false

/-- A stream's block, with the piece, from 0 on. -/
def blkT (s : ByteArray) (i : Nat) : Nat → Nat := cat2 4 (numB (i + 1)) (labB s)
def blkF (K : Nat → Nat) (s : ByteArray) (i : Nat) : Nat → Nat := tagF 64 K (4 + (s.size + 1)) (blkT s i)
theorem blkT_lt (s : ByteArray) (i : Nat) : ∀ j, j < 4 + (s.size + 1) → blkT s i j < 256 := cat2_lt (fun j _ => numB_lt _ j) (fun j _ => labB_lt s j)
theorem blkF_lt (K : Nat → Nat) (s : ByteArray) (i j : Nat) : blkF K s i j < 256 := tagF_lt _ _ _ _ _
attribute [local irreducible] numB digF pieK labB tagF blkF blkT cat2

set_option maxRecDepth 100000 in
set_option maxHeartbeats 1000000 in
theorem Stream_any (p : Option Addr) (n cap : Nat) (g : Nat → Nat) (s : ByteArray) (hn : n ≤ 100000) (hcap : n ≤ cap) (hg : ∀ i, i < n → g i < 256) (w : World) (hT : TabAt w) (hp : BytesAt w p n g) :
    Calls Tryd.prog 19 #[.slice p n cap, .string s] w fun e w' => ∃ M, e = .returned (.func (.func 29) #[] #[.pointer (some ⟨w.heap.size, 0, none⟩), .pointer (some ⟨M, 0, none⟩)]) ∧ w'.cell? ⟨w.heap.size, 0, none⟩ = some (.string s) ∧ IntBlk w' M .u8 25 (mk 64 (pieK n g)) ∧ Below w.heap.size w w' := by
  have a0 : Below w.heap.size w (w.alloc (.cells #[.string s] 9)) := (Below.refl _ w).alloc (Nat.le_refl _) _
  have PC := Lib.hid (Piece_any p n cap g hn hcap hg _ (hT.on a0) (hp.below a0))
  have HC := Lib.hid (cell_of_one (heap_alloc_new w (.cells #[.string s] 9)))
  have HA := Lib.hid a0
  clear hT hp a0 hg
  go_enter Tryd.func19, Tryd.ntmps19
  go_wp2_with (first
    | (go_at_call 12; refine PC.out.mono ?_; rintro e w1 ⟨rfl, hb1⟩
       have B1 := Lib.hid (HA.out.trans (hb1.mono (by rw [World.size_alloc]; omega)))
       have BC := Lib.hid ((hb1.cell (p := ⟨w.heap.size, 0, none⟩) (by rw [World.size_alloc]; show w.heap.size < _; omega)).trans HC.out)
       clear hb1 PC HC HA)
    | (refine store_row_on rfl 25 _ _ rfl rfl w1.heap.size (cellsOf .u8 (mk 64 (pieK n g))) rfl rfl 25 (cellsOf .u8 (mk 64 zeroK)) (IntBlk.new w1 .u8 _ (mk 64 zeroK)) (pieceSize _) (by rw [cellsOf_size, cellsOf_size, mk_len, mk_len]) (cellsOf_one _ _) ?_))
  have E0 : Below w1.heap.size w1 ((w1.alloc (.cells (cellsOf .u8 (mk 64 zeroK)) 25)).setRow w1.heap.size (cellsOf .u8 (mk 64 (pieK n g)))) := below_setRow ((Below.refl _ w1).alloc (Nat.le_refl _) _) (Nat.le_refl _) _
  go_ret
  exact ⟨w1.heap.size, rfl, (E0.cell (p := ⟨w.heap.size, 0, none⟩) (block_lt_of_cell BC.out)).trans BC.out, (IntBlk.new w1 .u8 _ (mk 64 zeroK)).setRow .u8 _, B1.out.trans (E0.mono B1.out.size)⟩
theorem wpList_conv_str {ops : Array Oper} {rest : List Oper} {o : Oper} {a : Act} {w : World} {Q : Exit → Act → World → Prop} (hgd : o.guard = none) (x : Operand) (ho : o.op = .convert 9 22 x) (s : ByteArray) (hx : a.eval x = .string s)
    (h : wpList Tryd.prog ops Q rest (a.put o.dst (.slice (some ⟨w.heap.size, 0, none⟩) s.size (grownCap w s.size 0 5))) (Lib.bytesWorld w 5 s)) : wpList Tryd.prog ops Q (o :: rest) a w := by
  refine wpList_plain hgd fun K hK => ?_
  have hr := conv_str_run s w
  unfold Oper.wp execOp
  simp only [ho, hx, Sem.run_bind, hr]
  exact hK _ _ h
theorem BytesAt.aft {w w' : World} {B M n : Nat} {f : Nat → Nat} (h : BytesAt w (some ⟨B, 0, none⟩) n f) (ha : Aft M w w') (hM : M ≤ B) : BytesAt w' (some ⟨B, 0, none⟩) n f := by
  rcases h with h | ⟨b, o, e, hb, hc⟩
  · exact .inl h
  · cases e
    have hh := ha.same B hM hb
    exact .inr ⟨B, 0, rfl, Nat.lt_of_lt_of_le hb ha.size, fun j hj => by rw [← hc j hj]; exact World.cell?_of_block hh⟩
theorem gives_int_add {C : World → Prop} {K : Act → Prop} {o : Oper} {a : Act} (x y : Operand) (ho : o.op = .binOp .add 3 x y 3) (i j r : Int) (hx : a.eval x = .int .i64 i) (hy : a.eval y = .int .i64 j) (h : IntKind.i64.wrap (i + j) = r) (hk : K (a.put o.dst (.int .i64 r))) : ∃ v, Gives Tryd.prog C o a v ∧ K (a.put o.dst v) :=
  ⟨_, fun w _ => by
    unfold execOp
    simp only [ho, hx, hy]
    simp [go_sem, h], hk⟩
theorem labB_last (s : ByteArray) : ([((0 : Nat) : Int)] : List Int) = mk 1 (fun j => labB s (s.size + j)) := by
  have : labB s s.size = 0 := by unfold labB; rw [if_neg (by omega)]
  unfold mk
  simp [List.range_succ, this]
theorem labB_head (s : ByteArray) : ∀ j, j < s.size → sB s j = labB s j := fun j hj => by unfold labB; rw [if_pos hj]
/-- What the iterator reads. -/
def StrmR (N M : Nat) (s : ByteArray) (K : Nat → Nat) (V : World) : Prop := V.cell? ⟨N, 0, none⟩ = some (.string s) ∧ IntBlk V M .u8 25 (mk 64 K) ∧ TabAt V

set_option maxRecDepth 100000 in
set_option maxHeartbeats 4000000 in
theorem stream_gives (m N M : Nat) (s : ByteArray) (K : Nat → Nat) (hK : ∀ i, i < 64 → K i < 256) (hs : s.size ≤ 500000) :
    GivesTo Fence.wide m Tryd.prog 29 #[.pointer (some ⟨N, 0, none⟩), .pointer (some ⟨M, 0, none⟩)] (fun x : Nat => #[.agg (cellsOf .u8 (mk 32 (blkF K s x)))]) (fun _ i _ x => x = i) 4096 (StrmR N M s K) := fun l J Jx W hR hJ hJx hY h0 => by
  refine callsIn_of_wp Tryd.func29 rfl trivial ?_ rfl
  simp only [Tryd.ntmps29, List.size_toArray, List.length_cons, List.length_nil, Nat.reduceAdd, Nat.reduceSub, Array.replicate_succ, Array.replicate_zero, List.push_toArray, List.append_toArray, List.nil_append, List.cons_append]
  obtain ⟨hc0, hk0, hT0⟩ := hR 0 W h0
  obtain ⟨hmk, hbw⟩ := conv_str_world s W (by omega)
  have HR := Lib.hid hR
  have HJ := Lib.hid hJ
  have HY := Lib.hid hY
  have H0 := Lib.hid h0
  have HMK := Lib.hid hmk
  have hK0 := Lib.hid hK
  have HBK := Lib.hid (show ∀ i, tagF 64 K (4 + (s.size + 1)) (cat2 4 (numB (i + 1)) (labB s)) = blkF K s i from fun i => by unfold blkF blkT; rfl)
  have HBW := Lib.hid hbw
  clear hR hJ hJx hY h0 hk0 hT0 hmk hbw
  have hb1 := HBW.out.size
  refine wpIn_wide.2 ?_
  go_wp2_with (first
    | (refine wpList_conv_str rfl _ rfl s rfl ?_)
    | (refine wpList_buildFlat rfl 22 5 1 _ rfl .u8 [((0 : Nat) : Int)] bytesUnder byteInfo (by rw [byteZero1]; rfl) rfl (by omega) (by omega) rfl ?_)
    | (have a1 : Below (Lib.bytesWorld W 5 s).heap.size (Lib.bytesWorld W 5 s) ((Lib.bytesWorld W 5 s).alloc (.cells (cellsOf .u8 [((0 : Nat) : Int)]) 5)) := (Below.refl _ _).alloc (Nat.le_refl _) _
       obtain ⟨p1, c1', w1, hr1, hc1, hB1, hb2, BL, rfl, hBL⟩ := append_mark_run (F := labB s) 22 (HMK.out.below a1 HMK.out.lt) _ 1 1 (bytesAt_lit (Lib.bytesWorld W 5 s) 1 (fun j => labB s (s.size + j)) [((0 : Nat) : Int)] (labB_last s)) (by omega) (labB_head s) (by omega)
       refine Lib.wpList_append_run _ rfl _ _ _ _ rfl _ _ rfl rfl _ _ hr1 ?_
       have A1 := Lib.hid hB1
       have A0 := Lib.hid hBL
       have A2 := Lib.hid ((HBW.out.trans (a1.mono hb1)).trans hb2)
       clear a1 hr1 hB1 hb2 hBL HMK HBW))
  refine (wpIn_wide (n := m)).1 ?_
  have J0 := Lib.hid (HJ.out 0 W w1 H0.out A2.out)
  have hs1 := A2.out.size
  clear H0 A2 hc0 hb1
  gi_loopw [10] (fun v wr => ∃ i : Nat, i ≤ 4096 ∧ v = .int .i64 i ∧ W.heap.size ≤ wr.heap.size ∧ J i wr ∧ BytesAt wr (some ⟨BL, 0, none⟩) (s.size + 1) (labB s)) (fun v _ => 4096 - (intOf v).toNat)
  case atStart => exact ⟨0, by omega, rfl, hs1, J0.out, A1.out⟩
  case round =>
    clear J0 A1
    obtain ⟨i, hi, rfl, hsz, hj, hbl⟩ := hrel
    by_cases h : i < 4096
    · have e1 : (i : Int) < 4096 := by omega
      obtain ⟨_, hkM, hTT⟩ := HR.out i wr hj
      have q1 : IntKind.i64.wrap ((i : Int) + 1) = ((i + 1 : Nat) : Int) := by rw [IntWalk.i64_in _ (by omega)]; omega
      have Q1 := Lib.hid q1
      have KJ := Lib.hid hj; have KB := Lib.hid hbl; have KM := Lib.hid hkM; have KT := Lib.hid hTT; have KS := Lib.hid hsz
      clear q1 hj hbl hkM hTT hsz
      gi_wp2
      have c0 : Below wr.heap.size wr wr.drew := (Below.refl _ wr).drew
      refine wpIn_region_sched (n := 8) [(0, true), (1, true), (2, true), (3, true), (5, true), (4, false), (6, false), (7, false)] (fun V => Below wr.heap.size wr V) (by kernel_rfl) (by kernel_rfl) c0 ?_
      iterate 5 (
        refine walk_float rfl rfl (fun K hK => ?_)
        first
          | (refine gives_move _ rfl ?_)
          | (refine gives_whole _ rfl M rfl ?_)
          | (refine gives_int_add _ _ rfl i 1 ((i + 1 : Nat) : Int) rfl rfl Q1.out ?_)
        go_simp
        refine hK _ ?_
        clear hK K)
      refine walk_done rfl rfl (fun K' hK => ?_)
      refine done_one _ _ _ rfl 30 rfl (.int .i64 ((i + 1 : Nat) : Int)) rfl (fun _ w => by simp [go_sem]) ((numbered_any (i + 1) (by omega) wr.drew).mono fun e v1 hv1 => ?_)
      obtain ⟨rfl, hn1, hb1⟩ := hv1
      have c1 := c0.trans hb1
      refine ⟨_, rfl, c1, ?_⟩
      go_simp
      refine hK _ _ ?_
      clear hK K' hb1
      refine walk_done rfl rfl (fun K' hK => ?_)
      refine done_slice2 _ _ rfl (some ⟨wr.heap.size, 0, none⟩) (some ⟨BL, 0, none⟩) 4 (s.size + 1) 4 c1' rfl rfl ?_
      have a2 : Below v1.heap.size v1 (v1.alloc (.cells #[.slice (some ⟨wr.heap.size, 0, none⟩) 4 4, .slice (some ⟨BL, 0, none⟩) (s.size + 1) c1'] 22)) := (Below.refl _ v1).alloc (Nat.le_refl _) _
      have k2 := two_cells v1 (.slice (some ⟨wr.heap.size, 0, none⟩) 4 4) (.slice (some ⟨BL, 0, none⟩) (s.size + 1) c1') 22
      have c2 := c1.trans (a2.mono c1.size)
      refine ⟨c2, ?_⟩
      have n2 := hn1.below a2 hn1.lt
      generalize v1.alloc (.cells #[.slice (some ⟨wr.heap.size, 0, none⟩) 4 4, .slice (some ⟨BL, 0, none⟩) (s.size + 1) c1'] 22) = v2 at *
      go_simp
      refine hK _ _ ?_
      clear hK K'
      refine walk_done rfl rfl (fun K' hK => ?_)
      refine done_two _ _ _ _ rfl 16 rfl (.slice (some ⟨M, 0, none⟩) 64 64) (.slice (some ⟨v1.heap.size, 0, none⟩) 2 2) rfl rfl (fun _ w => by simp [go_sem]) ((Tag_two (by omega) (by omega) hK0.out (by omega) (by omega) hc1 (fun j _ => numB_lt (i + 1) j) (fun j _ => labB_lt s j) (KT.out.on c2) (KM.out.below c2 KM.out.lt).bytes k2.1 k2.2 n2.bytes (KB.out.below c2)).mono fun e v3 hv3 => ?_)
      obtain ⟨rfl, hv3⟩ := hv3
      have c3 := c2.trans (hv3.mono c2.size)
      refine ⟨_, rfl, c3, ?_⟩
      rw [HBK.out i]
      go_simp
      refine hK _ _ ?_
      clear hK K' hv3 k2 n2 a2 hn1 c0 c1 c2
      refine walk_nil ?_
      have j3 := HJ.out i wr v3 KJ.out (c3.mono KS.out)
      have b3 := KB.out.below c3
      have s3 := c3.size
      obtain ⟨fn, tmps, assign, body, hy, hRr⟩ := HY.out i v3 i h (Nat.le_trans KS.out s3) j3 rfl
      have HS := Lib.hid (Nat.le_trans KS.out s3)
      have B3 := Lib.hid b3
      clear j3 b3 s3 KJ KB KM KT KS c3
      gi_wp2
      refine ⟨(fun h => by cases h), hRr.mono ?_⟩
      rintro e W3 (⟨rfl, hj3, ha3⟩ | ⟨rfl, hx3, _⟩)
      · have H3 := Lib.hid hj3
        have HA := Lib.hid ha3.size
        have HB := Lib.hid (B3.out.aft ha3 A0.out)
        clear hRr hy hj3 ha3 B3
        gi_wp2
        go_roundw
        case rel => exact ⟨i + 1, by omega, by go_num, Nat.le_trans HS.out HA.out, H3.out, HB.out⟩
        case measure => simp [intOf]; omega
      · gi_wp2
        refine bodyPost_ret (results_none rfl _ _ _) rfl ?_
        exact ⟨⟨_, rfl⟩, .inr hx3⟩
    · obtain rfl : i = 4096 := by omega
      have hd1 : decide (((4096 : Nat) : Int) < 4096) = false := rfl
      have KJ := Lib.hid hj
      clear hj hbl hsz h hi
      gi_wp2
      go_end0
      exact ⟨⟨_, rfl⟩, .inl KJ.out⟩
end Go.Proofs.YtfjbehobpkmjbaaDoor
