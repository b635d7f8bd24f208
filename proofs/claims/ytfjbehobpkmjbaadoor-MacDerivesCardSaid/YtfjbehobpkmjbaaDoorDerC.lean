/- The contract of package mac's Derive: a key from a key. Conditions: the package's variable holds the constants; the key has no more than 100000 bytes, the label no more than 500000. -/
import Derived.Test.YtfjbehobpkmjbaaDoorStrmC
namespace Go.Proofs.YtfjbehobpkmjbaaDoor
open Go.ChangeShapes Go.WideShapes Go.ChangeAt Go.RowKit Go.Shelf
attribute [local go_sem] Oper.semAt_some
set_option linter.unusedVariables false

/-- The derived bytes. -/
def derF (K : Nat → Nat) (s : ByteArray) : Nat → Nat := fun j => blkF K s (j / 32) (j % 32)
theorem derF_lt (K : Nat → Nat) (s : ByteArray) (j : Nat) : derF K s j < 256 := blkF_lt _ _ _ _
def derTo (K : Nat → Nat) (s : ByteArray) (k : Nat) : Nat → Nat := fun j => if j < k then derF K s j else 0
theorem derTo_zero (K : Nat → Nat) (s : ByteArray) : derTo K s 0 = zeroK := by funext j; unfold derTo zeroK; rw [if_neg (by omega)]
theorem derTo_end (K : Nat → Nat) (s : ByteArray) (N : Nat) : mk N (derTo K s N) = mk N (derF K s) := mk_ext fun _ hj => if_pos hj
theorem derTo_put (K : Nat → Nat) (s : ByteArray) (N k b : Nat) (hb : b = derF K s k) : mk N (put (derTo K s k) k 1 (fun _ => b)) = mk N (derTo K s (k + 1)) := mk_ext fun j _ => by
  subst hb
  unfold put derTo
  by_cases e : j = k
  · subst e; rw [if_pos ⟨by omega, by omega⟩, if_pos (by omega)]
  · rw [if_neg (by omega)]
    by_cases h : j < k
    · rw [if_pos h, if_pos (by omega)]
    · rw [if_neg h, if_neg (by omega)]
theorem derF_at (K : Nat → Nat) (s : ByteArray) (i k : Nat) (hk : k < 32) : derF K s (32 * i + k) = blkF K s i k := by
  unfold derF; rw [show (32 * i + k) / 32 = i by omega, show (32 * i + k) % 32 = k by omega]
theorem wpList_make_cap {ops : Array Oper} {rest : List Oper} {o : Oper} {a : Act} {w : World} {Q : Exit → Act → World → Prop} (hgd : o.guard = none) (x y : Operand) (ho : o.op = .makeSlice 22 x y) (M : Nat) (hM : M ≤ 100000) (hx : a.eval x = .int .i64 0) (hy : a.eval y = .int .i64 M)
    (h : wpList Tryd.prog ops Q rest (a.put o.dst (.slice (some ⟨w.heap.size, 0, none⟩) 0 M)) (w.alloc (.cells (cellsOf .u8 (mk M zeroK)) 5))) : wpList Tryd.prog ops Q (o :: rest) a w :=
  wpList_plain hgd fun _ hK => by
    have hi := byteInfo
    have hz := byteZero1
    have hb := byteBytes1
    cases hq : Tryd.prog.info? 5 with
    | none => rw [hq] at hi; simp at hi
    | some i =>
      rw [hq] at hi hz hb
      have hsz : i.size = 1 := by simpa using hi
      have hzz : i.zero = some (.int .u8 0) := by simpa using hz
      have hby : i.bytes = 1 := by simpa using hb
      have e := run_make (P := Tryd.prog) w 22 5 i _ bytesUnder hq hzz .i64 .i64 0 M (by omega) (by omega) (by rw [hby]; omega) (by omega)
      have hc : (Value.int .u8 0).cells = cellsOf .u8 (mk 1 zeroK) := rfl
      rw [hsz, Int.toNat_natCast, made_zero hc (by omega), Nat.mul_one] at e
      unfold Oper.wp execOp
      simp only [ho]
      simp [hx, hy, e]
      exact hK _ _ h
/-- A byte appended where there is room. -/
theorem wpList_append_in {ops : Array Oper} {rest : List Oper} {o : Oper} {a : Act} {w : World} {Q : Exit → Act → World → Prop} (hgd : o.guard = none) (s x : Operand)
    (ho : o.op = .call { callee := .builtin .append, args := #[s, x], argTypes := #[22, 22] }) (D k N b B c : Nat) (F : Nat → Nat) (hs : a.eval s = .slice (some ⟨D, 0, none⟩) k N) (hx : a.eval x = .slice (some ⟨B, 0, none⟩) 1 c)
    (hD : IntBlk w D .u8 5 (mk N F)) (hk : k < N) (hB : w.cell? ⟨B, 0, none⟩ = some (.int .u8 (b : Nat)))
    (h : wpList Tryd.prog ops Q rest (a.put o.dst (.slice (some ⟨D, 0, none⟩) (k + 1) N)) (w.setRow D (cellsOf .u8 (mk N (put F k 1 (fun _ => b)))))) : wpList Tryd.prog ops Q (o :: rest) a w := by
  have hi := byteInfo
  cases hq : Tryd.prog.info? 5 with
  | none => rw [hq] at hi; simp at hi
  | some i =>
    rw [hq] at hi
    have hsz : i.size = 1 := by simpa using hi
    have hcs : (cellsOf .u8 (mk N F)).size = N := by rw [cellsOf_size, mk_len]
    have e := run_append_room (P := Tryd.prog) w 22 o.type 5 i bytesUnder hq D k N (cellsOf .u8 (mk N F)) hD ⟨B, 0, none⟩ 1 c [.int .u8 (b : Nat)] (by rw [hsz]; rfl) (fun j u hj => by
      rcases j with _ | j
      · simp only [List.getElem?_cons_zero, Option.some.injEq] at hj; subst hj; rw [addr_add]; exact hB
      · simp at hj) (fun u hu => by simp only [List.mem_singleton] at hu; subst hu; rfl) (by omega) (by rw [hsz, hcs]; simp; omega)
    have hp := put_cells N F (o := k) (n := 1) (fun _ => b) (by omega)
    have hl : ((mk 1 fun _ => b).map (Value.int .u8)) = [.int .u8 (b : Nat)] := rfl
    rw [hl] at hp
    rw [hsz, Nat.mul_one, List.length_singleton, List.append_assoc, hp] at e
    refine wpList_plain hgd fun K hK => ?_
    unfold Oper.wp
    simp [execOp, ho, resolve, invoke, builtin, hs, hx, e, Result.andThen]
    exact hK _ _ h
attribute [local irreducible] numB digF pieK labB tagF blkF blkT cat2 derF derTo

/-- A number of bytes that is out of range: none. -/
theorem Derive_no (p : Option Addr) (n cap : Nat) (s : ByteArray) (z : Int) (hz : z < 1 ∨ 1024 < z) (w : World) :
    Calls Tryd.prog 22 #[.slice p n cap, .string s, .int .i64 z] w fun e w' => e = .returned (.slice none 0 0) ∧ Below w.heap.size w w' := by
  have a0 : Below w.heap.size w (w.alloc (.cells #[.int .i64 z] 3)) := (Below.refl _ w).alloc (Nat.le_refl _) _
  have HA := Lib.hid a0
  clear a0
  by_cases h : z < 1
  · clear hz
    go_enter Tryd.func22, Tryd.ntmps22
    go_wp2
    go_step3
    go_wp2
    rw [Exit.noGoto_ret]
    go_ret
    exact ⟨rfl, HA.out⟩
  · have h2 : 1024 < z := by omega
    clear hz
    go_enter Tryd.func22, Tryd.ntmps22
    go_wp2
    go_step3
    go_wp2
    rw [Exit.noGoto_ret]
    go_ret
    exact ⟨rfl, HA.out⟩
/-- Between two blocks. -/
def DerI (w : World) (B0 M N : Nat) (s : ByteArray) (K : Nat → Nat) (k : Nat) (V : World) : Prop :=
  V.cell? ⟨B0, 0, none⟩ = some (.int .i64 N) ∧ V.heap[B0 + 2]? = some (.cells #[.slice (some ⟨B0 + 1, 0, none⟩) k N] 22 (0, 0)) ∧ IntBlk V (B0 + 1) .u8 5 (mk N (derTo K s k)) ∧ StrmR (B0 + 3) M s K V ∧ Below w.heap.size w V

theorem DerI.below {w V V' : World} {B0 M N k T : Nat} {s : ByteArray} {K : Nat → Nat} (h : DerI w B0 M N s K k V) (hb : Below T V V') (h1 : B0 + 3 < T) (h2 : M < T) (h3 : w.heap.size ≤ T) : DerI w B0 M N s K k V' :=
  ⟨(hb.cell (p := ⟨B0, 0, none⟩) (by show B0 < T; omega)).trans h.1, (hb.block _ (by omega)).trans h.2.1, h.2.2.1.below hb (by omega), ⟨(hb.cell (p := ⟨B0 + 3, 0, none⟩) h1).trans h.2.2.2.1.1, h.2.2.2.1.2.1.below hb h2, h.2.2.2.1.2.2.below hb (by omega)⟩, h.2.2.2.2.trans (hb.mono h3)⟩

theorem cell_ext {V W : World} {b : Nat} (h : W.heap[b]? = V.heap[b]?) : W.cell? ⟨b, 0, none⟩ = V.cell? ⟨b, 0, none⟩ := by simp [World.cell?, h]
theorem DerI.step {w V : World} {B0 M N k b : Nat} {s : ByteArray} {K : Nat → Nat} (h : DerI w B0 M N s K k V) (hB0 : w.heap.size ≤ B0) (hT : TabAt w) (hb : b = derF K s k) :
    DerI w B0 M N s K (k + 1) ((V.setRow (B0 + 1) (cellsOf .u8 (mk N (put (derTo K s k) k 1 (fun _ => b))))).setCell ⟨B0 + 2, 0, none⟩ (.slice (some ⟨B0 + 1, 0, none⟩) (k + 1) N)) := by
  obtain ⟨h1, h2, h3, ⟨h4, h5, h6⟩, h7⟩ := h
  have m1 : M ≠ B0 + 1 := fun e => by
    subst e
    have := h5.symm.trans h3
    simp at this
  have m2 : M ≠ B0 + 2 := fun e => by
    subst e
    have := h5.symm.trans h2
    simp at this
  have hB : Below w.heap.size w ((V.setRow (B0 + 1) (cellsOf .u8 (mk N (put (derTo K s k) k 1 (fun _ => b))))).setCell ⟨B0 + 2, 0, none⟩ (.slice (some ⟨B0 + 1, 0, none⟩) (k + 1) N)) := (below_setRow h7 (by omega) _).setCell (by show w.heap.size ≤ B0 + 2; omega) _
  refine ⟨?_, ?_, ?_, ⟨?_, ?_, hT.on hB⟩, hB⟩
  · rw [cell_ext (Below.heap_setCell _ _ _ B0 (by show B0 ≠ B0 + 2; omega)), cell_ext (setRow_other V (B0 + 1) B0 _ (by omega))]; exact h1
  · exact one_setCell ((setRow_other V (B0 + 1) (B0 + 2) _ (by omega)).trans h2)
  · rw [derTo_put K s N k b hb]; exact (h3.setRow .u8 _).other (by show B0 + 2 ≠ B0 + 1; omega) _
  · rw [cell_ext (Below.heap_setCell _ _ _ (B0 + 3) (by show B0 + 3 ≠ B0 + 2; omega)), cell_ext (setRow_other V (B0 + 1) (B0 + 3) _ (by omega))]; exact h4
  · exact (h5.otherRow m1 _).other (fun e => m2 e.symm) _

set_option maxRecDepth 100000 in
set_option maxHeartbeats 4000000 in
theorem Derive_any (p : Option Addr) (n cap : Nat) (g : Nat → Nat) (s : ByteArray) (N : Nat) (hN : 1 ≤ N ∧ N ≤ 1024) (hn : n ≤ 100000) (hcap : n ≤ cap) (hg : ∀ i, i < n → g i < 256) (hs : s.size ≤ 500000) (w : World) (hT : TabAt w) (hp : BytesAt w p n g) :
    Calls Tryd.prog 22 #[.slice p n cap, .string s, .int .i64 N] w fun e w' => e = .returned (.slice (some ⟨w.heap.size + 1, 0, none⟩) N N) ∧ IntBlk w' (w.heap.size + 1) .u8 5 (mk N (derF (pieK n g) s)) ∧ Below w.heap.size w w' := by
  have e1 : ¬ (N : Int) < 1 := by omega
  have e2 : ¬ 1024 < (N : Int) := by omega
  have hK := pieK_lt hg
  have a0 : Below w.heap.size w (w.alloc (.cells #[.int .i64 N] 3)) := (Below.refl _ w).alloc (Nat.le_refl _) _
  have HA := Lib.hid a0
  have SC := Lib.hid (fun W hT hp => Stream_any p n cap g s hn hcap hg W hT hp)
  have HP := Lib.hid hp
  have HT := Lib.hid hT
  clear a0 hp hT hg
  refine (callsIn_wide (n := 3)).1 ?_
  refine callsIn_of_wp_marks Tryd.func22 rfl trivial ?_ rfl
  simp only [Tryd.ntmps22, List.size_toArray, List.length_cons, List.length_nil, Nat.reduceAdd, Nat.reduceSub, Array.replicate_succ, Array.replicate_zero, List.push_toArray, List.append_toArray, List.nil_append, List.cons_append]
  refine wpIn_wide.2 ?_
  go_wp2
  go_step3
  go_wp2_with (first
    | (refine wpList_make_cap rfl _ _ rfl N (by omega) rfl rfl ?_))
  have V0 : (((w.alloc (.cells #[.int .i64 N] 3)).alloc (.cells (cellsOf .u8 (mk N zeroK)) 5)).alloc (.cells #[.slice (some ⟨w.heap.size + 1, 0, none⟩) 0 N] 22)).heap.size = w.heap.size + 3 := by simp
  have V1 : (((w.alloc (.cells #[.int .i64 N] 3)).alloc (.cells (cellsOf .u8 (mk N zeroK)) 5)).alloc (.cells #[.slice (some ⟨w.heap.size + 1, 0, none⟩) 0 N] 22)).cell? ⟨w.heap.size, 0, none⟩ = some (.int .i64 N) := by
    have := heap_alloc_new w (.cells #[.int .i64 N] 3)
    refine cell_of_one (t := 3) ?_
    rw [Below.heap_alloc _ _ _ (by simp; omega), Below.heap_alloc _ _ _ (by simp)]; exact this
  have V2 : (((w.alloc (.cells #[.int .i64 N] 3)).alloc (.cells (cellsOf .u8 (mk N zeroK)) 5)).alloc (.cells #[.slice (some ⟨w.heap.size + 1, 0, none⟩) 0 N] 22)).heap[w.heap.size + 2]? = some (.cells #[.slice (some ⟨w.heap.size + 1, 0, none⟩) 0 N] 22 (0, 0)) := by
    have := heap_alloc_new ((w.alloc (.cells #[.int .i64 N] 3)).alloc (.cells (cellsOf .u8 (mk N zeroK)) 5)) (.cells #[.slice (some ⟨w.heap.size + 1, 0, none⟩) 0 N] 22)
    rw [show ((w.alloc (.cells #[.int .i64 N] 3)).alloc (.cells (cellsOf .u8 (mk N zeroK)) 5)).heap.size = w.heap.size + 2 by simp] at this
    exact this
  have V3 : IntBlk (((w.alloc (.cells #[.int .i64 N] 3)).alloc (.cells (cellsOf .u8 (mk N zeroK)) 5)).alloc (.cells #[.slice (some ⟨w.heap.size + 1, 0, none⟩) 0 N] 22)) (w.heap.size + 1) .u8 5 (mk N (derTo (pieK n g) s 0)) := by
    rw [derTo_zero]; exact blk_second w .u8 5 (mk N zeroK) _ _
  have V4 : Below w.heap.size w (((w.alloc (.cells #[.int .i64 N] 3)).alloc (.cells (cellsOf .u8 (mk N zeroK)) 5)).alloc (.cells #[.slice (some ⟨w.heap.size + 1, 0, none⟩) 0 N] 22)) := below_three w _ _ _
  change Code.wp _ _ _ _ (((w.alloc (.cells #[.int .i64 N] 3)).alloc (.cells (cellsOf .u8 (mk N zeroK)) 5)).alloc (.cells #[.slice (some ⟨w.heap.size + 1, 0, none⟩) 0 N] 22))
  generalize (((w.alloc (.cells #[.int .i64 N] 3)).alloc (.cells (cellsOf .u8 (mk N zeroK)) 5)).alloc (.cells #[.slice (some ⟨w.heap.size + 1, 0, none⟩) 0 N] 22)) = V at *
  have SC2 := Lib.hid (SC.out V (HT.out.on V4) (HP.out.below V4))
  have HV0 := Lib.hid V0; have HV1 := Lib.hid V1; have HV2 := Lib.hid V2; have HV3 := Lib.hid V3; have HV4 := Lib.hid V4
  clear V0 V1 V2 V3 V4 HA HP SC
  have HK := Lib.hid hK
  obtain ⟨K, hKe⟩ : ∃ K, pieK n g = K := ⟨_, rfl⟩
  have HKe := Lib.hid hKe
  rw [hKe] at HK SC2 HV3
  clear hK hKe
  go_step3
  go_wp2_with (first
    | (go_at_call 19; refine SC2.out.mono ?_; rintro e w4 ⟨M, rfl, hc, hk, hb⟩
       rw [HV0.out]
       have C0 : DerI w w.heap.size M N s K 0 w4 := by
         have hv := HV0.out
         unfold DerI
         rw [hv] at hc hb
         exact ⟨(hb.cell (p := ⟨w.heap.size, 0, none⟩) (by show w.heap.size < _; omega)).trans HV1.out, (hb.block _ (by omega)).trans HV2.out, HV3.out.below hb (by omega), ⟨hc, hk, HT.out.on (HV4.out.trans (hb.mono (by omega)))⟩, HV4.out.trans (hb.mono (by omega))⟩
       have hs4 : w.heap.size + 3 < w4.heap.size := by have := block_lt_of_cell hc; rw [HV0.out] at this; exact this
       have hM4 : M < w4.heap.size := hk.lt
       have HC0 := Lib.hid C0
       clear hc hk hb C0 SC2 HV0 HV1 HV2 HV3 HV4))
  have hs4' := hs4
  refine (wpIn_wide (n := 3)).1 ?_
  refine range_ends rfl (by omega) (gf := 29) (lb := #[.pointer (some ⟨w.heap.size + 3, 0, none⟩), .pointer (some ⟨M, 0, none⟩)]) rfl trivial (enters_of Tryd.func29 (by kernel_rfl) rfl)
    (fun x : Nat => #[.agg (cellsOf .u8 (mk 32 (blkF K s x)))]) (fun _ i _ x => x = i) 4096 (StrmR (w.heap.size + 3) M s K) (fun _ => rfl)
    (fun i V => 32 * i < N ∧ DerI w w.heap.size M N s K (32 * i) V) (fun c V => c = .exit 0 ∧ DerI w w.heap.size M N s K N V) ?rd ?st ?stx ⟨by omega, HC0.out⟩ (stream_gives _ _ _ s K HK.out hs) ?round ?done ?stop
  case rd => exact fun i U h => h.2.2.2.2.1
  case st => exact fun i U U' h hb => ⟨h.1, h.2.below hb hs4 hM4 (by omega)⟩
  case stx => exact fun c U U' h hb => ⟨h.1, h.2.below hb hs4 hM4 (by omega)⟩
  case done => exact fun D U hD h hd => absurd h.1 (by omega)
  case stop =>
    rintro D c U hD ⟨rfl, hI⟩ hd
    obtain ⟨h1, h2, h3, h4, h5⟩ := hI
    rw [derTo_end] at h3
    have H2 := Lib.hid h2; have H3 := Lib.hid h3; have H5 := Lib.hid h5
    clear h1 h2 h3 h4 h5
    have H2c : U.cell? ⟨w.heap.size + 1 + 1, 0, none⟩ = some (.slice (some ⟨w.heap.size + 1, 0, none⟩) N N) := cell_of_one H2.out
    have HD := Lib.hid hd
    clear hd
    gi_wp2
    go_wp2
    rw [Exit.noGoto_ret]
    have hDs : w.heap.size ≤ D := by have := hs4; omega
    have h3' : IntBlk U (w.heap.size + 1) .u8 5 (mk N (derF (pieK n g) s)) := by rw [HKe.out]; exact H3.out
    refine ⟨by simp, .inl ⟨_, _, rfl, run_takeDeferred HD.out, ?_⟩⟩
    exact ⟨_, results_tmp rfl _ _ _, rfl, cells_turn h3' HD.out rfl, below_turn _ H5.out hDs⟩
  case round =>
    rintro l i x U hl hi hus ⟨hlt, hI⟩ rfl
    have HI := Lib.hid hI
    have hF := fun k (hk : k < 32) => derF_at K s x k hk
    generalize hgb : blkF K s x = G at *
    clear hgb hI
    refine region_round rfl (by rintro ⟨_, _, h⟩; exact h) ?_
    go_wp2_with (refine store_row_on rfl 30 _ _ rfl rfl U.heap.size (cellsOf .u8 (mk 32 G)) rfl rfl 30 (cellsOf .u8 (mk 32 zeroK)) (IntBlk.new U .u8 _ (mk 32 zeroK)) (sumSize _) (by rw [cellsOf_size, cellsOf_size, mk_len, mk_len]) (cellsOf_one _ _) ?_)
    have P1 : IntBlk ((U.alloc (.cells (cellsOf .u8 (mk 32 zeroK)) 30)).setRow U.heap.size (cellsOf .u8 (mk 32 G))) U.heap.size .u8 30 (mk 32 G) := (IntBlk.new U .u8 _ (mk 32 zeroK)).setRow .u8 _
    have P2 : Below U.heap.size U ((U.alloc (.cells (cellsOf .u8 (mk 32 zeroK)) 30)).setRow U.heap.size (cellsOf .u8 (mk 32 G))) := below_setRow ((Below.refl _ _).alloc (Nat.le_refl _) _) (Nat.le_refl _) _
    refine ⟨Aft.of_below _ P2, fun V hVs hVk0 hVb0 => ?_⟩
    have hVk : ∀ k, k ≠ w4.heap.size + 1 → V.heap[k]? = ((U.alloc (.cells (cellsOf .u8 (mk 32 zeroK)) 30)).setRow U.heap.size (cellsOf .u8 (mk 32 G))).heap[k]? := hVk0
    have hVb : Below w4.heap.size ((U.alloc (.cells (cellsOf .u8 (mk 32 zeroK)) 30)).setRow U.heap.size (cellsOf .u8 (mk 32 G))) V := hVb0
    clear hVk0 hVb0 hVs
    generalize ((U.alloc (.cells (cellsOf .u8 (mk 32 zeroK)) 30)).setRow U.heap.size (cellsOf .u8 (mk 32 G))) = U1 at *
    have Q1 : IntBlk V U.heap.size .u8 30 (mk 32 G) := (hVk _ (by omega)).trans P1
    have Q2 : DerI w w.heap.size M N s K (32 * x) V := (HI.out.below (P2.mono (by omega)) hs4 hM4 (by omega)).below hVb hs4 hM4 (by omega)
    have HQ1 := Lib.hid Q1; have HQ2 := Lib.hid Q2
    clear P1 P2 Q1 Q2 hVk hVb HI
    have HF := Lib.hid hF
    have HVl := Lib.hid HQ1.out.lt
    clear hF
    gi_wp2_with (refine wpListIn_of_list rfl rfl rfl (wpList_load_row rfl 30 _ rfl U.heap.size rfl 30 (cellsOf .u8 (mk 32 G)) (0, 0) _ HQ1.out sumUnder rfl (sumSize _) ⟨rfl, rfl, rfl⟩) ?_)
    gi_loopw [24] (fun v wr => ∃ k : Nat, k ≤ 32 ∧ v = .int .i64 k ∧ 32 * x + k < N ∧ DerI w w.heap.size M N s K (32 * x + k) wr ∧ Aft w4.heap.size V wr) (fun v _ => 32 - (intOf v).toNat)
    case atStart => exact ⟨0, by omega, rfl, hlt, HQ2.out, Aft.refl _ _⟩
    case round =>
      clear HQ2 HQ1
      obtain ⟨k, hk, rfl, hkN, hz, hb⟩ := hrel
      by_cases h8 : k < 32
      · have e1 : (k : Int) < 32 := by omega
        have ix := run_index_at 30 32 G sumUnder byteElem h8
        have hz2c : wr.cell? ⟨w.heap.size + 1 + 1, 0, none⟩ = some (.slice (some ⟨w.heap.size + 1, 0, none⟩) (32 * x + k) N) := cell_of_one hz.2.1
        have hwr := hb.size
        have hVl := HVl.out
        have hgk : G k = derF K s (32 * x + k) := (HF.out k h8).symm
        have hsz0 : w.heap.size + 3 < wr.heap.size := block_lt_of_cell hz.2.2.2.1.1
        have HZ := Lib.hid hz; have HB := Lib.hid hb
        clear hz hb
        obtain ⟨q, hq⟩ : ∃ q, 32 * x + k = q := ⟨_, rfl⟩
        rw [hq] at HZ hgk hz2c hkN
        have hz1c : wr.cell? ⟨w.heap.size, 0, none⟩ = some (.int .i64 N) := HZ.out.1
        generalize G k = gk at *
        have HGK := Lib.hid hgk
        clear hgk
        gi_wp2_with (first
          | (refine wpListIn_of_list rfl rfl rfl (wpList_buildFlat rfl 22 5 1 _ rfl .u8 [(gk : Int)] bytesUnder byteInfo (by rw [byteZero1]; rfl) rfl (by omega) (by omega) rfl ⟨rfl, rfl, rfl⟩) ?_)
          | (refine wpListIn_of_list rfl rfl rfl (wpList_append_in rfl _ _ rfl (w.heap.size + 1) q N gk wr.heap.size 1 (derTo K s q) rfl rfl ((HZ.out.2.2.1).alloc _) hkN (by
               have := heap_alloc_new wr (.cells #[.int .u8 (gk : Nat)] 5)
               exact cell_of_one this) ⟨rfl, rfl, rfl⟩) ?_
             have B6 : Below wr.heap.size wr (wr.alloc (.cells #[.int .u8 (gk : Nat)] 5)) := (Below.refl _ _).alloc (Nat.le_refl _) _
             have S6 := (HZ.out.below B6 hsz0 (HZ.out.2.2.2.1.2.1.lt) (by omega)).step (Nat.le_refl _) HT.out HGK.out
             have A6 : Aft w4.heap.size wr (((wr.alloc (.cells #[.int .u8 (gk : Nat)] 5)).setRow (w.heap.size + 1) (cellsOf .u8 (mk N (put (derTo K s q) q 1 (fun _ => gk))))).setCell ⟨w.heap.size + 2, 0, none⟩ (.slice (some ⟨w.heap.size + 1, 0, none⟩) (q + 1) N)) := by
               refine Aft.setCell ?_ (by show w.heap.size + 2 < w4.heap.size; omega) _
               refine (Aft.of_below _ B6).trans ⟨by simp, fun j hj _ => setRow_other _ _ j _ (by omega)⟩
             have F6 : ((wr.alloc (.cells #[.int .u8 (gk : Nat)] 5)).setRow (w.heap.size + 1) (cellsOf .u8 (mk N (put (derTo K s q) q 1 (fun _ => gk))))).heap[w.heap.size + 2]? = some (.cells #[.slice (some ⟨w.heap.size + 1, 0, none⟩) q N] 22 (0, 0)) := (setRow_other _ (w.heap.size + 1) (w.heap.size + 2) _ (by omega)).trans ((B6.block _ (by omega)).trans HZ.out.2.1)
             have HS6 := Lib.hid S6; have HA6 := Lib.hid A6
             generalize (wr.alloc (.cells #[.int .u8 (gk : Nat)] 5)).setRow (w.heap.size + 1) (cellsOf .u8 (mk N (put (derTo K s q) q 1 (fun _ => gk)))) = w6 at *
             have C6 : w6.cell? ⟨w.heap.size + 1 + 1, 0, none⟩ = some (.slice (some ⟨w.heap.size + 1, 0, none⟩) q N) := cell_of_one F6
             have E6 : w6.frozen? ⟨w.heap.size + 1 + 1, 0, none⟩ = false := free_of_one F6
             have D6 : (w6.setCell ⟨w.heap.size + 1 + 1, 0, none⟩ (.slice (some ⟨w.heap.size + 1, 0, none⟩) (q + 1) N)).cell? ⟨w.heap.size + 1 + 1, 0, none⟩ = some (.slice (some ⟨w.heap.size + 1, 0, none⟩) (q + 1) N) := cell_of_one S6.2.1
             have G6 : (w6.setCell ⟨w.heap.size + 1 + 1, 0, none⟩ (.slice (some ⟨w.heap.size + 1, 0, none⟩) (q + 1) N)).cell? ⟨w.heap.size, 0, none⟩ = some (.int .i64 N) := S6.1
             clear B6 S6 A6 F6))
        · rename_i hcnd
          have hcd : ((q : Int) + 1 == (N : Int)) = true := by assumption
          have hqN : q + 1 = N := by simp at hcd; omega
          refine ⟨HB.out.trans HA6.out, rfl, ?_⟩
          have := HS6.out
          rw [hqN] at this ⊢
          exact this
        · have hcd : ((q : Int) + 1 == (N : Int)) = false := by assumption
          have hqN : q + 1 ≠ N := fun h => by
            have hcd2 : ((q : Int) + 1 == (N : Int)) = true := by simp; omega
            rw [hcd] at hcd2; cases hcd2
          refine ⟨⟨k + 1, by omega, by go_num, by omega, ?_, HB.out.trans HA6.out⟩, by simp [intOf]; omega⟩
          rw [show 32 * x + (k + 1) = q + 1 by omega]
          exact HS6.out
      · have e8 : k = 32 := by omega
        have hd1 : decide ((k : Int) < 32) = false := by simp; omega
        rw [e8] at hz hkN
        have HZ := Lib.hid hz; have HB := Lib.hid hb
        clear hz hb
        gi_wp2
        exact ⟨HB.out, by omega, by rw [show 32 * (x + 1) = 32 * x + 32 by omega]; exact HZ.out⟩
end Go.Proofs.YtfjbehobpkmjbaaDoor
