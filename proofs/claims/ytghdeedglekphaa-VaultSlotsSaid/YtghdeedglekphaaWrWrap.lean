/- The contract of package wrap's Wrap: a text wrapped, in memory of its own, or an error. Conditions: the bytes are bytes; lengths are what a machine holds. -/
import Derived.Test.YtghdeedglekphaaWrSteps
import Derived.Test.YtghdeedglekphaaWrAux
namespace Go.Proofs.Ytghdeedglekphaa
open Go.ChangeShapes Go.WideShapes Go.ChangeAt Go.RowKit Go.Shelf
attribute [local go_sem] Oper.semAt_some
set_option linter.unusedVariables false

/-- A row whose first eight bytes are still noughts. -/
def hd0 (S : Nat → Nat) : Nat → Nat := fun p => if p < 8 then 0 else S p
theorem hd0_start (L : Nat) (F : Nat → Nat) {n : Nat} (h : L = 8 + n) : mk L (put zeroK 8 n F) = mk L (hd0 (ini F)) := mk_ext fun p hp => by
  unfold put hd0 ini zeroK
  by_cases h8 : p < 8
  · rw [if_pos h8, if_neg (by omega)]
  · rw [if_neg h8, if_pos (by omega), if_neg h8]
theorem hd0_lay (L : Nat) (S k : Nat → Nat) (i : Nat) : mk L (put (hd0 S) (8 + 8 * i) 8 (fun j => k (8 + j))) = mk L (hd0 (lay S i k)) := mk_ext fun p hp => by
  unfold put hd0 lay
  by_cases h8 : p < 8
  · simp only [if_pos h8]; rw [if_neg (by omega)]
  · simp only [if_neg h8]
    by_cases h : 8 * i + 8 ≤ p ∧ p < 8 * i + 16
    · rw [if_pos h, if_pos (by omega), show 8 + (p - (8 + 8 * i)) = p - 8 * i by omega]
    · rw [if_neg h, if_neg (by omega)]
theorem hd0_end (L : Nat) (S f : Nat → Nat) (h : ∀ j, j < 8 → f j = S j) : mk L (put (hd0 S) 0 8 f) = mk L S := mk_ext fun p hp => by
  unfold put hd0
  by_cases h8 : p < 8
  · rw [if_pos (by omega), Nat.sub_zero]; exact h p h8
  · rw [if_neg (by omega), if_neg h8]
/-- A block with word i behind A. -/
theorem gl_put (S f : Nat → Nat) (c : Nat) (h : ∀ j, j < 8 → f j = S j) : mk 16 (put f 8 8 (fun j => hd0 S (8 + 8 * c + j))) = mk 16 (gl S c) := mk_ext fun j hj => by
  unfold put gl hd0
  by_cases h8 : j < 8
  · rw [if_neg (by omega), if_pos h8]; exact h j h8
  · rw [if_pos (by omega), if_neg h8]
    show (if 8 + 8 * c + (j - 8) < 8 then 0 else S (8 + 8 * c + (j - 8))) = _
    rw [if_neg (by omega), show 8 + 8 * c + (j - 8) = 8 * c + j by omega]
theorem Aft.setRow {B : Nat} {W W' : World} (h : Aft B W W') {g : Nat} (hg : g < B) (cs : Array Value) : Aft B W (W'.setRow g cs) := h.trans ⟨by simp, fun k hk _ => setRow_other W' g k cs (by omega)⟩
/-- While a text is wrapped: the row, A's block, and what else the loop reads. -/
structure WrQ (w1 : World) (K D T L tn m : Nat) (F f : Nat → Nat) (V : World) : Prop where
  rnd : V.heap[w1.heap.size]? = some (.cells #[.slice (some ⟨D, 0, none⟩) T T] 61 (0, 0))
  row : IntBlk V (w1.heap.size + 1) .u8 5 (mk L F)
  wds : V.heap[w1.heap.size + 1 + 1]? = some (.cells #[.slice (some ⟨w1.heap.size + 1, 8, none⟩) tn tn] 22 (0, 0))
  key : IntBlk V K .u8 65 (mk 16 f)
  num : V.heap[K + 1]? = some (.cells #[.int .i64 m] 3 (0, 0))
  low : Below w1.heap.size w1 V
  big : K + 2 ≤ V.heap.size
  far : w1.heap.size + 3 ≤ K
section
variable {w1 : World} {K D T L tn m : Nat} {F f : Nat → Nat} {V V' : World}
theorem WrQ.below (h : WrQ w1 K D T L tn m F f V) (hb : Below (K + 2) V V') : WrQ w1 K D T L tn m F f V' := by
  have hf := h.far
  exact ⟨(hb.block _ (by omega)).trans h.rnd, h.row.below hb (by omega), (hb.block _ (by omega)).trans h.wds, h.key.below hb (by omega), (hb.block _ (by omega)).trans h.num, h.low.trans (hb.mono (by omega)), Nat.le_trans h.big hb.size, hf⟩
theorem wrQ_setK (h : WrQ w1 K D T L tn m F f V) (f' : Nat → Nat) : WrQ w1 K D T L tn m F f' (V.setRow K (cellsOf .u8 (mk 16 f'))) := by
  have hf := h.far
  exact ⟨(setRow_other V _ _ _ (by omega)).trans h.rnd, h.row.otherRow (by omega) _, (setRow_other V _ _ _ (by omega)).trans h.wds, h.key.setRow .u8 _, (setRow_other V _ _ _ (by omega)).trans h.num, below_setRow h.low (by omega) _, by have := h.big; simp; omega, hf⟩
theorem wrQ_setF (h : WrQ w1 K D T L tn m F f V) (F' : Nat → Nat) : WrQ w1 K D T L tn m F' f (V.setRow (w1.heap.size + 1) (cellsOf .u8 (mk L F'))) := by
  have hf := h.far
  exact ⟨(setRow_other V _ _ _ (by omega)).trans h.rnd, h.row.setRow .u8 _, (setRow_other V _ _ _ (by omega)).trans h.wds, h.key.otherRow (by omega) _, (setRow_other V _ _ _ (by omega)).trans h.num, below_setRow h.low (by omega) _, by have := h.big; simp; omega, hf⟩
end
theorem heap_alloc_third (w : World) (o0 o1 o2 : Obj) : (((w.alloc o0).alloc o1).alloc o2).heap[w.heap.size + 1 + 1]? = some o2 := by
  have h := World.alloc_heap_new ((w.alloc o0).alloc o1) o2
  rw [World.size_alloc, World.size_alloc] at h; exact h
set_option maxRecDepth 100000 in
set_option maxHeartbeats 2000000 in
theorem Wrap_ok (p : Option Addr) (n cap N : Nat) (g : Nat → Nat) (q : Option Addr) (tn tcap m : Nat) (G : Nat → Nat) (hn : n = 4 * N) (hN : N = 4 ∨ N = 8) (hcap : n ≤ cap) (hg : ∀ i, i < n → g i < 256)
    (ht : tn = 8 * m) (h2 : 2 ≤ m) (h64 : m ≤ 64) (hG : ∀ i, i < tn → G i < 256) (w : World) (hp : BytesAt w p n g) (hq : BytesAt w q tn G) :
    Calls Try.prog 16 #[.slice p n cap, .slice q tn tcap] w fun e w' => ∃ D, e = .returned (.tuple #[.slice (some ⟨D, 0, none⟩) (tn + 8) (tn + 8), .nilIface]) ∧ IntBlk w' D .u8 5 (mk (tn + 8) (wrpN (rkS N g) (N + 7) m G)) ∧ w.heap.size ≤ D ∧ Below w.heap.size w w' := by
  obtain ⟨Bq, oq, rfl, hlq, hcq⟩ : ∃ B o, q = some ⟨B, o, none⟩ ∧ B < w.heap.size ∧ Cells w B o tn G := by
    rcases hq with h | h
    · omega
    · exact h
  obtain ⟨L, hL⟩ : ∃ L, L = tn + 8 := ⟨_, rfl⟩
  have PC := Lib.hid (prepare_ok p n cap N g (some ⟨Bq, oq, none⟩) tn tcap 0 m hn hN hcap hg (by omega) h2 h64 (by omega) w hp)
  have hR : ∀ i, i < N + 7 → IsKey (rkS N g i) := fun i _ => rkS_key (fun i hi => hg i (by omega)) i
  have hT : N + 7 < 4294967296 := by omega
  have e1 : IntKind.i64.wrap ((m : Int) + 1) = (m : Int) + 1 := IntWalk.i64_in _ (by omega)
  have e2 : IntKind.i64.wrap (8 * ((m : Int) + 1)) = (L : Int) := by rw [IntWalk.i64_in _ (by omega)]; omega
  have e3 : 8 ≤ L := by omega
  have hL5 : L ≤ 100000 := by omega
  have e5 : L - 8 = tn := by omega
  have e4 : ¬ L = 8 := by omega
  rw [← hL]
  generalize rkS N g = R at *
  generalize N + 7 = T at *
  have HCQ := Lib.hid hcq; have HL := Lib.hid hL; have HT := Lib.hid ht
  clear hcq hL ht hn hN hcap hg hp hq
  refine (callsIn_wide (n := 3)).1 ?_
  refine callsIn_of_wp_marks Try.func16 rfl trivial ?_ rfl
  simp only [Try.ntmps16, List.size_toArray, List.length_cons, List.length_nil, Nat.reduceAdd, Nat.reduceSub, Array.replicate_succ, Array.replicate_zero, List.push_toArray, List.append_toArray, List.nil_append, List.cons_append]
  refine wpIn_wide.2 ?_
  go_wp2_with (first
    | (go_at_call 21; refine PC.out.mono ?_; rintro e w1 ⟨D, rfl, hk, hb⟩
       have K1 := Lib.hid hk; have B1 := Lib.hid hb
       clear hk hb PC)
    | (refine wpList_make_noughts rfl _ _ rfl L hL5 rfl rfl ?_)
    | (refine wpList_copy_part rfl _ _ 22 22 rfl 5 bytesUnder2 bytesInfo1 (w1.heap.size + 1) 8 tn tn Bq oq tn tcap tn L zeroK G rfl rfl 5 ?q1 ?q2 ?q3 ?q4 ?_
       case q1 => exact blk_second w1 .u8 5 (mk L zeroK) _ _
       case q2 => omega
       case q3 => exact (Nat.min_self tn).symm
       case q4 => exact HCQ.out.below (B1.out.trans ((below_three w1 _ _ _).mono B1.out.size)) hlq
       rw [hd0_start L G (by omega)]
       have r4 := (setRow_other (((w1.alloc (.cells #[.slice (some ⟨D, 0, none⟩) T T] 61)).alloc (.cells (cellsOf .u8 (mk L zeroK)) 5)).alloc (.cells #[.slice (some ⟨w1.heap.size + 1, 8, none⟩) tn tn] 22)) (w1.heap.size + 1) w1.heap.size (cellsOf .u8 (mk L (hd0 (ini G)))) (by omega)).trans
         ((below_two (w1.alloc (.cells #[.slice (some ⟨D, 0, none⟩) T T] 61)) (.cells (cellsOf .u8 (mk L zeroK)) 5) (.cells #[.slice (some ⟨w1.heap.size + 1, 8, none⟩) tn tn] 22)).block w1.heap.size (by simp) |>.trans (heap_alloc_new _ _))
       have z4 := (blk_second w1 .u8 5 (mk L zeroK) (.cells #[.slice (some ⟨D, 0, none⟩) T T] 61) (.cells #[.slice (some ⟨w1.heap.size + 1, 8, none⟩) tn tn] 22)).setRow .u8 (mk L (hd0 (ini G)))
       have x4 := (setRow_other (((w1.alloc (.cells #[.slice (some ⟨D, 0, none⟩) T T] 61)).alloc (.cells (cellsOf .u8 (mk L zeroK)) 5)).alloc (.cells #[.slice (some ⟨w1.heap.size + 1, 8, none⟩) tn tn] 22)) (w1.heap.size + 1) (w1.heap.size + 1 + 1) (cellsOf .u8 (mk L (hd0 (ini G)))) (by omega)).trans
         (heap_alloc_third w1 (.cells #[.slice (some ⟨D, 0, none⟩) T T] 61) (.cells (cellsOf .u8 (mk L zeroK)) 5) (.cells #[.slice (some ⟨w1.heap.size + 1, 8, none⟩) tn tn] 22))
       have b4 := below_setRow (g := w1.heap.size + 1) (below_three w1 (.cells #[.slice (some ⟨D, 0, none⟩) T T] 61) (.cells (cellsOf .u8 (mk L zeroK)) 5) (.cells #[.slice (some ⟨w1.heap.size + 1, 8, none⟩) tn tn] 22)) (by omega) (cellsOf .u8 (mk L (hd0 (ini G))))
       change wpList _ _ _ _ _ (World.setRow (((w1.alloc (.cells #[.slice (some ⟨D, 0, none⟩) T T] 61)).alloc (.cells (cellsOf .u8 (mk L zeroK)) 5)).alloc (.cells #[.slice (some ⟨w1.heap.size + 1, 8, none⟩) tn tn] 22)) _ _)
       generalize World.setRow (((w1.alloc (.cells #[.slice (some ⟨D, 0, none⟩) T T] 61)).alloc (.cells (cellsOf .u8 (mk L zeroK)) 5)).alloc (.cells #[.slice (some ⟨w1.heap.size + 1, 8, none⟩) tn tn] 22)) _ _ = w4 at *
       have R4 := Lib.hid r4; have Z4 := Lib.hid z4; have X4 := Lib.hid x4; have B4 := Lib.hid b4
       clear r4 z4 x4 b4)
    | (go_at_call 22; refine (start_any _).mono ?_; rintro e w5 ⟨rfl, hb⟩
       have R5 := Lib.hid ((hb.block _ (lt_of_block R4.out)).trans R4.out)
       have Z5 := Lib.hid (Z4.out.below hb Z4.out.lt)
       have X5 := Lib.hid ((hb.block _ (lt_of_block X4.out)).trans X4.out)
       have hlt5 := Nat.lt_of_lt_of_le (lt_of_block X4.out) hb.size
       have B5 := Lib.hid (B4.out.trans (hb.mono B4.out.size))
       clear hb R4 Z4 X4 B4)
    | (refine store_row_on rfl 65 _ _ rfl rfl w5.heap.size (cellsOf .u8 (mk 16 staK)) rfl rfl 65 (cellsOf .u8 (mk 16 zeroK)) (IntBlk.new w5 .u8 _ (mk 16 zeroK)) (keySize _) (by rw [cellsOf_size, cellsOf_size, mk_len, mk_len]) (cellsOf_one _ _) ?_)
    | (go_at_call 23; refine (Steps_any _ _).mono ?_; rintro e w6 ⟨rfl, hw6⟩))
  have s6 : w6.heap.size = w5.heap.size + 2 := by subst hw6; simp
  obtain ⟨K, hK⟩ : ∃ K, w5.heap.size = K := ⟨_, rfl⟩
  have hI0 : WrQ w1 K D T L tn m (hd0 (ini G)) staK w6 := by
    subst hw6 hK
    have a5 : Below w5.heap.size w5 (w5.alloc (.cells (cellsOf .u8 (mk 16 zeroK)) 65)) := (Below.refl _ _).alloc (Nat.le_refl _) _
    have b5 : Below w5.heap.size w5 ((w5.alloc (.cells (cellsOf .u8 (mk 16 zeroK)) 65)).setRow w5.heap.size (cellsOf .u8 (mk 16 staK))) := below_setRow a5 (Nat.le_refl _) _
    have c5 : Below w5.heap.size w5 (((w5.alloc (.cells (cellsOf .u8 (mk 16 zeroK)) 65)).setRow w5.heap.size (cellsOf .u8 (mk 16 staK))).alloc (.cells #[.int .i64 m] 3)) := b5.alloc (by simp) _
    refine ⟨(c5.block _ (lt_of_block R5.out)).trans R5.out, Z5.out.below c5 Z5.out.lt, (c5.block _ (lt_of_block X5.out)).trans X5.out, ?_, ?_, B5.out.trans (c5.mono B5.out.size), by simp, hlt5⟩
    · exact ((IntBlk.new w5 .u8 65 (mk 16 zeroK)).setRow .u8 (mk 16 staK)).alloc _
    · have h := heap_alloc_new ((w5.alloc (.cells (cellsOf .u8 (mk 16 zeroK)) 65)).setRow w5.heap.size (cellsOf .u8 (mk 16 staK))) (.cells #[.int .i64 m] 3)
      have e : ((w5.alloc (.cells (cellsOf .u8 (mk 16 zeroK)) 65)).setRow w5.heap.size (cellsOf .u8 (mk 16 staK))).heap.size = w5.heap.size + 1 := by simp
      rw [e] at h
      exact h
  rw [hK] at s6 hlt5
  rw [hK]
  clear hK
  have HI := Lib.hid hI0
  clear hI0 hw6 R5 Z5 X5 B5
  obtain ⟨S, hS⟩ : ∃ S, wTo R T m (ini G) = S := ⟨_, rfl⟩
  have hS0 : S 0 = ini G := by rw [← hS]; rfl
  have hSs : ∀ i, S (i + 1) = lay (S i) (i % m) (numX (i + 1) (encK R T (gl (S i) (i % m)))) := fun i => by rw [← hS]; rfl
  have hSr : ∀ i, IsRow (8 * m + 8) (S i) := fun i => by
    rw [← hS]; exact wTo_row hR (by omega) (ini_row (fun j hj => hG j (by have := HT.out; omega))) i
  have hSe : wrpN R T m G = S (6 * m) := by rw [← hS]; rfl
  have HS0 := Lib.hid hS0; have HSs := Lib.hid hSs; have HSr := Lib.hid hSr; have HSe := Lib.hid hSe
  clear hS hS0 hSs hSr hSe
  refine (wpIn_wide (n := 3)).1 ?_
  refine range_ends rfl (by omega) (gf := 33) (lb := #[.pointer (some ⟨K + 1, 0, none⟩)]) rfl trivial (enters_of Try.func33 (by kernel_rfl) rfl)
    (stE m) (fun _ i _ x => x = i) (6 * m) (StR (K + 1) m) (fun _ => rfl)
    (fun i V => ∃ f, IsKey f ∧ (∀ j, j < 8 → f j = S i j) ∧ WrQ w1 K D T L tn m (hd0 (S i)) f V) (fun _ _ => False) ?rd ?st ?stx ⟨staK, staK_key, ?s0, ?s1⟩ (steps_gives _ (K + 1) m h2 h64) ?round ?done ?stop
  case s0 => intro j hj; rw [HS0.out]; unfold staK ini; rw [if_pos hj, if_pos hj]
  case s1 => rw [HS0.out]; exact HI.out
  case rd => exact fun i V ⟨f, _, _, h⟩ => cell_of_one h.num
  case st => exact fun i V V' ⟨f, h1, h2, h⟩ hb => ⟨f, h1, h2, h.below (by rw [s6] at hb; exact hb)⟩
  case stx => exact fun _ _ _ h _ => h
  case stop => exact fun _ _ _ _ h _ => h.elim
  case done =>
    rintro D V hD ⟨f, hf, hA, hq⟩ hd
    rw [s6] at hD
    have HQ := Lib.hid hq; have HD := Lib.hid hd; have HA := Lib.hid hA
    clear hq hd hA HI
    have h3' := Nat.min_eq_left (show 8 ≤ L from e3)
    have H3 := Lib.hid (show 8 = Nat.min 8 L from h3'.symm)
    have HC := Lib.hid (HQ.out.key.cells (o := 0) (n := 8) (by omega))
    have hKD := HQ.out.far
    go_wp2_with (first
      | (refine wpList_key_upto rfl _ _ rfl K 8 _ rfl rfl rfl (by omega) ?_)
      | (refine wpList_copy_part rfl _ _ 22 22 rfl 5 bytesUnder2 bytesInfo1 (w1.heap.size + 1) 0 L L K 0 8 16 8 L (hd0 (S (6 * m))) (fun j => f (0 + j)) rfl rfl 5 ?q1 ?q2 ?q3 ?q4 ?_
         case q1 => exact HQ.out.row
         case q2 => omega
         case q3 => exact H3.out
         case q4 => exact HC.out
         rw [hd0_end L (S (6 * m)) (fun j => f (0 + j)) (fun j hj => by rw [Nat.zero_add]; exact HA.out j hj)]
         have QE := wrQ_setF HQ.out (S (6 * m))
         have DE := (setRow_other V (w1.heap.size + 1) D (cellsOf .u8 (mk L (S (6 * m)))) (by omega)).trans HD.out
         generalize V.setRow (w1.heap.size + 1) (cellsOf .u8 (mk L (S (6 * m)))) = V2 at *))
    have hDw : w.heap.size ≤ D := by have := B1.out.size; omega
    have hBE := B1.out.trans (QE.low.mono B1.out.size)
    have hRE := QE.row
    clear HQ
    refine ⟨by simp, .inl ⟨_, _, rfl, run_takeDeferred DE, ?_⟩⟩
    exact ⟨_, results_tmp2 rfl _ _ _, w1.heap.size + 1, rfl, by rw [HSe.out]; exact cells_turn hRE DE rfl, by have := B1.out.size; omega, below_turn _ hBE hDw⟩
  case round =>
    rintro l i0 i U hl hi hus ⟨f, hf, hA, hq⟩ rfl
    rw [s6] at hus hl
    have HQ := Lib.hid hq; have HA := Lib.hid hA; have HF := Lib.hid hf
    clear hq hA hf HI
    have hc : i % m < m := Nat.mod_lt _ (by omega)
    obtain ⟨c, hcc⟩ : ∃ c, i % m = c := ⟨_, rfl⟩
    have hE : stE m i = #[.int .i64 ((i : Int) + 1), .int .i64 ((c : Int) + 1)] := by unfold stE; rw [hcc]
    have SX := HSs.out i
    rw [hcc] at hc SX
    rw [hE]
    have SXX := Lib.hid SX
    clear SX hcc hE
    gi_wp2
    refine ⟨Aft.refl _ _, fun V hVs hVk hVb => ?_⟩
    rw [s6] at hVb
    have QV := Lib.hid (HQ.out.below hVb)
    clear hVs hVk hVb HQ
    have c1 := cell_of_one QV.out.wds
    have c2 := cell_of_one QV.out.rnd
    have PA := Lib.hid (fun W => part_any (w1.heap.size + 1) 8 tn tn (c + 1) (by omega) (by have := HT.out; omega) (Nat.le_refl _) (by omega) W)
    rw [show ((c + 1 : Nat) : Int) = (c : Int) + 1 from rfl, Nat.add_sub_cancel] at PA
    have hgl : IsKey (gl (S i) c) := gl_key (HSr.out i) hc
    have hen : IsKey (encK R T (gl (S i) c)) := encK_key hR hgl
    have hcL : 8 + 8 * c + 8 ≤ L := by have := HT.out; have := HL.out; omega
    gi_wp2
    refine ⟨trivial, (CallsIn.inRound _ (callsIn_wide.2 (PA.out V))).mono ?_⟩
    rintro e W1 ⟨rfl, rfl⟩
    have G1 := Lib.hid (gl_put (S i) f c HA.out)
    have C1 := Lib.hid (QV.out.row.cells (o := 8 + 8 * c) (n := 8) hcL)
    generalize hgg : gl (S i) c = gk at *
    clear PA c1 hgg
    gi_wp2_with (first
      | (refine wpListIn_of_list rfl rfl rfl (wpList_key_from rfl _ _ rfl K rfl rfl ⟨rfl, rfl, rfl⟩) ?_)
      | (refine wpListIn_of_list rfl rfl rfl (wpList_copy_part rfl _ _ 22 22 rfl 5 bytesUnder2 bytesInfo1 K 8 8 8 (w1.heap.size + 1) (8 + 8 * c) 8 (tn - 8 * c) 8 16 f (fun j => hd0 (S i) (8 + 8 * c + j)) rfl rfl 65 QV.out.key (by omega) rfl C1.out ⟨rfl, rfl, rfl⟩) ?_
         rw [G1.out]
         have Q2 := Lib.hid (wrQ_setK QV.out gk)
         have A2 := Lib.hid ((Aft.refl (K + 2) V).setRow (g := K) (by omega) (cellsOf .u8 (mk 16 gk)))
         have c2 := cell_of_one Q2.out.rnd
         generalize V.setRow K (cellsOf .u8 (mk 16 gk)) = V2 at *
         clear G1 C1 QV)
      | (refine wpListIn_of_list rfl rfl rfl (wpList_load_row rfl 65 _ rfl K rfl 65 (cellsOf .u8 (mk 16 gk)) (0, 0) _ Q2.out.key keyUnder rfl (keySize _) ⟨rfl, rfl, rfl⟩) ?_))
    refine ⟨trivial, (CallsIn.inRound _ (callsIn_wide.2 (Encrypt_any (some ⟨D, 0, none⟩) T T R gk hR hgl hT V2 (K1.out.below Q2.out.low)))).mono ?_⟩
    rintro e V3 ⟨rfl, hb3⟩
    have Q3 := Lib.hid (Q2.out.below (hb3.mono Q2.out.big))
    have A3 := Lib.hid (A2.out.trans (Aft.of_below (K + 2) hb3))
    clear hb3 Q2 A2 c2
    have HN := Lib.hid (numX_key (t := i + 1) hen)
    have HL3 := Lib.hid (hd0_lay L (S i) (numX (i + 1) (encK R T gk)) c)
    have hen2 : (fun j => numX (i + 1) (encK R T gk) (8 + j)) = fun j => encK R T gk (8 + j) := funext fun j => by unfold numX; rw [if_neg (by omega)]
    rw [hen2] at HL3
    rw [← SXX.out] at HL3
    have HNA := Lib.hid (show ∀ j, j < 8 → numX (i + 1) (encK R T gk) j = S (i + 1) j from fun j hj => by rw [SXX.out]; unfold lay; rw [if_pos hj])
    have NC := Lib.hid (fun W => number_any (i + 1) (encK R T gk) hen W)
    rw [show ((i + 1 : Nat) : Int) = (i : Int) + 1 from rfl] at NC
    generalize encK R T gk = en at *
    clear hen2 hgl SXX
    gi_wp2_with (first
      | (refine wpListIn_of_list rfl rfl rfl (store_row_on rfl 65 _ _ rfl rfl K (cellsOf .u8 (mk 16 en)) rfl rfl 65 (cellsOf .u8 (mk 16 gk)) Q3.out.key (keySize _) (by rw [cellsOf_size, cellsOf_size, mk_len, mk_len]) (cellsOf_one _ _) ⟨rfl, rfl, rfl⟩) ?_
         have Q4 := Lib.hid (wrQ_setK Q3.out en)
         have A4 := Lib.hid (A3.out.setRow (g := K) (by omega) (cellsOf .u8 (mk 16 en)))
         have C4 := Lib.hid (Q4.out.key.cells (o := 8) (n := 8) (by omega))
         generalize V3.setRow K (cellsOf .u8 (mk 16 en)) = V4 at *
         clear Q3 A3)
      | (refine wpListIn_of_list rfl rfl rfl (wpList_key_from rfl _ _ rfl K rfl rfl ⟨rfl, rfl, rfl⟩) ?_)
      | (refine wpListIn_of_list rfl rfl rfl (wpList_copy_part rfl _ _ 22 22 rfl 5 bytesUnder2 bytesInfo1 (w1.heap.size + 1) (8 + 8 * c) 8 (tn - 8 * c) K 8 8 8 8 L (hd0 (S i)) (fun j => en (8 + j)) rfl rfl 5 Q4.out.row hcL rfl C4.out ⟨rfl, rfl, rfl⟩) ?_
         rw [HL3.out]
         have Q5 := Lib.hid (wrQ_setF Q4.out (hd0 (S (i + 1))))
         have A5 := Lib.hid (A4.out.setRow (g := w1.heap.size + 1) (by omega) (cellsOf .u8 (mk L (hd0 (S (i + 1))))))
         generalize V4.setRow (w1.heap.size + 1) (cellsOf .u8 (mk L (hd0 (S (i + 1))))) = V5 at *
         clear Q4 A4 C4 HL3)
      | (refine wpListIn_of_list rfl rfl rfl (wpList_load_row rfl 65 _ rfl K rfl 65 (cellsOf .u8 (mk 16 en)) (0, 0) _ Q5.out.key keyUnder rfl (keySize _) ⟨rfl, rfl, rfl⟩) ?_))
    refine ⟨trivial, (CallsIn.inRound _ (callsIn_wide.2 (NC.out V5))).mono ?_⟩
    rintro e V6 ⟨rfl, hb6⟩
    have Q6 := Lib.hid (Q5.out.below (hb6.mono Q5.out.big))
    have A6 := Lib.hid (A5.out.trans (Aft.of_below (K + 2) hb6))
    clear hb6 Q5 A5 NC
    gi_wp2_with (first
      | (refine wpListIn_of_list rfl rfl rfl (store_row_on rfl 65 _ _ rfl rfl K (cellsOf .u8 (mk 16 (numX (i + 1) en))) rfl rfl 65 (cellsOf .u8 (mk 16 en)) Q6.out.key (keySize _) (by rw [cellsOf_size, cellsOf_size, mk_len, mk_len]) (cellsOf_one _ _) ⟨rfl, rfl, rfl⟩) ?_))
    show Aft w6.heap.size V _ ∧ (∃ f, IsKey f ∧ (∀ j, j < 8 → f j = S (i + 1) j) ∧ WrQ w1 K D T L tn m (hd0 (S (i + 1))) f _)
    rw [s6]
    exact ⟨A6.out.setRow (by omega) _, _, HN.out, HNA.out, wrQ_setK Q6.out _⟩
set_option maxRecDepth 100000 in
set_option maxHeartbeats 2000000 in
/-- Another key, or a text of another length. -/
theorem Wrap_via (p : Option Addr) (n cap : Nat) (q : Option Addr) (tn tcap : Nat) (E : Int) (w : World)
    (hc : Calls Try.prog 21 #[.slice p n cap, .slice q tn tcap, .int .i64 0] w fun e w' => e = .returned (.tuple #[.slice none 0 0, .int .i64 0, .iface 33 (.int .i64 E)]) ∧ Below w.heap.size w w') :
    Calls Try.prog 16 #[.slice p n cap, .slice q tn tcap] w fun e w' => e = .returned (.tuple #[.slice none 0 0, .iface 33 (.int .i64 E)]) ∧ Below w.heap.size w w' := by
  have PC := Lib.hid hc
  clear hc
  refine (callsIn_wide (n := 3)).1 ?_
  refine callsIn_of_wp_marks Try.func16 rfl trivial ?_ rfl
  simp only [Try.ntmps16, List.size_toArray, List.length_cons, List.length_nil, Nat.reduceAdd, Nat.reduceSub, Array.replicate_succ, Array.replicate_zero, List.push_toArray, List.append_toArray, List.nil_append, List.cons_append]
  refine wpIn_wide.2 ?_
  go_wp2_with (first
    | (go_at_call 21; refine PC.out.mono ?_; rintro e w1 ⟨rfl, hb⟩
       have B1 := Lib.hid hb
       clear hb PC))
  exact ⟨_, results_tmp2 rfl _ _ _, rfl, B1.out.alloc B1.out.size _⟩
theorem Wrap_key (p : Option Addr) (n cap : Nat) (q : Option Addr) (tn tcap : Nat) (h16 : n ≠ 16) (h32 : n ≠ 32) (w : World) :
    Calls Try.prog 16 #[.slice p n cap, .slice q tn tcap] w fun e w' => e = .returned (.tuple #[.slice none 0 0, .iface 33 (.int .i64 3)]) ∧ Below w.heap.size w w' :=
  Wrap_via p n cap q tn tcap 3 w ((prepare_key p n cap q tn tcap 0 h16 h32 w).mono fun e w' ⟨he, hw⟩ => ⟨he, by rw [← hw]; exact Below.refl _ _⟩)
theorem Wrap_form (p : Option Addr) (n cap N : Nat) (g : Nat → Nat) (q : Option Addr) (tn tcap : Nat) (hn : n = 4 * N) (hN : N = 4 ∨ N = 8) (hcap : n ≤ cap) (hg : ∀ i, i < n → g i < 256)
    (htn : tn < 9223372036854775808) (ht : tn % 8 ≠ 0 ∨ tn < 16 ∨ 512 < tn) (w : World) (hp : BytesAt w p n g) :
    Calls Try.prog 16 #[.slice p n cap, .slice q tn tcap] w fun e w' => e = .returned (.tuple #[.slice none 0 0, .iface 33 (.int .i64 2)]) ∧ Below w.heap.size w w' :=
  Wrap_via p n cap q tn tcap 2 w (prepare_form p n cap N g q tn tcap 0 hn hN hcap hg htn (by omega) (by omega) w hp)
end Go.Proofs.Ytghdeedglekphaa
