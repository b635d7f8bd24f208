/- A text's blocks are hidden by package tweak with the tweaks of their places: the statement TweakStands. No condition. -/
import Derived.Test.YtklnnmlegagfoaaKeyT
import Derived.Test.YtklnnmlegagfoaaOpenT
namespace Go.Proofs.Ytklnnmlegagfoaa.tweakStands
open Go.ChangeShapes Go.WideShapes Go.ChangeAt Go.RowKit Go.Shelf
set_option linter.unusedVariables false
attribute [local go_sem] Oper.semAt_some

theorem own : ownKnob Try.prog.godebug = none := by kernel_rfl
attribute [local irreducible] encK rkS twF numK wB txtW twk

/-- The boxes of key, text and answer. -/
structure StB (w : World) (S : Nat) (p : Option Addr) (n cap : Nat) (q : Option Addr) (tn tcap : Nat) (W : World) : Prop where
  bp : W.heap[S]? = some (.cells #[.slice p n cap] 22 (0, 0))
  bq : W.heap[S + 1]? = some (.cells #[.slice q tn tcap] 22 (0, 0))
  br : BoolBlk W (S + 1 + 1) 4 false
  low : Below S w W
theorem StB.below {w : World} {S : Nat} {p : Option Addr} {n cap : Nat} {q : Option Addr} {tn tcap : Nat} {W W' : World} {M : Nat} (h : StB w S p n cap q tn tcap W) (hb : Below M W W') (hM : S + 3 ≤ M) : StB w S p n cap q tn tcap W' :=
  ⟨(hb.block _ (by omega)).trans h.bp, (hb.block _ (by omega)).trans h.bq, BoolBlk.below h.br hb (by omega), h.low.trans (hb.mono (by omega))⟩
theorem stB_start (w : World) (p : Option Addr) (n cap : Nat) (q : Option Addr) (tn tcap : Nat) :
    StB w w.heap.size p n cap q tn tcap (((w.alloc (.cells #[.slice p n cap] 22)).alloc (.cells #[.slice q tn tcap] 22)).alloc (.cells #[.bool false] 4)) := by
  refine ⟨?_, ?_, ?_, below_three w _ _ _⟩
  · exact ((below_two (w.alloc (.cells #[.slice p n cap] 22)) _ _).block w.heap.size (by simp)).trans (heap_alloc_new _ _)
  · have e := heap_alloc_new (w.alloc (.cells #[.slice p n cap] 22)) (.cells #[.slice q tn tcap] 22)
    rw [World.size_alloc] at e
    exact (((Below.refl _ _).alloc (Nat.le_refl _) _).block (w.heap.size + 1) (by simp)).trans e
  · have e := World.alloc_heap_new ((w.alloc (.cells #[.slice p n cap] 22)).alloc (.cells #[.slice q tn tcap] 22)) (.cells #[.bool false] 4)
    rw [World.size_alloc, World.size_alloc] at e
    exact e

set_option maxRecDepth 100000 in
set_option maxHeartbeats 40000000 in
theorem stands_any (p : Option Addr) (n cap : Nat) (g : Nat → Nat) (z z2 : Int) (q : Option Addr) (tn tcap : Nat) (G : Nat → Nat) (hg : ∀ i, i < n → g i < 256) (hcap : n ≤ cap) (hG : ∀ i, i < tn → G i < 256) (htcap : tn ≤ tcap) (w : World) (hp : BytesAt w p n g) (hq : BytesAt w q tn G) :
    Calls Try.prog 31 #[.slice p n cap, .int .i64 z, .int .i64 z2, .slice q tn tcap] w fun e w' => e = .returned (.bool true) ∧ Below w.heap.size w w' := by
  have S0 := Lib.hid (stB_start w p n cap q tn tcap)
  have AL := Lib.hid (alive_any (((w.alloc (.cells #[.slice p n cap] 22)).alloc (.cells #[.slice q tn tcap] 22)).alloc (.cells #[.bool false] 4)))
  refine (callsIn_wide (n := 3)).1 ?_
  refine callsIn_of_wp_marks Try.func31 rfl trivial ?_ rfl
  simp only [Try.ntmps31, List.size_toArray, List.length_cons, List.length_nil, Nat.reduceAdd, Nat.reduceSub, Array.replicate_succ, Array.replicate_zero, List.push_toArray, List.append_toArray, List.nil_append, List.cons_append]
  refine wpIn_wide.2 ?_
  by_cases hk : n ≠ 32 ∧ n ≠ 64
  · have t1 : ((n : Int) != 32) = true := by simp; omega
    have t2 : ((n : Int) != 64) = true := by simp; omega
    go_wp2_with (first
          | (go_at_call 16; refine AL.out.mono ?_; rintro e w1 ⟨rfl, hb1⟩
             have s1 := S0.out.below hb1 (by simp)
             have c4 := cell_of_one s1.bp
             have c7 := cell_of_one s1.bq
             have cb := cell_of_one s1.br
             have fb := free_of_one s1.br
             have S1 := Lib.hid s1
             clear s1 hb1 S0 AL))
    have hc : (w1.setCell ⟨w.heap.size + 1 + 1, 0, none⟩ (.bool true)).cell? ⟨w.heap.size + 1 + 1, 0, none⟩ = some (.bool true) := cell_of_one (one_setCell S1.out.br)
    refine ⟨.bool true, ?_, rfl, S1.out.low.setCell (by show w.heap.size ≤ w.heap.size + 1 + 1; omega) _⟩
    simp [results, Try.f31, go_sem, hc]
  · obtain ⟨N, hN, hnN⟩ : ∃ N, (N = 4 ∨ N = 8) ∧ n = 8 * N := by
      rcases (show n = 32 ∨ n = 64 by omega) with h | h
      · exact ⟨4, .inl rfl, h⟩
      · exact ⟨8, .inr rfl, h⟩
    rcases (show (((n : Int) != 32) = false) ∨ (((n : Int) != 32) = true ∧ ((n : Int) != 64) = false) by simp; omega) with t1 | ⟨t1, t2⟩
    all_goals
      by_cases hs : tn < 16
      · have d1 : decide ((tn : Int) < 16) = true := by simp; omega
        have d1b : decide (tn < 16) = true := by simp; omega
        clear hN hnN hk
        go_wp2_with (first
              | (go_at_call 16; refine AL.out.mono ?_; rintro e w1 ⟨rfl, hb1⟩
                 have s1 := S0.out.below hb1 (by simp)
                 have c4 := cell_of_one s1.bp
                 have c7 := cell_of_one s1.bq
                 have cb := cell_of_one s1.br
                 have fb := free_of_one s1.br
                 have S1 := Lib.hid s1
                 clear s1 hb1 S0 AL))
        have hc : (w1.setCell ⟨w.heap.size + 1 + 1, 0, none⟩ (.bool true)).cell? ⟨w.heap.size + 1 + 1, 0, none⟩ = some (.bool true) := cell_of_one (one_setCell S1.out.br)
        refine ⟨.bool true, ?_, rfl, S1.out.low.setCell (by show w.heap.size ≤ w.heap.size + 1 + 1; omega) _⟩
        simp [results, Try.f31, go_sem, hc]
      · have d1 : decide ((tn : Int) < 16) = false := by simp; omega
        have d1b : decide (tn < 16) = false := by simp; omega
        by_cases hl : 1000 < tn
        · have d2 : decide ((1000 : Int) < (tn : Int)) = true := by simp; omega
          have d3 : decide (1000 < tn) = true := by simp; omega
          clear hN hnN hk
          go_wp2_with (first
                | (go_at_call 16; refine AL.out.mono ?_; rintro e w1 ⟨rfl, hb1⟩
                   have s1 := S0.out.below hb1 (by simp)
                   have c4 := cell_of_one s1.bp
                   have c7 := cell_of_one s1.bq
                   have cb := cell_of_one s1.br
                   have fb := free_of_one s1.br
                   have S1 := Lib.hid s1
                   clear s1 hb1 S0 AL))
          have hc : (w1.setCell ⟨w.heap.size + 1 + 1, 0, none⟩ (.bool true)).cell? ⟨w.heap.size + 1 + 1, 0, none⟩ = some (.bool true) := cell_of_one (one_setCell S1.out.br)
          refine ⟨.bool true, ?_, rfl, S1.out.low.setCell (by show w.heap.size ≤ w.heap.size + 1 + 1; omega) _⟩
          simp [results, Try.f31, go_sem, hc]
        · have d2 : decide ((1000 : Int) < (tn : Int)) = false := by simp; omega
          have d3 : decide (1000 < tn) = false := by simp; omega
          have ht1 : 16 ≤ tn := by omega
          have ht2 : tn ≤ 65536 := by omega
          have hnb : n < 9223372036854775808 := by omega
          have htb : tn < 9223372036854775808 := by omega
          have hh : n / 2 ≤ cap := by omega
          have hh2 : n / 2 ≤ n := by omega
          have h4 : n / 2 = 4 * N := by omega
          have h5 : n - n / 2 = 4 * N := by omega
          have kt : IsKey (twF N (fun j => g (n / 2 + j)) z) := twF_key z (fun i hi => hg _ (by omega))
          have hr : ∀ i, i < N + 7 → IsKey (rkS N g i) := fun i _ => rkS_key (fun i hi => hg i (by omega)) i
          have HR := Lib.hid hr; have HKT := Lib.hid kt
          have H1 := Lib.hid (fun (W : World) (h1 : BytesAt W p n g) (h2 : BytesAt W q tn G) => Hide_ok p n cap N g z q tn tcap G hnN hN hcap hg ht1 ht2 hG W h1 h2)
          have H2 := Lib.hid (fun (W : World) (h1 : BytesAt W p n g) (h2 : BytesAt W q tn G) => Hide_ok p n cap N g z2 q tn tcap G hnN hN hcap hg ht1 ht2 hG W h1 h2)
          have TC := Lib.hid (fun (p2 : Option Addr) (w1 : World) (h : BytesAt w1 p2 (n - n / 2) (fun j => g (n / 2 + j))) => Tweak_ok p2 (n - n / 2) (cap - n / 2) N (fun j => g (n / 2 + j)) z h5 hN (by omega) (fun i hi => hg _ (by omega)) w1 h)
          have BC := Lib.hid (fun (t f : Nat → Nat) (ht : IsKey t) (hf : IsKey f) (W : World) (h : BytesAt W p n g) => HideBlock_ok p (n / 2) cap N g t f h4 hN hh (fun i hi => hg i (by omega)) ht hf W (h.upto hh2))
          have HP := Lib.hid hp; have HQ := Lib.hid hq
          clear hN hnN hk hg hp hq hs hl h4 h5 kt hr
          generalize hTz : twF N (fun j => g (n / 2 + j)) z = t at *
          generalize rkS N g = R at *
          generalize N + 7 = T at *
          have hal : (if tn % 16 = 0 then ((tn : Int) / 16 = ((aloneN tn : Nat) : Int)) else ((tn : Int) / 16 - 1 = ((aloneN tn : Nat) : Int))) := by unfold aloneN; split <;> omega
          have dmc : tn % 16 = 0 ∨ tn % 16 ≠ 0 := by omega
          by_cases hzz : z = z2
          case' pos =>
            have tz : (z == z2) = true := by simp [hzz]
            have ht2 : twF N (fun j => g (n / 2 + j)) z2 = t := by rw [← hzz]; exact hTz
          case' neg =>
            have tz : (z == z2) = false := by simp [hzz]
            have ht2 : True := trivial
          all_goals
           rcases dmc with hm | hm
           case' inl =>
            rw [if_pos hm] at hal
            have dm : decide (0 < (tn : Int) % 16) = false := by simp; omega
            have dm2 : decide (0 < tn % 16) = false := by simp; omega
           case' inr =>
            rw [if_neg hm] at hal
            have dm : decide (0 < (tn : Int) % 16) = true := by simp; omega
            have dm2 : decide (0 < tn % 16) = true := by simp; omega
           all_goals
            have HAL := Lib.hid hal
            clear hal hm
            have HZ := Lib.hid ht2
            clear hzz ht2 hTz
            go_wp2_with (first
              | (go_at_call 16; refine AL.out.mono ?_; rintro e w1 ⟨rfl, hb1⟩
                 have s1 := S0.out.below hb1 (by simp)
                 have c4 := cell_of_one s1.bp
                 have c7 := cell_of_one s1.bq
                 have cb := cell_of_one s1.br
                 have fb := free_of_one s1.br
                 have S1 := Lib.hid s1
                 clear s1 hb1 S0 AL
                 have P1 := Lib.hid (HP.out.below S1.out.low); have Q1 := Lib.hid (HQ.out.below S1.out.low)
                 clear HP HQ)
              | (go_at_call 24; refine (H1.out w1 P1.out Q1.out).mono ?_; rintro e w2 ⟨D, rfl, hr, _, hb⟩
                 have s2 := S1.out.below hb (by have := S1.out.br.lt; omega)
                 have e3 : Below w2.heap.size w2 (w2.alloc (.cells #[.slice (some ⟨D, 0, none⟩) tn tn] 22)) := (Below.refl _ w2).alloc (Nat.le_refl _) _
                 have s3 := s2.below e3 (by have := s2.br.lt; omega)
                 have h3 : (w2.alloc (.cells #[.slice (some ⟨D, 0, none⟩) tn tn] 22)).heap[w2.heap.size]? = some (.cells #[.slice (some ⟨D, 0, none⟩) tn tn] 22 (0, 0)) := heap_alloc_new w2 _
                 have c4 := cell_of_one s3.bp
                 have c7 := cell_of_one s3.bq
                 have X3 := Lib.hid (hr.below e3 hr.lt)
                 have P3 := Lib.hid ((P1.out.below hb).below e3); have Q3 := Lib.hid ((Q1.out.below hb).below e3)
                 have S3 := Lib.hid s3; have H3 := Lib.hid h3
                 have L3 := Lib.hid (show w.heap.size + 3 ≤ w2.heap.size by have := s2.br.lt; omega)
                 clear hr hb s2 e3 s3 h3 P1 Q1 S1 H1)
              | (go_at_call 24
                 generalize (w2.alloc (.cells #[.slice (some ⟨D, 0, none⟩) tn tn] 22)) = w3 at *
                 refine (H2.out w3 P3.out Q3.out).mono ?_; rintro e w4 ⟨D2, rfl, hr, _, hb⟩
                 have s4 := S3.out.below hb (by have := S3.out.br.lt; omega)
                 have h4 := (hb.block _ (lt_of_block H3.out)).trans H3.out
                 have c4 := cell_of_one s4.bp
                 have c7 := cell_of_one s4.bq
                 have c9 := cell_of_one h4
                 have X4 := Lib.hid (X3.out.below hb X3.out.lt); have Y4 := Lib.hid hr
                 have P4 := Lib.hid (P3.out.below hb); have Q4 := Lib.hid (Q3.out.below hb)
                 have S4 := Lib.hid s4; have H4 := Lib.hid h4
                 clear hr hb s4 h4 X3 P3 Q3 S3 H3 H2)
              | (go_at_call 26; refine (Same_true (some ⟨D, 0, none⟩) tn tn (some ⟨D2, 0, none⟩) tn _ _ (fun j _ => by rw [HZ.out]) w4 X4.out.bytesAt Y4.out.bytesAt).mono ?_; rintro e w5 ⟨rfl, rfl⟩)
              | (refine wpList_tail rfl _ _ rfl p n cap (n / 2) _ rfl rfl rfl hh2 hcap ?_; intro p2 hp2)
              | (go_at_call 12; refine (TC.out p2 _ (hp2 _ _ P4.out)).mono ?_; rintro e w6 ⟨rfl, hb6⟩
                 have s6 := S4.out.below hb6 (by have := S4.out.br.lt; omega)
                 have h6 := (hb6.block _ (lt_of_block H4.out)).trans H4.out
                 have X6 := Lib.hid (X4.out.below hb6 X4.out.lt)
                 have P6 := Lib.hid (P4.out.below hb6); have Q6 := Lib.hid (Q4.out.below hb6)
                 have c4 := cell_of_one s6.bp
                 have S6 := Lib.hid s6; have H6 := Lib.hid h6
                 clear hb6 s6 h6 X4 Y4 P4 Q4 S4 H4 TC hp2)
              | (refine store_row_on rfl 25 _ _ rfl rfl w6.heap.size (cellsOf .u8 (mk 16 t)) rfl rfl 25 (cellsOf .u8 (mk 16 zeroK)) (IntBlk.new w6 .u8 _ (mk 16 zeroK)) (keySize _) (by rw [cellsOf_size, cellsOf_size, mk_len, mk_len]) (cellsOf_one _ _) ?_
                 have t7 := (IntBlk.new w6 .u8 25 (mk 16 zeroK)).setRow .u8 (mk 16 t)
                 have e7 : Below w6.heap.size w6 ((w6.alloc (.cells (cellsOf .u8 (mk 16 zeroK)) 25)).setRow w6.heap.size (cellsOf .u8 (mk 16 t))) := below_setRow ((Below.refl _ w6).alloc (Nat.le_refl _) _) (Nat.le_refl _) _
                 have z7 : ((w6.alloc (.cells (cellsOf .u8 (mk 16 zeroK)) 25)).setRow w6.heap.size (cellsOf .u8 (mk 16 t))).heap.size = w6.heap.size + 1 := by simp
                 change wpList _ _ _ _ _ ((w6.alloc (.cells (cellsOf .u8 (mk 16 zeroK)) 25)).setRow w6.heap.size (cellsOf .u8 (mk 16 t)))
                 generalize (w6.alloc (.cells (cellsOf .u8 (mk 16 zeroK)) 25)).setRow w6.heap.size (cellsOf .u8 (mk 16 t)) = w7 at *
                 have s7 := S6.out.below e7 (by have := S6.out.br.lt; omega)
                 have h7 := (e7.block _ (lt_of_block H6.out)).trans H6.out
                 have X7 := Lib.hid (X6.out.below e7 X6.out.lt)
                 have P7 := Lib.hid (P6.out.below e7); have Q7 := Lib.hid (Q6.out.below e7)
                 have c7 := cell_of_one s7.bq
                 have c7b : (w7.alloc (.cells #[.int .i64 ((tn : Int) / 16)] 3)).cell? ⟨w.heap.size + 1, 0, none⟩ = some (.slice q tn tcap) := cell_of_one (s7.below ((Below.refl _ w7).alloc (Nat.le_refl _) _) (by have := s7.br.lt; omega)).bq
                 have T7 := Lib.hid t7; have S7 := Lib.hid s7; have H7 := Lib.hid h7; have Z7 := Lib.hid z7
                 clear t7 e7 z7 s7 h7 X6 P6 Q6 S6 H6)
              | (refine wpList_load_row rfl 25 _ rfl w6.heap.size rfl 25 (cellsOf .u8 (mk 16 t)) (0, 0) _ (T7.out.alloc _) keyUnder rfl (keySize _) ?_)
              | (refine wpList_load_row rfl 25 _ rfl w6.heap.size rfl 25 (cellsOf .u8 (mk 16 t)) (0, 0) _ ((T7.out.alloc _).other (by show w7.heap.size ≠ w6.heap.size; have := Z7.out; omega) _) keyUnder rfl (keySize _) ?_)
              | (go_at_call 17; refine (Tweaks_any _ _).mono ?_; rintro e w9 ⟨rfl, hw9⟩))
            have e9 : Below w7.heap.size w7 w9 := by
              subst hw9
              first
                | exact ((Below.refl _ w7).alloc (Nat.le_refl _) _).alloc (by simp) _
                | exact (((Below.refl _ w7).alloc (Nat.le_refl _) _).setCell (Nat.le_refl _) _).alloc (by simp [World.setCell]) _
            have z9 : w9.heap.size = w7.heap.size + 2 := by subst hw9; simp
            have bg : w.heap.size + 3 ≤ w7.heap.size := by have := S7.out.br.lt; omega
            have bg0 := Z7.out
            have s9 := S7.out.below e9 bg
            have h9 := (e9.block _ (lt_of_block H7.out)).trans H7.out
            have X9' := X7.out.below e9 X7.out.lt
            have P9' := P7.out.below e9
            have Q9' := Q7.out.below e9
            have W9' : IntBlk w9 w7.heap.size .i64 3 [((aloneN tn : Nat) : Int)] := by
              subst hw9; rw [← HAL.out]
              first
                | exact (IntBlk.new w7 .i64 3 [_]).alloc _
                | exact ((IntBlk.new w7 .i64 3 [_]).set 0 _).alloc _
            have F9' : IntBlk w9 (w7.heap.size + 1) .u8 25 (mk 16 t) := by
              subst hw9
              first
                | exact blk_two w7 .u8 25 (mk 16 t) _
                | (have := IntBlk.new ((w7.alloc (.cells #[.int .i64 ((tn : Int) / 16)] 3)).setCell ⟨w7.heap.size, 0, none⟩ (.int .i64 ((tn : Int) / 16 - 1))) .u8 25 (mk 16 t)
                   simpa [World.setCell] using this)
            have S9 := Lib.hid s9; have H9 := Lib.hid h9; have X9 := Lib.hid X9'; have P9 := Lib.hid P9'; have Q9 := Lib.hid Q9'; have W9 := Lib.hid W9'; have F9 := Lib.hid F9'
            clear W9' F9' X9' P9' Q9' s9 h9 e9 hw9 bg0 c4 c7 c7b c9 T7 S7 H7 X7 P7 Q7 Z7 HAL
            generalize w7.heap.size = A at *
            generalize w6.heap.size = B6 at *
            generalize w2.heap.size = HB at *
            have ha : aloneN tn ≤ tn / 16 := by unfold aloneN; split <;> omega
            have ha16 : 16 * aloneN tn ≤ tn := by omega
            refine (wpIn_wide (n := 3)).1 ?_
            refine range_till rfl (by omega) (gf := 34) (lb := #[.pointer (some ⟨A + 1, 0, none⟩)]) rfl trivial (enters_of Try.func34 (by kernel_rfl) rfl)
              (fun x : Nat => #[.int .i64 x, .agg (cellsOf .u8 (mk 16 (twk t x)))]) (fun _ i _ x => x = i) (aloneN tn + 1) (TwR (aloneN tn + 1) (A + 1) t) (fun _ => rfl)
              (fun i U => i ≤ aloneN tn ∧ Below w9.heap.size w9 U) (fun c U => c = .exit 0 ∧ Below w9.heap.size w9 U) ?rd ?st ?stx ⟨Nat.zero_le _, Below.refl _ _⟩ (tweaks_gives _ (aloneN tn + 1) (A + 1) t HKT.out (by omega)) ?round ?done ?stop
            case rd => exact fun i U h => ⟨by omega, F9.out.below h.2 F9.out.lt⟩
            case st => exact fun i U U' h hb => ⟨h.1, h.2.trans hb⟩
            case stx => exact fun c U U' h hb => ⟨h.1, h.2.trans hb⟩
            case done => exact fun D U hD h hd => absurd h.1 (by omega)
            case stop =>
              rintro D3 c W hD ⟨rfl, hx⟩ hd
              have sx := S9.out.below hx (by omega)
              have cb := cell_of_one sx.br
              have fb := free_of_one sx.br
              have SX := Lib.hid sx
              have HD : Hid ((W.setCell ⟨w.heap.size + 1 + 1, 0, none⟩ (.bool true)).heap[D3]? = some (.deferred (some []))) := (Below.heap_setCell W ⟨w.heap.size + 1 + 1, 0, none⟩ _ D3 (by show D3 ≠ w.heap.size + 1 + 1; omega)).trans hd
              clear hx hd sx
              gi_wp2
              go_wp2
              refine ⟨by simp, .inl ⟨_, _, rfl, run_takeDeferred HD.out, ?_⟩⟩
              have hc : ((W.setCell ⟨w.heap.size + 1 + 1, 0, none⟩ (.bool true)).putObj D3 (.deferred none)).cell? ⟨w.heap.size + 1 + 1, 0, none⟩ = some (.bool true) := cell_of_one (cells_turn (one_setCell SX.out.br) HD.out rfl)
              refine ⟨.bool true, ?_, rfl, below_turn _ (SX.out.low.setCell (by show w.heap.size ≤ w.heap.size + 1 + 1; omega) _) (by omega)⟩
              simp [results, Try.f31, go_sem, hc]
            case round =>
              rintro l i0 i U hl hi hus hI rfl
              have HU := Lib.hid hI.2
              have hiA := hI.1
              clear hI
              gi_wp2_with (first
                | (refine wpListIn_of_list rfl rfl rfl (store_row_on rfl 25 _ _ rfl rfl U.heap.size (cellsOf .u8 (mk 16 (twk t i))) rfl rfl 25 (cellsOf .u8 (mk 16 zeroK)) (IntBlk.new U .u8 _ (mk 16 zeroK)) (keySize _) (by rw [cellsOf_size, cellsOf_size, mk_len, mk_len]) (cellsOf_one _ _) (wpList_nil ⟨rfl, rfl, rfl⟩)) ?_))
              have R1 : IntBlk ((U.alloc (.cells (cellsOf .u8 (mk 16 zeroK)) 25)).setRow U.heap.size (cellsOf .u8 (mk 16 (twk t i)))) U.heap.size .u8 25 (mk 16 (twk t i)) := (IntBlk.new U .u8 _ (mk 16 zeroK)).setRow .u8 _
              have R2 : Below U.heap.size U ((U.alloc (.cells (cellsOf .u8 (mk 16 zeroK)) 25)).setRow U.heap.size (cellsOf .u8 (mk 16 (twk t i)))) := below_setRow ((Below.refl _ _).alloc (Nat.le_refl _) _) (Nat.le_refl _) _
              refine ⟨Aft.of_below _ R2, fun V1 hVs hVk0 hVb0 => ?_⟩
              have hVk : ∀ k, k ≠ w9.heap.size + 1 → V1.heap[k]? = ((U.alloc (.cells (cellsOf .u8 (mk 16 zeroK)) 25)).setRow U.heap.size (cellsOf .u8 (mk 16 (twk t i)))).heap[k]? := hVk0
              have hVb : Below w9.heap.size ((U.alloc (.cells (cellsOf .u8 (mk 16 zeroK)) 25)).setRow U.heap.size (cellsOf .u8 (mk 16 (twk t i)))) V1 := hVb0
              clear hVk0 hVb0 hVs
              have hv : Below w9.heap.size w9 V1 := HU.out.trans ((R2.mono (by omega)).trans hVb)
              have KV := Lib.hid (show IntBlk V1 U.heap.size .u8 25 (mk 16 (twk t i)) from (hVk _ (by omega)).trans R1)
              clear R1 R2 hVk hVb HU
              generalize U.heap.size = E at *
              have kt := twk_key HKT.out i
              have sv := S9.out.below hv (by omega)
              have c4 := cell_of_one sv.bp
              have c7 := cell_of_one sv.bq
              have cw : V1.cell? ⟨A, 0, none⟩ = some (.int .i64 ((aloneN tn : Nat) : Int)) := (W9.out.below hv W9.out.lt).cell (i := 0) (by simp)
              have HV := Lib.hid hv
              clear hv
              by_cases hia : i < aloneN tn
              · have d5 : decide (((aloneN tn : Nat) : Int) ≤ (i : Int)) = false := by simp; omega
                have d6 : decide (aloneN tn ≤ i) = false := by simp; omega
                gi_wp2
                have e16 : IntKind.i64.wrap (16 * (i : Int)) = ((16 * i : Nat) : Int) := by rw [IntWalk.i64_in _ (by omega)]; omega
                have e17 : IntKind.i64.wrap (((16 * i : Nat) : Int) + 16) = ((16 * i + 16 : Nat) : Int) := by rw [IntWalk.i64_in _ (by omega)]; omega
                have E16 := Lib.hid e16; have E17 := Lib.hid e17
                clear e16 e17
                have hik : 16 * i + 16 ≤ tn := by omega
                have HF := Lib.hid (show IsKey (fun j => G (16 * i + j)) from fun j hj => hG _ (by omega))
                have KT := Lib.hid kt
                have PV := Lib.hid (P9.out.below HV.out)
                have SV := Lib.hid sv
                obtain ⟨Bq, oq, rfl, hlq, hcq⟩ : ∃ B o, q = some ⟨B, o, none⟩ ∧ B < V1.heap.size ∧ Cells V1 B (o + 16 * i) 16 (fun j => G (16 * i + j)) := by
                  rcases Q9.out.below HV.out with h | ⟨B, o, h1, h2, h3⟩
                  · omega
                  · exact ⟨B, o, h1, h2, fun j hj => by have := h3 (16 * i + j) (by omega); rwa [← Nat.add_assoc] at this⟩
                have HLQ := Lib.hid hlq; have HCQ := Lib.hid hcq
                clear hlq hcq kt sv
                have c0 : Below V1.heap.size V1 V1.drew := (Below.refl _ V1).drew
                refine region_round_tree (.float 0 (.float 1 (.float 2 (.float 3 (.float 4 (.float 5 (.float 6 (.float 7 (.float 8 (.float 9 (.float 10 (.float 11 (.float 12 (.two 13 (.two 14 (.float 15 (.float 16 (.float 17 (.one 18 (.one 19 (.float 20 .over)))))) 18 (.one 14 (.float 15 (.float 16 (.float 17 (.one 19 (.float 20 .over))))))) 18 (.one 13 (.one 14 (.float 15 (.float 16 (.float 17 (.one 19 (.float 20 .over))))))))))))))))))))) (fun W => Below V1.heap.size V1 W) (by kernel_rfl) (by kernel_rfl) (by rintro ⟨_, _, h⟩; exact h) (by kernel_rfl) c0 ?_
                iterate 13 (
                  refine tree_float rfl rfl (fun K hK => ?_)
                  first
                    | (refine gives_move _ rfl ?_)
                    | (refine gives_lie 22 _ rfl ⟨w.heap.size, 0, none⟩ (.slice p n cap) rfl box_slice (fun W h => (h.cell (p := ⟨w.heap.size, 0, none⟩) (lt_of_block SV.out.bp)).trans (cell_of_one SV.out.bp)) ?_)
                    | (refine gives_lie 22 _ rfl ⟨w.heap.size + 1, 0, none⟩ _ rfl box_slice (fun W h => (h.cell (p := ⟨w.heap.size + 1, 0, none⟩) (lt_of_block SV.out.bq)).trans (cell_of_one SV.out.bq)) ?_)
                    | (refine gives_len _ rfl p n cap rfl ?_)
                    | (refine gives_half _ rfl n hnb rfl ?_)
                    | (refine gives_upto _ _ rfl p n cap (n / 2) _ rfl rfl rfl hh ?_)
                    | (refine gives_key_load _ rfl E (twk t i) rfl (fun W h => KV.out.below h KV.out.lt) ?_)
                    | (refine gives_int_mul _ _ rfl 16 i ((16 * i : Nat) : Int) rfl rfl E16.out ?_)
                    | (refine gives_int_add _ _ rfl ((16 * i : Nat) : Int) 16 ((16 * i + 16 : Nat) : Int) rfl rfl E17.out ?_)
                    | (refine gives_range _ _ _ rfl Bq oq tn tcap (16 * i) _ _ rfl rfl rfl rfl rfl hik htcap ?_)
                  go_simp
                  refine hK _ ?_
                  clear hK K)
                refine tree_two ?_ ?_
                · refine tree_one rfl rfl (fun K hK => ?_)
                  refine done_call1 _ _ _ rfl 44 rfl _ rfl (fun _ _ => by simp [go_sem]) _ (Key_any Bq (oq + 16 * i) (tcap - 16 * i) (fun j => G (16 * i + j)) HF.out _ (HCQ.out.below c0 (by have := HLQ.out; omega)) (by have := HLQ.out; have := c0.size; omega)) ?_
                  intro v1 hb
                  have bv1 : Below V1.heap.size V1 v1 := c0.trans (hb.mono c0.size)
                  refine ⟨bv1, ?_⟩
                  go_simp
                  refine hK _ _ ?_
                  clear hK K
                  clear hb
                  refine tree_two ?_ ?_
                  · refine tree_one rfl rfl (fun K hK => ?_)
                    refine done_call _ #[_, _, _] _ rfl 19 #[.slice p (n / 2) cap, .agg (cellsOf .u8 (mk 16 (twk t i))), .agg (cellsOf .u8 (mk 16 (fun j => G (16 * i + j))))] rfl (by simp only [List.map_toArray, List.map_cons, List.map_nil]; rfl) (by simp [go_sem]) ((BC.out (twk t i) (fun j => G (16 * i + j)) KT.out HF.out _ (PV.out.below bv1)).mono fun e v2 hh => ?_)
                    obtain ⟨rfl, hb⟩ := hh
                    have bv2 : Below V1.heap.size V1 v2 := bv1.trans (hb.mono bv1.size)
                    refine ⟨_, rfl, bv2, ?_⟩
                    go_simp
                    refine hK _ _ ?_
                    clear hK K
                    clear hb
                    iterate 3 (
                      refine tree_float rfl rfl (fun K hK => ?_)
                      first
                        | (refine gives_move _ rfl ?_)
                        | (refine gives_take _ 0 rfl #[.agg (cellsOf .u8 (mk 16 (wB false R T (twk t i) (fun j => G (16 * i + j))))), .nilIface] _ rfl rfl ?_)
                        | (refine gives_take _ 1 rfl #[.agg (cellsOf .u8 (mk 16 (wB false R T (twk t i) (fun j => G (16 * i + j))))), .nilIface] _ rfl rfl ?_)
                      go_simp
                      refine hK _ ?_
                      clear hK K)
                    refine tree_one rfl rfl (fun K hK => ?_)
                    refine done_alloc 25 rfl _ (keyZero_run _) ?_
                    have bv3 : Below V1.heap.size V1 (v2.alloc (.cells (cellsOf .u8 (mk 16 zeroK)) 25)) := bv2.alloc bv2.size _
                    refine ⟨bv3, ?_⟩
                    have D0 := IntBlk.new v2 .u8 25 (mk 16 zeroK)
                    have hD : V1.heap.size ≤ v2.heap.size := bv2.size
                    generalize v2.alloc (.cells (cellsOf .u8 (mk 16 zeroK)) 25) = v3 at *
                    go_simp
                    refine hK _ _ ?_
                    clear hK K
                    refine tree_one rfl rfl (fun K hK => ?_)
                    refine done_store 25 _ _ rfl v2.heap.size (cellsOf .u8 (mk 16 (wB false R T (twk t i) (fun j => G (16 * i + j))))) rfl rfl 25 (cellsOf .u8 (mk 16 zeroK)) D0 (keySize _) (by rw [cellsOf_size, cellsOf_size, mk_len, mk_len]) (cellsOf_one _ _) ?_
                    have bz : Below V1.heap.size V1 (v3.setRow v2.heap.size (cellsOf .u8 (mk 16 (wB false R T (twk t i) (fun j => G (16 * i + j)))))) := below_setRow bv3 (by omega) _
                    have D3 := D0.setRow .u8 (mk 16 (wB false R T (twk t i) (fun j => G (16 * i + j))))
                    refine ⟨bz, ?_⟩
                    clear D0
                    generalize v3.setRow v2.heap.size (cellsOf .u8 (mk 16 (wB false R T (twk t i) (fun j => G (16 * i + j))))) = wz at *
                    go_simp
                    refine hK _ _ ?_
                    clear hK K
                    refine tree_float rfl rfl (fun K hK => ?_)
                    refine gives_assign _ rfl ?_
                    go_simp
                    refine hK _ ?_
                    clear hK K
                    refine tree_over ?_
                    have DX := Lib.hid D3; have BZ := Lib.hid bz; have HDD := Lib.hid hD
                    clear D3 bz hD bv1 bv2 bv3 c0
                    generalize v2.heap.size = DD at *
                    gi_wp2
                    have cz : Below wz.heap.size wz wz.drew := (Below.refl _ _).drew
                    have hX : ∀ W, Below wz.heap.size wz W → BytesAt W (some ⟨D, 16 * i, none⟩) 16 (fun j => txtW false R T t tn G (16 * i + j)) := fun W hW => .inr ⟨D, 16 * i, rfl, by have := X9.out.lt; have h1 := HV.out.size; have h2 := BZ.out.size; have h3 := hW.size; omega, fun j hj => by
                      have hrow := ((X9.out.below HV.out X9.out.lt).below BZ.out (by have := X9.out.lt; have h1 := HV.out.size; omega)).below hW (by have := X9.out.lt; have h1 := HV.out.size; have h2 := BZ.out.size; omega)
                      have := hrow.cells (o := 16 * i) (n := 16) hik j hj
                      exact this⟩
                    have hd : (tn % 16 = 0 ∧ i < tn / 16) ∨ i < tn / 16 - 1 := by
                      unfold aloneN at hia; split at hia
                      · exact .inl ⟨by assumption, hia⟩
                      · exact .inr hia
                    have hE : mk 16 (fun j => txtW false R T t tn G (16 * i + j)) = mk 16 (wB false R T (twk t i) (fun j => G (16 * i + j))) := mk_ext fun j hj => txtW_in (F := G) hd hj
                    have HH : Hid (wz.heap[HB]? = _) := (BZ.out.block _ (by have h0 := lt_of_block H9.out; have h1 := HV.out.size; omega)).trans ((HV.out.block _ (lt_of_block H9.out)).trans H9.out)
                    refine region_round_tree (.float 0 (.float 1 (.float 2 (.float 3 (.float 4 (.float 5 (.float 6 (.float 7 (.float 8 (.float 9 (.float 10 (.float 11 (.float 12 (.float 13 (.float 14 .over))))))))))))))) (fun W => Below wz.heap.size wz W) (by kernel_rfl) (by kernel_rfl) (by rintro ⟨_, _, h⟩; exact h) (by kernel_rfl) cz ?_
                    iterate 15 (
                      refine tree_float rfl rfl (fun K hK => ?_)
                      first
                        | (refine gives_move _ rfl ?_)
                        | (refine gives_nil_neq _ rfl rfl ?_)
                        | (refine gives_key_row _ rfl DD rfl ?_)
                        | (refine gives_string _ rfl (some ⟨DD, 0, none⟩) 16 16 (wB false R T (twk t i) (fun j => G (16 * i + j))) rfl (fun W hW => (DX.out.below hW DX.out.lt).bytesAt) ?_)
                        | (refine gives_lie 22 _ rfl ⟨HB, 0, none⟩ (.slice (some ⟨D, 0, none⟩) tn tn) rfl box_slice (fun W h => (h.cell (p := ⟨HB, 0, none⟩) (lt_of_block HH.out)).trans (cell_of_one HH.out)) ?_)
                        | (refine gives_int_mul _ _ rfl 16 i ((16 * i : Nat) : Int) rfl rfl E16.out ?_)
                        | (refine gives_int_add _ _ rfl ((16 * i : Nat) : Int) 16 ((16 * i + 16 : Nat) : Int) rfl rfl E17.out ?_)
                        | (refine gives_range _ _ _ rfl D 0 tn tn (16 * i) _ _ rfl rfl rfl rfl rfl hik (Nat.le_refl _) ?_)
                        | (refine gives_string _ rfl (some ⟨D, 16 * i, none⟩) 16 (tn - 16 * i) (fun j => txtW false R T t tn G (16 * i + j)) rfl hX ?_; rw [hE])
                        | (refine gives_string_neq _ _ rfl (strOfNums (mk 16 (wB false R T (twk t i) (fun j => G (16 * i + j))))) rfl rfl ?_)
                        | (refine gives_pick_no _ _ _ rfl rfl (.bool false) rfl ?_)
                      go_simp
                      refine hK _ ?_
                      clear hK K)
                    refine tree_over ?_
                    gi_wp2
                    exact ⟨(Aft.of_below _ BZ.out).drew, by omega, (HV.out.trans (BZ.out.mono HV.out.size)).drew⟩
                  · refine tree_one rfl rfl (fun K hK => ?_)
                    refine done_alloc 25 rfl _ (keyZero_run _) ?_
                    have bv2 : Below V1.heap.size V1 (v1.alloc (.cells (cellsOf .u8 (mk 16 zeroK)) 25)) := bv1.alloc bv1.size _
                    refine ⟨bv2, ?_⟩
                    have D0 := IntBlk.new v1 .u8 25 (mk 16 zeroK)
                    have hD : V1.heap.size ≤ v1.heap.size := bv1.size
                    generalize v1.alloc (.cells (cellsOf .u8 (mk 16 zeroK)) 25) = v2 at *
                    go_simp
                    refine hK _ _ ?_
                    clear hK K
                    refine tree_one rfl rfl (fun K hK => ?_)
                    refine done_call _ #[_, _, _] _ rfl 19 #[.slice p (n / 2) cap, .agg (cellsOf .u8 (mk 16 (twk t i))), .agg (cellsOf .u8 (mk 16 (fun j => G (16 * i + j))))] rfl (by simp only [List.map_toArray, List.map_cons, List.map_nil]; rfl) (by simp [go_sem]) ((BC.out (twk t i) (fun j => G (16 * i + j)) KT.out HF.out _ (PV.out.below bv2)).mono fun e v3 hh => ?_)
                    obtain ⟨rfl, hb⟩ := hh
                    have bv3 : Below V1.heap.size V1 v3 := bv2.trans (hb.mono bv2.size)
                    refine ⟨_, rfl, bv3, ?_⟩
                    go_simp
                    refine hK _ _ ?_
                    clear hK K
                    have D0 := D0.below hb D0.lt
                    clear hb
                    iterate 3 (
                      refine tree_float rfl rfl (fun K hK => ?_)
                      first
                        | (refine gives_move _ rfl ?_)
                        | (refine gives_take _ 0 rfl #[.agg (cellsOf .u8 (mk 16 (wB false R T (twk t i) (fun j => G (16 * i + j))))), .nilIface] _ rfl rfl ?_)
                        | (refine gives_take _ 1 rfl #[.agg (cellsOf .u8 (mk 16 (wB false R T (twk t i) (fun j => G (16 * i + j))))), .nilIface] _ rfl rfl ?_)
                      go_simp
                      refine hK _ ?_
                      clear hK K)
                    refine tree_one rfl rfl (fun K hK => ?_)
                    refine done_store 25 _ _ rfl v1.heap.size (cellsOf .u8 (mk 16 (wB false R T (twk t i) (fun j => G (16 * i + j))))) rfl rfl 25 (cellsOf .u8 (mk 16 zeroK)) D0 (keySize _) (by rw [cellsOf_size, cellsOf_size, mk_len, mk_len]) (cellsOf_one _ _) ?_
                    have bz : Below V1.heap.size V1 (v3.setRow v1.heap.size (cellsOf .u8 (mk 16 (wB false R T (twk t i) (fun j => G (16 * i + j)))))) := below_setRow bv3 (by omega) _
                    have D3 := D0.setRow .u8 (mk 16 (wB false R T (twk t i) (fun j => G (16 * i + j))))
                    refine ⟨bz, ?_⟩
                    clear D0
                    generalize v3.setRow v1.heap.size (cellsOf .u8 (mk 16 (wB false R T (twk t i) (fun j => G (16 * i + j))))) = wz at *
                    go_simp
                    refine hK _ _ ?_
                    clear hK K
                    refine tree_float rfl rfl (fun K hK => ?_)
                    refine gives_assign _ rfl ?_
                    go_simp
                    refine hK _ ?_
                    clear hK K
                    refine tree_over ?_
                    have DX := Lib.hid D3; have BZ := Lib.hid bz; have HDD := Lib.hid hD
                    clear D3 bz hD bv1 bv2 bv3 c0
                    generalize v1.heap.size = DD at *
                    gi_wp2
                    have cz : Below wz.heap.size wz wz.drew := (Below.refl _ _).drew
                    have hX : ∀ W, Below wz.heap.size wz W → BytesAt W (some ⟨D, 16 * i, none⟩) 16 (fun j => txtW false R T t tn G (16 * i + j)) := fun W hW => .inr ⟨D, 16 * i, rfl, by have := X9.out.lt; have h1 := HV.out.size; have h2 := BZ.out.size; have h3 := hW.size; omega, fun j hj => by
                      have hrow := ((X9.out.below HV.out X9.out.lt).below BZ.out (by have := X9.out.lt; have h1 := HV.out.size; omega)).below hW (by have := X9.out.lt; have h1 := HV.out.size; have h2 := BZ.out.size; omega)
                      have := hrow.cells (o := 16 * i) (n := 16) hik j hj
                      exact this⟩
                    have hd : (tn % 16 = 0 ∧ i < tn / 16) ∨ i < tn / 16 - 1 := by
                      unfold aloneN at hia; split at hia
                      · exact .inl ⟨by assumption, hia⟩
                      · exact .inr hia
                    have hE : mk 16 (fun j => txtW false R T t tn G (16 * i + j)) = mk 16 (wB false R T (twk t i) (fun j => G (16 * i + j))) := mk_ext fun j hj => txtW_in (F := G) hd hj
                    have HH : Hid (wz.heap[HB]? = _) := (BZ.out.block _ (by have h0 := lt_of_block H9.out; have h1 := HV.out.size; omega)).trans ((HV.out.block _ (lt_of_block H9.out)).trans H9.out)
                    refine region_round_tree (.float 0 (.float 1 (.float 2 (.float 3 (.float 4 (.float 5 (.float 6 (.float 7 (.float 8 (.float 9 (.float 10 (.float 11 (.float 12 (.float 13 (.float 14 .over))))))))))))))) (fun W => Below wz.heap.size wz W) (by kernel_rfl) (by kernel_rfl) (by rintro ⟨_, _, h⟩; exact h) (by kernel_rfl) cz ?_
                    iterate 15 (
                      refine tree_float rfl rfl (fun K hK => ?_)
                      first
                        | (refine gives_move _ rfl ?_)
                        | (refine gives_nil_neq _ rfl rfl ?_)
                        | (refine gives_key_row _ rfl DD rfl ?_)
                        | (refine gives_string _ rfl (some ⟨DD, 0, none⟩) 16 16 (wB false R T (twk t i) (fun j => G (16 * i + j))) rfl (fun W hW => (DX.out.below hW DX.out.lt).bytesAt) ?_)
                        | (refine gives_lie 22 _ rfl ⟨HB, 0, none⟩ (.slice (some ⟨D, 0, none⟩) tn tn) rfl box_slice (fun W h => (h.cell (p := ⟨HB, 0, none⟩) (lt_of_block HH.out)).trans (cell_of_one HH.out)) ?_)
                        | (refine gives_int_mul _ _ rfl 16 i ((16 * i : Nat) : Int) rfl rfl E16.out ?_)
                        | (refine gives_int_add _ _ rfl ((16 * i : Nat) : Int) 16 ((16 * i + 16 : Nat) : Int) rfl rfl E17.out ?_)
                        | (refine gives_range _ _ _ rfl D 0 tn tn (16 * i) _ _ rfl rfl rfl rfl rfl hik (Nat.le_refl _) ?_)
                        | (refine gives_string _ rfl (some ⟨D, 16 * i, none⟩) 16 (tn - 16 * i) (fun j => txtW false R T t tn G (16 * i + j)) rfl hX ?_; rw [hE])
                        | (refine gives_string_neq _ _ rfl (strOfNums (mk 16 (wB false R T (twk t i) (fun j => G (16 * i + j))))) rfl rfl ?_)
                        | (refine gives_pick_no _ _ _ rfl rfl (.bool false) rfl ?_)
                      go_simp
                      refine hK _ ?_
                      clear hK K)
                    refine tree_over ?_
                    gi_wp2
                    exact ⟨(Aft.of_below _ BZ.out).drew, by omega, (HV.out.trans (BZ.out.mono HV.out.size)).drew⟩

                · refine tree_one rfl rfl (fun K hK => ?_)
                  refine done_alloc 25 rfl _ (keyZero_run _) ?_
                  have bv1 : Below V1.heap.size V1 (V1.drew.alloc (.cells (cellsOf .u8 (mk 16 zeroK)) 25)) := c0.alloc c0.size _
                  refine ⟨bv1, ?_⟩
                  have D0 : IntBlk (V1.drew.alloc (.cells (cellsOf .u8 (mk 16 zeroK)) 25)) V1.heap.size .u8 25 (mk 16 zeroK) := IntBlk.new V1.drew .u8 25 (mk 16 zeroK)
                  have hD : V1.heap.size ≤ V1.heap.size := Nat.le_refl _
                  generalize V1.drew.alloc (.cells (cellsOf .u8 (mk 16 zeroK)) 25) = v1 at *
                  go_simp
                  refine hK _ _ ?_
                  clear hK K
                  refine tree_one rfl rfl (fun K hK => ?_)
                  refine done_call1 _ _ _ rfl 44 rfl _ rfl (fun _ _ => by simp [go_sem]) _ (Key_any Bq (oq + 16 * i) (tcap - 16 * i) (fun j => G (16 * i + j)) HF.out _ (HCQ.out.below bv1 (by have := HLQ.out; omega)) (by have := HLQ.out; have := bv1.size; omega)) ?_
                  intro v2 hb
                  have bv2 : Below V1.heap.size V1 v2 := bv1.trans (hb.mono bv1.size)
                  refine ⟨bv2, ?_⟩
                  go_simp
                  refine hK _ _ ?_
                  clear hK K
                  have D0 := D0.below hb D0.lt
                  clear hb
                  refine tree_one rfl rfl (fun K hK => ?_)
                  refine done_call _ #[_, _, _] _ rfl 19 #[.slice p (n / 2) cap, .agg (cellsOf .u8 (mk 16 (twk t i))), .agg (cellsOf .u8 (mk 16 (fun j => G (16 * i + j))))] rfl (by simp only [List.map_toArray, List.map_cons, List.map_nil]; rfl) (by simp [go_sem]) ((BC.out (twk t i) (fun j => G (16 * i + j)) KT.out HF.out _ (PV.out.below bv2)).mono fun e v3 hh => ?_)
                  obtain ⟨rfl, hb⟩ := hh
                  have bv3 : Below V1.heap.size V1 v3 := bv2.trans (hb.mono bv2.size)
                  refine ⟨_, rfl, bv3, ?_⟩
                  go_simp
                  refine hK _ _ ?_
                  clear hK K
                  have D0 := D0.below hb D0.lt
                  clear hb
                  iterate 3 (
                    refine tree_float rfl rfl (fun K hK => ?_)
                    first
                      | (refine gives_move _ rfl ?_)
                      | (refine gives_take _ 0 rfl #[.agg (cellsOf .u8 (mk 16 (wB false R T (twk t i) (fun j => G (16 * i + j))))), .nilIface] _ rfl rfl ?_)
                      | (refine gives_take _ 1 rfl #[.agg (cellsOf .u8 (mk 16 (wB false R T (twk t i) (fun j => G (16 * i + j))))), .nilIface] _ rfl rfl ?_)
                    go_simp
                    refine hK _ ?_
                    clear hK K)
                  refine tree_one rfl rfl (fun K hK => ?_)
                  refine done_store 25 _ _ rfl V1.heap.size (cellsOf .u8 (mk 16 (wB false R T (twk t i) (fun j => G (16 * i + j))))) rfl rfl 25 (cellsOf .u8 (mk 16 zeroK)) D0 (keySize _) (by rw [cellsOf_size, cellsOf_size, mk_len, mk_len]) (cellsOf_one _ _) ?_
                  have bz : Below V1.heap.size V1 (v3.setRow V1.heap.size (cellsOf .u8 (mk 16 (wB false R T (twk t i) (fun j => G (16 * i + j)))))) := below_setRow bv3 (by omega) _
                  have D3 := D0.setRow .u8 (mk 16 (wB false R T (twk t i) (fun j => G (16 * i + j))))
                  refine ⟨bz, ?_⟩
                  clear D0
                  generalize v3.setRow V1.heap.size (cellsOf .u8 (mk 16 (wB false R T (twk t i) (fun j => G (16 * i + j))))) = wz at *
                  go_simp
                  refine hK _ _ ?_
                  clear hK K
                  refine tree_float rfl rfl (fun K hK => ?_)
                  refine gives_assign _ rfl ?_
                  go_simp
                  refine hK _ ?_
                  clear hK K
                  refine tree_over ?_
                  have DX := Lib.hid D3; have BZ := Lib.hid bz; have HDD := Lib.hid hD
                  clear D3 bz hD bv1 bv2 bv3 c0
                  generalize hDD : V1.heap.size = DD at DX ⊢
                  clear hDD
                  gi_wp2
                  have cz : Below wz.heap.size wz wz.drew := (Below.refl _ _).drew
                  have hX : ∀ W, Below wz.heap.size wz W → BytesAt W (some ⟨D, 16 * i, none⟩) 16 (fun j => txtW false R T t tn G (16 * i + j)) := fun W hW => .inr ⟨D, 16 * i, rfl, by have := X9.out.lt; have h1 := HV.out.size; have h2 := BZ.out.size; have h3 := hW.size; omega, fun j hj => by
                    have hrow := ((X9.out.below HV.out X9.out.lt).below BZ.out (by have := X9.out.lt; have h1 := HV.out.size; omega)).below hW (by have := X9.out.lt; have h1 := HV.out.size; have h2 := BZ.out.size; omega)
                    have := hrow.cells (o := 16 * i) (n := 16) hik j hj
                    exact this⟩
                  have hd : (tn % 16 = 0 ∧ i < tn / 16) ∨ i < tn / 16 - 1 := by
                    unfold aloneN at hia; split at hia
                    · exact .inl ⟨by assumption, hia⟩
                    · exact .inr hia
                  have hE : mk 16 (fun j => txtW false R T t tn G (16 * i + j)) = mk 16 (wB false R T (twk t i) (fun j => G (16 * i + j))) := mk_ext fun j hj => txtW_in (F := G) hd hj
                  have HH : Hid (wz.heap[HB]? = _) := (BZ.out.block _ (by have h0 := lt_of_block H9.out; have h1 := HV.out.size; omega)).trans ((HV.out.block _ (lt_of_block H9.out)).trans H9.out)
                  refine region_round_tree (.float 0 (.float 1 (.float 2 (.float 3 (.float 4 (.float 5 (.float 6 (.float 7 (.float 8 (.float 9 (.float 10 (.float 11 (.float 12 (.float 13 (.float 14 .over))))))))))))))) (fun W => Below wz.heap.size wz W) (by kernel_rfl) (by kernel_rfl) (by rintro ⟨_, _, h⟩; exact h) (by kernel_rfl) cz ?_
                  iterate 15 (
                    refine tree_float rfl rfl (fun K hK => ?_)
                    first
                      | (refine gives_move _ rfl ?_)
                      | (refine gives_nil_neq _ rfl rfl ?_)
                      | (refine gives_key_row _ rfl DD rfl ?_)
                      | (refine gives_string _ rfl (some ⟨DD, 0, none⟩) 16 16 (wB false R T (twk t i) (fun j => G (16 * i + j))) rfl (fun W hW => (DX.out.below hW DX.out.lt).bytesAt) ?_)
                      | (refine gives_lie 22 _ rfl ⟨HB, 0, none⟩ (.slice (some ⟨D, 0, none⟩) tn tn) rfl box_slice (fun W h => (h.cell (p := ⟨HB, 0, none⟩) (lt_of_block HH.out)).trans (cell_of_one HH.out)) ?_)
                      | (refine gives_int_mul _ _ rfl 16 i ((16 * i : Nat) : Int) rfl rfl E16.out ?_)
                      | (refine gives_int_add _ _ rfl ((16 * i : Nat) : Int) 16 ((16 * i + 16 : Nat) : Int) rfl rfl E17.out ?_)
                      | (refine gives_range _ _ _ rfl D 0 tn tn (16 * i) _ _ rfl rfl rfl rfl rfl hik (Nat.le_refl _) ?_)
                      | (refine gives_string _ rfl (some ⟨D, 16 * i, none⟩) 16 (tn - 16 * i) (fun j => txtW false R T t tn G (16 * i + j)) rfl hX ?_; rw [hE])
                      | (refine gives_string_neq _ _ rfl (strOfNums (mk 16 (wB false R T (twk t i) (fun j => G (16 * i + j))))) rfl rfl ?_)
                      | (refine gives_pick_no _ _ _ rfl rfl (.bool false) rfl ?_)
                    go_simp
                    refine hK _ ?_
                    clear hK K)
                  refine tree_over ?_
                  gi_wp2
                  exact ⟨(Aft.of_below _ BZ.out).drew, by omega, (HV.out.trans (BZ.out.mono HV.out.size)).drew⟩
              · have d5 : decide (((aloneN tn : Nat) : Int) ≤ (i : Int)) = true := by simp; omega
                have d6 : decide (aloneN tn ≤ i) = true := by simp; omega
                gi_wp2
                exact ⟨Aft.refl _ _, rfl, HV.out⟩
end Go.Proofs.Ytklnnmlegagfoaa.tweakStands
