/- What bytes rows have, and which row any bytes begin with: the statement WordsRow. No condition. -/
import Derived.Test.YtfnoiijodcmaeaaWdRowS
namespace Go.Proofs.Ytfnoiijodcmaeaa.wordsRow
open Go.ChangeShapes Go.WideShapes Go.ChangeAt Go.RowKit Go.Shelf
set_option linter.unusedVariables false

theorem own : ownKnob Try.prog.godebug = none := by kernel_rfl
def abG : Nat → Nat := fun j => if j = 0 then 97 else 98
def abF : Nat → Nat := cat 0 zeroK (cat 2 (numF 2 2) abG)
theorem abG_list : mk 2 abG = [97, 98] := by decide
theorem ab_str : strOfNums (mk 4 abF) = ⟨#[0, 2, 97, 98]⟩ := by decide
theorem ab_any (w : World) : Calls Try.prog 20 #[.slice none 0 0, .slice (some ⟨w.heap.size, 0, none⟩) 2 2] ((w.alloc (.cells #[.int .u8 97, .int .u8 98] 5)).freeze ⟨w.heap.size, 2, none⟩ 1) fun e w' => e = .returned (.tuple #[.slice (some ⟨w.heap.size + 1, 0, none⟩) 4 4, .nilIface]) ∧ BytesAt w' (some ⟨w.heap.size + 1, 0, none⟩) 4 abF ∧ Below w.heap.size w w' := by
  have h0 : LitAt (w.alloc (.cells #[.int .u8 97, .int .u8 98] 5)) w.heap.size 2 abG := ⟨(0, 0), by rw [abG_list]; exact heap_alloc_new w _⟩
  have h := (h0.freeze ⟨w.heap.size, 2, none⟩ 1 rfl).bytes
  have hf := freeze_below (w.alloc (.cells #[.int .u8 97, .int .u8 98] 5)) w.heap.size 2 1 w.heap.size (Nat.le_refl _)
  have hr := Row_ok none 0 0 zeroK (some ⟨w.heap.size, 0, none⟩) 2 2 abG (by omega) (by omega) (by omega) _ (.inl rfl) h
  rw [freeze_size, World.size_alloc, show 0 + (2 + 2) = 4 from rfl] at hr
  refine hr.mono ?_
  rintro e w' ⟨he, hb, hl⟩
  exact ⟨he, hb.bytesAt, (((Below.refl _ w).alloc (Nat.le_refl _) _).trans hf).trans (hl.mono (by omega))⟩
/-- The two copies, and all that was there. -/
structure Two (w : World) (n m : Nat) (g G : Nat → Nat) (O R : Nat) (V : World) : Prop where
  o : IntBlk V O .u8 5 (mk (n + 2) (markF n g))
  r : IntBlk V R .u8 5 (mk (m + 2) (markF m G))
  low : Below w.heap.size w V
  far : w.heap.size ≤ O ∧ O < R
theorem Two.below {w : World} {n m : Nat} {g G : Nat → Nat} {O R : Nat} {V V' : World} (h : Two w n m g G O R V) (hb : Below V.heap.size V V') : Two w n m g G O R V' :=
  ⟨h.o.below hb h.o.lt, h.r.below hb h.r.lt, h.low.trans (hb.mono h.low.size), h.far⟩
/-- Five lists: the answer or none, two parts of another answer, two copies. -/
theorem Apart_row (w : World) (n m : Nat) (g G : Nat → Nat) (O R : Nat) (D0 N0 : Nat) (nl : Bool) (F0 : Nat → Nat) (D1 N1 : Nat) (F1 : Nat → Nat) (D2 N2 : Nat) (F2 : Nat → Nat) (LB : Nat) (V : World) (T : Two w n m g G O R V) (h0 : Own V w.heap.size D0 N0 N0 nl F0)
    (h1 : IntBlk V D1 .u8 5 (mk N1 F1)) (h2 : IntBlk V D2 .u8 5 (mk N2 F2))
    (hn : N1 ≤ 140737488351232 ∧ N2 ≤ 140737488351232 ∧ n ≤ 140737488351232 ∧ m ≤ 140737488351232) (hd : R < D1 ∧ D1 < D2) (hd0 : D0 ≠ D1 ∧ D0 ≠ D2 ∧ D0 ≠ O ∧ D0 ≠ R)
    (hL : V.heap[LB]? = some (.cells #[.slice (pOf D0 nl) N0 N0, .slice (some ⟨D1, 0, none⟩) N1 N1, .slice (some ⟨D2, 0, none⟩) N2 N2, .slice (some ⟨O, 0, none⟩) n (n + 2), .slice (some ⟨R, 0, none⟩) m (m + 2)] 22 (0, 0))) :
    Calls Try.prog 16 #[.slice (some ⟨LB, 0, none⟩) 5 5] V fun e w' => e = .returned (.bool true) ∧ Below w.heap.size V w' := by
  have five : ∀ i, i < 5 → i = 0 ∨ i = 1 ∨ i = 2 ∨ i = 3 ∨ i = 4 := fun i hi => by omega
  obtain ⟨f1, f2⟩ := T.far
  obtain ⟨a1, a2⟩ := hd
  obtain ⟨b1, b2, b3, b4⟩ := hd0
  refine Apart_own 5 (fun i => match i with | 0 => D0 | 1 => D1 | 2 => D2 | 3 => O | _ => R) (fun i => match i with | 0 => N0 | 1 => N1 | 2 => N2 | 3 => n | _ => m) (fun i => match i with | 0 => N0 | 1 => N1 | 2 => N2 | 3 => n + 2 | _ => m + 2) (fun i => match i with | 0 => nl | _ => false) (fun i => match i with | 0 => F0 | 1 => F1 | 2 => F2 | 3 => markF n g | _ => markF m G) w.heap.size LB _ V (by omega) (by omega) ?_ ?_ hL ?_ T.low.size
  · intro i hi; rcases five i hi with rfl | rfl | rfl | rfl | rfl
    · exact h0
    · exact .inr ⟨rfl, by show w.heap.size ≤ D1; omega, Nat.le_refl _, Nat.le_add_right _ _, hn.1, h1⟩
    · exact .inr ⟨rfl, by show w.heap.size ≤ D2; omega, Nat.le_refl _, Nat.le_add_right _ _, hn.2.1, h2⟩
    · exact .inr ⟨rfl, by show w.heap.size ≤ O; omega, Nat.le_add_right _ _, Nat.le_refl _, hn.2.2.1, T.o⟩
    · exact .inr ⟨rfl, by show w.heap.size ≤ R; omega, Nat.le_add_right _ _, Nat.le_refl _, hn.2.2.2, T.r⟩
  · intro i j hi hj _ _ c
    rcases five i hi with rfl | rfl | rfl | rfl | rfl <;> rcases five j hj with rfl | rfl | rfl | rfl | rfl <;> first | exact absurd rfl c | (simp; omega)
  · intro i hi; rcases five i hi with rfl | rfl | rfl | rfl | rfl <;> rfl
theorem owns_first {w : World} {base M : Nat} {v : Value} {x : Value} {xs : List Value} (h : w.ownsRow base 22 1 v M (x :: xs)) : ∃ L c, v = .slice (some ⟨L, 0, none⟩) M c ∧ w.cell? ⟨L, 0, none⟩ = some x := by
  obtain ⟨hl, ⟨_, h2⟩ | ⟨gb, c, cur, e, _, hh, _, _, hcs, ht⟩⟩ := h
  · rw [h2] at hl; simp at hl
  · refine ⟨gb, c, e, ?_⟩
    rw [cell_of_row w gb 0 cur _ (0, 0) hh]
    have := congrArg (fun l => l[0]?) ht
    have hM : 0 < M * 1 := by simp at hl; omega
    simp only [List.getElem?_cons_zero] at this
    rw [List.getElem?_take_of_lt hM] at this
    simpa using this
theorem rowsL_first (p : Option Addr) (cap : Nat) (P : Nat → Nat) (M : Nat) (hM : 0 < M) : ∃ xs, rowsL p cap P M = rowV p cap (P 0 + 2) (P 1) :: xs := by
  obtain ⟨k, rfl⟩ : ∃ k, M = k + 1 := ⟨M - 1, by omega⟩
  exact ⟨(List.range k).map (fun j => rowV p cap (P (j + 1) + 2) (P (j + 1 + 1))), by unfold rowsL; rw [List.range_succ_eq_map, List.map_cons, List.map_map]; rfl⟩
attribute [local irreducible] numF dig valN cat markF abF rowV rowsL lenAt
set_option maxRecDepth 100000 in
set_option maxHeartbeats 8000000 in
theorem walk (q : Option Addr) (n cap : Nat) (g : Nat → Nat) (p : Option Addr) (m mc : Nat) (G : Nat → Nat) (hg : ∀ i, i < n → g i < 256) (hcap : n ≤ cap) (hn : n ≤ 140737488351232) (hG : ∀ i, i < m → G i < 256) (hmc : m ≤ mc) (hm : m ≤ 140737488351232) (w : World) (hq : BytesAt w q n g) (hp : BytesAt w p m G) :
    Calls Try.prog 6 #[.slice q n cap, .slice p m mc] w fun e w' => e = .returned (.bool true) ∧ Below w.heap.size w w' := by
  by_cases hl : 65536 < n
  case pos =>
    have d1 : decide ((65536 : Int) < (n : Int)) = true := by simp; omega
    have d2 : decide (65536 < n) = true := by simp; omega
    clear hg hcap hn hG hmc hm hq hp hl
    go_enter Try.func6, Try.ntmps6
    go_wp2
    go_ret
    exact ⟨rfl, Below.refl _ _⟩
  by_cases hl2 : 131072 < m
  case pos =>
    have d1 : decide ((65536 : Int) < (n : Int)) = false := by simp; omega
    have d2 : decide (65536 < n) = false := by simp; omega
    have d3 : decide ((131072 : Int) < (m : Int)) = true := by simp; omega
    have d4 : decide (131072 < m) = true := by simp; omega
    clear hg hcap hn hG hmc hm hq hp hl hl2
    go_enter Try.func6, Try.ntmps6
    go_wp2
    go_ret
    exact ⟨rfl, Below.refl _ _⟩
  have d1 : decide ((65536 : Int) < (n : Int)) = false := by simp; omega
  have d2 : decide (65536 < n) = false := by simp; omega
  have d3 : decide ((131072 : Int) < (m : Int)) = false := by simp; omega
  have d4 : decide (131072 < m) = false := by simp; omega
  obtain ⟨M, P, RO⟩ := rows_are m G
  have CC1 := Lib.hid (fun (W : World) (hW : BytesAt W q n g) => Copy_row q n cap g hn W hW)
  have CC2 := Lib.hid (fun (W : World) (hW : BytesAt W p m G) => Copy_row p m mc G hm W hW)
  have KC1 := Lib.hid (fun (C : Nat) (W : World) (hW : BytesAt W q n g) hC => Kept_row q n cap C g hn W hW hC)
  have KC2 := Lib.hid (fun (C : Nat) (W : World) (hW : BytesAt W p m G) hC => Kept_row p m mc C G hm W hW hC)
  have HQ := Lib.hid (fun (W : World) (hb : Below w.heap.size w W) => hq.below hb)
  have HP := Lib.hid (fun (W : World) (hb : Below w.heap.size w W) => hp.below hb)
  have LC := Lib.hid (fun (W : World) => ab_any W)
  have LR := Lib.hid (fun (W : World) (hW : BytesAt W p m G) => refRows_any p m mc G hG hmc (by omega) M P RO W hW)
  have HN := Lib.hid (show n ≤ 140737488351232 ∧ m ≤ 140737488351232 from ⟨hn, hm⟩)
  have HL := Lib.hid (show n ≤ 65536 ∧ m ≤ 131072 from ⟨by omega, by omega⟩)
  have TK : (M = 0 ∧ Hid (∀ (C : Nat) (W : World), BytesAt W (some ⟨C, 0, none⟩) m G → Calls Try.prog 21 #[.slice (some ⟨C, 0, none⟩) m (m + 2)] W fun e w' => e = .returned (.tuple #[.slice none 0 0, .slice none 0 0, .iface 40 (.int .i64 2)]) ∧ W = w')) ∨
      (∃ E k : Nat, Hid (0 < M ∧ P 0 = 0 ∧ P 1 = E ∧ 2 + k = E ∧ E ≤ m) ∧ Hid (∀ (C : Nat) (W : World), BytesAt W (some ⟨C, 0, none⟩) m G → Calls Try.prog 21 #[.slice (some ⟨C, 0, none⟩) m (m + 2)] W fun e w' => ∃ D1 D2, e = .returned (.tuple #[.slice (some ⟨D1, 0, none⟩) k k, .slice (some ⟨D2, 0, none⟩) (m - E) (m - E), .nilIface]) ∧
      IntBlk w' D1 .u8 5 (mk k (fun j => G (2 + j))) ∧ IntBlk w' D2 .u8 5 (mk (m - E) (fun j => G (E + j))) ∧ W.heap.size ≤ D1 ∧ D1 < D2 ∧ Below W.heap.size W w')) := by
    rcases Nat.eq_zero_or_pos M with h0 | h0
    · refine .inl ⟨h0, Lib.hid (fun C W hW => TakeRow_none _ m _ G hG (by omega) (by omega) ?_ W hW)⟩
      have := RO.stop
      rw [h0, RO.zero] at this
      omega
    · have hz := RO.zero
      have h1 : P 1 = P 0 + 2 + lenAt G (P 0) := RO.next 0 h0
      have h2 := RO.room 0 h0
      rw [hz] at h1 h2
      exact .inr ⟨P 1, P 1 - 2, Lib.hid ⟨h0, hz, rfl, by omega, by omega⟩, Lib.hid (fun C W hW => TakeRow_ok _ m _ G hG (by omega) (by omega) (P 1) (P 1 - 2) (by omega) (by omega) rfl W hW)⟩
  have RW : (Hid (65535 < m) ∧ Hid (∀ (O R : Nat) (W : World), Calls Try.prog 20 #[.slice (some ⟨O, 0, none⟩) n (n + 2), .slice (some ⟨R, 0, none⟩) m (m + 2)] W fun e w' => e = .returned (.tuple #[.slice none 0 0, .iface 40 (.int .i64 1)]) ∧ W = w')) ∨
      (Hid (m ≤ 65535) ∧ Hid (∀ (O R : Nat) (W : World), BytesAt W (some ⟨O, 0, none⟩) n g → BytesAt W (some ⟨R, 0, none⟩) m G → Calls Try.prog 20 #[.slice (some ⟨O, 0, none⟩) n (n + 2), .slice (some ⟨R, 0, none⟩) m (m + 2)] W fun e w' => e = .returned (.tuple #[.slice (some ⟨W.heap.size, 0, none⟩) (n + (2 + m)) (n + (2 + m)), .nilIface]) ∧ IntBlk w' W.heap.size .u8 5 (mk (n + (2 + m)) (cat n g (cat 2 (numF 2 m) G))) ∧ Below W.heap.size W w')) := by
    rcases Nat.lt_or_ge 65535 m with h | h
    · exact .inl ⟨Lib.hid h, Lib.hid (fun O R W => Row_range _ n _ _ m _ h W)⟩
    · exact .inr ⟨Lib.hid h, Lib.hid (fun O R W h1 h2 => Row_ok _ n _ g _ m _ G h (by omega) (by omega) W h1 h2)⟩
  have HCAP := Lib.hid (show n ≤ cap ∧ m ≤ mc from ⟨hcap, hmc⟩)
  have B0 := Lib.hid (Below.refl w.heap.size w)
  clear hg hcap hn hG hmc hm hq hp RO hl hl2
  rcases RW with ⟨HM, RC⟩ | ⟨HM, RC⟩
  case inl =>
    have x1 : decide ((65535 : Int) < (m : Int)) = true := by have := HM.out; simp; omega
    have x2 : decide (65535 < m) = true := by have := HM.out; simp; omega
    rcases TK with ⟨h0, TC⟩ | ⟨E, k, HEK, TC⟩
    case inl =>
      subst h0
      go_enter Try.func6, Try.ntmps6
      go_wp2_with (first
      | (go_at_call 12; refine (CC1.out _ (HQ.out _ B0.out)).mono ?_; rintro e w1 ⟨rfl, hr1, hb1⟩
         have R1 := Lib.hid hr1
         have B1 := Lib.hid hb1
         clear CC1 hr1 hb1 B0)
      | (go_at_call 12; refine (CC2.out _ (HP.out _ B1.out)).mono ?_; rintro e w2 ⟨rfl, hr2, hb2⟩
         have T2 := Lib.hid (show Two w n m g G w.heap.size w1.heap.size w2 from ⟨R1.out.below hb2 R1.out.lt, hr2, B1.out.trans (hb2.mono B1.out.size), Nat.le_refl _, R1.out.lt⟩)
         have L2 := Lib.hid (And.intro ((R1.out.below hb2 R1.out.lt).bytesAt.low rfl) (hr2.bytesAt.low rfl))
         clear CC2 hr2 hb2 R1 B1)
      | (go_at_call 20; refine (RC.out w.heap.size w1.heap.size _).mono ?_; rintro e w3 ⟨rfl, rfl⟩; clear RC; have T3 := Lib.hid T2.out; have L3 := Lib.hid L2.out.2; clear T2 L2)
      | (go_at_call 21; refine (TC.out w1.heap.size _ L3.out).mono ?_; rintro e w4 ⟨rfl, rfl⟩; clear TC; have T4 := Lib.hid T3.out; clear T3 L3)
      | (go_at_call 15; refine (KC1.out w.heap.size _ (HQ.out _ T4.out.low) T4.out.o).mono ?_; rintro e w5 ⟨rfl, rfl⟩; clear KC1)
      | (go_at_call 15; refine (KC2.out w1.heap.size _ (HP.out _ T4.out.low) T4.out.r).mono ?_; rintro e w5 ⟨rfl, rfl⟩; clear KC2)
      | (refine wpList_lit rfl _ rfl w2.heap.size 2 2 rfl (heap_alloc_new w2 (.cells #[.int .u8 97, .int .u8 98] 5)) ?_)
      | (go_at_call 20; change Calls _ _ _ ((w2.alloc (.cells #[.int .u8 97, .int .u8 98] 5)).freeze ⟨w2.heap.size, 2, none⟩ 1) _; refine (LC.out w2).mono ?_; rintro e w6 ⟨rfl, hr6, hb6⟩
         have A6 := Lib.hid hr6
         have T6 := Lib.hid (T4.out.below hb6)
         clear LC hr6 hb6 T4)
      | (refine wpList_string_w rfl (.tmp 59) rfl _ 4 4 rfl abF A6.out ?_; rw [ab_str]; clear A6)
      | (go_at_call 19; refine (Is_err 1 rfl _).mono ?_; rintro e w7 ⟨rfl, rfl⟩)
      | (go_at_call 19; refine (Is_err 2 rfl _).mono ?_; rintro e w7 ⟨rfl, rfl⟩)
      | (go_at_call 23; refine (LR.out _ (HP.out _ T6.out.low)).mono ?_; rintro e w8 ⟨v8, rfl, hr8, hb8⟩
         have T8 := Lib.hid (T6.out.below hb8)
         obtain ⟨p8, c8, hv8⟩ := owns_slice hr8
         subst hv8
         clear LR hr8 hb8 T6))
      go_ret
      exact ⟨rfl, T8.out.low⟩
    case inr =>
      have HX := Lib.hid (rowsL_first p mc P M HEK.out.1)
      obtain ⟨pv, cv, hpv, hbv⟩ : ∃ pv cv, rowV p mc (P 0 + 2) (P 1) = .slice pv k cv ∧ Behind p m 2 k pv := by
        obtain ⟨_, h0, h1, h2, h3⟩ := HEK.out
        rw [h0, h1]
        refine ⟨if mc = 2 then p else p.map (·.add 2), mc - 2, ?_, behind_of p m mc 2 k (by omega) HCAP.out.2⟩
        unfold rowV
        rw [show 0 + 2 = 2 from rfl, show E - 2 = k by omega]
      have HX2 := HX
      rw [hpv] at HX
      have PV := Lib.hid hbv
      have HE := Lib.hid HEK.out.2.2.2.2
      have HE2 := Lib.hid (show 2 + k = E ∧ E ≤ m from ⟨HEK.out.2.2.2.1, HEK.out.2.2.2.2⟩)
      have q1 : IntKind.i64.wrap (2 + (k : Int)) = (E : Int) := by have := HE2.out; have := HN.out; rw [IntWalk.i64_in _ (by omega)]; omega
      have z0 : ((M : Int) == 0) = false := by have := HEK.out.1; simp; omega
      have z1 : (0 : Int) < (M : Int) := by have := HEK.out.1; omega
      have z2 : 0 < M := HEK.out.1
      clear hpv hbv HX2 HEK
      go_enter Try.func6, Try.ntmps6
      go_wp2_with (first
      | (go_at_call 12; refine (CC1.out _ (HQ.out _ B0.out)).mono ?_; rintro e w1 ⟨rfl, hr1, hb1⟩
         have R1 := Lib.hid hr1
         have B1 := Lib.hid hb1
         clear CC1 hr1 hb1 B0)
      | (go_at_call 12; refine (CC2.out _ (HP.out _ B1.out)).mono ?_; rintro e w2 ⟨rfl, hr2, hb2⟩
         have T2 := Lib.hid (show Two w n m g G w.heap.size w1.heap.size w2 from ⟨R1.out.below hb2 R1.out.lt, hr2, B1.out.trans (hb2.mono B1.out.size), Nat.le_refl _, R1.out.lt⟩)
         have L2 := Lib.hid (And.intro ((R1.out.below hb2 R1.out.lt).bytesAt.low rfl) (hr2.bytesAt.low rfl))
         clear CC2 hr2 hb2 R1 B1)
      | (go_at_call 20; refine (RC.out w.heap.size w1.heap.size _).mono ?_; rintro e w3 ⟨rfl, rfl⟩; clear RC; have T3 := Lib.hid T2.out; have L3 := Lib.hid L2.out.2; clear T2 L2)
      | (go_at_call 21; refine (TC.out w1.heap.size _ L3.out).mono ?_; rintro e w4 ⟨D1, D2, rfl, hr4, hs4, hd4, he4, hb4⟩
         have T4 := Lib.hid (T3.out.below hb4)
         have Y4 := Lib.hid (And.intro hr4 hs4)
         have N4 := Lib.hid (And.intro (Nat.lt_of_lt_of_le T3.out.r.lt hd4) he4)
         clear TC hr4 hs4 hd4 he4 hb4 T3 L3)
      | (go_at_call 15; refine (KC1.out w.heap.size _ (HQ.out _ T4.out.low) T4.out.o).mono ?_; rintro e w5 ⟨rfl, rfl⟩; clear KC1)
      | (go_at_call 15; refine (KC2.out w1.heap.size _ (HP.out _ T4.out.low) T4.out.r).mono ?_; rintro e w5 ⟨rfl, rfl⟩; clear KC2)
      | (refine wpList_lit rfl _ rfl w4.heap.size 2 2 rfl (heap_alloc_new w4 (.cells #[.int .u8 97, .int .u8 98] 5)) ?_)
      | (go_at_call 20; change Calls _ _ _ ((w4.alloc (.cells #[.int .u8 97, .int .u8 98] 5)).freeze ⟨w4.heap.size, 2, none⟩ 1) _; refine (LC.out w4).mono ?_; rintro e w6 ⟨rfl, hr6, hb6⟩
         have A6 := Lib.hid hr6
         have T6 := Lib.hid (T4.out.below hb6)
         have Y6 := Lib.hid (And.intro (Y4.out.1.below hb6 Y4.out.1.lt) (Y4.out.2.below hb6 Y4.out.2.lt))
         clear LC hr6 hb6 T4)
      | (refine wpList_string_w rfl (.tmp 59) rfl _ 4 4 rfl abF A6.out ?_; rw [ab_str]; clear A6)
      | (go_at_call 19; refine (Is_err 1 rfl _).mono ?_; rintro e w7 ⟨rfl, rfl⟩)
      | (go_at_call 23; refine (LR.out _ (HP.out _ T6.out.low)).mono ?_; rintro e w8 ⟨v8, rfl, hr8, hb8⟩
         have T8 := Lib.hid (T6.out.below hb8)
         obtain ⟨L8, c8, hv8, hc8⟩ := owns_first (HX.out.choose_spec ▸ hr8)
         subst hv8
         have C8 := Lib.hid hc8
         have Y8 := Lib.hid (And.intro (Y6.out.1.below hb8 Y6.out.1.lt) (Y6.out.2.below hb8 Y6.out.2.lt))
         clear LR hr8 hb8 T6)
      | (go_at_call 11; refine (Same_true (some ⟨D1, 0, none⟩) k k pv cv _ _ (fun _ _ => rfl) w8 Y8.out.1.bytesAt (PV.out _ _ (HP.out _ T8.out.low))).mono ?_; rintro e w9 ⟨rfl, rfl⟩)
      | (refine wpList_tail rfl (.tmp 118) _ rfl p m mc E E rfl rfl rfl HE.out HCAP.out.2 ?_; intro p' hp' _; have P9 := Lib.hid (hp' _ _ (HP.out _ T8.out.low)); clear hp')
      | (go_at_call 11; refine (Same_true (some ⟨D2, 0, none⟩) (m - E) (m - E) p' (mc - E) _ _ (fun _ _ => rfl) w8 Y8.out.2.bytesAt P9.out).mono ?_; rintro e w10 ⟨rfl, rfl⟩; clear P9)
      | (refine wpList_lists5 rfl _ _ _ _ _ rfl _ _ _ _ _ _ _ _ _ _ _ _ _ _ _ rfl rfl rfl rfl rfl ?_)
      | (go_at_call 16
         have a11 : Below w8.heap.size w8 (w8.alloc (.cells #[.slice none 0 0, .slice (some ⟨D1, 0, none⟩) k k, .slice (some ⟨D2, 0, none⟩) (m - E) (m - E), .slice (some ⟨w.heap.size, 0, none⟩) n (n + 2), .slice (some ⟨w1.heap.size, 0, none⟩) m (m + 2)] 22)) := (Below.refl _ _).alloc (Nat.le_refl _) _
         refine (Apart_row w n m g G w.heap.size w1.heap.size (D2 + 1) 0 true (fun _ => 0) D1 k (fun j => G (2 + j)) D2 (m - E) (fun j => G (E + j)) w8.heap.size _ (T8.out.below a11) (.inl ⟨rfl, rfl, rfl⟩) (Y8.out.1.below a11 Y8.out.1.lt) (Y8.out.2.below a11 Y8.out.2.lt) ?aown N4.out ?bown (heap_alloc_new _ _)).mono ?_
         case aown => have := HN.out; have := HE2.out; omega
         case bown => exact (by have := N4.out; have := T8.out.far; omega)
         rintro e w12 ⟨rfl, hb12⟩
         have B12 := Lib.hid ((T8.out.low.trans (a11.mono T8.out.low.size)).trans hb12)
         clear a11 hb12))
      go_ret
      exact ⟨rfl, B12.out⟩
  case inr =>
    have x1 : decide ((65535 : Int) < (m : Int)) = false := by have := HM.out; simp; omega
    have x2 : decide (65535 < m) = false := by have := HM.out; simp; omega
    have RR := Lib.hid (fun (W : World) (hW : BytesAt W p m G) => refRow_any p m mc G HM.out W hW)
    rcases TK with ⟨h0, TC⟩ | ⟨E, k, HEK, TC⟩
    case inl =>
      subst h0
      go_enter Try.func6, Try.ntmps6
      go_wp2_with (first
      | (go_at_call 12; refine (CC1.out _ (HQ.out _ B0.out)).mono ?_; rintro e w1 ⟨rfl, hr1, hb1⟩
         have R1 := Lib.hid hr1
         have B1 := Lib.hid hb1
         clear CC1 hr1 hb1 B0)
      | (go_at_call 12; refine (CC2.out _ (HP.out _ B1.out)).mono ?_; rintro e w2 ⟨rfl, hr2, hb2⟩
         have T2 := Lib.hid (show Two w n m g G w.heap.size w1.heap.size w2 from ⟨R1.out.below hb2 R1.out.lt, hr2, B1.out.trans (hb2.mono B1.out.size), Nat.le_refl _, R1.out.lt⟩)
         have L2 := Lib.hid (And.intro ((R1.out.below hb2 R1.out.lt).bytesAt.low rfl) (hr2.bytesAt.low rfl))
         clear CC2 hr2 hb2 R1 B1)
      | (go_at_call 20; refine (RC.out w.heap.size w1.heap.size _ L2.out.1 L2.out.2).mono ?_; rintro e w3 ⟨rfl, hr3, hb3⟩
         have X3 := Lib.hid hr3
         have T3 := Lib.hid (T2.out.below hb3)
         have L3 := Lib.hid (L2.out.2.below hb3)
         have N3 := Lib.hid T2.out.r.lt
         clear RC hr3 hb3 T2 L2)
      | (go_at_call 21; refine (TC.out w1.heap.size _ L3.out).mono ?_; rintro e w4 ⟨rfl, rfl⟩; clear TC; have T4 := Lib.hid T3.out; clear T3 L3; have X4 := Lib.hid X3.out; clear X3)
      | (go_at_call 15; refine (KC1.out w.heap.size _ (HQ.out _ T4.out.low) T4.out.o).mono ?_; rintro e w5 ⟨rfl, rfl⟩; clear KC1)
      | (go_at_call 15; refine (KC2.out w1.heap.size _ (HP.out _ T4.out.low) T4.out.r).mono ?_; rintro e w5 ⟨rfl, rfl⟩; clear KC2)
      | (refine wpList_lit rfl _ rfl w3.heap.size 2 2 rfl (heap_alloc_new w3 (.cells #[.int .u8 97, .int .u8 98] 5)) ?_)
      | (go_at_call 20; change Calls _ _ _ ((w3.alloc (.cells #[.int .u8 97, .int .u8 98] 5)).freeze ⟨w3.heap.size, 2, none⟩ 1) _; refine (LC.out w3).mono ?_; rintro e w6 ⟨rfl, hr6, hb6⟩
         have A6 := Lib.hid hr6
         have T6 := Lib.hid (T4.out.below hb6)
         have X6 := Lib.hid (X4.out.below hb6 X4.out.lt)
         clear LC hr6 hb6 T4)
      | (refine wpList_string_w rfl (.tmp 59) rfl _ 4 4 rfl abF A6.out ?_; rw [ab_str]; clear A6))
      have c0 : Below w6.heap.size w6 w6.drew := (Below.refl _ w6).drew
      refine wp_region_sched [(0, true), (1, true), (2, true), (3, true), (4, true), (5, true), (6, true), (7, true), (8, false), (9, false), (10, true), (11, true), (12, true)] (fun W => Below w6.heap.size w6 W) (by kernel_rfl) (by kernel_rfl) c0 ?_
      refine walk_float rfl rfl (fun K' hK' => ?_)
      refine gives_move _ rfl ?_
      go_simp
      refine hK' _ ?_
      clear hK' K'
      refine walk_float rfl rfl (fun K' hK' => ?_)
      refine gives_no_err _ rfl rfl ?_
      go_simp
      refine hK' _ ?_
      clear hK' K'
      refine walk_float rfl rfl (fun K' hK' => ?_)
      refine gives_move _ rfl ?_
      go_simp
      refine hK' _ ?_
      clear hK' K'
      refine walk_float rfl rfl (fun K' hK' => ?_)
      refine gives_move _ rfl ?_
      go_simp
      refine hK' _ ?_
      clear hK' K'
      refine walk_float rfl rfl (fun K' hK' => ?_)
      refine gives_string _ rfl (some ⟨w2.heap.size, 0, none⟩) (n + (2 + m)) (n + (2 + m)) rfl (cat n g (cat 2 (numF 2 m) G)) (fun W hW => (X6.out.below hW X6.out.lt).bytesAt) ?_
      go_simp
      refine hK' _ ?_
      clear hK' K'
      refine walk_float rfl rfl (fun K' hK' => ?_)
      refine gives_move _ rfl ?_
      go_simp
      refine hK' _ ?_
      clear hK' K'
      refine walk_float rfl rfl (fun K' hK' => ?_)
      refine gives_string _ rfl q n cap rfl g (fun W hW => HQ.out W (T6.out.low.trans (hW.mono T6.out.low.size))) ?_
      go_simp
      refine hK' _ ?_
      clear hK' K'
      refine walk_float rfl rfl (fun K' hK' => ?_)
      refine gives_move _ rfl ?_
      go_simp
      refine hK' _ ?_
      clear hK' K'
      refine walk_done rfl rfl (fun K' hK' => ?_)
      refine done_enter1 _ _ _ rfl 22 rfl (enters_of Try.func22 (by kernel_rfl) rfl) _ rfl _ (RR.out _ (HP.out _ T6.out.low.drew)) ?_
      rintro e w7 ⟨p7, c7, rfl, hr7, hb7⟩
      have b7 : Below w6.heap.size w6 w7 := c0.trans hb7
      refine ⟨_, rfl, b7, ?_⟩
      go_simp
      refine hK' _ _ ?_
      clear hK' K'
      refine walk_done rfl rfl (fun K' hK' => ?_)
      refine done_string _ rfl p7 (2 + m) c7 rfl (cat 2 (numF 2 m) G) hr7 ?_
      refine ⟨b7, ?_⟩
      go_simp
      refine hK' _ _ ?_
      clear hK' K'
      refine walk_float rfl rfl (fun K' hK' => ?_)
      refine gives_str_add _ _ rfl n (2 + m) g (cat 2 (numF 2 m) G) rfl rfl (by have := HL.out; omega) ?_
      go_simp
      refine hK' _ ?_
      clear hK' K'
      refine walk_float rfl rfl (fun K' hK' => ?_)
      refine gives_str_same _ _ rfl _ rfl rfl ?_
      go_simp
      refine hK' _ ?_
      clear hK' K'
      refine walk_float rfl rfl (fun K' hK' => ?_)
      refine apart.gives_pick_no _ _ _ rfl rfl (.bool false) rfl ?_
      go_simp
      refine hK' _ ?_
      clear hK' K'
      refine walk_nil ?_
      have T7 := Lib.hid (T6.out.below b7)
      have X7 := Lib.hid (X6.out.below b7 X6.out.lt)
      clear c0 b7 hr7 hb7 T6 X6 RR
      go_wp2_with (first
      | (go_at_call 19; refine (Is_err 2 rfl _).mono ?_; rintro e w7 ⟨rfl, rfl⟩)
      | (go_at_call 23; refine (LR.out _ (HP.out _ T7.out.low)).mono ?_; rintro e w8 ⟨v8, rfl, hr8, hb8⟩
         have T8 := Lib.hid (T7.out.below hb8)
         obtain ⟨p8, c8, hv8⟩ := owns_slice hr8
         subst hv8
         clear LR hr8 hb8 T7))
      go_ret
      exact ⟨rfl, T8.out.low⟩
    case inr =>
      have HX := Lib.hid (rowsL_first p mc P M HEK.out.1)
      obtain ⟨pv, cv, hpv, hbv⟩ : ∃ pv cv, rowV p mc (P 0 + 2) (P 1) = .slice pv k cv ∧ Behind p m 2 k pv := by
        obtain ⟨_, h0, h1, h2, h3⟩ := HEK.out
        rw [h0, h1]
        refine ⟨if mc = 2 then p else p.map (·.add 2), mc - 2, ?_, behind_of p m mc 2 k (by omega) HCAP.out.2⟩
        unfold rowV
        rw [show 0 + 2 = 2 from rfl, show E - 2 = k by omega]
      have HX2 := HX
      rw [hpv] at HX
      have PV := Lib.hid hbv
      have HE := Lib.hid HEK.out.2.2.2.2
      have HE2 := Lib.hid (show 2 + k = E ∧ E ≤ m from ⟨HEK.out.2.2.2.1, HEK.out.2.2.2.2⟩)
      have q1 : IntKind.i64.wrap (2 + (k : Int)) = (E : Int) := by have := HE2.out; have := HN.out; rw [IntWalk.i64_in _ (by omega)]; omega
      have z0 : ((M : Int) == 0) = false := by have := HEK.out.1; simp; omega
      have z1 : (0 : Int) < (M : Int) := by have := HEK.out.1; omega
      have z2 : 0 < M := HEK.out.1
      clear hpv hbv HX2 HEK
      go_enter Try.func6, Try.ntmps6
      go_wp2_with (first
      | (go_at_call 12; refine (CC1.out _ (HQ.out _ B0.out)).mono ?_; rintro e w1 ⟨rfl, hr1, hb1⟩
         have R1 := Lib.hid hr1
         have B1 := Lib.hid hb1
         clear CC1 hr1 hb1 B0)
      | (go_at_call 12; refine (CC2.out _ (HP.out _ B1.out)).mono ?_; rintro e w2 ⟨rfl, hr2, hb2⟩
         have T2 := Lib.hid (show Two w n m g G w.heap.size w1.heap.size w2 from ⟨R1.out.below hb2 R1.out.lt, hr2, B1.out.trans (hb2.mono B1.out.size), Nat.le_refl _, R1.out.lt⟩)
         have L2 := Lib.hid (And.intro ((R1.out.below hb2 R1.out.lt).bytesAt.low rfl) (hr2.bytesAt.low rfl))
         clear CC2 hr2 hb2 R1 B1)
      | (go_at_call 20; refine (RC.out w.heap.size w1.heap.size _ L2.out.1 L2.out.2).mono ?_; rintro e w3 ⟨rfl, hr3, hb3⟩
         have X3 := Lib.hid hr3
         have T3 := Lib.hid (T2.out.below hb3)
         have L3 := Lib.hid (L2.out.2.below hb3)
         have N3 := Lib.hid T2.out.r.lt
         clear RC hr3 hb3 T2 L2)
      | (go_at_call 21; refine (TC.out w1.heap.size _ L3.out).mono ?_; rintro e w4 ⟨D1, D2, rfl, hr4, hs4, hd4, he4, hb4⟩
         have T4 := Lib.hid (T3.out.below hb4)
         have Y4 := Lib.hid (And.intro hr4 hs4)
         have N4 := Lib.hid (And.intro (Nat.lt_of_lt_of_le T3.out.r.lt hd4) he4)
         have X4 := Lib.hid (X3.out.below hb4 X3.out.lt)
         have M4 := Lib.hid (Nat.lt_of_lt_of_le X3.out.lt hd4)
         clear TC hr4 hs4 hd4 he4 hb4 T3 L3)
      | (go_at_call 15; refine (KC1.out w.heap.size _ (HQ.out _ T4.out.low) T4.out.o).mono ?_; rintro e w5 ⟨rfl, rfl⟩; clear KC1)
      | (go_at_call 15; refine (KC2.out w1.heap.size _ (HP.out _ T4.out.low) T4.out.r).mono ?_; rintro e w5 ⟨rfl, rfl⟩; clear KC2)
      | (refine wpList_lit rfl _ rfl w4.heap.size 2 2 rfl (heap_alloc_new w4 (.cells #[.int .u8 97, .int .u8 98] 5)) ?_)
      | (go_at_call 20; change Calls _ _ _ ((w4.alloc (.cells #[.int .u8 97, .int .u8 98] 5)).freeze ⟨w4.heap.size, 2, none⟩ 1) _; refine (LC.out w4).mono ?_; rintro e w6 ⟨rfl, hr6, hb6⟩
         have A6 := Lib.hid hr6
         have T6 := Lib.hid (T4.out.below hb6)
         have X6 := Lib.hid (X4.out.below hb6 X4.out.lt)
         have Y6 := Lib.hid (And.intro (Y4.out.1.below hb6 Y4.out.1.lt) (Y4.out.2.below hb6 Y4.out.2.lt))
         clear LC hr6 hb6 T4)
      | (refine wpList_string_w rfl (.tmp 59) rfl _ 4 4 rfl abF A6.out ?_; rw [ab_str]; clear A6))
      have c0 : Below w6.heap.size w6 w6.drew := (Below.refl _ w6).drew
      refine wp_region_sched [(0, true), (1, true), (2, true), (3, true), (4, true), (5, true), (6, true), (7, true), (8, false), (9, false), (10, true), (11, true), (12, true)] (fun W => Below w6.heap.size w6 W) (by kernel_rfl) (by kernel_rfl) c0 ?_
      refine walk_float rfl rfl (fun K' hK' => ?_)
      refine gives_move _ rfl ?_
      go_simp
      refine hK' _ ?_
      clear hK' K'
      refine walk_float rfl rfl (fun K' hK' => ?_)
      refine gives_no_err _ rfl rfl ?_
      go_simp
      refine hK' _ ?_
      clear hK' K'
      refine walk_float rfl rfl (fun K' hK' => ?_)
      refine gives_move _ rfl ?_
      go_simp
      refine hK' _ ?_
      clear hK' K'
      refine walk_float rfl rfl (fun K' hK' => ?_)
      refine gives_move _ rfl ?_
      go_simp
      refine hK' _ ?_
      clear hK' K'
      refine walk_float rfl rfl (fun K' hK' => ?_)
      refine gives_string _ rfl (some ⟨w2.heap.size, 0, none⟩) (n + (2 + m)) (n + (2 + m)) rfl (cat n g (cat 2 (numF 2 m) G)) (fun W hW => (X6.out.below hW X6.out.lt).bytesAt) ?_
      go_simp
      refine hK' _ ?_
      clear hK' K'
      refine walk_float rfl rfl (fun K' hK' => ?_)
      refine gives_move _ rfl ?_
      go_simp
      refine hK' _ ?_
      clear hK' K'
      refine walk_float rfl rfl (fun K' hK' => ?_)
      refine gives_string _ rfl q n cap rfl g (fun W hW => HQ.out W (T6.out.low.trans (hW.mono T6.out.low.size))) ?_
      go_simp
      refine hK' _ ?_
      clear hK' K'
      refine walk_float rfl rfl (fun K' hK' => ?_)
      refine gives_move _ rfl ?_
      go_simp
      refine hK' _ ?_
      clear hK' K'
      refine walk_done rfl rfl (fun K' hK' => ?_)
      refine done_enter1 _ _ _ rfl 22 rfl (enters_of Try.func22 (by kernel_rfl) rfl) _ rfl _ (RR.out _ (HP.out _ T6.out.low.drew)) ?_
      rintro e w7 ⟨p7, c7, rfl, hr7, hb7⟩
      have b7 : Below w6.heap.size w6 w7 := c0.trans hb7
      refine ⟨_, rfl, b7, ?_⟩
      go_simp
      refine hK' _ _ ?_
      clear hK' K'
      refine walk_done rfl rfl (fun K' hK' => ?_)
      refine done_string _ rfl p7 (2 + m) c7 rfl (cat 2 (numF 2 m) G) hr7 ?_
      refine ⟨b7, ?_⟩
      go_simp
      refine hK' _ _ ?_
      clear hK' K'
      refine walk_float rfl rfl (fun K' hK' => ?_)
      refine gives_str_add _ _ rfl n (2 + m) g (cat 2 (numF 2 m) G) rfl rfl (by have := HL.out; omega) ?_
      go_simp
      refine hK' _ ?_
      clear hK' K'
      refine walk_float rfl rfl (fun K' hK' => ?_)
      refine gives_str_same _ _ rfl _ rfl rfl ?_
      go_simp
      refine hK' _ ?_
      clear hK' K'
      refine walk_float rfl rfl (fun K' hK' => ?_)
      refine apart.gives_pick_no _ _ _ rfl rfl (.bool false) rfl ?_
      go_simp
      refine hK' _ ?_
      clear hK' K'
      refine walk_nil ?_
      have T7 := Lib.hid (T6.out.below b7)
      have X7 := Lib.hid (X6.out.below b7 X6.out.lt)
      have Y7 := Lib.hid (And.intro (Y6.out.1.below b7 Y6.out.1.lt) (Y6.out.2.below b7 Y6.out.2.lt))
      clear c0 b7 hr7 hb7 T6 X6 Y6 RR
      go_wp2_with (first
      | (go_at_call 23; refine (LR.out _ (HP.out _ T7.out.low)).mono ?_; rintro e w8 ⟨v8, rfl, hr8, hb8⟩
         have T8 := Lib.hid (T7.out.below hb8)
         obtain ⟨L8, c8, hv8, hc8⟩ := owns_first (HX.out.choose_spec ▸ hr8)
         subst hv8
         have C8 := Lib.hid hc8
         have X8 := Lib.hid (X7.out.below hb8 X7.out.lt)
         have Y8 := Lib.hid (And.intro (Y7.out.1.below hb8 Y7.out.1.lt) (Y7.out.2.below hb8 Y7.out.2.lt))
         clear LR hr8 hb8 T7)
      | (go_at_call 11; refine (Same_true (some ⟨D1, 0, none⟩) k k pv cv _ _ (fun _ _ => rfl) w8 Y8.out.1.bytesAt (PV.out _ _ (HP.out _ T8.out.low))).mono ?_; rintro e w9 ⟨rfl, rfl⟩)
      | (refine wpList_tail rfl (.tmp 118) _ rfl p m mc E E rfl rfl rfl HE.out HCAP.out.2 ?_; intro p' hp' _; have P9 := Lib.hid (hp' _ _ (HP.out _ T8.out.low)); clear hp')
      | (go_at_call 11; refine (Same_true (some ⟨D2, 0, none⟩) (m - E) (m - E) p' (mc - E) _ _ (fun _ _ => rfl) w8 Y8.out.2.bytesAt P9.out).mono ?_; rintro e w10 ⟨rfl, rfl⟩; clear P9)
      | (refine wpList_lists5 rfl _ _ _ _ _ rfl _ _ _ _ _ _ _ _ _ _ _ _ _ _ _ rfl rfl rfl rfl rfl ?_)
      | (go_at_call 16
         have a11 : Below w8.heap.size w8 (w8.alloc (.cells #[.slice (some ⟨w2.heap.size, 0, none⟩) (n + (2 + m)) (n + (2 + m)), .slice (some ⟨D1, 0, none⟩) k k, .slice (some ⟨D2, 0, none⟩) (m - E) (m - E), .slice (some ⟨w.heap.size, 0, none⟩) n (n + 2), .slice (some ⟨w1.heap.size, 0, none⟩) m (m + 2)] 22)) := (Below.refl _ _).alloc (Nat.le_refl _) _
         refine (Apart_row w n m g G w.heap.size w1.heap.size w2.heap.size (n + (2 + m)) false (cat n g (cat 2 (numF 2 m) G)) D1 k (fun j => G (2 + j)) D2 (m - E) (fun j => G (E + j)) w8.heap.size _ (T8.out.below a11) (.inr ⟨rfl, Nat.le_trans T8.out.far.1 (Nat.le_of_lt (Nat.lt_trans T8.out.far.2 N3.out)), Nat.le_refl _, Nat.le_add_right _ _, by have := HL.out; omega, X8.out.below a11 X8.out.lt⟩) (Y8.out.1.below a11 Y8.out.1.lt) (Y8.out.2.below a11 Y8.out.2.lt) ?aown N4.out ?bown (heap_alloc_new _ _)).mono ?_
         case aown => have := HN.out; have := HE2.out; omega
         case bown => exact (by have := N3.out; have := M4.out; have := N4.out; have := T8.out.far; omega)
         rintro e w12 ⟨rfl, hb12⟩
         have B12 := Lib.hid ((T8.out.low.trans (a11.mono T8.out.low.size)).trans hb12)
         clear a11 hb12))
      go_ret
      exact ⟨rfl, B12.out⟩

theorem laidOut : laidOutB Try.prog = true := by kernel_rfl
set_option maxRecDepth 100000 in
theorem lifted (os : Os) (started : os.Started) (H : Type) (enc : TypeId × Value → H) :
    ReturnsInHanded {} Try.checked os 6 .any (Rows.wordsRowSpec.pre6 enc Try.prog Try.f6 Rows.wordsRowRow.domain false) (Rows.wordsRowSpec.post enc Try.prog Try.f6 false true false false) := by
  refine returnsInHanded_of_change_sized (C := Try.checked) own started (by kernel_rfl) Try.func6
    (ChangeSpec.witness6 (enc := enc) (C := Try.checked) false ⟨#[], #[.slice none 0 0, .slice none 0 0], []⟩ 8 (by kernel_rfl) (by kernel_rfl) (by kernel_rfl) (by kernel_rfl)) ?_
  intro W base args ds gs before hval0 hW hcnd hsz _
  have hval : ∀ (j : Nat) t v, Try.f6.params[j]? = some t → args[j]? = some v → Value.okWide Try.prog W .any base t v := hval0
  have hW' := hW
  obtain ⟨p, q, hA0, hV, rfl, hfz, hnd⟩ := hW
  have hA : DataW.TrodAll enc Try.prog W 0 (fun _ => true) true Try.f6.params.toList args.toList ds p := hA0
  rw [Try.params6] at hA hval
  obtain ⟨v0, vs0, d0, ds0, p0, q0, hargs, rfl, rfl, h0, r0⟩ := trodAll_cons hA
  obtain ⟨v1, vs1, d1, ds1, p1, q1, rfl, rfl, rfl, h1, r1⟩ := trodAll_cons r0
  obtain ⟨rfl, rfl, rfl⟩ := trodAll_nil r1
  obtain rfl : args = #[v0, v1] := by cases args; simp_all
  obtain ⟨rfl, rfl⟩ := trodVars_none hV
  have k0 := h0
  have lt0 : ∀ x ∈ p0, x.block < W.heap.size := by obtain ⟨m, hm⟩ := k0; exact DataW.trod_lt m _ _ _ hm
  obtain ⟨q0, n0, c0, a0, rfl, w0, y0, l0, m0⟩ := open_byteslice (hval 0 22 v0 rfl rfl) h0
  have k1 := h1
  have lt1 : ∀ x ∈ p1, x.block < W.heap.size := by obtain ⟨m, hm⟩ := k1; exact DataW.trod_lt m _ _ _ hm
  obtain ⟨q1, n1, c1, a1, rfl, w1, y1, l1, m1⟩ := open_byteslice (hval 1 22 v1 rfl rfl) h1
  have z0 := open_size k0 hsz (j := 0) (by rw [Try.params6]; rfl) rfl
  have z1 := open_size k1 hsz (j := 1) (by rw [Try.params6]; rfl) rfl
  clear hA0 hval0
  refine (walk q0 n0 c0 a0 q1 n1 c1 a1 w0 l0 z0 w1 l1 z1 W y0 y1).mono fun e W' ⟨he, bel⟩ => ?_
  subst he
  exact ⟨_, rfl, _, _, _, [], _, [], hW', trodAll_mk1 (shut_bool Try.underlying4 _), (trodAll_cons_mk (Below.trod laidOut (by kernel_rfl) (of_decide_eq_true (by kernel_rfl)) k0 bel lt0) (trodAll_cons_mk (Below.trod laidOut (by kernel_rfl) (of_decide_eq_true (by kernel_rfl)) k1 bel lt1) trodAll_mk0)), rfl, bel.frame _, fun h => by cases h⟩

theorem over : Rows.wordsRowRow.holds Try.pinned (OpenSpec.ofChange Rows.wordsRowSpec) :=
  OpenClaim.holds_of_wide 6 Try.f6 rfl rfl rfl rfl rfl rfl rfl ⟨rfl, rfl, rfl, rfl, rfl⟩ rfl rfl rfl rfl rfl (by kernel_rfl) Try.func6 (by kernel_rfl)
    (of_decide_eq_true (by kernel_rfl)) (by unfold Func.isWrapper; first | (rw [if_pos (by decide +kernel)]; kernel_rfl) | (rw [if_neg (by decide +kernel)]; exact ⟨rfl, rfl⟩))
    (fun os started H enc _ => lifted os started H enc)

theorem proved : Rows.WordsRowSaid := over
end Go.Proofs.Ytfnoiijodcmaeaa.wordsRow
