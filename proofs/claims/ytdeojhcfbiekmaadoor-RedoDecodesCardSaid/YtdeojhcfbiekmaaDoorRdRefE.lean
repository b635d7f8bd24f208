/- The contract of citadelref10's Encode: an entry's sectors, or that it is none. Conditions: the key has at most 80,000 bytes, there are at most 500 puts; their numbers are of 64 bits. -/
import Derived.Test.YtdeojhcfbiekmaaDoorRdGoodE
import Derived.Test.YtdeojhcfbiekmaaDoorRdNumO
import Derived.Test.YtdeojhcfbiekmaaDoorRdFirst
import Derived.Test.YtdeojhcfbiekmaaDoorRdEncode
namespace Go.Proofs.YtdeojhcfbiekmaaDoor
open Go.ChangeShapes Go.WideShapes Go.ChangeAt Go.RowKit
set_option linter.unusedVariables false
/-- What the document's Encode answers. -/
def RefEnc (τ : List Int → List Int) (count : Int) (l : List PutOf) (w' : World) (e : Ending) : Prop :=
  (goodE count l ∧ ∃ p c, e = .returned (.tuple #[.slice p (encL τ count l).length c, .bool true]) ∧ RowsAt 128 secC w' p (encL τ count l)) ∨
  (¬ goodE count l ∧ e = .returned (.tuple #[.slice none 0 0, .bool false]))
theorem cell_pad {b : List Int} : mk 128 (secTo b.length (natF b) 128) = padS b := by
  unfold padS
  refine mk_ext fun j hj => ?_
  unfold secTo
  by_cases h : j < b.length
  · rw [if_pos ⟨hj, h⟩]
  · rw [if_neg (by omega), natF_out (by omega)]
theorem cell_tau {n : Nat} {f : Nat → Nat} (hf : ∀ i, i < n → f i < 256) : mk 128 (secTo n f 128) = padS (mk n f) := by
  have h := cell_pad (b := mk n f)
  rw [mk_len] at h
  rw [← h]
  refine mk_ext fun j _ => ?_
  unfold secTo
  by_cases hj : j < 128 ∧ j < n
  · rw [if_pos hj, if_pos hj, natF_mk hj.2]
  · rw [if_neg hj, if_neg hj]
def textT (s : List Int) (l : List PutOf) (k : Nat) : List Int := textL s (l.take k)
theorem textT_zero (s : List Int) (l : List PutOf) : textT s l 0 = s := by unfold textT textL; simp
theorem textT_next (s : List Int) (l : List PutOf) {k : Nat} (h : k < l.length) : textT s l (k + 1) = textT s l k ++ (l.getD k noPut).s := by
  unfold textT textL
  rw [List.take_add_one, List.getElem?_eq_getElem h, Option.toList_some, List.flatMap_append, ← List.append_assoc, getD_at l h]; simp
theorem textT_end (s : List Int) (l : List PutOf) : textT s l l.length = textL s l := by unfold textT; rw [List.take_of_length_le (Nat.le_refl _)]
def outT (l : List PutOf) (k : Nat) : List (List Int) := (l.take k).map (·.s)
theorem outT_next (l : List PutOf) {k : Nat} (h : k < l.length) : outT l (k + 1) = outT l k ++ [(l.getD k noPut).s] := by
  unfold outT
  rw [List.take_add_one, List.getElem?_eq_getElem h, Option.toList_some, List.map_append, getD_at l h]; rfl
theorem outT_len (l : List PutOf) {k : Nat} (h : k ≤ l.length) : (outT l k).length = k := by unfold outT; simp; omega
theorem outT_end (τ : List Int → List Int) (count : Int) (l : List PutOf) : [firstL count l, padS (τ (textL (firstL count l) l))] ++ outT l l.length = encL τ count l := by
  unfold outT encL; rw [List.take_of_length_le (Nat.le_refl _)]; rfl
theorem sec_bytesL {w : World} {B off : Nat} {s : List Int} (hs : IsSec s) (h : w.rangeAt B off (secC s)) (hB : B < w.heap.size) : RowsAt 1 byteC w (some ⟨B, off, none⟩) s := by
  refine bytes_rows ?_ hs.2
  rw [hs.1]
  exact sec_bytes h hB
theorem blk_bytesL {w : World} {B : Nat} {t : TypeId} {s : List Int} (hs : IsSec s) (h : IntBlk w B .u8 t (mk 128 (natF s))) : RowsAt 1 byteC w (some ⟨B, 0, none⟩) s := by
  refine bytes_rows ?_ hs.2
  rw [hs.1]
  exact h.bytesAt
theorem put_secAt {w : World} {B o : Nat} {c : PutOf} (h : w.rangeAt B o (putC c)) : w.rangeAt B (o + 1) (secC c.s) := fun j v hv => by
  have := h (1 + j) v (by rw [Nat.add_comm]; exact hv)
  rwa [← Nat.add_assoc] at this
theorem numsL_getD (l : List PutOf) {k : Nat} (h : k < l.length) : (numsL l).getD (k + 1) 0 = (l.getD k noPut).at' := by
  unfold numsL
  rw [List.getD_cons_succ, List.getD_eq_getElem?_getD, List.getElem?_map, List.getElem?_eq_getElem h, getD_at l h]; rfl
theorem numsL_head (l : List PutOf) : (numsL l).getD 0 0 = ((l.length : Nat) : Int) := rfl
theorem numL_fit8 (z : Int) : fitsN 8 z := .inl rfl
theorem own_num {w : World} {base top : Nat} {v : Value} {s : Nat} {z : Int} (h : OwnS 5 1 w base top v s (numF s z)) : OwnL 5 1 byteC w base top v (numL s z) := own_list h
theorem own_rows {α : Type} {e : TypeId} {sz base top n c : Nat} {C : α → List Value} {w : World} {p : Option Addr} {l : List α} (hC : ∀ c, (C c).length = sz) (h : OwnL e sz C w base top (.slice p n c) l) : n = l.length ∧ RowsAt sz C w p l := by
  obtain ⟨p', c', he, _, _, hr, _⟩ := h.rows hC
  cases he
  exact ⟨rfl, hr⟩
theorem saidL_bytes (count : Int) (L : List Int) (k : Nat) : IsBytes (saidL count L k) := (numL_bytes 8 count).append (flat_bytes _)
theorem textT_bytes {s : List Int} (hs : IsSec s) {l : List PutOf} (hl : ∀ p ∈ l, p.ok) (k : Nat) : IsBytes (textT s l k) := text_bytes hs fun p hp => hl p (List.mem_of_mem_take hp)
theorem textT_len {s : List Int} (hs : IsSec s) {l : List PutOf} (hl : ∀ p ∈ l, p.ok) {k : Nat} (hk : k ≤ l.length) : (textT s l k).length = 128 * (k + 1) := by
  have := text_len s hs (l.take k) fun p hp => hl p (List.mem_of_mem_take hp)
  unfold textT
  rw [this, List.length_take, Nat.min_eq_left hk]
theorem sec_self {s : List Int} (h : IsSec s) : mk 128 (natF s) = s := h.mk'
theorem first_val (count : Int) (l : List PutOf) : mk 128 (secTo (saidL count (numsL l) (l.length + 1)).length (natF (saidL count (numsL l) (l.length + 1))) 128) = mk 128 (natF (firstL count l)) := by
  rw [cell_pad, firstL_said, sec_self (firstL_sec count l)]
theorem tau_val (n : Nat) (g : Nat → Nat) (t : List Int) : mk 128 (secTo 32 (tagF n g t.length (natF t)) 128) = mk 128 (natF (padS (tauK n g t))) := by
  rw [cell_tau (fun i _ => tagF_lt _ _ _ _ i)]
  show padS (tauK n g t) = _
  rw [sec_self (padS_sec (tauK_bytes n g t))]
theorem tau_is (n : Nat) (g : Nat → Nat) (t : List Int) : mk 32 (tagF n g t.length (natF t)) = tauK n g t := rfl
theorem outT_zero (l : List PutOf) : outT l 0 = [] := rfl
theorem rows_sec2 (w : World) (s u : List Int) : OwnL 31 128 secC (w.alloc (.cells ([s, u].flatMap secC).toArray 31)) w.heap.size (w.heap.size + 1) (.slice (some ⟨w.heap.size, 0, none⟩) 2 2) [s, u] := own_new secC_len w [s, u] w.heap.size (Nat.le_refl _) (by simp)
theorem put_at0 {W : World} {B o : Nat} {c : PutOf} (h : W.rangeAt B o (putC c)) : W.cell? ⟨B, o, none⟩ = some (.int .i64 c.at') := h 0 _ (putC_at c)
theorem blk_range {w : World} {B : Nat} {t : TypeId} {s : List Int} (h : IntBlk w B .u8 t (mk 128 (natF s))) : w.rangeAt B 0 (secC s) := fun j v hv => by
  have hj : j < 128 := by rw [← secC_len s]; exact (List.getElem?_eq_some_iff.1 hv).1
  rw [Nat.zero_add, h.cell (by rw [mk_len]; exact hj), mk_get hj, ← secC_get s hj]; exact hv
theorem tau_bytes {w : World} {T n : Nat} {g : Nat → Nat} {x : List Int} {t : TypeId} (h : IntBlk w T .u8 t (tauK n g x)) : BytesAt w (some ⟨T, 0, none⟩) 32 (tagF n g x.length (natF x)) := IntBlk.bytesAt (F := tagF n g x.length (natF x)) h
attribute [local irreducible] putC natF textT outT secC encL firstL textL padS numsL saidL numL tauK byteC secTo
set_option maxRecDepth 100000 in
set_option maxHeartbeats 4000000 in
theorem refEncode_any (kp : Option Addr) (nk kc : Nat) (g : Nat → Nat) (hnk : nk ≤ 80000) (hg : ∀ i, i < nk → g i < 256) (count : Int) (q : Option Addr) (cap : Nat) (l : List PutOf) (hn : l.length ≤ 500) (hl : ∀ p ∈ l, p.ok) (w : World) (hk : BytesAt w kp nk g) (hp : RowsAt 129 putC w q l) :
    Calls Tryd.prog 12 #[.slice kp nk kc, .int .i64 count, .slice q l.length cap] w fun e w' => RefEnc (tauK nk g) count l w' e ∧ Below w.heap.size w w' := by
  have GC := Lib.hid (refGood_any count q cap l (by omega) w hp)
  by_cases hgd : goodE count l
  · have HGD := Lib.hid hgd
    have HKB := Lib.hid hk
    have HP := Lib.hid hp
    have HN := Lib.hid hgd.2.1
    have N8 := Lib.hid (fun W => refNumber_own 8 count (.inr (.inr (.inr rfl))) (numL_fit8 _) W)
    have N2 := Lib.hid (fun z (h : Fit2 z) W => refNumber_own 2 z (.inr (.inl rfl)) ((fit2_iff z).2 h) W)
    have HFA := Lib.hid (fun i (hi : i < (numsL l).length) => (numsL_fit hgd.2.1).2 hgd.2.2.1 i hi)
    have SZ := Lib.hid (saidL_zero count (numsL l))
    have SN := Lib.hid (fun k (h : k < (numsL l).length) => saidL_next count (numsL l) h)
    have SL := Lib.hid (fun k (h : k ≤ (numsL l).length) => saidL_len count (numsL l) k h)
    have SF := Lib.hid (firstL_said count l)
    have NL := Lib.hid (numsL_len l)
    have NG := Lib.hid (fun k (h : k < l.length) => numsL_getD l h)
    have NH := Lib.hid (numsL_head l)
    have HFS := Lib.hid (firstL_sec count l)
    have HLO := Lib.hid hl
    have SB := Lib.hid (fun k => saidL_bytes count (numsL l) k)
    have TZ := Lib.hid (textT_zero (firstL count l) l)
    have TN := Lib.hid (fun k (h : k < l.length) => textT_next (firstL count l) l h)
    have TB := Lib.hid (fun k => textT_bytes (firstL_sec count l) hl k)
    have TL := Lib.hid (fun k (h : k ≤ l.length) => textT_len (firstL_sec count l) hl h)
    have TE := Lib.hid (textT_end (firstL count l) l)
    have OZ := Lib.hid (outT_zero l)
    have ON := Lib.hid (fun k (h : k < l.length) => outT_next l h)
    have OL := Lib.hid (fun k (h : k ≤ l.length) => outT_len l h)
    have OE := Lib.hid (outT_end (tauK nk g) count l)
    have FV := Lib.hid (first_val count l)
    have HEL := Lib.hid (encL_len (tauK nk g) count l)
    have RT := Lib.hid (fun pt nt ct gt h1 h2 W h3 h4 => refTag_any kp nk kc g pt nt ct gt hnk hg h1 h2 W h3 h4)
    have GET := Lib.hid (fun k (hk : k < l.length) => rowsAt_get hp hk)
    have HSK := Lib.hid (fun k (hk : k < l.length) => show IsSec (l.getD k noPut).s from by rw [getD_at l hk]; exact hl _ (List.getElem_mem hk))
    clear hk hp hgd hg hnk hl hn
    generalize hL : l.length = n at *
    have hfn := HFA.out 0 (by rw [NL.out]; omega)
    rw [NH.out] at hfn
    have HFN := Lib.hid hfn
    have S1 := Lib.hid (show saidL count (numsL l) 1 = numL 8 count ++ numL 2 (n : Int) by have := SN.out 0 (by rw [NL.out]; omega); rw [SZ.out, NH.out] at this; exact this)
    clear hfn
    go_enter Tryd.func12, Tryd.ntmps12
    go_wp2_with (first
      | (go_at_call 29; refine (GC.out).mono ?_; rintro e w1 ⟨hs, hb⟩
         have he := hs.is HGD.out
         subst he
         have B1 := Lib.hid hb
         clear hs hb GC)
      | (go_at_call 30; refine (N8.out w1).mono ?_; rintro e w2 ⟨p8, c8, rfl, ho, hb⟩
         have O2 := Lib.hid (own_num ho)
         have B2 := Lib.hid hb
         clear ho hb N8)
      | (go_at_call 30; refine (N2.out (n : Int) HFN.out w2).mono ?_; rintro e w3 ⟨p2, c2, rfl, ho, hb⟩
         have R3 := Lib.hid (own_rows elemByte.len (own_num ho)).2
         have O3 := Lib.hid (O2.out.below (Nat.le_refl _) hb)
         have B3 := Lib.hid (B2.out.trans (hb.mono B2.out.size))
         have S23 := Lib.hid hb.size
         clear ho hb O2)
      | (refine wpList_append_list elemByte rfl _ _ rfl w1.heap.size w2.heap.size _ (numL 8 count) (numL 2 (n : Int)) p2 2 c2 rfl rfl (numL_len 2 _).symm O3.out R3.out (by rw [numL_len, numL_len]; decide) (by decide) B3.out.size ?_
         intro v5 w5 ho5 hg5 hr5
         rw [← S1.out] at ho5
         have O5 := Lib.hid ho5
         have B5 := Lib.hid (B3.out.trans (below_own1 hg5 O3.out.block B3.out.size))
         clear ho5 hg5 hr5 O3 B3 R3))
    generalize hM : w1.heap.size = M at *
    go_loopw [12, 8] (fun v12 v8 wr => ∃ k : Nat, k ≤ n ∧ v12 = .int .i64 k ∧ OwnL 5 1 byteC wr M wr.heap.size v8 (saidL count (numsL l) (k + 1)) ∧ Below M w1 wr) (fun v12 _ _ => n - (intOf v12).toNat)
    case atStart => exact ⟨0, Nat.zero_le _, rfl, O5.out, B5.out⟩
    case round =>
      obtain ⟨k, hk, rfl, ho, hb⟩ := hrel
      have HO := Lib.hid ho
      have HB := Lib.hid hb
      clear ho hb O5 B5
      have HWM := Lib.hid (show M ≤ wr.heap.size by have := HB.out.size; omega)
      by_cases hlt : k < n
      · obtain ⟨B, o, hqe, hB, hr⟩ := GET.out k hlt
        subst hqe
        have HR := Lib.hid (rangeAt_below hr (B1.out.trans ((by rw [hM]; exact HB.out : Below w1.heap.size w1 wr).mono B1.out.size)) hB)
        have c0 := put_at0 HR.out
        have f1 : (k : Int) < (n : Int) := by omega
        have f2 : (0 : Int) ≤ k := by omega
        have f3 : IntKind.i64.wrap ((k : Int) + 1) = ((k + 1 : Nat) : Int) := by have := HN.out; rw [IntWalk.i64_in _ (by omega)]; omega
        have hx := SN.out (k + 1) (by rw [NL.out]; omega)
        have hfk := HFA.out (k + 1) (by rw [NL.out]; omega)
        rw [NG.out k hlt] at hx hfk
        have HX := Lib.hid hx
        have NK := Lib.hid (fun W => N2.out _ hfk W)
        have HLT := Lib.hid hlt
        have HLE := Lib.hid (show (saidL count (numsL l) (k + 1)).length ≤ 200 by rw [SL.out (k + 1) (by rw [NL.out]; omega)]; have := HN.out; omega)
        clear hlt hr hB hx hfk
        generalize (l.getD k noPut).at' = z at *
        generalize saidL count (numsL l) (k + 1) = b at *
        go_wp2_with (first
          | (refine wpList_put_elem rfl _ _ rfl B o n cap k rfl rfl HLT.out ?_)
          | (refine wpList_putfield rfl _ 0 rfl (by decide) B (o + 129 * k) rfl ?_)
          | (go_at_call 30; refine (NK.out wr).mono ?_; rintro e w3 ⟨p2, c2, rfl, ho, hb⟩
             have R3 := Lib.hid (own_rows elemByte.len (own_num ho)).2
             have O3 := Lib.hid (HO.out.below (Nat.le_refl _) hb)
             have B3 := Lib.hid (HB.out.trans (hb.mono HWM.out))
             have S3 := Lib.hid (show M ≤ w3.heap.size from Nat.le_trans HWM.out hb.size)
             clear ho hb)
          | (refine wpList_append_list elemByte rfl _ _ rfl M wr.heap.size _ b (numL 2 z) p2 2 c2 rfl rfl (numL_len 2 _).symm O3.out R3.out (by rw [numL_len]; have := HLE.out; omega) (by decide) S3.out ?_
             intro v5 w5 ho5 hg5 hr5
             have O5 := Lib.hid ho5
             have B5 := Lib.hid (B3.out.trans (below_own1 hg5 O3.out.block S3.out))
             clear ho5 hg5 hr5))
        go_roundw
        case rel => exact ⟨k + 1, HLT.out, by go_num, by rw [HX.out]; exact O5.out, B5.out⟩
        case measure => have := HLT.out; simp [intOf]; omega
      · have f1 : ¬ (k : Int) < (n : Int) := by omega
        obtain rfl : k = n := by omega
        have hbl := SL.out (k + 1) (by rw [NL.out]; omega)
        obtain ⟨bp, bc, rfl, _, _, hr, _⟩ := HO.out.rows elemByte.len
        have HBY := Lib.hid (rows_bytes hr (SB.out _))
        have HBL := Lib.hid (show (saidL count (numsL l) (k + 1)).length ≤ 200 by rw [hbl]; have := HN.out; omega)
        have BW := Lib.hid (B1.out.trans ((by rw [hM]; exact HB.out : Below w1.heap.size w1 wr).mono B1.out.size))
        clear hr hbl HO HB hlt hk SN SL NG SZ S1 HFA
        generalize saidL count (numsL l) (k + 1) = b at *
        go_wp2_with (first
          | (go_at_call 31; refine (refcell_any bp b.length bc (natF b) (by have := HBL.out; omega) wr HBY.out).mono ?_; rintro e w3 ⟨rfl, hb⟩
             rw [FV.out]
             have B3 := Lib.hid (BW.out.trans (hb.mono BW.out.size))
             clear hb BW HBY)
          | (refine wpList_sec_alloc rfl rfl w3.heap.size rfl ?_)
          | (refine store_row_on rfl 31 _ _ rfl rfl w3.heap.size (cellsOf .u8 (mk 128 (natF (firstL count l)))) rfl rfl 31 (cellsOf .u8 (mk 128 zeroK)) (heap_alloc_new _ _) (secSize _) (sec_same _ _) (cellsOf_one _ _) ?_
             have hX := sec_laid w3 (natF (firstL count l))
             have Y4 := Lib.hid hX.1
             have B4 := Lib.hid (B3.out.trans (hX.2.mono B3.out.size))
             change wpList _ _ _ _ _ ((w3.alloc (.cells (cellsOf .u8 (mk 128 zeroK)) 31)).setRow w3.heap.size (cellsOf .u8 (mk 128 (natF (firstL count l)))))
             clear hX B3
             generalize (w3.alloc (.cells (cellsOf .u8 (mk 128 zeroK)) 31)).setRow w3.heap.size (cellsOf .u8 (mk 128 (natF (firstL count l)))) = w4 at *)
          | (refine wpList_list0 elemByte rfl rfl ?_
             have O5 := Lib.hid (OwnL.empty 5 1 byteC w4 w4.heap.size (Nat.le_refl _))
             have B5 := Lib.hid ((Below.refl w4.heap.size w4).alloc (Nat.le_refl _) (.cells #[] 5))
             have Z5 := Lib.hid (show (w4.alloc (.cells #[] 5)).heap.size = w4.heap.size + 1 by simp)
             generalize w4.alloc (.cells #[] 5) = w5 at *)
          | (refine wpList_arr_slice rfl 31 5 128 secUnder rfl _ rfl w3.heap.size 0 rfl ?_)
          | (refine wpList_append_list elemByte rfl _ _ rfl w4.heap.size (w4.heap.size + 1) _ [] (firstL count l) (some ⟨w3.heap.size, 0, none⟩) 128 128 rfl rfl HFS.out.1.symm O5.out (blk_bytesL HFS.out (Y4.out.below B5.out Y4.out.lt)) (by rw [HFS.out.1]; decide) (by decide) (by have := Z5.out; omega) ?_
             intro v6 w6 ho6 hg6 hr6
             rw [List.nil_append, ← TZ.out] at ho6
             have O6 := Lib.hid ho6
             have B6 := Lib.hid (B5.out.trans (below_own1 hg6 O5.out.block (by have := Z5.out; omega)))
             clear ho6 hg6 hr6 O5 B5 Z5))
        generalize hS : w3.heap.size = S at *
        generalize hM4 : w4.heap.size = M4 at *
        have HSM := Lib.hid (show S < M4 by have := Y4.out.lt; omega)
        have HW4 := Lib.hid (show w.heap.size ≤ M4 by have := B4.out.size; omega)
        have TI := Lib.hid (tau_is nk g (textL (firstL count l) l))
        have TV := Lib.hid (tau_val nk g (textL (firstL count l) l))
        have SL' := Lib.hid (sum_laid (n := nk) (g := g) (t := textL (firstL count l) l))
        go_loopw [16, 14, 15] (fun v16 v14 v15 wr => ∃ j : Nat, j ≤ k ∧ v16 = .int .i64 j ∧ OwnL 5 1 byteC wr M4 wr.heap.size v14 (textT (firstL count l) l j) ∧ OwnL 31 128 secC wr M4 wr.heap.size v15 (outT l j) ∧ Below M4 w4 wr) (fun v16 _ _ _ => k - (intOf v16).toNat)
        case atStart => exact ⟨0, Nat.zero_le _, rfl, O6.out, by rw [OZ.out]; exact OwnL.nil _ _ _ _ _ _, B6.out⟩
        case round =>
          obtain ⟨j, hj, rfl, ho, hu, hb⟩ := hrel
          have HO := Lib.hid ho
          have HU := Lib.hid hu
          have HB := Lib.hid hb
          clear ho hu hb O6 B6
          have HWM := Lib.hid (show M4 ≤ wr.heap.size by have := HB.out.size; omega)
          have BW := Lib.hid (B4.out.trans (HB.out.mono HW4.out))
          by_cases hlt : j < k
          · obtain ⟨B, o, hqe, hB, hr⟩ := GET.out j hlt
            subst hqe
            have HR1 := Lib.hid (put_secAt (rangeAt_below hr BW.out hB))
            have HBM := Lib.hid (show B < M4 by have := HW4.out; omega)
            have HBW := Lib.hid (show B < wr.heap.size by have := HW4.out; have := HWM.out; omega)
            have g1 : (j : Int) < (k : Int) := by omega
            have g2 : (0 : Int) ≤ j := by omega
            have g3 : IntKind.i64.wrap ((j : Int) + 1) = ((j + 1 : Nat) : Int) := by have := HN.out; rw [IntWalk.i64_in _ (by omega)]; omega
            have HTX := Lib.hid (TN.out j hlt)
            have HOX := Lib.hid (ON.out j hlt)
            have HSJ := Lib.hid (HSK.out j hlt)
            have HLT := Lib.hid hlt
            have HLE := Lib.hid (show (textT (firstL count l) l j).length ≤ 8000 by rw [TL.out j hj]; have := HN.out; omega)
            have HLO2 := Lib.hid (show (outT l j).length ≤ 56 by rw [OL.out j hj]; have := HN.out; omega)
            clear hlt hr hB
            generalize l.getD j noPut = c at *
            generalize textT (firstL count l) l j = tx at *
            generalize outT l j = ou at *
            go_wp2_with (first
              | (refine wpList_put_elem rfl _ _ rfl B o k cap j rfl rfl HLT.out ?_)
              | (refine wpList_putfield rfl _ 1 rfl (by decide) B (o + 129 * j) rfl ?_)
              | (refine wpList_arr_slice rfl 31 5 128 secUnder rfl _ rfl B (o + 129 * j + 1) rfl ?_)
              | (refine wpList_append_list elemByte rfl _ _ rfl M4 wr.heap.size _ tx c.s (some ⟨B, o + 129 * j + 1, none⟩) 128 128 rfl rfl HSJ.out.1.symm HO.out (sec_bytesL HSJ.out HR1.out HBW.out) (by rw [HSJ.out.1]; have := HLE.out; omega) (by decide) HWM.out ?_
                 intro v5 w5 ho5 hg5 hr5
                 have O5 := Lib.hid ho5
                 have U5 := Lib.hid (HU.out.kept HO.out (by decide) hg5 (Nat.le_refl _))
                 have X5 := Lib.hid (below_own1 hg5 HO.out.block HWM.out)
                 have S5 := Lib.hid hg5.size
                 have HR5 := Lib.hid (rangeAt_below HR1.out X5.out HBM.out)
                 have B5 := Lib.hid (HB.out.trans X5.out)
                 clear ho5 hg5 hr5)
              | (refine wpList_sec_mid rfl _ rfl B (o + 129 * j + 1) rfl c.s HR5.out ?_)
              | (refine wpList_sec1 rfl _ rfl c.s rfl ?_
                 have B6 := Lib.hid (show Below w5.heap.size w5 (w5.alloc (.cells (secC c.s).toArray 31)) from (Below.refl _ _).alloc (Nat.le_refl _) _)
                 have R6 := Lib.hid (rows_sec1 w5 c.s)
                 generalize w5.alloc (.cells (secC c.s).toArray 31) = wx at *)
              | (refine wpList_append_list elemSec rfl _ _ rfl M4 wr.heap.size _ ou [c.s] (some ⟨w5.heap.size, 0, none⟩) 1 1 rfl rfl rfl (U5.out.below S5.out B6.out) R6.out (by have := HLO2.out; simp; omega) (by decide) (by have := HWM.out; have := S5.out; have := B6.out.size; omega) ?_
                 intro v7 w7 ho7 hg7 hr7
                 have O7 := Lib.hid ho7
                 have T7 := Lib.hid (((O5.out.below (Nat.le_refl _) B6.out).kept (U5.out.below S5.out B6.out) (by decide) hg7 B6.out.size).raise (Nat.le_trans B6.out.size hg7.size))
                 have B7 := Lib.hid ((B5.out.trans (B6.out.mono (by have := HWM.out; have := S5.out; omega))).trans (below_own1 hg7 U5.out.block (by have := HWM.out; have := S5.out; have := B6.out.size; omega)))
                 clear ho7 hg7 hr7))
            go_roundw
            case rel => exact ⟨j + 1, HLT.out, by go_num, by rw [HTX.out]; exact T7.out, by rw [HOX.out]; exact O7.out, B7.out⟩
            case measure => have := HLT.out; simp [intOf]; omega
          · have g1 : ¬ (j : Int) < (k : Int) := by omega
            obtain rfl : j = k := by omega
            rw [TE.out] at HO
            have htb := TB.out j
            have htl := TL.out j (Nat.le_refl _)
            rw [TE.out] at htb htl
            obtain ⟨tp, tc, rfl, _, _, hr, _⟩ := HO.out.rows elemByte.len
            have HTB := Lib.hid (rows_bytes hr htb)
            have HTL := Lib.hid (show (textL (firstL count l) l).length ≤ 80000 by rw [htl]; have := HN.out; omega)
            have HTF := Lib.hid (fun i (_ : i < (textL (firstL count l) l).length) => natF_lt htb i)
            have hol := OL.out j (Nat.le_refl _)
            obtain ⟨op, oc, rfl, _, _, hro, _⟩ := HU.out.rows elemSec.len
            have HRO := Lib.hid hro
            have HOL := Lib.hid hol
            have YR := Lib.hid (Y4.out.below HB.out HSM.out)
            have KR := Lib.hid (HKB.out.below BW.out)
            clear hlt hj hr hro htb htl hol HO HU HB TN TB TL TE ON OL GET HSK Y4
            generalize textL (firstL count l) l = tx at *
            go_wp2_with (first
              | (go_at_call 22; refine (RT.out tp tx.length tc (natF tx) HTL.out HTF.out wr KR.out HTB.out).mono ?_; rintro e w7 ⟨rfl, hb7⟩
                 rw [TI.out]
                 have B7 := Lib.hid (BW.out.trans (hb7.mono BW.out.size))
                 have Y7 := Lib.hid (YR.out.below hb7 YR.out.lt)
                 have R7 := Lib.hid (HRO.out.below hb7)
                 clear hb7 BW YR KR HTB RT HRO)
              | (refine store_row_on rfl 59 _ _ rfl rfl w7.heap.size (cellsOf .u8 (tauK nk g tx)) rfl rfl 59 (cellsOf .u8 (mk 32 zeroK)) (IntBlk.new w7 .u8 _ (mk 32 zeroK)) (sumSize' _ _ _) (sum_same' _ _ _).symm (cellsOf_one _ _) ?_
                 have hX := SL'.out w7
                 have ZT := Lib.hid hX.1
                 have B8 := Lib.hid (B7.out.trans (hX.2.mono B7.out.size))
                 have Y8 := Lib.hid (Y7.out.below hX.2 Y7.out.lt)
                 have R8 := Lib.hid (R7.out.below hX.2)
                 change wpList _ _ _ _ _ ((w7.alloc (.cells (cellsOf .u8 (mk 32 zeroK)) 59)).setRow w7.heap.size (cellsOf .u8 (tauK nk g tx)))
                 clear hX B7 Y7 R7
                 generalize (w7.alloc (.cells (cellsOf .u8 (mk 32 zeroK)) 59)).setRow w7.heap.size (cellsOf .u8 (tauK nk g tx)) = w8 at *))
            have c0 : Below w8.heap.size w8 w8.drew := (Below.refl _ w8).drew
            refine wp_region_sched [(0, true), (1, true), (4, true), (2, false), (3, false), (5, false), (6, true), (7, true)] (fun W => Below w8.heap.size w8 W) (by kernel_rfl) (by kernel_rfl) c0 ?_
            iterate 3 (
              refine walk_float rfl rfl (fun K hK => ?_)
              first
                | (refine gives_move _ rfl ?_)
                | (refine gives_sec_mid _ rfl S 0 rfl (firstL count l) (fun W h => blk_range (Y8.out.below h Y8.out.lt)) ?_)
                | (refine gives_arr_slice 59 5 32 sumUnder rfl _ rfl w7.heap.size 0 rfl ?_)
              go_simp
              refine hK _ ?_
              clear hK K)
            refine walk_done rfl rfl (fun K hK => ?_)
            refine done_enter1 _ _ _ rfl 31 rfl (enters_of Tryd.func31 (by kernel_rfl) rfl) _ rfl _ (refcell_any (some ⟨w7.heap.size, 0, none⟩) 32 32 (tagF nk g tx.length (natF tx)) (by decide) w8.drew (tau_bytes (w := w8.drew) ZT.out)) (fun e w9 h9 => ?_)
            obtain ⟨rfl, hb9⟩ := h9
            rw [TV.out]
            have c1 : Below w8.heap.size w8 w9 := c0.trans hb9
            refine ⟨_, rfl, c1, ?_⟩
            go_simp
            refine hK _ _ ?_
            clear hK K hb9
            refine walk_done rfl rfl (fun K hK => ?_)
            refine done_sec2 _ _ rfl (firstL count l) (padS (tauK nk g tx)) rfl rfl ?_
            have c2 : Below w9.heap.size w9 (w9.alloc (.cells ([firstL count l, padS (tauK nk g tx)].flatMap secC).toArray 31)) := (Below.refl _ _).alloc (Nat.le_refl _) _
            have o2 := rows_sec2 w9 (firstL count l) (padS (tauK nk g tx))
            have z2 : (w9.alloc (.cells ([firstL count l, padS (tauK nk g tx)].flatMap secC).toArray 31)).heap.size = w9.heap.size + 1 := by simp
            generalize w9.alloc (.cells ([firstL count l, padS (tauK nk g tx)].flatMap secC).toArray 31) = wa at *
            refine ⟨c1.trans (c2.mono c1.size), ?_⟩
            go_simp
            refine hK _ _ ?_
            clear hK K
            refine walk_done rfl rfl (fun K hK => ?_)
            refine done_append_list elemSec _ _ rfl w9.heap.size (w9.heap.size + 1) _ [firstL count l, padS (tauK nk g tx)] (outT l j) op _ oc rfl rfl rfl o2 (R8.out.below (c1.trans (c2.mono c1.size))) (by rw [HOL.out]; have := HN.out; simp; omega) (by decide) (by omega) (fun v7 wb ho7 hg7 hr7 => ?_)
            have O7 := Lib.hid ho7
            have c3 : Below w8.heap.size w8 wb := (c1.trans (c2.mono c1.size)).trans ((below_own1 hg7 o2.block (by omega)).mono c1.size)
            have B9 := Lib.hid (B8.out.trans (c3.mono B8.out.size))
            refine ⟨c3, ?_⟩
            go_simp
            refine hK _ _ ?_
            clear hK K ho7 hg7 hr7 c2 o2 z2 c1 c0
            iterate 2 (
              refine walk_float rfl rfl (fun K hK => ?_)
              refine gives_assign _ rfl ?_
              go_simp
              refine hK _ ?_
              clear hK K)
            refine walk_nil ?_
            rw [OE.out] at O7
            obtain ⟨ep, ec, rfl, _, _, hre, _⟩ := O7.out.rows elemSec.len
            have HRE := Lib.hid hre
            clear hre O7 c3
            go_wp2
            go_ret2
            exact ⟨.inl ⟨HGD.out, ep, ec, rfl, HRE.out⟩, B9.out⟩
  · have HX := Lib.hid hgd
    clear hk hp hgd
    go_enter Tryd.func12, Tryd.ntmps12
    go_wp2_with (first
      | (go_at_call 29; refine (GC.out).mono ?_; rintro e w1 ⟨hs, hb⟩
         have he := hs.not HX.out
         subst he
         have B1 := Lib.hid hb
         clear hs hb GC))
    go_ret2
    exact ⟨.inr ⟨HX.out, rfl⟩, B1.out⟩
end Go.Proofs.YtdeojhcfbiekmaaDoor
