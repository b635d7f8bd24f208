/- The contract of package redo's Encode: an entry's sectors, or an error. Conditions: the key has at most 100,000 bytes, there are at most 800 puts; their numbers are of 64 bits. -/
import Derived.Test.YtdeojhcfbiekmaaDoorRdFirst
import Derived.Test.YtdeojhcfbiekmaaDoorRdTagged
import Derived.Test.YtdeojhcfbiekmaaDoorRdMake
namespace Go.Proofs.YtdeojhcfbiekmaaDoor
open Go.ChangeShapes Go.WideShapes Go.ChangeAt Go.RowKit
set_option linter.unusedVariables false
/-- What Encode answers: an entry's sectors in new memory, or an error. -/
def EncSays (τ : List Int → List Int) (count : Int) (l : List PutOf) (base : Nat) (w' : World) (e : Ending) : Prop :=
  (goodE count l ∧ ∃ B c, e = .returned (.tuple #[.slice (some ⟨B, 0, none⟩) (encL τ count l).length c, .nilIface]) ∧ base ≤ B ∧ (encL τ count l).length ≤ c ∧ RowsAt 128 secC w' (some ⟨B, 0, none⟩) (encL τ count l)) ∨
  (¬ goodE count l ∧ e = .returned (.tuple #[.slice none 0 0, .iface 39 (.int .i64 2)]))
theorem allFit_good {count : Int} {l : List PutOf} (h0 : ¬ count < 0) (h1 : ¬ 56 < l.length) (h2 : (l.map (·.at')).Nodup) (h3 : ∀ p ∈ l, Fit2 p.at') : goodE count l := ⟨by omega, by omega, h3, h2⟩
def startC (l : List PutOf) (k : Nat) : List (List Int) := List.replicate 2 [] ++ (l.take k).map (·.s)
theorem startC_zero (l : List PutOf) : startC l 0 = List.replicate 2 [] := by unfold startC; simp
theorem startC_next (l : List PutOf) {k : Nat} (h : k < l.length) : startC l (k + 1) = startC l k ++ [(l.getD k noPut).s] := by
  unfold startC
  rw [List.take_add_one, List.getElem?_eq_getElem h, Option.toList_some, List.map_append, List.append_assoc, getD_at l h]; rfl
theorem startC_len (l : List PutOf) {k : Nat} (h : k ≤ l.length) : (startC l k).length = 2 + k := by unfold startC; simp; omega
theorem startC_end (τ : List Int → List Int) (count : Int) (l : List PutOf) : ((startC l l.length).set 0 (firstL count l)).set 1 (padS (τ (textL (firstL count l) l))) = encL τ count l := by
  unfold startC encL
  rw [List.take_of_length_le (Nat.le_refl _)]; rfl
/-- The tag's 32 bytes at the head of a sector of noughts. -/
theorem tag_patch (t : List Int) (ht : t.length = 32) (hb : IsBytes t) : (∀ j, j < 32 → ((cellsOf .u8 t).toList)[j]? = (secC (padS t))[j]?) ∧ ∀ j, 32 ≤ j → j < 128 → (secC ([] : List Int))[j]? = (secC (padS t))[j]? := by
  have e : ∀ j, j < 128 → (secC (padS t))[j]? = some (.int .u8 (natF t j : Nat)) := fun j hj => by
    rw [secC_get _ hj]; unfold padS; rw [natF_mk hj]
  refine ⟨fun j hj => ?_, fun j h1 h2 => ?_⟩
  · rw [e j (by omega), Array.getElem?_toList, cellsOf_get .u8 t (by omega)]
    have h := mk_natF hb
    rw [← h, mk_get (by omega), h]
  · rw [e j h2, secC_get [] h2, natF_out (by omega : t.length ≤ j)]; rfl
theorem cells_len32 (t : List Int) (ht : t.length = 32) : (cellsOf .u8 t).toList.length = 32 := by rw [Array.length_toList, cellsOf_size, ht]
theorem sumCells : (Tryd.prog.info? 59).map (·.size) = some 32 := by kernel_rfl
def sumZ : Array Value := cellsOf .u8 (mk 32 zeroK)
theorem box_sec {W : World} {O : Nat} {c : PutOf} (h : PutBox W O c) : W.rangeAt O 1 (secC c.s) := fun j v hv => by
  rw [PutBox.cell h (1 + j), Nat.add_comm]; exact hv
theorem sumSize' (n : Nat) (g : Nat → Nat) (t : List Int) : (Tryd.prog.info? 59).map (·.size) = some (cellsOf .u8 (tauK n g t)).size := by rw [cellsOf_size, tauK_len]; exact sumCells
theorem sum_same' (n : Nat) (g : Nat → Nat) (t : List Int) : (cellsOf .u8 (tauK n g t)).size = (cellsOf .u8 (mk 32 zeroK)).size := by rw [cellsOf_size, cellsOf_size, tauK_len, mk_len]
theorem sum_laid (w : World) (n : Nat) (g : Nat → Nat) (t : List Int) : IntBlk ((w.alloc (.cells (cellsOf .u8 (mk 32 zeroK)) 59)).setRow w.heap.size (cellsOf .u8 (tauK n g t))) w.heap.size .u8 59 (tauK n g t) ∧ Below w.heap.size w ((w.alloc (.cells (cellsOf .u8 (mk 32 zeroK)) 59)).setRow w.heap.size (cellsOf .u8 (tauK n g t))) :=
  ⟨(IntBlk.new w .u8 _ (mk 32 zeroK)).setRow .u8 _, below_setRow ((Below.refl _ w).alloc (Nat.le_refl _) _) (Nat.le_refl _) _⟩
theorem src_cells {w : World} {T : Nat} {t : TypeId} {l : List Int} (h : IntBlk w T .u8 t l) : ∀ j v, ((cellsOf .u8 l).toList)[j]? = some v → w.cell? ((⟨T, 0, none⟩ : Addr).add j) = some v := fun j v hv => by
  rw [addr_add, cell_of_row w T (0 + j) _ _ _ h, Nat.zero_add, ← Array.getElem?_toList]; exact hv
theorem startC_set (l : List PutOf) (f : List Int) (n : Nat) : ((startC l n).set 0 f).getD 1 [] = [] := rfl
theorem enc_rows1 {w : World} {B n : Nat} {l : List PutOf} (f : List Int) (h : RowsAt 128 secC w (some ⟨B, 0, none⟩) (startC l n)) (hn : n ≤ l.length) (ht : w.there B 0 128) : RowsAt 128 secC (w.setCells B 0 (secC f)) (some ⟨B, 0, none⟩) ((startC l n).set 0 f) := by
  have := rows_patch h (i := 0) (by rw [startC_len l hn]; omega) (secC f) f (by rw [secC_len]; exact Nat.le_refl _) (by rw [secC_len, Nat.mul_zero]; exact ht) (fun j _ => rfl) (fun j h1 h2 => by rw [secC_len] at h1; omega)
  rwa [Nat.mul_zero] at this
theorem enc_rows2 {w : World} {B n : Nat} {l : List PutOf} (f t : List Int) (h : RowsAt 128 secC w (some ⟨B, 0, none⟩) ((startC l n).set 0 f)) (hn : n ≤ l.length) (ht : w.there B 128 32) (hl : t.length = 32) (hb : IsBytes t) : RowsAt 128 secC (w.setCells B 128 (cellsOf .u8 t).toList) (some ⟨B, 0, none⟩) (((startC l n).set 0 f).set 1 (padS t)) := by
  have h2 := tag_patch t hl hb
  have := rows_patch h (i := 1) (by rw [List.length_set, startC_len l hn]; omega) (cellsOf .u8 t).toList (padS t) (by rw [cells_len32 t hl]; omega) (by rw [cells_len32 t hl, Nat.mul_one]; exact ht) (fun j hj => h2.1 j (by rw [cells_len32 t hl] at hj; exact hj)) (fun j h3 h4 => by rw [startC_set]; exact h2.2 j (by rw [cells_len32 t hl] at h3; exact h3) h4)
  rwa [Nat.mul_one] at this
theorem there_of_own' {w : World} {base top : Nat} {v : Value} {l : List (List Int)} (h : OwnL 31 128 secC w base top v l) (hl : 2 ≤ l.length) : ∀ B n c, v = .slice (some ⟨B, 0, none⟩) n c → w.there B 0 256 := fun B n c hv => by
  subst hv
  have h1 := h
  rcases h1 with ⟨he, _⟩ | ⟨B', c', cur, he, _⟩
  · cases he
  · cases he
    exact there_sub (there_of_own h) (by omega)
theorem rowsAt_lt {w : World} {q : Option Addr} {l : List PutOf} (h : RowsAt 129 putC w q l) : l ≠ [] → ∀ B o, q = some ⟨B, o, none⟩ → B < w.heap.size := fun hne B o he => by
  rcases h with h | ⟨B', o', h1, h2, _⟩
  · exact absurd h hne
  · rw [h1] at he; cases he; exact h2
theorem RowsAt.over {M : Nat} {w w' : World} {q : Option Addr} {l : List PutOf} (h : RowsAt 129 putC w q l) (hb : Below M w w') (hM : w.heap.size = M) : RowsAt 129 putC w' q l := by subst hM; exact h.below hb
theorem there_below {M : Nat} {w w' : World} {B o n : Nat} (h : w.there B o n) (hB : B < M) (hb : Below M w w') : w'.there B o n := fun j hj => by
  obtain ⟨h1, h2⟩ := h j hj
  have e := hb.block B hB
  exact ⟨by rw [hb.cell (p := ⟨B, o + j, none⟩) hB]; exact h1, by rw [← h2]; unfold World.frozen?; rw [e]⟩
theorem otherCells {B T : Nat} {k : IntKind} {t : TypeId} {l : List Int} (hne : B ≠ T) : ∀ (vs : List Value) (o : Nat) (W : World), IntBlk W T k t l → IntBlk (W.setCells B o vs) T k t l
  | [], _, _, h => h
  | v :: r, o, W, h => by rw [World.setCells]; exact otherCells hne r (o + 1) _ (h.other (a := ⟨B, o, none⟩) hne v)
theorem one_list (l : List Int) : ∀ v ∈ (cellsOf .u8 l).toList, v.oneCell' = true := fun v hv => (Array.all_eq_true_iff_forall_mem.1 (cellsOf_one .u8 l)) v (by simpa using hv)
attribute [local irreducible] lastTo putC natF mergeK firstL textL tauK padS secC encL startC
set_option maxRecDepth 100000 in
set_option maxHeartbeats 4000000 in
theorem Encode_any (kp : Option Addr) (nk kc : Nat) (g : Nat → Nat) (hnk : nk ≤ 100000) (hkc : nk ≤ kc) (hg : ∀ i, i < nk → g i < 256) (count : Int) (q : Option Addr) (cap : Nat) (l : List PutOf) (hn : l.length ≤ 800) (ha : AtsOk l) (hl : ∀ p ∈ l, p.ok) (w : World) (hT : TabAt w) (hk : BytesAt w kp nk g) (hp : RowsAt 129 putC w q l) :
    Calls Tryd.prog 9 #[.slice kp nk kc, .int .i64 count, .slice q l.length cap] w fun e w' => EncSays (tauK nk g) count l w.heap.size w' e ∧ Below w.heap.size w w' := by
  have HB0 := Lib.hid (Below.refl w.heap.size w)
  by_cases hc0 : count < 0
  · have d1 : decide (count < 0) = true := decide_eq_true hc0
    have HX := Lib.hid (show ¬ goodE count l from fun h => by have := h.1; omega)
    clear hT hk hp ha hl hc0 hg
    go_enter Tryd.func9, Tryd.ntmps9
    go_wp2
    go_ret2
    exact ⟨.inr ⟨HX.out, rfl⟩, HB0.out⟩
  have d1 : decide (count < 0) = false := decide_eq_false hc0
  by_cases hc1 : 56 < l.length
  · have d2 : decide ((56 : Int) < (l.length : Int)) = true := decide_eq_true (by omega)
    have d2' : decide (56 < l.length) = true := decide_eq_true hc1
    have HX := Lib.hid (show ¬ goodE count l from fun h => by have := h.2.1; omega)
    clear hT hk hp ha hl hc0 hc1 hg
    go_enter Tryd.func9, Tryd.ntmps9
    go_wp2
    go_ret2
    exact ⟨.inr ⟨HX.out, rfl⟩, HB0.out⟩
  have d2 : decide ((56 : Int) < (l.length : Int)) = false := decide_eq_false (by omega)
  have d2' : decide (56 < l.length) = false := decide_eq_false hc1
  have MC := Lib.hid (Merge_any q cap l (by omega) ha w hp)
  by_cases hnd : (l.map (·.at')).Nodup
  · have HL56 := Lib.hid (show l.length ≤ 56 by omega)
    have HP := Lib.hid hp
    have HT := Lib.hid hT
    have HKB := Lib.hid hk
    have HND := Lib.hid hnd
    by_cases hft : ∀ p ∈ l, Fit2 p.at'
    · have HGD := Lib.hid (allFit_good hc0 hc1 hnd hft)
      have HFT := Lib.hid hft
      have HFC := Lib.hid (firstL_sec count l)
      have HLO := Lib.hid hl
      have TX := Lib.hid (fun (W : World) (W' : World) (p : Option Addr) (c F : Nat) (h : PartsIn W.heap.size W p (l.length + 1) (partF F q l.length) (natF (textL (firstL count l) l))) (hT : TabAt W) (hk : BytesAt W kp nk g) => tag_text (c := c) hnk hkc hg (firstL_sec count l) hl (by omega) W hT hk h)
      have HSE := Lib.hid (startC_end (tauK nk g) count l)
      have HTP := Lib.hid (tag_patch (tauK nk g (textL (firstL count l) l)) (tauK_len _ _ _) (tauK_bytes _ _ _))
      have HTL := Lib.hid (tauK_len nk g (textL (firstL count l) l))
      have HTB := Lib.hid (tauK_bytes nk g (textL (firstL count l) l))
      have HEL := Lib.hid (encL_len (tauK nk g) count l)
      clear hT hk hp ha hc0 hc1 hft hnd
      have FC := Lib.hid (fun W hp => firstCell_any count q cap l HL56.out W hp)
      have TG := Lib.hid (fun W hp => tagged_any (firstL count l) q cap l HFC.out HLO.out (by have := HL56.out; omega) W hp)
      generalize hL : l.length = n at *
      go_enter Tryd.func9, Tryd.ntmps9
      have fN : IntKind.i64.wrap ((2 : Int) + (n : Int)) = (2 : Int) + (n : Int) := by have := HL56.out; rw [IntWalk.i64_in _ (by omega)]
      go_wp2_with (first
        | (go_at_call 24; refine (MC.out).mono ?_; rintro e w1 ⟨K, v, rfl, hk, ho, hb⟩
           have hfw := hk.fewer
           obtain ⟨mp, mc, rfl, _, _, hmr, hmq⟩ := ho.rows elemPut.len
           clear hmr hmq ho
           rw [mergeK_len]
           have dk : decide ((K.length : Int) < (n : Int)) = false := by have h2 : ¬ K.length < n := fun h => hfw.1 (by rw [hL]; exact h) HND.out; exact decide_eq_false (by omega)
           have dk2 : decide (K.length < n) = false := by simpa using dk
           have B1 := Lib.hid hb; have P1 := Lib.hid (HP.out.below hb); have T1 := Lib.hid (HT.out.on hb); have K1 := Lib.hid (HKB.out.below hb); clear hk hb hfw MC)
        | (go_at_call 25; refine (FC.out w1 P1.out).mono ?_; rintro e w2 ⟨hs, hb⟩
           have he : e = .returned (.tuple #[secVal (firstL count l), .nilIface]) := by
             rcases hs with ⟨_, h⟩ | ⟨hf, _⟩
             · exact h
             · exact absurd HFT.out hf
           subst he
           have B2 := Lib.hid (B1.out.trans (hb.mono B1.out.size)); have P2 := Lib.hid (P1.out.below hb); have T2 := Lib.hid (T1.out.on hb); have K2 := Lib.hid (K1.out.below hb)
           unfold secVal
           clear hb hs B1 P1 T1 K1 FC)
        | (refine wpList_sec_alloc rfl rfl w2.heap.size rfl ?_)
        | (refine store_row_on rfl 31 _ _ rfl rfl w2.heap.size (cellsOf .u8 (mk 128 (natF (firstL count l)))) rfl rfl 31 (cellsOf .u8 (mk 128 zeroK)) (heap_alloc_new _ _) (secSize _) (sec_same _ _) (cellsOf_one _ _) ?_
           have hX := sec_laid w2 (natF (firstL count l))
           have Y3 := Lib.hid hX.1
           have B3 := Lib.hid (B2.out.trans (hX.2.mono B2.out.size)); have P3 := Lib.hid (P2.out.below hX.2); have T3 := Lib.hid (T2.out.on hX.2); have K3 := Lib.hid (K2.out.below hX.2)
           change wpList _ _ _ _ _ ((w2.alloc (.cells (cellsOf .u8 (mk 128 zeroK)) 31)).setRow w2.heap.size (cellsOf .u8 (mk 128 (natF (firstL count l)))))
           clear hX B2 P2 T2 K2
           generalize (w2.alloc (.cells (cellsOf .u8 (mk 128 zeroK)) 31)).setRow w2.heap.size (cellsOf .u8 (mk 128 (natF (firstL count l)))) = w3 at *)
        | (refine wpList_make_nils rfl _ _ rfl 2 (2 + n) w3.heap.size rfl rfl (by omega) (by have := HL56.out; omega) (Nat.le_refl _) ?_
           intro w4 ho4 hb4
           have O4 := Lib.hid ho4; have B4 := Lib.hid hb4
           clear ho4 hb4))
      generalize hS : w2.heap.size = S at *
      generalize hM : w3.heap.size = M at *
      have HSZ := Lib.hid (startC_zero l)
      have HSN := Lib.hid (fun k (h : k < l.length) => startC_next l h)
      have HSL := Lib.hid (fun k (h : k ≤ l.length) => startC_len l h)
      rw [hL] at HSN HSL
      go_loopw [45, 10] (fun v45 v10 wr => ∃ k : Nat, k ≤ n ∧ v45 = .int .i64 k ∧ OwnL 31 128 secC wr M wr.heap.size v10 (startC l k) ∧ Below M w3 wr) (fun v45 _ _ => n - (intOf v45).toNat)
      case atStart => exact ⟨0, Nat.zero_le _, rfl, by rw [HSZ.out]; exact O4.out, B4.out⟩
      case round =>
        obtain ⟨k, hk, rfl, ho, hb⟩ := hrel
        have HO := Lib.hid ho
        have HB := Lib.hid hb
        clear ho hb O4 B4
        by_cases hlt : k < n
        · obtain ⟨B, o, hqe, hB, hr⟩ := rowsAt_get P3.out (show k < l.length by omega)
          subst hqe
          rw [hM] at hB
          have HNX := Lib.hid (HSN.out k (by omega))
          have HR := Lib.hid (rangeAt_below hr HB.out hB)
          have HLE := Lib.hid (show (startC l k).length ≤ 58 by rw [HSL.out k hk]; have := HL56.out; omega)
          have f1 : (k : Int) < (n : Int) := by omega
          have f2 : (0 : Int) ≤ k := by omega
          have f3 : IntKind.i64.wrap ((k : Int) + 1) = ((k + 1 : Nat) : Int) := by have := HL56.out; rw [IntWalk.i64_in _ (by omega)]; omega
          have HLT := Lib.hid hlt
          have HWM := Lib.hid (show M ≤ wr.heap.size by have := HB.out.size; omega)
          clear hlt hr hB
          generalize l.getD k noPut = c at *
          generalize startC l k = m at *
          have OB := Lib.hid (PutBox.new wr c)
          have BO := Lib.hid (put_box_below wr c)
          go_wp2_with (first
            | (refine wpList_put_elem rfl _ _ rfl B o n cap k rfl rfl HLT.out ?_)
            | (refine wpList_put_load rfl _ rfl B (o + 129 * k) rfl c HR.out ?_)
            | (refine wpList_put_alloc rfl rfl ?_)
            | (refine store_row_on rfl 57 _ _ rfl rfl wr.heap.size (putC c).toArray rfl rfl 57 (putC ⟨0, []⟩).toArray (heap_alloc_new _ _) (putA_size c) (by rw [List.size_toArray, List.size_toArray, putC_len, putC_len]) (putA_one c) ?_
               generalize hW : (wr.alloc (.cells (putC ⟨0, []⟩).toArray 57)).setRow wr.heap.size (putC c).toArray = wb at *
               have HSC := Lib.hid (box_sec OB.out)
               have HWO := Lib.hid hW
               clear hW)
            | (refine wpList_putfield rfl _ 1 rfl (by decide) wr.heap.size 0 rfl ?_)
            | (refine wpList_sec_mid rfl _ rfl wr.heap.size 1 rfl c.s HSC.out ?_)
            | (refine wpList_sec1 rfl _ rfl c.s rfl ?_
               have B4 := Lib.hid (show Below wb.heap.size wb (wb.alloc (.cells (secC c.s).toArray 31)) from (Below.refl _ _).alloc (Nat.le_refl _) _)
               have R4 := Lib.hid (rows_sec1 wb c.s)
               generalize wb.alloc (.cells (secC c.s).toArray 31) = wx at *)
            | (refine wpList_append_list elemSec rfl _ _ rfl M wr.heap.size _ m [c.s] (some ⟨wb.heap.size, 0, none⟩) 1 1 rfl rfl rfl ((HO.out.below (Nat.le_refl _) BO.out).below BO.out.size B4.out) R4.out (by have := HLE.out; simp; omega) (by decide) (by have := HWM.out; have := BO.out.size; have := B4.out.size; omega) ?_
               intro v5 w5 ho5 hg5 hr5
               have O5 := Lib.hid ho5
               have B5 := Lib.hid ((HB.out.trans ((BO.out.trans (B4.out.mono BO.out.size)).mono HWM.out)).trans (below_own1 hg5 HO.out.block (by have := HWM.out; have := BO.out.size; have := B4.out.size; omega)))
               clear ho5 hg5 hr5))
          go_roundw
          case rel => exact ⟨k + 1, HLT.out, by go_num, by rw [HNX.out]; exact O5.out, B5.out⟩
          case measure => have := HLT.out; simp [intOf]; omega
        · have f1 : ¬ (k : Int) < (n : Int) := by omega
          obtain rfl : k = n := by omega
          have hsl := HSL.out k (Nat.le_refl _)
          have hth := there_of_own' HO.out (by rw [hsl]; omega)
          obtain ⟨cp, cc, rfl, hcc, _, hr, hq0⟩ := HO.out.rows elemSec.len
          obtain ⟨B, rfl⟩ : ∃ B, cp = some ⟨B, 0, none⟩ := by
            rcases hr with h | ⟨B, o, h, _, _⟩
            · rw [h, List.length_nil] at hsl; omega
            · obtain rfl : o = 0 := (hq0 B o h).2.2
              exact ⟨B, h⟩
          have hMB := (hq0 B 0 rfl).1
          have HRB := Lib.hid (hq0 B 0 rfl).2.1
          rw [hsl] at hcc ⊢
          have HCC := Lib.hid hcc
          have HMB := Lib.hid hMB
          have HBW := Lib.hid (show w.heap.size ≤ B by have := B3.out.size; omega)
          have HT0 := Lib.hid (hth B _ _ rfl)
          have HR0 := Lib.hid hr
          have S3 := Lib.hid (show S < M by have := Y3.out.lt; omega)
          have Y5 := Lib.hid (Y3.out.below HB.out S3.out)
          have PR := Lib.hid (P3.out.over HB.out hM)
          have TR := Lib.hid (T3.out.on (show Below w3.heap.size w3 wr by rw [hM]; exact HB.out))
          have KR := Lib.hid (K3.out.below (show Below w3.heap.size w3 wr by rw [hM]; exact HB.out))
          have BR := Lib.hid (B3.out.trans (HB.out.mono (by have := B3.out.size; omega)))
          clear hth hr hq0 hcc hMB hlt hk hsl HO HB Y3 P3 T3 K3 B3 HSN HSZ f1
          go_wp2_with (first
            | (refine wpList_sec_load rfl _ rfl S (natF (firstL count l)) rfl Y5.out ?_)
            | (go_at_call 27; refine (TG.out wr PR.out).mono ?_; rintro e w5 ⟨tp, tc, F, rfl, hpi, hb5⟩
               have HPI := Lib.hid hpi
               have T5 := Lib.hid (TR.out.on hb5); have K5 := Lib.hid (KR.out.below hb5)
               have HB5 := Lib.hid hb5
               clear hpi hb5 TG)
            | (go_at_call 26; refine (TX.out w5 w5 tp tc F HPI.out T5.out K5.out).mono ?_; rintro e w6 ⟨rfl, hb6⟩
               have HB6 := Lib.hid (HB5.out.trans (hb6.mono HB5.out.size))
               clear hb6 TX HPI T5 K5 HB5)
            | (refine store_row_on rfl 59 _ _ rfl rfl w6.heap.size (cellsOf .u8 (tauK nk g (textL (firstL count l) l))) rfl rfl 59 (cellsOf .u8 (mk 32 zeroK)) (IntBlk.new w6 .u8 _ (mk 32 zeroK)) (sumSize' _ _ _) (sum_same' _ _ _).symm (cellsOf_one _ _) ?_
               have hX := sum_laid w6 nk g (textL (firstL count l) l)
               have ZT := Lib.hid hX.1
               have HB7 := Lib.hid (HB6.out.trans (hX.2.mono HB6.out.size))
               have Y7 := Lib.hid (Y5.out.below HB7.out Y5.out.lt)
               have T7 := Lib.hid (there_sub (there_below HT0.out HRB.out HB7.out) (show 0 + 128 ≤ 256 by omega))
               have U7 := Lib.hid (there_sub (there_below HT0.out HRB.out HB7.out) (show 128 + 32 ≤ 256 by omega))
               have H67 := Lib.hid HB6.out.size
               have R7 := Lib.hid (HR0.out.below HB7.out)
               have B7 := Lib.hid (BR.out.trans (HB7.out.mono BR.out.size))
               change wpList _ _ _ _ _ ((w6.alloc (.cells (cellsOf .u8 (mk 32 zeroK)) 59)).setRow w6.heap.size (cellsOf .u8 (tauK nk g (textL (firstL count l) l))))
               clear hX HB6
               generalize (w6.alloc (.cells (cellsOf .u8 (mk 32 zeroK)) 59)).setRow w6.heap.size (cellsOf .u8 (tauK nk g (textL (firstL count l) l))) = w7 at *)
            | (refine wpList_sec_load rfl _ rfl S (natF (firstL count l)) rfl Y7.out ?_)
            | (refine wpList_sec_elem rfl _ _ rfl B 0 (2 + k) cc 0 rfl rfl (by omega) ?_)
            | (refine wpList_sec_store rfl _ _ rfl B 0 (firstL count l) rfl rfl (T7.out) ?_
               have RX := Lib.hid (enc_rows1 (firstL count l) R7.out (Nat.le_of_eq hL.symm) T7.out)
               have TX := Lib.hid (World.there_setCells U7.out B 0 (secC (firstL count l)))
               have BX := Lib.hid (below_setCells (M := w.heap.size) HBW.out (secC (firstL count l)) 0 w7 B7.out)
               have ZX := Lib.hid (otherCells (show B ≠ w6.heap.size by have := HRB.out; have := H67.out; omega) (secC (firstL count l)) 0 w7 ZT.out)
               clear R7 T7 B7 ZT Y7 HB7
               generalize w7.setCells B 0 (secC (firstL count l)) = w8 at *))
          refine wp_region_sched [(0, true), (1, true), (2, true), (3, true), (4, false)] (fun _ => True) (by kernel_rfl) (by kernel_rfl) trivial ?_
          iterate 4 (
            refine walk_float rfl rfl (fun K hK => ?_)
            first
              | (refine gives_move _ rfl ?_)
              | (refine gives_sec_elem _ _ rfl B 0 (2 + k) cc 1 rfl rfl (by omega) ?_)
              | (refine gives_arr_slice 31 5 128 secUnder rfl _ rfl B 128 rfl ?_)
              | (refine gives_arr_slice 59 5 32 sumUnder rfl _ rfl w6.heap.size 0 rfl ?_)
            go_simp
            refine hK _ ?_
            clear hK K)
          refine walk_done rfl rfl (fun K hK => ?_)
          refine done_copy _ _ rfl B 128 128 128 ⟨w6.heap.size, 0, none⟩ 32 32 (cellsOf .u8 (tauK nk g (textL (firstL count l) l))).toList rfl rfl (cells_len32 _ HTL.out) (src_cells (w := w8.drew) ZX.out) (by rw [cells_len32 _ HTL.out]; exact TX.out) (one_list _) ?_
          refine ⟨trivial, ?_⟩
          go_simp
          refine hK _ _ ?_
          clear hK K
          refine walk_nil ?_
          have RY := Lib.hid (enc_rows2 (w := w8.drew) (firstL count l) (tauK nk g (textL (firstL count l) l)) RX.out (Nat.le_of_eq hL.symm) TX.out HTL.out HTB.out)
          rw [HSE.out] at RY
          have BY := Lib.hid (below_setCells (M := w.heap.size) HBW.out (cellsOf .u8 (tauK nk g (textL (firstL count l) l))).toList 128 w8.drew BX.out.drew)
          go_wp2
          go_ret2
          exact ⟨.inl ⟨HGD.out, B, cc, by rw [HEL.out]; rfl, HBW.out, by rw [HEL.out]; exact HCC.out, RY.out⟩, BY.out⟩
    · have HGD := Lib.hid (show ¬ goodE count l from fun h => hft fun p hp => h.2.2.1 p hp)
      have HFT := Lib.hid hft
      clear hT hk hp ha hl hc0 hc1 hg hft hnd
      go_enter Tryd.func9, Tryd.ntmps9
      go_wp2_with (first
      | (go_at_call 24; refine (MC.out).mono ?_; rintro e w1 ⟨K, v, rfl, hk, ho, hb⟩
         have hfw := hk.fewer
         obtain ⟨mp, mc, rfl, _, _, hmr, hmq⟩ := ho.rows elemPut.len
         clear hmr hmq ho
         rw [mergeK_len]
         have dk : decide ((K.length : Int) < (l.length : Int)) = false := by have h2 : ¬ K.length < l.length := fun h => hfw.1 h HND.out; exact decide_eq_false (by omega)
         have dk2 : decide (K.length < l.length) = false := by simpa using dk
         have B1 := Lib.hid hb; have P1 := Lib.hid (HP.out.below hb); clear hk hb hfw MC)
        | (go_at_call 25; refine (firstCell_any count q cap l HL56.out w1 P1.out).mono ?_; rintro e w2 ⟨hs, hb⟩
           rcases hs with ⟨hf, _⟩ | ⟨_, rfl⟩
           · exact absurd hf HFT.out
           have B2 := Lib.hid (B1.out.trans (hb.mono B1.out.size))
           unfold secVal
           clear hb B1)
        | (refine wpList_sec_alloc rfl rfl w2.heap.size rfl ?_)
        | (refine store_row_on rfl 31 _ _ rfl rfl w2.heap.size (cellsOf .u8 (mk 128 (natF []))) rfl rfl 31 (cellsOf .u8 (mk 128 zeroK)) (heap_alloc_new _ _) (secSize _) (sec_same _ _) (cellsOf_one _ _) ?_
           have B3 := Lib.hid (B2.out.trans ((sec_laid w2 (natF [])).2.mono B2.out.size))))
      go_ret2
      exact ⟨.inr ⟨HGD.out, rfl⟩, B3.out⟩
  · have HX := Lib.hid (show ¬ goodE count l from fun h => hnd h.2.2.2)
    have HND := Lib.hid hnd
    clear hT hk hp ha hl hc0 hc1 hg hnd
    go_enter Tryd.func9, Tryd.ntmps9
    go_wp2_with (first
      | (go_at_call 24; refine (MC.out).mono ?_; rintro e w1 ⟨K, v, rfl, hk, ho, hb⟩
         have hfw := hk.fewer
         obtain ⟨mp, mc, rfl, _, _, hmr, hmq⟩ := ho.rows elemPut.len
         clear hmr hmq ho
         rw [mergeK_len]
         have dk : decide ((K.length : Int) < (l.length : Int)) = true := by have := hfw.2 HND.out; simp; omega
         have dk2 : decide (K.length < l.length) = true := by simpa using dk
         have B1 := Lib.hid hb; clear hk hb hfw MC)
      )
    go_ret2
    exact ⟨.inr ⟨HX.out, rfl⟩, B1.out⟩
end Go.Proofs.YtdeojhcfbiekmaaDoor
