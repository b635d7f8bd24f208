/- An entry comes back, also with other sectors behind it; and with another byte anywhere it is none, unless tags of unlike texts are the same: the statement RedoReturns, tied to the program's text. No condition. -/
import Derived.Test.YtdeojhcfbiekmaaDoorRdText
namespace Go.Proofs.YtdeojhcfbiekmaaDoor.redoReturns
open Go.ChangeShapes Go.WideShapes Go.ChangeAt Go.RowKit
set_option linter.unusedVariables false

theorem own : ownKnob Tryd.prog.godebug = none := by kernel_rfl
def zS : List Int := mk 128 (natF [])
theorem zS_sec : IsSec zS := isSec_mk fun i _ => by unfold natF; simp
theorem zS_is : secC [] = secC zS := by
  unfold secC zS
  rw [mk_ext (f := natF (mk 128 (natF []))) (g := natF []) fun j hj => natF_mk hj]
theorem rows_more {w : World} {p : Option Addr} {N : Nat} {E : List (List Int)} (h : RowsAt 128 secC w p (E ++ List.replicate N [])) : RowsAt 128 secC w p (E ++ List.replicate N zS) := by
  rcases h with h | ⟨B, o, h1, h2, h3⟩
  · refine .inl ?_
    obtain ⟨h4, h5⟩ := List.append_eq_nil_iff.1 h
    have : N = 0 := by have := congrArg List.length h5; simpa using this
    subst this; simp [h4]
  · refine .inr ⟨B, o, h1, h2, fun i c hc => ?_⟩
    by_cases hi : i < E.length
    · rw [List.getElem?_append_left hi] at hc
      exact h3 i c (by rw [List.getElem?_append_left hi]; exact hc)
    · rw [List.getElem?_append_right (by omega)] at hc
      obtain ⟨hl, hcc⟩ := List.getElem?_eq_some_iff.1 hc
      rw [List.getElem_replicate] at hcc
      have := h3 i [] (by rw [List.getElem?_append_right (by omega), List.getElem?_eq_getElem (by simpa using hl)]; simp)
      rw [← hcc, ← zS_is]; exact this
/-- A sector with a byte turned. -/
def turnS (s : List Int) (j v : Nat) : List Int := mk 128 fun t => if t = j then v else natF s t
theorem turnS_sec {s : List Int} (hs : IsSec s) (j : Nat) {v : Nat} (hv : v < 256) : IsSec (turnS s j v) := isSec_mk fun i _ => by
  split
  · exact hv
  · exact natF_lt hs.2 i
theorem turnS_ne {s : List Int} {j v : Nat} (hj : j < 128) (hv : v ≠ natF s j) : turnS s j v ≠ s := fun e => by
  have := natF_mk (f := fun t => if t = j then v else natF s t) hj
  rw [show mk 128 (fun t => if t = j then v else natF s t) = s from e, if_pos rfl] at this
  exact hv this.symm
theorem xor_ne {m n : Nat} (h : n ≠ 0) : m ^^^ n ≠ m := fun e => by
  have : m ^^^ (m ^^^ n) = m ^^^ m := by rw [e]
  rw [← Nat.xor_assoc, Nat.xor_self, Nat.zero_xor] at this
  exact h this
theorem rows_byte {w : World} {B : Nat} {l : List (List Int)} (h : RowsAt 128 secC w (some ⟨B, 0, none⟩) l) {b j : Nat} (hb : b < l.length) (hj : j < 128) (v : Nat) (ht : w.there B (128 * b + j) 1) : RowsAt 128 secC (w.setCells B (128 * b + j) [.int .u8 v]) (some ⟨B, 0, none⟩) (l.set b (turnS (l.getD b []) j v)) := by
  have same := World.rangeAt_setCells_same w B (128 * b + j) [.int .u8 v] ht
  rcases h with rfl | ⟨B', o, e, hB, hr⟩
  · simp at hb
  cases e
  refine .inr ⟨B, 0, rfl, by rw [size_setCells]; exact hB, fun k c hk t u hu => ?_⟩
  have htl : t < 128 := by rw [← secC_len c]; exact (List.getElem?_eq_some_iff.1 hu).1
  rw [Nat.zero_add]
  have out : ¬ (k = b ∧ t = j) → (w.setCells B (128 * b + j) [.int .u8 v]).cell? ⟨B, 128 * k + t, none⟩ = w.cell? ⟨B, 128 * k + t, none⟩ := fun hne =>
    World.cell?_setCells_out B [.int .u8 v] (128 * b + j) w ⟨B, 128 * k + t, none⟩ fun _ _ => by
      show 128 * k + t < 128 * b + j ∨ 128 * b + j + 1 ≤ 128 * k + t
      rcases Nat.lt_trichotomy k b with e | e | e
      · left; omega
      · subst e
        rcases Nat.lt_trichotomy t j with e2 | e2 | e2
        · left; omega
        · exact absurd ⟨rfl, e2⟩ hne
        · right; omega
      · right; omega
  by_cases hkb : k = b
  · subst hkb
    rw [List.getElem?_set_self hb] at hk
    obtain rfl : turnS (l.getD k []) j v = c := by simpa using hk
    by_cases htj : t = j
    · subst htj
      have := same 0 (.int .u8 v) rfl
      rw [Nat.add_zero] at this
      rw [this, ← hu, secC_get _ htl]
      unfold turnS
      rw [natF_mk htl, if_pos rfl]
    · rw [out fun h => htj h.2]
      have h2 := hr k (l.getD k []) (by rw [List.getD_eq_getElem?_getD, List.getElem?_eq_getElem hb]; rfl) t (.int .u8 (natF (l.getD k []) t : Nat)) (secC_get _ htl)
      rw [Nat.zero_add] at h2
      rw [h2, ← hu, secC_get _ htl]
      unfold turnS
      rw [natF_mk htl, if_neg htj]
  · rw [List.getElem?_set_ne (fun e => hkb e.symm)] at hk
    rw [out fun h => hkb h.1]
    have := hr k c hk t u hu
    rwa [Nat.zero_add] at this
theorem done_load_byte {o : Oper} {a : Act} {w : World} {K : Value → World → Prop} (x : Operand) (ho : o.op = .load 5 x) (p : Addr) (n : Nat) (hx : a.eval x = .pointer (some p)) (hc : w.cell? p = some (.int .u8 n)) (h : K (.int .u8 n) w) : doneAt Tryd.prog o a w K := by
  have hu : (isAgg 5).run Tryd.prog w = .ok false w := by simp [go_sem]
  unfold doneAt execOp
  simp only [ho, hx]
  simp [go_sem, hc, hu]
  exact h
theorem wpList_sum_eqlW {ops : Array Oper} {rest : List Oper} {o : Oper} {a : Act} {w : World} {Q : Exit → Act → World → Prop} (hw : Region.wanted o (yielded ops a.tmps) = true) (x y : Operand) (ho : o.op = .binOp .eql 59 x y 59) (f : List Int) (hf : f.length = 32) (hx : a.eval x = .agg (cellsOf .u8 f)) (hy : a.eval y = .agg (cellsOf .u8 f)) (hb : IsBytes f)
    (h : wpList Tryd.prog ops Q rest (a.put o.dst (.bool true)) w) : wpList Tryd.prog ops Q (o :: rest) a w :=
  wanted_step hw fun K hK => by
    have e0 := mk_natF hb
    rw [hf] at e0
    have e := sum_eq (natF f) (natF f) w
    rw [e0] at e
    unfold Oper.wp execOp
    simp only [ho, hx, hy]
    simp [go_sem, e]
    exact hK _ _ h
theorem wpList_callv {ops : Array Oper} {rest : List Oper} {o : Oper} {a : Act} {w : World} {Q : Exit → Act → World → Prop} (x y : Operand) (ts : Array TypeId) (ho : o.op = .call { callee := .value x, args := #[y], argTypes := ts }) (hw : Region.wanted o (yielded ops a.tmps) = true) (g : FuncId)
    (hx : a.eval x = .func (.func g) #[] #[]) (hf : ∀ (args : Array Value) (w : World), (callFunc g args).run Tryd.prog w = .ok (.enter g args) w) (u : Value) (hy : a.eval y = u) (R : Ending → World → Prop) (hc : Calls Tryd.prog g #[u] w R) (hk : ∀ e w', R e w' → ∃ v, e = .returned v ∧ wpList Tryd.prog ops Q rest (a.put o.dst v) w') : wpList Tryd.prog ops Q (o :: rest) a w :=
  wanted_step hw fun K hK => by
    have hrun : (execOp a.eval o).run Tryd.prog w = .ok (.enter g #[u]) w := by
      unfold execOp
      simp only [ho, resolve, hx, List.map_toArray, List.map_cons, List.map_nil, hy, Deferred.ofValue, Sem.run_bind, Sem.run_pure, Result.andThen_ok, invoke, Array.append_empty, Array.empty_append, hf]
    unfold Oper.wp
    rw [hrun, Oper.upon_enter]
    refine hc.mono fun e w' h => ?_
    obtain ⟨v, rfl, h2⟩ := hk e w' h
    exact hK _ _ h2
/-- What stands between two calls. -/
structure St (w0 : World) (kp : Option Addr) (n kc : Nat) (g : Nat → Nat) (q : Option Addr) (l0 : List RowOf) (W : World) : Prop where
  k : KeyOk W kp n kc g
  t : TabAt W
  p : RowsIn W q l0
  b : Below w0.heap.size w0 W
theorem St.below {w0 W W' : World} {kp q : Option Addr} {n kc : Nat} {g : Nat → Nat} {l0 : List RowOf} (h : St w0 kp n kc g q l0 W) (hb : Below W.heap.size W W') : St w0 kp n kc g q l0 W' :=
  ⟨h.k.below hb, h.t.on hb, h.p.below hb, h.b.trans (hb.mono h.b.size)⟩
theorem good_len {c : Int} {l : List PutOf} (h : goodE c l) : l.length ≤ 56 := h.2.1
theorem enc_first (τ : List Int → List Int) (count : Int) (l : List PutOf) : (encL τ count l).getD 0 [] = firstL count l := rfl
theorem textC_bytes {cs : List (List Int)} (hcs : ∀ s ∈ cs, IsSec s) (h : 0 < cs.length) : IsBytes (textC cs) := fun x hx => by
  rcases List.mem_append.1 hx with h1 | h1
  · exact (hcs _ (getD_mem [] h)).2 x h1
  · obtain ⟨s, hs, hxs⟩ := List.mem_flatten.1 h1
    exact (hcs s (List.mem_of_mem_drop hs)).2 x hxs
attribute [local irreducible] putC natF putsL encL goodE tauK secC decE textL firstL zS turnS textC byteC textT
set_option maxRecDepth 100000 in
set_option maxHeartbeats 20000000 in
theorem back_any (kp : Option Addr) (n kc : Nat) (g : Nat → Nat) (z : Int) (q : Option Addr) (l0 : List RowOf) (cap : Nat) (m : Int) (hwz : (Lit.int .i64 z).wf = true) (w : World) (hS : St w kp n kc g q l0 w) :
    Calls Tryd.prog 21 #[.slice kp n kc, .int .i64 z, .slice q l0.length cap, .int .i64 m] w fun e w' => e = .returned (.bool true) ∧ Below w.heap.size w w' := by
  have HB0 := Lib.hid (Below.refl w.heap.size w)
  by_cases hlg : n ≤ 1000 ∧ l0.length ≤ 70
  · obtain ⟨hn, hl⟩ := hlg
    have LG := Lib.hid (fun W => large_no kp n kc q l0.length cap hn hl W)
    have bz := bounds_i64 hwz
    have HOK := Lib.hid (putsL_ok hS.p)
    have HAT := Lib.hid (putsL_ats hS.p)
    have HNP := Lib.hid (show (putsL l0).length ≤ 70 by rw [putsL_len]; exact hl)
    have HN := Lib.hid (show l0.length ≤ 1000 by omega)
    have OC := Lib.hid (fun (W : World) (hs : St w kp n kc g q l0 W) => one_any kp n kc g (by omega) hs.k.cap hs.k.lt W hs.t hs.k.at')
    have EC := Lib.hid (fun (q' : Option Addr) (c' : Nat) (W : World) (hs : St w kp n kc g q l0 W) hp => Encode_any kp n kc g (by omega) hs.k.cap hs.k.lt z q' c' (putsL l0) (by have := HNP.out; omega) HAT.out HOK.out W hs.t hs.k.at' hp)
    have DC := Lib.hid (fun (q' : Option Addr) (c' : Nat) cs (hcs : ∀ s ∈ cs, IsSec s) (hcl : cs.length ≤ 1000) (W : World) (hs : St w kp n kc g q l0 W) hp => Decode_any kp n kc g (by omega) hs.k.cap hs.k.lt q' c' cs hcs hcl W hs.t hs.k.at' hp)
    have RT := Lib.hid (fun tp nt tc gt h1 h2 W (hs : St w kp n kc g q l0 W) h3 => refTag_any kp n kc g tp nt tc gt (by omega) hs.k.lt h1 h2 W hs.k.at' h3)
    have HEL := Lib.hid (encL_len (tauK n g) z (putsL l0))
    have HES := Lib.hid (encL_sec (τ := tauK n g) (tauK_bytes n g) (count := z) HOK.out)
    have HDE := Lib.hid (fun (h : goodE z (putsL l0)) k => dec_enc (tauK n g) h bz.2 (List.replicate k zS))
    have HSP := Lib.hid (fun (h : goodE z (putsL l0)) b s hb (hs : IsSec s) hne c pl hd => spoilt (tauK n g) (tauK_bytes n g) (tauK_len n g) h bz.2 HOK.out (b := b) (s := s) hb hs hne (n := c) (p := pl) hd)
    have HTX := Lib.hid (textC_enc (tauK n g) z (putsL l0))
    have HEF := Lib.hid (enc_first (tauK n g) z (putsL l0))
    have HEN := Lib.hid (enters_of Tryd.func38 (by kernel_rfl) rfl)
    have S0 := Lib.hid hS
    clear hS hn hl hwz bz
    by_cases hgd : goodE z (putsL l0)
    · have HGD := Lib.hid hgd
      clear hgd
      generalize hnx : (encL (tauK n g) z (putsL l0)).length = nx at *
      have HNX := Lib.hid (show 2 ≤ nx ∧ nx ≤ 72 from by have := HEL.out; have := HNP.out; omega)
      obtain ⟨V, hV⟩ : ∃ V : Nat, IntKind.u64.wrap m = (V : Int) := ⟨(m % 18446744073709551616).toNat, by rw [IntKind.wrap_u64]; omega⟩
      obtain ⟨r5, hr5⟩ : ∃ r5, V % 5 = r5 := ⟨_, rfl⟩
      have H5 := Lib.hid (show r5 < 5 by omega)
      have k1 : (V : Int).tmod 5 = (r5 : Int) := by rw [Int.tmod_eq_emod_of_nonneg (by omega)]; omega
      have k2 : IntKind.u64.wrap (r5 : Int) = (r5 : Int) := by have := H5.out; rw [IntKind.wrap_u64]; omega
      have k3 : IntKind.i64.wrap (r5 : Int) = (r5 : Int) := by have := H5.out; exact IntWalk.i64_in _ (by omega)
      obtain ⟨M, hM⟩ : ∃ M, 128 * nx = M := ⟨_, rfl⟩
      obtain ⟨A, hA⟩ : ∃ A, V % M = A := ⟨_, rfl⟩
      have HAM := Lib.hid (show A < M ∧ A ≤ 1000000 from by have := HNX.out; have := Nat.mod_lt V (show 0 < M by omega); omega)
      have k4 : IntKind.i64.wrap (128 * (nx : Int)) = (M : Int) := by have := HNX.out; rw [IntWalk.i64_in _ (by omega)]; omega
      have k5 : IntKind.u64.wrap (M : Int) = (M : Int) := by have := HNX.out; rw [IntKind.wrap_u64]; omega
      have k6 : (V : Int).tmod (M : Int) = (A : Int) := by rw [Int.tmod_eq_emod_of_nonneg (by omega), ← Int.natCast_emod, hA]
      have k7 : IntKind.u64.wrap (A : Int) = (A : Int) := by have := HAM.out; rw [IntKind.wrap_u64]; omega
      have k8 : IntKind.i64.wrap (A : Int) = (A : Int) := by have := HAM.out; exact IntWalk.i64_in _ (by omega)
      have k9 : ¬ (M : Int) = 0 := by have := HNX.out; omega
      have k10 : ¬ M = 0 := by have := HNX.out; omega
      have HE8 := Lib.hid (show V % 8 < 8 from Nat.mod_lt _ (by decide))
      have HAB := Lib.hid (show A / 128 < nx ∧ A % 128 < 128 from by have := HAM.out; omega)
      have HLR := Lib.hid (show (encL (tauK n g) z (putsL l0) ++ List.replicate r5 zS).length = nx + r5 by rw [List.length_append, hnx, List.length_replicate])
      have HLN := Lib.hid (show (encL (tauK n g) z (putsL l0) ++ List.replicate r5 ([] : List Int)).length = nx + r5 by rw [List.length_append, hnx, List.length_replicate])
      have HMS := Lib.hid (show ∀ s ∈ encL (tauK n g) z (putsL l0) ++ List.replicate r5 zS, IsSec s from fun s hs => by
        rcases List.mem_append.1 hs with h | h
        · exact HES.out s h
        · rw [List.eq_of_mem_replicate h]; exact zS_sec)
      have HVE := Lib.hid hV
      clear hr5 hM hA
      go_enter Tryd.func21, Tryd.ntmps21
      go_wp2_with (first
        | (go_at_call 8; refine (LG.out _).mono ?_; rintro e w1 ⟨rfl, rfl⟩; clear LG)
        | (go_at_call 10; refine (puts_any q cap l0 HN.out w S0.out.p).mono ?_; rintro e w2 ⟨v, rfl, ho, hb⟩
           obtain ⟨lp, lc, rfl, -, -, hr, -⟩ := ho.rows elemPut.len
           have L2 := Lib.hid hr
           have S2 := Lib.hid (S0.out.below hb)
           clear ho hb hr S0)
        | (go_at_call 9; refine (EC.out lp lc w2 S2.out L2.out).mono ?_; rintro e w3 ⟨hs, hb⟩
           unfold EncSays at hs
           obtain ⟨-, XB, xc, rfl, -, hxc, hr⟩ := hs.resolve_right (fun h => h.1 HGD.out)
           rw [hnx] at hxc ⊢
           have HXC := Lib.hid hxc
           have X3 := Lib.hid hr
           have S3 := Lib.hid (S2.out.below hb)
           clear hs hb EC L2 S2 hr hxc)
        | (refine wpList_list0 elemSec rfl rfl ?_
           have hX := X3
           clear hX
           have O4 := Lib.hid (OwnL.empty 31 128 secC w3 w3.heap.size (Nat.le_refl _))
           have B4 := Lib.hid ((Below.refl w3.heap.size w3).alloc (Nat.le_refl _) (.cells #[] 31))
           have Z4 := Lib.hid (show (w3.alloc (.cells #[] 31)).heap.size = w3.heap.size + 1 by simp)
           generalize w3.alloc (.cells #[] 31) = w4 at *)
        | (refine wpList_append_list elemSec rfl _ _ rfl w3.heap.size (w3.heap.size + 1) _ [] (encL (tauK n g) z (putsL l0)) (some ⟨XB, 0, none⟩) nx xc rfl rfl hnx.symm O4.out (X3.out.below B4.out) (by rw [hnx]; have := HNX.out; simp; omega) (by decide) (by have := Z4.out; omega) ?_
           intro v5 w5 ho5 hg5 hr5
           rw [List.nil_append] at ho5
           obtain ⟨vp, c5, rfl, -, -, hr, hq⟩ := ho5.rows secC_len
           obtain ⟨YA, rfl⟩ : ∃ YA, vp = some ⟨YA, 0, none⟩ := by
             rcases hr with h | ⟨B, o, h, _, _⟩
             · rw [h] at hnx; have := HNX.out; simp at hnx; omega
             · obtain rfl : o = 0 := (hq B o h).2.2
               exact ⟨B, h⟩
           rw [hnx] at ho5 ⊢
           have O5 := Lib.hid ho5
           have B5 := Lib.hid (B4.out.trans (below_own1 hg5 O4.out.block (by have := Z4.out; omega)))
           clear ho5 hg5 hr5 O4 B4 Z4 hr hq)
        | (refine wpList_append_nils rfl _ _ rfl w3.heap.size w5.heap.size nx c5 YA (encL (tauK n g) z (putsL l0)) r5 rfl rfl O5.out (by rw [hnx]; have := HNX.out; have := H5.out; omega) B5.out.size ?_
           intro v6 w6 ho6 hb6
           obtain ⟨vp, c6, rfl, -, -, hr, -⟩ := ho6.rows secC_len
           have R6 := Lib.hid (rows_more hr)
           have B6 := Lib.hid (B5.out.trans hb6)
           have S6 := Lib.hid (S3.out.below B6.out)
           have X6 := Lib.hid (X3.out.below B6.out)
           clear ho6 hb6 hr O5 B5)
        | (go_at_call 17
           have DD := DC.out vp c6 (encL (tauK n g) z (putsL l0) ++ List.replicate r5 zS) HMS.out (by rw [List.length_append, hnx, List.length_replicate]; have := HNX.out; have := H5.out; omega) w6 S6.out R6.out
           rw [HLR.out, HDE.out HGD.out r5] at DD
           try rw [HLN.out]
           refine DD.mono ?_; rintro e w7 ⟨hs, hb⟩
           clear DD
           obtain ⟨pp, pcap, rfl, hr⟩ := (show ∃ p cap, e = .returned (.tuple #[.int .i64 z, .slice p (putsL l0).length cap, .bool true]) ∧ RowsAt 129 putC w7 p (putsL l0) from hs)
           have P7 := Lib.hid hr
           have S7 := Lib.hid (S6.out.below hb)
           have X7 := Lib.hid (X6.out.below hb)
           clear hs hb hr S6 X6 R6 B6 S3 X3)
        | (go_at_call 10; refine (puts_any q cap l0 HN.out w7 S7.out.p).mono ?_; rintro e w8 ⟨v, rfl, ho, hb⟩
           obtain ⟨lp8, lc8, rfl, -, -, hr, -⟩ := ho.rows elemPut.len
           have L8 := Lib.hid hr
           have S8 := Lib.hid (S7.out.below hb)
           have P8 := Lib.hid (P7.out.below hb)
           have X8 := Lib.hid (X7.out.below hb)
           clear ho hb hr S7 P7 X7)
        | (go_at_call 15; refine (same_any pp lp8 pcap lc8 (putsL l0) (putsL l0) (by have := HNP.out; omega) HOK.out HOK.out w8 P8.out L8.out).mono ?_; rintro e w9 ⟨hs, hb⟩
           have he := hs.is rfl
           subst he
           have S9 := Lib.hid (S8.out.below hb)
           have X9 := Lib.hid (X8.out.below hb)
           clear hs hb S8 P8 X8 L8)
        | (refine wpList_list0 elemSec rfl rfl ?_
           have O10 := Lib.hid (OwnL.empty 31 128 secC w9 w9.heap.size (Nat.le_refl _))
           have B10 := Lib.hid ((Below.refl w9.heap.size w9).alloc (Nat.le_refl _) (.cells #[] 31))
           have Z10 := Lib.hid (show (w9.alloc (.cells #[] 31)).heap.size = w9.heap.size + 1 by simp)
           generalize w9.alloc (.cells #[] 31) = w10 at *)
        | (refine wpList_append_list elemSec rfl _ _ rfl w9.heap.size (w9.heap.size + 1) _ [] (encL (tauK n g) z (putsL l0)) (some ⟨XB, 0, none⟩) nx xc rfl rfl hnx.symm O10.out (X9.out.below B10.out) (by rw [hnx]; have := HNX.out; simp; omega) (by decide) (by have := Z10.out; omega) ?_
           intro v11 w11 ho5 hg5 hr5
           rw [List.nil_append] at ho5
           obtain ⟨vp11, c11, rfl, -, -, hr, hq⟩ := ho5.rows secC_len
           obtain ⟨YB, rfl⟩ : ∃ YB, vp11 = some ⟨YB, 0, none⟩ := by
             rcases hr with h | ⟨B, o, h, _, _⟩
             · rw [h] at hnx; have := HNX.out; simp at hnx; omega
             · obtain rfl : o = 0 := (hq B o h).2.2
               exact ⟨B, h⟩
           have T11 := Lib.hid (there_own ho5 ⟨rfl, rfl⟩)
           have HYB := Lib.hid (show w9.heap.size ≤ YB from (hq YB 0 rfl).1)
           rw [hnx] at ho5 ⊢
           have Y11 := Lib.hid hr
           have B11 := Lib.hid (B10.out.trans (below_own1 hg5 O10.out.block (by have := Z10.out; omega)))
           clear ho5 hg5 hr5 O10 B10 Z10 hr hq))
      have k0 : True := trivial
      have HOLD := Lib.hid (show w11.drew.cell? ⟨YB, 128 * (A / 128) + A % 128, none⟩ = some (.int .u8 (natF ((encL (tauK n g) z (putsL l0)).getD (A / 128) []) (A % 128) : Nat)) from by
        obtain ⟨B', o', e, hB, hr⟩ := secsAt_get Y11.out (k := A / 128) (by rw [hnx]; exact HAB.out.1)
        cases e
        have := hr (A % 128) _ (secC_get _ HAB.out.2)
        rwa [Nat.zero_add] at this)
      have HSB := Lib.hid (HES.out _ (getD_mem [] (show A / 128 < (encL (tauK n g) z (putsL l0)).length by rw [hnx]; exact HAB.out.1)))
      have HTH := Lib.hid (show w11.drew.there YB (128 * (A / 128) + A % 128) 1 from there_sub T11.out (by rw [hnx]; have := HAB.out; omega))
      have HOB := Lib.hid (natF_lt HSB.out.2 (A % 128))
      have HP2 := Lib.hid (show 2 ^ (V % 8) < 256 ∧ 2 ^ (V % 8) ≠ 0 from by
        have h := HE8.out
        generalize V % 8 = e at *
        rcases e with _ | _ | _ | _ | _ | _ | _ | _ | e
        all_goals first | omega | decide)
      have HR12 := Lib.hid (rows_byte (w := w11.drew) Y11.out (b := A / 128) (j := A % 128) (by rw [hnx]; exact HAB.out.1) HAB.out.2 (natF ((encL (tauK n g) z (putsL l0)).getD (A / 128) []) (A % 128) ^^^ 2 ^ (V % 8)) HTH.out)
      have HNE := Lib.hid (turnS_ne (s := (encL (tauK n g) z (putsL l0)).getD (A / 128) []) HAB.out.2 (xor_ne (m := natF ((encL (tauK n g) z (putsL l0)).getD (A / 128) []) (A % 128)) HP2.out.2))
      have HSS := Lib.hid (turnS_sec HSB.out (A % 128) (xor_lt HOB.out HP2.out.1))
      have HB12 := Lib.hid (below_setCells (M := w9.heap.size) HYB.out [.int .u8 (natF ((encL (tauK n g) z (putsL l0)).getD (A / 128) []) (A % 128) ^^^ 2 ^ (V % 8) : Nat)] (128 * (A / 128) + A % 128) w11.drew B11.out.drew)
      clear T11 Y11 B11 HSB
      generalize hoz : 128 * (A / 128) + A % 128 = oz at *
      generalize hold : natF ((encL (tauK n g) z (putsL l0)).getD (A / 128) []) (A % 128) = old at *
      have HOZ := Lib.hid hoz
      clear hold
      refine wp_region_sched [(0, true), (1, true), (2, true), (3, true), (4, true), (5, true), (6, true), (8, true), (9, true), (10, true), (11, true), (13, true), (7, false), (12, true), (14, true), (15, false)] (fun _ => True) (by kernel_rfl) (by kernel_rfl) trivial ?_
      iterate 12 (
        refine walk_float rfl rfl (fun K hK => ?_)
        first
          | (refine gives_move _ rfl ?_)
          | (refine gives_quo _ _ rfl rfl A (A / 128) rfl HAM.out.2 rfl ?_)
          | (refine gives_rem _ _ rfl rfl A (A % 128) rfl HAM.out.2 rfl ?_)
          | (refine gives_sec_elem _ _ rfl YB 0 nx c11 (A / 128) rfl rfl HAB.out.1 ?_
             try rw [Nat.zero_add])
          | (refine gives_sec_byte _ _ rfl YB (128 * (A / 128)) (A % 128) rfl rfl HAB.out.2 ?_
             rw [HOZ.out])
          | (refine gives_u64 _ rfl m V HVE.out rfl ?_)
          | (refine gives_rem8 _ _ rfl rfl V (V % 8) rfl rfl ?_)
          | (refine gives_shl _ _ rfl rfl (V % 8) HE8.out rfl ?_)
        go_simp
        refine hK _ ?_
        clear hK K)
      refine walk_done rfl rfl (fun K hK => ?_)
      refine done_load_byte _ rfl ⟨YB, oz, none⟩ old rfl HOLD.out ?_
      refine ⟨trivial, ?_⟩
      go_simp
      refine hK _ _ ?_
      clear hK K
      refine walk_float rfl rfl (fun K hK => ?_)
      refine gives_xor8 _ _ rfl old (2 ^ (V % 8)) HOB.out HP2.out.1 rfl rfl ?_
      go_simp
      refine hK _ ?_
      clear hK K
      refine walk_float rfl rfl (fun K hK => ?_)
      refine gives_sec_byte _ _ rfl YB (128 * (A / 128)) (A % 128) rfl rfl HAB.out.2 ?_
      rw [HOZ.out]
      go_simp
      refine hK _ ?_
      clear hK K
      refine walk_done rfl rfl (fun K hK => ?_)
      refine done_store_byte _ _ rfl YB oz (old ^^^ 2 ^ (V % 8)) rfl rfl HTH.out ?_
      refine ⟨trivial, ?_⟩
      go_simp
      refine hK _ _ ?_
      clear hK K
      refine walk_nil ?_
      have S12 := Lib.hid (S9.out.below HB12.out)
      have X12 := Lib.hid (X9.out.below HB12.out)
      have HSPC := Lib.hid (fun c pl hd => HSP.out HGD.out (A / 128) _ (by have := HAB.out; have := HEL.out; omega) HSS.out HNE.out c pl hd)
      have HCS := Lib.hid (show ∀ s ∈ (encL (tauK n g) z (putsL l0)).set (A / 128) (turnS ((encL (tauK n g) z (putsL l0)).getD (A / 128) []) (A % 128) (old ^^^ 2 ^ (V % 8))), IsSec s from fun s hs => by
        rcases List.mem_or_eq_of_mem_set hs with h | rfl
        · exact HES.out s h
        · exact HSS.out)
      have HCL := Lib.hid (show ((encL (tauK n g) z (putsL l0)).set (A / 128) (turnS ((encL (tauK n g) z (putsL l0)).getD (A / 128) []) (A % 128) (old ^^^ 2 ^ (V % 8)))).length = nx by rw [List.length_set, hnx])
      have TXT := Lib.hid (fun (W : World) (h : RowsAt 128 secC W (some ⟨XB, 0, none⟩) (encL (tauK n g) z (putsL l0))) => text_any (some ⟨XB, 0, none⟩) xc (encL (tauK n g) z (putsL l0)) HES.out (by rw [hnx]; exact HNX.out.1) (by rw [hnx]; have := HNX.out; omega) (by rw [hnx]; exact HXC.out) W h)
      rw [hnx, HTX.out] at TXT
      have HT0B := Lib.hid (show IsBytes (textL (firstL z (putsL l0)) (putsL l0)) from by
        rw [← HTX.out]; exact textC_bytes HES.out (by rw [hnx]; have := HNX.out; omega))
      have HT0L := Lib.hid (show (textL (firstL z (putsL l0)) (putsL l0)).length ≤ 80000 from by
        have h : IsSec (firstL z (putsL l0)) := by rw [← HEF.out]; exact HES.out _ (getD_mem [] (by rw [hnx]; have := HNX.out; omega))
        rw [text_len _ h _ HOK.out]; have := HNP.out; omega)
      have HT0F := Lib.hid (fun i (_ : i < (textL (firstL z (putsL l0)) (putsL l0)).length) => natF_lt HT0B.out i)
      have TI0 := Lib.hid (tau_is n g (textL (firstL z (putsL l0)) (putsL l0)))
      have HR := HR12
      clear HR12 HB12 HOLD HTH HOB HNE HSS HOZ HTX HEF HSP HDE HES HOK HLR HLN HMS S9 X9 HP2 HE8 hoz k0
      clear k1 k2 k3 k4 k5 k6 k7 k8 k9 k10 hV
      generalize (encL (tauK n g) z (putsL l0)).set (A / 128) (turnS ((encL (tauK n g) z (putsL l0)).getD (A / 128) []) (A % 128) (old ^^^ 2 ^ (V % 8))) = cur at *
      generalize textL (firstL z (putsL l0)) (putsL l0) = t0 at *
      generalize encL (tauK n g) z (putsL l0) = EE at *
      generalize (w11.drew.setCells YB oz [.int .u8 (old ^^^ 2 ^ (V % 8) : Nat)]) = w12 at *
      obtain ⟨od, hod⟩ : ∃ od, decE (tauK n g) cur = od := ⟨_, rfl⟩
      have DD := Lib.hid (DC.out (some ⟨YB, 0, none⟩) c11 cur HCS.out (by rw [HCL.out]; have := HNX.out; omega) w12 S12.out HR.out)
      rw [HCL.out, hod] at DD
      clear DC
      cases od with
      | none =>
        clear hod
        go_wp2_with (first
          | (go_at_call 17; refine (DD.out).mono ?_; rintro e w13 ⟨hs, hb⟩
             have hs' : e = .returned (.tuple #[.int .i64 0, .slice none 0 0, .bool false]) := hs
             subst hs'
             have S13 := Lib.hid (S12.out.below hb)
             clear hs hb DD))
        go_ret
        exact ⟨rfl, S13.out.b⟩
      | some cl =>
        obtain ⟨c, pl⟩ := cl
        have HPLO := Lib.hid (dec_ok HCS.out hod)
        have HPLN := Lib.hid (good_len (dec_some hod).1)
        have HS0 := Lib.hid (HCS.out _ (getD_mem [] (show 0 < cur.length by rw [HCL.out]; have := HNX.out; omega)))
        have TZ := Lib.hid (textT_zero (cur.getD 0 []) pl)
        have TN := Lib.hid (fun k (h : k < pl.length) => textT_next (cur.getD 0 []) pl h)
        have TL := Lib.hid (fun k (h : k ≤ pl.length) => textT_len HS0.out HPLO.out h)
        have TE := Lib.hid (textT_end (cur.getD 0 []) pl)
        have TB := Lib.hid (text_bytes HS0.out HPLO.out)
        have TI := Lib.hid (tau_is n g (textL (cur.getD 0 []) pl))
        have HUN := Lib.hid (HSPC.out c pl hod)
        clear hod HSPC
        go_wp2_with (first
          | (go_at_call 17; refine (DD.out).mono ?_; rintro e w13 ⟨hs, hb⟩
             obtain ⟨pp2, pcap2, rfl, hr⟩ := (show ∃ p cap, e = .returned (.tuple #[.int .i64 c, .slice p pl.length cap, .bool true]) ∧ RowsAt 129 putC w13 p pl from hs)
             have S13 := Lib.hid (S12.out.below hb)
             have P13 := Lib.hid hr
             have X13 := Lib.hid (X12.out.below hb)
             have R13 := Lib.hid (HR.out.below hb)
             clear hs hb hr DD S12 X12 HR)
          | (refine wpList_list0 elemByte rfl rfl ?_
             have O15 := Lib.hid (OwnL.empty 5 1 byteC w13 w13.heap.size (Nat.le_refl _))
             have B15 := Lib.hid ((Below.refl w13.heap.size w13).alloc (Nat.le_refl _) (.cells #[] 5))
             have Z15 := Lib.hid (show (w13.alloc (.cells #[] 5)).heap.size = w13.heap.size + 1 by simp)
             generalize w13.alloc (.cells #[] 5) = w15 at *
             have C15 := Lib.hid (show RowsAt 1 byteC w15 (some ⟨YB, 0, none⟩) (cur.getD 0 []) from by
               obtain ⟨B', o', e, hB, hr⟩ := secsAt_get (R13.out.below B15.out) (k := 0) (by rw [HCL.out]; have := HNX.out; omega)
               cases e
               exact sec_bytesL HS0.out hr hB))
          | (refine wpList_sec_elem rfl _ _ rfl YB 0 nx c11 0 rfl rfl (by have := HNX.out; omega) ?_)
          | (refine wpList_arr_slice rfl 31 5 128 secUnder rfl _ rfl YB 0 rfl ?_)
          | (refine wpList_append_list elemByte rfl _ _ rfl w13.heap.size (w13.heap.size + 1) _ [] (cur.getD 0 []) (some ⟨YB, 0, none⟩) 128 128 rfl rfl HS0.out.1.symm O15.out C15.out (by rw [HS0.out.1]; decide) (by decide) (by have := Z15.out; omega) ?_
             intro v16 w16 ho6 hg6 hr6
             rw [List.nil_append, ← TZ.out] at ho6
             have O16 := Lib.hid ho6
             have B16 := Lib.hid (B15.out.trans (below_own1 hg6 O15.out.block (by have := Z15.out; omega)))
             clear ho6 hg6 hr6 O15 B15 Z15 C15))
        go_loopw [117, 19] (fun v117 v19 wr => ∃ j : Nat, j ≤ pl.length ∧ v117 = .int .i64 j ∧ OwnL 5 1 byteC wr w13.heap.size wr.heap.size v19 (textT (cur.getD 0 []) pl j) ∧ Below w13.heap.size w13 wr) (fun v117 _ _ => pl.length - (intOf v117).toNat)
        case atStart => exact ⟨0, Nat.zero_le _, rfl, O16.out, B16.out⟩
        case round =>
          obtain ⟨j, hj, rfl, ho, hb⟩ := hrel
          have HO := Lib.hid ho
          have HBJ := Lib.hid hb
          clear ho hb O16 B16
          have HWM := Lib.hid (show w13.heap.size ≤ wr.heap.size from HBJ.out.size)
          by_cases hlt : j < pl.length
          · obtain ⟨B, o, hqe, hB, hr⟩ := rowsAt_get P13.out hlt
            subst hqe
            have HRB := Lib.hid (rangeAt_below hr HBJ.out hB)
            have g3 : (j : Int) < (pl.length : Int) := by omega
            have g4 : (0 : Int) ≤ j := by omega
            have g5 : IntKind.i64.wrap ((j : Int) + 1) = ((j + 1 : Nat) : Int) := by have := HPLN.out; rw [IntWalk.i64_in _ (by omega)]; omega
            have HTX := Lib.hid (TN.out j hlt)
            have HSJ := Lib.hid (show IsSec (pl.getD j noPut).s from HPLO.out _ (getD_mem noPut hlt))
            have HLT := Lib.hid hlt
            have HLE := Lib.hid (show (textT (cur.getD 0 []) pl j).length ≤ 8000 by rw [TL.out j hj]; have := HPLN.out; omega)
            clear hlt hr hB
            generalize pl.getD j noPut = cc at *
            generalize textT (cur.getD 0 []) pl j = tx at *
            have OB := Lib.hid (PutBox.new wr cc)
            have BO := Lib.hid (put_box_below wr cc)
            go_wp2_with (first
              | (refine wpList_put_elem rfl _ _ rfl B o pl.length pcap2 j rfl rfl HLT.out ?_)
              | (refine wpList_put_load rfl _ rfl B (o + 129 * j) rfl cc HRB.out ?_)
              | (refine wpList_put_alloc rfl rfl ?_)
              | (refine store_row_on rfl 57 _ _ rfl rfl wr.heap.size (putC cc).toArray rfl rfl 57 (putC ⟨0, []⟩).toArray (heap_alloc_new _ _) (putA_size cc) (by rw [List.size_toArray, List.size_toArray, putC_len, putC_len]) (putA_one cc) ?_
                 generalize hW : (wr.alloc (.cells (putC ⟨0, []⟩).toArray 57)).setRow wr.heap.size (putC cc).toArray = wb at *
                 have HSC := Lib.hid (box_sec OB.out)
                 have HWO := Lib.hid hW
                 clear hW)
              | (refine wpList_putfield rfl _ 1 rfl (by decide) wr.heap.size 0 rfl ?_)
              | (refine wpList_arr_slice rfl 31 5 128 secUnder rfl _ rfl wr.heap.size 1 rfl ?_)
              | (refine wpList_append_list elemByte rfl _ _ rfl w13.heap.size wr.heap.size _ tx cc.s (some ⟨wr.heap.size, 1, none⟩) 128 128 rfl rfl HSJ.out.1.symm (HO.out.below (Nat.le_refl _) BO.out) (sec_bytesL HSJ.out HSC.out OB.out.lt) (by rw [HSJ.out.1]; have := HLE.out; omega) (by decide) (Nat.le_trans HWM.out BO.out.size) ?_
                 intro v5 w5' ho5 hg5 hr5
                 have O5 := Lib.hid ho5
                 have B5 := Lib.hid ((HBJ.out.trans (BO.out.mono HWM.out)).trans (below_own1 hg5 HO.out.block (Nat.le_trans HWM.out BO.out.size)))
                 clear ho5 hg5 hr5))
            go_roundw
            case rel => exact ⟨j + 1, HLT.out, by go_num, by rw [HTX.out]; exact O5.out, B5.out⟩
            case measure => have := HLT.out; simp [intOf]; omega
          · have g3 : ¬ (j : Int) < (pl.length : Int) := by omega
            have hjj : j = pl.length := by omega
            rw [hjj, TE.out] at HO
            have htl := TL.out pl.length (Nat.le_refl _)
            rw [TE.out] at htl
            have htb := TB.out
            obtain ⟨tp, tc, rfl, -, -, hr, -⟩ := HO.out.rows elemByte.len
            have HTB := Lib.hid (rows_bytes hr htb)
            have HTL := Lib.hid (show (textL (cur.getD 0 []) pl).length ≤ 80000 by rw [htl]; have := HPLN.out; omega)
            have HTF := Lib.hid (fun i (_ : i < (textL (cur.getD 0 []) pl).length) => natF_lt htb i)
            have SJ := Lib.hid (S13.out.below HBJ.out)
            have XJ := Lib.hid (X13.out.below HBJ.out)
            have HJJ := Lib.hid hjj
            clear hlt hj hr htl htb HO hjj S13 X13 R13 P13 HBJ
            generalize textL (cur.getD 0 []) pl = tx at *
            have HDEC := Lib.hid (show decide (mk tx.length (natF tx) = mk t0.length (natF t0)) = false from decide_eq_false (by rw [mk_natF TB.out, mk_natF HT0B.out]; exact HUN.out.1))
            have HTAU := Lib.hid HUN.out.2
            have HTAL := Lib.hid (tauK_len n g t0)
            have HTAB := Lib.hid (tauK_bytes n g t0)
            clear HUN
            go_wp2_with (first
              | (go_at_call 38; refine (TXT.out wr XJ.out).mono ?_; rintro e w17 ⟨⟨tp2, tc2, rfl, hr⟩, hb⟩
                 have HT2 := Lib.hid (rows_bytes hr HT0B.out)
                 have S17 := Lib.hid (SJ.out.below hb)
                 have X17 := Lib.hid (XJ.out.below hb)
                 have H17 := Lib.hid (HTB.out.below hb)
                 clear hb hr SJ XJ HTB)
              | (go_at_call 39; refine (Same_any tp tp2 tx.length tc t0.length tc2 (natF tx) (natF t0) HTF.out HT0F.out w17 H17.out HT2.out).mono ?_; rintro e w18 ⟨rfl, rfl⟩
                 rw [HDEC.out]
                 clear HT2 HDEC)
              | (go_at_call 22; refine (RT.out tp tx.length tc (natF tx) HTL.out HTF.out w17 S17.out H17.out).mono ?_; rintro e w19 ⟨rfl, hb⟩
                 rw [TI.out, HTAU.out]
                 have S19 := Lib.hid (S17.out.below hb)
                 have X19 := Lib.hid (X17.out.below hb)
                 clear hb S17 X17 H17)
              | (go_at_call 38; refine (TXT.out w19 X19.out).mono ?_; rintro e w20 ⟨⟨tp3, tc3, rfl, hr⟩, hb⟩
                 have HT3 := Lib.hid (rows_bytes hr HT0B.out)
                 have S20 := Lib.hid (S19.out.below hb)
                 clear hb hr S19 X19)
              | (go_at_call 22; refine (RT.out tp3 t0.length tc3 (natF t0) HT0L.out HT0F.out w20 S20.out HT3.out).mono ?_; rintro e w21 ⟨rfl, hb⟩
                 rw [TI0.out]
                 have S21 := Lib.hid (S20.out.below hb)
                 clear hb S20 HT3)
              | (refine wpList_sum_eqlW rfl _ _ rfl (tauK n g t0) HTAL.out rfl rfl HTAB.out ?_))
            go_ret
            exact ⟨rfl, S21.out.b⟩
    · have HGD := Lib.hid hgd
      clear hgd
      go_enter Tryd.func21, Tryd.ntmps21
      go_wp2_with (first
        | (go_at_call 8; refine (LG.out _).mono ?_; rintro e w1 ⟨rfl, rfl⟩; clear LG)
        | (go_at_call 10; refine (puts_any q cap l0 HN.out w S0.out.p).mono ?_; rintro e w2 ⟨v, rfl, ho, hb⟩
           obtain ⟨lp, lc, rfl, -, -, hr, -⟩ := ho.rows elemPut.len
           have L2 := Lib.hid hr
           have S2 := Lib.hid (S0.out.below hb)
           clear ho hb hr S0)
        | (go_at_call 9; refine (EC.out lp lc w2 S2.out L2.out).mono ?_; rintro e w3 ⟨hs, hb⟩
           unfold EncSays at hs
           obtain ⟨-, rfl⟩ := hs.resolve_left (fun h => HGD.out h.1)
           have S3 := Lib.hid (S2.out.below hb)
           clear hs hb EC L2 S2)
        | (go_at_call 9; refine (OC.out w3 S3.out).mono ?_; rintro e w4 ⟨⟨B1, c1, rfl, hc⟩, hb⟩
           have S4 := Lib.hid (S3.out.below hb)
           clear hb OC S3 hc))
      go_ret
      exact ⟨rfl, S4.out.b⟩
  · have LG := Lib.hid (fun W => large_yes kp n kc q l0.length cap hlg W)
    clear hS hlg
    go_enter Tryd.func21, Tryd.ntmps21
    go_wp2_with (first
      | (go_at_call 8; refine (LG.out _).mono ?_; rintro e w1 ⟨rfl, rfl⟩; clear LG))
    go_ret
    exact ⟨rfl, HB0.out⟩
set_option maxRecDepth 100000 in
set_option maxHeartbeats 1000000 in
theorem walk {B0 : Prop} (kp : Option Addr) (n kc : Nat) (g : Nat → Nat) (z : Int) (q : Option Addr) (l0 : List RowOf) (cap : Nat) (m : Int) (hwz : (Lit.int .i64 z).wf = true) (_ : B0) (w : World) (hT : TabAt w) (hk : KeyOk w kp n kc g) (hp : RowsIn w q l0) :
    Calls Tryd.prog 5 #[.agg #[.slice kp n kc, .int .i64 z, .slice q l0.length cap, .int .i64 m]] w fun e w' => e = .returned (.bool true) ∧ Below w.heap.size w w' := by
  have b0 : Below w.heap.size w (w.alloc (.cells #[.slice kp n kc, .int .i64 z, .slice q l0.length cap, .int .i64 m] 53)) := (Below.refl _ w).alloc (Nat.le_refl _) _
  have hh := heap_alloc_new w (.cells #[.slice kp n kc, .int .i64 z, .slice q l0.length cap, .int .i64 m] 53)
  have c0 := cell_of_row _ _ 0 _ _ _ hh
  have c1 := cell_of_row _ _ 1 _ _ _ hh
  have c2 := cell_of_row _ _ 2 _ _ _ hh
  have c3 := cell_of_row _ _ 3 _ _ _ hh
  have AC := Lib.hid (back_any kp n kc g z q l0 cap m hwz _ ⟨hk.below b0, hT.on b0, hp.below b0, Below.refl _ _⟩)
  have HB := Lib.hid b0
  clear hk hp hT hwz hh b0
  go_enter Tryd.func5, Tryd.ntmps5
  go_wp2_with (first
    | (go_at_call 21; refine (AC.out).mono ?_; rintro e w1 ⟨rfl, hb⟩
       have B1 := Lib.hid (HB.out.trans (hb.mono HB.out.size))
       clear hb AC HB))
  go_ret
  exact ⟨rfl, B1.out⟩

theorem laidOut : laidOutB Tryd.prog = true := by kernel_rfl
set_option maxRecDepth 100000 in
theorem lifted (os : Os) (started : os.Started) (H : Type) (enc : TypeId × Value → H) :
    ReturnsInHanded {} Tryd.checked os 5 .any (fun w args => (Rows.redoReturnsSpec.pre enc Tryd.prog Tryd.f5 Rows.redoReturnsRow.domain false w args ∧ laidMetH Tryd.prog Rows.redoReturnsRow.laid w) ∧ sizedMet enc Tryd.prog Tryd.f5 (OpenSpec.ofChange Rows.redoReturnsSpec) false w args) (Rows.redoReturnsSpec.post enc Tryd.prog Tryd.f5 false true false false) := by
  refine returnsInHanded_of_change_and (C := Tryd.checked) (X := fun w _ => laidMetH Tryd.prog Rows.redoReturnsRow.laid w) (fun _ _ _ hh h => h.of_heap hh) own started (by kernel_rfl) Tryd.func5
    (ChangeSpec.witness_shaped (enc := enc) (C := Tryd.checked) (os := os) (X := fun w _ => laidMetH Tryd.prog Rows.redoReturnsRow.laid w) false (World.laidAll Tryd.prog os Rows.redoReturnsRow.laid) #[.agg #[.slice none 0 0, .int .i64 0, .slice none 0 0, .int .i64 0]] 8 (World.laidAll_os _ _ _)
      (World.shaped_of_ZipB (by kernel_rfl) (by kernel_rfl)) (by kernel_rfl) (by kernel_rfl) (by kernel_rfl)
      (by rw [MakeChecks.laidMetH_plain _ _ _ (by kernel_rfl)]; exact laidMet_laidAll _ (by kernel_rfl) (by kernel_rfl))) ?_
  intro W base args ds gs before hval0 hW hcnd hsz hL _
  have hT := tab_of_laid hL
  have hval : ∀ (j : Nat) t v, Tryd.f5.params[j]? = some t → args[j]? = some v → Value.okWide Tryd.prog W .any base t v := hval0
  have hW' := hW
  obtain ⟨p, q, hA0, hV, rfl, hfz, hnd⟩ := hW
  have hA : DataW.TrodAll enc Tryd.prog W 0 (fun _ => true) true Tryd.f5.params.toList args.toList ds p := hA0
  rw [Tryd.params5] at hA hval
  obtain ⟨v0, vs0, d0, ds0, p0, q0, hargs, rfl, rfl, h0, r0⟩ := trodAll_cons hA
  obtain ⟨rfl, rfl, rfl⟩ := trodAll_nil r0
  obtain rfl : args = #[v0] := by cases args; simp_all
  obtain ⟨rfl, rfl⟩ := trodVars_none hV
  have k0 := h0
  have lt0 : ∀ x ∈ p0, x.block < W.heap.size := by obtain ⟨m, hm⟩ := k0; exact DataW.trod_lt m _ _ _ hm
  obtain ⟨qa0, na0, ca0, ga0, z0, q0, l0, c0, m0, rfl, ka0, w0, y0, x0⟩ := open_entry (hval 0 53 v0 rfl rfl) h0
  clear hA0 hval0
  refine (walk qa0 na0 ca0 ga0 z0 q0 l0 c0 m0 w0 x0 W hT ka0 y0).mono fun e W' ⟨he, bel⟩ => ?_
  subst he
  exact ⟨_, rfl, _, _, _, [], _, [], hW', trodAll_mk1 (shut_bool Tryd.underlying4 _), (trodAll_cons_mk (Below.trod laidOut (by kernel_rfl) (of_decide_eq_true (by kernel_rfl)) k0 bel lt0) trodAll_mk0), rfl, bel.frame _, fun h => by cases h⟩

theorem over : Rows.redoReturnsRow.holds Tryd.pinned (OpenSpec.ofChange Rows.redoReturnsSpec) :=
  OpenClaim.holds_of_wide 5 Tryd.f5 rfl rfl rfl rfl rfl rfl rfl ⟨rfl, rfl, rfl, rfl, rfl⟩ rfl rfl rfl rfl rfl (by kernel_rfl) Tryd.func5 (by kernel_rfl)
    (of_decide_eq_true (by kernel_rfl)) (by unfold Func.isWrapper; first | (rw [if_pos (by decide +kernel)]; kernel_rfl) | (rw [if_neg (by decide +kernel)]; exact ⟨rfl, rfl⟩))
    (fun os started H enc _ => lifted os started H enc)

set_option maxRecDepth 100000 in
theorem proved : Rows.RedoReturnsCardSaid :=
  Claim7.holds_tied_plain_at .later [] [.data] true (true, "02ea7121c43e2a3ca2ba9c5335c4e2fd07ee2246b670e7239163a3305a411b98") true
    over (fun _ h => by cases h) (by kernel_rfl) (fun _ h => by cases h) redoReturns_row_tie rfl ⟨rfl, rfl⟩ (by kernel_rfl) rfl
    (fun f fn hf hfn => by
      obtain rfl : f = 5 := Option.some.inj ((show Tryd.prog.funcNamed "citadel/citadellaw10.RedoReturns" = some 5 by kernel_rfl).symm.trans hf) |>.symm
      obtain rfl : fn = Tryd.f5 := (Option.some.inj (Tryd.func5.symm.trans hfn)).symm
      exact ⟨by kernel_rfl, fun j t ht => by
        rw [Tryd.params5] at ht
        rcases j with _ | j
        · obtain rfl : t = 53 := by simpa using ht.symm
          exact (show Tryd.prog.wantsStandIn 53 = false by kernel_rfl)
        · simp at ht⟩)
    (by kernel_rfl)
end Go.Proofs.YtdeojhcfbiekmaaDoor.redoReturns
