/- With another key an entry is none, but where its tag is the same, of any two keys, count and rows: the statement RedoApart, tied to the program's text. No condition. -/
import Derived.Test.YtdeojhcfbiekmaaDoorRdLaw
import Derived.Test.YtdeojhcfbiekmaaDoorRdOpen
namespace Go.Proofs.YtdeojhcfbiekmaaDoor.redoApart
open Go.ChangeShapes Go.WideShapes Go.ChangeAt Go.RowKit
set_option linter.unusedVariables false

theorem own : ownKnob Tryd.prog.godebug = none := by kernel_rfl
theorem gives_sec_eql2 {o : Oper} {a : Act} {C : World → Prop} {K : Act → Prop} (x y : Operand) (ho : o.op = .binOp .eql 31 x y 31) (c d : List Int) (hx : a.eval x = secVal c) (hy : a.eval y = secVal d) (v : Bool) (hv : sameSec c d = v) (hk : K (a.put o.dst (.bool v))) : ∃ v, Gives Tryd.prog C o a v ∧ K (a.put o.dst v) :=
  ⟨_, fun w _ => by subst hv; exact exec_sec_eql x y ho c d hx hy w, hk⟩
theorem gives_bool_eql {o : Oper} {a : Act} {C : World → Prop} {K : Act → Prop} (x y : Operand) (ho : o.op = .binOp .eql 4 x y 4) (b c : Bool) (hx : a.eval x = .bool b) (hy : a.eval y = .bool c) (v : Bool) (hv : (b == c) = v) (hk : K (a.put o.dst (.bool v))) : ∃ v, Gives Tryd.prog C o a v ∧ K (a.put o.dst v) :=
  ⟨.bool v, fun w _ => by
    subst hv
    unfold execOp
    simp only [ho, hx, hy]
    simp [go_sem], hk⟩
/-- What stands between two calls. -/
structure St (w0 : World) (kp : Option Addr) (n kc : Nat) (g : Nat → Nat) (op : Option Addr) (n2 oc : Nat) (g2 : Nat → Nat) (q : Option Addr) (l0 : List RowOf) (W : World) : Prop where
  k : KeyOk W kp n kc g
  o : KeyOk W op n2 oc g2
  t : TabAt W
  p : RowsIn W q l0
  b : Below w0.heap.size w0 W
theorem St.below {w0 W W' : World} {kp op q : Option Addr} {n kc n2 oc : Nat} {g g2 : Nat → Nat} {l0 : List RowOf} (h : St w0 kp n kc g op n2 oc g2 q l0 W) (hb : Below W.heap.size W W') : St w0 kp n kc g op n2 oc g2 q l0 W' :=
  ⟨h.k.below hb, h.o.below hb, h.t.on hb, h.p.below hb, h.b.trans (hb.mono h.b.size)⟩
theorem enc_tag (τ : List Int → List Int) (count : Int) (l : List PutOf) : (encL τ count l).getD 1 [] = padS (τ (textL (firstL count l) l)) := rfl
attribute [local irreducible] putC natF putsL encL goodE tauK secC padS textL firstL decE sameSec
set_option maxRecDepth 100000 in
set_option maxHeartbeats 4000000 in
theorem apart_any (kp : Option Addr) (n kc : Nat) (g : Nat → Nat) (op : Option Addr) (n2 oc : Nat) (g2 : Nat → Nat) (count : Int) (q : Option Addr) (l0 : List RowOf) (cap : Nat) (hwc : (Lit.int .i64 count).wf = true) (w : World) (hS : St w kp n kc g op n2 oc g2 q l0 w) :
    Calls Tryd.prog 23 #[.slice kp n kc, .slice op n2 oc, .int .i64 count, .slice q l0.length cap] w fun e w' => e = .returned (.bool true) ∧ Below w.heap.size w w' := by
  have HB0 := Lib.hid (Below.refl w.heap.size w)
  by_cases hlg : n ≤ 1000 ∧ l0.length ≤ 70
  · obtain ⟨hn, hl⟩ := hlg
    have LG := Lib.hid (fun W => large_no kp n kc q l0.length cap hn hl W)
    by_cases hn2 : n2 ≤ 1000
    · have d1 : decide ((1000 : Int) < (n2 : Int)) = false := decide_eq_false (by omega)
      have d2 : decide (1000 < n2) = false := decide_eq_false (by omega)
      have bz := bounds_i64 hwc
      have OC := Lib.hid (fun W hT => one_any none 0 0 (fun _ => 0) (by decide) (Nat.le_refl _) (fun i hi => absurd hi (Nat.not_lt_zero _)) W hT (.inl rfl))
      have HOK := Lib.hid (putsL_ok hS.p)
      have HAT := Lib.hid (putsL_ats hS.p)
      have HNP := Lib.hid (show (putsL l0).length ≤ 70 by rw [putsL_len]; exact hl)
      have HN := Lib.hid (show l0.length ≤ 1000 by omega)
      have EC := Lib.hid (fun (q' : Option Addr) (c' : Nat) (W : World) (hs : St w kp n kc g op n2 oc g2 q l0 W) hp => Encode_any kp n kc g (by omega) hs.k.cap hs.k.lt count q' c' (putsL l0) (by have := HNP.out; omega) HAT.out HOK.out W hs.t hs.k.at' hp)
      have EO := Lib.hid (fun (q' : Option Addr) (c' : Nat) (W : World) (hs : St w kp n kc g op n2 oc g2 q l0 W) hp => Encode_any op n2 oc g2 (by omega) hs.o.cap hs.o.lt count q' c' (putsL l0) (by have := HNP.out; omega) HAT.out HOK.out W hs.t hs.o.at' hp)
      have HEL := Lib.hid (encL_len (tauK n g) count (putsL l0))
      have HEL2 := Lib.hid (encL_len (tauK n2 g2) count (putsL l0))
      have HES := Lib.hid (encL_sec (τ := tauK n g) (tauK_bytes n g) (count := count) HOK.out)
      have DC := Lib.hid (fun (q' : Option Addr) (c' : Nat) (W : World) (hs : St w kp n kc g op n2 oc g2 q l0 W) hp => Decode_any op n2 oc g2 (by omega) hs.o.cap hs.o.lt q' c' (encL (tauK n g) count (putsL l0)) HES.out (by rw [HEL.out]; have := HNP.out; omega) W hs.t hs.o.at' hp)
      have DO := Lib.hid (fun (hgd : goodE count (putsL l0)) => dec_other (tauK n g) (tauK n2 g2) hgd (by omega))
      have ET := Lib.hid (enc_tag (tauK n g) count (putsL l0))
      have ET2 := Lib.hid (enc_tag (tauK n2 g2) count (putsL l0))
      have HSS := Lib.hid (sameSec_iff (padS_sec (tauK_bytes n g (textL (firstL count (putsL l0)) (putsL l0)))) (padS_sec (tauK_bytes n2 g2 (textL (firstL count (putsL l0)) (putsL l0)))))
      have S0 := Lib.hid hS
      clear hS hn hl hn2 hwc bz
      by_cases hgd : goodE count (putsL l0)
      · have HGD := Lib.hid hgd
        clear hgd
        by_cases ht : padS (tauK n g (textL (firstL count (putsL l0)) (putsL l0))) = padS (tauK n2 g2 (textL (firstL count (putsL l0)) (putsL l0)))
        · have HT := Lib.hid ht
          clear ht
          go_enter Tryd.func23, Tryd.ntmps23
          go_wp2_with (first
            | (go_at_call 8; refine (LG.out _).mono ?_; rintro e w1 ⟨rfl, rfl⟩; clear LG)
            | (go_at_call 9; refine (OC.out w S0.out.t).mono ?_; rintro e w1 ⟨⟨B1, c1, rfl, hc⟩, hb⟩
               have S1 := Lib.hid (S0.out.below hb)
               clear hb OC S0 hc)
            | (go_at_call 10; refine (puts_any q cap l0 HN.out w1 S1.out.p).mono ?_; rintro e w2 ⟨v, rfl, ho, hb⟩
               obtain ⟨lp, lc, rfl, _, _, hr, _⟩ := ho.rows elemPut.len
               have L2 := Lib.hid hr
               have S2 := Lib.hid (S1.out.below hb)
               clear ho hb hr S1)
            | (go_at_call 9; refine (EC.out lp lc w2 S2.out L2.out).mono ?_; rintro e w3 ⟨hs, hb⟩
               unfold EncSays at hs
               obtain ⟨_, XB, xc, rfl, _, _, hr⟩ := hs.resolve_right (fun h => h.1 HGD.out)
               rw [HEL.out]
               have X3 := Lib.hid hr
               have S3 := Lib.hid (S2.out.below hb)
               clear hs hb EC L2 S2 hr)
            | (go_at_call 10; refine (puts_any q cap l0 HN.out w3 S3.out.p).mono ?_; rintro e w4 ⟨v, rfl, ho, hb⟩
               obtain ⟨mp, mc, rfl, _, _, hr, _⟩ := ho.rows elemPut.len
               have L4 := Lib.hid hr
               have S4 := Lib.hid (S3.out.below hb)
               have X4 := Lib.hid (X3.out.below hb)
               clear ho hb hr S3 X3)
            | (go_at_call 9; refine (EO.out mp mc w4 S4.out L4.out).mono ?_; rintro e w5 ⟨hs, hb⟩
               unfold EncSays at hs
               obtain ⟨_, YB, yc, rfl, _, _, hr⟩ := hs.resolve_right (fun h => h.1 HGD.out)
               rw [HEL2.out]
               have Y5 := Lib.hid hr
               have S5 := Lib.hid (S4.out.below hb)
               have X5 := Lib.hid (X4.out.below hb)
               clear hs hb EO L4 S4 hr X4)
            | (go_at_call 17
               have DD := DC.out (some ⟨XB, 0, none⟩) xc w5 S5.out X5.out
               rw [HEL.out] at DD
               refine DD.mono ?_; rintro e w6 ⟨hs, hb⟩
               clear DD
               rw [DO.out HGD.out, if_pos HT.out] at hs
               obtain ⟨pp, pcap, rfl, hpr⟩ := hs
               have Y6 := Lib.hid (Y5.out.below hb)
               have S6 := Lib.hid (S5.out.below hb)
               have X6 := Lib.hid (X5.out.below hb)
               clear hb DC S5 Y5 X5))
          obtain ⟨XB', xo, hxe, hXB, hxr⟩ := secsAt_get X6.out (k := 1) (by rw [HEL.out]; omega)
          cases hxe
          obtain ⟨YB', yo, hye, hYB, hyr⟩ := secsAt_get Y6.out (k := 1) (by rw [HEL2.out]; omega)
          cases hye
          rw [ET.out] at hxr
          rw [ET2.out] at hyr
          have k0 : Below w6.heap.size w6 w6.drew := (Below.refl _ w6).drew
          have HXR := Lib.hid (fun W (h : Below w6.heap.size w6 W) => rangeAt_below hxr h hXB)
          have HYR := Lib.hid (fun W (h : Below w6.heap.size w6 W) => rangeAt_below hyr h hYB)
          have HSB := Lib.hid (show sameSec (padS (tauK n g (textL (firstL count (putsL l0)) (putsL l0)))) (padS (tauK n2 g2 (textL (firstL count (putsL l0)) (putsL l0)))) = true from HSS.out.2 HT.out)
          clear hxr hyr hXB hYB X6 Y6
          generalize padS (tauK n g (textL (firstL count (putsL l0)) (putsL l0))) = tx at *
          generalize padS (tauK n2 g2 (textL (firstL count (putsL l0)) (putsL l0))) = ty at *
          refine wp_region_sched [(0, true), (1, true), (2, true), (3, true), (4, true), (5, true), (6, true), (7, true), (8, true), (9, true)] (fun W => Below w6.heap.size w6 W) (by kernel_rfl) (by kernel_rfl) k0 ?_
          iterate 10 (
            refine walk_float rfl rfl (fun K hK => ?_)
            first
              | (refine gives_move _ rfl ?_)
              | (refine gives_sec_elem _ _ rfl XB 0 _ xc 1 rfl rfl (by omega) ?_)
              | (refine gives_sec_elem _ _ rfl YB 0 _ yc 1 rfl rfl (by omega) ?_)
              | (refine gives_sec_mid _ rfl XB 128 rfl tx HXR.out ?_)
              | (refine gives_sec_mid _ rfl YB 128 rfl ty HYR.out ?_)
              | (refine gives_sec_eql2 _ _ rfl tx ty rfl rfl _ HSB.out ?_)
              | (refine gives_bool_eql _ _ rfl _ _ rfl rfl true rfl ?_)
              | (refine gives_assign _ rfl ?_)
            go_simp
            refine hK _ ?_
            clear hK K)
          refine walk_nil ?_
          go_wp2
          go_ret
          exact ⟨rfl, S6.out.b.trans (k0.mono S6.out.b.size)⟩
        · have HT := Lib.hid ht
          clear ht
          go_enter Tryd.func23, Tryd.ntmps23
          go_wp2_with (first
            | (go_at_call 8; refine (LG.out _).mono ?_; rintro e w1 ⟨rfl, rfl⟩; clear LG)
            | (go_at_call 9; refine (OC.out w S0.out.t).mono ?_; rintro e w1 ⟨⟨B1, c1, rfl, hc⟩, hb⟩
               have S1 := Lib.hid (S0.out.below hb)
               clear hb OC S0 hc)
            | (go_at_call 10; refine (puts_any q cap l0 HN.out w1 S1.out.p).mono ?_; rintro e w2 ⟨v, rfl, ho, hb⟩
               obtain ⟨lp, lc, rfl, _, _, hr, _⟩ := ho.rows elemPut.len
               have L2 := Lib.hid hr
               have S2 := Lib.hid (S1.out.below hb)
               clear ho hb hr S1)
            | (go_at_call 9; refine (EC.out lp lc w2 S2.out L2.out).mono ?_; rintro e w3 ⟨hs, hb⟩
               unfold EncSays at hs
               obtain ⟨_, XB, xc, rfl, _, _, hr⟩ := hs.resolve_right (fun h => h.1 HGD.out)
               rw [HEL.out]
               have X3 := Lib.hid hr
               have S3 := Lib.hid (S2.out.below hb)
               clear hs hb EC L2 S2 hr)
            | (go_at_call 10; refine (puts_any q cap l0 HN.out w3 S3.out.p).mono ?_; rintro e w4 ⟨v, rfl, ho, hb⟩
               obtain ⟨mp, mc, rfl, _, _, hr, _⟩ := ho.rows elemPut.len
               have L4 := Lib.hid hr
               have S4 := Lib.hid (S3.out.below hb)
               have X4 := Lib.hid (X3.out.below hb)
               clear ho hb hr S3 X3)
            | (go_at_call 9; refine (EO.out mp mc w4 S4.out L4.out).mono ?_; rintro e w5 ⟨hs, hb⟩
               unfold EncSays at hs
               obtain ⟨_, YB, yc, rfl, _, _, hr⟩ := hs.resolve_right (fun h => h.1 HGD.out)
               rw [HEL2.out]
               have Y5 := Lib.hid hr
               have S5 := Lib.hid (S4.out.below hb)
               have X5 := Lib.hid (X4.out.below hb)
               clear hs hb EO L4 S4 hr X4)
            | (go_at_call 17
               have DD := DC.out (some ⟨XB, 0, none⟩) xc w5 S5.out X5.out
               rw [HEL.out] at DD
               refine DD.mono ?_; rintro e w6 ⟨hs, hb⟩
               clear DD
               rw [DO.out HGD.out, if_neg HT.out] at hs
               obtain rfl := hs
               have Y6 := Lib.hid (Y5.out.below hb)
               have S6 := Lib.hid (S5.out.below hb)
               have X6 := Lib.hid (X5.out.below hb)
               clear hb DC S5 Y5 X5))
          obtain ⟨XB', xo, hxe, hXB, hxr⟩ := secsAt_get X6.out (k := 1) (by rw [HEL.out]; omega)
          cases hxe
          obtain ⟨YB', yo, hye, hYB, hyr⟩ := secsAt_get Y6.out (k := 1) (by rw [HEL2.out]; omega)
          cases hye
          rw [ET.out] at hxr
          rw [ET2.out] at hyr
          have k0 : Below w6.heap.size w6 w6.drew := (Below.refl _ w6).drew
          have HXR := Lib.hid (fun W (h : Below w6.heap.size w6 W) => rangeAt_below hxr h hXB)
          have HYR := Lib.hid (fun W (h : Below w6.heap.size w6 W) => rangeAt_below hyr h hYB)
          have HSB := Lib.hid (show sameSec (padS (tauK n g (textL (firstL count (putsL l0)) (putsL l0)))) (padS (tauK n2 g2 (textL (firstL count (putsL l0)) (putsL l0)))) = false from by
              cases h : sameSec (padS (tauK n g (textL (firstL count (putsL l0)) (putsL l0)))) (padS (tauK n2 g2 (textL (firstL count (putsL l0)) (putsL l0)))) with
              | true => exact absurd (HSS.out.1 h) HT.out
              | false => rfl)
          clear hxr hyr hXB hYB X6 Y6
          generalize padS (tauK n g (textL (firstL count (putsL l0)) (putsL l0))) = tx at *
          generalize padS (tauK n2 g2 (textL (firstL count (putsL l0)) (putsL l0))) = ty at *
          refine wp_region_sched [(0, true), (1, true), (2, true), (3, true), (4, true), (5, true), (6, true), (7, true), (8, true), (9, true)] (fun W => Below w6.heap.size w6 W) (by kernel_rfl) (by kernel_rfl) k0 ?_
          iterate 10 (
            refine walk_float rfl rfl (fun K hK => ?_)
            first
              | (refine gives_move _ rfl ?_)
              | (refine gives_sec_elem _ _ rfl XB 0 _ xc 1 rfl rfl (by omega) ?_)
              | (refine gives_sec_elem _ _ rfl YB 0 _ yc 1 rfl rfl (by omega) ?_)
              | (refine gives_sec_mid _ rfl XB 128 rfl tx HXR.out ?_)
              | (refine gives_sec_mid _ rfl YB 128 rfl ty HYR.out ?_)
              | (refine gives_sec_eql2 _ _ rfl tx ty rfl rfl _ HSB.out ?_)
              | (refine gives_bool_eql _ _ rfl _ _ rfl rfl true rfl ?_)
              | (refine gives_assign _ rfl ?_)
            go_simp
            refine hK _ ?_
            clear hK K)
          refine walk_nil ?_
          go_wp2
          go_ret
          exact ⟨rfl, S6.out.b.trans (k0.mono S6.out.b.size)⟩
      · have HGD := Lib.hid hgd
        clear hgd
        go_enter Tryd.func23, Tryd.ntmps23
        go_wp2_with (first
          | (go_at_call 8; refine (LG.out _).mono ?_; rintro e w1 ⟨rfl, rfl⟩; clear LG)
          | (go_at_call 9; refine (OC.out w S0.out.t).mono ?_; rintro e w1 ⟨⟨B1, c1, rfl, hc⟩, hb⟩
             have S1 := Lib.hid (S0.out.below hb)
             clear hb OC S0 hc)
          | (go_at_call 10; refine (puts_any q cap l0 HN.out w1 S1.out.p).mono ?_; rintro e w2 ⟨v, rfl, ho, hb⟩
             obtain ⟨lp, lc, rfl, _, _, hr, _⟩ := ho.rows elemPut.len
             have L2 := Lib.hid hr
             have S2 := Lib.hid (S1.out.below hb)
             clear ho hb hr S1)
          | (go_at_call 9; refine (EC.out lp lc w2 S2.out L2.out).mono ?_; rintro e w3 ⟨hs, hb⟩
             unfold EncSays at hs
             obtain ⟨_, rfl⟩ := hs.resolve_left (fun h => HGD.out h.1)
             have S3 := Lib.hid (S2.out.below hb)
             clear hs hb EC L2 S2))
        go_ret
        exact ⟨rfl, S3.out.b⟩
    · have d1 : decide ((1000 : Int) < (n2 : Int)) = true := decide_eq_true (by omega)
      have d2 : decide (1000 < n2) = true := decide_eq_true (by omega)
      clear hS hn hl hn2
      go_enter Tryd.func23, Tryd.ntmps23
      go_wp2_with (first
        | (go_at_call 8; refine (LG.out _).mono ?_; rintro e w1 ⟨rfl, rfl⟩; clear LG))
      go_ret
      exact ⟨rfl, HB0.out⟩
  · have LG := Lib.hid (fun W => large_yes kp n kc q l0.length cap hlg W)
    clear hS hlg
    go_enter Tryd.func23, Tryd.ntmps23
    go_wp2_with (first
      | (go_at_call 8; refine (LG.out _).mono ?_; rintro e w1 ⟨rfl, rfl⟩; clear LG))
    go_ret
    exact ⟨rfl, HB0.out⟩
set_option maxRecDepth 100000 in
set_option maxHeartbeats 1000000 in
theorem walk (kp : Option Addr) (n kc : Nat) (g : Nat → Nat) (op : Option Addr) (n2 oc : Nat) (g2 : Nat → Nat) (count : Int) (q : Option Addr) (l0 : List RowOf) (cap : Nat) (hwc : (Lit.int .i64 count).wf = true) (w : World) (hT : TabAt w) (hk : KeyOk w kp n kc g) (ho : KeyOk w op n2 oc g2) (hp : RowsIn w q l0) :
    Calls Tryd.prog 7 #[.agg #[.slice kp n kc, .slice op n2 oc, .int .i64 count, .slice q l0.length cap]] w fun e w' => e = .returned (.bool true) ∧ Below w.heap.size w w' := by
  have b0 : Below w.heap.size w (w.alloc (.cells #[.slice kp n kc, .slice op n2 oc, .int .i64 count, .slice q l0.length cap] 63)) := (Below.refl _ w).alloc (Nat.le_refl _) _
  have hh := heap_alloc_new w (.cells #[.slice kp n kc, .slice op n2 oc, .int .i64 count, .slice q l0.length cap] 63)
  have c0 := cell_of_row _ _ 0 _ _ _ hh
  have c1 := cell_of_row _ _ 1 _ _ _ hh
  have c2 := cell_of_row _ _ 2 _ _ _ hh
  have c3 := cell_of_row _ _ 3 _ _ _ hh
  have AC := Lib.hid (apart_any kp n kc g op n2 oc g2 count q l0 cap hwc _ ⟨hk.below b0, ho.below b0, hT.on b0, hp.below b0, Below.refl _ _⟩)
  have HB := Lib.hid b0
  clear hk ho hp hT hwc hh b0
  go_enter Tryd.func7, Tryd.ntmps7
  go_wp2_with (first
    | (go_at_call 23; refine (AC.out).mono ?_; rintro e w1 ⟨rfl, hb⟩
       have B1 := Lib.hid (HB.out.trans (hb.mono HB.out.size))
       clear hb AC HB))
  go_ret
  exact ⟨rfl, B1.out⟩

theorem laidOut : laidOutB Tryd.prog = true := by kernel_rfl
set_option maxRecDepth 100000 in
theorem lifted (os : Os) (started : os.Started) (H : Type) (enc : TypeId × Value → H) :
    ReturnsInHanded {} Tryd.checked os 7 .any (fun w args => (Rows.redoApartSpec.pre enc Tryd.prog Tryd.f7 Rows.redoApartRow.domain false w args ∧ laidMetH Tryd.prog Rows.redoApartRow.laid w) ∧ sizedMet enc Tryd.prog Tryd.f7 (OpenSpec.ofChange Rows.redoApartSpec) false w args) (Rows.redoApartSpec.post enc Tryd.prog Tryd.f7 false true false false) := by
  refine returnsInHanded_of_change_and (C := Tryd.checked) (X := fun w _ => laidMetH Tryd.prog Rows.redoApartRow.laid w) (fun _ _ _ hh h => h.of_heap hh) own started (by kernel_rfl) Tryd.func7
    (ChangeSpec.witness_shaped (enc := enc) (C := Tryd.checked) (os := os) (X := fun w _ => laidMetH Tryd.prog Rows.redoApartRow.laid w) false (World.laidAll Tryd.prog os Rows.redoApartRow.laid) #[.agg #[.slice none 0 0, .slice none 0 0, .int .i64 0, .slice none 0 0]] 8 (World.laidAll_os _ _ _)
      (World.shaped_of_ZipB (by kernel_rfl) (by kernel_rfl)) (by kernel_rfl) (by kernel_rfl) (by kernel_rfl)
      (by rw [MakeChecks.laidMetH_plain _ _ _ (by kernel_rfl)]; exact laidMet_laidAll _ (by kernel_rfl) (by kernel_rfl))) ?_
  intro W base args ds gs before hval0 hW hcnd hsz hL _
  have hT := tab_of_laid hL
  have hval : ∀ (j : Nat) t v, Tryd.f7.params[j]? = some t → args[j]? = some v → Value.okWide Tryd.prog W .any base t v := hval0
  have hW' := hW
  obtain ⟨p, q, hA0, hV, rfl, hfz, hnd⟩ := hW
  have hA : DataW.TrodAll enc Tryd.prog W 0 (fun _ => true) true Tryd.f7.params.toList args.toList ds p := hA0
  rw [Tryd.params7] at hA hval
  obtain ⟨v0, vs0, d0, ds0, p0, q0, hargs, rfl, rfl, h0, r0⟩ := trodAll_cons hA
  obtain ⟨rfl, rfl, rfl⟩ := trodAll_nil r0
  obtain rfl : args = #[v0] := by cases args; simp_all
  obtain ⟨rfl, rfl⟩ := trodVars_none hV
  have k0 := h0
  have lt0 : ∀ x ∈ p0, x.block < W.heap.size := by obtain ⟨m, hm⟩ := k0; exact DataW.trod_lt m _ _ _ hm
  obtain ⟨qa0, na0, ca0, ga0, qb0, nb0, cb0, gb0, z0, q0, l0, c0, rfl, ka0, kb0, w0, y0⟩ := open_keyed (hval 0 63 v0 rfl rfl) h0
  clear hA0 hval0
  refine (walk qa0 na0 ca0 ga0 qb0 nb0 cb0 gb0 z0 q0 l0 c0 w0 W hT ka0 kb0 y0).mono fun e W' ⟨he, bel⟩ => ?_
  subst he
  exact ⟨_, rfl, _, _, _, [], _, [], hW', trodAll_mk1 (shut_bool Tryd.underlying4 _), (trodAll_cons_mk (Below.trod laidOut (by kernel_rfl) (of_decide_eq_true (by kernel_rfl)) k0 bel lt0) trodAll_mk0), rfl, bel.frame _, fun h => by cases h⟩

theorem over : Rows.redoApartRow.holds Tryd.pinned (OpenSpec.ofChange Rows.redoApartSpec) :=
  OpenClaim.holds_of_wide 7 Tryd.f7 rfl rfl rfl rfl rfl rfl rfl ⟨rfl, rfl, rfl, rfl, rfl⟩ rfl rfl rfl rfl rfl (by kernel_rfl) Tryd.func7 (by kernel_rfl)
    (of_decide_eq_true (by kernel_rfl)) (by unfold Func.isWrapper; first | (rw [if_pos (by decide +kernel)]; kernel_rfl) | (rw [if_neg (by decide +kernel)]; exact ⟨rfl, rfl⟩))
    (fun os started H enc _ => lifted os started H enc)

set_option maxRecDepth 100000 in
theorem proved : Rows.RedoApartCardSaid :=
  Claim7.holds_tied_plain_at .later [] [.data] true (true, "02ea7121c43e2a3ca2ba9c5335c4e2fd07ee2246b670e7239163a3305a411b98") true
    over (fun _ h => by cases h) (by kernel_rfl) (fun _ h => by cases h) redoApart_row_tie rfl ⟨rfl, rfl⟩ (by kernel_rfl) rfl
    (fun f fn hf hfn => by
      obtain rfl : f = 7 := Option.some.inj ((show Tryd.prog.funcNamed "citadel/citadellaw10.RedoApart" = some 7 by kernel_rfl).symm.trans hf) |>.symm
      obtain rfl : fn = Tryd.f7 := (Option.some.inj (Tryd.func7.symm.trans hfn)).symm
      exact ⟨by kernel_rfl, fun j t ht => by
        rw [Tryd.params7] at ht
        rcases j with _ | j
        · obtain rfl : t = 63 := by simpa using ht.symm
          exact (show Tryd.prog.wantsStandIn 63 = false by kernel_rfl)
        · simp at ht⟩)
    (by kernel_rfl)
end Go.Proofs.YtdeojhcfbiekmaaDoor.redoApart
