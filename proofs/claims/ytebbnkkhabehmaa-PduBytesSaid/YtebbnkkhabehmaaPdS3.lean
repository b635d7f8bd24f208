/- pdu.Bytes: rows gathered in a list of one's own. Condition: Encode answers as asked. -/
import Derived.Test.YtebbnkkhabehmaaPdFrs
import Derived.Test.YtebbnkkhabehmaaPdS2
namespace Go.Proofs.Ytebbnkkhabehmaa
open Go.ChangeShapes Go.WideShapes Go.ChangeAt Go.RowKit
set_option linter.unusedVariables false
set_option linter.unusedSimpArgs false
theorem append_list2 {w : World} {base n : Nat} {v : Value} {xs : List Value} (ty : TypeId) (h : w.ownsRow base 22 1 v n xs) (B : Nat) (u : Value) (hB : w.cell? ⟨B, 0, none⟩ = some u) (hu : u.oneCell' = true) (hn : n ≤ 200000) (hbase : base ≤ w.heap.size) :
    ∃ v' w', (Builtin.append_ #[37, 37] ty #[v, .slice (some ⟨B, 0, none⟩) 1 1]).run Try.prog w = .ok v' w' ∧ w'.ownsRow base 22 1 v' (n + 1) (xs ++ [u]) ∧ w.grownBy w' v.ownBlock := by
  have hi := apart.listInfo
  have hb := apart.listBytes
  have hz := apart.listZero
  cases hq : Try.prog.info? 22 with
  | none => rw [hq] at hi; simp at hi
  | some i =>
    rw [hq] at hi hb hz
    obtain ⟨v', w', hr, ho, hg, _⟩ := run_append_own (P := Try.prog) (w := w) base 37 ty 22 i (.slice none 0 0) 1 24 Try.underlying37 hq (by simpa using hz) (by simpa using hi) (by simpa using hb) rfl (by omega) v n xs h ⟨B, 0, none⟩ 1 1 [u] rfl (fun j y hj => by
      rcases j with _ | j
      · simp only [List.getElem?_cons_zero, Option.some.injEq] at hj; subst hj; rw [addr_add]; exact hB
      · simp at hj) (fun y hy => by simp only [List.mem_singleton] at hy; subst hy; exact hu) (by simp only [maxLen]; omega) (by omega) hbase
    exact ⟨v', w', hr, ho, hg⟩
/-- A frame's bytes in a row of one's own. -/
structure Rw where
  f : Fr
  D : Nat
  C : Nat
  G : Nat → Nat
def Rw.v (r : Rw) : Value := .slice (some ⟨r.D, 0, none⟩) (8 + r.f.d) r.C
def Rw.Ok (W : World) (S : Nat) (r : Rw) : Prop := BlkR W r.D r.C r.G ∧ 8 + r.f.d ≤ r.C ∧ S ≤ r.D ∧ ∀ j, j < 8 + r.f.d → r.G j = r.f.T j
structure RwSt (V : World) (S : Nat) (v : Value) (R : List Rw) : Prop where
  own : V.ownsRow S 22 1 v R.length (R.map Rw.v)
  ok : ∀ r ∈ R, r.Ok V S
  ne : R.Pairwise fun a b => a.D ≠ b.D
theorem RwSt.below {V V' : World} {S : Nat} {v : Value} {R : List Rw} (h : RwSt V S v R) (hb : Below V.heap.size V V') : RwSt V' S v R where
  own := apart.owns_below h.own (fun B _ hB => hb.block B hB)
  ok r hr := by obtain ⟨h1, h2⟩ := h.ok r hr; exact ⟨h1.below hb h1.lt, h2⟩
  ne := h.ne
theorem RwSt.nil (V : World) (S : Nat) : RwSt V S (.slice none 0 0) [] where
  own := ⟨rfl, .inl ⟨rfl, rfl⟩⟩
  ok r hr := by simp at hr
  ne := List.Pairwise.nil
theorem RwSt.slice {V : World} {S : Nat} {v : Value} {R : List Rw} (h : RwSt V S v R) : ∃ p c, v = .slice p R.length c := by
  rcases h.own.2 with ⟨h1, h2⟩ | ⟨g, c, cur, h1, _⟩
  · exact ⟨none, 0, by rw [h1, h2]⟩
  · exact ⟨_, c, h1⟩
theorem own_list {V : World} {S n : Nat} {v : Value} {xs : List Value} (h : V.ownsRow S 22 1 v n xs) {B : Nat} (hB : v.ownBlock = some B) : ∃ cur, V.heap[B]? = some (.cells cur 22 (0, 0)) := by
  rcases h.2 with ⟨rfl, _⟩ | ⟨g, c, cur, rfl, _, h3, _⟩
  · simp [Value.ownBlock] at hB
  · simp only [Value.ownBlock, Option.some.injEq] at hB
    subst hB
    exact ⟨cur, h3⟩
theorem RwSt.append {V : World} {S : Nat} {v : Value} {R : List Rw} (h : RwSt V S v R) (r : Rw) (hr : r.Ok V S) (hn : ∀ x ∈ R, x.D ≠ r.D) (hS : S ≤ V.heap.size) (hR : R.length ≤ 200000) (ty : TypeId) :
    ∃ v' w', (Builtin.append_ #[37, 37] ty #[v, .slice (some ⟨V.heap.size, 0, none⟩) 1 1]).run Try.prog (V.alloc (.cells #[r.v] 22)) = .ok v' w' ∧ RwSt w' S v' (R ++ [r]) ∧ Below S V w' := by
  have a1 : Below V.heap.size V (V.alloc (.cells #[r.v] 22)) := (Below.refl _ _).alloc (Nat.le_refl _) _
  have h1 := h.below a1
  obtain ⟨v', w', hr', ho, hg⟩ := append_list2 ty h1.own V.heap.size r.v (cell_of_one (heap_alloc_new V (.cells #[r.v] 22))) rfl hR (by rw [World.size_alloc]; omega)
  have far : ∀ x : Rw, x.Ok (V.alloc (.cells #[r.v] 22)) S → x.Ok w' S := fun x hx => by
    obtain ⟨⟨Rm, hRm, hI⟩, h2⟩ := hx
    refine ⟨⟨Rm, hRm, (hg.block x.D hI.lt (fun e => ?_)).trans hI⟩, h2⟩
    obtain ⟨cur, hc⟩ := own_list h1.own e.symm
    exact apart.list_ne hc hI rfl
  have hb2 : Below S (V.alloc (.cells #[r.v] 22)) w' := below_own hg (fun B hB => (h1.own.lt B hB).1) (by rw [World.size_alloc]; omega)
  refine ⟨v', w', hr', ⟨?_, fun x hx => ?_, ?_⟩, (a1.mono hS).trans hb2⟩
  · rw [List.length_append, List.map_append]; exact ho
  · rcases List.mem_append.1 hx with hx | hx
    · exact far x (h1.ok x hx)
    · obtain rfl := List.mem_singleton.1 hx
      obtain ⟨q1, q2⟩ := hr
      exact far _ ⟨q1.below a1 q1.lt, q2⟩
  · exact List.pairwise_append.2 ⟨h.ne, List.pairwise_singleton _ _, fun a ha b hb => by
      obtain rfl := List.mem_singleton.1 hb; exact hn a ha⟩
theorem RwSt.out {V : World} {S : Nat} {v : Value} {R : List Rw} (h : RwSt V S v R) (h0 : R ≠ []) : ∃ LB LS D C G c, v = .slice (some ⟨LB, 0, none⟩) R.length c ∧ Out V S LB LS (R.map Rw.f) D C G := by
  obtain ⟨h1, h2⟩ := h.own
  rcases h2 with ⟨_, h2⟩ | ⟨g, c, cur, rfl, hg, hh, hc, hm, hs, ht⟩
  · exact absurd (List.length_eq_zero_iff.1 h2) h0
  · have dm : Rw := ⟨frZ, 0, 0, zeroK⟩
    have at_ : ∀ i (hi : i < R.length), R[i]? = some (R[i]'hi) := fun i hi => List.getElem?_eq_getElem hi
    refine ⟨g, cur, fun i => (R.getD i dm).D, fun i => (R.getD i dm).C, fun i => (R.getD i dm).G, c, rfl, ⟨hh, fun i hi => ?_, fun i f hf => ?_, fun i j hi hj hij => ?_, hg⟩⟩
    · rw [List.length_map] at hi
      have e1 : (cur.toList.take (R.length * 1))[i]? = (R.map Rw.v)[i]? := by rw [ht]
      rw [Nat.mul_one, List.getElem?_take_of_lt hi, List.getElem?_map, at_ i hi] at e1
      simp only [List.getD_eq_getElem?_getD, List.getElem?_map, at_ i hi, Option.map_some, Option.getD_some]
      simpa [Rw.v] using e1
    · rw [List.getElem?_map] at hf
      obtain ⟨r, hr, rfl⟩ := Option.map_eq_some_iff.1 hf
      have := h.ok r (List.mem_of_getElem? hr)
      simp only [List.getD_eq_getElem?_getD, hr, Option.getD_some]
      exact this
    · rw [List.length_map] at hi hj
      have hp := List.pairwise_iff_getElem.1 h.ne
      simp only [List.getD_eq_getElem?_getD, at_ i hi, at_ j hj, Option.getD_some]
      rcases Nat.lt_or_ge i j with hlt | hge
      · exact hp i j hi hj hlt
      · exact (hp j i hj hi (by omega)).symm
theorem run_row1 (v : Value) (p : Option Addr) (n c : Nat) (hv : v = .slice p n c) (w : World) : (Instr.buildSlice 37 1 #[(0, v)]).run Try.prog w = .ok (.slice (some ⟨w.heap.size, 0, none⟩) 1 1) (w.alloc (.cells #[v] 22)) := by subst hv; simp [go_sem]
theorem wpList_row1 {ops : Array Oper} {rest : List Oper} {o : Oper} {a : Act} {w : World} {Q : Exit → Act → World → Prop} (hgd : o.guard = none) (x : Operand) (ho : o.op = .buildSlice 37 1 #[(0, x)]) (p : Option Addr) (n c : Nat) (hx : a.eval x = .slice p n c)
    (h : wpList Try.prog ops Q rest (a.put o.dst (.slice (some ⟨w.heap.size, 0, none⟩) 1 1)) (w.alloc (.cells #[.slice p n c] 22))) : wpList Try.prog ops Q (o :: rest) a w :=
  wpList_plain hgd fun K hK => by
    have e := run_row1 (.slice p n c) p n c rfl w
    unfold Oper.wp execOp
    simp only [ho]
    simp [hx, e]
    exact hK _ _ h
attribute [local irreducible] frA frT mk zeroK goodL
attribute [local go_sem] Oper.semAt_some
set_option maxRecDepth 100000 in
set_option maxHeartbeats 8000000 in
theorem Bytes_gathers {w : World} {q : Option Addr} {m cp : Nat} (L : List Fr) (hm : L.length = m) (hat : FrsAt w q L) (hok : ∀ f ∈ L, f.Ok w) (hl : m ≤ cp) (h5 : m ≤ 100000) : Calls Try.prog 21 #[.slice q m cp] w fun e w' => ∃ v R, e = .returned v ∧ R.map Rw.f = goodL L ∧ RwSt w' w.heap.size v R ∧ Below w.heap.size w w' := by
  have HAT := Lib.hid hat
  have HOK := Lib.hid hok
  have HL := Lib.hid hm
  have HM := Lib.hid h5
  clear hat hok hl h5
  go_enter Try.func21, Try.ntmps21
  go_wp2
  go_loopw [10, 3] (fun v v3 V => ∃ i : Nat, ∃ R, i ≤ m ∧ v = .int .i64 i ∧ R.map Rw.f = goodL (L.take i) ∧ RwSt V w.heap.size v3 R ∧ Below w.heap.size w V) (fun v _ _ => m - (intOf v).toNat)
  case atStart => exact ⟨0, [], Nat.zero_le _, rfl, by unfold goodL; simp, RwSt.nil _ _, Below.refl _ _⟩
  case round =>
    obtain ⟨i, R, hi, rfl, hR, hst, hU⟩ := hrel
    have U := Lib.hid hU
    have ST := Lib.hid hst
    clear hU hst
    by_cases hlt : i < m
    · have e1 : (i : Int) < (m : Int) := by omega
      have q1 : IntKind.i64.wrap ((i : Int) + 1) = (i : Int) + 1 := IntWalk.i64_in _ (by have := HM.out; omega)
      obtain ⟨f, hf⟩ : ∃ f, L[i]? = some f := ⟨L[i]'(by omega), List.getElem?_eq_getElem _⟩
      obtain ⟨B, o, rfl, hB, hr⟩ := frs_at HAT.out hf
      have hfo := HOK.out f (List.mem_of_getElem? hf)
      have HR := Lib.hid (rangeAt_below hr U.out hB)
      obtain ⟨pv, cv, hv⟩ := ST.out.slice
      have hRl : R.length ≤ m := by
        have h1 : R.length = (goodL (L.take i)).length := by rw [← hR, List.length_map]
        have h2 := goodL_len (L.take i)
        have h3 : (L.take i).length ≤ L.length := by rw [List.length_take]; omega
        omega
      subst hv
      by_cases hin : f.In
      · have HNX := Lib.hid (goodL_yes hf hin)
        obtain ⟨k, n, c, p, d, cd, g⟩ := f
        have EN := Lib.hid (fun (W : World) (h : Below w.heap.size w W) => Encode_ok (w := W) k n c (cd := cd) (show inF k n c d from hin) hfo.l (show BytesAt W p d g from hfo.at_.below h))
        clear hfo hf hr hB hin
        go_wp2_with (first
          | (with_reducible show wpList _ _ _ (⟨some 12, Op.indexAddr 50 _ _, _, _, _, _⟩ :: _) _ _
             refine wpList_fr_elem rfl _ _ rfl B o m cp i rfl rfl hlt ?_)
          | (with_reducible show wpList _ _ _ (⟨some 13, Op.load 24 _, _, _, _, _⟩ :: _) _ _
             refine wpList_fr_load rfl _ rfl B (o + 4 * i) rfl ⟨k, n, c, p, d, cd, g⟩ HR.out ?_)
          | (with_reducible show wpList _ _ _ (⟨some 5, Op.alloc 24, _, _, _, _⟩ :: _) _ _
             refine wpList_boxA_new rowFr rfl rfl _ rfl ?_
             intro wq xx ll ss
             have XX := Lib.hid xx
             have LL := Lib.hid ll
             clear xx ll ss)
          | (with_reducible show wpList _ _ _ (⟨_, Op.store 24 (.tmp 5) _, _, _, _, none⟩ :: _) _ _
             refine wpList_boxA_put rowFr rfl _ _ rfl rfl wr.heap.size (frA k n c p d cd) _ (frA_size _ _ _ _ _ _) (frA_one _ _ _ _ _ _) (frA_size _ _ _ _ _ _) rfl rfl XX.out ?_
             intro wa xx kk ss
             have bb := low_put LL.out (Nat.le_refl _) kk
             have UA := Lib.hid (U.out.trans (bb.mono U.out.size))
             have SA := Lib.hid (ST.out.below bb)
             have XA := Lib.hid xx
             clear kk ss XX LL U ST xx HR bb)
          | (with_reducible show wpList _ _ _ (⟨some 15, Op.load 24 _, _, _, _, _⟩ :: _) _ _
             refine wpList_boxA_loadw rowFr _ rfl rfl wr.heap.size (frA k n c p d cd) (frA_size _ _ _ _ _ _) rfl XA.out ?_)
          | (go_at_call 8
             refine (EN.out _ UA.out).mono ?_; rintro e wb ⟨D, C, G, rfl, b, fg, hc, hD, lb⟩
             have ub := UA.out.trans (lb.mono UA.out.size)
             have sb := SA.out.below lb
             have us := UA.out.size
             obtain ⟨v', w', r', s', l'⟩ := sb.append ⟨⟨k, n, c, p, d, cd, g⟩, D, C, G⟩ ⟨b, hc, Nat.le_trans us hD, fg⟩ (fun x hx => by
               have := (SA.out.ok x hx).1.lt
               show x.D ≠ D
               omega) ub.size (by have := HM.out; omega) 37
             have RR := Lib.hid r'
             have SS := Lib.hid s'
             have UU := Lib.hid (ub.trans l')
             obtain ⟨px, cx, hx⟩ := s'.slice
             subst hx
             clear b fg hc hD lb ub sb us r' s' l' UA SA XA EN)
          | (with_reducible show wpList _ _ _ (⟨some 23, Op.buildSlice _ _ _, _, _, _, _⟩ :: _) _ _
             refine wpList_row1 rfl _ rfl (some ⟨D, 0, none⟩) (8 + d) C rfl ?_)
          | (with_reducible show wpList _ _ _ (⟨some 24, Op.call _, _, _, _, _⟩ :: _) _ _
             refine wpList_append rfl _ _ _ _ rfl _ _ rfl rfl _ _ RR.out ?_
             clear RR))
        go_roundw
        case rel => exact ⟨i + 1, R ++ [⟨⟨k, n, c, p, d, cd, g⟩, D, C, G⟩], by omega, by go_num, by rw [List.map_append, hR, HNX.out]; rfl, by have h := SS.out; rw [List.length_append] at h; exact h, UU.out⟩
        case measure => simp [intOf]; omega
      · have HNX := Lib.hid (goodL_no hf hin)
        obtain ⟨k, n, c, p, d, cd, g⟩ := f
        have EN := Lib.hid (fun (W : World) => Encode_no (w := W) k n c p d cd hin)
        clear hfo hf hr hB hin
        go_wp2_with (first
          | (with_reducible show wpList _ _ _ (⟨some 12, Op.indexAddr 50 _ _, _, _, _, _⟩ :: _) _ _
             refine wpList_fr_elem rfl _ _ rfl B o m cp i rfl rfl hlt ?_)
          | (with_reducible show wpList _ _ _ (⟨some 13, Op.load 24 _, _, _, _, _⟩ :: _) _ _
             refine wpList_fr_load rfl _ rfl B (o + 4 * i) rfl ⟨k, n, c, p, d, cd, g⟩ HR.out ?_)
          | (with_reducible show wpList _ _ _ (⟨some 5, Op.alloc 24, _, _, _, _⟩ :: _) _ _
             refine wpList_boxA_new rowFr rfl rfl _ rfl ?_
             intro wq xx ll ss
             have XX := Lib.hid xx
             have LL := Lib.hid ll
             clear xx ll ss)
          | (with_reducible show wpList _ _ _ (⟨_, Op.store 24 (.tmp 5) _, _, _, _, none⟩ :: _) _ _
             refine wpList_boxA_put rowFr rfl _ _ rfl rfl wr.heap.size (frA k n c p d cd) _ (frA_size _ _ _ _ _ _) (frA_one _ _ _ _ _ _) (frA_size _ _ _ _ _ _) rfl rfl XX.out ?_
             intro wa xx kk ss
             have bb := low_put LL.out (Nat.le_refl _) kk
             have UA := Lib.hid (U.out.trans (bb.mono U.out.size))
             have SA := Lib.hid (ST.out.below bb)
             have XA := Lib.hid xx
             clear kk ss XX LL U ST xx HR bb)
          | (with_reducible show wpList _ _ _ (⟨some 15, Op.load 24 _, _, _, _, _⟩ :: _) _ _
             refine wpList_boxA_loadw rowFr _ rfl rfl wr.heap.size (frA k n c p d cd) (frA_size _ _ _ _ _ _) rfl XA.out ?_)
          | (go_at_call 8
             refine (EN.out _).mono ?_; rintro e wb ⟨rfl, lb⟩
             have UB := Lib.hid (UA.out.trans (lb.mono UA.out.size))
             have SB := Lib.hid (SA.out.below lb)
             clear lb UA SA XA EN))
        go_roundw
        case rel => exact ⟨i + 1, R, by omega, by go_num, by rw [HNX.out]; exact hR, SB.out, UB.out⟩
        case measure => simp [intOf]; omega
    · have e1 : ¬ (i : Int) < (m : Int) := by omega
      rw [goodL_all (by omega)] at hR
      obtain ⟨pv, cv, hv⟩ := ST.out.slice
      subst hv
      go_wp2
      go_ret
      exact ⟨_, rfl, R, hR, ST.out, U.out⟩
theorem Bytes_any {W : World} {q : Option Addr} {L : List Fr} {cp : Nat} (hc : L.length ≤ cp) (h5 : L.length ≤ 100000) (hat : FrsAt W q L) (hok : ∀ f ∈ L, f.Ok W) :
    Calls Try.prog 21 #[.slice q L.length cp] W fun e W' => (L.filter (fun f => decide f.In) = [] ∧ (∃ p c, e = .returned (.slice p 0 c)) ∧ Below W.heap.size W W') ∨
      ∃ LB LS D C G c, e = .returned (.slice (some ⟨LB, 0, none⟩) (L.filter (fun f => decide f.In)).length c) ∧ Out W' W.heap.size LB LS (L.filter (fun f => decide f.In)) D C G ∧ Below W.heap.size W W' := by
  refine (Bytes_gathers L rfl hat hok hc h5).mono ?_
  rintro e W' ⟨v, R, rfl, hR, st, l⟩
  have hg : L.filter (fun f => decide f.In) = R.map Rw.f := by rw [hR]; unfold goodL; rfl
  rw [hg]
  by_cases h0 : R = []
  · subst h0
    obtain ⟨p, c, rfl⟩ := st.slice
    exact .inl ⟨rfl, ⟨p, c, rfl⟩, l⟩
  · obtain ⟨LB, LS, D, C, G, c, rfl, o⟩ := st.out h0
    exact .inr ⟨LB, LS, D, C, G, c, by rw [List.length_map], o, l⟩
end Go.Proofs.Ytebbnkkhabehmaa
