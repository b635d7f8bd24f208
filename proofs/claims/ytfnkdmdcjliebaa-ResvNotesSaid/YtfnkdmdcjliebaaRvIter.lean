/- The contracts of slices.Values over ints with its iterator, and of the program's Holders. Conditions: the reservations are in form. -/
import Derived.Test.YtfnkdmdcjliebaaRvHold
import Derived.OwnWalkIn
import Derived.TacticsInMore
namespace Go.Proofs.Ytfnkdmdcjliebaa
open Go.ChangeShapes Go.WideShapes Go.ChangeAt Go.RowKit
set_option linter.unusedVariables false
set_option linter.unusedSimpArgs false
section
variable {ops : Array Oper} {rest : List Oper} {o : Oper} {a : Act} {w : World} {Q : Exit → Act → World → Prop}
theorem wpList_box1 (hgd : o.guard = none) (T : TypeId) (x : Operand) (ho : o.op = .box T x) (v : Value) (hv : ∀ cs, v ≠ .agg cs) (hx : a.eval x = v)
    (h : ∀ w', BoxA w' w.heap.size T #[v] → Below w.heap.size w w' → w'.heap.size = w.heap.size + 1 → wpList Try.prog ops Q rest (a.put o.dst (.pointer (some ⟨w.heap.size, 0, none⟩))) w') : wpList Try.prog ops Q (o :: rest) a w :=
  wpList_plain hgd fun K hK => by
    unfold Oper.wp execOp
    simp only [ho, hx]
    simp [go_sem]
    cases v
    case agg cs => exact absurd rfl (hv cs)
    all_goals exact hK _ _ (h _ (BoxA.alloc w T _) ((Below.refl _ w).alloc (Nat.le_refl _) _) (World.size_alloc _ _))
end
theorem cell_frB {p : Addr} {V W : World} (h : V.heap[p.block]? = W.heap[p.block]?) : V.cell? p = W.cell? p := World.cell?_of_block h
attribute [local go_sem] Oper.semAt_some
set_option maxRecDepth 100000 in
set_option maxHeartbeats 4000000 in
theorem values_gives (D : Nat) (U : World) (p : Option Addr) (n c : Nat) (L : List Int) (hD : BoxA U D 65 #[.slice p n c]) (ho : RowsAt 1 intC U p L) (hn : L.length = n) (hl : n ≤ 1000) :
    GivesFr Fence.wide 2 Try.prog 58 #[.pointer (some ⟨D, 0, none⟩)] (fun z : Int => #[.int .i64 z]) (fun i => L.getD i 0) L.length (fun V => ∀ k, (k = D ∨ (AtB p k ∧ k < U.heap.size)) → V.heap[k]? = U.heap[k]?) := fun l J Jx W hR hJ hJx hY h0 => by
  refine callsIn_of_wp Try.func58 rfl trivial ?_ rfl
  simp only [Try.ntmps58, List.size_toArray, List.length_cons, List.length_nil, Nat.reduceAdd, Nat.reduceSub, Array.replicate_succ, Array.replicate_zero, List.push_toArray, List.append_toArray, List.nil_append, List.cons_append]
  have c0 : W.cell? ⟨D, 0, none⟩ = some (.slice p n c) := (cell_frB (p := ⟨D, 0, none⟩) (hR 0 W h0 D (.inl rfl))).trans (hD.cell 0)
  have HL := Lib.hid (fun V i (h : J i V) k (hk : k < L.length) => (show ∃ B o, p = some ⟨B, o, none⟩ ∧ V.cell? ⟨B, o + k, none⟩ = some (.int .i64 (L.getD k 0)) from by
    obtain ⟨B, o, rfl, h2, h3⟩ := int_row ho hk
    exact ⟨B, o, rfl, (cell_frB (p := ⟨B, o + k, none⟩) (hR i V h B (.inr ⟨⟨o, rfl⟩, h2⟩))).trans h3⟩))
  have HF := Lib.hid hl
  have HJ := Lib.hid hJ; have HY := Lib.hid hY; have H0 := Lib.hid h0
  clear hR hJ hJx hY h0 hD ho
  rw [hn] at HL HY
  rw [hn]
  clear hn
  gi_wp2
  gi_loopw [7, 4] (fun v7 _ wr => ∃ k : Nat, k ≤ n ∧ v7 = .int .i64 k ∧ W.heap.size ≤ wr.heap.size ∧ J k wr) (fun v7 _ _ => n - (intOf v7).toNat)
  case atStart => exact ⟨0, Nat.zero_le _, rfl, Nat.le_refl _, H0.out⟩
  case round =>
    obtain ⟨k, hk, rfl, hs, hj⟩ := hrel
    clear H0 c0
    by_cases hlt : k < n
    · obtain ⟨LB, o, rfl, hrg⟩ := HL.out wr _ hj k hlt
      have HLT := Lib.hid hlt
      have f1 : (k : Int) < (n : Int) := by omega
      have f3 : IntKind.i64.wrap ((k : Int) + 1) = ((k + 1 : Nat) : Int) := by have := HF.out; rw [IntWalk.i64_in _ (by omega)]; omega
      obtain ⟨fn, tmps, assign, body, hy, hRr⟩ := HY.out _ _ hlt hs hj
      have HS := Lib.hid hs
      clear hs hj hlt hk HY HL HJ
      generalize L.getD k 0 = z at *
      gi_wp2
      refine hRr.mono ?_
      rintro e W3 (⟨rfl, hj3, ha3⟩ | ⟨rfl, hx3, _⟩)
      · have H3 := Lib.hid hj3
        have S3 := Lib.hid (Nat.le_trans HS.out ha3)
        clear hRr hy hj3 ha3 hrg
        gi_wp2
        go_roundw
        case rel => exact ⟨k + 1, HLT.out, by go_num, S3.out, H3.out⟩
        case measure => have := HLT.out; simp [intOf]; omega
      · have HXx := Lib.hid hx3
        clear hRr hy hx3 hrg
        gi_wp2
        first
          | refine bodyPost_ret (results_none rfl _ _ _) rfl ?_
          | refine bodyPost_end (results_none rfl _ _ _) rfl ?_
        exact ⟨⟨_, rfl⟩, .inr HXx.out⟩
    · have f1 : ¬ (k : Int) < (n : Int) := by omega
      obtain rfl : k = n := by omega
      have HJ1 := Lib.hid hj
      clear hs hj hlt hk
      gi_wp2
      refine bodyPost_end (results_none rfl _ _ _) rfl ?_
      exact ⟨⟨_, rfl⟩, .inl HJ1.out⟩
/-- Values of ints: an iterator over them. -/
theorem Values_any {w : World} {p : Option Addr} {n c : Nat} {L : List Int} (ho : RowsAt 1 intC w p L) (hn : L.length = n) (hl : n ≤ 1000) :
    Calls Try.prog 38 #[.slice p n c] w fun e w' => ∃ v T, e = .returned v ∧ IntsIter w' T L v ∧ (∀ k, T k → AtB p k ∨ w.heap.size ≤ k) ∧ Below w.heap.size w w' := by
  have HG := Lib.hid (fun (U : World) (hD : BoxA U w.heap.size 65 #[.slice p n c]) (hb : Below w.heap.size w U) => values_gives w.heap.size U p n c L hD (RowsAt.below ho hb) hn hl)
  clear ho hn hl
  go_enter Try.func38, Try.ntmps38
  go_wp2_with (first
    | (with_reducible show wpList _ _ _ (⟨_, Op.box _ _, _, _, _, none⟩ :: _) _ _
       refine wpList_box1 rfl _ _ rfl (.slice p n c) (fun _ h => nomatch h) rfl ?_
       intro w1 x1 l1 s1
       have X1 := Lib.hid x1
       have L1 := Lib.hid l1
       have S1 := Lib.hid s1
       clear x1 l1 s1))
  go_ret
  exact ⟨_, fun k => k = w.heap.size ∨ (AtB p k ∧ k < w1.heap.size), rfl, ⟨_, _, rfl, enters_of Try.func58 (by kernel_rfl) rfl, fun k h => by rcases h with rfl | ⟨-, h⟩; exact X1.out.lt; exact h, HG.out w1 X1.out L1.out⟩, fun k h => by rcases h with rfl | ⟨h, -⟩; exact .inr (Nat.le_refl _); exact .inl h, L1.out⟩
theorem OwnI.base {w : World} {base top : Nat} {p : Option Addr} {n c : Nat} {L : List Int} (h : OwnL 3 1 intC w base top (.slice p n c) L) : (∀ k, AtB p k → base ≤ k) ∧ RowsAt 1 intC w p L ∧ L.length = n := by
  obtain ⟨p', c', hv, -, -, h3, hb⟩ := h.rows elemInt.len
  cases hv
  exact ⟨fun k ⟨o, e⟩ => (hb k o e).1, h3, rfl⟩
theorem holders_few {r : ResvOf} (g : GoodR r) : (holdersR r).length ≤ 1000 := by
  unfold holdersR
  rw [List.length_map]
  have := List.length_filter_le (fun p => holdsR r p.1) r.regs
  have := g.few
  omega
attribute [local irreducible] regC atR keyR inR risesR formR allR
set_option maxRecDepth 100000 in
set_option maxHeartbeats 4000000 in
theorem Holders_any {w : World} {q : Option Addr} {n c : Nat} {r : ResvOf} (hq : RvAt w q n c r) (hg : GoodR r) :
    Calls Try.prog 18 #[.agg (resvA q n c r)] w fun e w' => ∃ v T, e = .returned v ∧ IntsIter w' T (holdersR r) v ∧ (∀ k, T k → w.heap.size ≤ k) ∧ Below w.heap.size w w' := by
  have HH := Lib.hid (fun (W : World) (hb : Below w.heap.size w W) => holders_any' (RvAt.below hq hb) hg)
  have HF := Lib.hid (holders_few hg)
  clear hq hg
  go_enter Try.func18, Try.ntmps18
  go_wp2_with (first
    | (with_reducible show wpList _ _ _ (⟨_, Op.box rvT _, _, _, _, none⟩ :: _) _ _
       refine wpList_boxA_of rfl _ rfl (resvA q n c r) rfl ?_
       intro w1 x1 l1 s1
       have X1 := Lib.hid x1
       have L1 := Lib.hid l1
       have HH1 := Lib.hid (HH.out w1 l1)
       clear x1 l1 s1 HH)
    | (with_reducible show wpList _ _ _ (⟨_, Op.load rvT _, _, _, _, none⟩ :: _) _ _
       refine wpList_boxA_load rowRv rfl _ rfl w.heap.size (resvA q n c r) rfl rfl X1.out ?_)
    | (go_at_call 39
       refine HH1.out.mono ?_; rintro e w2 ⟨p, m, d, rfl, ho, hb2⟩
       have L2 := Lib.hid (L1.out.trans (hb2.mono L1.out.size))
       have HV := Lib.hid (Values_any (c := d) (OwnI.base ho).2.1 (OwnI.base ho).2.2 (by rw [← (OwnI.base ho).2.2]; exact HF.out))
       have HO := Lib.hid (OwnI.base ho).1
       clear ho hb2 HH1)
    | (go_at_call 38
       refine HV.out.mono ?_; rintro e w3 ⟨v, T, rfl, hi, ht, hb3⟩
       have HI := Lib.hid hi
       have HT := Lib.hid ht
       have L3 := Lib.hid (L2.out.trans (hb3.mono L2.out.size))
       clear hi ht hb3 HV))
  go_ret
  exact ⟨v, T, rfl, HI.out, fun k h => by
    rcases HT.out k h with h | h
    · exact Nat.le_trans L1.out.size (HO.out k h)
    · exact Nat.le_trans L2.out.size h, L3.out⟩
end Go.Proofs.Ytfnkdmdcjliebaa
