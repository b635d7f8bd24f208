/- The contract of citadellaw09.opens: which sectors are open. No condition. -/
import Derived.Test.YtbejfpdkfpgipaaPlCnt
namespace Go.Proofs.Ytbejfpdkfpgipaa
open Go.ChangeShapes Go.WideShapes Go.ChangeAt Go.RowKit Go.Maps
set_option linter.unusedVariables false
attribute [local go_sem] run_makeMap
/-- The disk and the counts, after k writes. -/
structure OpI (w : World) (b : Blks) (mb k : Nat) (d : Disk) (wr : World) : Prop where
  at' : DiskAt wr b d
  ns : d.ns = 20
  made : d.made ≤ k
  armed : d.armed = false
  left : d.left = 0
  down : d.down = false
  cnt : CntAt wr mb k fun x => (d.opn x).isSome = true
  ne : ¬ b.own mb
  low : Below w.heap.size w wr
  mlo : w.heap.size ≤ mb
  olo : ∀ k, b.own k → w.heap.size ≤ k
theorem OpI.gone {w : World} {b : Blks} {mb k : Nat} {d : Disk} {wr : World} (h : OpI w b mb k d wr) : d.gone = false := by unfold Disk.gone; rw [h.down, h.armed]; rfl
theorem lit_inj {c c' : Int} (h : (DataW.lit (.int .i64 c) : DataW Value) = .lit (.int .i64 c')) : c = c' := by
  injection h with h
  injection h
theorem OpI.turn {w : World} {b : Blks} {mb k : Nat} {d : Disk} {wr w3 : World} (h : OpI w b mb k d wr) (ht : wr.mapTurned w3 mb) : DiskAt w3 b d ∧ Below w.heap.size w w3 ∧ wr.heap.size ≤ w3.heap.size := by
  have hg := ht.grown
  refine ⟨h.at'.keep fun j hj => hg.block j (h.at'.lt hj) (fun e => by cases e; exact h.ne hj), ⟨hg.os.trans h.low.os, hg.tape.trans h.low.tape, hg.output.trans h.low.output, Nat.le_trans h.low.size hg.size, fun j hj => ?_⟩, hg.size⟩
  exact (hg.block j (Nat.lt_of_lt_of_le hj h.low.size) (fun e => by cases e; exact absurd h.mlo (by omega))).trans (h.low.block j hj)
theorem OpI.wrote {w : World} {b : Blks} {mb k : Nat} {d : Disk} {wr w3 w4 : World} (h : OpI w b mb k d wr) (ht : wr.mapTurned w3 mb) {r : Nat} {g : Nat → Nat} {c : Nat} {D : DataW Value}
    (hc : D.atKey (.int .i64 r) (.lit (.int .i64 0)) = .lit (.int .i64 c)) (hD : CntIs D k fun x => (d.opn x).isSome = true) (him : Maps.IsMap D) (ho : w3.ownsMap Try.prog 3 (plainElem Try.prog 3) mb (k + 1) (D.put (.int .i64 r) (.lit (.int .i64 ((c + 1 : Nat) : Int)))))
    (hd : DiskAt w4 b (d.wrote r (Go.Proofs.Ytbejfpdkfpgipaa.mk 128 g))) (hk : Keeps b.own w3 w4) : OpI w b mb (k + 1) (d.wrote r (Go.Proofs.Ytbejfpdkfpgipaa.mk 128 g)) w4 := by
  obtain ⟨t1, t2, t3⟩ := h.turn ht
  refine ⟨hd, h.ns, by have := h.made; show d.made + 1 ≤ k + 1; omega, h.armed, by show (if d.armed then d.left - 1 else d.left) = 0; rw [h.armed, h.left]; rfl, h.down, ?_, h.ne, t2.trans (hk.below t2.size fun j hj e => absurd (h.olo j e) (by omega)), h.mlo, h.olo⟩
  refine CntAt.keep (w := w3) ⟨_, ho, hD.put him r hc _ ?_ ?_⟩ (hk.block mb (by have := h.cnt.lt; omega) h.ne)
  · show (setO d.opn r (some (Go.Proofs.Ytbejfpdkfpgipaa.mk 128 g)) r).isSome = true
    unfold setO; rw [if_pos rfl]; rfl
  · intro y hy
    show (setO d.opn r (some (Go.Proofs.Ytbejfpdkfpgipaa.mk 128 g)) y).isSome = true ↔ _
    unfold setO; rw [if_neg hy]
/-- The disk and the counts, behind the flush. -/
structure OpF (w : World) (b : Blks) (mb k A M : Nat) (on : Int → Prop) (d : Disk) (wr : World) : Prop where
  at' : DiskAt wr b d
  ns : d.ns = 20
  made : d.made ≤ k + 1
  cnt : CntAt wr mb k on
  opn : ∀ x, ((d.opn x).isSome = true) ↔ (on x ∧ ¬ ((A : Int) ≤ x ∧ x < ((A + M : Nat) : Int)))
  low : Below w.heap.size w wr
theorem OpI.flushed {w : World} {b : Blks} {mb k A M : Nat} {d : Disk} {wr w5 : World} (h : OpI w b mb k d wr) (hd : DiskAt w5 b (d.went.settled (askF A M))) (hk : Keeps b.own wr w5) : OpF w b mb k A M (fun x => (d.opn x).isSome = true) (d.went.settled (askF A M)) w5 := by
  refine ⟨hd, h.ns, by have := h.made; show d.made + 1 ≤ k + 1; omega, h.cnt.keep (hk.block mb h.cnt.lt h.ne), fun x => ?_, h.low.trans (hk.below h.low.size fun j hj e => absurd (h.olo j e) (by omega))⟩
  show ((if askF A M x then none else d.opn x).isSome = true) ↔ _
  unfold askF
  by_cases hx : (A : Int) ≤ x ∧ x < ((A + M : Nat) : Int)
  · have e : (decide ((A : Int) ≤ x) && decide (x < ((A + M : Nat) : Int))) = true := by simpa using hx
    rw [if_pos e]
    exact ⟨fun h => (by simp at h), fun h => absurd hx h.2⟩
  · have e : ¬ (decide ((A : Int) ≤ x) && decide (x < ((A + M : Nat) : Int))) = true := by simpa using hx
    rw [if_neg e]
    simp only [hx, not_false_eq_true, and_true]
theorem OpF.below {w : World} {b : Blks} {mb k A M : Nat} {on : Int → Prop} {d : Disk} {wr w' : World} (h : OpF w b mb k A M on d wr) (hb : Below wr.heap.size wr w') : OpF w b mb k A M on d w' :=
  ⟨h.at'.below hb, h.ns, h.made, h.cnt.keep (hb.block mb h.cnt.lt), h.opn, h.low.trans (hb.mono h.low.size)⟩
/-- The open sectors below j. -/
structure UpTo (opn : Int → Option (List Int)) (j : Nat) (L : List Int) : Prop where
  up : L.Pairwise (· < ·)
  len : L.length ≤ j
  mem : ∀ x, x ∈ L ↔ (0 ≤ x ∧ x < j ∧ (opn x).isSome = true)
theorem UpTo.zero (opn : Int → Option (List Int)) : UpTo opn 0 [] := ⟨List.Pairwise.nil, Nat.le_refl _, fun x => by simp; intro h1 h2; omega⟩
theorem UpTo.skip {opn : Int → Option (List Int)} {j : Nat} {L : List Int} (h : UpTo opn j L) (hj : ¬ (opn j).isSome = true) : UpTo opn (j + 1) L :=
  ⟨h.up, Nat.le_succ_of_le h.len, fun x => by
    rw [h.mem]
    constructor
    · rintro ⟨h1, h2, h3⟩; exact ⟨h1, by omega, h3⟩
    · rintro ⟨h1, h2, h3⟩
      refine ⟨h1, ?_, h3⟩
      by_cases e : x = j
      · subst e; exact absurd h3 hj
      · omega⟩
theorem UpTo.more {opn : Int → Option (List Int)} {j : Nat} {L : List Int} (h : UpTo opn j L) (hj : (opn j).isSome = true) : UpTo opn (j + 1) (L ++ [(j : Int)]) :=
  ⟨List.pairwise_append.2 ⟨h.up, List.pairwise_singleton _ _, fun a ha b hb => by
      obtain rfl : b = (j : Int) := by simpa using hb
      exact ((h.mem a).1 ha).2.1⟩, by have := h.len; simp; omega, fun x => by
    rw [List.mem_append, h.mem]
    constructor
    · rintro (⟨h1, h2, h3⟩ | hx)
      · exact ⟨h1, by omega, h3⟩
      · obtain rfl : x = (j : Int) := by simpa using hx
        exact ⟨by omega, by omega, hj⟩
    · rintro ⟨h1, h2, h3⟩
      by_cases e : x = j
      · subst e; exact .inr (by simp)
      · exact .inl ⟨h1, by omega, h3⟩⟩
theorem UpTo.isOpen {w : World} {b : Blks} {d : Disk} {L : List Int} (h : UpTo d.opn d.ns L) (hd : DiskAt w b d) : IsOpen d.opn L :=
  ⟨h.up, fun x => by
    rw [h.mem]
    constructor
    · rintro ⟨_, _, h3⟩; exact h3
    · intro h3; exact ⟨(hd.wf x h3).1, (hd.wf x h3).2, h3⟩⟩
section
variable {o : Oper} {a : Act} {C : World → Prop} {K : Act → Prop}
theorem gives_len_ints (x : Operand) (ho : o.op = .call { callee := .builtin .len, args := #[x], argTypes := #[35] }) (p : Option Addr) (n c : Nat) (hx : a.eval x = .slice p n c) (hk : K (a.put o.dst (.int .i64 n))) : ∃ v, Gives Try.prog C o a v ∧ K (a.put o.dst v) :=
  ⟨_, fun w _ => by
    have e : (Builtin.len_ #[35] o.type #[.slice p n c]).run Try.prog w = .ok (.int .i64 n) w := by simp [go_sem]
    unfold execOp
    simp [ho, resolve, invoke, builtin, hx, e, Result.andThen], hk⟩
theorem gives_min_ints (x y : Operand) (ho : o.op = .call { callee := .builtin .min, args := #[x, y], argTypes := #[3, 3] }) (i j : Nat) (hx : a.eval x = .int .i64 i) (hy : a.eval y = .int .i64 j) (r : Nat) (hr : min i j = r) (hk : K (a.put o.dst (.int .i64 r))) : ∃ v, Gives Try.prog C o a v ∧ K (a.put o.dst v) :=
  ⟨_, fun w _ => by
    have hm : (Builtin.min_ #[3, 3] o.type #[.int .i64 i, .int .i64 j]).run Try.prog w = .ok (.int .i64 r) w := by
      by_cases hij : j < i
      · have e : r = j := by omega
        subst e
        simp [go_sem]
        omega
      · have e : r = i := by omega
        subst e
        simp [go_sem]
        omega
    unfold execOp
    simp [ho, resolve, invoke, builtin, hx, hy, hm, Result.andThen], hk⟩
theorem run_upto_ints (p : Option Addr) (n cap k : Nat) (hk : k ≤ cap) (w : World) : (Instr.sliceAt 35 (.slice p n cap) none (some (.int .i64 k)) none).run Try.prog w = .ok (.slice p k cap) w := by
  have e1 : (0 : Int) ≤ k := by omega
  have e2 : (k : Int) ≤ cap := by omega
  simp [go_sem, e1, e2, Program.elem]
theorem gives_upto_ints (x y : Operand) (ho : o.op = .slice 35 x none (some y) none) (p : Option Addr) (n cap k : Nat) (hx : a.eval x = .slice p n cap) (hy : a.eval y = .int .i64 k) (hk1 : k ≤ cap)
    (hk : K (a.put o.dst (.slice p k cap))) : ∃ v, Gives Try.prog C o a v ∧ K (a.put o.dst v) := by
  refine ⟨_, fun w _ => ?_, hk⟩
  have hr := run_upto_ints p n cap k hk1 w
  unfold execOp
  simp only [ho, hx]
  simp [hy, hr]
end
theorem done_two {o : Oper} {a : Act} {w : World} {K : Value → World → Prop} (x y z : Operand) (ts : Array TypeId) (ho : o.op = .call { callee := .value x, args := #[y, z], argTypes := ts }) (g : FuncId) (hx : a.eval x = .func (.func g) #[] #[])
    (u v : Value) (hy : a.eval y = u) (hz : a.eval z = v) (hf : ∀ (args : Array Value) (w : World), (callFunc g args).run Try.prog w = .ok (.enter g args) w)
    (hc : Calls Try.prog g #[u, v] w fun e w' => ∃ r, e = .returned r ∧ K r w') : doneAt Try.prog o a w K :=
  done_call x #[y, z] ts ho g #[u, v] hx (by simp only [List.map_toArray, List.map_cons, List.map_nil, hy, hz]) (hf _ w) hc
theorem ints_take {w : World} {p : Option Addr} {L : List Int} (h : IntsAt w p L) (m : Nat) : IntsAt w p (L.take m) := by
  rcases h with rfl | ⟨B, o, rfl, hB, hc⟩
  · exact .inl (by simp)
  · exact .inr ⟨B, o, rfl, hB, fun j hj => by
      have h1 : j < L.length := by rw [List.length_take] at hj; omega
      have h2 : j < m := by rw [List.length_take] at hj; omega
      rw [hc j h1]
      simp [List.getD_eq_getElem?_getD, h1, h2]⟩
set_option maxRecDepth 100000 in
set_option maxHeartbeats 2000000 in
theorem opens_ok (q0 : Option Addr) (l0 : List Int) (c0 : Nat) (z1 z2 z3 : Int) (h0 : okInts l0) (w1 : (Lit.int .i64 z1).wf = true) (w2 : (Lit.int .i64 z2).wf = true) (w3 : (Lit.int .i64 z3).wf = true) (w : World) (y0 : IntsAt w q0 l0) :
    Calls Try.prog 40 #[.slice q0 l0.length c0, .int .i64 z1, .int .i64 z2, .int .i64 z3] w fun e w' => e = .returned (.bool true) ∧ Below w.heap.size w w' := by
  have AL := Lib.hid (alive_ok w)
  have H0 := Lib.hid h0
  have Y0 := Lib.hid y0
  have NC := Lib.hid (fun W => (show Calls Try.prog 12 #[.int .i64 20, .int .i64 1] W _ from New_ok 20 1 (by omega) (by omega) (by omega) (by omega) W))
  have HM := Lib.hid (Nat.le_refl w.heap.size)
  have W1 := Lib.hid (bounds_i64 w1)
  have W2 := Lib.hid (bounds_i64 w2)
  have W3 := Lib.hid (bounds_i64 w3)
  clear h0 y0 w1 w2 w3
  by_cases hlen : 200 < l0.length
  · have d1 : decide ((200 : Int) < (l0.length : Int)) = true := by simp; omega
    have d2 : decide (200 < l0.length) = true := by simp; omega
    clear hlen
    go_enter Try.func40, Try.ntmps40
    go_wp2_with (first
      | (go_at_call 10; refine (AL.out).mono ?_; rintro e w1 ⟨rfl, hb1⟩))
    go_ret
    exact ⟨rfl, hb1⟩
  have d1 : decide ((200 : Int) < (l0.length : Int)) = false := by simp; omega
  have d2 : decide (200 < l0.length) = false := by simp; omega
  have HLEN := Lib.hid (show l0.length ≤ 200 by omega)
  clear hlen
  go_enter Try.func40, Try.ntmps40
  go_wp2_with (first
    | (go_at_call 10; refine (AL.out).mono ?_; rintro e w1 ⟨rfl, hb1⟩; have B1 := Lib.hid hb1; clear hb1 AL)
    | (go_at_call 12; refine (NC.out w1).mono ?_; rintro e w2 ⟨b, rfl, hd2, hb2, ho2⟩
       have D2 := Lib.hid hd2
       have B2 := Lib.hid (B1.out.trans (hb2.mono B1.out.size))
       have O2 := Lib.hid (fun k hk => Nat.le_trans B1.out.size (ho2 k hk))
       clear hd2 hb2 ho2 B1 NC))
  have I0 := Lib.hid (show OpI w b w2.heap.size 0 (newD 20 1) (w2.alloc (.map #[] 0)) from
    ⟨D2.out.alloc _, rfl, Nat.le_refl _, rfl, rfl, rfl, by
      have := cnt_new w2
      obtain ⟨D, h1, h2⟩ := this
      exact ⟨D, h1, ⟨fun x => by obtain ⟨c, e1, e2, e3⟩ := h2.has x; exact ⟨c, e1, e2, e3.trans (by show False ↔ ((Option.none : Option (List Int)).isSome = true); simp)⟩⟩⟩, fun e => absurd (D2.out.lt e) (Nat.lt_irrefl _), B2.out.alloc B2.out.size _, B2.out.size, O2.out⟩)
  generalize w2.alloc (.map #[] 0) = w3 at *
  generalize w2.heap.size = mb at *
  clear D2 B2 O2
  go_loopw [31] (fun v31 wr => ∃ k : Nat, k ≤ l0.length ∧ v31 = .int .i64 k ∧ ∃ d, OpI w b mb k d wr) (fun v31 _ => l0.length - (intOf v31).toNat)
  case atStart => exact ⟨0, Nat.zero_le _, rfl, _, I0.out⟩
  case round =>
    obtain ⟨k, hk, rfl, d, hi⟩ := hrel
    have HI := Lib.hid hi
    clear hi I0
    by_cases hlt : k < l0.length
    · rcases Y0.out with he | ⟨B, o, rfl, hB, hc⟩
      · rw [he] at hlt; exact absurd hlt (Nat.not_lt_zero _)
      have cl := (HI.out.low.cell (p := ⟨B, o + k, none⟩) hB).trans (hc k hlt)
      have HLT := Lib.hid hlt
      have f1 : (k : Int) < (l0.length : Int) := by omega
      have f2 : (0 : Int) ≤ k := by omega
      have f3 : IntKind.i64.wrap ((k : Int) + 1) = ((k + 1 : Nat) : Int) := by have := HLEN.out; rw [IntWalk.i64_in _ (by omega)]; omega
      clear hc hB hlt
      generalize l0.getD k 0 = x at *
      obtain ⟨V, hV⟩ : ∃ V : Nat, IntKind.u64.wrap x = (V : Int) := ⟨(x % 18446744073709551616).toNat, by rw [IntKind.wrap_u64]; omega⟩
      have hVb : (V : Int) < 18446744073709551616 := by rw [← hV, IntKind.wrap_u64]; omega
      have g2 : (V : Int).tmod 20 = ((V % 20 : Nat) : Int) := by rw [Int.tmod_eq_emod_of_nonneg (by omega)]; omega
      have hr20 : V % 20 < 20 := Nat.mod_lt _ (by omega)
      generalize V % 20 = r at *
      have g3 : IntKind.u64.wrap (r : Int) = (r : Int) := by rw [IntKind.wrap_u64]; omega
      have g4 : IntKind.i64.wrap (r : Int) = (r : Int) := IntWalk.i64_in _ (by omega)
      obtain ⟨D, hown, hcnt⟩ := HI.out.cnt
      obtain ⟨c, hck, hcat, -⟩ := hcnt.has r
      have hkl := HLT.out
      have hle := HLEN.out
      have g5 : IntKind.i64.wrap ((c : Int) + 1) = ((c + 1 : Nat) : Int) := by rw [IntWalk.i64_in _ (by omega)]; omega
      have HOW := Lib.hid hown; have HCN := Lib.hid hcnt; have HCA := Lib.hid hcat
      have HKY := Lib.hid (key_i64 (r : Int) (by omega) (by omega))
      have HKM := Lib.hid (show k < maxLen by unfold maxLen; omega)
      have HVL := Lib.hid (plainElem_int (H := Value) Try.underlying3 (wf_i64 ((c + 1 : Nat) : Int) (by omega) (by omega)))
      have HR := Lib.hid hr20
      have HKK := Lib.hid (show k ≤ 1000 by omega)
      clear hown hcnt hcat hkl hle hck hVb hr20
      go_wp2_with (first
        | (refine wpList_lookup_own_int _ rfl _ _ 70 rfl 3 3 .i64 intKey Try.underlying70 Try.underlying3 (by kernel_rfl) mb k D rfl HOW.out _ (.int .i64 r) rfl HKY.out ?_
           intro c' hat _
           have hcc : c' = (c : Int) := (lit_inj (HCA.out.symm.trans hat)).symm
           subst hcc
           clear hat)
        | (refine wpList_mapUpdate_in _ rfl _ _ _ 70 rfl 3 3 intKey Try.underlying70 (plainElem Try.prog 3) mb k D rfl HOW.out HKM.out _ _ (.int .i64 r) rfl rfl HKY.out _ [] HVL.out ?_
           intro w3 hown3 ht3
           have HT := Lib.hid ht3; have HO3 := Lib.hid hown3
           have HD3 := Lib.hid (HI.out.turn ht3).1
           clear hown3 ht3)
        | (refine wpList_sec_one rfl _ rfl 1 rfl ?_)
        | (go_at_call 15
           refine (Write_on HD3.out r (by unfold hasB; rw [HI.out.ns]; have := HR.out; simp; omega) HI.out.gone (by have := HI.out.made; have := HKK.out; omega) (by rw [HI.out.left]; omega) (oneF 1)).mono ?_; rintro e w4 ⟨rfl, hd4, hk4⟩
           have HI4 := Lib.hid (HI.out.wrote HT.out HCA.out HCN.out HOW.out.isMap HO3.out hd4 hk4)
           clear hd4 hk4 HT HO3 HD3 HOW HCN HCA))
      go_roundw
      case rel => exact ⟨k + 1, HLT.out, by go_num, _, HI4.out⟩
      case measure => have := HLT.out; simp [intOf]; omega
    · have f1 : ¬ (k : Int) < (l0.length : Int) := by omega
      obtain ⟨V1, hV1⟩ : ∃ V : Nat, IntKind.u64.wrap z1 = (V : Int) := ⟨(z1 % 18446744073709551616).toNat, by rw [IntKind.wrap_u64]; omega⟩
      obtain ⟨V2, hV2⟩ : ∃ V : Nat, IntKind.u64.wrap z2 = (V : Int) := ⟨(z2 % 18446744073709551616).toNat, by rw [IntKind.wrap_u64]; omega⟩
      obtain ⟨V3, hV3⟩ : ∃ V : Nat, IntKind.u64.wrap z3 = (V : Int) := ⟨(z3 % 18446744073709551616).toNat, by rw [IntKind.wrap_u64]; omega⟩
      have a1 : (V1 : Int).tmod 20 = ((V1 % 20 : Nat) : Int) := by rw [Int.tmod_eq_emod_of_nonneg (by omega)]; omega
      have hA : V1 % 20 < 20 := Nat.mod_lt _ (by omega)
      generalize V1 % 20 = A at *
      have a2 : IntKind.u64.wrap (A : Int) = (A : Int) := by rw [IntKind.wrap_u64]; omega
      have a3 : IntKind.i64.wrap (A : Int) = (A : Int) := IntWalk.i64_in _ (by omega)
      obtain ⟨T, hT⟩ : ∃ T, T + A = 21 := ⟨21 - A, by omega⟩
      have a4 : IntKind.i64.wrap (21 - (A : Int)) = (T : Int) := by rw [IntWalk.i64_in _ (by omega)]; omega
      have a5 : IntKind.u64.wrap (T : Int) = (T : Int) := by rw [IntKind.wrap_u64]; omega
      have a6 : ¬ ((T : Int) = 0) := by omega
      have a6b : ¬ (T = 0) := by omega
      have a7 : (V2 : Int).tmod (T : Int) = ((V2 % T : Nat) : Int) := by rw [Int.tmod_eq_emod_of_nonneg (by omega)]; omega
      have hM : V2 % T < T := Nat.mod_lt _ (by omega)
      generalize V2 % T = M at *
      have a8 : IntKind.u64.wrap (M : Int) = (M : Int) := by rw [IntKind.wrap_u64]; omega
      have a9 : IntKind.i64.wrap (M : Int) = (M : Int) := IntWalk.i64_in _ (by omega)
      have HAM := Lib.hid (show A + M ≤ 20 by omega)
      have a10 : (V3 : Int).tmod 25 = ((V3 % 25 : Nat) : Int) := by rw [Int.tmod_eq_emod_of_nonneg (by omega)]; omega
      have hS : V3 % 25 < 25 := Nat.mod_lt _ (by omega)
      generalize V3 % 25 = S at *
      have a11 : IntKind.u64.wrap (S : Int) = (S : Int) := by rw [IntKind.wrap_u64]; omega
      have a12 : IntKind.i64.wrap (S : Int) = (S : Int) := IntWalk.i64_in _ (by omega)
      have HKL := Lib.hid hk
      clear hA hM hk hlt H0 Y0
      go_wp2_with (first
        | (go_at_call 18
           refine (Flush_on HI.out.at' A M (by rw [HI.out.ns]; exact HAM.out) HI.out.gone (by have := HI.out.made; have := HKL.out; have := HLEN.out; omega) (by rw [HI.out.left]; omega)).mono ?_; rintro e w5 ⟨rfl, hd5, hk5⟩
           have J5 := Lib.hid (HI.out.flushed hd5 hk5)
           clear hd5 hk5 HI))
      have W5 := Lib.hid (ownsRow_empty w5 w5.heap.size (Nat.le_refl _) 3)
      have HB5 := Lib.hid ((Below.refl w5.heap.size w5).alloc (Nat.le_refl _) (.cells #[] 3))
      have HJ5 := Lib.hid J5.out.opn
      have HJC := Lib.hid J5.out.cnt
      go_loopw [66, 15] (fun v66 v15 wr2 => ∃ j : Nat, j ≤ 20 ∧ v66 = .int .i64 j ∧ ∃ (L : List Int) (q : Option Addr) (cc : Nat), v15 = .slice q L.length cc ∧ UpTo (d.went.settled (askF A M)).opn j L ∧ wr2.ownsRow w5.heap.size 3 1 (.slice q L.length cc) L.length (L.map encZ) ∧ Below w5.heap.size w5 wr2) (fun v66 _ _ => 20 - (intOf v66).toNat)
      case atStart => exact ⟨0, Nat.zero_le _, rfl, [], _, _, rfl, UpTo.zero _, W5.out, HB5.out⟩
      case round =>
        obtain ⟨j, hj, rfl, L, q, cc, rfl, hup, hrow, hb2⟩ := hrel
        have HRW := Lib.hid hrow
        have HB2 := Lib.hid hb2
        have LU := Lib.hid (show L.length ≤ 20 from Nat.le_trans hup.len hj)
        have hb2' := hb2
        clear hrow hb2 W5 HB5
        by_cases hlt2 : j < 20
        · have f5 : (j : Int) < 20 := by omega
          have f6 : IntKind.i64.wrap ((j : Int) + 1) = ((j + 1 : Nat) : Int) := by rw [IntWalk.i64_in _ (by omega)]; omega
          have f7 : IntKind.i64.wrap ((A : Int) + (M : Int)) = (A : Int) + (M : Int) := IntWalk.i64_in _ (by have := HAM.out; omega)
          have HLT2 := Lib.hid hlt2
          obtain ⟨D, hown, hcnt⟩ := (HJC.out.keep (hb2'.block mb HJC.out.lt))
          obtain ⟨c, hck, hcat, hc0⟩ := hcnt.has j
          have HOW := Lib.hid hown; have HCA := Lib.hid hcat; have HC0 := Lib.hid hc0
          have HKY := Lib.hid (key_i64 (j : Int) (by omega) (by omega))
          obtain ⟨ti, hti, htz, hts, htb⟩ := intInfo4
          have HN := Lib.hid (show ∀ (m : Nat) (u : Value), [Value.int .i64 (j : Int)][m]? = some u → (wr.alloc (.cells #[.int .i64 (j : Int)] 3)).cell? ((⟨wr.heap.size, 0, none⟩ : Addr).add m) = some u from fun m u hm => by
            rcases m with _ | m
            · simp at hm; subst hm; exact box_cell (heap_alloc_new _ _)
            · simp at hm)
          clear hown hcat hc0 hcnt hck hb2'
          by_cases q1 : 0 < c
          · by_cases q2 : j < A
            · have p1 : decide (0 < (c : Int)) = true := by simp; omega
              have p1b : 0 < c := by omega
              have p2 : decide ((j : Int) < (A : Int)) = true := by simp; omega
              have p2b : j < A := by omega
              have HUP := Lib.hid (hup.more ((HJ5.out j).2 ⟨HC0.out.1 p1b, by omega⟩))
              clear hup
              go_wp2_with (first
                | (refine wpList_lookup_own_int _ rfl _ _ 70 rfl 3 3 .i64 intKey Try.underlying70 Try.underlying3 (by kernel_rfl) mb k D rfl HOW.out _ (.int .i64 j) rfl HKY.out ?_
                   intro c' hat _
                   have hcc : c' = (c : Int) := (lit_inj (HCA.out.symm.trans hat)).symm
                   subst hcc
                   clear hat)
                | (at_builtin
                   refine wpList_append_own _ rfl _ _ 35 rfl w5.heap.size 3 ti (.int .i64 0) 1 8 (by rfl) hti htz hts htb rfl (by omega) _ L.length (L.map encZ) rfl (ownsRow_save HRW.out (fun g hg hl => Below.heap_alloc _ _ _ hl)) ⟨wr.heap.size, 0, none⟩ 1 1 [.int .i64 j] rfl (by simp) HN.out (by simp [Value.oneCell']) (by have := LU.out; simp only [maxLen]; omega) (by have := LU.out; omega) (by have := HB2.out.size; simp; omega) ?_
                   intro v' w7 hown hgr _
                   obtain ⟨q2, c2, hv2, -, -⟩ := ints_of_owns (L := L ++ [(j : Int)]) (by rw [List.map_append]; exact hown) (by simp)
                   have HRW2 := Lib.hid (show w7.ownsRow w5.heap.size 3 1 v' (L ++ [(j : Int)]).length ((L ++ [(j : Int)]).map encZ) from by rw [List.map_append, List.length_append]; exact hown)
                   have HB3 := Lib.hid (below_own hgr (fun g hg => HRW.out.2.elim (fun e => by rw [e.1] at hg; cases hg) (fun ⟨g', cap, cur, e, hl, _⟩ => by rw [e] at hg; cases hg; exact hl)) (by have := HB2.out.size; simp; omega))
                   subst hv2
                   clear hown hgr))
              go_roundw
              case rel => exact ⟨j + 1, HLT2.out, by go_num, _, _, _, by rw [List.length_append]; rfl, HUP.out, HRW2.out, (HB2.out.alloc HB2.out.size _).trans HB3.out⟩
              case measure => have := HLT2.out; simp [intOf]; omega
            · by_cases q3 : A + M ≤ j
              · have p1 : decide (0 < (c : Int)) = true := by simp; omega
                have p1b : 0 < c := by omega
                have p2 : decide ((j : Int) < (A : Int)) = false := by simp; omega
                have p2b : ¬ (j < A) := by omega
                have p3 : decide ((A : Int) + (M : Int) ≤ (j : Int)) = true := by simp; omega
                have p3b : A + M ≤ j := by omega
                have p3c : (A : Int) + (M : Int) ≤ (j : Int) := by omega
                have HUP := Lib.hid (hup.more ((HJ5.out j).2 ⟨HC0.out.1 p1b, by omega⟩))
                clear hup
                go_wp2_with (first
                  | (refine wpList_lookup_own_int _ rfl _ _ 70 rfl 3 3 .i64 intKey Try.underlying70 Try.underlying3 (by kernel_rfl) mb k D rfl HOW.out _ (.int .i64 j) rfl HKY.out ?_
                     intro c' hat _
                     have hcc : c' = (c : Int) := (lit_inj (HCA.out.symm.trans hat)).symm
                     subst hcc
                     clear hat)
                  | (at_builtin
                     refine wpList_append_own _ rfl _ _ 35 rfl w5.heap.size 3 ti (.int .i64 0) 1 8 (by rfl) hti htz hts htb rfl (by omega) _ L.length (L.map encZ) rfl (ownsRow_save HRW.out (fun g hg hl => Below.heap_alloc _ _ _ hl)) ⟨wr.heap.size, 0, none⟩ 1 1 [.int .i64 j] rfl (by simp) HN.out (by simp [Value.oneCell']) (by have := LU.out; simp only [maxLen]; omega) (by have := LU.out; omega) (by have := HB2.out.size; simp; omega) ?_
                     intro v' w7 hown hgr _
                     obtain ⟨q2, c2, hv2, -, -⟩ := ints_of_owns (L := L ++ [(j : Int)]) (by rw [List.map_append]; exact hown) (by simp)
                     have HRW2 := Lib.hid (show w7.ownsRow w5.heap.size 3 1 v' (L ++ [(j : Int)]).length ((L ++ [(j : Int)]).map encZ) from by rw [List.map_append, List.length_append]; exact hown)
                     have HB3 := Lib.hid (below_own hgr (fun g hg => HRW.out.2.elim (fun e => by rw [e.1] at hg; cases hg) (fun ⟨g', cap, cur, e, hl, _⟩ => by rw [e] at hg; cases hg; exact hl)) (by have := HB2.out.size; simp; omega))
                     subst hv2
                     clear hown hgr))
                go_roundw
                case rel => exact ⟨j + 1, HLT2.out, by go_num, _, _, _, by rw [List.length_append]; rfl, HUP.out, HRW2.out, (HB2.out.alloc HB2.out.size _).trans HB3.out⟩
                case measure => have := HLT2.out; simp [intOf]; omega
              · have p1 : decide (0 < (c : Int)) = true := by simp; omega
                have p1b : 0 < c := by omega
                have p2 : decide ((j : Int) < (A : Int)) = false := by simp; omega
                have p2b : ¬ (j < A) := by omega
                have p3 : decide ((A : Int) + (M : Int) ≤ (j : Int)) = false := by simp; omega
                have p3b : ¬ (A + M ≤ j) := by omega
                have p3c : ¬ ((A : Int) + (M : Int) ≤ (j : Int)) := by omega
                have HUP := Lib.hid (hup.skip (fun h => ((HJ5.out j).1 h).2 (by omega)))
                clear hup
                go_wp2_with (first
                  | (refine wpList_lookup_own_int _ rfl _ _ 70 rfl 3 3 .i64 intKey Try.underlying70 Try.underlying3 (by kernel_rfl) mb k D rfl HOW.out _ (.int .i64 j) rfl HKY.out ?_
                     intro c' hat _
                     have hcc : c' = (c : Int) := (lit_inj (HCA.out.symm.trans hat)).symm
                     subst hcc
                     clear hat))
                go_roundw
                case rel => exact ⟨j + 1, HLT2.out, by go_num, _, _, _, rfl, HUP.out, HRW.out, HB2.out⟩
                case measure => have := HLT2.out; simp [intOf]; omega
          · have p1 : decide (0 < (c : Int)) = false := by simp; omega
            have p1b : ¬ (0 < c) := by omega
            have HUP := Lib.hid (hup.skip (fun h => absurd (HC0.out.2 ((HJ5.out j).1 h).1) p1b))
            clear hup
            go_wp2_with (first
              | (refine wpList_lookup_own_int _ rfl _ _ 70 rfl 3 3 .i64 intKey Try.underlying70 Try.underlying3 (by kernel_rfl) mb k D rfl HOW.out _ (.int .i64 j) rfl HKY.out ?_
                 intro c' hat _
                 have hcc : c' = (c : Int) := (lit_inj (HCA.out.symm.trans hat)).symm
                 subst hcc
                 clear hat))
            go_roundw
            case rel => exact ⟨j + 1, HLT2.out, by go_num, _, _, _, rfl, HUP.out, HRW.out, HB2.out⟩
            case measure => have := HLT2.out; simp [intOf]; omega
        · have f5 : ¬ (j : Int) < 20 := by omega
          obtain rfl : j = 20 := by omega
          have JB := Lib.hid (J5.out.below (hb2'.mono (Nat.le_refl _)))
          have HIO := Lib.hid ((show UpTo (d.went.settled (askF A M)).opn (d.went.settled (askF A M)).ns L from by rw [J5.out.ns]; exact hup).isOpen JB.out.at')
          clear hb2'
          go_wp2
          have AP := Lib.hid ((JB.out.at'))
          have HLN := Lib.hid hup.len
          have HOP := Lib.hid (open_any (.pointer (some ⟨b.B, 0, none⟩)) S L (by have := LU.out; omega) wr.drew (fun W hW => by
            have hW2 : DiskAt W b (d.went.settled (askF A M)) := AP.out.drew.below hW
            exact (Open_ok hW2 (by have := J5.out.made; have := HKL.out; have := HLEN.out; omega)).mono fun e w' ⟨C, L', h1, h2, h3, h4⟩ => ⟨C, h1, by rw [isOpen_unique HIO.out h2]; exact h3, h4⟩))
          obtain ⟨r, hr⟩ : ∃ r, (L.take S).length = r := ⟨_, rfl⟩
          have hr2 : min S L.length = r := by rw [← hr, List.length_take]
          rw [hr] at HOP
          have hrl : r ≤ L.length := by omega
          have c0 : Below wr.heap.size wr wr.drew := (Below.refl _ wr).drew
          have HCP := Lib.hid (show r ≤ cc ∧ IntsAt wr q (L.take S) from by
            obtain ⟨q', c', he, hi', -⟩ := ints_of_owns HRW.out rfl
            cases he
            refine ⟨?_, ints_take hi' S⟩
            rcases HRW.out.2 with ⟨e1, e2⟩ | ⟨g', cap, cur, e, _, _, h5, _⟩
            · omega
            · cases e; omega)
          refine wp_region_sched [(0, true), (1, true), (3, true), (4, true), (5, true), (6, true), (7, true), (8, true), (2, false), (9, false), (10, true)] (fun W => Below wr.heap.size wr W) (by kernel_rfl) (by kernel_rfl) c0 ?_
          iterate 8 (
            refine walk_float rfl rfl (fun K hK => ?_)
            first
              | (refine gives_move _ rfl ?_)
              | (refine gives_len_ints _ rfl q L.length cc rfl ?_)
              | (refine gives_min_ints _ _ rfl S L.length rfl rfl r hr2 ?_)
              | (refine gives_upto_ints _ _ rfl q L.length cc r rfl rfl HCP.out.1 ?_)
            go_simp
            refine hK _ ?_
            clear hK K)
          refine walk_done rfl rfl (fun K hK => ?_)
          refine done_two _ _ _ _ rfl 36 rfl (.pointer (some ⟨b.B, 0, none⟩)) (.int .i64 S) rfl rfl (fun _ w => by simp [go_sem]) (HOP.out.mono fun e v3 hv3 => ?_)
          obtain ⟨⟨q9, c9, rfl, hi9⟩, hb9⟩ := hv3
          have c3 := c0.trans (hb9.mono c0.size)
          refine ⟨_, rfl, c3, ?_⟩
          go_simp
          refine hK _ _ ?_
          clear hK K hb9
          refine walk_done rfl rfl (fun K hK => ?_)
          refine done_two _ _ _ _ rfl 31 rfl (.slice q9 r c9) (.slice q r cc) rfl rfl (fun _ w => by simp [go_sem]) ((hr ▸ Ints_eq q9 q (L.take S) c9 cc (by rw [hr]; have := LU.out; omega) v3 hi9 (HCP.out.2.below c3)).mono fun e v4 hv4 => ?_)
          obtain ⟨rfl, hb10⟩ := hv4
          have c4 := c3.trans (hb10.mono c3.size)
          refine ⟨_, rfl, c4, ?_⟩
          go_simp
          refine hK _ _ ?_
          clear hK K hb10
          refine walk_float rfl rfl (fun K hK => ?_)
          refine gives_assign _ rfl ?_
          go_simp
          refine hK _ ?_
          clear hK K
          refine walk_nil ?_
          go_wp2
          go_ret
          exact ⟨rfl, (J5.out.low.trans (HB2.out.mono J5.out.low.size)).trans (c4.mono (Nat.le_trans J5.out.low.size HB2.out.size))⟩
end Go.Proofs.Ytbejfpdkfpgipaa
