/- The contract of package redo's tagged, and the tag of what it hands out. Condition: there are at most 1000 puts. -/
import Derived.Test.YtdeojhcfbiekmaaDoorRdStore
import Derived.Test.YtdeojhcfbiekmaaDoorMacProg
import Derived.Test.YtdeojhcfbiekmaaDoorMacRef
namespace Go.Proofs.YtdeojhcfbiekmaaDoor
open Go.ChangeShapes Go.WideShapes Go.ChangeAt Go.RowKit
set_option linter.unusedVariables false
/-- A text's tag with a key of n bytes g. -/
def tauK (n : Nat) (g : Nat → Nat) (t : List Int) : List Int := mk 32 (tagF n g t.length (natF t))
theorem tauK_len (n : Nat) (g : Nat → Nat) (t : List Int) : (tauK n g t).length = 32 := mk_len _ _
theorem tauK_bytes (n : Nat) (g : Nat → Nat) (t : List Int) : IsBytes (tauK n g t) := mk_bytes fun i _ => tagP_lt _ _ _ i
theorem text_len (s : List Int) (hs : IsSec s) : ∀ (l : List PutOf), (∀ p ∈ l, p.ok) → (textL s l).length = 128 * (l.length + 1)
  | l, hl => by
    unfold textL
    rw [List.length_append, hs.1]
    have : (l.flatMap (·.s)).length = l.length * 128 := by
      clear hs
      induction l with
      | nil => rfl
      | cons a l ih =>
        rw [List.flatMap_cons, List.length_append, (hl a (List.mem_cons_self ..)).1, ih fun p hp => hl p (List.mem_cons_of_mem _ hp), List.length_cons]; omega
    rw [this]; omega
theorem text_bytes {s : List Int} (hs : IsSec s) {l : List PutOf} (hl : ∀ p ∈ l, p.ok) : IsBytes (textL s l) := fun x hx => by
  rcases List.mem_append.1 hx with h | h
  · exact hs.2 x h
  · obtain ⟨p, hp, hxp⟩ := List.mem_flatMap.1 h
    exact (hl p hp).2 x hxp
theorem flat_sec_at : ∀ (l : List PutOf) (hl : ∀ p ∈ l, p.ok) (i j : Nat), i < l.length → j < 128 → natF (l.flatMap (·.s)) (128 * i + j) = natF (l.getD i noPut).s j
  | [], _, i, j, h, _ => by simp at h
  | a :: l, hl, 0, j, _, hj => by
    rw [List.flatMap_cons, natF_left (by rw [(hl a (List.mem_cons_self ..)).1]; omega), Nat.mul_zero, Nat.zero_add]; rfl
  | a :: l, hl, i + 1, j, h, hj => by
    rw [List.flatMap_cons, natF_right (by rw [(hl a (List.mem_cons_self ..)).1]; omega), (hl a (List.mem_cons_self ..)).1, show 128 * (i + 1) + j - 128 = 128 * i + j by omega]
    rw [List.getD_cons_succ]
    exact flat_sec_at l (fun p hp => hl p (List.mem_cons_of_mem _ hp)) i j (by simpa using h) hj
theorem text_first {s : List Int} (hs : IsSec s) (l : List PutOf) {j : Nat} (hj : j < 128) : natF (textL s l) j = natF s j := natF_left (by rw [hs.1]; exact hj)
theorem text_next {s : List Int} (hs : IsSec s) {l : List PutOf} (hl : ∀ p ∈ l, p.ok) {i j : Nat} (hi : i < l.length) (hj : j < 128) : natF (textL s l) (128 * (i + 1) + j) = natF (l.getD i noPut).s j := by
  unfold textL
  rw [natF_right (by rw [hs.1]; omega), hs.1, show 128 * (i + 1) + j - 128 = 128 * i + j by omega]
  exact flat_sec_at l hl i j hi hj

/-! ### Slices of texts -/
def partC (x : Option Addr × Nat × Nat) : List Value := [.slice x.1 x.2.1 x.2.2]
theorem elemPart : ElemOf Tryd.prog 43 22 1 24 partC where
  under := Tryd.underlying43
  size := by kernel_rfl
  bytes := by kernel_rfl
  zero := ⟨.slice none 0 0, by kernel_rfl, rfl⟩
  len := fun _ => rfl
  one := fun c u hu => by
    obtain rfl : u = .slice c.1 c.2.1 c.2.2 := by simpa [partC] using hu
    rfl
  pos := by decide
theorem fill_part1 (x : Option Addr × Nat × Nat) : Instr.fill (fun i => some (i * 1, 1)) ((Array.range (1 * 1)).map ((Value.slice none 0 0).cells[· % (Value.slice none 0 0).cells.size]!)) [(0, Value.slice x.1 x.2.1 x.2.2)] = some (partC x).toArray := by kernel_rfl
theorem run_part1 (x : Option Addr × Nat × Nat) (w : World) : (Instr.buildSlice 43 1 #[(0, .slice x.1 x.2.1 x.2.2)]).run Tryd.prog w = .ok (.slice (some ⟨w.heap.size, 0, none⟩) 1 1) (w.alloc (.cells (partC x).toArray 22)) := by
  have hi : (Tryd.prog.info? 22).map (·.size) = some 1 := by kernel_rfl
  have hz : (Tryd.prog.info? 22).bind (·.zero) = some (.slice none 0 0) := by kernel_rfl
  cases hq : Tryd.prog.info? 22 with
  | none => rw [hq] at hi; simp at hi
  | some i =>
    rw [hq] at hi hz
    have hs : i.size = 1 := by simpa using hi
    have hzz : i.zero = some (.slice none 0 0) := by simpa using hz
    refine run_buildSlice w 43 22 1 _ _ i _ Tryd.underlying43 hq hzz (by rw [hs]; omega) (by rw [hs]; omega) ?_
    rw [hs]; exact fill_part1 x
section
variable {ops : Array Oper} {rest : List Oper} {o : Oper} {a : Act} {w : World} {Q : Exit → Act → World → Prop}
theorem wpList_part1 (hgd : o.guard = none) (x : Operand) (ho : o.op = .buildSlice 43 1 #[(0, x)]) (p : Option Addr) (n c : Nat) (hx : a.eval x = .slice p n c)
    (h : wpList Tryd.prog ops Q rest (a.put o.dst (.slice (some ⟨w.heap.size, 0, none⟩) 1 1)) (w.alloc (.cells (partC (p, n, c)).toArray 22))) : wpList Tryd.prog ops Q (o :: rest) a w :=
  wpList_plain hgd fun _ hK => by
    have e := run_part1 (p, n, c) w
    unfold Oper.wp execOp
    simp only [ho]
    simp [hx, e]
    exact hK _ _ h
theorem wpList_putfield (hgd : o.guard = none) (x : Operand) (k : Nat) (ho : o.op = .fieldAddr 57 x k) (hk : k < 2) (O o' : Nat) (hx : a.eval x = .pointer (some ⟨O, o', none⟩)) (h : wpList Tryd.prog ops Q rest (a.put o.dst (.pointer (some ⟨O, o' + k, none⟩))) w) : wpList Tryd.prog ops Q (o :: rest) a w :=
  wpList_plain hgd fun K hK => by
    obtain ⟨v, hv, hk2⟩ := gives_putfield (C := fun _ => True) (K := fun a' => a' = a.put o.dst (.pointer (some ⟨O, o' + k, none⟩))) x k ho hk O o' hx rfl
    have hv' := hv w trivial
    unfold Oper.wp
    rw [hv']
    show K (a.put o.dst v) w
    rw [hk2]
    exact hK _ _ h
end
theorem own_part1 (w : World) (x : Option Addr × Nat × Nat) (base : Nat) (hb : base ≤ w.heap.size) : OwnL 22 1 partC (w.alloc (.cells (partC x).toArray 22)) base (w.heap.size + 1) (.slice (some ⟨w.heap.size, 0, none⟩) 1 1) [x] := by
  have := own_new (e := 22) elemPart.len w [x] base hb (by simp)
  simpa using this
theorem rows_part1 (w : World) (x : Option Addr × Nat × Nat) : RowsAt 1 partC (w.alloc (.cells (partC x).toArray 22)) (some ⟨w.heap.size, 0, none⟩) [x] := by
  have := rows_new elemPart.len w [x] 22
  simpa using this
def partAt (q : Option Addr) (i : Nat) : Option Addr × Nat × Nat := match q with
  | some a => (some ⟨a.block, a.off + 129 * i + 1, none⟩, 128, 128)
  | none => (none, 128, 128)
theorem partAt_some (B o i : Nat) : partAt (some ⟨B, o, none⟩) i = (some ⟨B, o + 129 * i + 1, none⟩, 128, 128) := rfl
def partsL (F : Nat) (q : Option Addr) (k : Nat) : List (Option Addr × Nat × Nat) := (some ⟨F, 0, none⟩, 128, 128) :: (List.range k).map (partAt q)
theorem partsL_zero (F : Nat) (q : Option Addr) : partsL F q 0 = [(some ⟨F, 0, none⟩, 128, 128)] := rfl
theorem partsL_next (F : Nat) (q : Option Addr) (k : Nat) : partsL F q (k + 1) = partsL F q k ++ [partAt q k] := by unfold partsL; rw [List.range_succ, List.map_append]; rfl
theorem partsL_len (F : Nat) (q : Option Addr) (k : Nat) : (partsL F q k).length = k + 1 := by simp [partsL]
def partF (F : Nat) (q : Option Addr) (n : Nat) (i : Nat) : Option Addr × Nat × Nat := (partsL F q n).getD i (none, 0, 0)
theorem partF_zero (F : Nat) (q : Option Addr) (n : Nat) : partF F q n 0 = (some ⟨F, 0, none⟩, 128, 128) := rfl
theorem partF_succ (F : Nat) (q : Option Addr) {n i : Nat} (h : i < n) : partF F q n (i + 1) = partAt q i := by
  unfold partF partsL
  rw [List.getD_cons_succ, List.getD_eq_getElem?_getD, List.getElem?_map, List.getElem?_range h]; rfl
theorem partF_size (F : Nat) (q : Option Addr) (n : Nat) {i : Nat} (h : i < n + 1) : (partF F q n i).2 = (128, 128) := by
  cases i with
  | zero => rfl
  | succ i => rw [partF_succ F q (by omega)]; unfold partAt; split <;> rfl
theorem partF_len (F : Nat) (q : Option Addr) (n : Nat) : ∀ k, k ≤ n + 1 → lenTo (partF F q n) k = 128 * k
  | 0, _ => rfl
  | k + 1, h => by
    show lenTo (partF F q n) k + (partF F q n k).2.1 = _
    rw [partF_len F q n k (by omega), partF_size F q n (by omega)]; omega
theorem parts_in {w : World} {F B o : Nat} {p q : Option Addr} {s : List Int} {l : List PutOf} (hs : IsSec s) (hl : ∀ p ∈ l, p.ok) (hp : RowsAt 1 partC w p (partsL F q l.length)) (hF : IntBlk w F .u8 31 (mk 128 (natF s))) (hq : RowsAt 129 putC w q l) :
    PartsIn w.heap.size w p (l.length + 1) (partF F q l.length) (natF (textL s l)) := by
  refine ⟨.inr ?_, fun i hi => .inr ?_⟩
  · rcases hp with h | ⟨C, c, h1, h2, h3⟩
    · unfold partsL at h; cases h
    · refine ⟨C, c, h1, h2, fun i hi => ?_⟩
      have hil : i < (partsL F q l.length).length := by rw [partsL_len]; exact hi
      have := h3 i _ (List.getElem?_eq_getElem hil) 0 _ rfl
      rw [Nat.one_mul, Nat.add_zero] at this
      rw [this]
      have e : partF F q l.length i = (partsL F q l.length)[i] := by unfold partF; rw [List.getD_eq_getElem?_getD, List.getElem?_eq_getElem hil]; rfl
      rw [e]
  · rw [partF_len F q l.length i (by omega)]
    cases i with
    | zero =>
      refine ⟨F, 0, rfl, hF.lt, fun j hj => ?_⟩
      have hj' : j < 128 := hj
      have := hF.cell (i := j) (by rw [mk_len]; exact hj')
      rw [mk_get hj'] at this
      rw [Nat.zero_add, this]
      show _ = some (Value.int .u8 (natF (textL s l) (128 * 0 + j) : Nat))
      rw [Nat.mul_zero, Nat.zero_add, text_first hs l hj']
    | succ i =>
      have hil : i < l.length := by omega
      obtain ⟨B, o, rfl, hB, hr⟩ := rowsAt_get hq hil
      rw [partF_succ F _ hil, partAt_some]
      refine ⟨B, o + 129 * i + 1, rfl, hB, fun j hj => ?_⟩
      have hj' : j < 128 := hj
      show _ = some (Value.int .u8 (natF (textL s l) (128 * (i + 1) + j) : Nat))
      rw [text_next hs hl hil hj', Nat.add_assoc]
      have e : (putC (l.getD i noPut))[1 + j]? = some (.int .u8 (natF (l.getD i noPut).s j : Nat)) := by
        rw [Nat.add_comm]; exact secC_get _ hj'
      exact hr (1 + j) _ e
/-- The tag of an entry's text. -/
theorem tag_text {kp : Option Addr} {n kc : Nat} {g : Nat → Nat} (hn : n ≤ 100000) (hcap : n ≤ kc) (hg : ∀ i, i < n → g i < 256) {s : List Int} {l : List PutOf} (hs : IsSec s) (hl : ∀ p ∈ l, p.ok) (hlen : l.length ≤ 800) {p : Option Addr} {c F : Nat} {q : Option Addr} (w : World) (hT : TabAt w) (hk : BytesAt w kp n g)
    (hP : PartsIn w.heap.size w p (l.length + 1) (partF F q l.length) (natF (textL s l))) :
    Calls Tryd.prog 26 #[.slice kp n kc, .slice p (l.length + 1) c] w fun e w' => e = .returned (.agg (cellsOf .u8 (tauK n g (textL s l)))) ∧ Below w.heap.size w w' := by
  have hL := partF_len F q l.length (l.length + 1) (Nat.le_refl _)
  have := Tag_any kp n kc g (l.length + 1) c p (partF F q l.length) (natF (textL s l)) hn hcap hg (by omega) (by rw [hL]; omega) (fun i hi => by rw [show (partF F q l.length i).2 = (128, 128) from partF_size F q l.length hi]; exact Nat.le_refl _) (fun i _ => natF_lt (text_bytes hs hl) i) w hT hk hP
  rw [hL, ← text_len s hs l hl] at this
  exact this
attribute [local irreducible] putC natF textL partC partAt partsL
set_option maxRecDepth 100000 in
set_option maxHeartbeats 4000000 in
theorem tagged_any (s : List Int) (q : Option Addr) (cap : Nat) (l : List PutOf) (hs : IsSec s) (hl : ∀ p ∈ l, p.ok) (hn : l.length ≤ 1000) (w : World) (hp : RowsAt 129 putC w q l) :
    Calls Tryd.prog 27 #[.agg (cellsOf .u8 (mk 128 (natF s))), .slice q l.length cap] w fun e w' => ∃ p c F, e = .returned (.slice p (l.length + 1) c) ∧ PartsIn w'.heap.size w' p (l.length + 1) (partF F q l.length) (natF (textL s l)) ∧ Below w.heap.size w w' := by
  have HP := Lib.hid hp
  have HN := Lib.hid hn
  have HPI := Lib.hid (fun W p F h1 h2 h3 => parts_in (w := W) (p := p) (F := F) (q := q) (B := 0) (o := 0) hs hl h1 h2 h3)
  have Y0 := Lib.hid (IntBlk.new w .u8 31 (mk 128 (natF s)))
  have B0 := Lib.hid ((Below.refl _ w).alloc (Nat.le_refl _) (.cells (cellsOf .u8 (mk 128 (natF s))) 31))
  clear hp hn hs hl
  generalize hL : l.length = n at *
  go_enter Tryd.func27, Tryd.ntmps27
  go_wp2_with (first
    | (refine wpList_arr_slice rfl 31 5 128 secUnder rfl _ rfl w.heap.size 0 rfl ?_)
    | (refine wpList_part1 rfl _ rfl (some ⟨w.heap.size, 0, none⟩) 128 128 rfl ?_))
  have S1 := Lib.hid (show (w.alloc (.cells (cellsOf .u8 (mk 128 (natF s))) 31)).heap.size = w.heap.size + 1 from World.size_alloc _ _)
  generalize w.alloc (.cells (cellsOf .u8 (mk 128 (natF s))) 31) = w1 at *
  have O1 := Lib.hid (own_part1 w1 (some ⟨w.heap.size, 0, none⟩, 128, 128) w1.heap.size (Nat.le_refl _))
  have B1 := Lib.hid ((Below.refl w1.heap.size w1).alloc (Nat.le_refl _) (.cells (partC (some ⟨w.heap.size, 0, none⟩, 128, 128)).toArray 22))
  have S2 := Lib.hid (show (w1.alloc (.cells (partC (some ⟨w.heap.size, 0, none⟩, 128, 128)).toArray 22)).heap.size = w1.heap.size + 1 from World.size_alloc _ _)
  have HPZ := Lib.hid (partsL_zero w.heap.size q)
  have HPN := Lib.hid (fun k => partsL_next w.heap.size q k)
  generalize w1.alloc (.cells (partC (some ⟨w.heap.size, 0, none⟩, 128, 128)).toArray 22) = w2 at *
  rw [S1.out] at O1 B1 S2
  generalize hM : w.heap.size + 1 = M at *
  go_loopw [11, 5] (fun v11 v5 wr => ∃ k : Nat, k ≤ n ∧ v11 = .int .i64 k ∧ OwnL 22 1 partC wr M wr.heap.size v5 (partsL w.heap.size q k) ∧ Below M w1 wr) (fun v11 _ _ => n - (intOf v11).toNat)
  case atStart => exact ⟨0, Nat.zero_le _, rfl, by rw [HPZ.out, S2.out]; exact O1.out, B1.out⟩
  case round =>
    obtain ⟨k, hk, rfl, ho, hb⟩ := hrel
    have HO := Lib.hid ho
    have HB := Lib.hid hb
    clear ho hb O1 B1
    by_cases hlt : k < n
    · obtain ⟨B, o, hqe, hB, hr⟩ := rowsAt_get HP.out (show k < l.length by omega)
      have hnx := HPN.out k
      subst hqe
      rw [partAt_some] at hnx
      have HNX := Lib.hid hnx
      have HLE := Lib.hid (show (partsL w.heap.size (some ⟨B, o, none⟩) k).length ≤ 1001 by rw [partsL_len]; have := HN.out; omega)
      have f1 : (k : Int) < (n : Int) := by omega
      have f2 : (0 : Int) ≤ k := by omega
      have f3 : IntKind.i64.wrap ((k : Int) + 1) = ((k + 1 : Nat) : Int) := by have := HN.out; rw [IntWalk.i64_in _ (by omega)]; omega
      have HLT := Lib.hid hlt
      have HWM := Lib.hid (show M ≤ wr.heap.size by have := HB.out.size; have := S1.out; omega)
      clear hlt hr hB hnx
      generalize partsL w.heap.size (some ⟨B, o, none⟩) k = m at *
      go_wp2_with (first
        | (refine wpList_put_elem rfl _ _ rfl B o n cap k rfl rfl HLT.out ?_)
        | (refine wpList_putfield rfl _ 1 rfl (by decide) B (o + 129 * k) rfl ?_)
        | (refine wpList_arr_slice rfl 31 5 128 secUnder rfl _ rfl B (o + 129 * k + 1) rfl ?_)
        | (refine wpList_part1 rfl _ rfl (some ⟨B, o + 129 * k + 1, none⟩) 128 128 rfl ?_
           have B4 := Lib.hid (show Below wr.heap.size wr (wr.alloc (.cells (partC (some ⟨B, o + 129 * k + 1, none⟩, 128, 128)).toArray 22)) from (Below.refl _ _).alloc (Nat.le_refl _) _)
           have R4 := Lib.hid (rows_part1 wr (some ⟨B, o + 129 * k + 1, none⟩, 128, 128)))
        | (refine wpList_append_list elemPart rfl _ _ rfl M wr.heap.size _ m [(some ⟨B, o + 129 * k + 1, none⟩, 128, 128)] (some ⟨wr.heap.size, 0, none⟩) 1 1 rfl rfl rfl (HO.out.below (Nat.le_refl _) B4.out) R4.out (by have := HLE.out; simp; omega) (by decide) (Nat.le_trans HWM.out B4.out.size) ?_
           intro v5 w5 ho5 hg5 hr5
           have O5 := Lib.hid ho5
           have B5 := Lib.hid ((HB.out.trans (B4.out.mono HWM.out)).trans (below_own1 hg5 HO.out.block (Nat.le_trans HWM.out B4.out.size)))
           clear ho5 hg5 hr5))
      go_roundw
      case rel => exact ⟨k + 1, HLT.out, by go_num, by rw [HNX.out]; exact O5.out, B5.out⟩
      case measure => have := HLT.out; simp [intOf]; omega
    · have f1 : ¬ (k : Int) < (n : Int) := by omega
      obtain rfl : k = n := by omega
      have hpl := partsL_len w.heap.size q k
      obtain ⟨p, c, rfl, _, _, hr, hq0⟩ := HO.out.rows elemPart.len
      clear hq0
      have B6 := Lib.hid (show Below w.heap.size w wr from B0.out.trans (HB.out.mono (by omega)))
      have HI := Lib.hid (HPI.out wr p w.heap.size hr (Y0.out.below HB.out (by omega)) (HP.out.below B6.out))
      rw [hpl]
      clear hlt hk hr HO hpl
      go_wp2
      go_ret
      exact ⟨p, ⟨c, rfl⟩, ⟨_, HI.out⟩, B6.out⟩
end Go.Proofs.YtdeojhcfbiekmaaDoor
