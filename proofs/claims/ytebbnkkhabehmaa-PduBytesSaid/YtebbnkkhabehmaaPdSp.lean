/- What package pdu is asked to answer; frames that come in as arguments, opened. No condition. -/
import Derived.Test.YtebbnkkhabehmaaPdNum
namespace Go.Proofs.Ytebbnkkhabehmaa
open Go.ChangeShapes Go.WideShapes Go.ChangeAt Go.RowKit
set_option linter.unusedVariables false
/-- Data that is new memory: none, or a row of its own. -/
def DatO (W : World) (p : Option Addr) (d C S : Nat) (g : Nat → Nat) : Prop := (p = none ∧ d = 0 ∧ C = 0) ∨ ∃ D, ∃ G : Nat → Nat, p = some ⟨D, 0, none⟩ ∧ S ≤ D ∧ d ≤ C ∧ BlkR W D C G ∧ ∀ j, j < d → G j = g j
theorem DatO.bytes {W : World} {p : Option Addr} {d C S : Nat} {g : Nat → Nat} (h : DatO W p d C S g) : BytesAt W p d g := by
  rcases h with ⟨_, h, _⟩ | ⟨D, G, rfl, _, hc, hb, hg⟩
  · exact .inl h
  · exact hb.bytes hc hg
theorem DatO.below {W W' : World} {p : Option Addr} {d C S : Nat} {g : Nat → Nat} (h : DatO W p d C S g) (hb : Below W.heap.size W W') : DatO W' p d C S g := by
  rcases h with h | ⟨D, G, h1, h2, h3, h4, h5⟩
  · exact .inl h
  · exact .inr ⟨D, G, h1, h2, h3, h4.below hb h4.lt, h5⟩
theorem DatO.keep {W W' : World} {p : Option Addr} {d C S : Nat} {g : Nat → Nat} (h : DatO W p d C S g) {J : Nat} (hb : Keeps (fun j => j = J) W W') (hJ : J < S) : DatO W' p d C S g := by
  rcases h with h | ⟨D, G, h1, h2, h3, ⟨R, h4, h4'⟩, h5⟩
  · exact .inl h
  · exact .inr ⟨D, G, h1, h2, h3, ⟨R, h4, (hb.block D h4'.lt (by omega)).trans h4'⟩, h5⟩
theorem DatO.cap {W : World} {p : Option Addr} {d C S : Nat} {g : Nat → Nat} (h : DatO W p d C S g) : d ≤ C := by
  rcases h with ⟨_, h, _⟩ | ⟨D, G, _, _, h, _⟩ <;> omega
/-- A frame that lies somewhere. -/
structure Fr where
  k : Int
  n : Int
  c : Int
  p : Option Addr
  d : Nat
  cd : Nat
  g : Nat → Nat
namespace Fr
def A (f : Fr) : Array Value := frA f.k f.n f.c f.p f.d f.cd
def T (f : Fr) : Nat → Nat := frT f.k f.n f.c f.d f.g
def In (f : Fr) : Prop := inF f.k f.n f.c f.d
instance (f : Fr) : Decidable f.In := inferInstanceAs (Decidable (inF _ _ _ _))
structure Ok (W : World) (f : Fr) : Prop where
  k : okI f.k
  n : okI f.n
  c : okI f.c
  b : ∀ i, i < f.d → f.g i < 256
  at_ : BytesAt W f.p f.d f.g
  l : f.d ≤ f.cd
  m : f.cd ≤ maxLen
theorem Ok.below {W W' : World} {f : Fr} (h : Ok W f) (hb : Below W.heap.size W W') : Ok W' f := ⟨h.k, h.n, h.c, h.b, h.at_.below hb, h.l, h.m⟩
end Fr
/-- The frames of a list in memory. -/
def FrsAt (W : World) (q : Option Addr) (L : List Fr) : Prop := L = [] ∨ ∃ B o, q = some ⟨B, o, none⟩ ∧ B < W.heap.size ∧ ∀ i (f : Fr), L[i]? = some f → ∀ j, j < 4 → W.cell? ⟨B, o + 4 * i + j, none⟩ = f.A[j]?
/-- Rows of one's own in a list of one's own: those of the frames that are in form. -/
structure Out (W : World) (S LB : Nat) (LS : Array Value) (L : List Fr) (D C : Nat → Nat) (G : Nat → Nat → Nat) : Prop where
  lb : W.heap[LB]? = some (.cells LS 22 (0, 0))
  ls : ∀ i, i < L.length → LS[i]? = some (.slice (some ⟨D i, 0, none⟩) (8 + (L.getD i ⟨0, 0, 0, none, 0, 0, fun _ => 0⟩).d) (C i))
  row : ∀ i (f : Fr), L[i]? = some f → BlkR W (D i) (C i) (G i) ∧ 8 + f.d ≤ C i ∧ S ≤ D i ∧ ∀ j, j < 8 + f.d → G i j = f.T j
  ne : ∀ i j, i < L.length → j < L.length → i ≠ j → D i ≠ D j
  low : S ≤ LB
/-- What package pdu is asked to answer. -/
structure PduSpec : Prop where
  encode : ∀ {W : World} (k n c : Int) {p : Option Addr} {d cd : Nat} {g : Nat → Nat}, inF k n c d → d ≤ cd → (∀ j, j < d → g j < 256) → BytesAt W p d g →
    Calls Try.prog 8 #[.agg (frA k n c p d cd)] W fun e W' => ∃ D C, ∃ G : Nat → Nat, e = .returned (.tuple #[.slice (some ⟨D, 0, none⟩) (8 + d) C, .nilIface]) ∧ BlkR W' D C G ∧ (∀ j, j < 8 + d → G j = frT k n c d g j) ∧ 8 + d ≤ C ∧ W.heap.size ≤ D ∧ Below W.heap.size W W'
  refuse : ∀ {W : World} (k n c : Int) (p : Option Addr) (d cd : Nat), okI k → okI n → okI c → d ≤ cd → cd ≤ maxLen → ¬ inF k n c d →
    Calls Try.prog 8 #[.agg (frA k n c p d cd)] W fun e W' => e = .returned (.tuple #[.slice none 0 0, .iface 35 (.int .i64 10)]) ∧ Below W.heap.size W W'
  decode : ∀ {W : World} {p : Option Addr} {N cap : Nat} {F : Nat → Nat}, N ≤ cap → (∀ j, j < N → F j < 256) → BytesAt W p N F → isF N F →
    Calls Try.prog 16 #[.slice p N cap] W fun e W' => ∃ q C, e = .returned (.tuple #[.agg (frA (kF F) (nF F) (cF F) q (N - 8) C), .nilIface]) ∧ DatO W' q (N - 8) C W.heap.size (gF F) ∧ Below W.heap.size W W'
  reject : ∀ {W : World} {p : Option Addr} {N cap : Nat} {F : Nat → Nat}, N ≤ cap → N ≤ 140737488351232 → (∀ j, j < N → F j < 256) → BytesAt W p N F → ¬ isF N F →
    Calls Try.prog 16 #[.slice p N cap] W fun e W' => e = .returned (.tuple #[.agg (frA 0 0 0 none 0 0), .iface 35 (.int .i64 10)]) ∧ Below W.heap.size W W'
  good : ∀ {W : World}, Calls Try.prog 33 #[.nilIface] W fun e W' => e = .returned (.int .i64 0) ∧ Below W.heap.size W W'
  status : ∀ {W : World} (z : Int), 1 ≤ z → z ≤ 1000 → Calls Try.prog 33 #[.iface 35 (.int .i64 z)] W fun e W' => e = .returned (.int .i64 (stN z)) ∧ Below W.heap.size W W'
  rej : ∀ {W : World} (c : Int), okI c → Calls Try.prog 35 #[.int .i64 c] W fun e W' => ∃ q C, e = .returned (.agg (frA 7 0 c q 0 C)) ∧ Below W.heap.size W W'
  reply : ∀ {W : World} (n : Int) {p : Option Addr} {d cd : Nat} {g : Nat → Nat}, okI n → d ≤ cd → d ≤ 4096 → (∀ j, j < d → g j < 256) → BytesAt W p d g →
    Calls Try.prog 31 #[.int .i64 n, .slice p d cd, .nilIface] W fun e W' => ∃ q C, e = .returned (.agg (frA 6 n 0 q d C)) ∧ DatO W' q d C W.heap.size g ∧ Below W.heap.size W W'
  replyErr : ∀ {W : World} (n z : Int) {p : Option Addr} {d cd : Nat}, okI n → 1 ≤ z → z ≤ 1000 → d ≤ cd →
    Calls Try.prog 31 #[.int .i64 n, .slice p d cd, .iface 35 (.int .i64 z)] W fun e W' => ∃ q C, e = .returned (.agg (frA 6 n (stN z) q 0 C)) ∧ Below W.heap.size W W'
  bytes : ∀ {W : World} {q : Option Addr} {L : List Fr} {cp : Nat}, L.length ≤ cp → L.length ≤ 100000 → FrsAt W q L → (∀ f ∈ L, f.Ok W) →
    Calls Try.prog 21 #[.slice q L.length cp] W fun e W' => (L.filter (fun f => decide f.In) = [] ∧ (∃ p c, e = .returned (.slice p 0 c)) ∧ Below W.heap.size W W') ∨
      ∃ LB LS D C G c, e = .returned (.slice (some ⟨LB, 0, none⟩) (L.filter (fun f => decide f.In)).length c) ∧ Out W' W.heap.size LB LS (L.filter (fun f => decide f.In)) D C G ∧ Below W.heap.size W W'
  same : ∀ {W : World} (k n c : Int) {p q : Option Addr} {d cp cq : Nat} {g : Nat → Nat}, (∀ j, j < d → g j < 256) → BytesAt W p d g → BytesAt W q d g →
    Calls Try.prog 19 #[.agg (frA k n c p d cp), .agg (frA k n c q d cq)] W fun e W' => e = .returned (.bool true) ∧ Below W.heap.size W W'
/-! ### Arguments opened -/
theorem okI_wf {z : Int} (h : (Lit.int .i64 z).wf = true) : okI z := by have := bounds_i64 h; exact ⟨by omega, by omega⟩
theorem four_cells {cs : List Value} {a b c d : Value} (hl : cs.length = 4) (h0 : (cs.drop 0).take 1 = [a]) (h1 : (cs.drop 1).take 1 = [b]) (h2 : (cs.drop 2).take 1 = [c]) (h3 : (cs.drop 3).take 1 = [d]) : cs = [a, b, c, d] := by
  match cs, hl with
  | [x, y, z, u], _ => simp_all
theorem trod_struct4' {H : Type} {enc : TypeId × Value → H} {P : Program} {w : World} {base : Nat} {spare : Nat → Bool} {held : Bool} {t : TypeId} {f0 f1 f2 f3 : Field} {fuel : Nat} {cs : List Value} {x : DataW H × List MemPlace} (ht : P.underlying t = some (.struct #[f0, f1, f2, f3])) (h : DataW.trod enc P w base spare held fuel t cs = some x) :
    ∃ y0 y1 y2 y3 n, cs.length = P.cellsOf t ∧ DataW.trod enc P w base spare held n f0.type ((cs.drop f0.offset).take (P.cellsOf f0.type)) = some y0 ∧ DataW.trod enc P w base spare held n f1.type ((cs.drop f1.offset).take (P.cellsOf f1.type)) = some y1 ∧ DataW.trod enc P w base spare held n f2.type ((cs.drop f2.offset).take (P.cellsOf f2.type)) = some y2 ∧ DataW.trod enc P w base spare held n f3.type ((cs.drop f3.offset).take (P.cellsOf f3.type)) = some y3 := by
  obtain ⟨xs, n, _, rfl, hl, hlen, hf⟩ := DataW.trod_struct ht h
  match xs, hlen with
  | [y0, y1, y2, y3], _ => exact ⟨y0, y1, y2, y3, n, hl, by simpa using hf 0 f0 rfl, by simpa using hf 1 f1 rfl, by simpa using hf 2 f2 rfl, by simpa using hf 3 f3 rfl⟩
theorem open_bytes_cell {H : Type} {enc : TypeId × Value → H} {W : World} {base fuel : Nat} {spare : Nat → Bool} {held : Bool} {cs : List Value} {x : DataW H × List MemPlace} (hf : DataW.trod enc Try.prog W base spare held fuel 22 cs = some x) :
    ∃ (q : Option Addr) (n cap : Nat) (g : Nat → Nat), cs = [.slice q n cap] ∧ (∀ i, i < n → g i < 256) ∧ BytesAt W q n g ∧ n ≤ cap ∧ cap ≤ maxLen := by
  have ht : Try.prog.underlying 22 = some (.slice 5) := Try.underlying22
  have ck : Try.prog.cellsOf 5 = 1 := by kernel_rfl
  rcases Deep.open_slice1 ht ck hf with ⟨h0, _⟩ | ⟨a, len, cap', m, k, V, D, Pl, h0, hb, hl, hm, hmm, _, hx⟩
  · exact ⟨none, 0, 0, zeroK, h0, fun i hi => absurd hi (Nat.not_lt_zero _), .inl rfl, Nat.le_refl _, Nat.zero_le _⟩
  · obtain ⟨n, hn⟩ : ∃ n, len = n := ⟨_, rfl⟩
    subst hn
    by_cases hz : len = 0
    · exact ⟨some a, len, cap', zeroK, h0, fun i hi => absurd hi (by omega), .inl hz, hl, hm⟩
    · have hnm : len ≤ m := by rw [hmm]; split <;> omega
      have each : ∀ i, i < len → ∃ x : Nat, x < 256 ∧ W.cell? (a.add i) = some (.int .u8 x) := fun i hi => by
        obtain ⟨h1, h2⟩ := hx i (by omega)
        obtain ⟨x, hx1, _, hw⟩ := DataW.trod_int Try.underlying5 h2
        have hb := bounds_u8 hw
        simp only [List.cons.injEq, and_true] at hx1
        refine ⟨x.toNat, by omega, ?_⟩
        rw [show ((x.toNat : Nat) : Int) = x by omega, ← hx1]; exact h1
      obtain ⟨B, o, spot⟩ := a
      obtain ⟨x0, _, hx0⟩ := each 0 (by omega)
      have hspot : spot = none := by simpa [Addr.add] using World.cell?_spot hx0
      subst hspot
      simp only [add_plain] at each hx0
      refine ⟨_, len, cap', fun i => byteAt W B (o + i), h0, fun i hi => ?_, .inr ⟨B, o, rfl, block_lt_of_cell hx0, fun i hi => ?_⟩, hl, hm⟩
      · obtain ⟨x, hx1, hx2⟩ := each i hi
        show byteAt W B (o + i) < 256
        rw [byteAt_is hx2]; exact hx1
      · obtain ⟨x, hx1, hx2⟩ := each i hi
        show W.cell? ⟨B, o + i, none⟩ = some (.int .u8 (byteAt W B (o + i) : Nat))
        rw [byteAt_is hx2]; exact hx2
set_option maxRecDepth 100000 in
theorem open_frame_cells {H : Type} {enc : TypeId × Value → H} {W : World} {base fuel : Nat} {spare : Nat → Bool} {held : Bool} {cs : List Value} {x : DataW H × List MemPlace} (hf : DataW.trod enc Try.prog W base spare held fuel 24 cs = some x) :
    ∃ f : Fr, cs = f.A.toList ∧ f.Ok W := by
  obtain ⟨y0, y1, y2, y3, n, hl, t0, t1, t2, t3⟩ := trod_struct4' Try.underlying24 hf
  have hs4 : Try.prog.cellsOf 24 = 4 := by kernel_rfl
  have k0 : Try.prog.cellsOf 22 = 1 := by kernel_rfl
  have k2 : Try.prog.cellsOf 3 = 1 := by kernel_rfl
  rw [hs4] at hl
  simp only [k0, k2] at t0 t1 t2 t3
  obtain ⟨z0, e0, _, w0⟩ := DataW.trod_int Try.underlying3 t0
  obtain ⟨z1, e1, _, w1⟩ := DataW.trod_int Try.underlying3 t1
  obtain ⟨z2, e2, _, w2⟩ := DataW.trod_int Try.underlying3 t2
  obtain ⟨q, m, c, g, e3, h1, h2, h3, h4⟩ := open_bytes_cell t3
  exact ⟨⟨z0, z1, z2, q, m, c, g⟩, four_cells hl e0 e1 e2 e3, ⟨okI_wf w0, okI_wf w1, okI_wf w2, h1, h2, h3, h4⟩⟩
set_option maxRecDepth 100000 in
theorem open_frame {H : Type} {enc : TypeId × Value → H} {W : World} {r : Reach} {b0 base : Nat} {spare : Nat → Bool} {held : Bool} {v : Value} {d : DataW H} {p : List MemPlace} (hv : Value.okWide Try.prog W r b0 24 v) (h : DataW.Trod enc Try.prog W base spare held 24 v d p) :
    ∃ f : Fr, v = .agg f.A ∧ f.Ok W := by
  obtain ⟨cs, rfl, hsz⟩ := okWide_struct (t := 24) Try.underlying24 hv
  obtain ⟨fuel, hf⟩ := h
  have hdd : (Value.cells (.agg cs)).toList = cs.toList := rfl
  rw [hdd] at hf
  obtain ⟨f, hc, ok⟩ := open_frame_cells hf
  exact ⟨f, by rw [← Array.toArray_toList (xs := cs), hc, Array.toArray_toList], ok⟩
set_option maxRecDepth 100000 in
theorem open_replied {H : Type} {enc : TypeId × Value → H} {W : World} {r : Reach} {b0 base : Nat} {spare : Nat → Bool} {held : Bool} {v : Value} {d : DataW H} {p : List MemPlace} (hv : Value.okWide Try.prog W r b0 47 v) (h : DataW.Trod enc Try.prog W base spare held 47 v d p) :
    ∃ (z0 z1 z3 : Int) (q : Option Addr) (n c : Nat) (g : Nat → Nat), v = .agg #[.int .i64 z0, .int .i64 z1, .slice q n c, .int .i64 z3] ∧ okI z0 ∧ okI z1 ∧ okI z3 ∧ (∀ i, i < n → g i < 256) ∧ BytesAt W q n g ∧ n ≤ c ∧ c ≤ maxLen := by
  obtain ⟨cs, rfl, hsz⟩ := okWide_struct (t := 47) Try.underlying47 hv
  obtain ⟨fuel, hf⟩ := h
  have hdd : (Value.cells (.agg cs)).toList = cs.toList := rfl
  rw [hdd] at hf
  obtain ⟨y0, y1, y2, y3, n, hl, t0, t1, t2, t3⟩ := trod_struct4' Try.underlying47 hf
  have hs4 : Try.prog.cellsOf 47 = 4 := by kernel_rfl
  have k0 : Try.prog.cellsOf 22 = 1 := by kernel_rfl
  have k2 : Try.prog.cellsOf 3 = 1 := by kernel_rfl
  rw [hs4] at hl
  simp only [k0, k2] at t0 t1 t2 t3
  obtain ⟨z0, e0, _, w0⟩ := DataW.trod_int Try.underlying3 t0
  obtain ⟨z1, e1, _, w1⟩ := DataW.trod_int Try.underlying3 t1
  obtain ⟨q, m, c, g, e2, h1, h2, h3, h4⟩ := open_bytes_cell t2
  obtain ⟨z3, e3, _, w3⟩ := DataW.trod_int Try.underlying3 t3
  have hc := four_cells hl e0 e1 e2 e3
  exact ⟨z0, z1, z3, q, m, c, g, by rw [← Array.toArray_toList (xs := cs), hc], okI_wf w0, okI_wf w1, okI_wf w3, h1, h2, h3, h4⟩
end Go.Proofs.Ytebbnkkhabehmaa
