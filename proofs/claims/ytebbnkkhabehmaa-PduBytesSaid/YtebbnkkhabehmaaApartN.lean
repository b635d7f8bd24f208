/- What citadelnum's Apart does to rows of bytes, step by step: rows marked, rows grown, the list of grown rows. Conditions: rows of no more than 2^47 - 4096 bytes, each in a block of its own or nil, with any room. -/
import Derived.Test.YtebbnkkhabehmaaWdBase
namespace Go.Proofs.Ytebbnkkhabehmaa.apart
open Go.ChangeShapes Go.WideShapes Go.ChangeAt Go.RowKit
set_option linter.unusedVariables false

theorem listInfo : (Try.prog.info? 22).map (·.size) = some 1 := by kernel_rfl
theorem listBytes : (Try.prog.info? 22).map (·.bytes) = some 24 := by kernel_rfl
theorem listZero : (Try.prog.info? 22).bind (·.zero) = some (.slice none 0 0) := by kernel_rfl

/-- What is written into row k at j. -/
def patK (k : Nat) : Nat → Nat := fun j => (29 * k + 5 * j + 3) % 256
theorem patK_lt (k j : Nat) : patK k j < 256 := Nat.mod_lt _ (by omega)
theorem patK_is (k j : Nat) : (29 * (k : Int) + 5 * (j : Int) + 3) % 256 = (patK k j : Nat) := by unfold patK; omega
def lenV : Value → Nat | .slice _ n _ => n | _ => 0

/-- The slices: how many, how long, with how much room, in which blocks, which of them are nil, how large the blocks are. -/
structure Lists where
  K : Nat
  D : Nat → Nat
  N : Nat → Nat
  C : Nat → Nat
  nl : Nat → Bool
  R : Nat → Nat
namespace Lists
def p (L : Lists) (i : Nat) : Option Addr := if L.nl i then Option.none else some ⟨L.D i, 0, Option.none⟩
def v (L : Lists) (i : Nat) : Value := .slice (L.p i) (L.N i) (L.C i)
def row (L : Lists) (i : Nat) : Option Nat := if L.nl i then Option.none else some (L.D i)
theorem row_is {L : Lists} {i B : Nat} (h : L.row i = some B) : L.nl i = false ∧ B = L.D i := by
  unfold row at h
  cases hn : L.nl i with
  | true => rw [hn] at h; simp at h
  | false => rw [hn] at h; simp at h; exact ⟨rfl, h.symm⟩
theorem row_of {L : Lists} {i : Nat} (h : L.nl i = false) : L.row i = some (L.D i) := by unfold row; rw [h]; rfl
theorem p_of {L : Lists} {i : Nat} (h : L.nl i = false) : L.p i = some ⟨L.D i, 0, Option.none⟩ := by unfold p; rw [h]; rfl
theorem p_nil {L : Lists} {i : Nat} (h : L.nl i = true) : L.p i = Option.none := by unfold p; rw [h]; rfl
structure Ok (L : Lists) (T S LB : Nat) (LS : Array Value) : Prop where
  k1 : 1 ≤ L.K
  k3 : L.K ≤ 20000
  len : ∀ i, i < L.K → L.N i ≤ L.C i ∧ L.N i ≤ L.N i + 2 ∧ L.N i ≤ 140737488351232
  none : ∀ i, i < L.K → L.nl i = true → L.N i = 0 ∧ L.C i = 0
  ne : ∀ i j, i < L.K → j < L.K → L.nl i = false → L.nl j = false → i ≠ j → L.D i ≠ L.D j
  low : ∀ i, i < L.K → L.nl i = false → T ≤ L.D i ∧ L.D i < S
  list : ∀ i, i < L.K → LS[i]? = some (L.v i)
  lb : LB < S
  ts : T ≤ S
  room : ∀ i, i < L.K → L.C i ≤ L.R i
end Lists
/-- A list's block is no row's. -/
theorem list_ne {V : World} {LB B : Nat} {LS : Array Value} {l : List Int} (h1 : V.heap[LB]? = some (.cells LS 22 (0, 0))) (h2 : IntBlk V B .u8 5 l) : LB ≠ B := fun e => by
  rw [e] at h1
  have := h1.symm.trans h2
  simp at this
def hA (N : Nat → Nat) (f : Nat → Nat → Nat) (k j i : Nat) : Nat → Nat := fun x => if (i < k ∧ x < N i) ∨ (i = k ∧ x < j) then patK i x else f i x
theorem hA_zero (N : Nat → Nat) (f : Nat → Nat → Nat) (i : Nat) : hA N f 0 0 i = f i := by funext x; unfold hA; rw [if_neg (by omega)]
theorem hA_next (N : Nat → Nat) (f : Nat → Nat → Nat) (k i : Nat) : hA N f k (N k) i = hA N f (k + 1) 0 i := by
  funext x
  unfold hA
  by_cases h : (i < k ∧ x < N i) ∨ (i = k ∧ x < N k)
  · rw [if_pos h, if_pos (by rcases h with h | ⟨rfl, h⟩; exact .inl ⟨by omega, h.2⟩; exact .inl ⟨by omega, h⟩)]
  · rw [if_neg h, if_neg (by
      rintro (⟨h1, h2⟩ | ⟨h1, h2⟩)
      · by_cases e : i = k
        · subst e; exact h (.inr ⟨rfl, h2⟩)
        · exact h (.inl ⟨by omega, h2⟩)
      · omega)]
theorem hA_step (N : Nat → Nat) (f : Nat → Nat → Nat) (k j M : Nat) (y : Int) (hy : y = (patK k j : Nat)) : (mk M (hA N f k j k)).set j y = mk M (hA N f k (j + 1) k) :=
  mk_set_is hy fun x hx => by
    unfold hA
    by_cases e : x = j
    · subst e; rw [if_pos rfl, if_pos (by omega)]
    · rw [if_neg e]
      by_cases h : (k < k ∧ x < N k) ∨ (k = k ∧ x < j)
      · rw [if_pos h, if_pos (by omega)]
      · rw [if_neg h, if_neg (by omega)]
theorem hA_other (N : Nat → Nat) (f : Nat → Nat → Nat) (k j i : Nat) (h : i ≠ k) : hA N f k (j + 1) i = hA N f k j i := by
  funext x; unfold hA
  by_cases e : i < k ∧ x < N i
  · rw [if_pos (.inl e), if_pos (.inl e)]
  · rw [if_neg (by omega), if_neg (by omega)]
/-- A row whose first M bytes are marked. -/
def pF (f : Nat → Nat) (k M : Nat) : Nat → Nat := fun x => if x < M then patK k x else f x
theorem hA_end (N : Nat → Nat) (f : Nat → Nat → Nat) (K i : Nat) (hi : i < K) : hA N f K 0 i = pF (f i) i (N i) := by
  funext x; unfold hA pF
  by_cases h : x < N i
  · rw [if_pos (.inl ⟨hi, h⟩), if_pos h]
  · rw [if_neg (by omega), if_neg h]
theorem pF_put (f : Nat → Nat) (k M C : Nat) : mk C (put (pF f k M) M 1 (fun _ => patK k M)) = mk C (pF f k (M + 1)) := mk_ext fun x _ => by
  unfold put pF
  by_cases e : x = M
  · subst e; rw [if_pos (by omega), if_pos (by omega)]
  · rw [if_neg (by omega)]
    by_cases h : x < M
    · rw [if_pos h, if_pos (by omega)]
    · rw [if_neg h, if_neg (by omega)]
theorem pF_in {f : Nat → Nat} {k M x : Nat} (h : x < M) : pF f k M x = patK k x := if_pos h
/-- The first two loops' state. -/
def StA (L : Lists) (T LB : Nat) (LS : Array Value) (f : Nat → Nat → Nat) (w : World) (k j : Nat) (V : World) : Prop :=
  V.heap[LB]? = some (.cells LS 22 (0, 0)) ∧ (∀ i, i < L.K → L.nl i = false → IntBlk V (L.D i) .u8 5 (mk (L.R i) (hA L.N f k j i))) ∧ Below T w V ∧ V.heap.size = w.heap.size
theorem StA.step {L : Lists} {T S LB k j : Nat} {LS : Array Value} {f : Nat → Nat → Nat} {w V : World} (o : L.Ok T S LB LS) (h : StA L T LB LS f w k j V) (hk : k < L.K) (hn : L.nl k = false) (y : Int) (hy : y = (patK k j : Nat)) :
    StA L T LB LS f w k (j + 1) (V.setCell ⟨L.D k, j, none⟩ (.int .u8 y)) := by
  have ne := list_ne h.1 (h.2.1 k hk hn)
  refine ⟨(Below.heap_setCell _ _ _ LB (by show LB ≠ L.D k; exact ne)).trans h.1, fun i hi hni => ?_, h.2.2.1.setCell (p := ⟨L.D k, j, none⟩) (o.low k hk hn).1 _, by rw [← h.2.2.2]; simp [World.setCell]⟩
  by_cases e : i = k
  · subst e
    have := (h.2.1 i hi hni).set j y
    rw [hA_step L.N f i j (L.R i) y hy] at this
    exact this
  · rw [hA_other L.N f k j i e]
    exact (h.2.1 i hi hni).other (by show L.D k ≠ L.D i; exact o.ne k i hk hi hn hni (fun h => e h.symm)) _
theorem heap_cell {V : World} {LB i : Nat} {LS : Array Value} {t : TypeId} {x : Value} (h : V.heap[LB]? = some (.cells LS t (0, 0))) (hi : LS[i]? = some x) : V.cell? ⟨LB, i, none⟩ = some x := by
  rw [cell_of_row V LB i LS t (0, 0) h]; exact hi

/-! ### Appends -/
theorem append_own_wide {base top k : Nat} {v : Value} {F : Nat → Nat} (w : World) (ty : TypeId) (hv : OwnS 5 1 w base top v k F) (B c b : Nat) (hB : w.cell? ⟨B, 0, none⟩ = some (.int .u8 (b : Nat))) (hf : F k = b) (hk : k + 1 ≤ 140737488355328) (hbase : base ≤ w.heap.size) :
    ∃ v' w', (Builtin.append_ #[22, 22] ty #[v, .slice (some ⟨B, 0, none⟩) 1 c]).run Try.prog w = .ok v' w' ∧ OwnS 5 1 w' base w'.heap.size v' (k + 1) F ∧ Below base w w' := by
  have hi := byteInfo
  have hz := byteZero1
  have hb := byteBytes1
  cases hq : Try.prog.info? 5 with
  | none => rw [hq] at hi; simp at hi
  | some i =>
    rw [hq] at hi hb hz
    have hsz : i.size = 1 := by simpa using hi
    have hzz : i.zero = some (.int .u8 0) := by simpa using hz
    have hby : i.bytes = 1 := by simpa using hb
    obtain ⟨v', w', hrun, r1, r2, _⟩ := run_append_own (P := Try.prog) w base 22 ty 5 i (.int .u8 0) 1 1 bytesUnder hq hzz hsz hby rfl (by omega)
      v k (bytesList (k * 1) F) hv.owns ⟨B, 0, none⟩ 1 c (bytesList 1 (fun _ => b)) (by rw [bytesList_len]) (fun j u hj => by
        obtain ⟨hj1, rfl⟩ := bytesList_get hj
        obtain rfl : j = 0 := by omega
        rw [addr_add]; exact hB) bytesList_one (by simp only [maxLen]; omega) (by omega) hbase
    rw [bytesList_more (k * 1) 1 F (fun _ => b) (fun j hj => by obtain rfl : j = 0 := by omega
                                                                rw [Nat.mul_one, Nat.add_zero]; exact hf.symm), show k * 1 + 1 = (k + 1) * 1 by omega] at r1
    exact ⟨v', w', hrun, OwnS.of_owns r1, below_own r2 hv.block hbase⟩
theorem append_room_byte (w : World) (ty : TypeId) (D k C N B c b : Nat) (F : Nat → Nat) (hD : IntBlk w D .u8 5 (mk N F)) (hk : k < C) (hCN : C ≤ N) (hB : w.cell? ⟨B, 0, none⟩ = some (.int .u8 (b : Nat))) :
    (Builtin.append_ #[22, 22] ty #[.slice (some ⟨D, 0, none⟩) k C, .slice (some ⟨B, 0, none⟩) 1 c]).run Try.prog w = .ok (.slice (some ⟨D, 0, none⟩) (k + 1) C) (w.setRow D (cellsOf .u8 (mk N (put F k 1 (fun _ => b))))) := by
  have hi := byteInfo
  cases hq : Try.prog.info? 5 with
  | none => rw [hq] at hi; simp at hi
  | some i =>
    rw [hq] at hi
    have hsz : i.size = 1 := by simpa using hi
    have hcs : (cellsOf .u8 (mk N F)).size = N := by rw [cellsOf_size, mk_len]
    have e := run_append_room (P := Try.prog) w 22 ty 5 i bytesUnder hq D k C (cellsOf .u8 (mk N F)) hD ⟨B, 0, none⟩ 1 c [.int .u8 (b : Nat)] (by rw [hsz]; rfl) (fun j u hj => by
      rcases j with _ | j
      · simp only [List.getElem?_cons_zero, Option.some.injEq] at hj; subst hj; rw [addr_add]; exact hB
      · simp at hj) (fun u hu => by simp only [List.mem_singleton] at hu; subst hu; rfl) (by omega) (by rw [hsz, hcs]; simp; omega)
    have hp := put_cells N F (o := k) (n := 1) (fun _ => b) (by omega)
    have hl : ((mk 1 fun _ => b).map (Value.int .u8)) = [.int .u8 (b : Nat)] := rfl
    rw [hl] at hp
    rw [hsz, Nat.mul_one, List.length_singleton, List.append_assoc, hp] at e
    exact e
theorem append_full_byte {w : World} (ty : TypeId) {D N C R : Nat} {F G : Nat → Nat} (h : IntBlk w D .u8 5 (mk R F)) (hCR : C ≤ R) (hFG : ∀ j, j < N → F j = G j) (hC : N = C) (hN : N + 1 ≤ 140737488355328) (B c b : Nat) (hB : w.cell? ⟨B, 0, none⟩ = some (.int .u8 (b : Nat))) (hb : G N = b) :
    ∃ v' w', (Builtin.append_ #[22, 22] ty #[.slice (some ⟨D, 0, none⟩) N C, .slice (some ⟨B, 0, none⟩) 1 c]).run Try.prog w = .ok v' w' ∧ OwnS 5 1 w' w.heap.size w'.heap.size v' (N + 1) G ∧ w.grownBy w' none := by
  subst hC
  have hi := byteInfo
  have hz := byteZero1
  have hbb := byteBytes1
  cases hq : Try.prog.info? 5 with
  | none => rw [hq] at hi; simp at hi
  | some i =>
    rw [hq] at hi hz hbb
    obtain ⟨v', w', hr, ho, hg⟩ := run_append_arg_grows (P := Try.prog) (w := w) 22 ty 5 i (.int .u8 0) 1 1 bytesUnder hq (by simpa using hz) (by simpa using hi) (by simpa using hbb) rfl (by omega) ⟨D, 0, none⟩ N N (bytesList N G) (by rw [bytesList_len, Nat.mul_one]) (fun j u hj => by
        obtain ⟨hj1, rfl⟩ := bytesList_get hj
        rw [addr_add, ← hFG j hj1]
        have := h.cells (o := 0) (n := N) (by omega) j hj1
        simp only [Nat.zero_add] at this ⊢
        exact this) ⟨B, 0, none⟩ 1 c [.int .u8 (b : Nat)] rfl (fun j y hj => by
      rcases j with _ | j
      · simp only [List.getElem?_cons_zero, Option.some.injEq] at hj; subst hj; rw [addr_add]; exact hB
      · simp at hj) (by omega) (by simp only [maxLen]; omega) (by omega)
    refine ⟨v', w', hr, OwnS.of_owns ?_, hg⟩
    have : bytesList N G ++ [.int .u8 (b : Nat)] = bytesList ((N + 1) * 1) G := by
      rw [Nat.mul_one]; unfold bytesList; rw [List.range_succ, List.map_append, List.map_singleton, hb]
    rw [← this]; exact ho
theorem append_list {w : World} {base n : Nat} {v : Value} {xs : List Value} (ty : TypeId) (h : w.ownsRow base 22 1 v n xs) (B : Nat) (u : Value) (hB : w.cell? ⟨B, 0, none⟩ = some u) (hu : u.oneCell' = true) (hn : n ≤ 30000) (hbase : base ≤ w.heap.size) :
    ∃ v' w', (Builtin.append_ #[37, 37] ty #[v, .slice (some ⟨B, 0, none⟩) 1 1]).run Try.prog w = .ok v' w' ∧ w'.ownsRow base 22 1 v' (n + 1) (xs ++ [u]) ∧ w.grownBy w' v.ownBlock := by
  have hi := listInfo
  have hb := listBytes
  have hz := listZero
  cases hq : Try.prog.info? 22 with
  | none => rw [hq] at hi; simp at hi
  | some i =>
    rw [hq] at hi hb hz
    obtain ⟨v', w', hr, ho, hg, _⟩ := run_append_own (P := Try.prog) (w := w) base 37 ty 22 i (.slice none 0 0) 1 24 Try.underlying37 hq (by simpa using hz) (by simpa using hi) (by simpa using hb) rfl (by omega) v n xs h ⟨B, 0, none⟩ 1 1 [u] rfl (fun j y hj => by
      rcases j with _ | j
      · simp only [List.getElem?_cons_zero, Option.some.injEq] at hj; subst hj; rw [addr_add]; exact hB
      · simp at hj) (fun y hy => by simp only [List.mem_singleton] at hy; subst hy; exact hu) (by simp only [maxLen]; omega) (by omega) hbase
    exact ⟨v', w', hr, ho, hg⟩
theorem OwnS.low {base base' top k : Nat} {v : Value} {F : Nat → Nat} {w : World} (h : OwnS 5 1 w base top v k F) (hb : base' ≤ base) : OwnS 5 1 w base' top v k F := by
  rcases h with h | ⟨B, c, cur, h1, h2, h3⟩
  · exact .inl h
  · exact .inr ⟨B, c, cur, h1, Nat.le_trans hb h2, h3⟩
theorem OwnS.keep {row : Option Nat} {base top k : Nat} {v : Value} {F : Nat → Nat} {w w' : World} (h : OwnS 5 1 w base top v k F) (ht : top ≤ w.heap.size) (hg : w.grownBy w' row) (hne : v.ownBlock = none ∨ v.ownBlock ≠ row) : OwnS 5 1 w' base top v k F := by
  rcases h with h | ⟨B, c, cur, h1, h2, h3, h4, h5⟩
  · exact .inl h
  · subst h1
    refine .inr ⟨B, c, cur, rfl, h2, h3, ?_, h5⟩
    rw [hg.block B (by omega) (by simpa [Value.ownBlock] using hne)]; exact h4
theorem owns_below {V V' : World} {S : Nat} {e : TypeId} {sz n : Nat} {v : Value} {xs : List Value} (h : V.ownsRow S e sz v n xs) (hb : ∀ B, S ≤ B → B < V.heap.size → V'.heap[B]? = V.heap[B]?) : V'.ownsRow S e sz v n xs := by
  obtain ⟨h0, h1 | ⟨g, c, cur, hv, hg, hh, r⟩⟩ := h
  · exact ⟨h0, .inl h1⟩
  · exact ⟨h0, .inr ⟨g, c, cur, hv, hg, (hb g hg (lt_of_block hh)).trans hh, r⟩⟩

/-! ### Rows grown -/
/-- The state of a row that grows. -/
def StBi (L : Lists) (f : Nat → Nat → Nat) (k : Nat) (V : World) (j : Nat) (v : Value) (wi : World) : Prop :=
  V.grownBy wi (L.row k) ∧
  ((L.nl k = false ∧ L.N k + j ≤ L.C k ∧ v = .slice (some ⟨L.D k, 0, none⟩) (L.N k + j) (L.C k) ∧ IntBlk wi (L.D k) .u8 5 (mk (L.R k) (pF (f k) k (L.N k + j)))) ∨
   (OwnS 5 1 wi V.heap.size wi.heap.size v (L.N k + j) (patK k) ∧ (L.nl k = false → ∃ M, L.N k ≤ M ∧ IntBlk wi (L.D k) .u8 5 (mk (L.R k) (pF (f k) k M)))))
theorem StBi.slice {L : Lists} {f : Nat → Nat → Nat} {k j : Nat} {V wi : World} {v : Value} (h : StBi L f k V j v wi) : ∃ q c, v = .slice q (L.N k + j) c := by
  rcases h.2 with ⟨_, _, rfl, _⟩ | ⟨hv, _⟩
  · exact ⟨_, _, rfl⟩
  · obtain ⟨q, c, rfl, _⟩ := hv.bytes (Nat.le_refl _)
    exact ⟨_, _, rfl⟩
theorem StBi.append {L : Lists} {T S LB k j : Nat} {LS : Array Value} {f : Nat → Nat → Nat} {V wi : World} {u : Value} (o : L.Ok T S LB LS) (hk : k < L.K) (hDV : L.nl k = false → L.D k < V.heap.size) (h : StBi L f k V j u wi) (hj : j < 10) (pk : Nat) (hpk : patK k (L.N k + j) = pk) (ty : TypeId) :
    ∃ v' w', (Builtin.append_ #[22, 22] ty #[u, .slice (some ⟨wi.heap.size, 0, none⟩) 1 1]).run Try.prog (wi.alloc (.cells #[.int .u8 (pk : Nat)] 5)) = .ok v' w' ∧ StBi L f k V (j + 1) v' w' := by
  have hn := heap_alloc_new wi (.cells #[.int .u8 (pk : Nat)] 5)
  have hc := cell_of_one hn
  have hl := o.len k hk
  have hroom2 := o.room k hk
  have g1 : V.grownBy (wi.alloc (.cells #[.int .u8 (pk : Nat)] 5)) (L.row k) := World.grownBy.andThen h.1 (World.grownBy_alloc wi _ none) (fun j hj => by cases hj)
  rcases h.2 with ⟨hnl, hroom, rfl, hrow⟩ | ⟨hv, hrow⟩
  · by_cases hlt : L.N k + j < L.C k
    · refine ⟨_, _, append_room_byte _ ty (L.D k) (L.N k + j) (L.C k) (L.R k) wi.heap.size 1 pk _ (hrow.alloc _) hlt hroom2 hc, ?_, .inl ⟨hnl, by omega, by rw [Nat.add_assoc], ?_⟩⟩
      · rw [Lists.row_of hnl] at g1 ⊢
        refine World.grownBy.andThen g1 (?_ : World.grownBy _ _ (some (L.D k))) (fun j hj => .inr hj)
        exact ⟨rfl, rfl, rfl, by simp, fun i _ hne => setRow_other _ _ _ _ (fun e => hne (by rw [e]))⟩
      · have := (hrow.alloc (.cells #[.int .u8 (pk : Nat)] 5)).setRow .u8 (mk (L.R k) (put (pF (f k) k (L.N k + j)) (L.N k + j) 1 (fun _ => pk)))
        have e : mk (L.R k) (pF (f k) k (L.N k + (j + 1))) = mk (L.R k) (put (pF (f k) k (L.N k + j)) (L.N k + j) 1 (fun _ => pk)) := by rw [← hpk, pF_put, Nat.add_assoc]
        rw [e]
        exact this
    · obtain ⟨v', w', hr, ho, hg⟩ := append_full_byte ty (hrow.alloc (.cells #[.int .u8 (pk : Nat)] 5)) hroom2 (G := patK k) (fun x hx => pF_in hx) (by omega) (by omega) wi.heap.size 1 pk hc hpk
      refine ⟨v', w', hr, World.grownBy.andThen g1 hg (fun j hj => by cases hj), .inr ⟨OwnS.low (by rw [Nat.add_assoc] at ho; exact ho) (by rw [World.size_alloc]; have := h.1.size; omega), fun _ => ⟨L.N k + j, by omega, ?_⟩⟩⟩
      have hr2 := hrow.alloc (.cells #[.int .u8 (pk : Nat)] 5)
      unfold IntBlk
      rw [hg.block _ hr2.lt (by simp)]
      exact hr2
  · have hv2 := hv.same (w' := wi.alloc (.cells #[.int .u8 (pk : Nat)] 5)) (fun B _ hB => Below.heap_alloc _ _ _ hB)
    obtain ⟨v', w', hr, ho, hb⟩ := append_own_wide (wi.alloc (.cells #[.int .u8 (pk : Nat)] 5)) ty hv2 wi.heap.size 1 pk hc hpk (by omega) (by rw [World.size_alloc]; have := h.1.size; omega)
    refine ⟨v', w', hr, ⟨hb.os.trans g1.os, hb.tape.trans g1.tape, hb.output.trans g1.output, Nat.le_trans g1.size hb.size, fun i hi hne => (hb.block i hi).trans (g1.block i hi hne)⟩, .inr ⟨by rw [Nat.add_assoc] at ho; exact ho, fun hnl => ?_⟩⟩
    obtain ⟨M, hM, hr2⟩ := hrow hnl
    refine ⟨M, hM, ?_⟩
    unfold IntBlk
    rw [hb.block _ (hDV hnl)]
    exact hr2.alloc _
theorem StBi.start {L : Lists} {T S LB k : Nat} {LS : Array Value} {f : Nat → Nat → Nat} {V : World} (o : L.Ok T S LB LS) (hk : k < L.K) (h : L.nl k = false → IntBlk V (L.D k) .u8 5 (mk (L.R k) (pF (f k) k (L.N k)))) :
    StBi L f k V 0 (.slice (L.p k) (L.N k) (L.C k)) V := by
  refine ⟨World.grownBy.refl _ _, ?_⟩
  cases hn : L.nl k with
  | false => exact .inl ⟨rfl, (o.len k hk).1, by rw [Lists.p_of hn, Nat.add_zero], h hn⟩
  | true =>
    obtain ⟨h1, h2⟩ := o.none k hk hn
    exact .inr ⟨.inl ⟨by rw [Lists.p_nil hn, h1, h2], by rw [h1]⟩, fun e => by cases e⟩
/-- A grown row: one of its own, or the old one, grown into its room. -/
def GrownK (L : Lists) (f : Nat → Nat → Nat) (S i : Nat) (v : Value) (V : World) : Prop :=
  OwnS 5 1 V S V.heap.size v (L.N i + 10) (patK i) ∨ (L.nl i = false ∧ L.N i + 10 ≤ L.C i ∧ v = .slice (some ⟨L.D i, 0, none⟩) (L.N i + 10) (L.C i) ∧ IntBlk V (L.D i) .u8 5 (mk (L.R i) (pF (f i) i (L.N i + 10))))
/-- The next two loops' state: the grown slices. -/
def StB (L : Lists) (T S LB : Nat) (LS : Array Value) (f : Nat → Nat → Nat) (w : World) (k : Nat) (vg : Value) (V : World) : Prop :=
  V.heap[LB]? = some (.cells LS 22 (0, 0)) ∧ Below T w V ∧ S ≤ V.heap.size ∧
  (∀ i, i < L.K → L.nl i = false → ∃ M, L.N i ≤ M ∧ (k ≤ i → M = L.N i) ∧ IntBlk V (L.D i) .u8 5 (mk (L.R i) (pF (f i) i M))) ∧
  ∃ G : Nat → Value, V.ownsRow S 22 1 vg k ((List.range k).map G) ∧ ∀ i, i < k → GrownK L f S i (G i) V
theorem StB.start {L : Lists} {T S LB : Nat} {LS : Array Value} {f : Nat → Nat → Nat} {w V : World} (o : L.Ok T S LB LS) (hS : w.heap.size = S) (h : StA L T LB LS f w L.K 0 V) :
    StB L T S LB LS f w 0 (.slice (some ⟨V.heap.size, 0, none⟩) 0 0) (V.alloc (.cells #[] 22)) := by
  have hz : V.heap.size = S := h.2.2.2.trans hS
  have a1 : Below V.heap.size V (V.alloc (.cells #[] 22)) := (Below.refl _ _).alloc (Nat.le_refl _) _
  refine ⟨(a1.block LB (lt_of_block h.1)).trans h.1, h.2.2.1.trans (a1.mono (by have := o.ts; omega)), by rw [World.size_alloc]; omega, fun i hi hn => ⟨L.N i, Nat.le_refl _, fun _ => rfl, ?_⟩, fun _ => undef, ⟨rfl, .inr ⟨V.heap.size, 0, #[], rfl, by omega, heap_alloc_new _ _, Nat.le_refl _, Nat.zero_le _, rfl, rfl⟩⟩, fun i hi => absurd hi (by omega)⟩
  have := h.2.1 i hi hn
  rw [hA_end L.N f L.K i hi] at this
  exact this.alloc _
theorem StB.next {L : Lists} {T S LB k : Nat} {LS : Array Value} {f : Nat → Nat → Nat} {w V wi : World} {vg u : Value} (o : L.Ok T S LB LS) (h : StB L T S LB LS f w k vg V) (hk : k < L.K) (hbi : StBi L f k V 10 u wi) (ty : TypeId) :
    ∃ v' w', (Builtin.append_ #[37, 37] ty #[vg, .slice (some ⟨wi.heap.size, 0, none⟩) 1 1]).run Try.prog (wi.alloc (.cells #[u] 22)) = .ok v' w' ∧ StB L T S LB LS f w (k + 1) v' w' := by
  obtain ⟨hLB, hT, hS, hrows, G, hg, hG⟩ := h
  have h1 : u.oneCell' = true := by obtain ⟨q, c, rfl⟩ := hbi.slice; rfl
  have hlen := o.len k hk
  have hk3 := o.k3
  obtain ⟨hgr, hbi2⟩ := hbi
  have sw := hgr.size
  obtain ⟨hu, hrowk⟩ : GrownK L f S k u wi ∧ (L.nl k = false → ∃ M, L.N k ≤ M ∧ IntBlk wi (L.D k) .u8 5 (mk (L.R k) (pF (f k) k M))) := by
    rcases hbi2 with ⟨h1, h2, h3, h4⟩ | ⟨h1, h2⟩
    · exact ⟨.inr ⟨h1, h2, h3, h4⟩, fun _ => ⟨_, Nat.le_add_right _ _, h4⟩⟩
    · exact ⟨.inl (OwnS.low h1 hS), h2⟩
  have LBi : wi.heap[LB]? = some (.cells LS 22 (0, 0)) := (hgr.block LB (lt_of_block hLB) (fun e => by
    obtain ⟨hn, he⟩ := Lists.row_is e.symm
    obtain ⟨M, _, _, h3⟩ := hrows k hk hn
    exact list_ne hLB h3 he)).trans hLB
  have rowsi : ∀ i, i < L.K → L.nl i = false → ∃ M, L.N i ≤ M ∧ (k + 1 ≤ i → M = L.N i) ∧ IntBlk wi (L.D i) .u8 5 (mk (L.R i) (pF (f i) i M)) := fun i hi hni => by
    by_cases e : i = k
    · subst e
      obtain ⟨M, hM, hr⟩ := hrowk hni
      exact ⟨M, hM, fun h => by omega, hr⟩
    · obtain ⟨M, m1, m2, m3⟩ := hrows i hi hni
      exact ⟨M, m1, fun h => m2 (by omega), (hgr.block (L.D i) m3.lt (fun e2 => by
        obtain ⟨hn, he⟩ := Lists.row_is e2.symm
        exact o.ne i k hi hk hni hn e he)).trans m3⟩
  have far : ∀ B, S ≤ B → B < V.heap.size → wi.heap[B]? = V.heap[B]? := fun B b1 b2 => hgr.block B b2 (fun e => by
    obtain ⟨hn, he⟩ := Lists.row_is e.symm
    have := (o.low k hk hn).2
    omega)
  have hgi := owns_below hg far
  have hGi : ∀ i, i < k → GrownK L f S i (G i) wi := fun i hi => by
    rcases hG i hi with h | ⟨h1, h2, h3, h4⟩
    · exact .inl ((h.same far).raise sw)
    · exact .inr ⟨h1, h2, h3, (hgr.block (L.D i) h4.lt (fun e2 => by
        obtain ⟨hn, he⟩ := Lists.row_is e2.symm
        exact o.ne i k (by omega) hk h1 hn (by omega) he)).trans h4⟩
  have Ti : Below T V wi := below_own hgr (fun B e => by
    obtain ⟨hn, he⟩ := Lists.row_is e
    have := (o.low k hk hn).1
    omega) (by have := o.ts; omega)
  have hSi : S ≤ wi.heap.size := by omega
  have a1 : Below wi.heap.size wi (wi.alloc (.cells #[u] 22)) := (Below.refl _ _).alloc (Nat.le_refl _) _
  have hn := heap_alloc_new wi (.cells #[u] 22)
  have hc := cell_of_one hn
  have hg2 := owns_below hgi (fun B _ h => a1.block B h)
  obtain ⟨v', w', hr, ho, hgw⟩ := append_list ty hg2 wi.heap.size u hc h1 (by omega) (by rw [World.size_alloc]; omega)
  have bS : Below S (wi.alloc (.cells #[u] 22)) w' := below_own hgw (fun B hB => by
    obtain ⟨_, ⟨e, _⟩ | ⟨g, c, cur, e, hle, _⟩⟩ := hg2
    · rw [e] at hB; simp [Value.ownBlock] at hB
    · rw [e] at hB; simp [Value.ownBlock] at hB; omega) (by rw [World.size_alloc]; omega)
  have bW : Below S wi w' := (a1.mono hSi).trans bS
  have keep : ∀ (x : Value) (i : Nat), OwnS 5 1 wi S wi.heap.size x (L.N i + 10) (patK i) → OwnS 5 1 w' S w'.heap.size x (L.N i + 10) (patK i) := fun x i hx => by
    have hx2 := hx.same (w' := wi.alloc (.cells #[u] 22)) (fun B _ hB => Below.heap_alloc _ _ _ (by omega))
    have hx3 := OwnS.keep hx2 (by rw [World.size_alloc]; omega) hgw (by
      rcases hx2 with ⟨e, _⟩ | ⟨B, c, cur, e, _, _, hB, _⟩
      · left; rw [e]; rfl
      · right
        obtain ⟨_, ⟨e2, _⟩ | ⟨g, c2, cur2, e2, _, hgc, _⟩⟩ := hg2
        · rw [e, e2]; simp [Value.ownBlock]
        · rw [e, e2]
          simp only [Value.ownBlock, ne_eq, Option.some.injEq]
          intro he
          subst he
          have := hB.symm.trans hgc
          simp at this)
    exact hx3.raise bW.size
  have keepG : ∀ (x : Value) (i : Nat), i < L.K → GrownK L f S i x wi → GrownK L f S i x w' := fun x i hi hx => by
    rcases hx with h | ⟨h1, h2, h3, h4⟩
    · exact .inl (keep x i h)
    · exact .inr ⟨h1, h2, h3, h4.below bW (o.low i hi h1).2⟩
  refine ⟨v', w', hr, (bW.block LB o.lb).trans LBi, hT.trans (Ti.trans (bW.mono o.ts)), Nat.le_trans hSi bW.size, fun i hi hni => ?_, fun i => if i = k then u else G i, ?_, fun i hi => ?_⟩
  · obtain ⟨M, m1, m2, m3⟩ := rowsi i hi hni
    exact ⟨M, m1, m2, m3.below bW (o.low i hi hni).2⟩
  · have : (List.range (k + 1)).map (fun i => if i = k then u else G i) = (List.range k).map G ++ [u] := by
      rw [List.range_succ, List.map_append, List.map_singleton, if_pos rfl]
      exact congrArg (fun l => l ++ [u]) (List.map_congr_left fun i hi => if_neg (by have := List.mem_range.1 hi; omega))
    rw [this]; exact ho
  · by_cases e : i = k
    · subst e; show GrownK _ _ _ _ (if i = i then u else G i) _; rw [if_pos rfl]; exact keepG u _ hk hu
    · show GrownK _ _ _ _ (if i = k then u else G i) _
      rw [if_neg e]
      exact keepG (G i) i (by omega) (hGi i (by omega))
theorem choice_lt {α : Type} [Inhabited α] {K : Nat} {P : Nat → α → Prop} (h : ∀ i, i < K → ∃ x, P i x) : ∃ g : Nat → α, ∀ i, i < K → P i (g i) :=
  ⟨fun i => if hi : i < K then Classical.choose (h i hi) else default, fun i hi => by
    show P i (if hi : i < K then Classical.choose (h i hi) else default)
    rw [dif_pos hi]; exact Classical.choose_spec (h i hi)⟩
theorem StB.done {L : Lists} {T S LB : Nat} {LS : Array Value} {f : Nat → Nat → Nat} {w V : World} {vg : Value} (o : L.Ok T S LB LS) (h : StB L T S LB LS f w L.K vg V) :
    ∃ (g0 c0 : Nat) (Bk ck : Nat → Nat), vg = .slice (some ⟨g0, 0, none⟩) L.K c0 ∧ (∀ i, i < L.K → V.cell? ⟨g0, i, none⟩ = some (.slice (some ⟨Bk i, 0, none⟩) (L.N i + 10) (ck i))) ∧ (∀ i, i < L.K → BytesAt V (some ⟨Bk i, 0, none⟩) (L.N i + 10) (patK i)) ∧
      (∀ i, i < L.K → V.cell? ⟨LB, i, none⟩ = some (.slice (L.p i) (L.N i) (L.C i))) ∧ (∀ i, i < L.K → L.nl i = false → BytesAt V (some ⟨L.D i, 0, none⟩) (L.N i) (patK i)) ∧ Below T w V ∧ T ≤ V.heap.size := by
  obtain ⟨hLB, hT, hS, hrows, G, hg, hG⟩ := h
  have k1 := o.k1
  obtain ⟨g0, c0, rfl, hgc⟩ : ∃ g0 c0, vg = .slice (some ⟨g0, 0, none⟩) L.K c0 ∧ ∀ i, i < L.K → V.cell? ⟨g0, i, none⟩ = some (G i) := by
    obtain ⟨_, ⟨_, h2⟩ | ⟨g, c, cur, e, _, hh, _, _, hcs, ht⟩⟩ := hg
    · omega
    · refine ⟨g, c, e, fun i hi => ?_⟩
      rw [cell_of_row V g i cur _ (0, 0) hh]
      have : (cur.toList.take (L.K * 1))[i]? = ((List.range L.K).map G)[i]? := by rw [ht]
      rw [List.getElem?_take_of_lt (by omega)] at this
      simpa [hi] using this
  obtain ⟨bc, hbc⟩ := choice_lt (P := fun i (x : Nat × Nat) => G i = .slice (some ⟨x.1, 0, none⟩) (L.N i + 10) x.2 ∧ BytesAt V (some ⟨x.1, 0, none⟩) (L.N i + 10) (patK i)) (K := L.K) (fun i hi => by
    rcases hG i hi with ho | ⟨h1, h2, h3, h4⟩
    · rcases ho with ⟨_, h0⟩ | ⟨B, c, cur, e, h⟩
      · omega
      · obtain ⟨p, c', e2, _, _, hb, _⟩ := (show OwnS 5 1 V S V.heap.size (G i) (L.N i + 10) (patK i) from .inr ⟨B, c, cur, e, h⟩).bytes (Nat.le_refl _)
        rw [e] at e2
        simp only [Value.slice.injEq] at e2
        rw [← e2.1] at hb
        exact ⟨(B, c), e, hb⟩
    · refine ⟨(L.D i, L.C i), h3, .inr ⟨L.D i, 0, rfl, h4.lt, fun j hj => ?_⟩⟩
      have := h4.cells (o := 0) (n := L.R i) (by omega) j (by have := o.room i hi; omega)
      simp only [Nat.zero_add] at this ⊢
      rw [this, pF_in hj])
  refine ⟨g0, c0, fun i => (bc i).1, fun i => (bc i).2, rfl, fun i hi => by rw [hgc i hi, (hbc i hi).1], fun i hi => (hbc i hi).2, fun i hi => heap_cell hLB (o.list i hi), fun i hi hni => ?_, hT, Nat.le_trans o.ts hS⟩
  obtain ⟨M, m1, _, m3⟩ := hrows i hi hni
  refine .inr ⟨L.D i, 0, rfl, m3.lt, fun j hj => ?_⟩
  have hl := o.len i hi
  have := m3.cells (o := 0) (n := L.R i) (by omega) j (by have := o.room i hi; omega)
  simp only [Nat.zero_add] at this ⊢
  rw [this, pF_in (by omega)]
end Go.Proofs.Ytebbnkkhabehmaa.apart
