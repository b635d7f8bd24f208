/- The contract of the document's Tamper that writes. Conditions: the disk lies in memory; the bytes lie in no block of it. -/
import Derived.Test.YtbejfpdkfpgipaaPlRefE
import Derived.Test.YtbejfpdkfpgipaaPlRefT
import Derived.Test.YtbejfpdkfpgipaaPlTamper
namespace Go.Proofs.Ytbejfpdkfpgipaa
open Go.ChangeShapes Go.WideShapes Go.ChangeAt Go.RowKit
set_option linter.unusedVariables false
theorem since_ext {R S : Since} (h1 : R.V = S.V) (h2 : R.n = S.n) (h3 : R.G = S.G) : R = S := by
  cases R; cases S; simp only at h1 h2 h3; subst h1; subst h2; subst h3; rfl
theorem bytesList_set (N i c : Nat) (g : Nat → Nat) : (bytesList N g).set i (.int .u8 (c : Nat)) = bytesList N fun q => if q = i then c else g q := by
  refine List.ext_getElem? fun j => ?_
  unfold bytesList
  rw [List.getElem?_set]
  by_cases hj : j < N
  · by_cases e : i = j
    · subst e; simp [hj]
    · simp [hj, e, Ne.symm e]
  · by_cases e : i = j
    · subst e; simp [hj]
    · simp [hj, e]
theorem ownsRow_byte {w : World} {base n i cap B : Nat} {g : Nat → Nat} (h : w.ownsRow base 40 128 (.slice (some ⟨B, 0, none⟩) n cap) n (bytesList (n * 128) g)) (hi : i < n * 128) (c : Nat) :
    (w.setCell ⟨B, i, none⟩ (.int .u8 (c : Nat))).ownsRow base 40 128 (.slice (some ⟨B, 0, none⟩) n cap) n (bytesList (n * 128) fun q => if q = i then c else g q) := by
  obtain ⟨h1, h2⟩ := h
  refine ⟨bytesList_len _ _, ?_⟩
  rcases h2 with ⟨e, _⟩ | ⟨g', cap', cur, e, hb, hh, hc1, hc2, hc3, ht⟩
  · cases e
  · cases e
    refine .inr ⟨_, _, cur.setIfInBounds i (.int .u8 (c : Nat)), rfl, hb, heap_setCell_same _ _ _ _ _ _ hh, hc1, hc2, by simpa using hc3, ?_⟩
    rw [Array.toList_setIfInBounds, List.take_set, ht, bytesList_set]
def Since.patch (R : Since) (i p c : Nat) : Since := ⟨R.V, R.n, fun x => if x = i then (fun q => if q = p then c else R.G i q) else R.G x⟩
section
variable {w : World} {r : RBlk} {base : Nat} {d : Disk} {L : Nat} {R : Since}
theorem RefAt.sureByte (h : RefAt w r base d L R) {i k : Nat} (c : Nat) (hi : i < d.ns) (hk : k < 128) : RefAt (w.setCell ⟨r.sb, 128 * i + k, none⟩ (.int .u8 (c : Nat))) r base { d with sure := fun x => if x = i then (d.sure i).set k (c : Nat) else d.sure x } L R := by
  obtain ⟨F, hF, hs⟩ := h.sect
  refine h.sureSet (w' := w.setCell ⟨r.sb, 128 * i + k, none⟩ (.int .u8 (c : Nat))) ⟨fun q => if q = 128 * i + k then c else F q, ?_, fun x hx => ?_⟩ (But.setCell _ _ _ _)
  · have := hF.set (128 * i + k) (c : Nat)
    rw [mk_set_is (g := fun q => if q = 128 * i + k then c else F q) rfl (fun j _ => rfl)] at this
    exact this
  · show (if x = i then (d.sure i).set k (c : Nat) else d.sure x) = _
    by_cases e : x = i
    · subst e
      rw [if_pos rfl, hs x hx]
      exact mk_set_is rfl (fun j hj => by
        by_cases e : j = k
        · subst e; simp
        · dsimp only
          rw [if_neg e, if_neg (by omega)])
    · rw [if_neg e, hs x hx]
      refine mk_ext fun j hj => ?_
      dsimp only
      rw [if_neg]
      intro hh
      rcases Nat.lt_or_ge x i with h1 | h1
      · have : 128 * x + 128 ≤ 128 * i := by omega
        omega
      · have : 128 * i + 128 ≤ 128 * x := by omega
        omega
theorem RefAt.rowByte (h : RefAt w r base d L R) {i j k cap B : Nat} (c : Nat) (hi : i < d.ns) (hj : j < R.n i) (hk : k < 128) (hV : R.V i = .slice (some ⟨B, 0, none⟩) (R.n i) cap) :
    RefAt (w.setCell ⟨B, 128 * j + k, none⟩ (.int .u8 (c : Nat))) r base { d with opn := fun x => if x = (i : Int) then (R.patch i (128 * j + k) c).last i else d.opn x } L (R.patch i (128 * j + k) c) := by
  have hBo : (R.V i).ownBlock = some B := by rw [hV]; rfl
  have hB := h.rowLt ⟨i, hi, hBo⟩
  have oth : ∀ k', k' ≠ B → (w.setCell ⟨B, 128 * j + k, none⟩ (.int .u8 (c : Nat))).heap[k']? = w.heap[k']? := fun k' hk' => Below.heap_setCell _ _ _ k' (fun e => hk' e)
  have fx : ∀ k', r.fix k' → k' ≠ B := fun k' hk' e => by have := h.lt k' hk'; omega
  refine ⟨(oth _ (fx _ (.inl rfl))).trans h.plat, h.left, h.sect.keep (oth _ (fx _ (.inr (.inl rfl)))), ⟨(oth _ (fx _ (.inr (.inr (.inl rfl))))).trans h.rows.tab, ?_, h.rows.apart, h.rows.few, ?_⟩, (oth _ (fx _ (.inr (.inr (.inr rfl))))).trans h.cnts, h.lt, h.ne1, h.ne2, h.ne3, h.ne4, h.ne5, h.ne6, ?_, h.ns1, h.ns2, h.nc⟩
  · intro x hx
    show World.ownsRow _ base 40 128 (R.V x) (R.n x) (bytesList (R.n x * 128) (if x = i then (fun q => if q = 128 * j + k then c else R.G i q) else R.G x))
    by_cases e : x = i
    · subst e
      rw [if_pos rfl]
      have h1 := h.rows.row x hx
      rw [hV] at h1 ⊢
      exact ownsRow_byte h1 (by omega) c
    · rw [if_neg e]
      exact ownsRow_keep (h.rows.row x hx) (fun q hq _ => oth q (fun e2 => by
        rcases h.rows.apart x i hx hi e with e3 | e3
        · rw [hq] at e3; cases e3
        · rw [hq, hBo, e2] at e3; exact e3 rfl))
  · intro x hx
    show (if (x : Int) = (i : Int) then (R.patch i (128 * j + k) c).last i else d.opn x) = (R.patch i (128 * j + k) c).last x
    by_cases e : x = i
    · subst e; rw [if_pos rfl]
    · rw [if_neg (by omega), h.rows.opn x hx]
      unfold Since.last Since.patch
      simp [e]
  · intro x hx
    have hx2 : (if x = (i : Int) then (R.patch i (128 * j + k) c).last i else d.opn x).isSome = true := hx
    by_cases e : x = (i : Int)
    · subst e; exact ⟨by omega, by show (i : Int) < (d.ns : Int); omega⟩
    · rw [if_neg e] at hx2; exact h.wf x hx2
theorem RefAt.regive (h : RefAt w r base d L R) {R' : Since} (hV : R'.V = R.V) (hn : R'.n = R.n) (hG : ∀ i, i < d.ns → ∀ q, q < 128 * R.n i → R'.G i q = R.G i q) : RefAt w r base d L R' := by
  obtain ⟨V', n', G'⟩ := R'
  simp only at hV hn hG
  subst hV; subst hn
  refine ⟨h.plat, h.left, h.sect, ⟨h.rows.tab, fun i hi => ?_, h.rows.apart, h.rows.few, fun i hi => ?_⟩, h.cnts, h.lt, h.ne1, h.ne2, h.ne3, h.ne4, h.ne5, h.ne6, h.wf, h.ns1, h.ns2, h.nc⟩
  · have e : bytesList (R.n i * 128) (G' i) = bytesList (R.n i * 128) (R.G i) := by
      unfold bytesList
      refine List.map_congr_left fun q hq => ?_
      rw [hG i hi q (by have := List.mem_range.1 hq; omega)]
    show World.ownsRow _ base 40 128 (R.V i) (R.n i) (bytesList (R.n i * 128) (G' i))
    rw [e]; exact h.rows.row i hi
  · rw [h.rows.opn i hi]
    unfold Since.last
    show _ = if R.n i = 0 then none else some (Go.Proofs.Ytbejfpdkfpgipaa.mk 128 fun j => G' i (128 * (R.n i - 1) + j))
    by_cases e : R.n i = 0
    · rw [if_pos e, if_pos e]
    · rw [if_neg e, if_neg e]
      congr 1
      exact mk_ext fun j hj => (hG i hi _ (by omega)).symm
def tamG (N : Nat) (g G : Nat → Nat) (k j q : Nat) : Nat := if N ≤ q / 128 ∨ q % 128 < k ∨ (q % 128 = k ∧ q / 128 < j) then g (q % 128) else G q
def tamR (R : Since) (i : Nat) (g : Nat → Nat) (k j : Nat) : Since := ⟨R.V, R.n, fun x => if x = i then tamG (R.n i) g (R.G i) k j else R.G x⟩
def tamD (d : Disk) (R : Since) (i : Nat) (f g : Nat → Nat) (k m j : Nat) : Disk := { d with sure := fun x => if x = i then Go.Proofs.Ytbejfpdkfpgipaa.mk 128 (put f 0 m g) else d.sure x, opn := fun x => if x = (i : Int) then (tamR R i g k j).last i else d.opn x }
theorem tam_start (h : RefAt w r base d L R) {i : Nat} (hi : i < d.ns) {f : Nat → Nat} (hf : d.sure i = Go.Proofs.Ytbejfpdkfpgipaa.mk 128 f) (g : Nat → Nat) : RefAt w r base (tamD d R i f g 0 0 0) L (tamR R i g 0 0) := by
  have e : tamD d R i f g 0 0 0 = d := disk_ext rfl rfl rfl rfl rfl (fun x => by
    show (if x = i then Go.Proofs.Ytbejfpdkfpgipaa.mk 128 (put f 0 0 g) else d.sure x) = d.sure x
    by_cases e : x = i
    · subst e
      rw [if_pos rfl, hf]
      refine mk_ext fun j hj => ?_
      unfold put
      rw [if_neg (by omega)]
    · rw [if_neg e]) (fun x => by
    show (if x = (i : Int) then (tamR R i g 0 0).last i else d.opn x) = d.opn x
    by_cases e : x = (i : Int)
    · subst e
      rw [if_pos rfl, h.rows.opn i hi]
      unfold Since.last tamR
      simp only [if_true]
      by_cases e : R.n i = 0
      · rw [if_pos e, if_pos e]
      · rw [if_neg e, if_neg e]
        congr 1
        refine mk_ext fun j hj => ?_
        unfold tamG
        rw [if_neg (by omega)]
    · rw [if_neg e]) rfl
  rw [e]
  refine h.regive rfl rfl fun x hx q hq => ?_
  show (if x = i then tamG (R.n i) g (R.G i) 0 0 else R.G x) q = R.G x q
  by_cases e : x = i
  · subst e
    rw [if_pos rfl]
    unfold tamG
    rw [if_neg (by omega)]
  · rw [if_neg e]
theorem tam_sure (f g : Nat → Nat) {i k j : Nat} (h : RefAt w r base (tamD d R i f g k k j) L (tamR R i g k j)) (hi : i < d.ns) (hk : k < 128) : RefAt (w.setCell ⟨r.sb, 128 * i + k, none⟩ (.int .u8 (g k : Nat))) r base (tamD d R i f g k (k + 1) j) L (tamR R i g k j) := by
  have := h.sureByte (i := i) (k := k) (g k) hi hk
  refine Eq.mp (congrArg (fun D => RefAt _ r base D L _) ?e) this
  refine disk_ext rfl rfl rfl rfl rfl (fun x => ?_) (fun x => rfl) rfl
  show (if x = i then (if i = i then Go.Proofs.Ytbejfpdkfpgipaa.mk 128 (put f 0 k g) else d.sure i).set k (g k : Nat) else if x = i then Go.Proofs.Ytbejfpdkfpgipaa.mk 128 (put f 0 k g) else d.sure x) = (if x = i then Go.Proofs.Ytbejfpdkfpgipaa.mk 128 (put f 0 (k + 1) g) else d.sure x)
  by_cases e : x = i
  · subst e
    rw [if_pos rfl, if_pos rfl, if_pos rfl]
    refine mk_set_is rfl fun j hj => ?_
    unfold put
    by_cases e : j = k
    · subst e; rw [if_pos rfl, if_pos (by omega)]; simp
    · rw [if_neg e]
      by_cases e2 : j < k
      · rw [if_pos (by omega), if_pos (by omega)]
      · rw [if_neg (by omega), if_neg (by omega)]
  · rw [if_neg e, if_neg e, if_neg e]
theorem tam_row (f g : Nat → Nat) {i k m j cap B : Nat} (h : RefAt w r base (tamD d R i f g k m j) L (tamR R i g k j)) (hi : i < d.ns) (hj : j < R.n i) (hk : k < 128) (hV : R.V i = .slice (some ⟨B, 0, none⟩) (R.n i) cap) :
    RefAt (w.setCell ⟨B, 128 * j + k, none⟩ (.int .u8 (g k : Nat))) r base (tamD d R i f g k m (j + 1)) L (tamR R i g k (j + 1)) := by
  have h1 := h.rowByte (i := i) (j := j) (k := k) (g k) hi hj hk hV
  have e : (tamR R i g k j).patch i (128 * j + k) (g k) = tamR R i g k (j + 1) := since_ext rfl rfl (funext fun x => by
    show (if x = i then (fun q => if q = 128 * j + k then g k else (if i = i then tamG (R.n i) g (R.G i) k j else R.G i) q) else (if x = i then tamG (R.n i) g (R.G i) k j else R.G x)) = (if x = i then tamG (R.n i) g (R.G i) k (j + 1) else R.G x)
    by_cases e : x = i
    · subst e
      rw [if_pos rfl, if_pos rfl]
      funext q
      simp only [if_true]
      unfold tamG
      by_cases e : q = 128 * j + k
      · subst e
        rw [if_pos rfl, if_pos (by omega)]
        congr 1
        omega
      · rw [if_neg e]
        by_cases e2 : R.n x ≤ q / 128 ∨ q % 128 < k ∨ (q % 128 = k ∧ q / 128 < j)
        · rw [if_pos e2, if_pos (by omega)]
        · rw [if_neg e2, if_neg (by omega)]
    · rw [if_neg e, if_neg e, if_neg e])
  rw [e] at h1
  refine Eq.mp (congrArg (fun D => RefAt _ r base D L _) ?e) h1
  refine disk_ext rfl rfl rfl rfl rfl (fun x => rfl) (fun x => ?_) rfl
  show (if x = (i : Int) then (tamR R i g k (j + 1)).last i else if x = (i : Int) then (tamR R i g k j).last i else d.opn x) = (if x = (i : Int) then (tamR R i g k (j + 1)).last i else d.opn x)
  by_cases e : x = (i : Int)
  · rw [if_pos e, if_pos e]
  · rw [if_neg e, if_neg e, if_neg e]
theorem tam_turn (R : Since) (i : Nat) (g : Nat → Nat) (k : Nat) : tamR R i g k (R.n i) = tamR R i g (k + 1) 0 := since_ext rfl rfl (funext fun x => by
  show (if x = i then tamG (R.n i) g (R.G i) k (R.n i) else R.G x) = (if x = i then tamG (R.n i) g (R.G i) (k + 1) 0 else R.G x)
  by_cases e : x = i
  · rw [if_pos e, if_pos e]
    funext q
    unfold tamG
    by_cases e2 : R.n i ≤ q / 128 ∨ q % 128 < k ∨ (q % 128 = k ∧ q / 128 < R.n i)
    · rw [if_pos e2, if_pos (by omega)]
    · rw [if_neg e2, if_neg (by omega)]
  · rw [if_neg e, if_neg e])
theorem tam_turnD (d : Disk) (R : Since) (i : Nat) (f g : Nat → Nat) (k m : Nat) : tamD d R i f g k m (R.n i) = tamD d R i f g (k + 1) m 0 := by
  unfold tamD
  rw [tam_turn]
theorem tam_end (h : RefAt w r base d L R) {i n : Nat} (hi : i < d.ns) {f : Nat → Nat} (hf : d.sure i = Go.Proofs.Ytbejfpdkfpgipaa.mk 128 f) (g : Nat → Nat) : tamD d R i f g n n 0 = d.tampered i n g := disk_ext rfl rfl rfl rfl rfl (fun x => by
    show (if x = i then Go.Proofs.Ytbejfpdkfpgipaa.mk 128 (put f 0 n g) else d.sure x) = (if x = i then tamL n g (d.sure x) else d.sure x)
    by_cases e : x = i
    · subst e
      rw [if_pos rfl, if_pos rfl, hf, tamL_mk]
    · rw [if_neg e, if_neg e]) (fun x => by
    show (if x = (i : Int) then (tamR R i g n 0).last i else d.opn x) = (if x = (i : Int) then (d.opn x).map (tamL n g) else d.opn x)
    by_cases e : x = (i : Int)
    · subst e
      rw [if_pos rfl, if_pos rfl, h.rows.opn i hi]
      unfold Since.last tamR
      simp only [if_true]
      by_cases e : R.n i = 0
      · rw [if_pos e, if_pos e]; rfl
      · rw [if_neg e, if_neg e]
        show _ = some (tamL n g _)
        rw [tamL_mk]
        congr 1
        refine mk_ext fun j hj => ?_
        unfold tamG put
        by_cases e2 : j < n
        · rw [if_pos (by omega), if_pos (by omega)]
          congr 1
          omega
        · rw [if_neg (by omega), if_neg (by omega)]
    · rw [if_neg e, if_neg e]) rfl
end
end Go.Proofs.Ytbejfpdkfpgipaa
