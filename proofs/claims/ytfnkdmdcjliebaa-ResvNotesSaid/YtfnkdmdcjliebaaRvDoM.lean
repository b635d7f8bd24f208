/- Plain mathematics of the program's own way: an operation step by step, holders in order, one registration sorted in. Conditions: as each says. -/
import Derived.Test.YtfnkdmdcjliebaaRvGoodM
namespace Go.Proofs.Ytfnkdmdcjliebaa
open Go Go.RowKit
set_option linter.unusedVariables false
/-! ### An operation, step by step -/
def inR (ks : List (Int × Int)) (who : Int) : Bool := ks.any (·.1 == who)
def othersR (r : ResvOf) (o : ROp) : List (Int × Int) := r.regs.filter fun p => !(p.1 == o.who)
def leftR (r : ResvOf) (o : ROp) : List (Int × Int) := r.regs.filter fun p => !(!(p.1 == o.who) && p.2 == o.new)
def hasR (r : ResvOf) (k : Int) : Bool := inR r.regs r.h && keyR r.regs r.h == k
def allR (t : Int) : Bool := t == 5 || t == 6
def entR (r : ResvOf) (o : ROp) : Bool :=
  if o.op == 6 then true else if o.op == 1 then keyR r.regs o.who == o.key
  else if o.op == 2 then (inR r.regs o.who && (r.h == -1 || (holdsR r o.who && o.ty == r.t))) && keyR r.regs o.who == o.key
  else if o.op == 5 then (inR r.regs o.who && (decide ((leftR r o).length < r.regs.length) || hasR r o.new)) && keyR r.regs o.who == o.key
  else inR r.regs o.who && keyR r.regs o.who == o.key
def freeR (r : ResvOf) : ResvOf := { r with h := -1, t := 0 }
def endP (r : ResvOf) (who : Int) (ks : List (Int × Int)) : ResvOf :=
  if !(who == r.h) then { r with regs := ks } else if allR r.t && decide (0 < ks.length) then { r with regs := ks, h := (ks.getD 0 (0, 0)).1 } else freeR { r with regs := ks }
def zeroR : ResvOf := ⟨[], 0, 0, false, 0⟩
def regP (r : ResvOf) (o : ROp) : ResvOf × Int :=
  if o.new == 0 then ({ endP r o.who (othersR r o) with s := o.s, g := incR r.g }, 0)
  else if (othersR r o).length == 4 then (zeroR, 7) else ({ r with regs := withL r.regs o.who o.new false, s := o.s, g := incR r.g }, 0)
def reserveP (r : ResvOf) (o : ROp) : ResvOf := if r.h == -1 then { r with h := o.who, t := o.ty } else r
def releaseP (r : ResvOf) (o : ROp) : ResvOf × Int := if !(holdsR r o.who) then (r, 0) else if !(o.ty == r.t) then (zeroR, 2) else (freeR r, 0)
def preemptP (r : ResvOf) (o : ROp) : ResvOf := { (if hasR r o.new then { r with h := o.who, t := o.ty } else r) with regs := leftR r o, g := incR r.g }
def runP (r : ResvOf) (o : ROp) : ResvOf × Int :=
  if o.op == 1 || o.op == 6 then regP r o else if o.op == 2 then (reserveP r o, 0) else if o.op == 3 then releaseP r o
  else if o.op == 5 then (preemptP r o, 0) else ({ freeR r with regs := [], g := incR r.g }, 0)
theorem in_mem {ks : List (Int × Int)} {who : Int} : inR ks who = true ↔ ∃ p ∈ ks, p.1 = who := by simp [inR]
theorem in_key {ks : List (Int × Int)} {w : Int} (h : risesR ks w = true) (who : Int) : inR ks who = !(keyR ks who == 0) := by
  rw [Bool.eq_iff_iff, in_mem]
  constructor
  · rintro ⟨p, hp, rfl⟩
    have := key_mem h p hp
    have := (rises_mem h p hp).2
    simp; omega
  · intro h2
    have h3 : keyR ks who ≠ 0 := by simpa using h2
    exact ⟨_, ((key_pos who h).2 h3).2, rfl⟩
theorem form_in {r : ResvOf} (h : risesR r.regs (-1) = true) : formR r = if r.h == -1 then r.t == 0 else (decide (1 ≤ r.t) && decide (r.t ≤ 6)) && inR r.regs r.h := by
  unfold formR
  rw [in_key h]
  have := (key_pos r.h h).1
  split
  · rfl
  · have e : decide (0 < keyR r.regs r.h) = !(keyR r.regs r.h == 0) := by
      rw [Bool.eq_iff_iff]; simp; omega
    rw [e]
    cases (!(keyR r.regs r.h == 0)) <;> simp
theorem has_over {r : ResvOf} (g : GoodR r) (o : ROp) : hasR r o.new = overR r o := by
  unfold hasR overR
  have hi := in_key g.rises r.h
  rcases g.form with ⟨h1, h2⟩ | ⟨h1, h2, h3, h4⟩
  · have : keyR r.regs r.h = 0 := by
      rcases Int.lt_or_le 0 (keyR r.regs r.h) with h | h
      · have := ((key_pos r.h g.rises).2 (by omega)).1; omega
      · have := (key_pos r.h g.rises).1; omega
    rw [hi, this, h1]; rfl
  · rw [hi]
    have e1 : (keyR r.regs r.h == 0) = false := beq_eq_false_iff_ne.2 (by omega)
    have e2 : (r.h == -1) = false := beq_eq_false_iff_ne.2 h1
    rw [e1, e2]
theorem left_filter {ks : List (Int × Int)} {w : Int} (h : risesR ks w = true) (f : Int × Int → Bool) : (ks.filter fun p => !(((ks.filter f).map (·.1)).any (· == p.1))) = ks.filter fun p => !(f p) := by
  refine List.filter_congr fun p hp => ?_
  congr 1
  rw [Bool.eq_iff_iff]
  simp only [List.any_map, List.any_eq_true, List.mem_filter, Function.comp, beq_iff_eq]
  constructor
  · rintro ⟨q, ⟨hq, hf⟩, e⟩
    have h1 := key_mem h p hp
    have h2 := key_mem h q hq
    rw [e] at h2
    have : p = q := Prod.ext e.symm (by omega)
    rw [this]; exact hf
  · intro hf
    exact ⟨p, ⟨hp, hf⟩, rfl⟩
theorem left_gone {r : ResvOf} (g : GoodR r) (o : ROp) : (r.regs.filter fun p => !((goneR r o).any (· == p.1))) = leftR r o := left_filter g.rises _
theorem left_len {r : ResvOf} (o : ROp) : decide ((leftR r o).length < r.regs.length) = !((goneR r o).length == 0) := by
  unfold leftR goneR
  rw [List.length_map]
  have key : ∀ (f : Int × Int → Bool) (ks : List (Int × Int)), (ks.filter fun p => !(f p)).length + (ks.filter f).length = ks.length := by
    intro f ks
    induction ks with
    | nil => rfl
    | cons p ps ih =>
      rw [List.filter_cons, List.filter_cons, List.length_cons]
      cases f p <;> simp <;> omega
  have := key (fun p => !(p.1 == o.who) && p.2 == o.new) r.regs
  generalize (r.regs.filter fun p => !(!(p.1 == o.who) && p.2 == o.new)).length = x at *
  generalize (r.regs.filter fun p => !(p.1 == o.who) && p.2 == o.new).length = y at *
  rw [Bool.eq_iff_iff]
  simp only [decide_eq_true_eq, Bool.not_eq_true', beq_eq_false_iff_ne, ne_eq]
  omega
theorem others_is (r : ResvOf) (o : ROp) : (r.regs.filter fun p => !([o.who].any (· == p.1))) = othersR r o := by
  unfold othersR
  refine List.filter_congr fun p hp => ?_
  simp [Bool.beq_comm]
theorem others_key (r : ResvOf) (o : ROp) : keyR (othersR r o) o.who = 0 := by
  unfold othersR
  rw [key_filter _ o.who false r.regs (fun p hp e => by simp [e])]; rfl
theorem others_key_ne (r : ResvOf) (o : ROp) {x : Int} (h : x ≠ o.who) : keyR (othersR r o) x = keyR r.regs x := by
  unfold othersR
  rw [key_filter _ x true r.regs (fun p hp e => by simp [e, h])]; rfl
theorem with_len (who key : Int) : ∀ (ks : List (Int × Int)) (w : Int), risesR ks w = true → (withL ks who key false).length = (ks.filter fun p => !(p.1 == who)).length + 1 := by
  intro ks
  induction ks with
  | nil => intro w _; rfl
  | cons p ps ih =>
    intro w h
    have hc := rises_cons.1 h
    rw [with_cons, List.filter_cons]
    by_cases h1 : who ≤ p.1
    · rw [decide_eq_true h1, with_true]
      by_cases h2 : p.1 = who
      · have e : (p.1 == who) = true := by simpa using h2
        rw [e]; simp
      · have e : (p.1 == who) = false := by simpa using h2
        rw [e]; simp
    · rw [decide_eq_false h1]
      have e : (p.1 == who) = false := beq_eq_false_iff_ne.2 (by omega)
      rw [e]
      have := ih _ hc.2.2
      simp; omega
/-- What an operation does, as the program reckons it. -/
theorem do_steps {r : ResvOf} {o : ROp} (g : GoodR r) (hw : wellR o = true) : doR r o = if entR r o then (if (runP r o).2 = 0 then runP r o else (nobodyR, (runP r o).2)) else (nobodyR, 9) := by
  have gg := good_iff.2 g
  obtain ⟨w1, w2, w3, w4, w5, w6⟩ := well_says (by rw [hw]; rfl : (!(wellR o)) = false)
  have hb : (!(goodR r) || !(wellR o)) = false := by rw [gg, hw]; rfl
  unfold doR
  rw [hb]
  simp only [Bool.false_eq_true, if_false]
  have hi := in_key g.rises o.who
  have hsetR : ∀ s : ResvOf, (s.h = -1 ∨ keyR s.regs s.h ≠ 0) → settleR s = s := fun s h => by
    unfold settleR
    rw [if_neg]
    rcases h with h | h <;> simp [h]
  have hz : (nobodyR, (0 : Int)).2 = 0 := rfl
  have hreg : (o.op = 1 ∨ o.op = 6) → (if 0 < o.new then (if (withL r.regs o.who o.new false).length ≤ 4 then ({ r with regs := withL r.regs o.who o.new false, s := o.s, g := incR r.g }, 0) else (nobodyR, 7)) else ({ withoutR r [o.who] with s := o.s, g := incR r.g }, 0)) = if (regP r o).2 = 0 then regP r o else (nobodyR, (regP r o).2) := by
    intro _
    have hl := with_len o.who o.new r.regs _ g.rises
    have hfew : (othersR r o).length ≤ 4 := Nat.le_trans (List.length_filter_le _ _) g.few
    by_cases hn : o.new = 0
    · have e : regP r o = ({ endP r o.who (othersR r o) with s := o.s, g := incR r.g }, 0) := by unfold regP; rw [if_pos (by simpa using hn)]
      rw [e, if_neg (by omega), if_pos rfl]
      have : withoutR r [o.who] = endP r o.who (othersR r o) := by
        unfold withoutR
        rw [others_is]
        unfold settleR endP
        rcases g.form with ⟨h1, h2⟩ | ⟨h1, h2, h3, h4⟩
        · rw [if_neg (by simp [h1]), if_pos (by simp; omega)]
        · by_cases he : o.who = r.h
          · have c1 : (!(r.h == -1) && keyR (othersR r o) r.h == 0) = true := by rw [← he, others_key]; simp; omega
            have c2 : (!(o.who == r.h)) = false := by simp [he]
            have e : decide (5 ≤ r.t) = allR r.t := by unfold allR; rw [Bool.eq_iff_iff]; simp; omega
            show (if (!(r.h == -1) && keyR (othersR r o) r.h == 0) = true then (if (decide (5 ≤ r.t) && decide (0 < (othersR r o).length)) = true then _ else _) else _) = _
            rw [c1, c2, e]; rfl
          · rw [if_neg (by simp [others_key_ne r o (Ne.symm he)]; omega), if_pos (by simpa using he)]
      rw [this]
    · rw [if_pos (by omega)]
      by_cases hf : (othersR r o).length = 4
      · have e : regP r o = (zeroR, 7) := by unfold regP; rw [if_neg (by simpa using hn), if_pos (by simpa using hf)]
        rw [e, if_neg (by rw [hl]; show ¬ (othersR r o).length + 1 ≤ 4; omega)]; rfl
      · have e : regP r o = ({ r with regs := withL r.regs o.who o.new false, s := o.s, g := incR r.g }, 0) := by unfold regP; rw [if_neg (by simpa using hn), if_neg (by simpa using hf)]
        rw [e, if_pos (by rw [hl]; show (othersR r o).length + 1 ≤ 4; omega)]; rfl
  obtain h | h | h | h | h | h : o.op = 1 ∨ o.op = 6 ∨ o.op = 2 ∨ o.op = 3 ∨ o.op = 4 ∨ o.op = 5 := by omega
  · have e1 : refusedR r o = !(keyR r.regs o.who == o.key) := by unfold refusedR; rw [h]; simp
    have e2 : entR r o = (keyR r.regs o.who == o.key) := by unfold entR; rw [h]; rfl
    have e3 : runP r o = regP r o := by unfold runP; rw [h]; rfl
    rw [e1, e2, e3]
    cases (keyR r.regs o.who == o.key)
    · rfl
    · have e5 : (o.op == 1 || o.op == 6) = true := by rw [h]; rfl
      rw [e5]
      exact hreg (.inl h)
  · have e1 : refusedR r o = false := by unfold refusedR; rw [h]; rfl
    have e2 : entR r o = true := by unfold entR; rw [h]; rfl
    have e3 : runP r o = regP r o := by unfold runP; rw [h]; rfl
    have e5 : (o.op == 1 || o.op == 6) = true := by rw [h]; rfl
    rw [e1, e2, e3, e5]
    exact hreg (.inr h)
  · have e1 : refusedR r o = !(inR r.regs o.who && keyR r.regs o.who == o.key) := by unfold refusedR; rw [h, hi]; simp
    have e2 : entR r o = ((inR r.regs o.who && (r.h == -1 || (holdsR r o.who && o.ty == r.t))) && keyR r.regs o.who == o.key) := by unfold entR; rw [h]; rfl
    have e3 : runP r o = (reserveP r o, 0) := by unfold runP; rw [h]; rfl
    have e5 : (o.op == 1 || o.op == 6) = false := by rw [h]; rfl
    have e6 : (o.op == 2) = true := by rw [h]; rfl
    rw [e1, e2, e3, e5, e6]
    cases inR r.regs o.who <;> cases (keyR r.regs o.who == o.key) <;> try rfl
    · simp only [Bool.true_and, Bool.and_false, Bool.not_false, if_true, Bool.false_eq_true, if_false]
    · unfold reserveP
      rw [show (o.ty == r.t) = (r.t == o.ty) from Bool.beq_comm]
      cases (r.h == -1) <;> cases (holdsR r o.who) <;> cases (r.t == o.ty) <;> rfl
  · have e1 : refusedR r o = !(inR r.regs o.who && keyR r.regs o.who == o.key) := by unfold refusedR; rw [h, hi]; simp
    have e2 : entR r o = (inR r.regs o.who && keyR r.regs o.who == o.key) := by unfold entR; rw [h]; rfl
    have e3 : runP r o = releaseP r o := by unfold runP; rw [h]; rfl
    have e5 : (o.op == 1 || o.op == 6) = false := by rw [h]; rfl
    have e6 : (o.op == 2) = false := by rw [h]; rfl
    have e7 : (o.op == 3) = true := by rw [h]; rfl
    rw [e1, e2, e3, e5, e6, e7]
    cases inR r.regs o.who <;> cases (keyR r.regs o.who == o.key) <;> try rfl
    unfold releaseP
    rw [show (o.ty == r.t) = (r.t == o.ty) from Bool.beq_comm]
    cases (holdsR r o.who) <;> cases (r.t == o.ty) <;> rfl
  · have e1 : refusedR r o = !(inR r.regs o.who && keyR r.regs o.who == o.key) := by unfold refusedR; rw [h, hi]; simp
    have e2 : entR r o = (inR r.regs o.who && keyR r.regs o.who == o.key) := by unfold entR; rw [h]; rfl
    have e3 : runP r o = ({ freeR r with regs := [], g := incR r.g }, 0) := by unfold runP; rw [h]; rfl
    have e5 : (o.op == 1 || o.op == 6) = false := by rw [h]; rfl
    have e6 : (o.op == 2) = false := by rw [h]; rfl
    have e7 : (o.op == 3) = false := by rw [h]; rfl
    have e8 : (o.op == 4) = true := by rw [h]; rfl
    rw [e1, e2, e3, e5, e6, e7, e8]
    cases inR r.regs o.who <;> cases (keyR r.regs o.who == o.key) <;> rfl
  · have e1 : refusedR r o = !(inR r.regs o.who && keyR r.regs o.who == o.key) := by unfold refusedR; rw [h, hi]; simp
    have e2 : entR r o = ((inR r.regs o.who && (!((goneR r o).length == 0) || overR r o)) && keyR r.regs o.who == o.key) := by unfold entR; rw [h, left_len, has_over g]; rfl
    have e3 : runP r o = (preemptP r o, 0) := by unfold runP; rw [h]; rfl
    have e5 : (o.op == 1 || o.op == 6) = false := by rw [h]; rfl
    have e6 : (o.op == 2) = false := by rw [h]; rfl
    have e7 : (o.op == 3) = false := by rw [h]; rfl
    have e8 : (o.op == 4) = false := by rw [h]; rfl
    have hp : inR r.regs o.who = true → ({ withoutR (if overR r o then { r with h := o.who, t := o.ty } else r) (goneR r o) with g := incR r.g } : ResvOf) = preemptP r o := by
      intro hin
      unfold preemptP withoutR
      rw [has_over g]
      have hk0 : keyR r.regs o.who ≠ 0 := by rw [hi] at hin; simpa using hin
      have kl : keyR (leftR r o) o.who = keyR r.regs o.who := by
        unfold leftR
        rw [key_filter _ o.who true r.regs (fun p hp e => by simp [e])]; rfl
      cases ho : overR r o
      · simp only [Bool.false_eq_true, if_false]
        rw [left_gone g, hsetR]
        rcases g.form with ⟨h1, h2⟩ | ⟨h1, h2, h3, h4⟩
        · exact .inl h1
        · refine .inr ?_
          show keyR (leftR r o) r.h ≠ 0
          unfold leftR
          rw [key_filter _ r.h true r.regs (fun p hp e => by
            have := key_mem g.rises p hp
            rw [e] at this
            have hx : overR r o = (p.2 == o.new) := by unfold overR; rw [this]; simp [h1]
            rw [ho] at hx
            simp [← hx])]
          show keyR r.regs r.h ≠ 0
          omega
      · simp only [if_true]
        rw [left_gone g, hsetR]
        exact .inr (by show keyR (leftR r o) o.who ≠ 0; rw [kl]; exact hk0)
    rw [e1, e2, e3, e5, e6, e7, e8]
    cases hin : inR r.regs o.who
    · cases (keyR r.regs o.who == o.key) <;> rfl
    · cases (keyR r.regs o.who == o.key)
      · simp only [Bool.true_and, Bool.and_false, Bool.not_false, if_true, Bool.false_eq_true, if_false]
      · have hp := hp hin
        simp only [Bool.true_and, Bool.and_true, Bool.not_true, if_true, Bool.false_eq_true, if_false]
        rw [hp]
        cases hx : ((goneR r o).length == 0) <;> cases hy : overR r o <;> simp
/-! ### Holders, in order -/
theorem filter_who {ks : List (Int × Int)} {w : Int} (h : risesR ks w = true) (x : Int) : (ks.filter fun p => p.1 == x).map (·.1) = if inR ks x then [x] else [] := by
  induction ks generalizing w with
  | nil => rfl
  | cons p ps ih =>
    obtain ⟨h1, h2, h3⟩ := rises_cons.1 h
    rw [List.filter_cons]
    by_cases e : p.1 = x
    · have e1 : (p.1 == x) = true := by simpa using e
      have hn : inR ps x = false := by
        rw [Bool.eq_false_iff]
        intro hc
        obtain ⟨q, hq, hx⟩ := in_mem.1 hc
        have := (rises_mem h3 q hq).1
        omega
      have ih := ih h3
      rw [hn] at ih
      have hi : inR (p :: ps) x = true := by unfold inR; rw [List.any_cons, e1]; rfl
      rw [e1, hi, if_pos rfl, if_pos rfl, List.map_cons, ih, e]; rfl
    · have e1 : (p.1 == x) = false := by simpa using e
      have hi : inR (p :: ps) x = inR ps x := by unfold inR; rw [List.any_cons, e1]; rfl
      rw [e1, hi, if_neg (by decide)]
      exact ih h3
/-- The holders, as the program lists them. -/
def holdersP (r : ResvOf) : List Int := if r.h == -1 then [] else if allR r.t then r.regs.map (·.1) else [r.h]
theorem holders_are {r : ResvOf} (g : GoodR r) : holdersR r = holdersP r := by
  unfold holdersR holdersP
  rcases g.form with ⟨h1, h2⟩ | ⟨h1, h2, h3, h4⟩
  · rw [if_pos (by simpa using h1)]
    have : (r.regs.filter fun p => holdsR r p.1) = [] := List.filter_eq_nil_iff.2 fun p hp => by unfold holdsR; simp [h1]
    rw [this]; rfl
  · rw [if_neg (by simpa using h1)]
    have hk : ∀ p ∈ r.regs, holdsR r p.1 = (p.1 == r.h || decide (5 ≤ r.t)) := fun p hp => by
      have := key_mem g.rises p hp
      have := (rises_mem g.rises p hp).2
      have e : (keyR r.regs p.1 == 0) = false := beq_eq_false_iff_ne.2 (by omega)
      have e2 : (r.h == -1) = false := beq_eq_false_iff_ne.2 h1
      unfold holdsR
      rw [e, e2, show (r.h == p.1) = (p.1 == r.h) from Bool.beq_comm]; rfl
    cases ha : allR r.t
    · have h5 : decide (5 ≤ r.t) = false := by
        unfold allR at ha
        simp at ha
        simp; omega
      rw [if_neg (by decide), List.filter_congr hk]
      simp only [h5, Bool.or_false]
      rw [filter_who g.rises, in_key g.rises, if_pos (by simp; omega)]
    · have h5 : decide (5 ≤ r.t) = true := by
        unfold allR at ha
        simp at ha
        simp; omega
      rw [if_pos rfl, List.filter_congr hk]
      simp only [h5, Bool.or_true]
      rw [List.filter_eq_self.2 (fun _ _ => rfl)]
theorem holders_some {r : ResvOf} (g : GoodR r) : decide (0 < (holdersR r).length) = !(r.h == -1) := by
  rw [holders_are g]
  unfold holdersP
  rcases g.form with ⟨h1, h2⟩ | ⟨h1, h2, h3, h4⟩
  · rw [if_pos (by simpa using h1), show (r.h == -1) = true by simpa using h1]; rfl
  · rw [if_neg (by simpa using h1), show (r.h == -1) = false by simpa using h1]
    have : ((r.h, keyR r.regs r.h) : Int × Int) ∈ r.regs := ((key_pos r.h g.rises).2 (by omega)).2
    cases allR r.t
    · rfl
    · rw [if_pos rfl, List.length_map]
      have := List.length_pos_of_mem this
      simpa using this
theorem holders_any {r : ResvOf} (g : GoodR r) (who : Int) : (holdersR r).any (· == who) = holdsR r who := by
  rw [Bool.eq_iff_iff]
  simp only [holdersR, List.any_map, List.any_eq_true, List.mem_filter, Function.comp, beq_iff_eq]
  constructor
  · rintro ⟨p, ⟨h1, h2⟩, rfl⟩; exact h2
  · intro h
    have hk : keyR r.regs who ≠ 0 := by unfold holdsR at h; simp at h; exact h.1.2
    exact ⟨_, ⟨((key_pos who g.rises).2 hk).2, h⟩, rfl⟩
theorem whos_rise {ks : List (Int × Int)} {w : Int} (h : risesR ks w = true) : (ks.map (·.1)).Pairwise (· < ·) := by
  induction ks generalizing w with
  | nil => exact List.Pairwise.nil
  | cons p ps ih =>
    obtain ⟨h1, h2, h3⟩ := rises_cons.1 h
    rw [List.map_cons]
    refine List.Pairwise.cons (fun x hx => ?_) (ih h3)
    obtain ⟨q, hq, rfl⟩ := List.mem_map.1 hx
    exact (rises_mem h3 q hq).1
theorem holders_rise {r : ResvOf} (g : GoodR r) : (holdersR r).Pairwise (· < ·) := whos_rise (rises_filter _ _ _ g.rises)
/-- What a walk along rising holders has seen. -/
theorem seen_less {L : List Int} {who : Int} {i : Nat} (hr : L.Pairwise (· < ·)) (hb : ∀ k, k < i → L.getD k 0 < who) (hi : i < L.length) (hx : who < L.getD i 0) : L.any (· == who) = false := by
  rw [Bool.eq_false_iff]
  intro h
  rw [List.any_eq_true] at h
  obtain ⟨x, hm, e⟩ := h
  obtain rfl : x = who := by simpa using e
  obtain ⟨k, hk, e⟩ := List.mem_iff_getElem.1 hm
  rcases Nat.lt_or_ge k i with h2 | h2
  · have := hb k h2
    rw [List.getD_eq_getElem?_getD, List.getElem?_eq_getElem hk] at this
    simp at this; omega
  · rw [List.getD_eq_getElem?_getD, List.getElem?_eq_getElem hi] at hx
    simp at hx
    rcases Nat.lt_or_ge i k with h3 | h3
    · have := List.pairwise_iff_getElem.1 hr i k hi hk h3
      omega
    · obtain rfl : i = k := by omega
      omega
theorem seen_one {L : List Int} {who : Int} {i : Nat} (hi : i < L.length) (hx : L.getD i 0 = who) : L.any (· == who) = true := by
  rw [List.any_eq_true]
  rw [List.getD_eq_getElem?_getD, List.getElem?_eq_getElem hi] at hx
  exact ⟨L[i], List.getElem_mem hi, by simpa using hx⟩
theorem seen_all {L : List Int} {who : Int} (hb : ∀ k, k < L.length → L.getD k 0 < who) : L.any (· == who) = false := by
  rw [Bool.eq_false_iff]
  intro h
  rw [List.any_eq_true] at h
  obtain ⟨x, hm, e⟩ := h
  obtain rfl : x = who := by simpa using e
  obtain ⟨k, hk, e⟩ := List.mem_iff_getElem.1 hm
  have := hb k hk
  rw [List.getD_eq_getElem?_getD, List.getElem?_eq_getElem hk] at this
  simp at this; omega
/-! ### One registration sorted in -/
def insAt (ks : List (Int × Int)) (x : Int × Int) (j : Nat) : List (Int × Int) := ks.take j ++ x :: ks.drop j
theorem ins_len (ks : List (Int × Int)) (x : Int × Int) {j : Nat} (hj : j ≤ ks.length) : (insAt ks x j).length = ks.length + 1 := by
  unfold insAt
  rw [List.length_append, List.length_cons, List.length_take, List.length_drop]; omega
theorem ins_all (ks : List (Int × Int)) (x : Int × Int) : insAt ks x ks.length = ks ++ [x] := by
  unfold insAt; rw [List.take_length, List.drop_length]
theorem ins_at (ks : List (Int × Int)) (x : Int × Int) {j : Nat} (hj : j ≤ ks.length) : (insAt ks x j)[j]? = some x := by
  unfold insAt
  rw [List.getElem?_append_right (by rw [List.length_take]; omega), List.length_take, show j - min j ks.length = 0 by omega]; rfl
theorem ins_before (ks : List (Int × Int)) (x : Int × Int) {i j : Nat} (hi : i < j) (hj : j ≤ ks.length) : (insAt ks x j)[i]? = ks[i]? := by
  unfold insAt
  rw [List.getElem?_append_left (by rw [List.length_take]; omega), List.getElem?_take_of_lt hi]
/-- The two exchanged. -/
theorem ins_step (ks : List (Int × Int)) (x : Int × Int) {j : Nat} (hj : j < ks.length) : ((insAt ks x (j + 1)).set (j + 1) (ks.getD j (0, 0))).set j x = insAt ks x j := by
  have hl := ins_len ks x (j := j + 1) hj
  have hl2 := ins_len ks x (j := j) (by omega)
  refine List.ext_getElem? fun k => ?_
  have hp : ks[j]? = some (ks.getD j (0, 0)) := by rw [List.getD_eq_getElem?_getD, List.getElem?_eq_getElem hj]; rfl
  rw [List.getElem?_set, List.getElem?_set, List.length_set, hl]
  by_cases h1 : j = k
  · subst h1
    rw [if_pos rfl, if_pos (by omega), ins_at ks x (by omega)]
  · rw [if_neg h1]
    by_cases h2 : j + 1 = k
    · subst h2
      rw [if_pos rfl, if_pos (by omega)]
      unfold insAt
      rw [List.getElem?_append_right (by rw [List.length_take]; omega), List.length_take, show j + 1 - min j ks.length = 0 + 1 by omega, List.getElem?_cons_succ, List.getElem?_drop, ← hp]; rfl
    · rw [if_neg h2]
      rcases Nat.lt_or_ge k j with h3 | h3
      · rw [ins_before ks x (by omega) (by omega), ins_before ks x h3 (by omega)]
      · unfold insAt
        rw [List.getElem?_append_right (by rw [List.length_take]; omega), List.length_take, List.getElem?_append_right (by rw [List.length_take]; omega), List.length_take]
        rw [show k - min (j + 1) ks.length = (k - j - 2) + 1 by omega, show k - min j ks.length = (k - j - 1) + 1 by omega, List.getElem?_cons_succ, List.getElem?_cons_succ, List.getElem?_drop, List.getElem?_drop]
        congr 1; omega
theorem with_split (who key : Int) : ∀ (a b : List (Int × Int)) , (∀ p ∈ a, p.1 < who) → (∀ p ∈ b, who < p.1) → withL (a ++ b) who key false = a ++ (who, key) :: b := by
  intro a
  induction a with
  | nil =>
    intro b _ hb
    cases b with
    | nil => rfl
    | cons p ps =>
      have h1 := hb p (List.mem_cons_self ..)
      show withL (p :: ps) who key false = _
      rw [with_cons, decide_eq_true (by omega), with_true]
      have e : (p.1 == who) = false := beq_eq_false_iff_ne.2 (by omega)
      rw [e]
      have : (ps.filter fun q => !(q.1 == who)) = ps := List.filter_eq_self.2 fun q hq => by
        have := hb q (List.mem_cons_of_mem _ hq)
        simp; omega
      rw [this]; rfl
  | cons p ps ih =>
    intro b ha hb
    have h1 := ha p (List.mem_cons_self ..)
    rw [List.cons_append, with_cons, decide_eq_false (by omega)]
    have e : (p.1 == who) = false := beq_eq_false_iff_ne.2 (by omega)
    rw [e, ih b (fun q hq => ha q (List.mem_cons_of_mem _ hq)) hb]; rfl
theorem rises_apart {ks : List (Int × Int)} {w : Int} (h : risesR ks w = true) : ks.Pairwise fun p q => p.1 < q.1 := by
  induction ks generalizing w with
  | nil => exact List.Pairwise.nil
  | cons p ps ih =>
    obtain ⟨h1, h2, h3⟩ := rises_cons.1 h
    exact List.Pairwise.cons (fun x hx => (rises_mem h3 x hx).1) (ih h3)
/-- Where it stands when all ahead of it are less and the next one isn't. -/
theorem ins_with {ks : List (Int × Int)} {w who key : Int} (h : risesR ks w = true) {j : Nat} (hj : j ≤ ks.length) (h1 : j = 0 ∨ (ks.getD (j - 1) (0, 0)).1 < who) (h2 : ∀ k, j ≤ k → k < ks.length → who < (ks.getD k (0, 0)).1) : insAt ks (who, key) j = withL ks who key false := by
  have hp := rises_apart h
  have e : ks = ks.take j ++ ks.drop j := (List.take_append_drop j ks).symm
  have ha : ∀ p ∈ ks.take j, p.1 < who := fun p hm => by
    obtain ⟨k, hk, rfl⟩ := List.mem_iff_getElem.1 hm
    rw [List.length_take] at hk
    rw [List.getElem_take]
    rcases h1 with rfl | h1
    · omega
    · rw [List.getD_eq_getElem?_getD, List.getElem?_eq_getElem (by omega)] at h1
      simp at h1
      rcases Nat.lt_or_ge k (j - 1) with h3 | h3
      · have := List.pairwise_iff_getElem.1 hp k (j - 1) (by omega) (by omega) h3
        omega
      · have e2 : k = j - 1 := by omega
        subst e2; exact h1
  have hb : ∀ p ∈ ks.drop j, who < p.1 := fun p hm => by
    obtain ⟨k, hk, rfl⟩ := List.mem_iff_getElem.1 hm
    rw [List.length_drop] at hk
    rw [List.getElem_drop]
    have := h2 (j + k) (by omega) (by omega)
    rw [List.getD_eq_getElem?_getD, List.getElem?_eq_getElem (by omega)] at this
    simpa using this
  rw [show withL ks who key false = withL (ks.take j ++ ks.drop j) who key false by rw [← e], with_split who key _ _ ha hb]; rfl
theorem with_others (who key : Int) : ∀ (ks : List (Int × Int)) (w : Int), risesR ks w = true → withL (ks.filter fun p => !(p.1 == who)) who key false = withL ks who key false := by
  intro ks
  induction ks with
  | nil => intro w _; rfl
  | cons p ps ih =>
    intro w h
    obtain ⟨h1, h2, h3⟩ := rises_cons.1 h
    rw [List.filter_cons, with_cons p ps]
    by_cases e : p.1 = who
    · have e1 : (p.1 == who) = true := by simpa using e
      have hf : (ps.filter fun q => !(q.1 == who)) = ps := List.filter_eq_self.2 fun q hq => by
        have := (rises_mem h3 q hq).1
        simp; omega
      rw [e1, if_neg (by decide), decide_eq_true (by omega), with_true, hf]
      exact with_split who key [] ps (fun p hp => nomatch hp) (fun q hq => by have := (rises_mem h3 q hq).1; omega)
    · have e1 : (p.1 == who) = false := by simpa using e
      rw [e1, if_pos (by rfl), with_cons, e1]
      by_cases h5 : who ≤ p.1
      · rw [decide_eq_true h5, with_true, with_true, List.filter_filter]
        simp
      · rw [decide_eq_false h5, ih _ h3]
end Go.Proofs.Ytfnkdmdcjliebaa
