/- Plain mathematics of reservations: registrations as pairs, what is in form, who holds, what each operation does, what is allowed. Conditions: as each says. -/
import Derived.Test.YtfnkdmdcjliebaaTrGives
namespace Go.Proofs.Ytfnkdmdcjliebaa
open Go Go.RowKit
set_option linter.unusedVariables false
/-- Reservations: the registrations (who, key), the holder, the type, whether they stay, the number of changes. -/
structure ResvOf where
  regs : List (Int × Int)
  h : Int
  t : Int
  s : Bool
  g : Int
/-- An operation. -/
structure ROp where
  op : Int
  who : Int
  key : Int
  new : Int
  ty : Int
  s : Bool
def okI (z : Int) : Prop := -9223372036854775808 ≤ z ∧ z ≤ 9223372036854775807
def ResvOf.ok (r : ResvOf) : Prop := (∀ p ∈ r.regs, okI p.1 ∧ okI p.2) ∧ okI r.h ∧ okI r.t ∧ okI r.g
def ROp.ok (o : ROp) : Prop := okI o.op ∧ okI o.who ∧ okI o.key ∧ okI o.new ∧ okI o.ty
theorem ResvOf.ext' {a b : ResvOf} (h1 : a.regs = b.regs) (h2 : a.h = b.h) (h3 : a.t = b.t) (h4 : a.s = b.s) (h5 : a.g = b.g) : a = b := by cases a; cases b; simp_all
def nobodyR : ResvOf := ⟨[], -1, 0, false, 0⟩
/-- Someone's key; 0: not registered. -/
def keyR : List (Int × Int) → Int → Int
  | [], _ => 0
  | p :: ps, who => if p.1 == who then p.2 else keyR ps who
/-- Are the registrations in form, behind one of who w? -/
def risesR : List (Int × Int) → Int → Bool
  | [], _ => true
  | p :: ps, w => decide (w < p.1) && decide (1 ≤ p.2) && risesR ps p.1
def formR (r : ResvOf) : Bool := if r.h == -1 then r.t == 0 else decide (0 < keyR r.regs r.h) && decide (1 ≤ r.t) && decide (r.t ≤ 6)
def goodR (r : ResvOf) : Bool := decide (r.regs.length ≤ 4) && decide (0 ≤ r.g) && risesR r.regs (-1) && formR r
def holdsR (r : ResvOf) (who : Int) : Bool := !(r.h == -1 || keyR r.regs who == 0) && (r.h == who || decide (5 ≤ r.t))
/-- The holder may have to be another one. -/
def settleR (r : ResvOf) : ResvOf :=
  if !(r.h == -1) && keyR r.regs r.h == 0 then (if decide (5 ≤ r.t) && decide (0 < r.regs.length) then { r with h := (r.regs.getD 0 (0, 0)).1 } else { r with h := -1, t := 0 }) else r
def withoutR (r : ResvOf) (gone : List Int) : ResvOf := settleR { r with regs := r.regs.filter fun p => !(gone.any (· == p.1)) }
/-- The registrations with another one. -/
def withL : List (Int × Int) → Int → Int → Bool → List (Int × Int)
  | [], who, key, d => if d then [] else [(who, key)]
  | p :: ps, who, key, d => (if !d && decide (who ≤ p.1) then [(who, key)] else []) ++ (if p.1 == who then [] else [p]) ++ withL ps who key (d || decide (who ≤ p.1))
def needsR (o : ROp) : Bool := o.op == 2 || o.op == 3 || o.op == 5
def wellR (o : ROp) : Bool := decide (1 ≤ o.op) && decide (o.op ≤ 6) && decide (0 ≤ o.who) && decide (0 ≤ o.key) && decide (0 ≤ o.new) && (!(needsR o) || (decide (1 ≤ o.ty) && decide (o.ty ≤ 6)))
def incR (g : Int) : Int := IntKind.i64.wrap (g + 1)
def goneR (r : ResvOf) (o : ROp) : List Int := (r.regs.filter fun p => !(p.1 == o.who) && p.2 == o.new).map (·.1)
def overR (r : ResvOf) (o : ROp) : Bool := !(r.h == -1) && keyR r.regs r.h == o.new
def refusedR (r : ResvOf) (o : ROp) : Bool := (o.op == 1 && !(keyR r.regs o.who == o.key)) || (decide (2 ≤ o.op) && decide (o.op ≤ 5) && (keyR r.regs o.who == 0 || !(keyR r.regs o.who == o.key)))
/-- What an operation does: the reservations, and an error's number. -/
def doR (r : ResvOf) (o : ROp) : ResvOf × Int :=
  if !(goodR r) || !(wellR o) then (nobodyR, 2)
  else if refusedR r o then (nobodyR, 9)
  else if o.op == 1 || o.op == 6 then
    (if 0 < o.new then (if (withL r.regs o.who o.new false).length ≤ 4 then ({ r with regs := withL r.regs o.who o.new false, s := o.s, g := incR r.g }, 0) else (nobodyR, 7))
     else ({ withoutR r [o.who] with s := o.s, g := incR r.g }, 0))
  else if o.op == 2 then (if r.h == -1 then ({ r with h := o.who, t := o.ty }, 0) else if holdsR r o.who && r.t == o.ty then (r, 0) else (nobodyR, 9))
  else if o.op == 3 then (if !(holdsR r o.who) then (r, 0) else if !(r.t == o.ty) then (nobodyR, 2) else ({ r with h := -1, t := 0 }, 0))
  else if o.op == 4 then ({ r with regs := [], h := -1, t := 0, g := incR r.g }, 0)
  else if (goneR r o).length == 0 && !(overR r o) then (nobodyR, 9)
  else ({ withoutR (if overR r o then { r with h := o.who, t := o.ty } else r) (goneR r o) with g := incR r.g }, 0)
/-- What is allowed. -/
def allowedR (r : ResvOf) (who acc : Int) : Bool :=
  if !(acc == 1) && !(acc == 2) then false
  else if r.h == -1 || holdsR r who then true
  else if acc == 2 then decide (0 < keyR r.regs who) && (r.t == 3 || r.t == 4)
  else r.t == 1 || r.t == 3 || r.t == 5 || (r.t == 4 && decide (0 < keyR r.regs who))
def holdersR (r : ResvOf) : List Int := (r.regs.filter fun p => holdsR r p.1).map (·.1)
end Go.Proofs.Ytfnkdmdcjliebaa
