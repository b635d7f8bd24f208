/- A key that comes in as an argument, opened: a function from places to bytes. No condition. -/
import Derived.Test.YtfjbehobpkmjbaaArr
import Derived.Test.YtfjbehobpkmjbaaKey
import Derived.ProofKit
import Derived.OpenShut
import Derived.ChangeOld
import Derived.Below
namespace Go.Proofs.Ytfjbehobpkmjbaa
open Go.ChangeShapes Go.WideShapes Go.ChangeAt Go.RowKit

/-- An array of bytes that came in, by value. -/
theorem open_bytes {H : Type} {enc : TypeId × Value → H} {P : Program} {W : World} {r : Reach} {b0 base : Nat} {spare : Nat → Bool} {held : Bool} {t e : TypeId} {n : Nat} {v : Value} {d : DataW H} {p : List MemPlace}
    (ht : P.underlying t = some (.array n e)) (he : P.underlying e = some (.int .u8)) (hc : P.cellsOf e = 1) (hn : P.cellsOf t = n)
    (hv : Value.okWide P W r b0 t v) (h : DataW.Trod enc P W base spare held t v d p) : ∃ f : Nat → Nat, (∀ i, i < n → f i < 256) ∧ v = .agg (cellsOf .u8 (mk n f)) := by
  have hv' : ∃ cs, v = .agg cs ∧ cs.size = P.cellsOf t ∧ Row.okWide P W r b0 t cs := by
    unfold Value.okWide at hv; rw [ht] at hv; exact hv
  obtain ⟨cs, rfl, hsz, _⟩ := hv'
  obtain ⟨fuel, hf⟩ := h
  obtain ⟨xs, m, rfl, hx, hlen, hxn, hel⟩ := DataW.trod_array ht hf
  have each : ∀ i, i < n → ∃ a : Nat, a < 256 ∧ cs[i]? = some (.int .u8 a) := by
    intro i hi
    have hi2 := hel i hi
    rw [hc, Nat.mul_one] at hi2
    have hlt : i < xs.length := by omega
    rw [List.getElem?_eq_getElem hlt] at hi2
    obtain ⟨a, ha, _, hw⟩ := DataW.trod_int he hi2
    have hb := bounds_u8 hw
    refine ⟨a.toNat, by omega, ?_⟩
    rw [show ((a.toNat : Nat) : Int) = a by omega]
    have hlc : i < cs.size := by omega
    have hd : (Value.cells (.agg cs)).toList = cs.toList := rfl
    rw [hd, List.drop_eq_getElem_cons (by simpa using hlc)] at ha
    simp at ha
    rw [Array.getElem?_eq_getElem hlc, ha]
  refine ⟨fun i => match cs[i]? with | some (.int _ a) => a.toNat | _ => 0, fun i hi => ?_, ?_⟩
  · obtain ⟨a, ha, hc⟩ := each i hi
    simp only [hc]; omega
  · congr 1
    apply Array.ext
    · rw [cellsOf_size, mk_len]; omega
    · intro i h1 h2
      obtain ⟨a, ha, hc⟩ := each i (by omega)
      have hg := cellsOf_get .u8 (mk n fun i => match cs[i]? with | some (.int _ a) => a.toNat | _ => 0) (i := i) (by rw [mk_len]; omega)
      rw [mk_get (by omega), hc] at hg
      rw [Array.getElem?_eq_getElem h1] at hc
      rw [Array.getElem?_eq_getElem h2] at hg
      simp at hc hg
      rw [hc, hg]
end Go.Proofs.Ytfjbehobpkmjbaa
