/-
  What is ignored as an argument: a value of six Booleans, opened and shut; a world that holds the library's listed tables.
-/
import Derived.Test.YtkaadahcefdiiaaDoorRows
import Derived.Test.YtkaadahcefdiiaaDoorCnBox
import Derived.WalkKit
import Derived.ProofKit
import Derived.OpenShut
namespace Go.Proofs.YtkaadahcefdiiaaDoor
open Go.ChangeShapes Go.WideShapes Go.ChangeAt Go.RowKit
open Cn

theorem own : ownKnob Tryd.prog.godebug = none := by kernel_rfl
theorem cellsIg : Tryd.prog.cellsOf 24 = 6 := by kernel_rfl
theorem cellsBool : Tryd.prog.cellsOf 4 = 1 := by kernel_rfl

/-- what is ignored, as a datum -/
def igD {H : Type} (o : Ig) : DataW H := .agg [.lit (.bool o.sp), .lit (.bool o.wt), .lit (.bool o.bl), .lit (.bool o.cs), .lit (.bool o.tb), .lit (.bool o.tr)]

theorem list6 {l : List Value} (h : l.length = 6) : ∃ a b c d e f, l = [a, b, c, d, e, f] := by
  match l, h with
  | [a, b, c, d, e, f], _ => exact ⟨a, b, c, d, e, f, rfl⟩

section
variable {H : Type} {enc : TypeId × Value → H} {w : World} {base : Nat} {spare : Nat → Bool} {held : Bool}
theorem bool1 {n : Nat} {c : Value} {y : DataW H × List MemPlace} (h : DataW.trod enc Tryd.prog w base spare held n 4 [c] = some y) : ∃ b, c = .bool b ∧ y = (.lit (.bool b), []) := by
  obtain ⟨b, e, hx⟩ := DataW.trod_bool Tryd.underlying4 h
  simp at e
  exact ⟨b, e, hx⟩

theorem open_ig {r : Reach} {b0 : Nat} {v : Value} {d : DataW H} {p : List MemPlace} (hv : Value.okWide Tryd.prog w r b0 24 v) (h : DataW.Trod enc Tryd.prog w base spare held 24 v d p) :
    ∃ o : Ig, v = igV o ∧ d = igD o ∧ p = [] := by
  obtain ⟨cs, rfl, hsz⟩ := okWide_struct Tryd.underlying24 hv
  obtain ⟨l⟩ := cs
  obtain ⟨c0, c1, c2, c3, c4, c5, rfl⟩ := list6 (l := l) (by rw [cellsIg] at hsz; simpa using hsz)
  obtain ⟨fuel, hf⟩ := h
  cases fuel with
  | zero => simp [DataW.trod] at hf
  | succ n =>
    simp [DataW.trod, Tryd.underlying24, Value.cells, cellsIg, cellsBool] at hf
    cases hy0 : DataW.trod enc Tryd.prog w base spare held n 4 [c0] with
    | none => simp [hy0] at hf
    | some y0 =>
    obtain ⟨x0, rfl, rfl⟩ := bool1 hy0
    cases hy1 : DataW.trod enc Tryd.prog w base spare held n 4 [c1] with
    | none => simp [hy0, hy1] at hf
    | some y1 =>
    obtain ⟨x1, rfl, rfl⟩ := bool1 hy1
    cases hy2 : DataW.trod enc Tryd.prog w base spare held n 4 [c2] with
    | none => simp [hy0, hy1, hy2] at hf
    | some y2 =>
    obtain ⟨x2, rfl, rfl⟩ := bool1 hy2
    cases hy3 : DataW.trod enc Tryd.prog w base spare held n 4 [c3] with
    | none => simp [hy0, hy1, hy2, hy3] at hf
    | some y3 =>
    obtain ⟨x3, rfl, rfl⟩ := bool1 hy3
    cases hy4 : DataW.trod enc Tryd.prog w base spare held n 4 [c4] with
    | none => simp [hy0, hy1, hy2, hy3, hy4] at hf
    | some y4 =>
    obtain ⟨x4, rfl, rfl⟩ := bool1 hy4
    cases hy5 : DataW.trod enc Tryd.prog w base spare held n 4 [c5] with
    | none => simp [hy0, hy1, hy2, hy3, hy4, hy5] at hf
    | some y5 =>
    obtain ⟨x5, rfl, rfl⟩ := bool1 hy5
    simp [hy0, hy1, hy2, hy3, hy4, hy5] at hf
    exact ⟨⟨x0, x1, x2, x3, x4, x5⟩, rfl, hf.1.symm, hf.2⟩

theorem shut_ig (o : Ig) : DataW.Trod enc Tryd.prog w base spare held 24 (igV o) (igD o) [] :=
  ⟨2, by simp [DataW.trod, igV, igD, Value.cells, Tryd.underlying24, Tryd.underlying4, cellsIg, cellsBool]⟩
end
end Go.Proofs.YtkaadahcefdiiaaDoor
