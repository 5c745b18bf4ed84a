/-
  Rows of pairs in memory: two cells a pair.
-/
import Derived.Test.YtppdcjjkkckokaaEdDrew
import Derived.Test.YtppdcjjkkckokaaPaMath
namespace Go.Proofs.Ytppdcjjkkckokaa
open Go.RowKit

def prV (p : Pr) : Value := .agg #[.int .i64 p.X, .int .i64 p.Y]
def prC (p : Pr) : List Value := [.int .i64 p.X, .int .i64 p.Y]
def prcells (l : List Pr) : List Value := l.flatMap prC
theorem infoPr : (Try.prog.info? 44).map (fun i => (i.zero, i.size, i.bytes)) = some (some (.agg #[.int .i64 0, .int .i64 0]), 2, 16) := by kernel_rfl
theorem infoQr : (Try.prog.info? 43).map (fun i => (i.zero, i.size, i.bytes)) = some (some (.agg #[.int .i64 0, .int .i64 0]), 2, 16) := by kernel_rfl
theorem prcells_length (l : List Pr) : (prcells l).length = l.length * 2 := by
  induction l with
  | nil => rfl
  | cons p t ih => simp only [prcells, List.flatMap_cons, List.length_append, List.length_cons, prC, List.length_nil] at ih ⊢; omega
theorem prcells_append (a b : List Pr) : prcells (a ++ b) = prcells a ++ prcells b := by simp [prcells]
theorem prcells_one (l : List Pr) : ∀ u ∈ prcells l, u.oneCell' = true := by
  intro u hu
  simp only [prcells, List.mem_flatMap] at hu
  obtain ⟨p, _, hp⟩ := hu
  simp [prC] at hp
  rcases hp with rfl | rfl <;> rfl
theorem prcells_at (l : List Pr) (k : Nat) (hk : k < l.length) : (prcells l)[2 * k]? = some (.int .i64 l[k].X) ∧ (prcells l)[2 * k + 1]? = some (.int .i64 l[k].Y) := by
  induction l generalizing k with
  | nil => simp at hk
  | cons p t ih =>
    have e : prcells (p :: t) = .int .i64 p.X :: .int .i64 p.Y :: prcells t := rfl
    cases k with
    | zero => rw [e]; exact ⟨rfl, rfl⟩
    | succ k =>
      have := ih k (by simpa using hk)
      rw [e, show 2 * (k + 1) = 2 * k + 1 + 1 by omega]
      simpa using this
theorem prcells_take (l : List Pr) (k : Nat) : prcells (l.take k) = (prcells l).take (2 * k) := by
  induction l generalizing k with
  | nil => simp [prcells]
  | cons p t ih =>
    cases k with
    | zero => simp [prcells]
    | succ k =>
      have e : prcells (p :: t) = .int .i64 p.X :: .int .i64 p.Y :: prcells t := rfl
      have e2 : prcells ((p :: t).take (k + 1)) = .int .i64 p.X :: .int .i64 p.Y :: prcells (t.take k) := rfl
      rw [e, e2, ih, show 2 * (k + 1) = 2 * k + 1 + 1 by omega]
      rfl
theorem prcells_drop (l : List Pr) (k : Nat) : prcells (l.drop k) = (prcells l).drop (2 * k) := by
  induction l generalizing k with
  | nil => simp [prcells]
  | cons p t ih =>
    cases k with
    | zero => simp
    | succ k =>
      have e : prcells (p :: t) = .int .i64 p.X :: .int .i64 p.Y :: prcells t := rfl
      rw [e, List.drop_succ_cons, ih, show 2 * (k + 1) = 2 * k + 1 + 1 by omega]
      rfl
def HPr (w : World) (v : Value) (l : List Pr) : Prop := Holds w v l.length (prcells l)
theorem HPr.keep {w w' : World} {v : Value} {l : List Pr} (h : HPr w v l) {N : Nat} (hk : Below N w w') (hN : w.heap.size ≤ N) : HPr w' v l := Holds.keep h fun k hk' => hk.block k (by omega)
theorem HPr.at {w : World} {ao : Option Addr} {n c : Nat} {l : List Pr} (h : HPr w (.slice ao n c) l) (h0 : 0 < l.length) : ∃ b off, ao = some ⟨b, off, none⟩ ∧ b < w.heap.size ∧
    ∀ k (hk : k < l.length), w.cell? ⟨b, off + k * 2, none⟩ = some (.int .i64 l[k].X) ∧ w.cell? ⟨b, off + k * 2 + 1, none⟩ = some (.int .i64 l[k].Y) := by
  obtain ⟨b, off, c', hv, hb, hc⟩ := Holds.at h (by rw [prcells_length]; omega)
  cases hv
  refine ⟨b, off, rfl, hb, fun k hk => ?_⟩
  obtain ⟨h1, h2⟩ := prcells_at l k hk
  obtain ⟨l1, e1⟩ := List.getElem?_eq_some_iff.1 h1
  obtain ⟨l2, e2⟩ := List.getElem?_eq_some_iff.1 h2
  have g1 := hc _ l1
  have g2 := hc _ l2
  rw [e1] at g1
  rw [e2] at g2
  rw [show k * 2 = 2 * k by omega, Nat.add_assoc]
  exact ⟨g1, g2⟩
end Go.Proofs.Ytppdcjjkkckokaa
