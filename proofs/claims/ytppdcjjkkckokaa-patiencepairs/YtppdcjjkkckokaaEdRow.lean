/-
  Changes and runs as lists: what a slice of changes, of runs, of numbers, of texts holds, cell by cell; blocks that stay; append onto an owned row of wide elements.
-/
import Derived.Test.YtppdcjjkkckokaaProg
import Derived.WalkKit
import Derived.WalkSpells
import Derived.WalkLawsBesides
import Derived.Deep.QuietTactic
import Derived.BigQuiet
import Derived.Laws.AppendOwnNone
import Derived.Below
namespace Go.Proofs.Ytppdcjjkkckokaa
open Go.RowKit

/-- a change -/
structure Ch where
  A : Int
  AN : Int
  B : Int
  BN : Int
deriving DecidableEq
/-- lines that are kept -/
structure Rn where
  a : Int
  b : Int
  n : Int
deriving DecidableEq
/-- a change as a value -/
def chV (c : Ch) : Value := .agg #[.int .i64 c.A, .int .i64 c.AN, .int .i64 c.B, .int .i64 c.BN]
def rnV (r : Rn) : Value := .agg #[.int .i64 r.a, .int .i64 r.b, .int .i64 r.n]
/-- what a type of elements has: its cells -/
def chC (c : Ch) : List Value := [.int .i64 c.A, .int .i64 c.AN, .int .i64 c.B, .int .i64 c.BN]
def rnC (r : Rn) : List Value := [.int .i64 r.a, .int .i64 r.b, .int .i64 r.n]
def chcells (l : List Ch) : List Value := l.flatMap chC
def rncells (l : List Rn) : List Value := l.flatMap rnC
def icells (ns : List Int) : List Value := ns.map fun z => .int .i64 z
def scells (ws : List (List UInt8)) : List Value := ws.map fun a => .string ⟨a.toArray⟩

theorem infoStr : (Try.prog.info? 9).map (fun i => (i.zero, i.size, i.bytes)) = some (some (.string ⟨#[]⟩), 1, 16) := by kernel_rfl
theorem infoInt : (Try.prog.info? 3).map (fun i => (i.zero, i.size, i.bytes)) = some (some (.int .i64 0), 1, 8) := by kernel_rfl
theorem infoCh : (Try.prog.info? 59).map (fun i => (i.zero, i.size, i.bytes)) = some (some (.agg #[.int .i64 0, .int .i64 0, .int .i64 0, .int .i64 0]), 4, 32) := by kernel_rfl
theorem infoRn : (Try.prog.info? 62).map (fun i => (i.zero, i.size, i.bytes)) = some (some (.agg #[.int .i64 0, .int .i64 0, .int .i64 0]), 3, 24) := by kernel_rfl

theorem addr_of {W : World} {a : Addr} {v : Value} (h : W.cell? (a.add 0) = some v) : ∃ b off, a = ⟨b, off, none⟩ := by
  obtain ⟨b, off, spot⟩ := a
  have hspot : spot = none := by simpa [Addr.add] using World.cell?_spot h
  subst hspot
  exact ⟨b, off, rfl⟩
theorem add_none (b off j : Nat) : (⟨b, off, none⟩ : Addr).add j = ⟨b, off + j, none⟩ := by unfold Addr.add; split <;> simp_all

theorem Below.dN {N : Nat} {w w1 : World} (h : Below N w w1) (n : Nat) : Below N w (w1.drewN n) := ⟨h.os, h.tape, h.output, h.size, h.block⟩
/-- what a slice value of n elements holds, cell by cell -/
def Holds (w : World) (v : Value) (n : Nat) (xs : List Value) : Prop :=
  (v = .slice none 0 0 ∧ n = 0 ∧ xs = []) ∨ ∃ ad c, v = .slice (some ad) n c ∧ n ≤ c ∧ ∀ j u, xs[j]? = some u → w.cell? (ad.add j) = some u
theorem holds_of {w : World} {B : Nat} {e : TypeId} {s : Nat} {v : Value} {n : Nat} {xs : List Value} (h : w.ownsRow B e s v n xs) : Holds w v n xs := by
  rcases h.2 with ⟨rfl, h0⟩ | ⟨g, cap, cur, rfl, _, _, hnc, _⟩
  · exact .inl ⟨rfl, h0, List.eq_nil_of_length_eq_zero (by rw [h.1, h0, Nat.zero_mul])⟩
  · exact .inr ⟨⟨g, 0, none⟩, cap, rfl, hnc, h.cells (g := g) rfl⟩
theorem Holds.keep {w w' : World} {v : Value} {n : Nat} {xs : List Value} (h : Holds w v n xs) (hk : ∀ k, k < w.heap.size → w'.heap[k]? = w.heap[k]?) : Holds w' v n xs := by
  rcases h with h | ⟨ad, c, hv, hnc, hc⟩
  · exact .inl h
  · refine .inr ⟨ad, c, hv, hnc, fun j u hj => ?_⟩
    have h1 := hc j u hj
    have hlt := World.block_lt_of_cell? w _ h1
    rw [World.cell?_of_block (w := w) (hk _ hlt)]
    exact h1
theorem Holds.form {w : World} {v : Value} {n : Nat} {xs : List Value} (h : Holds w v n xs) : ∃ ao c, v = .slice ao n c := by
  rcases h with ⟨rfl, rfl, rfl⟩ | ⟨ad, c, rfl, _⟩
  · exact ⟨_, _, rfl⟩
  · exact ⟨_, _, rfl⟩
/-- a slice that is not empty: where it lies -/
theorem Holds.at {w : World} {v : Value} {n : Nat} {xs : List Value} (h : Holds w v n xs) (h0 : 0 < xs.length) : ∃ b off c, v = .slice (some ⟨b, off, none⟩) n c ∧ b < w.heap.size ∧ ∀ j (hj : j < xs.length), w.cell? ⟨b, off + j, none⟩ = some xs[j] := by
  rcases h with ⟨_, _, rfl⟩ | ⟨ad, c, rfl, _, hc⟩
  · simp at h0
  · obtain ⟨b, off, rfl⟩ := addr_of (hc 0 _ (List.getElem?_eq_getElem h0))
    refine ⟨b, off, c, rfl, World.block_lt_of_cell? w _ (hc 0 _ (List.getElem?_eq_getElem h0)), fun j hj => ?_⟩
    have := hc j _ (List.getElem?_eq_getElem hj)
    rw [add_none] at this
    exact this
theorem Holds.nil (w : World) : Holds w (.slice none 0 0) 0 [] := .inl ⟨rfl, rfl, rfl⟩

theorem chcells_length (l : List Ch) : (chcells l).length = l.length * 4 := by
  induction l with
  | nil => rfl
  | cons c l ih => simp only [chcells, List.flatMap_cons, List.length_append, List.length_cons] at ih ⊢; rw [ih]; simp [chC]; omega
theorem rncells_length (l : List Rn) : (rncells l).length = l.length * 3 := by
  induction l with
  | nil => rfl
  | cons c l ih => simp only [rncells, List.flatMap_cons, List.length_append, List.length_cons] at ih ⊢; rw [ih]; simp [rnC]; omega
theorem icells_length (l : List Int) : (icells l).length = l.length := by simp [icells]
theorem scells_length (l : List (List UInt8)) : (scells l).length = l.length := by simp [scells]
theorem chcells_append (a b : List Ch) : chcells (a ++ b) = chcells a ++ chcells b := by simp [chcells]
theorem rncells_append (a b : List Rn) : rncells (a ++ b) = rncells a ++ rncells b := by simp [rncells]
theorem icells_append (a b : List Int) : icells (a ++ b) = icells a ++ icells b := by simp [icells]
theorem scells_append (a b : List (List UInt8)) : scells (a ++ b) = scells a ++ scells b := by simp [scells]
theorem chcells_one (l : List Ch) : ∀ u ∈ chcells l, u.oneCell' = true := by
  intro u hu
  simp only [chcells, List.mem_flatMap, chC] at hu
  obtain ⟨c, _, h⟩ := hu
  simp only [List.mem_cons, List.not_mem_nil, or_false] at h
  rcases h with rfl | rfl | rfl | rfl <;> rfl
theorem rncells_one (l : List Rn) : ∀ u ∈ rncells l, u.oneCell' = true := by
  intro u hu
  simp only [rncells, List.mem_flatMap, rnC] at hu
  obtain ⟨c, _, h⟩ := hu
  simp only [List.mem_cons, List.not_mem_nil, or_false] at h
  rcases h with rfl | rfl | rfl <;> rfl
theorem icells_one (l : List Int) : ∀ u ∈ icells l, u.oneCell' = true := by
  intro u hu
  simp only [icells, List.mem_map] at hu
  obtain ⟨a, _, rfl⟩ := hu
  rfl
theorem scells_one (l : List (List UInt8)) : ∀ u ∈ scells l, u.oneCell' = true := by
  intro u hu
  simp only [scells, List.mem_map] at hu
  obtain ⟨a, _, rfl⟩ := hu
  rfl
theorem chcells_at (l : List Ch) (k : Nat) (hk : k < l.length) : (chcells l)[4 * k]? = some (.int .i64 l[k].A) ∧ (chcells l)[4 * k + 1]? = some (.int .i64 l[k].AN) ∧ (chcells l)[4 * k + 2]? = some (.int .i64 l[k].B) ∧ (chcells l)[4 * k + 3]? = some (.int .i64 l[k].BN) := by
  induction l generalizing k with
  | nil => simp at hk
  | cons c l ih =>
    cases k with
    | zero => simp [chcells, chC]
    | succ k =>
      have h := ih k (by simpa using hk)
      have e : ∀ i, (chcells (c :: l))[4 * (k + 1) + i]? = (chcells l)[4 * k + i]? := by
        intro i
        have : chcells (c :: l) = chC c ++ chcells l := rfl
        rw [this, List.getElem?_append_right (by simp [chC]; omega)]
        congr 1
        simp [chC]; omega
      simp only [List.getElem_cons_succ]
      refine ⟨by rw [← (h).1]; exact e 0, by rw [← h.2.1]; exact e 1, by rw [← h.2.2.1]; exact e 2, by rw [← h.2.2.2]; exact e 3⟩
theorem rncells_at (l : List Rn) (k : Nat) (hk : k < l.length) : (rncells l)[3 * k]? = some (.int .i64 l[k].a) ∧ (rncells l)[3 * k + 1]? = some (.int .i64 l[k].b) ∧ (rncells l)[3 * k + 2]? = some (.int .i64 l[k].n) := by
  induction l generalizing k with
  | nil => simp at hk
  | cons c l ih =>
    cases k with
    | zero => simp [rncells, rnC]
    | succ k =>
      have h := ih k (by simpa using hk)
      have e : ∀ i, (rncells (c :: l))[3 * (k + 1) + i]? = (rncells l)[3 * k + i]? := by
        intro i
        have : rncells (c :: l) = rnC c ++ rncells l := rfl
        rw [this, List.getElem?_append_right (by simp [rnC]; omega)]
        congr 1
        simp [rnC]; omega
      simp only [List.getElem_cons_succ]
      refine ⟨by rw [← (h).1]; exact e 0, by rw [← h.2.1]; exact e 1, by rw [← h.2.2]; exact e 2⟩

/-- a slice of changes -/
def HCh (w : World) (v : Value) (l : List Ch) : Prop := Holds w v l.length (chcells l)
def HRn (w : World) (v : Value) (l : List Rn) : Prop := Holds w v l.length (rncells l)
def HI (w : World) (v : Value) (l : List Int) : Prop := Holds w v l.length (icells l)
def HS (w : World) (v : Value) (l : List (List UInt8)) : Prop := Holds w v l.length (scells l)
theorem HCh.keep {w w' : World} {v : Value} {l : List Ch} (h : HCh w v l) {N : Nat} (hk : Below N w w') (hN : w.heap.size ≤ N) : HCh w' v l := Holds.keep h fun k hk' => hk.block k (by omega)
theorem HRn.keep {w w' : World} {v : Value} {l : List Rn} (h : HRn w v l) {N : Nat} (hk : Below N w w') (hN : w.heap.size ≤ N) : HRn w' v l := Holds.keep h fun k hk' => hk.block k (by omega)
theorem HI.keep {w w' : World} {v : Value} {l : List Int} (h : HI w v l) {N : Nat} (hk : Below N w w') (hN : w.heap.size ≤ N) : HI w' v l := Holds.keep h fun k hk' => hk.block k (by omega)
theorem HS.keep {w w' : World} {v : Value} {l : List (List UInt8)} (h : HS w v l) {N : Nat} (hk : Below N w w') (hN : w.heap.size ≤ N) : HS w' v l := Holds.keep h fun k hk' => hk.block k (by omega)

/-- the change at a place: where it lies -/
theorem HCh.at {w : World} {ao : Option Addr} {n c : Nat} {l : List Ch} (h : HCh w (.slice ao n c) l) (h0 : 0 < l.length) : ∃ b off, ao = some ⟨b, off, none⟩ ∧ b < w.heap.size ∧
    ∀ k (hk : k < l.length), w.cell? ⟨b, off + k * 4, none⟩ = some (.int .i64 l[k].A) ∧ w.cell? ⟨b, off + k * 4 + 1, none⟩ = some (.int .i64 l[k].AN) ∧ w.cell? ⟨b, off + k * 4 + 2, none⟩ = some (.int .i64 l[k].B) ∧ w.cell? ⟨b, off + k * 4 + 3, none⟩ = some (.int .i64 l[k].BN) := by
  obtain ⟨b, off, c', hv, hb, hc⟩ := Holds.at h (by rw [chcells_length]; omega)
  cases hv
  refine ⟨b, off, rfl, hb, fun k hk => ?_⟩
  obtain ⟨h0, h1, h2, h3⟩ := chcells_at l k hk
  have hlen := chcells_length l
  have e : k * 4 = 4 * k := by omega
  rw [e]
  refine ⟨?_, ?_, ?_, ?_⟩
  · have := hc (4 * k) (by omega)
    rw [← h0, this, List.getElem?_eq_getElem]
  · have := hc (4 * k + 1) (by omega)
    rw [← h1, Nat.add_assoc, this, List.getElem?_eq_getElem]
  · have := hc (4 * k + 2) (by omega)
    rw [← h2, Nat.add_assoc, this, List.getElem?_eq_getElem]
  · have := hc (4 * k + 3) (by omega)
    rw [← h3, Nat.add_assoc, this, List.getElem?_eq_getElem]
theorem HRn.at {w : World} {ao : Option Addr} {n c : Nat} {l : List Rn} (h : HRn w (.slice ao n c) l) (h0 : 0 < l.length) : ∃ b off, ao = some ⟨b, off, none⟩ ∧ b < w.heap.size ∧
    ∀ k (hk : k < l.length), w.cell? ⟨b, off + k * 3, none⟩ = some (.int .i64 l[k].a) ∧ w.cell? ⟨b, off + k * 3 + 1, none⟩ = some (.int .i64 l[k].b) ∧ w.cell? ⟨b, off + k * 3 + 2, none⟩ = some (.int .i64 l[k].n) := by
  obtain ⟨b, off, c', hv, hb, hc⟩ := Holds.at h (by rw [rncells_length]; omega)
  cases hv
  refine ⟨b, off, rfl, hb, fun k hk => ?_⟩
  obtain ⟨h0, h1, h2⟩ := rncells_at l k hk
  have hlen := rncells_length l
  have e : k * 3 = 3 * k := by omega
  rw [e]
  refine ⟨?_, ?_, ?_⟩
  · have := hc (3 * k) (by omega)
    rw [← h0, this, List.getElem?_eq_getElem]
  · have := hc (3 * k + 1) (by omega)
    rw [← h1, Nat.add_assoc, this, List.getElem?_eq_getElem]
  · have := hc (3 * k + 2) (by omega)
    rw [← h2, Nat.add_assoc, this, List.getElem?_eq_getElem]
theorem HI.at {w : World} {ao : Option Addr} {n c : Nat} {l : List Int} (h : HI w (.slice ao n c) l) (h0 : 0 < l.length) : ∃ b off, ao = some ⟨b, off, none⟩ ∧ b < w.heap.size ∧
    ∀ k (hk : k < l.length), w.cell? ⟨b, off + k, none⟩ = some (.int .i64 l[k]) := by
  obtain ⟨b, off, c', hv, hb, hc⟩ := Holds.at h (by rw [icells_length]; omega)
  cases hv
  exact ⟨b, off, rfl, hb, fun k hk => by rw [hc k (by rw [icells_length]; exact hk)]; simp [icells]⟩
theorem HS.at {w : World} {ao : Option Addr} {n c : Nat} {l : List (List UInt8)} (h : HS w (.slice ao n c) l) (h0 : 0 < l.length) : ∃ b off, ao = some ⟨b, off, none⟩ ∧ b < w.heap.size ∧
    ∀ k (hk : k < l.length), w.cell? ⟨b, off + k, none⟩ = some (.string ⟨l[k].toArray⟩) := by
  obtain ⟨b, off, c', hv, hb, hc⟩ := Holds.at h (by rw [scells_length]; omega)
  cases hv
  exact ⟨b, off, rfl, hb, fun k hk => by rw [hc k (by rw [scells_length]; exact hk)]; simp [scells]⟩
end Go.Proofs.Ytppdcjjkkckokaa
