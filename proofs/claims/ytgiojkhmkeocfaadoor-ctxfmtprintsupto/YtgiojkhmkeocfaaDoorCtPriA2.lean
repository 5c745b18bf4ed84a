/-
  Texts that belong together, joined: EdRow, EdMath, EdM2, EdM3, EdM4, EdM5, HuMath, HuM2, HuM3, HuM4, HuM5, HuM6, EdChk, EdIter, EdOwn, EdKeep, EdWalk, EdDrew, HuRow, HuRf1, HuRf2, HuRf3.
-/
import Derived.Test.YtgiojkhmkeocfaaDoorProg
import Derived.WalkKit
import Derived.WalkSpells
import Derived.WalkLawsBesides
import Derived.Deep.QuietTactic
import Derived.BigQuiet
import Derived.Laws.AppendOwnNone
import Derived.Below
import Derived.RangeFuncNested
import Derived.RangeFuncBound
import Derived.RangeFuncCalls
import Derived.RangeFuncLeaves
import Derived.RangeFuncBox
import Derived.Shelf.Abstract
import Derived.Shelf.RegionOpen
import Derived.OwnWalkIn
import Derived.TacticsInMore
import Derived.LoopNIn
import Derived.LoopIn
import Derived.Maps.AppendAt
import Derived.Deep.RegionHeld3

/- Changes and runs as lists: what a slice of changes, of runs, of numbers, of texts holds, cell by cell; blocks that stay; append onto an owned row of wide elements. -/
namespace Go.Proofs.YtgiojkhmkeocfaaDoor
open Go.RowKit

/-- a change -/
structure Ch where
  A : Int
  AN : Int
  B : Int
  BN : Int
/-- lines that are kept -/
structure Rn where
  a : Int
  b : Int
  n : Int
/-- what a type of elements has: its cells -/
def chC (c : Ch) : List Value := [.int .i64 c.A, .int .i64 c.AN, .int .i64 c.B, .int .i64 c.BN]
def rnC (r : Rn) : List Value := [.int .i64 r.a, .int .i64 r.b, .int .i64 r.n]
def chcells (l : List Ch) : List Value := l.flatMap chC
def rncells (l : List Rn) : List Value := l.flatMap rnC
def icells (ns : List Int) : List Value := ns.map fun z => .int .i64 z
def scells (ws : List (List UInt8)) : List Value := ws.map fun a => .string ⟨a.toArray⟩

theorem infoStr : (Tryd.prog.info? 9).map (fun i => (i.zero, i.size, i.bytes)) = some (some (.string ⟨#[]⟩), 1, 16) := by kernel_rfl
theorem addr_of {W : World} {a : Addr} {v : Value} (h : W.cell? (a.add 0) = some v) : ∃ b off, a = ⟨b, off, none⟩ := by
  obtain ⟨b, off, spot⟩ := a
  have hspot : spot = none := by simpa [Addr.add] using World.cell?_spot h
  subst hspot
  exact ⟨b, off, rfl⟩
theorem add_none (b off j : Nat) : (⟨b, off, none⟩ : Addr).add j = ⟨b, off + j, none⟩ := by unfold Addr.add; split <;> simp_all

theorem Below.dN {N : Nat} {w w1 : World} (h : Below N w w1) (n : Nat) : Below N w (w1.drewN n) := ⟨h.os, h.tape, h.output, h.size, h.block⟩
/-- what a slice value of n elements holds, cell by cell -/
def Holds (w : World) (v : Value) (n : Nat) (xs : List Value) : Prop :=
  (v = .slice none 0 0 ∧ n = 0 ∧ xs = []) ∨ ∃ ad c, v = .slice (some ad) n c ∧ n ≤ c ∧ ∀ j u, xs[j]? = some u → w.cell? (ad.add j) = some u
theorem holds_of {w : World} {B : Nat} {e : TypeId} {s : Nat} {v : Value} {n : Nat} {xs : List Value} (h : w.ownsRow B e s v n xs) : Holds w v n xs := by
  rcases h.2 with ⟨rfl, h0⟩ | ⟨g, cap, cur, rfl, _, _, hnc, _⟩
  · exact .inl ⟨rfl, h0, List.eq_nil_of_length_eq_zero (by rw [h.1, h0, Nat.zero_mul])⟩
  · exact .inr ⟨⟨g, 0, none⟩, cap, rfl, hnc, h.cells (g := g) rfl⟩
theorem Holds.keep {w w' : World} {v : Value} {n : Nat} {xs : List Value} (h : Holds w v n xs) (hk : ∀ k, k < w.heap.size → w'.heap[k]? = w.heap[k]?) : Holds w' v n xs := by
  rcases h with h | ⟨ad, c, hv, hnc, hc⟩
  · exact .inl h
  · refine .inr ⟨ad, c, hv, hnc, fun j u hj => ?_⟩
    have h1 := hc j u hj
    have hlt := World.block_lt_of_cell? w _ h1
    rw [World.cell?_of_block (w := w) (hk _ hlt)]
    exact h1
theorem Holds.form {w : World} {v : Value} {n : Nat} {xs : List Value} (h : Holds w v n xs) : ∃ ao c, v = .slice ao n c := by
  rcases h with ⟨rfl, rfl, rfl⟩ | ⟨ad, c, rfl, _⟩
  · exact ⟨_, _, rfl⟩
  · exact ⟨_, _, rfl⟩
/-- a slice that is not empty: where it lies -/
theorem Holds.at {w : World} {v : Value} {n : Nat} {xs : List Value} (h : Holds w v n xs) (h0 : 0 < xs.length) : ∃ b off c, v = .slice (some ⟨b, off, none⟩) n c ∧ b < w.heap.size ∧ ∀ j (hj : j < xs.length), w.cell? ⟨b, off + j, none⟩ = some xs[j] := by
  rcases h with ⟨_, _, rfl⟩ | ⟨ad, c, rfl, _, hc⟩
  · simp at h0
  · obtain ⟨b, off, rfl⟩ := addr_of (hc 0 _ (List.getElem?_eq_getElem h0))
    refine ⟨b, off, c, rfl, World.block_lt_of_cell? w _ (hc 0 _ (List.getElem?_eq_getElem h0)), fun j hj => ?_⟩
    have := hc j _ (List.getElem?_eq_getElem hj)
    rw [add_none] at this
    exact this
theorem Holds.nil (w : World) : Holds w (.slice none 0 0) 0 [] := .inl ⟨rfl, rfl, rfl⟩

theorem chcells_length (l : List Ch) : (chcells l).length = l.length * 4 := by
  induction l with
  | nil => rfl
  | cons c l ih => simp only [chcells, List.flatMap_cons, List.length_append, List.length_cons] at ih ⊢; rw [ih]; simp [chC]; omega
theorem rncells_length (l : List Rn) : (rncells l).length = l.length * 3 := by
  induction l with
  | nil => rfl
  | cons c l ih => simp only [rncells, List.flatMap_cons, List.length_append, List.length_cons] at ih ⊢; rw [ih]; simp [rnC]; omega
theorem icells_length (l : List Int) : (icells l).length = l.length := by simp [icells]
theorem scells_length (l : List (List UInt8)) : (scells l).length = l.length := by simp [scells]
theorem scells_append (a b : List (List UInt8)) : scells (a ++ b) = scells a ++ scells b := by simp [scells]
theorem icells_one (l : List Int) : ∀ u ∈ icells l, u.oneCell' = true := by
  intro u hu
  simp only [icells, List.mem_map] at hu
  obtain ⟨a, _, rfl⟩ := hu
  rfl
theorem scells_one (l : List (List UInt8)) : ∀ u ∈ scells l, u.oneCell' = true := by
  intro u hu
  simp only [scells, List.mem_map] at hu
  obtain ⟨a, _, rfl⟩ := hu
  rfl
theorem chcells_at (l : List Ch) (k : Nat) (hk : k < l.length) : (chcells l)[4 * k]? = some (.int .i64 l[k].A) ∧ (chcells l)[4 * k + 1]? = some (.int .i64 l[k].AN) ∧ (chcells l)[4 * k + 2]? = some (.int .i64 l[k].B) ∧ (chcells l)[4 * k + 3]? = some (.int .i64 l[k].BN) := by
  induction l generalizing k with
  | nil => simp at hk
  | cons c l ih =>
    cases k with
    | zero => simp [chcells, chC]
    | succ k =>
      have h := ih k (by simpa using hk)
      have e : ∀ i, (chcells (c :: l))[4 * (k + 1) + i]? = (chcells l)[4 * k + i]? := by
        intro i
        have : chcells (c :: l) = chC c ++ chcells l := rfl
        rw [this, List.getElem?_append_right (by simp [chC]; omega)]
        congr 1
        simp [chC]; omega
      simp only [List.getElem_cons_succ]
      refine ⟨by rw [← (h).1]; exact e 0, by rw [← h.2.1]; exact e 1, by rw [← h.2.2.1]; exact e 2, by rw [← h.2.2.2]; exact e 3⟩
theorem rncells_at (l : List Rn) (k : Nat) (hk : k < l.length) : (rncells l)[3 * k]? = some (.int .i64 l[k].a) ∧ (rncells l)[3 * k + 1]? = some (.int .i64 l[k].b) ∧ (rncells l)[3 * k + 2]? = some (.int .i64 l[k].n) := by
  induction l generalizing k with
  | nil => simp at hk
  | cons c l ih =>
    cases k with
    | zero => simp [rncells, rnC]
    | succ k =>
      have h := ih k (by simpa using hk)
      have e : ∀ i, (rncells (c :: l))[3 * (k + 1) + i]? = (rncells l)[3 * k + i]? := by
        intro i
        have : rncells (c :: l) = rnC c ++ rncells l := rfl
        rw [this, List.getElem?_append_right (by simp [rnC]; omega)]
        congr 1
        simp [rnC]; omega
      simp only [List.getElem_cons_succ]
      refine ⟨by rw [← (h).1]; exact e 0, by rw [← h.2.1]; exact e 1, by rw [← h.2.2]; exact e 2⟩

/-- a slice of changes -/
def HCh (w : World) (v : Value) (l : List Ch) : Prop := Holds w v l.length (chcells l)
def HRn (w : World) (v : Value) (l : List Rn) : Prop := Holds w v l.length (rncells l)
def HI (w : World) (v : Value) (l : List Int) : Prop := Holds w v l.length (icells l)
def HS (w : World) (v : Value) (l : List (List UInt8)) : Prop := Holds w v l.length (scells l)
theorem HCh.keep {w w' : World} {v : Value} {l : List Ch} (h : HCh w v l) {N : Nat} (hk : Below N w w') (hN : w.heap.size ≤ N) : HCh w' v l := Holds.keep h fun k hk' => hk.block k (by omega)
theorem HRn.keep {w w' : World} {v : Value} {l : List Rn} (h : HRn w v l) {N : Nat} (hk : Below N w w') (hN : w.heap.size ≤ N) : HRn w' v l := Holds.keep h fun k hk' => hk.block k (by omega)
theorem HI.keep {w w' : World} {v : Value} {l : List Int} (h : HI w v l) {N : Nat} (hk : Below N w w') (hN : w.heap.size ≤ N) : HI w' v l := Holds.keep h fun k hk' => hk.block k (by omega)
theorem HS.keep {w w' : World} {v : Value} {l : List (List UInt8)} (h : HS w v l) {N : Nat} (hk : Below N w w') (hN : w.heap.size ≤ N) : HS w' v l := Holds.keep h fun k hk' => hk.block k (by omega)

/-- the change at a place: where it lies -/
theorem HCh.at {w : World} {ao : Option Addr} {n c : Nat} {l : List Ch} (h : HCh w (.slice ao n c) l) (h0 : 0 < l.length) : ∃ b off, ao = some ⟨b, off, none⟩ ∧ b < w.heap.size ∧
    ∀ k (hk : k < l.length), w.cell? ⟨b, off + k * 4, none⟩ = some (.int .i64 l[k].A) ∧ w.cell? ⟨b, off + k * 4 + 1, none⟩ = some (.int .i64 l[k].AN) ∧ w.cell? ⟨b, off + k * 4 + 2, none⟩ = some (.int .i64 l[k].B) ∧ w.cell? ⟨b, off + k * 4 + 3, none⟩ = some (.int .i64 l[k].BN) := by
  obtain ⟨b, off, c', hv, hb, hc⟩ := Holds.at h (by rw [chcells_length]; omega)
  cases hv
  refine ⟨b, off, rfl, hb, fun k hk => ?_⟩
  obtain ⟨h0, h1, h2, h3⟩ := chcells_at l k hk
  have hlen := chcells_length l
  have e : k * 4 = 4 * k := by omega
  rw [e]
  refine ⟨?_, ?_, ?_, ?_⟩
  · have := hc (4 * k) (by omega)
    rw [← h0, this, List.getElem?_eq_getElem]
  · have := hc (4 * k + 1) (by omega)
    rw [← h1, Nat.add_assoc, this, List.getElem?_eq_getElem]
  · have := hc (4 * k + 2) (by omega)
    rw [← h2, Nat.add_assoc, this, List.getElem?_eq_getElem]
  · have := hc (4 * k + 3) (by omega)
    rw [← h3, Nat.add_assoc, this, List.getElem?_eq_getElem]
theorem HRn.at {w : World} {ao : Option Addr} {n c : Nat} {l : List Rn} (h : HRn w (.slice ao n c) l) (h0 : 0 < l.length) : ∃ b off, ao = some ⟨b, off, none⟩ ∧ b < w.heap.size ∧
    ∀ k (hk : k < l.length), w.cell? ⟨b, off + k * 3, none⟩ = some (.int .i64 l[k].a) ∧ w.cell? ⟨b, off + k * 3 + 1, none⟩ = some (.int .i64 l[k].b) ∧ w.cell? ⟨b, off + k * 3 + 2, none⟩ = some (.int .i64 l[k].n) := by
  obtain ⟨b, off, c', hv, hb, hc⟩ := Holds.at h (by rw [rncells_length]; omega)
  cases hv
  refine ⟨b, off, rfl, hb, fun k hk => ?_⟩
  obtain ⟨h0, h1, h2⟩ := rncells_at l k hk
  have hlen := rncells_length l
  have e : k * 3 = 3 * k := by omega
  rw [e]
  refine ⟨?_, ?_, ?_⟩
  · have := hc (3 * k) (by omega)
    rw [← h0, this, List.getElem?_eq_getElem]
  · have := hc (3 * k + 1) (by omega)
    rw [← h1, Nat.add_assoc, this, List.getElem?_eq_getElem]
  · have := hc (3 * k + 2) (by omega)
    rw [← h2, Nat.add_assoc, this, List.getElem?_eq_getElem]
theorem HI.at {w : World} {ao : Option Addr} {n c : Nat} {l : List Int} (h : HI w (.slice ao n c) l) (h0 : 0 < l.length) : ∃ b off, ao = some ⟨b, off, none⟩ ∧ b < w.heap.size ∧
    ∀ k (hk : k < l.length), w.cell? ⟨b, off + k, none⟩ = some (.int .i64 l[k]) := by
  obtain ⟨b, off, c', hv, hb, hc⟩ := Holds.at h (by rw [icells_length]; omega)
  cases hv
  exact ⟨b, off, rfl, hb, fun k hk => by rw [hc k (by rw [icells_length]; exact hk)]; simp [icells]⟩
theorem HS.at {w : World} {ao : Option Addr} {n c : Nat} {l : List (List UInt8)} (h : HS w (.slice ao n c) l) (h0 : 0 < l.length) : ∃ b off, ao = some ⟨b, off, none⟩ ∧ b < w.heap.size ∧
    ∀ k (hk : k < l.length), w.cell? ⟨b, off + k, none⟩ = some (.string ⟨l[k].toArray⟩) := by
  obtain ⟨b, off, c', hv, hb, hc⟩ := Holds.at h (by rw [scells_length]; omega)
  cases hv
  exact ⟨b, off, rfl, hb, fun k hk => by rw [hc k (by rw [scells_length]; exact hk)]; simp [scells]⟩
end Go.Proofs.YtgiojkhmkeocfaaDoor

/- Edit scripts as lists: which are right, what they keep, how they are made, put together and gone back; plain mathematics. -/
namespace Go.Proofs.YtgiojkhmkeocfaaDoor

/-- numbers that a right script may have -/
def nat31 (z : Int) : Bool := decide (0 ≤ z) && decide (z ≤ 2147483647)
/-- a change of which the numbers are right, and which changes something -/
def numB (c : Ch) : Bool := nat31 c.A && nat31 c.AN && nat31 c.B && nat31 c.BN && (decide (0 < c.AN) || decide (0 < c.BN))
theorem numB_iff (c : Ch) : numB c = true ↔ (0 ≤ c.A ∧ c.A ≤ 2147483647) ∧ (0 ≤ c.AN ∧ c.AN ≤ 2147483647) ∧ (0 ≤ c.B ∧ c.B ≤ 2147483647) ∧ (0 ≤ c.BN ∧ c.BN ≤ 2147483647) ∧ (0 < c.AN ∨ 0 < c.BN) := by
  simp [numB, nat31, and_assoc]

/-- the rest of a right script, behind the lines a and b; f: nothing stands ahead of it -/
def Right : Bool → Int → Int → Int → Int → List Ch → Prop
  | _, a, b, n, m, [] => a ≤ n ∧ b ≤ m ∧ n - a = m - b
  | f, a, b, n, m, c :: l => (numB c = true ∧ c.A - a = c.B - b ∧ a ≤ c.A ∧ (f = true ∨ a < c.A)) ∧ Right false (c.A + c.AN) (c.B + c.BN) n m l
def decRight : (f : Bool) → (a b n m : Int) → (l : List Ch) → Decidable (Right f a b n m l)
  | _, a, b, n, m, [] => inferInstanceAs (Decidable (a ≤ n ∧ b ≤ m ∧ n - a = m - b))
  | f, a, b, n, m, c :: l =>
    have _ := decRight false (c.A + c.AN) (c.B + c.BN) n m l
    inferInstanceAs (Decidable ((numB c = true ∧ c.A - a = c.B - b ∧ a ≤ c.A ∧ (f = true ∨ a < c.A)) ∧ Right false (c.A + c.AN) (c.B + c.BN) n m l))
theorem Right.le {f : Bool} {a b n m : Int} {l : List Ch} (h : Right f a b n m l) : a ≤ n ∧ b ≤ m ∧ n - a - (m - b) = n - a - (m - b) := by
  induction l generalizing f a b with
  | nil => exact ⟨h.1, h.2.1, rfl⟩
  | cons c l ih =>
    obtain ⟨⟨h1, h2, h3, h4⟩, h5⟩ := h
    rw [numB_iff] at h1
    have := ih h5
    refine ⟨by omega, by omega, rfl⟩
/-- a script is right from n to m lines -/
def Script (l : List Ch) (n m : Int) : Prop := 0 ≤ n ∧ 0 ≤ m ∧ Right true 0 0 n m l
def decScript (l : List Ch) (n m : Int) : Decidable (Script l n m) :=
  have _ := decRight true 0 0 n m l
  inferInstanceAs (Decidable (0 ≤ n ∧ 0 ≤ m ∧ Right true 0 0 n m l))
/-- Check's answer -/
def chk (l : List Ch) (n m : Int) : Int := @ite Int (Script l n m) (decScript l n m) 0 50
/-- a script, piece by piece: what is kept, and the change behind it -/
def piecesL : Int → Int → Int → Int → List Ch → List (Rn × Ch)
  | a, b, n, m, [] => [(⟨a, b, n - a⟩, ⟨n, 0, m, 0⟩)]
  | a, b, n, m, c :: l => (⟨a, b, c.A - a⟩, c) :: piecesL (c.A + c.AN) (c.B + c.BN) n m l
/-- a piece of a text -/
def cut (A : List (List UInt8)) (i n : Int) : List (List UInt8) := (A.drop i.toNat).take n.toNat
end Go.Proofs.YtgiojkhmkeocfaaDoor

/- Edit scripts and the pairs that they keep: plain mathematics. Units: runs of one line; a script is made again out of its units. -/
namespace Go.Proofs.YtgiojkhmkeocfaaDoor

/-- k pairs from a and b on -/
def un (a b : Int) : Nat → List Rn
  | 0 => []
  | k + 1 => ⟨a, b, 1⟩ :: un (a + 1) (b + 1) k
/-- the pairs of a run -/
def ex (r : Rn) : List Rn := un r.a r.b r.n.toNat
def exs (rs : List Rn) : List Rn := rs.flatMap ex
theorem exs_cons (r : Rn) (rs : List Rn) : exs (r :: rs) = ex r ++ exs rs := rfl
theorem mem_un {a b : Int} {k : Nat} {r : Rn} : r ∈ un a b k ↔ r.n = 1 ∧ a ≤ r.a ∧ r.a < a + k ∧ r.b - r.a = b - a := by
  induction k generalizing a b with
  | zero => simp [un]; omega
  | succ k ih =>
    rw [un, List.mem_cons, ih]
    constructor
    · rintro (rfl | h)
      · simp; omega
      · omega
    · rintro ⟨h1, h2, h3, h4⟩
      by_cases h : r.a = a
      · left
        obtain ⟨x, y, z⟩ := r
        simp only at *
        subst h h1
        have : y = b := by omega
        rw [this]
      · right
        omega
theorem mem_ex {p r : Rn} : r ∈ ex p ↔ r.n = 1 ∧ p.a ≤ r.a ∧ r.a < p.a + p.n.toNat ∧ r.b - r.a = p.b - p.a := mem_un
/-- rising runs, from a and b on -/
def Chain : Int → Int → List Rn → Prop
  | _, _, [] => True
  | a, b, r :: rs => a ≤ r.a ∧ b ≤ r.b ∧ 0 ≤ r.n ∧ Chain (r.a + r.n) (r.b + r.n) rs
theorem Chain.low {a b : Int} {rs : List Rn} (h : Chain a b rs) : ∀ r ∈ exs rs, r.n = 1 ∧ a ≤ r.a ∧ b ≤ r.b := by
  induction rs generalizing a b with
  | nil => simp [exs]
  | cons p rs ih =>
    obtain ⟨h1, h2, h3, h4⟩ := h
    intro r hr
    rw [exs_cons, List.mem_append, mem_ex] at hr
    rcases hr with hr | hr
    · omega
    · have := ih h4 r hr
      omega
theorem Chain.mono {a b a' b' : Int} {rs : List Rn} (h : Chain a b rs) (ha : a' ≤ a) (hb : b' ≤ b) : Chain a' b' rs := by
  cases rs with
  | nil => trivial
  | cons p rs => exact ⟨by have := h.1; omega, by have := h.2.1; omega, h.2.2⟩
/-- pairs in a rising row -/
def Up (l : List Rn) : Prop := l.Pairwise fun p q => p.a < q.a ∧ p.b < q.b
theorem up_un (a b : Int) (k : Nat) : Up (un a b k) := by
  induction k generalizing a b with
  | zero => exact List.Pairwise.nil
  | succ k ih =>
    refine List.Pairwise.cons (fun r hr => ?_) (ih _ _)
    rw [mem_un] at hr
    dsimp only
    omega
theorem Chain.up {a b : Int} {rs : List Rn} (h : Chain a b rs) : Up (exs rs) := by
  induction rs generalizing a b with
  | nil => exact List.Pairwise.nil
  | cons p rs ih =>
    obtain ⟨h1, h2, h3, h4⟩ := h
    rw [exs_cons]
    refine List.pairwise_append.2 ⟨up_un _ _ _, ih h4, fun r hr q hq => ?_⟩
    rw [mem_ex] at hr
    have := h4.low q hq
    omega
/-- what a script keeps, as runs -/
def rns (a b n m : Int) (l : List Ch) : List Rn := (piecesL a b n m l).map (·.1)
/-- what a script keeps, pair by pair -/
def U (a b n m : Int) (l : List Ch) : List Rn := exs (rns a b n m l)
theorem U_nil (a b n m : Int) : U a b n m [] = un a b (n - a).toNat := by simp [U, rns, piecesL, exs, ex]
theorem U_cons (a b n m : Int) (c : Ch) (l : List Ch) : U a b n m (c :: l) = un a b (c.A - a).toNat ++ U (c.A + c.AN) (c.B + c.BN) n m l := by
  simp [U, rns, piecesL, exs, ex]
theorem Right.chain {f : Bool} {a b n m : Int} {l : List Ch} (h : Right f a b n m l) : Chain a b (rns a b n m l) := by
  induction l generalizing f a b with
  | nil =>
    obtain ⟨h1, h2, h3⟩ := h
    exact ⟨Int.le_refl _, Int.le_refl _, by dsimp only; omega, trivial⟩
  | cons c l ih =>
    obtain ⟨⟨h1, h2, h3, h4⟩, h5⟩ := h
    rw [numB_iff] at h1
    refine ⟨Int.le_refl _, Int.le_refl _, by dsimp only; omega, (ih h5).mono ?_ ?_⟩ <;> dsimp only <;> omega
theorem Right.up {f : Bool} {a b n m : Int} {l : List Ch} (h : Right f a b n m l) : Up (U a b n m l) := h.chain.up
/-- the first of what is left: a pair at hand, or the end -/
theorem Right.first {a b n m : Int} {l : List Ch} (h : Right false a b n m l) : ∃ e t, U a b n m l ++ [⟨n, m, 0⟩] = e :: t ∧ e.a = a ∧ e.b = b := by
  cases l with
  | nil =>
    obtain ⟨h1, h2, h3⟩ := h
    rw [U_nil]
    by_cases hn : n = a
    · subst hn
      exact ⟨⟨n, m, 0⟩, [], by simp [un], rfl, by dsimp only; omega⟩
    · obtain ⟨k, hk⟩ : ∃ k : Nat, (n - a).toNat = k + 1 := ⟨(n - a).toNat - 1, by omega⟩
      rw [hk, un]
      exact ⟨_, _, rfl, rfl, rfl⟩
  | cons c l =>
    obtain ⟨⟨h1, h2, h3, h4⟩, h5⟩ := h
    have hlt : a < c.A := by simpa using h4
    rw [U_cons]
    obtain ⟨k, hk⟩ : ∃ k : Nat, (c.A - a).toNat = k + 1 := ⟨(c.A - a).toNat - 1, by omega⟩
    rw [hk, un]
    exact ⟨_, _, rfl, rfl, rfl⟩
end Go.Proofs.YtgiojkhmkeocfaaDoor

/- Edit scripts and the pairs that they keep, further: pairs that fit make a right script; what is kept as a list; two scripts one behind the other; going back. -/
namespace Go.Proofs.YtgiojkhmkeocfaaDoor

/-- pairs in a rising row, from a and b on, below n and m -/
def Fit : Int → Int → Int → Int → List Rn → Prop
  | a, b, n, m, [] => a ≤ n ∧ b ≤ m
  | a, b, n, m, r :: P => a ≤ r.a ∧ b ≤ r.b ∧ r.n = 1 ∧ Fit (r.a + 1) (r.b + 1) n m P
theorem Fit.le {a b n m : Int} {P : List Rn} (h : Fit a b n m P) : a ≤ n ∧ b ≤ m := by
  induction P generalizing a b with
  | nil => exact h
  | cons r P ih => have := ih h.2.2.2; have h1 := h.1; have h2 := h.2.1; omega
/-- in order of the first text -/
def UpA (l : List Rn) : Prop := l.Pairwise fun p q => p.a < q.a
theorem Up.a {l : List Rn} (h : Up l) : UpA l := h.imp fun h => h.1
/-- lists of what is kept that make a script: each number from nx on, below m, rising -/
def Vk : Int → Int → List Int → Prop
  | _, _, [] => True
  | nx, m, z :: t => (z = -1 ∧ Vk nx m t) ∨ (z ≠ -1 ∧ nx ≤ z ∧ z < m ∧ Vk (z + 1) m t)
theorem Vk.each {nx m : Int} {K : List Int} (h : Vk nx m K) (h0 : 0 ≤ nx) : ∀ z ∈ K, z = -1 ∨ 0 ≤ z := by
  induction K generalizing nx with
  | nil => simp
  | cons y t ih =>
    intro z hz
    rw [List.mem_cons] at hz
    rcases h with ⟨rfl, h⟩ | ⟨hy, h1, h2, h3⟩
    · rcases hz with rfl | hz
      · exact .inl rfl
      · exact ih h h0 z hz
    · rcases hz with rfl | hz
      · right; omega
      · exact ih h3 (by omega) z hz
end Go.Proofs.YtgiojkhmkeocfaaDoor

/- Two scripts one behind the other: the pairs of both; associative, and one that keeps all adds nothing. -/
namespace Go.Proofs.YtgiojkhmkeocfaaDoor

section
variable {x y : List Ch} {n m k : Int}
end
end Go.Proofs.YtgiojkhmkeocfaaDoor

/- Going back, what a script costs, and what it reaches: plain mathematics. -/
namespace Go.Proofs.YtgiojkhmkeocfaaDoor

end Go.Proofs.YtgiojkhmkeocfaaDoor

/- Hunks as lists: which are right, their lines, how they are made and gone back, what script they are; plain mathematics. -/
namespace Go.Proofs.YtgiojkhmkeocfaaDoor

/-- a line with its sign -/
structure Mk where
  sg : Int
  tx : List UInt8
/-- a hunk -/
structure Hk where
  A : Int
  AN : Int
  B : Int
  BN : Int
  ls : List Mk
/-- a sign of one of the three kinds: kept 32, taken out 45, put in 43 -/
def okS (s : Int) : Bool := decide (s = 32) || decide (s = 45) || decide (s = 43)
/-- the lines of a side: all but those of one sign -/
def pkL (no : Int) : List Mk → List (List UInt8)
  | [] => []
  | m :: l => if m.sg ≠ no ∧ okS m.sg = true then m.tx :: pkL no l else pkL no l
def oldL (h : Hk) : List (List UInt8) := pkL 43 h.ls
def newL (h : Hk) : List (List UInt8) := pkL 45 h.ls
theorem pkL_append (no : Int) (x y : List Mk) : pkL no (x ++ y) = pkL no x ++ pkL no y := by
  induction x with
  | nil => rfl
  | cons m x ih =>
    simp only [List.cons_append, pkL, ih]
    split <;> simp
theorem pkL_length (no : Int) (x : List Mk) : (pkL no x).length ≤ x.length := by
  induction x with
  | nil => simp [pkL]
  | cons m x ih =>
    simp only [pkL]
    split <;> simp <;> omega

/-- lines with a sign -/
def mks (s : Int) (x : List (List UInt8)) : List Mk := x.map fun t => ⟨s, t⟩
/-- a group's lines, from a place of the first text on up to another -/
def bodyH (a b : List (List UInt8)) (e : Int) : Int → List Ch → List Mk
  | p, [] => mks 32 (cut a p (e - p))
  | p, c :: g => mks 32 (cut a p (c.A - p)) ++ (mks 45 (cut a c.A c.AN) ++ (mks 43 (cut b c.B c.BN) ++ bodyH a b e (c.A + c.AN) g))
/-- a hunk's numbers: where it stands, and how many lines it has -/
def cntH (a b : Int) (ls : List Mk) : Hk := ⟨if 0 < (pkL 43 ls).length then a + 1 else a, (pkL 43 ls).length, if 0 < (pkL 45 ls).length then b + 1 else b, (pkL 45 ls).length, ls⟩
/-- where a group's lines end -/
def endH (n ctx : Int) : List Ch → Int
  | [] => 0
  | [c] => min n (c.A + c.AN + ctx)
  | _ :: d :: g => endH n ctx (d :: g)
/-- a group's hunk -/
def oneH (a b : List (List UInt8)) (ctx : Int) (g : List Ch) : Hk := match g with
  | [] => ⟨0, 0, 0, 0, []⟩
  | f :: g => cntH (f.A - min ctx f.A) (f.B - min ctx f.A) (bodyH a b (endH a.length ctx (f :: g)) (f.A - min ctx f.A) (f :: g))
/-- is a text a line? has it its line feed? -/
def linB (s : List UInt8) : Bool := !s.isEmpty && s.dropLast.all fun c => c != 10
def fdB (s : List UInt8) : Bool := s.getLast? == some 10
/-- no line with one of two signs -/
def lstB (sg : Int) (l : List Mk) : Bool := l.all fun m => decide (m.sg ≠ sg) && decide (m.sg ≠ 32)
/-- are all lines as they must be? -/
def fldB : List Mk → Bool
  | [] => true
  | m :: l => linB m.tx && okS m.sg && (fdB m.tx || ((decide (m.sg = 43) || lstB 45 l) && (decide (m.sg = 45) || lstB 43 l))) && fldB l
def rngB (h : Hk) : Bool := nat31 h.A && nat31 h.AN && nat31 h.B && nat31 h.BN && !(decide (h.A = 0) && decide (0 < h.AN)) && !(decide (h.B = 0) && decide (0 < h.BN))
/-- Check's answer -/
def chkH (h : Hk) : Int := if rngB h = false then 2 else if fldB h.ls = false then 6 else if h.AN ≠ (oldL h).length ∨ h.BN ≠ (newL h).length then 120 else if h.ls.all (fun m => decide (m.sg = 32)) = true then 50 else 0
/-- the first error -/
def errs : List Hk → Int
  | [] => 0
  | h :: l => if chkH h ≠ 0 then chkH h else errs l
/-- a hunk's lines gone back; x: lines that are put in now, and wait -/
def invG : List Mk → List Mk → List Mk
  | x, [] => x
  | x, m :: l => if m.sg = 43 then ⟨45, m.tx⟩ :: invG x l else if m.sg = 45 then invG (x ++ [⟨43, m.tx⟩]) l else x ++ m :: invG [] l
end Go.Proofs.YtgiojkhmkeocfaaDoor

/- Hunks gone back: whose lines are whose, going back twice; when lines are as they must be; plain mathematics. -/
namespace Go.Proofs.YtgiojkhmkeocfaaDoor

/-- all of one sign -/
def AllS (s : Int) (x : List Mk) : Prop := ∀ m ∈ x, m.sg = s
theorem AllS.nil (s : Int) : AllS s [] := fun _ h => by cases h
theorem AllS.snoc {s : Int} {x : List Mk} (h : AllS s x) (t : List UInt8) : AllS s (x ++ [⟨s, t⟩]) := by
  intro m hm
  simp at hm
  rcases hm with hm | rfl
  · exact h m hm
  · rfl
theorem pick_out {s : Int} {x : List Mk} (h : AllS s x) : pkL s x = [] := by
  induction x with
  | nil => rfl
  | cons m x ih =>
    simp only [pkL]
    rw [if_neg (by simp [h m (by simp)])]
    exact ih fun q hq => h q (by simp [hq])

/-- the old lines of a hunk that goes back are the new ones -/
theorem inv_old (l : List Mk) : ∀ x, AllS 43 x → pkL 43 (invG x l) = pkL 45 l := by
  induction l with
  | nil => intro x hx; simp only [invG, pkL]; exact pick_out hx
  | cons m l ih =>
    intro x hx
    simp only [invG]
    by_cases h1 : m.sg = 43
    · rw [if_pos h1]
      simp only [pkL, ih x hx]
      rw [if_pos ⟨by decide, by decide⟩, if_pos ⟨by omega, by rw [h1]; decide⟩]
    · rw [if_neg h1]
      by_cases h2 : m.sg = 45
      · rw [if_pos h2, ih _ (hx.snoc _)]
        simp only [pkL]
        rw [if_neg (by simp [h2])]
      · rw [if_neg h2, pkL_append, pick_out hx]
        simp only [pkL, ih [] (AllS.nil _), List.nil_append]
        by_cases ho : okS m.sg = true
        · rw [if_pos ⟨h1, ho⟩, if_pos ⟨h2, ho⟩]
        · rw [if_neg (fun h => ho h.2), if_neg (fun h => ho h.2)]
/-- in each piece the lines that are taken out stand first; s: one that is put in stands ahead -/
def Nf : Bool → List Mk → Prop
  | _, [] => True
  | s, m :: l => if m.sg = 45 then s = false ∧ Nf false l else if m.sg = 43 then Nf true l else Nf false l
/-- all but the last have their line feed -/
def abl : List (List UInt8) → Bool
  | [] => true
  | t :: r => (r.isEmpty || fdB t) && abl r
theorem lst_pick {no s : Int} (hn : no = 43 ∧ s = 45 ∨ no = 45 ∧ s = 43) {l : List Mk} (h : ∀ m ∈ l, okS m.sg = true) : lstB s l = (pkL no l).isEmpty := by
  induction l with
  | nil => rfl
  | cons m l ih =>
    have hm := h m (by simp)
    have hi := ih fun q hq => h q (by simp [hq])
    simp only [lstB, List.all_cons, pkL] at hi ⊢
    rw [hi]
    have hcase : m.sg = 32 ∨ m.sg = 45 ∨ m.sg = 43 := by simp [okS] at hm; omega
    by_cases hno : m.sg = no
    · rw [if_neg (fun q => q.1 hno)]
      have e1 : decide (m.sg ≠ s) = true := decide_eq_true (by omega)
      have e2 : decide (m.sg ≠ 32) = true := decide_eq_true (by omega)
      rw [e1, e2]
      simp
    · rw [if_pos ⟨hno, hm⟩]
      have e : (decide (m.sg ≠ s) && decide (m.sg ≠ 32)) = false := by simp; omega
      rw [e]
      simp
/-- lines are as they must be -/
theorem fld_iff (l : List Mk) : fldB l = true ↔ (∀ m ∈ l, linB m.tx = true ∧ okS m.sg = true) ∧ abl (pkL 43 l) = true ∧ abl (pkL 45 l) = true := by
  induction l with
  | nil => simp [fldB, pkL, abl]
  | cons m l ih =>
    simp only [fldB, Bool.and_eq_true, ih]
    constructor
    · rintro ⟨⟨⟨h1, h2⟩, h3⟩, h4, h5, h6⟩
      have hok : ∀ q ∈ l, okS q.sg = true := fun q hq => (h4 q hq).2
      rw [lst_pick (no := 43) (by omega) hok, lst_pick (no := 45) (by omega) hok] at h3
      refine ⟨?_, ?_, ?_⟩
      · intro q hq
        simp at hq
        rcases hq with rfl | hq
        · exact ⟨h1, h2⟩
        · exact h4 q hq
      · simp only [pkL]
        by_cases hs : m.sg = 43
        · rw [if_neg (fun q => q.1 hs)]
          exact h5
        · rw [if_pos ⟨hs, h2⟩]
          simp only [abl, h5, Bool.and_true]
          simp [hs] at h3
          rcases h3 with h3 | h3
          · simp [h3]
          · simp [h3.1]
      · simp only [pkL]
        by_cases hs : m.sg = 45
        · rw [if_neg (fun q => q.1 hs)]
          exact h6
        · rw [if_pos ⟨hs, h2⟩]
          simp only [abl, h6, Bool.and_true]
          simp [hs] at h3
          rcases h3 with h3 | h3
          · simp [h3]
          · simp [h3.2]
    · rintro ⟨h1, h2, h3⟩
      have hm := h1 m (by simp)
      have h4 : ∀ q ∈ l, linB q.tx = true ∧ okS q.sg = true := fun q hq => h1 q (by simp [hq])
      have hok : ∀ q ∈ l, okS q.sg = true := fun q hq => (h4 q hq).2
      rw [lst_pick (no := 43) (by omega) hok, lst_pick (no := 45) (by omega) hok]
      simp only [pkL] at h2 h3
      refine ⟨⟨hm, ?_⟩, h4, ?_, ?_⟩
      · by_cases hs : m.sg = 43
        · rw [if_pos ⟨by omega, hm.2⟩] at h3
          simp only [abl, Bool.and_eq_true, Bool.or_eq_true] at h3
          rcases h3.1 with q | q
          · simp [hs, q]
          · simp [q]
        · rw [if_pos ⟨hs, hm.2⟩] at h2
          simp only [abl, Bool.and_eq_true, Bool.or_eq_true] at h2
          by_cases hr : m.sg = 45
          · rcases h2.1 with q | q
            · simp [hr, q]
            · simp [q]
          · rw [if_pos ⟨hr, hm.2⟩] at h3
            simp only [abl, Bool.and_eq_true, Bool.or_eq_true] at h3
            rcases h2.1 with q | q
            · rcases h3.1 with q' | q'
              · simp [q, q']
              · simp [q']
            · simp [q]
      · by_cases hs : m.sg = 43
        · rw [if_neg (fun q => q.1 hs)] at h2
          exact h2
        · rw [if_pos ⟨hs, hm.2⟩] at h2
          simp only [abl, Bool.and_eq_true] at h2
          exact h2.2
      · by_cases hs : m.sg = 45
        · rw [if_neg (fun q => q.1 hs)] at h3
          exact h3
        · rw [if_pos ⟨hs, hm.2⟩] at h3
          simp only [abl, Bool.and_eq_true] at h3
          exact h3.2
end Go.Proofs.YtgiojkhmkeocfaaDoor

/- Hunks that are made of two texts: where they stand, their old and new lines, that they are in order and are the script again; plain mathematics. -/
namespace Go.Proofs.YtgiojkhmkeocfaaDoor

/-- where a group ends in both texts -/
def endA : Int → List Ch → Int
  | p, [] => p
  | _, c :: g => endA (c.A + c.AN) g
def endB : Int → List Ch → Int
  | q, [] => q
  | _, c :: g => endB (c.B + c.BN) g
/-- what a group's hunk is, from where it stands on: s, t its places, e its end -/
structure OneF (a b : List (List UInt8)) (ctx : Int) (g : List Ch) (s t e : Int) : Prop where
  s0 : 0 ≤ s
  t0 : 0 ≤ t
  en : e ≤ a.length
  em : endB 0 g + (e - endA 0 g) ≤ b.length
  le : endA 0 g ≤ e
  se : s ≤ e
  AN : (oneH a b ctx g).AN = e - s
  BN : (oneH a b ctx g).BN = endB 0 g + (e - endA 0 g) - t
  A : (oneH a b ctx g).A = if 0 < e - s then s + 1 else s
  B : (oneH a b ctx g).B = if 0 < endB 0 g + (e - endA 0 g) - t then t + 1 else t
  old : oldL (oneH a b ctx g) = cut a s (e - s)
  ls : (oneH a b ctx g).ls = bodyH a b e s g
end Go.Proofs.YtgiojkhmkeocfaaDoor

/- Hunks that are made of two texts, further: in order, right, the script again, their kinds of lines; plain mathematics. -/
namespace Go.Proofs.YtgiojkhmkeocfaaDoor

end Go.Proofs.YtgiojkhmkeocfaaDoor

/- Each group of a right script, and its hunk; how many lines it has; plain mathematics. -/
namespace Go.Proofs.YtgiojkhmkeocfaaDoor

end Go.Proofs.YtgiojkhmkeocfaaDoor

/- What the statements on hunks of two texts ask, in plain terms. -/
namespace Go.Proofs.YtgiojkhmkeocfaaDoor

end Go.Proofs.YtgiojkhmkeocfaaDoor

/- Which lists of changes are edit scripts: the code's Check, walked. -/
namespace Go.Proofs.YtgiojkhmkeocfaaDoor
open Go.RowKit

theorem ret_bool {a b : Bool} (h : a = b) : Ending.returned (.bool a) = .returned (.bool b) := by rw [h]
theorem ret_int {k : IntKind} {a b : Int} (h : a = b) : Ending.returned (.int k a) = .returned (.int k b) := by rw [h]
end Go.Proofs.YtgiojkhmkeocfaaDoor

/- The iterator over a script's pieces: its contract for every loop body that keeps what it reads. -/
namespace Go.Proofs.YtgiojkhmkeocfaaDoor
open Go.RowKit Go.Shelf
attribute [local go_sem] Oper.semAt_some

/-- what a round keeps: all below n₀, the iterator's three boxes from lo on, every block of a change -/
structure Kp (n₀ lo : Nat) (W W' : World) : Prop where
  low : Below n₀ W W'
  box : ∀ k, lo ≤ k → k < lo + 3 → W'.heap[k]? = W.heap[k]?
  chg : ∀ (k : Nat) (cs : Array Value), W.heap[k]? = some (Obj.cells cs 73 (0, 0)) → W'.heap[k]? = some (Obj.cells cs 73 (0, 0))
section
variable {n₀ lo : Nat} {A B C : World}
theorem Kp.refl (W : World) : Kp n₀ lo W W := ⟨Below.refl _ _, fun _ _ _ => rfl, fun _ _ h => h⟩
theorem Kp.trans (h : Kp n₀ lo A B) (k : Kp n₀ lo B C) : Kp n₀ lo A C := ⟨h.low.trans k.low, fun j h1 h2 => (k.box j h1 h2).trans (h.box j h1 h2), fun j cs hj => k.chg j cs (h.chg j cs hj)⟩
theorem Kp.alloc {W : World} (hn : n₀ ≤ W.heap.size) (hl : lo + 3 ≤ W.heap.size) (o : Obj) : Kp n₀ lo W (W.alloc o) :=
  ⟨(Below.refl _ W).alloc hn o, fun k _ hk => Below.heap_alloc W o k (by omega), fun k cs hk => (Below.heap_alloc W o k (Array.getElem?_eq_some_iff.1 hk).1).trans hk⟩
theorem Kp.drewN (W : World) (k : Nat) : Kp n₀ lo W (W.drewN k) := ⟨Below.dN (Below.refl _ W) k, fun _ _ _ => rfl, fun _ _ h => h⟩
end

theorem HCh.lt {w : World} {ao : Option Addr} {n c : Nat} {l : List Ch} (h : HCh w (.slice ao n c) l) (a : Addr) (ha : ao = some a) (h0 : 0 < l.length) : a.block < w.heap.size := by
  obtain ⟨b, off, hb, hlt, _⟩ := HCh.at h h0
  rw [ha] at hb
  cases hb
  exact hlt

end Go.Proofs.YtgiojkhmkeocfaaDoor

/- A row of the caller's own, in a box, within a range over the iterator. -/
namespace Go.Proofs.YtgiojkhmkeocfaaDoor
open Go.RowKit Go.Shelf
attribute [local go_sem] Oper.semAt_some

theorem new_holds (W : World) (cs : Array Value) (e : TypeId) (k c : Nat) (hkc : k ≤ c) : Holds (W.alloc (.cells cs e)) (.slice (some ⟨W.heap.size, 0, none⟩) k c) k cs.toList := by
  refine .inr ⟨_, _, rfl, hkc, fun j u hj => ?_⟩
  rw [add_none, Lib.cell_of_heap (_root_.Go.heap_alloc_new W _)]
  simpa using hj
/-- a row of the caller's own, in a box of his; the row lies apart from the iterator's boxes -/
structure OwnR (n₀ lo B : Nat) (t e : TypeId) (s : Nat) (v : Value) (k : Nat) (xs : List Value) (W : World) : Prop where
  box : Boxed W B t v
  row : W.ownsRow n₀ e s v k xs
  far : ∀ g, v.ownBlock = some g → g < lo ∨ lo + 3 ≤ g
section
variable {n₀ lo B : Nat} {t e : TypeId} {s : Nat} {v : Value} {k : Nat} {xs : List Value} {W : World}
theorem OwnR.alloc (h : OwnR n₀ lo B t e s v k xs W) (o : Obj) : OwnR n₀ lo B t e s v k xs (W.alloc o) := ⟨h.box.alloc o, h.row.alloc o, h.far⟩
end
end Go.Proofs.YtgiojkhmkeocfaaDoor

/- What a script keeps: the code's Keep, walked. -/
namespace Go.Proofs.YtgiojkhmkeocfaaDoor
open Go.RowKit Go.Shelf
attribute [local go_sem] Oper.semAt_some


end Go.Proofs.YtgiojkhmkeocfaaDoor

/- Laws for the plain walk: append onto an owned row of elements of whatever width, as a step of the walk and of a region that draws; Same of numbers, of changes. -/
namespace Go.Proofs.YtgiojkhmkeocfaaDoor
open Go.RowKit

theorem run_append_h (w : World) (T E ty : TypeId) (z : Value) (size bytes : Nat) (hT : Tryd.prog.underlying T = some (.slice E)) (hinfo : (Tryd.prog.info? E).map (fun i => (i.zero, i.size, i.bytes)) = some (some z, size, bytes)) (hz1 : z.cells.size = size) (hsz : 0 < size) (hby : bytes ≤ 32)
    (base : Nat) (v : Value) (k : Nat) (xs : List Value) (hown : w.ownsRow base E size v k xs) (vx : Value) (m : Nat) (news : List Value) (hh : Holds w vx m news) (hl : news.length = m * size)
    (h1 : ∀ u ∈ news, u.oneCell' = true) (hk : k + m ≤ 4398046511104) (hbase : base ≤ w.heap.size) :
    ∃ v' w', (Builtin.append_ #[T, T] ty #[v, vx]).run Tryd.prog w = .ok v' w' ∧ w'.ownsRow base E size v' (k + m) (xs ++ news) ∧ w.grownBy w' v.ownBlock ∧ (v'.ownBlock = v.ownBlock ∨ v'.ownBlock = some w.heap.size) := by
  obtain ⟨i0, hi0, hz0, hzs, hz2⟩ := info_parts hinfo
  rcases hh with ⟨rfl, rfl, rfl⟩ | ⟨ad, c, rfl, _, hc⟩
  · exact ⟨v, w, run_append_owned_none (P := Tryd.prog) (w := w) base T ty E i0 size hT hi0 v k xs hown, by simpa using hown, World.grownBy.refl _ _, .inl rfl⟩
  · obtain ⟨v', w', hr, h2, h3, _, h5⟩ := run_append_own_at (P := Tryd.prog) w base T ty E i0 z size bytes hT hi0 hz0 hzs hz2 hz1 hsz v k xs hown ad m c news hl hc h1 (by unfold maxLen; omega) (by
      have : (k + m) * bytes ≤ (k + m) * 32 := Nat.mul_le_mul_left _ hby
      omega) hbase
    exact ⟨v', w', hr, h2, h3, h5⟩

theorem wpList_append_h {ops : Array Oper} {rest : List Oper} {o : Oper} {a : Act} {Q : Exit → Act → World → Prop} (w : World) (hw : Region.wanted o (yielded ops a.tmps) = true) (s x : Operand) (T E : TypeId) (z : Value) (size bytes : Nat)
    (ho : o.op = .call { callee := .builtin .append, args := #[s, x], argTypes := #[T, T] }) (hT : Tryd.prog.underlying T = some (.slice E)) (hinfo : (Tryd.prog.info? E).map (fun i => (i.zero, i.size, i.bytes)) = some (some z, size, bytes)) (hz1 : z.cells.size = size) (hsz : 0 < size) (hby : bytes ≤ 32)
    (base : Nat) (v : Value) (k : Nat) (xs : List Value) (hs : a.eval s = v) (hown : w.ownsRow base E size v k xs) (vx : Value) (m : Nat) (news : List Value) (hx : a.eval x = vx) (hh : Holds w vx m news) (hl : news.length = m * size)
    (h1 : ∀ u ∈ news, u.oneCell' = true) (hk : k + m ≤ 4398046511104) (hbase : base ≤ w.heap.size)
    (h : ∀ v' w', w'.ownsRow base E size v' (k + m) (xs ++ news) → w.grownBy w' v.ownBlock → wpList Tryd.prog ops Q rest (a.put o.dst v') w') : wpList Tryd.prog ops Q (o :: rest) a w := by
  refine wpList_step fun K hK => ?_
  rw [if_pos hw]
  obtain ⟨v', w', hr, h2, h3, _⟩ := run_append_h w T E o.type z size bytes hT hinfo hz1 hsz hby base v k xs hown vx m news hh hl h1 hk hbase
  unfold Oper.wp
  simp [execOp, ho, resolve, invoke, builtin, hs, hx, hr, Result.andThen]
  exact hK _ _ (h v' w' h2 h3)

/-- a new empty row -/
theorem nil_row_new {e : TypeId} {s : Nat} (W : World) (N g : Nat) (hg : W.heap.size = g) (hB : N ≤ g) : (W.alloc (.cells #[] e)).ownsRow N e s (.slice (some ⟨g, 0, none⟩) 0 0) 0 [] := by
  subst hg
  exact ⟨by simp, .inr ⟨_, 0, #[], rfl, hB, _root_.Go.heap_alloc_new W _, Nat.le_refl _, by decide, by simp, by simp⟩⟩
theorem owns_keep {w w' : World} {base : Nat} {e : TypeId} {s : Nat} {v : Value} {n : Nat} {xs : List Value} (h : w.ownsRow base e s v n xs) (hk : Below w.heap.size w w') : w'.ownsRow base e s v n xs := by
  refine ⟨h.1, ?_⟩
  rcases h.2 with h1 | ⟨g, cap, cur, q1, q2, q3, q4⟩
  · exact .inl h1
  · exact .inr ⟨g, cap, cur, q1, q2, (hk.block g (Array.getElem?_eq_some_iff.1 q3).1).trans q3, q4⟩
theorem owns_ge {w : World} {base : Nat} {e : TypeId} {s : Nat} {v : Value} {n : Nat} {xs : List Value} (h : w.ownsRow base e s v n xs) {j : Nat} (hj : v.ownBlock = some j) : base ≤ j := by
  rcases h.2 with ⟨rfl, _⟩ | ⟨g, cap, cur, rfl, hb, _⟩
  · cases hj
  · simp [Value.ownBlock] at hj; omega

/-- all ahead of a call as it was -/
def Low (W w : World) : Prop := Below W.heap.size W w
theorem low_drew (W w : World) : Low W w.drew ↔ Low W w := ⟨fun h => ⟨h.os, h.tape, h.output, h.size, h.block⟩, fun h => Below.dN h 1⟩
/-- a row of one's own, and all ahead of a call as it was -/
structure St (W : World) (e : TypeId) (s : Nat) (v : Value) (k : Nat) (xs : List Value) (w : World) : Prop where
  own : w.ownsRow W.heap.size e s v k xs
  low : Below W.heap.size W w
theorem st_alloc {W : World} {e : TypeId} {s : Nat} {v : Value} {k : Nat} {xs : List Value} {w : World} (o : Obj) (h : St W e s v k xs w) : St W e s v k xs (w.alloc o) := ⟨h.own.alloc o, h.low.alloc h.low.size o⟩
theorem St.grown {W : World} {e : TypeId} {s : Nat} {v v' : Value} {k k' : Nat} {xs xs' : List Value} {w w' : World} (h : St W e s v k xs w) (ho : w'.ownsRow W.heap.size e s v' k' xs') (hg : w.grownBy w' v.ownBlock) : St W e s v' k' xs' w' :=
  ⟨ho, h.low.grown hg h.low.size (fun _ hj => owns_ge h.own hj)⟩

end Go.Proofs.YtgiojkhmkeocfaaDoor

/- Worlds behind a draw: new rows and what is carried. -/
namespace Go.Proofs.YtgiojkhmkeocfaaDoor
open Go.RowKit
attribute [local simp] low_drew

theorem alloc_second (w : World) (o o2 : Obj) : ((w.alloc o).alloc o2).heap[w.heap.size + 1]? = some o2 := by
  have h := _root_.Go.heap_alloc_new (w.alloc o) o2
  rw [World.size_alloc] at h
  exact h
end Go.Proofs.YtgiojkhmkeocfaaDoor

/- Lines with signs and hunks as cells: what slices of them hold; hunks in a box; append onto an owned row of hunks. -/
namespace Go.Proofs.YtgiojkhmkeocfaaDoor
open Go.RowKit

def mkC (m : Mk) : List Value := [.int .u8 m.sg, .string ⟨m.tx.toArray⟩]
def mkcells (l : List Mk) : List Value := l.flatMap mkC
theorem infoMk : (Tryd.prog.info? 91).map (fun i => (i.zero, i.size, i.bytes)) = some (some (.agg #[.int .u8 0, .string ⟨#[]⟩]), 2, 24) := by kernel_rfl
theorem infoHk : (Tryd.prog.info? 43).map (fun i => (i.zero, i.size, i.bytes)) = some (some (.agg #[.int .i64 0, .int .i64 0, .int .i64 0, .int .i64 0, .slice none 0 0]), 5, 56) := by kernel_rfl
theorem mkcells_length (l : List Mk) : (mkcells l).length = l.length * 2 := by
  induction l with
  | nil => rfl
  | cons c l ih => simp only [mkcells, List.flatMap_cons, List.length_append, List.length_cons] at ih ⊢; rw [ih]; simp [mkC]; omega
theorem mkcells_one (l : List Mk) : ∀ u ∈ mkcells l, u.oneCell' = true := by
  intro u hu
  simp only [mkcells, List.mem_flatMap, mkC] at hu
  obtain ⟨c, _, h⟩ := hu
  simp only [List.mem_cons, List.not_mem_nil, or_false] at h
  rcases h with rfl | rfl <;> rfl
theorem mkcells_at (l : List Mk) (k : Nat) (hk : k < l.length) : (mkcells l)[2 * k]? = some (.int .u8 l[k].sg) ∧ (mkcells l)[2 * k + 1]? = some (.string ⟨l[k].tx.toArray⟩) := by
  induction l generalizing k with
  | nil => simp at hk
  | cons c l ih =>
    cases k with
    | zero => simp [mkcells, mkC]
    | succ k =>
      have h := ih k (by simpa using hk)
      have e : ∀ i, (mkcells (c :: l))[2 * (k + 1) + i]? = (mkcells l)[2 * k + i]? := by
        intro i
        have : mkcells (c :: l) = mkC c ++ mkcells l := rfl
        rw [this, List.getElem?_append_right (by simp [mkC]; omega)]
        congr 1
        simp [mkC]; omega
      simp only [List.getElem_cons_succ]
      refine ⟨by rw [← (h).1]; exact e 0, by rw [← h.2]; exact e 1⟩
/-- a slice of lines with signs -/
def HMk (w : World) (v : Value) (l : List Mk) : Prop := Holds w v l.length (mkcells l)
theorem HMk.keep {w w' : World} {v : Value} {l : List Mk} (h : HMk w v l) {N : Nat} (hk : Below N w w') (hN : w.heap.size ≤ N) : HMk w' v l := Holds.keep h fun k hk' => hk.block k (by omega)
theorem HMk.at {w : World} {ao : Option Addr} {n c : Nat} {l : List Mk} (h : HMk w (.slice ao n c) l) (h0 : 0 < l.length) : ∃ b off, ao = some ⟨b, off, none⟩ ∧ b < w.heap.size ∧
    ∀ k (hk : k < l.length), w.cell? ⟨b, off + k * 2, none⟩ = some (.int .u8 l[k].sg) ∧ w.cell? ⟨b, off + k * 2 + 1, none⟩ = some (.string ⟨l[k].tx.toArray⟩) := by
  obtain ⟨b, off, c', hv, hb, hc⟩ := Holds.at h (by rw [mkcells_length]; omega)
  cases hv
  refine ⟨b, off, rfl, hb, fun k hk => ?_⟩
  obtain ⟨h0, h1⟩ := mkcells_at l k hk
  have hlen := mkcells_length l
  have e : k * 2 = 2 * k := by omega
  rw [e]
  refine ⟨?_, ?_⟩
  · have := hc (2 * k) (by omega)
    rw [← h0, this, List.getElem?_eq_getElem]
  · have := hc (2 * k + 1) (by omega)
    rw [← h1, Nat.add_assoc, this, List.getElem?_eq_getElem]
theorem Low.mk {W w : World} (h : Low W w) {b off n c : Nat} {l : List Mk} (hl : HMk W (.slice (some ⟨b, off, none⟩) n c) l) (k : Nat) (hk : k < l.length) {x : Mk} (hx : l[k] = x) : w.cell? ⟨b, off + k * 2, none⟩ = some (.int .u8 x.sg) ∧ w.cell? ⟨b, off + k * 2 + 1, none⟩ = some (.string ⟨x.tx.toArray⟩) := by
  obtain ⟨b', off', e, _, hc⟩ := HMk.at (HMk.keep hl h (Nat.le_refl _)) (by omega)
  cases e
  rw [← hx]
  exact hc k hk
/-- a hunk as a value, in a box -/
def hkV (h : Hk) (v : Value) : Value := .agg #[.int .i64 h.A, .int .i64 h.AN, .int .i64 h.B, .int .i64 h.BN, v]
def hkC (h : Hk) (v : Value) : List Value := [.int .i64 h.A, .int .i64 h.AN, .int .i64 h.B, .int .i64 h.BN, v]
def hkO (h : Hk) (v : Value) : Obj := .cells #[.int .i64 h.A, .int .i64 h.AN, .int .i64 h.B, .int .i64 h.BN, v] 43
def Hx (u : World) (b : Nat) (h : Hk) (v : Value) : Prop := u.heap[b]? = some (hkO h v)
section
variable {u u' : World} {b : Nat} {h : Hk} {v : Value}
theorem Hx.cells (q : Hx u b h v) : u.cell? ⟨b, 0, none⟩ = some (.int .i64 h.A) ∧ u.cell? ⟨b, 1, none⟩ = some (.int .i64 h.AN) ∧ u.cell? ⟨b, 2, none⟩ = some (.int .i64 h.B) ∧ u.cell? ⟨b, 3, none⟩ = some (.int .i64 h.BN) ∧ u.cell? ⟨b, 4, none⟩ = some v := by
  unfold Hx hkO at q
  refine ⟨?_, ?_, ?_, ?_, ?_⟩ <;> rw [Lib.cell_of_heap q] <;> rfl
theorem Hx.frozen (q : Hx u b h v) (j : Nat) : u.frozen? ⟨b, j, none⟩ = false := Lib.frozen_of_heap q j
theorem Hx.lt (q : Hx u b h v) : b < u.heap.size := (Array.getElem?_eq_some_iff.1 q).1
theorem Hx.low (q : Hx u b h v) (hg : Below u.heap.size u u') : Hx u' b h v := (hg.block b q.lt).trans q
theorem Hx.keep (q : Hx u b h v) {g : Option Nat} (hg : u.grownBy u' g) (hr : some b ≠ g) : Hx u' b h v := (hg.block b q.lt hr).trans q
theorem Hx.new (w : World) (h : Hk) (v : Value) : Hx (w.alloc (hkO h v)) w.heap.size h v := _root_.Go.heap_alloc_new w _
end
/-- hunks in a row: each with the slice of its lines -/
def hkcells : List (Hk × Value) → List Value
  | [] => []
  | (h, v) :: l => hkC h v ++ hkcells l
theorem hkcells_length (l : List (Hk × Value)) : (hkcells l).length = l.length * 5 := by
  induction l with
  | nil => rfl
  | cons c l ih =>
    obtain ⟨h, v⟩ := c
    simp only [hkcells, List.length_append, List.length_cons]
    rw [ih]
    simp [hkC]; omega
theorem hkcells_append (a b : List (Hk × Value)) : hkcells (a ++ b) = hkcells a ++ hkcells b := by
  induction a with
  | nil => rfl
  | cons c l ih =>
    obtain ⟨h, v⟩ := c
    simp only [List.cons_append, hkcells, ih, List.append_assoc]
theorem hkcells_at (l : List (Hk × Value)) (k : Nat) (hk : k < l.length) : (hkcells l)[5 * k]? = some (.int .i64 l[k].1.A) ∧ (hkcells l)[5 * k + 1]? = some (.int .i64 l[k].1.AN) ∧ (hkcells l)[5 * k + 2]? = some (.int .i64 l[k].1.B) ∧ (hkcells l)[5 * k + 3]? = some (.int .i64 l[k].1.BN) ∧ (hkcells l)[5 * k + 4]? = some l[k].2 := by
  induction l generalizing k with
  | nil => simp at hk
  | cons c l ih =>
    obtain ⟨x, y⟩ := c
    cases k with
    | zero => simp [hkcells, hkC]
    | succ k =>
      have h := ih k (by simpa using hk)
      have e : ∀ i, (hkcells ((x, y) :: l))[5 * (k + 1) + i]? = (hkcells l)[5 * k + i]? := by
        intro i
        have : hkcells ((x, y) :: l) = hkC x y ++ hkcells l := rfl
        rw [this, List.getElem?_append_right (by simp [hkC]; omega)]
        congr 1
        simp [hkC]; omega
      simp only [List.getElem_cons_succ]
      refine ⟨by rw [← (h).1]; exact e 0, by rw [← h.2.1]; exact e 1, by rw [← h.2.2.1]; exact e 2, by rw [← h.2.2.2.1]; exact e 3, by rw [← h.2.2.2.2]; exact e 4⟩
/-- a slice of hunks; p: the hunks, each with the slice of its lines -/
structure HHp (w : World) (v : Value) (p : List (Hk × Value)) : Prop where
  row : Holds w v p.length (hkcells p)
  ins : ∀ x ∈ p, HMk w x.2 x.1.ls
def HHk (w : World) (v : Value) (l : List Hk) : Prop := ∃ p : List (Hk × Value), p.map (·.1) = l ∧ HHp w v p
theorem HHp.keep {w w' : World} {v : Value} {p : List (Hk × Value)} (h : HHp w v p) {N : Nat} (hk : Below N w w') (hN : w.heap.size ≤ N) : HHp w' v p :=
  ⟨Holds.keep h.row fun k hk' => hk.block k (by omega), fun x hx => HMk.keep (h.ins x hx) hk hN⟩
theorem HHk.keep {w w' : World} {v : Value} {l : List Hk} (h : HHk w v l) {N : Nat} (hk : Below N w w') (hN : w.heap.size ≤ N) : HHk w' v l := by
  obtain ⟨p, hp, h⟩ := h
  exact ⟨p, hp, h.keep hk hN⟩
theorem HHp.at {w : World} {ao : Option Addr} {n c : Nat} {l : List (Hk × Value)} (h : HHp w (.slice ao n c) l) (h0 : 0 < l.length) : ∃ b off, ao = some ⟨b, off, none⟩ ∧ b < w.heap.size ∧
    ∀ k (hk : k < l.length), w.cell? ⟨b, off + k * 5, none⟩ = some (.int .i64 l[k].1.A) ∧ w.cell? ⟨b, off + k * 5 + 1, none⟩ = some (.int .i64 l[k].1.AN) ∧ w.cell? ⟨b, off + k * 5 + 2, none⟩ = some (.int .i64 l[k].1.B) ∧ w.cell? ⟨b, off + k * 5 + 3, none⟩ = some (.int .i64 l[k].1.BN) ∧ w.cell? ⟨b, off + k * 5 + 4, none⟩ = some l[k].2 := by
  obtain ⟨b, off, c', hv, hb, hc⟩ := Holds.at h.row (by rw [hkcells_length]; omega)
  cases hv
  refine ⟨b, off, rfl, hb, fun k hk => ?_⟩
  obtain ⟨h0, h1, h2, h3, h4⟩ := hkcells_at l k hk
  have hlen := hkcells_length l
  have e : k * 5 = 5 * k := by omega
  rw [e]
  refine ⟨?_, ?_, ?_, ?_, ?_⟩
  · have := hc (5 * k) (by omega)
    rw [← h0, this, List.getElem?_eq_getElem]
  · have := hc (5 * k + 1) (by omega)
    rw [← h1, Nat.add_assoc, this, List.getElem?_eq_getElem]
  · have := hc (5 * k + 2) (by omega)
    rw [← h2, Nat.add_assoc, this, List.getElem?_eq_getElem]
  · have := hc (5 * k + 3) (by omega)
    rw [← h3, Nat.add_assoc, this, List.getElem?_eq_getElem]
  · have := hc (5 * k + 4) (by omega)
    rw [← h4, Nat.add_assoc, this, List.getElem?_eq_getElem]
theorem HMk.form {w : World} {v : Value} {l : List Mk} (h : HMk w v l) : ∃ ao c, v = .slice ao l.length c := Holds.form h
theorem run_append_w (w : World) (T E ty : TypeId) (z : Value) (size bytes : Nat) (hT : Tryd.prog.underlying T = some (.slice E)) (hinfo : (Tryd.prog.info? E).map (fun i => (i.zero, i.size, i.bytes)) = some (some z, size, bytes)) (hz1 : z.cells.size = size) (hsz : 0 < size) (hby : bytes ≤ 64)
    (base : Nat) (v : Value) (k : Nat) (xs : List Value) (hown : w.ownsRow base E size v k xs) (vx : Value) (m : Nat) (news : List Value) (hh : Holds w vx m news) (hl : news.length = m * size)
    (h1 : ∀ u ∈ news, u.oneCell' = true) (hk : k + m ≤ 2199023255552) (hbase : base ≤ w.heap.size) :
    ∃ v' w', (Builtin.append_ #[T, T] ty #[v, vx]).run Tryd.prog w = .ok v' w' ∧ w'.ownsRow base E size v' (k + m) (xs ++ news) ∧ w.grownBy w' v.ownBlock ∧ (v'.ownBlock = v.ownBlock ∨ v'.ownBlock = some w.heap.size) := by
  obtain ⟨i0, hi0, hz0, hzs, hz2⟩ := info_parts hinfo
  rcases hh with ⟨rfl, rfl, rfl⟩ | ⟨ad, c, rfl, _, hc⟩
  · exact ⟨v, w, run_append_owned_none (P := Tryd.prog) (w := w) base T ty E i0 size hT hi0 v k xs hown, by simpa using hown, World.grownBy.refl _ _, .inl rfl⟩
  · obtain ⟨v', w', hr, h2, h3, _, h5⟩ := run_append_own_at (P := Tryd.prog) w base T ty E i0 z size bytes hT hi0 hz0 hzs hz2 hz1 hsz v k xs hown ad m c news hl hc h1 (by unfold maxLen; omega) (by
      have : (k + m) * bytes ≤ (k + m) * 64 := Nat.mul_le_mul_left _ hby
      omega) hbase
    exact ⟨v', w', hr, h2, h3, h5⟩
theorem wpList_append_w {ops : Array Oper} {rest : List Oper} {o : Oper} {a : Act} {Q : Exit → Act → World → Prop} (w : World) (hw : Region.wanted o (yielded ops a.tmps) = true) (s x : Operand) (T E : TypeId) (z : Value) (size bytes : Nat)
    (ho : o.op = .call { callee := .builtin .append, args := #[s, x], argTypes := #[T, T] }) (hT : Tryd.prog.underlying T = some (.slice E)) (hinfo : (Tryd.prog.info? E).map (fun i => (i.zero, i.size, i.bytes)) = some (some z, size, bytes)) (hz1 : z.cells.size = size) (hsz : 0 < size) (hby : bytes ≤ 64)
    (base : Nat) (v : Value) (k : Nat) (xs : List Value) (hs : a.eval s = v) (hown : w.ownsRow base E size v k xs) (vx : Value) (m : Nat) (news : List Value) (hx : a.eval x = vx) (hh : Holds w vx m news) (hl : news.length = m * size)
    (h1 : ∀ u ∈ news, u.oneCell' = true) (hk : k + m ≤ 2199023255552) (hbase : base ≤ w.heap.size)
    (h : ∀ v' w', w'.ownsRow base E size v' (k + m) (xs ++ news) → w.grownBy w' v.ownBlock → (v'.ownBlock = v.ownBlock ∨ v'.ownBlock = some w.heap.size) → wpList Tryd.prog ops Q rest (a.put o.dst v') w') : wpList Tryd.prog ops Q (o :: rest) a w := by
  refine wpList_step fun K hK => ?_
  rw [if_pos hw]
  obtain ⟨v', w', hr, h2, h3, h4⟩ := run_append_w w T E o.type z size bytes hT hinfo hz1 hsz hby base v k xs hown vx m news hh hl h1 hk hbase
  unfold Oper.wp
  simp [execOp, ho, resolve, invoke, builtin, hs, hx, hr, Result.andThen]
  exact hK _ _ (h v' w' h2 h3 h4)
theorem hnil_row (w : World) (base : Nat) (e : TypeId) (s : Nat) : w.ownsRow base e s (.slice none 0 0) 0 [] := ⟨by simp, .inl ⟨rfl, rfl⟩⟩
end Go.Proofs.YtgiojkhmkeocfaaDoor

/- The reference's small functions of layer 11, walked: numbers, places, lines, the lines of a side. -/
namespace Go.Proofs.YtgiojkhmkeocfaaDoor
open Go.RowKit

theorem rnumber_any (z : Int) (w : World) : Calls Tryd.prog 132 #[.int .i64 z] w fun e w' => e = .returned (.bool (nat31 z)) ∧ w' = w := by
  unfold nat31
  go_enter Tryd.func132, Tryd.ntmps132
  by_cases h0 : 0 ≤ z
  · rw [decide_eq_true h0]
    go_wp2
    go_ret
    exact ⟨by simp, rfl⟩
  · have e0 : decide (0 ≤ z) = false := decide_eq_false h0
    rw [e0]
    go_wp2
    go_ret
    exact ⟨rfl, rfl⟩
set_option maxHeartbeats 2000000 in
theorem rpick_f (h : Hk) (v : Value) (no : Int) (w : World) (hv : HMk w v h.ls) (hl : h.ls.length ≤ 1099511627776) (R : List (List UInt8)) (HR : Hid (pkL no h.ls = R)) : Calls Tryd.prog 161 #[hkV h v, .int .u8 no] w fun e w' => ∃ v', e = .returned v' ∧ HS w' v' R ∧ Below w.heap.size w w' := by
  obtain ⟨A, AN, B, BN, ls⟩ := h
  dsimp only at hv hl HR
  obtain ⟨lo, lc, rfl⟩ := HMk.form hv
  have hx := Hx.new w ⟨A, AN, B, BN, ls⟩ (.slice lo ls.length lc)
  have hBl : Below w.heap.size w (w.alloc (hkO ⟨A, AN, B, BN, ls⟩ (.slice lo ls.length lc))) := (Below.refl _ w).alloc (Nat.le_refl _) _
  have hv1 := HMk.keep hv hBl (Nat.le_refl _)
  have hsz : (w.alloc (hkO ⟨A, AN, B, BN, ls⟩ (.slice lo ls.length lc))).heap.size = w.heap.size + 1 := by simp
  unfold hkV
  dsimp only
  go_enter Tryd.func161, Tryd.ntmps161
  go_wp2
  have hW : w.alloc (hkO ⟨A, AN, B, BN, ls⟩ (.slice lo ls.length lc)) = w.alloc (Obj.cells #[Value.int IntKind.i64 A, Value.int IntKind.i64 AN, Value.int IntKind.i64 B, Value.int IntKind.i64 BN, .slice lo ls.length lc] 43) := rfl
  rw [← hW]
  clear hW hv
  have HSZ : Hid ((w.alloc (hkO ⟨A, AN, B, BN, ls⟩ (.slice lo ls.length lc))).heap.size = w.heap.size + 1) := hsz
  clear hsz
  generalize w.alloc (hkO ⟨A, AN, B, BN, ls⟩ (.slice lo ls.length lc)) = W at *
  go_loopw [5, 6] (fun ov iv wr => ∃ (k : Nat) (out : List (List UInt8)), k ≤ ls.length ∧ out.length ≤ k ∧ iv = .int .i64 (k : Int) ∧ (∃ oo oc, ov = .slice oo out.length oc) ∧ St W 9 1 ov out.length (scells out) wr ∧ Hid (out ++ pkL no (ls.drop k) = R)) (fun _ iv _ => ls.length - (intOf iv).toNat)
  case atStart => exact ⟨0, [], Nat.zero_le _, Nat.le_refl _, by go_num, ⟨_, _, rfl⟩, ⟨hnil_row _ _ _ _, Below.refl _ _⟩, HR⟩
  case round =>
    obtain ⟨k, out, hk, hok, rfl, ⟨oo, oc, rfl⟩, hS, HI⟩ := hrel
    obtain ⟨_, _, _, _, d4⟩ := (hx.low hS.low).cells
    by_cases hlt : k < ls.length
    · obtain ⟨b, off, rfl, hb, _⟩ := HMk.at hv1 (by omega)
      obtain ⟨m, hm⟩ : ∃ m, ls[k] = m := ⟨_, rfl⟩
      obtain ⟨c0, c1⟩ := Low.mk hS.low hv1 k hlt hm
      have HI2 : Hid (out ++ (if m.sg ≠ no ∧ okS m.sg = true then m.tx :: pkL no (ls.drop (k + 1)) else pkL no (ls.drop (k + 1))) = R) := (by
        show _ = _
        rw [← HI.out, List.drop_eq_getElem_cons hlt, hm]
        rfl)
      obtain ⟨sg, tx⟩ := m
      dsimp only at c0 c1 HI2
      clear HI hm HR
      have i1 : 0 ≤ (k : Int) := by omega
      have i2 : (k : Int) < (ls.length : Int) := by omega
      have hsS := hS.low.size
      by_cases h0 : sg = no
      · subst h0
        have HI3 : Hid (out ++ pkL sg (ls.drop (k + 1)) = R) := (by
          have h := HI2.out
          rw [if_neg (by exact fun h => h.1 rfl)] at h
          exact h)
        clear HI2
        go_wp2
        exact ⟨⟨k + 1, out, by omega, by omega, by go_num, ⟨_, _, rfl⟩, hS, HI3⟩, by simp [intOf]; omega⟩
      · have e0 : (sg == no) = false := by simpa using h0
        by_cases h1 : sg = 32
        · subst h1
          have HI3 : Hid (out ++ [tx] ++ pkL no (ls.drop (k + 1)) = R) := (by
            have h := HI2.out
            rw [if_pos ⟨h0, by decide⟩] at h
            show _ = _
            rw [← h]
            simp)
          clear HI2
          go_wp2_with (at_builtin; refine wpList_append_h _ (by kernel_rfl) (.tmp 36) (.tmp 43) 23 9 (.string ⟨#[]⟩) 1 16 rfl Tryd.underlying23 infoStr rfl (by decide) (by decide) W.heap.size _ _ _ rfl (hS.own.alloc _) _ 1 (scells [tx]) rfl (new_holds _ _ _ _ _ (by decide)) rfl (scells_one _) (by omega) (by simp; omega) ?_)
          intro v2 w2 hown2 hgrow2
          have hB2 : Below W.heap.size W w2 := (hS.low.alloc hS.low.size _).grown hgrow2 (by simp; omega) (fun _ hj => owns_ge hS.own hj)
          rw [← scells_append] at hown2
          obtain ⟨oo2, oc2, rfl⟩ := (holds_of hown2).form
          clear hgrow2
          go_wp2
          exact ⟨⟨k + 1, out ++ [tx], by omega, by simp; omega, by go_num, ⟨_, _, by rw [List.length_append]; rfl⟩, ⟨by rw [List.length_append]; exact hown2, hB2⟩, HI3⟩, by simp [intOf]; omega⟩
        · have e1 : (sg == 32) = false := by simpa using h1
          by_cases h2 : sg = 45
          · subst h2
            have HI3 : Hid (out ++ [tx] ++ pkL no (ls.drop (k + 1)) = R) := (by
              have h := HI2.out
              rw [if_pos ⟨h0, by decide⟩] at h
              show _ = _
              rw [← h]
              simp)
            clear HI2
            go_wp2_with (at_builtin; refine wpList_append_h _ (by kernel_rfl) (.tmp 36) (.tmp 43) 23 9 (.string ⟨#[]⟩) 1 16 rfl Tryd.underlying23 infoStr rfl (by decide) (by decide) W.heap.size _ _ _ rfl (hS.own.alloc _) _ 1 (scells [tx]) rfl (new_holds _ _ _ _ _ (by decide)) rfl (scells_one _) (by omega) (by simp; omega) ?_)
            intro v2 w2 hown2 hgrow2
            have hB2 : Below W.heap.size W w2 := (hS.low.alloc hS.low.size _).grown hgrow2 (by simp; omega) (fun _ hj => owns_ge hS.own hj)
            rw [← scells_append] at hown2
            obtain ⟨oo2, oc2, rfl⟩ := (holds_of hown2).form
            clear hgrow2
            go_wp2
            exact ⟨⟨k + 1, out ++ [tx], by omega, by simp; omega, by go_num, ⟨_, _, by rw [List.length_append]; rfl⟩, ⟨by rw [List.length_append]; exact hown2, hB2⟩, HI3⟩, by simp [intOf]; omega⟩
          · have e2 : (sg == 45) = false := by simpa using h2
            by_cases h3 : sg = 43
            · subst h3
              have HI3 : Hid (out ++ [tx] ++ pkL no (ls.drop (k + 1)) = R) := (by
                have h := HI2.out
                rw [if_pos ⟨h0, by decide⟩] at h
                show _ = _
                rw [← h]
                simp)
              clear HI2
              go_wp2_with (at_builtin; refine wpList_append_h _ (by kernel_rfl) (.tmp 36) (.tmp 43) 23 9 (.string ⟨#[]⟩) 1 16 rfl Tryd.underlying23 infoStr rfl (by decide) (by decide) W.heap.size _ _ _ rfl (hS.own.alloc _) _ 1 (scells [tx]) rfl (new_holds _ _ _ _ _ (by decide)) rfl (scells_one _) (by omega) (by simp; omega) ?_)
              intro v2 w2 hown2 hgrow2
              have hB2 : Below W.heap.size W w2 := (hS.low.alloc hS.low.size _).grown hgrow2 (by simp; omega) (fun _ hj => owns_ge hS.own hj)
              rw [← scells_append] at hown2
              obtain ⟨oo2, oc2, rfl⟩ := (holds_of hown2).form
              clear hgrow2
              go_wp2
              exact ⟨⟨k + 1, out ++ [tx], by omega, by simp; omega, by go_num, ⟨_, _, by rw [List.length_append]; rfl⟩, ⟨by rw [List.length_append]; exact hown2, hB2⟩, HI3⟩, by simp [intOf]; omega⟩
            · have e3 : (sg == 43) = false := by simpa using h3
              have HI3 : Hid (out ++ pkL no (ls.drop (k + 1)) = R) := (by
                have h := HI2.out
                rw [if_neg (by simp [okS, h1, h2, h3])] at h
                exact h)
              clear HI2
              go_wp2
              exact ⟨⟨k + 1, out, by omega, by omega, by go_num, ⟨_, _, rfl⟩, hS, HI3⟩, by simp [intOf]; omega⟩
    · have HI3 : Hid (out = R) := (by
        have h := HI.out
        rw [List.drop_of_length_le (by omega)] at h
        show out = R
        simpa [pkL] using h)
      clear HI
      have hend : decide ((k : Int) < (ls.length : Int)) = false := decide_eq_false (by omega)
      go_wp2
      go_ret
      refine ⟨_, rfl, ?_, hBl.trans (hS.low.mono (by have := HSZ.out; omega))⟩
      rw [← HI3.out]
      exact holds_of hS.own
theorem rOld_f (h : Hk) (v : Value) (w : World) (hv : HMk w v h.ls) (hl : h.ls.length ≤ 1099511627776) (R : List (List UInt8)) (HR : Hid (oldL h = R)) : Calls Tryd.prog 134 #[hkV h v] w fun e w' => ∃ v', e = .returned v' ∧ HS w' v' R ∧ Below w.heap.size w w' := by
  have hBl : Below w.heap.size w (w.alloc (hkO h v)) := (Below.refl _ w).alloc (Nat.le_refl _) _
  have hv1 := HMk.keep hv hBl (Nat.le_refl _)
  obtain ⟨c0, c1, c2, c3, c4⟩ := (Hx.new w h v).cells
  unfold hkO at c0 c1 c2 c3 c4 hBl hv1
  obtain ⟨lo, lc, rfl⟩ := HMk.form hv
  have e : hkV h (.slice lo h.ls.length lc) = .agg #[.int .i64 h.A, .int .i64 h.AN, .int .i64 h.B, .int .i64 h.BN, .slice lo h.ls.length lc] := rfl
  rw [e]
  go_enter Tryd.func134, Tryd.ntmps134
  go_wp2_with fail
  refine (rpick_f h _ 43 _ hv1 hl R HR).mono ?_
  rintro e w1 ⟨v1, rfl, hv1, hB1⟩
  obtain ⟨vo, vc, rfl⟩ := Holds.form hv1
  go_wp2
  go_ret
  exact ⟨_, rfl, hv1, hBl.trans (hB1.mono hBl.size)⟩
theorem rNew_f (h : Hk) (v : Value) (w : World) (hv : HMk w v h.ls) (hl : h.ls.length ≤ 1099511627776) (R : List (List UInt8)) (HR : Hid (newL h = R)) : Calls Tryd.prog 135 #[hkV h v] w fun e w' => ∃ v', e = .returned v' ∧ HS w' v' R ∧ Below w.heap.size w w' := by
  have hBl : Below w.heap.size w (w.alloc (hkO h v)) := (Below.refl _ w).alloc (Nat.le_refl _) _
  have hv1 := HMk.keep hv hBl (Nat.le_refl _)
  obtain ⟨c0, c1, c2, c3, c4⟩ := (Hx.new w h v).cells
  unfold hkO at c0 c1 c2 c3 c4 hBl hv1
  obtain ⟨lo, lc, rfl⟩ := HMk.form hv
  have e : hkV h (.slice lo h.ls.length lc) = .agg #[.int .i64 h.A, .int .i64 h.AN, .int .i64 h.B, .int .i64 h.BN, .slice lo h.ls.length lc] := rfl
  rw [e]
  go_enter Tryd.func135, Tryd.ntmps135
  go_wp2_with fail
  refine (rpick_f h _ 45 _ hv1 hl R HR).mono ?_
  rintro e w1 ⟨v1, rfl, hv1, hB1⟩
  obtain ⟨vo, vc, rfl⟩ := Holds.form hv1
  go_wp2
  go_ret
  exact ⟨_, rfl, hv1, hBl.trans (hB1.mono hBl.size)⟩

/-- a line's bytes, one by one -/
theorem lin_at {s : List UInt8} (hs : s ≠ []) : linB s = true ↔ ∀ (j : Nat) (hj : j + 1 < s.length), s[j] ≠ 10 := by
  unfold linB
  have e1 : s.isEmpty = false := by cases s with | nil => exact absurd rfl hs | cons => rfl
  rw [e1]
  simp only [Bool.not_false, Bool.true_and, List.all_eq_true]
  constructor
  · intro h j hj
    have := h s[j] (by
      rw [List.mem_iff_getElem]
      exact ⟨j, by simp; omega, by simp⟩)
    simpa using this
  · intro h c hc
    rw [List.mem_iff_getElem] at hc
    obtain ⟨j, hj, rfl⟩ := hc
    simp at hj
    have := h j (by omega)
    simpa using this
end Go.Proofs.YtgiojkhmkeocfaaDoor

/- The reference's line, last of layer 11, walked. -/
namespace Go.Proofs.YtgiojkhmkeocfaaDoor
open Go.RowKit

theorem bat (l : List UInt8) (k : Nat) (h : k < (⟨l.toArray⟩ : ByteArray).size) : (⟨l.toArray⟩ : ByteArray)[k]'h = l[k]'(h) := rfl
attribute [local go_sem] bat ByteArray.extract_mk
theorem is_feed {x : UInt8} (h : x = 10) : ((x.toNat : Int) == 10) = true := by subst h; rfl
theorem no_feed {x : UInt8} (h : x ≠ 10) : ((x.toNat : Int) == 10) = false := by
  have : x.toNat ≠ 10 := fun e => h (UInt8.toNat_inj.1 e)
  rw [beq_eq_false_iff_ne]; omega
theorem idx_s (L : List UInt8) (i : Int) (k : Nat) (hk : k < L.length) (hi : i = k) (w : World) :
    (Instr.index 9 (.string ⟨L.toArray⟩) (.int .i64 i)).run Tryd.prog w = .ok (.int .u8 (L[k].toNat : Int)) w := by
  subst hi
  rw [run_index_string w 9 ⟨L.toArray⟩ .i64 (k : Int) Tryd.underlying9]
  have hs : (⟨L.toArray⟩ : ByteArray).size = L.length := rfl
  rw [dif_pos ⟨by omega, by rw [hs]; omega⟩]
  rfl
theorem wrap_s {n : Int} (h0 : -9223372036854775808 ≤ n) (h1 : n ≤ 9223372036854775807) : IntKind.i64.wrap n = n := by
  simp [IntKind.wrap, IntKind.bits, IntKind.signed]
  split <;> omega
theorem fd_last {s : List UInt8} (h : 0 < s.length) : fdB s = (s[s.length - 1] == 10) := by
  unfold fdB
  rw [List.getLast?_eq_getElem?, List.getElem?_eq_getElem (by omega)]
  rfl

set_option maxHeartbeats 2000000 in
theorem rline_f (s : List UInt8) (w : World) (hl : s.length ≤ 1099511627776) (p q : Bool) (HP : Hid (linB s = p)) (HQ : Hid ((linB s && fdB s) = q)) : Calls Tryd.prog 159 #[.string ⟨s.toArray⟩] w fun e w' => e = .returned (.tuple #[.bool p, .bool q]) ∧ ∃ n, w' = w.drewN n := by
  by_cases h0 : s = []
  · subst h0
    obtain rfl : p = false := by rw [← HP.out]; rfl
    obtain rfl : q = false := by rw [← HQ.out]; rfl
    clear HP HQ
    go_enter Tryd.func159, Tryd.ntmps159
    go_wp2
    go_ret2
    exact ⟨rfl, 0, rfl⟩
  · have h1 : 0 < s.length := by
      cases s with
      | nil => exact absurd rfl h0
      | cons => simp
    have hz : decide ((s.length : Int) = 0) = false := decide_eq_false (by omega)
    have hz2 : ((s.length : Int) == 0) = false := by rw [beq_eq_false_iff_ne]; omega
    have H0 : Hid (s ≠ []) := h0
    clear h0
    go_enter Tryd.func159, Tryd.ntmps159
    go_wp2
    go_loopw [4] (fun iv wr => ∃ k : Nat, k + 1 ≤ s.length ∧ iv = .int .i64 (k : Int) ∧ wr = w ∧ Hid (∀ (j : Nat) (hj : j < s.length), j < k → s[j] ≠ 10)) (fun iv _ => s.length - (intOf iv).toNat)
    case atStart => exact ⟨0, by omega, by go_num, rfl, fun j _ h => by omega⟩
    case round =>
      obtain ⟨k, hk, rfl, rfl, HK⟩ := hrel
      by_cases hlt : k + 1 < s.length
      · have j1 : (k : Int) < (s.length : Int) - 1 := by omega
        by_cases h10 : s[k] = 10
        · have hb := is_feed h10
          have hlin : linB s = false := by
            cases hq : linB s with
            | false => rfl
            | true => exact absurd h10 ((lin_at H0.out).1 hq k hlt)
          obtain rfl : p = false := by rw [← HP.out]; exact hlin
          obtain rfl : q = false := by rw [← HQ.out, hlin]; rfl
          clear h10 hlin HP HQ
          go_wp2
          go_ret2
          exact ⟨rfl, 0, rfl⟩
        · have hb := no_feed h10
          have HK2 : Hid (∀ (j : Nat) (hj : j < s.length), j < k + 1 → s[j] ≠ 10) := (fun j hj h => by
            by_cases e : j = k
            · subst e; exact h10
            · exact HK.out j hj (by omega))
          clear h10
          go_wp2
          exact ⟨⟨k + 1, by omega, by go_num, trivial, HK2⟩, by simp [intOf]; omega⟩
      · have j1 : ¬ (k : Int) < (s.length : Int) - 1 := by omega
        have j2 : decide ((k : Int) < (s.length : Int) - 1) = false := decide_eq_false j1
        have hlin : linB s = true := (lin_at H0.out).2 fun j hj => HK.out j (by omega) (by omega)
        obtain rfl : p = true := by rw [← HP.out]; exact hlin
        have hq2 : q = (s[s.length - 1] == 10) := by rw [← HQ.out, hlin, fd_last h1]; rfl
        have i1 : (0 : Int) ≤ (s.length : Int) - 1 := by omega
        have i2 : (s.length : Int) - 1 < (s.length : Int) := by omega
        have i3 : IntKind.i64.wrap ((s.length : Int) - 1) = (s.length : Int) - 1 := wrap_s (by omega) (by omega)
        have i4 := idx_s s ((s.length : Int) - 1) (s.length - 1) (by omega) (by omega)
        clear HP HQ hlin HK
        by_cases h10 : s[s.length - 1] = 10
        · have hb := is_feed h10
          obtain rfl : q = true := by rw [hq2, h10]; rfl
          clear hq2 h10
          go_wp2_with fail
          go_quiet (fail)
          go_wp2
          go_ret2
          exact ⟨rfl, _, rfl⟩
        · have hb := no_feed h10
          obtain rfl : q = false := by rw [hq2]; simpa using h10
          clear hq2 h10
          go_wp2_with fail
          go_quiet (fail)
          go_wp2
          go_ret2
          exact ⟨rfl, _, rfl⟩

set_option maxHeartbeats 2000000 in
theorem rlast_f (h : Hk) (v : Value) (at0 : Nat) (sg : Int) (w : World) (hv : HMk w v h.ls) (hl : h.ls.length ≤ 1099511627776) (hat : at0 ≤ h.ls.length) (r : Bool) (HR : Hid (lstB sg (h.ls.drop (at0 + 1)) = r)) : Calls Tryd.prog 160 #[hkV h v, .int .i64 (at0 : Int), .int .u8 sg] w fun e w' => e = .returned (.bool r) ∧ Below w.heap.size w w' := by
  obtain ⟨A, AN, B, BN, ls⟩ := h
  dsimp only at hv hl HR hat
  obtain ⟨lo, lc, rfl⟩ := HMk.form hv
  have hx := Hx.new w ⟨A, AN, B, BN, ls⟩ (.slice lo ls.length lc)
  have hBl : Below w.heap.size w (w.alloc (hkO ⟨A, AN, B, BN, ls⟩ (.slice lo ls.length lc))) := (Below.refl _ w).alloc (Nat.le_refl _) _
  have hv1 := HMk.keep hv hBl (Nat.le_refl _)
  unfold hkV
  dsimp only
  go_enter Tryd.func160, Tryd.ntmps160
  go_wp2
  have hW : w.alloc (hkO ⟨A, AN, B, BN, ls⟩ (.slice lo ls.length lc)) = w.alloc (Obj.cells #[Value.int IntKind.i64 A, Value.int IntKind.i64 AN, Value.int IntKind.i64 B, Value.int IntKind.i64 BN, .slice lo ls.length lc] 43) := rfl
  rw [← hW]
  clear hW hv
  generalize w.alloc (hkO ⟨A, AN, B, BN, ls⟩ (.slice lo ls.length lc)) = W at *
  go_loopw [7] (fun iv wr => ∃ (k : Nat), k ≤ ls.length + 1 ∧ iv = .int .i64 (k : Int) ∧ wr = W ∧ Hid (lstB sg (ls.drop k) = r)) (fun iv _ => ls.length + 1 - (intOf iv).toNat)
  case atStart => exact ⟨at0 + 1, by omega, by go_num, rfl, HR⟩
  case round =>
    obtain ⟨k, hk, rfl, rfl, HI⟩ := hrel
    obtain ⟨_, _, _, _, d4⟩ := hx.cells
    by_cases hlt : k < ls.length
    · obtain ⟨b, off, rfl, hb, hc⟩ := HMk.at hv1 (by omega)
      obtain ⟨c0, c1⟩ := hc k hlt
      obtain ⟨m, hm⟩ : ∃ m, ls[k] = m := ⟨_, rfl⟩
      rw [hm] at c0 c1
      have HI2 : Hid (((decide (m.sg ≠ sg) && decide (m.sg ≠ 32)) && lstB sg (ls.drop (k + 1))) = r) := (by
        show _ = _
        rw [← HI.out, List.drop_eq_getElem_cons hlt, hm]
        rfl)
      obtain ⟨s, tx⟩ := m
      dsimp only at c0 c1 HI2
      clear HI hm HR hc c1
      have i1 : 0 ≤ (k : Int) := by omega
      have i2 : (k : Int) < (ls.length : Int) := by omega
      by_cases h0 : s = sg
      · subst h0
        obtain rfl : r = false := by rw [← HI2.out]; simp
        clear HI2
        go_wp2
        go_ret
        exact ⟨rfl, hBl⟩
      · have e0 : (s == sg) = false := by simpa using h0
        by_cases h1 : s = 32
        · subst h1
          obtain rfl : r = false := by rw [← HI2.out]; simp
          clear HI2
          go_wp2
          go_ret
          exact ⟨rfl, hBl⟩
        · have e1 : (s == 32) = false := by simpa using h1
          have HI3 : Hid (lstB sg (ls.drop (k + 1)) = r) := (by
            show _ = _
            rw [← HI2.out]
            simp [h0, h1])
          clear HI2
          go_wp2
          exact ⟨⟨k + 1, by omega, by go_num, trivial, HI3⟩, by simp [intOf]; omega⟩
    · obtain rfl : r = true := by
        rw [← HI.out, List.drop_of_length_le (by omega)]
        rfl
      have hend : decide ((k : Int) < (ls.length : Int)) = false := decide_eq_false (by omega)
      clear HI
      go_wp2
      go_ret
      exact ⟨rfl, hBl⟩
end Go.Proofs.YtgiojkhmkeocfaaDoor

/- The reference's fields of layer 11, walked. -/
namespace Go.Proofs.YtgiojkhmkeocfaaDoor
open Go.RowKit

/-- a line in a box -/
def mkO (m : Mk) : Obj := .cells #[.int .u8 m.sg, .string ⟨m.tx.toArray⟩] 91
def Mx (u : World) (b : Nat) (m : Mk) : Prop := u.heap[b]? = some (mkO m)
section
variable {u u' : World} {b : Nat} {m : Mk}
theorem Mx.cells (q : Mx u b m) : u.cell? ⟨b, 0, none⟩ = some (.int .u8 m.sg) ∧ u.cell? ⟨b, 1, none⟩ = some (.string ⟨m.tx.toArray⟩) := by
  unfold Mx mkO at q
  refine ⟨?_, ?_⟩ <;> rw [Lib.cell_of_heap q] <;> rfl
theorem Mx.lt (q : Mx u b m) : b < u.heap.size := (Array.getElem?_eq_some_iff.1 q).1
theorem Mx.low (q : Mx u b m) (hg : Below u.heap.size u u') : Mx u' b m := (hg.block b q.lt).trans q
theorem Mx.new (w : World) (m : Mk) : Mx (w.alloc (mkO m)) w.heap.size m := _root_.Go.heap_alloc_new w _
end
theorem Hx.row {W : World} {b : Nat} {h : Hk} {v : Value} (q : Hx W b h v) (n : Nat) : Hx (W.drewN n) b h v := q

set_option maxHeartbeats 4000000 in
theorem rfields_f (h : Hk) (v : Value) (w : World) (hv : HMk w v h.ls) (hl : h.ls.length ≤ 1099511627776) (htx : ∀ m ∈ h.ls, m.tx.length ≤ 1099511627776) (r : Bool) (HR : Hid (fldB h.ls = r)) : Calls Tryd.prog 133 #[hkV h v] w fun e w' => e = .returned (.bool r) ∧ Below w.heap.size w w' := by
  obtain ⟨A, AN, B, BN, ls⟩ := h
  dsimp only at hv hl HR htx
  obtain ⟨lo, lc, rfl⟩ := HMk.form hv
  have hx := Hx.new w ⟨A, AN, B, BN, ls⟩ (.slice lo ls.length lc)
  have hBl : Below w.heap.size w (w.alloc (hkO ⟨A, AN, B, BN, ls⟩ (.slice lo ls.length lc))) := (Below.refl _ w).alloc (Nat.le_refl _) _
  have hv1 := HMk.keep hv hBl (Nat.le_refl _)
  have HTX : Hid (∀ m ∈ ls, m.tx.length ≤ 1099511627776) := htx
  clear htx
  unfold hkV
  dsimp only
  go_enter Tryd.func133, Tryd.ntmps133
  go_wp2
  have hW : w.alloc (hkO ⟨A, AN, B, BN, ls⟩ (.slice lo ls.length lc)) = w.alloc (Obj.cells #[Value.int IntKind.i64 A, Value.int IntKind.i64 AN, Value.int IntKind.i64 B, Value.int IntKind.i64 BN, .slice lo ls.length lc] 43) := rfl
  rw [← hW]
  have HSZ : Hid ((w.alloc (hkO ⟨A, AN, B, BN, ls⟩ (.slice lo ls.length lc))).heap.size = w.heap.size + 1) := (by show _ = _; simp)
  clear hW hv
  generalize w.alloc (hkO ⟨A, AN, B, BN, ls⟩ (.slice lo ls.length lc)) = W at *
  go_loopw [3] (fun iv wr => ∃ (k : Nat), k ≤ ls.length ∧ iv = .int .i64 (k : Int) ∧ Below W.heap.size W wr ∧ Hid (fldB (ls.drop k) = r)) (fun iv _ => ls.length - (intOf iv).toNat)
  case atStart => exact ⟨0, Nat.zero_le _, by go_num, Below.refl _ _, HR⟩
  case round =>
    obtain ⟨k, hk, rfl, hB, HI⟩ := hrel
    obtain ⟨x0, x1, x2, x3, x4⟩ := (hx.low hB).cells
    by_cases hlt : k < ls.length
    · obtain ⟨b, off, rfl, hb, _⟩ := HMk.at hv1 (by omega)
      obtain ⟨m, hm⟩ : ∃ m, ls[k] = m := ⟨_, rfl⟩
      obtain ⟨c0, c1⟩ := Low.mk hB hv1 k hlt hm
      have htl : m.tx.length ≤ 1099511627776 := HTX.out m (by rw [← hm]; exact List.getElem_mem hlt)
      have HI2 : Hid ((linB m.tx && okS m.sg && (fdB m.tx || ((decide (m.sg = 43) || lstB 45 (ls.drop (k + 1))) && (decide (m.sg = 45) || lstB 43 (ls.drop (k + 1))))) && fldB (ls.drop (k + 1))) = r) := (by
        show _ = _
        rw [← HI.out, List.drop_eq_getElem_cons hlt, hm]
        rfl)
      have i1 : 0 ≤ (k : Int) := by omega
      have i2 : (k : Int) < (ls.length : Int) := by omega
      have hB2 : Below W.heap.size W (wr.alloc (mkO m)) := hB.alloc hB.size _
      obtain ⟨y0, y1⟩ := (Mx.new wr m).cells
      obtain ⟨z0, z1, z2, z3, z4⟩ := (hx.low hB2).cells
      obtain ⟨sg, tx⟩ := m
      obtain ⟨p, hp⟩ : ∃ p, linB tx = p := ⟨_, rfl⟩
      obtain ⟨q, hq⟩ : ∃ q, (linB tx && fdB tx) = q := ⟨_, rfl⟩
      have HP : Hid (linB tx = p) := hp
      have HQ : Hid ((linB tx && fdB tx) = q) := hq
      dsimp only at c0 c1 HI2 y0 y1 z0 z1 z2 z3 z4 x0 x1 x2 x3 x4
      unfold mkO at hB2 y0 y1 z0 z1 z2 z3 z4
      dsimp only at hB2 y0 y1 z0 z1 z2 z3 z4
      clear HI hm HR hp hq
      go_wp2_with fail
      generalize wr.alloc (Obj.cells #[Value.int IntKind.u8 sg, Value.string ⟨tx.toArray⟩] 91) = W2 at *
      refine (rline_f tx W2 htl p q HP HQ).mono ?_
      rintro e w3 ⟨rfl, n3, rfl⟩
      have hB3 : Below W.heap.size W (W2.drewN n3) := Below.dN hB2 n3
      have hv3 := HMk.keep hv1 hB3 (Nat.le_refl _)
      have y0' : (W2.drewN n3).cell? ⟨wr.heap.size, 0, none⟩ = some (.int .u8 sg) := y0
      have z0' : (W2.drewN n3).cell? ⟨w.heap.size, 0, none⟩ = some (.int .i64 A) := z0
      have z1' : (W2.drewN n3).cell? ⟨w.heap.size, 1, none⟩ = some (.int .i64 AN) := z1
      have z2' : (W2.drewN n3).cell? ⟨w.heap.size, 2, none⟩ = some (.int .i64 B) := z2
      have z3' : (W2.drewN n3).cell? ⟨w.heap.size, 3, none⟩ = some (.int .i64 BN) := z3
      have z4' : (W2.drewN n3).cell? ⟨w.heap.size, 4, none⟩ = some (.slice (some ⟨b, off, none⟩) ls.length lc) := z4
      clear y0 y1 z0 z1 z2 z3 z4 x0 x1 x2 x3 x4 c0 c1 hB2
      generalize W2.drewN n3 = W3 at *
      have HF : Hid (Below w.heap.size w W3) := hBl.trans (hB3.mono (by have := HSZ.out; omega))
      cases p with
      | false =>
        obtain rfl : r = false := by rw [← HI2.out, HP.out]; rfl
        clear HI2 HP HQ
        go_wp2
        go_ret
        exact ⟨rfl, HF.out⟩
      | true =>
        by_cases h1 : sg = 32
        · subst h1
          cases q with
          | true =>
            have HI4 : Hid (fldB (ls.drop (k + 1)) = r) := (by
              have hfd : fdB tx = true := by have := HQ.out; rw [HP.out] at this; simpa using this
              show _ = _
              rw [← HI2.out, HP.out, hfd]
              simp [okS])
            clear HI2 HP HQ
            go_wp2
            exact ⟨⟨k + 1, by omega, by go_num, hB3, HI4⟩, by simp [intOf]; omega⟩
          | false =>
            have hfd : fdB tx = false := by have := HQ.out; rw [HP.out] at this; simpa using this
            obtain ⟨r1, h1⟩ : ∃ r1, lstB 45 (ls.drop (k + 1)) = r1 := ⟨_, rfl⟩
            obtain ⟨r2, h2⟩ : ∃ r2, lstB 43 (ls.drop (k + 1)) = r2 := ⟨_, rfl⟩
            have HI3 : Hid ((r1 && r2 && fldB (ls.drop (k + 1))) = r) := (by
              show _ = _
              rw [← HI2.out, HP.out, hfd, h1, h2]
              simp [okS])
            have H1 : Hid (lstB 45 (ls.drop (k + 1)) = r1) := h1
            have H2 : Hid (lstB 43 (ls.drop (k + 1)) = r2) := h2
            clear HI2 HP HQ hfd h1 h2
            go_wp2_with fail
            refine (rlast_f ⟨A, AN, B, BN, ls⟩ _ k 45 W3 hv3 hl hk r1 H1).mono ?_
            rintro e w4 ⟨rfl, hB4⟩
            have hB04 := hB3.trans (hB4.mono hB3.size)
            have HF4 : Hid (Below w.heap.size w w4) := HF.out.trans (hB4.mono HF.out.size)
            cases r1 with
            | false =>
              obtain rfl : r = false := by rw [← HI3.out]; rfl
              clear HI3 H1 H2
              go_wp2
              go_ret
              exact ⟨rfl, HF4.out⟩
            | true =>
              have hv4 := HMk.keep hv1 hB04 (Nat.le_refl _)
              obtain ⟨t0, t1, t2, t3, t4⟩ := (hx.low hB04).cells
              have y4 : w4.cell? ⟨wr.heap.size, 0, none⟩ = some (.int .u8 32) := (World.cell?_of_block (w := W3) (hB4.block _ (World.block_lt_of_cell? _ _ y0'))).trans y0'
              dsimp only at t0 t1 t2 t3 t4
              clear y0' z0' z1' z2' z3' z4'
              go_wp2_with fail
              refine (rlast_f ⟨A, AN, B, BN, ls⟩ _ k 43 w4 hv4 hl hk r2 H2).mono ?_
              rintro e w5 ⟨rfl, hB5⟩
              have hB05 := hB04.trans (hB5.mono hB04.size)
              have HF5 : Hid (Below w.heap.size w w5) := HF4.out.trans (hB5.mono HF4.out.size)
              cases r2 with
              | false =>
                obtain rfl : r = false := by rw [← HI3.out]; rfl
                clear HI3 H1 H2
                go_wp2
                go_ret
                exact ⟨rfl, HF5.out⟩
              | true =>
                have HI4 : Hid (fldB (ls.drop (k + 1)) = r) := (by show _ = _; rw [← HI3.out]; rfl)
                clear HI3 H1 H2
                go_wp2
                exact ⟨⟨k + 1, by omega, by go_num, hB05, HI4⟩, by simp [intOf]; omega⟩
        · have e1 : (sg == 32) = false := by simpa using h1
          by_cases h2 : sg = 45
          · subst h2
            cases q with
            | true =>
              have HI4 : Hid (fldB (ls.drop (k + 1)) = r) := (by
                have hfd : fdB tx = true := by have := HQ.out; rw [HP.out] at this; simpa using this
                show _ = _
                rw [← HI2.out, HP.out, hfd]
                simp [okS])
              clear HI2 HP HQ
              go_wp2
              exact ⟨⟨k + 1, by omega, by go_num, hB3, HI4⟩, by simp [intOf]; omega⟩
            | false =>
              have hfd : fdB tx = false := by have := HQ.out; rw [HP.out] at this; simpa using this
              obtain ⟨r1, h1'⟩ : ∃ r1, lstB 45 (ls.drop (k + 1)) = r1 := ⟨_, rfl⟩
              have HI3 : Hid ((r1 && fldB (ls.drop (k + 1))) = r) := (by
                show _ = _
                rw [← HI2.out, HP.out, hfd, h1']
                simp [okS])
              have H1 : Hid (lstB 45 (ls.drop (k + 1)) = r1) := h1'
              clear HI2 HP HQ hfd h1'
              go_wp2_with fail
              refine (rlast_f ⟨A, AN, B, BN, ls⟩ _ k 45 W3 hv3 hl hk r1 H1).mono ?_
              rintro e w4 ⟨rfl, hB4⟩
              have hB04 := hB3.trans (hB4.mono hB3.size)
              have HF4 : Hid (Below w.heap.size w w4) := HF.out.trans (hB4.mono HF.out.size)
              have y4 : w4.cell? ⟨wr.heap.size, 0, none⟩ = some (.int .u8 45) := (World.cell?_of_block (w := W3) (hB4.block _ (World.block_lt_of_cell? _ _ y0'))).trans y0'
              clear y0' z0' z1' z2' z3' z4'
              cases r1 with
              | false =>
                obtain rfl : r = false := by rw [← HI3.out]; rfl
                clear HI3 H1
                go_wp2
                go_ret
                exact ⟨rfl, HF4.out⟩
              | true =>
                have HI4 : Hid (fldB (ls.drop (k + 1)) = r) := (by show _ = _; rw [← HI3.out]; rfl)
                clear HI3 H1
                go_wp2
                exact ⟨⟨k + 1, by omega, by go_num, hB04, HI4⟩, by simp [intOf]; omega⟩
          · have e2 : (sg == 45) = false := by simpa using h2
            by_cases h3 : sg = 43
            · subst h3
              cases q with
              | true =>
                have HI4 : Hid (fldB (ls.drop (k + 1)) = r) := (by
                  have hfd : fdB tx = true := by have := HQ.out; rw [HP.out] at this; simpa using this
                  show _ = _
                  rw [← HI2.out, HP.out, hfd]
                  simp [okS])
                clear HI2 HP HQ
                go_wp2
                exact ⟨⟨k + 1, by omega, by go_num, hB3, HI4⟩, by simp [intOf]; omega⟩
              | false =>
                have hfd : fdB tx = false := by have := HQ.out; rw [HP.out] at this; simpa using this
                obtain ⟨r1, h1'⟩ : ∃ r1, lstB 43 (ls.drop (k + 1)) = r1 := ⟨_, rfl⟩
                have HI3 : Hid ((r1 && fldB (ls.drop (k + 1))) = r) := (by
                  show _ = _
                  rw [← HI2.out, HP.out, hfd, h1']
                  simp [okS])
                have H1 : Hid (lstB 43 (ls.drop (k + 1)) = r1) := h1'
                clear HI2 HP HQ hfd h1'
                go_wp2_with fail
                refine (rlast_f ⟨A, AN, B, BN, ls⟩ _ k 43 W3 hv3 hl hk r1 H1).mono ?_
                rintro e w4 ⟨rfl, hB4⟩
                have hB04 := hB3.trans (hB4.mono hB3.size)
                have HF4 : Hid (Below w.heap.size w w4) := HF.out.trans (hB4.mono HF.out.size)
                have y4 : w4.cell? ⟨wr.heap.size, 0, none⟩ = some (.int .u8 43) := (World.cell?_of_block (w := W3) (hB4.block _ (World.block_lt_of_cell? _ _ y0'))).trans y0'
                clear y0' z0' z1' z2' z3' z4'
                cases r1 with
                | false =>
                  obtain rfl : r = false := by rw [← HI3.out]; rfl
                  clear HI3 H1
                  go_wp2
                  go_ret
                  exact ⟨rfl, HF4.out⟩
                | true =>
                  have HI4 : Hid (fldB (ls.drop (k + 1)) = r) := (by show _ = _; rw [← HI3.out]; rfl)
                  clear HI3 H1
                  go_wp2
                  exact ⟨⟨k + 1, by omega, by go_num, hB04, HI4⟩, by simp [intOf]; omega⟩
            · have e3 : (sg == 43) = false := by simpa using h3
              have n1 : (sg != 32) = true := by simpa using h1
              have n2 : (sg != 45) = true := by simpa using h2
              have n3' : (sg != 43) = true := by simpa using h3
              obtain rfl : r = false := by rw [← HI2.out]; simp [okS, h1, h2, h3]
              clear HI2 HP HQ h1 h2 h3 e1 e2 e3
              go_wp2
              go_ret
              exact ⟨rfl, HF.out⟩
    · obtain rfl : r = true := by
        rw [← HI.out, List.drop_of_length_le (by omega)]
        rfl
      have hend : decide ((k : Int) < (ls.length : Int)) = false := decide_eq_false (by omega)
      clear HI
      go_wp2
      go_ret
      exact ⟨rfl, hBl.trans (hB.mono (by have := HSZ.out; omega))⟩
end Go.Proofs.YtgiojkhmkeocfaaDoor
