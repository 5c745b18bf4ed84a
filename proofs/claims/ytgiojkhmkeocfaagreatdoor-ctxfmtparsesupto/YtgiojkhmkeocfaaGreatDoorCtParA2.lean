/-
  Texts that belong together, joined: EdRow, EdMath, EdM2, EdM3, EdM4, EdM5, HuMath, HuM2, HuM3, HuM4, HuM5, HuM6, EdChk, EdIter, EdOwn, EdKeep, EdWalk, PcLs, EdDrew, HuRow, HuRf1, HuRf2, HuRf3, PcReg, HuRf4, HuRf5, HuRf6, HuRf7, HuOwn.
-/
import Derived.Test.YtgiojkhmkeocfaaGreatDoorProg
import Derived.WalkKit
import Derived.WalkSpells
import Derived.WalkLawsBesides
import Derived.Deep.QuietTactic
import Derived.BigQuiet
import Derived.Laws.AppendOwnNone
import Derived.Below
import Derived.RangeFuncNested
import Derived.RangeFuncBound
import Derived.RangeFuncCalls
import Derived.RangeFuncLeaves
import Derived.RangeFuncBox
import Derived.Shelf.Abstract
import Derived.Shelf.RegionOpen
import Derived.OwnWalkIn
import Derived.TacticsInMore
import Derived.LoopNIn
import Derived.LoopIn
import Derived.Maps.AppendAt
import Derived.Deep.RegionHeld3
import Derived.Laws.Rows
import Derived.Deep.CutRange
import Derived.Deep.DeepCutAuto

/- Changes and runs as lists: what a slice of changes, of runs, of numbers, of texts holds, cell by cell; blocks that stay; append onto an owned row of wide elements. -/
set_option maxRecDepth 20000
namespace Go.Proofs.YtgiojkhmkeocfaaGreatDoor
open Go.RowKit

/-- a change -/
structure Ch where
  A : Int
  AN : Int
  B : Int
  BN : Int
/-- lines that are kept -/
structure Rn where
  a : Int
  b : Int
  n : Int
/-- what a type of elements has: its cells -/
def chC (c : Ch) : List Value := [.int .i64 c.A, .int .i64 c.AN, .int .i64 c.B, .int .i64 c.BN]
def rnC (r : Rn) : List Value := [.int .i64 r.a, .int .i64 r.b, .int .i64 r.n]
def chcells (l : List Ch) : List Value := l.flatMap chC
def rncells (l : List Rn) : List Value := l.flatMap rnC
def icells (ns : List Int) : List Value := ns.map fun z => .int .i64 z
def scells (ws : List (List UInt8)) : List Value := ws.map fun a => .string ⟨a.toArray⟩

theorem infoStr : (Tryz.prog.info? 9).map (fun i => (i.zero, i.size, i.bytes)) = some (some (.string ⟨#[]⟩), 1, 16) := by kernel_rfl
theorem addr_of {W : World} {a : Addr} {v : Value} (h : W.cell? (a.add 0) = some v) : ∃ b off, a = ⟨b, off, none⟩ := by
  obtain ⟨b, off, spot⟩ := a
  have hspot : spot = none := by simpa [Addr.add] using World.cell?_spot h
  subst hspot
  exact ⟨b, off, rfl⟩
theorem add_none (b off j : Nat) : (⟨b, off, none⟩ : Addr).add j = ⟨b, off + j, none⟩ := by unfold Addr.add; split <;> simp_all

theorem Below.dN {N : Nat} {w w1 : World} (h : Below N w w1) (n : Nat) : Below N w (w1.drewN n) := ⟨h.os, h.tape, h.output, h.size, h.block⟩
/-- what a slice value of n elements holds, cell by cell -/
def Holds (w : World) (v : Value) (n : Nat) (xs : List Value) : Prop :=
  (v = .slice none 0 0 ∧ n = 0 ∧ xs = []) ∨ ∃ ad c, v = .slice (some ad) n c ∧ n ≤ c ∧ ∀ j u, xs[j]? = some u → w.cell? (ad.add j) = some u
theorem holds_of {w : World} {B : Nat} {e : TypeId} {s : Nat} {v : Value} {n : Nat} {xs : List Value} (h : w.ownsRow B e s v n xs) : Holds w v n xs := by
  rcases h.2 with ⟨rfl, h0⟩ | ⟨g, cap, cur, rfl, _, _, hnc, _⟩
  · exact .inl ⟨rfl, h0, List.eq_nil_of_length_eq_zero (by rw [h.1, h0, Nat.zero_mul])⟩
  · exact .inr ⟨⟨g, 0, none⟩, cap, rfl, hnc, h.cells (g := g) rfl⟩
theorem Holds.keep {w w' : World} {v : Value} {n : Nat} {xs : List Value} (h : Holds w v n xs) (hk : ∀ k, k < w.heap.size → w'.heap[k]? = w.heap[k]?) : Holds w' v n xs := by
  rcases h with h | ⟨ad, c, hv, hnc, hc⟩
  · exact .inl h
  · refine .inr ⟨ad, c, hv, hnc, fun j u hj => ?_⟩
    have h1 := hc j u hj
    have hlt := World.block_lt_of_cell? w _ h1
    rw [World.cell?_of_block (w := w) (hk _ hlt)]
    exact h1
theorem Holds.form {w : World} {v : Value} {n : Nat} {xs : List Value} (h : Holds w v n xs) : ∃ ao c, v = .slice ao n c := by
  rcases h with ⟨rfl, rfl, rfl⟩ | ⟨ad, c, rfl, _⟩
  · exact ⟨_, _, rfl⟩
  · exact ⟨_, _, rfl⟩
/-- a slice that is not empty: where it lies -/
theorem Holds.at {w : World} {v : Value} {n : Nat} {xs : List Value} (h : Holds w v n xs) (h0 : 0 < xs.length) : ∃ b off c, v = .slice (some ⟨b, off, none⟩) n c ∧ b < w.heap.size ∧ ∀ j (hj : j < xs.length), w.cell? ⟨b, off + j, none⟩ = some xs[j] := by
  rcases h with ⟨_, _, rfl⟩ | ⟨ad, c, rfl, _, hc⟩
  · simp at h0
  · obtain ⟨b, off, rfl⟩ := addr_of (hc 0 _ (List.getElem?_eq_getElem h0))
    refine ⟨b, off, c, rfl, World.block_lt_of_cell? w _ (hc 0 _ (List.getElem?_eq_getElem h0)), fun j hj => ?_⟩
    have := hc j _ (List.getElem?_eq_getElem hj)
    rw [add_none] at this
    exact this
theorem Holds.nil (w : World) : Holds w (.slice none 0 0) 0 [] := .inl ⟨rfl, rfl, rfl⟩

theorem chcells_length (l : List Ch) : (chcells l).length = l.length * 4 := by
  induction l with
  | nil => rfl
  | cons c l ih => simp only [chcells, List.flatMap_cons, List.length_append, List.length_cons] at ih ⊢; rw [ih]; simp [chC]; omega
theorem rncells_length (l : List Rn) : (rncells l).length = l.length * 3 := by
  induction l with
  | nil => rfl
  | cons c l ih => simp only [rncells, List.flatMap_cons, List.length_append, List.length_cons] at ih ⊢; rw [ih]; simp [rnC]; omega
theorem icells_length (l : List Int) : (icells l).length = l.length := by simp [icells]
theorem scells_length (l : List (List UInt8)) : (scells l).length = l.length := by simp [scells]
theorem icells_append (a b : List Int) : icells (a ++ b) = icells a ++ icells b := by simp [icells]
theorem scells_append (a b : List (List UInt8)) : scells (a ++ b) = scells a ++ scells b := by simp [scells]
theorem icells_one (l : List Int) : ∀ u ∈ icells l, u.oneCell' = true := by
  intro u hu
  simp only [icells, List.mem_map] at hu
  obtain ⟨a, _, rfl⟩ := hu
  rfl
theorem scells_one (l : List (List UInt8)) : ∀ u ∈ scells l, u.oneCell' = true := by
  intro u hu
  simp only [scells, List.mem_map] at hu
  obtain ⟨a, _, rfl⟩ := hu
  rfl
theorem chcells_at (l : List Ch) (k : Nat) (hk : k < l.length) : (chcells l)[4 * k]? = some (.int .i64 l[k].A) ∧ (chcells l)[4 * k + 1]? = some (.int .i64 l[k].AN) ∧ (chcells l)[4 * k + 2]? = some (.int .i64 l[k].B) ∧ (chcells l)[4 * k + 3]? = some (.int .i64 l[k].BN) := by
  induction l generalizing k with
  | nil => simp at hk
  | cons c l ih =>
    cases k with
    | zero => simp [chcells, chC]
    | succ k =>
      have h := ih k (by simpa using hk)
      have e : ∀ i, (chcells (c :: l))[4 * (k + 1) + i]? = (chcells l)[4 * k + i]? := by
        intro i
        have : chcells (c :: l) = chC c ++ chcells l := rfl
        rw [this, List.getElem?_append_right (by simp [chC]; omega)]
        congr 1
        simp [chC]; omega
      simp only [List.getElem_cons_succ]
      refine ⟨by rw [← (h).1]; exact e 0, by rw [← h.2.1]; exact e 1, by rw [← h.2.2.1]; exact e 2, by rw [← h.2.2.2]; exact e 3⟩
theorem rncells_at (l : List Rn) (k : Nat) (hk : k < l.length) : (rncells l)[3 * k]? = some (.int .i64 l[k].a) ∧ (rncells l)[3 * k + 1]? = some (.int .i64 l[k].b) ∧ (rncells l)[3 * k + 2]? = some (.int .i64 l[k].n) := by
  induction l generalizing k with
  | nil => simp at hk
  | cons c l ih =>
    cases k with
    | zero => simp [rncells, rnC]
    | succ k =>
      have h := ih k (by simpa using hk)
      have e : ∀ i, (rncells (c :: l))[3 * (k + 1) + i]? = (rncells l)[3 * k + i]? := by
        intro i
        have : rncells (c :: l) = rnC c ++ rncells l := rfl
        rw [this, List.getElem?_append_right (by simp [rnC]; omega)]
        congr 1
        simp [rnC]; omega
      simp only [List.getElem_cons_succ]
      refine ⟨by rw [← (h).1]; exact e 0, by rw [← h.2.1]; exact e 1, by rw [← h.2.2]; exact e 2⟩

/-- a slice of changes -/
def HCh (w : World) (v : Value) (l : List Ch) : Prop := Holds w v l.length (chcells l)
def HRn (w : World) (v : Value) (l : List Rn) : Prop := Holds w v l.length (rncells l)
def HI (w : World) (v : Value) (l : List Int) : Prop := Holds w v l.length (icells l)
def HS (w : World) (v : Value) (l : List (List UInt8)) : Prop := Holds w v l.length (scells l)
theorem HCh.keep {w w' : World} {v : Value} {l : List Ch} (h : HCh w v l) {N : Nat} (hk : Below N w w') (hN : w.heap.size ≤ N) : HCh w' v l := Holds.keep h fun k hk' => hk.block k (by omega)
theorem HRn.keep {w w' : World} {v : Value} {l : List Rn} (h : HRn w v l) {N : Nat} (hk : Below N w w') (hN : w.heap.size ≤ N) : HRn w' v l := Holds.keep h fun k hk' => hk.block k (by omega)
theorem HI.keep {w w' : World} {v : Value} {l : List Int} (h : HI w v l) {N : Nat} (hk : Below N w w') (hN : w.heap.size ≤ N) : HI w' v l := Holds.keep h fun k hk' => hk.block k (by omega)
theorem HS.keep {w w' : World} {v : Value} {l : List (List UInt8)} (h : HS w v l) {N : Nat} (hk : Below N w w') (hN : w.heap.size ≤ N) : HS w' v l := Holds.keep h fun k hk' => hk.block k (by omega)

/-- the change at a place: where it lies -/
theorem HCh.at {w : World} {ao : Option Addr} {n c : Nat} {l : List Ch} (h : HCh w (.slice ao n c) l) (h0 : 0 < l.length) : ∃ b off, ao = some ⟨b, off, none⟩ ∧ b < w.heap.size ∧
    ∀ k (hk : k < l.length), w.cell? ⟨b, off + k * 4, none⟩ = some (.int .i64 l[k].A) ∧ w.cell? ⟨b, off + k * 4 + 1, none⟩ = some (.int .i64 l[k].AN) ∧ w.cell? ⟨b, off + k * 4 + 2, none⟩ = some (.int .i64 l[k].B) ∧ w.cell? ⟨b, off + k * 4 + 3, none⟩ = some (.int .i64 l[k].BN) := by
  obtain ⟨b, off, c', hv, hb, hc⟩ := Holds.at h (by rw [chcells_length]; omega)
  cases hv
  refine ⟨b, off, rfl, hb, fun k hk => ?_⟩
  obtain ⟨h0, h1, h2, h3⟩ := chcells_at l k hk
  have hlen := chcells_length l
  have e : k * 4 = 4 * k := by omega
  rw [e]
  refine ⟨?_, ?_, ?_, ?_⟩
  · have := hc (4 * k) (by omega)
    rw [← h0, this, List.getElem?_eq_getElem]
  · have := hc (4 * k + 1) (by omega)
    rw [← h1, Nat.add_assoc, this, List.getElem?_eq_getElem]
  · have := hc (4 * k + 2) (by omega)
    rw [← h2, Nat.add_assoc, this, List.getElem?_eq_getElem]
  · have := hc (4 * k + 3) (by omega)
    rw [← h3, Nat.add_assoc, this, List.getElem?_eq_getElem]
theorem HRn.at {w : World} {ao : Option Addr} {n c : Nat} {l : List Rn} (h : HRn w (.slice ao n c) l) (h0 : 0 < l.length) : ∃ b off, ao = some ⟨b, off, none⟩ ∧ b < w.heap.size ∧
    ∀ k (hk : k < l.length), w.cell? ⟨b, off + k * 3, none⟩ = some (.int .i64 l[k].a) ∧ w.cell? ⟨b, off + k * 3 + 1, none⟩ = some (.int .i64 l[k].b) ∧ w.cell? ⟨b, off + k * 3 + 2, none⟩ = some (.int .i64 l[k].n) := by
  obtain ⟨b, off, c', hv, hb, hc⟩ := Holds.at h (by rw [rncells_length]; omega)
  cases hv
  refine ⟨b, off, rfl, hb, fun k hk => ?_⟩
  obtain ⟨h0, h1, h2⟩ := rncells_at l k hk
  have hlen := rncells_length l
  have e : k * 3 = 3 * k := by omega
  rw [e]
  refine ⟨?_, ?_, ?_⟩
  · have := hc (3 * k) (by omega)
    rw [← h0, this, List.getElem?_eq_getElem]
  · have := hc (3 * k + 1) (by omega)
    rw [← h1, Nat.add_assoc, this, List.getElem?_eq_getElem]
  · have := hc (3 * k + 2) (by omega)
    rw [← h2, Nat.add_assoc, this, List.getElem?_eq_getElem]
theorem HI.at {w : World} {ao : Option Addr} {n c : Nat} {l : List Int} (h : HI w (.slice ao n c) l) (h0 : 0 < l.length) : ∃ b off, ao = some ⟨b, off, none⟩ ∧ b < w.heap.size ∧
    ∀ k (hk : k < l.length), w.cell? ⟨b, off + k, none⟩ = some (.int .i64 l[k]) := by
  obtain ⟨b, off, c', hv, hb, hc⟩ := Holds.at h (by rw [icells_length]; omega)
  cases hv
  exact ⟨b, off, rfl, hb, fun k hk => by rw [hc k (by rw [icells_length]; exact hk)]; simp [icells]⟩
theorem HS.at {w : World} {ao : Option Addr} {n c : Nat} {l : List (List UInt8)} (h : HS w (.slice ao n c) l) (h0 : 0 < l.length) : ∃ b off, ao = some ⟨b, off, none⟩ ∧ b < w.heap.size ∧
    ∀ k (hk : k < l.length), w.cell? ⟨b, off + k, none⟩ = some (.string ⟨l[k].toArray⟩) := by
  obtain ⟨b, off, c', hv, hb, hc⟩ := Holds.at h (by rw [scells_length]; omega)
  cases hv
  exact ⟨b, off, rfl, hb, fun k hk => by rw [hc k (by rw [scells_length]; exact hk)]; simp [scells]⟩
end Go.Proofs.YtgiojkhmkeocfaaGreatDoor

/- Edit scripts as lists: which are right, what they keep, how they are made, put together and gone back; plain mathematics. -/
set_option maxRecDepth 20000
namespace Go.Proofs.YtgiojkhmkeocfaaGreatDoor

/-- numbers that a right script may have -/
def nat31 (z : Int) : Bool := decide (0 ≤ z) && decide (z ≤ 2147483647)
/-- a change of which the numbers are right, and which changes something -/
def numB (c : Ch) : Bool := nat31 c.A && nat31 c.AN && nat31 c.B && nat31 c.BN && (decide (0 < c.AN) || decide (0 < c.BN))
theorem numB_iff (c : Ch) : numB c = true ↔ (0 ≤ c.A ∧ c.A ≤ 2147483647) ∧ (0 ≤ c.AN ∧ c.AN ≤ 2147483647) ∧ (0 ≤ c.B ∧ c.B ≤ 2147483647) ∧ (0 ≤ c.BN ∧ c.BN ≤ 2147483647) ∧ (0 < c.AN ∨ 0 < c.BN) := by
  simp [numB, nat31, and_assoc]

/-- the rest of a right script, behind the lines a and b; f: nothing stands ahead of it -/
def Right : Bool → Int → Int → Int → Int → List Ch → Prop
  | _, a, b, n, m, [] => a ≤ n ∧ b ≤ m ∧ n - a = m - b
  | f, a, b, n, m, c :: l => (numB c = true ∧ c.A - a = c.B - b ∧ a ≤ c.A ∧ (f = true ∨ a < c.A)) ∧ Right false (c.A + c.AN) (c.B + c.BN) n m l
def decRight : (f : Bool) → (a b n m : Int) → (l : List Ch) → Decidable (Right f a b n m l)
  | _, a, b, n, m, [] => inferInstanceAs (Decidable (a ≤ n ∧ b ≤ m ∧ n - a = m - b))
  | f, a, b, n, m, c :: l =>
    have _ := decRight false (c.A + c.AN) (c.B + c.BN) n m l
    inferInstanceAs (Decidable ((numB c = true ∧ c.A - a = c.B - b ∧ a ≤ c.A ∧ (f = true ∨ a < c.A)) ∧ Right false (c.A + c.AN) (c.B + c.BN) n m l))
theorem Right.le {f : Bool} {a b n m : Int} {l : List Ch} (h : Right f a b n m l) : a ≤ n ∧ b ≤ m ∧ n - a - (m - b) = n - a - (m - b) := by
  induction l generalizing f a b with
  | nil => exact ⟨h.1, h.2.1, rfl⟩
  | cons c l ih =>
    obtain ⟨⟨h1, h2, h3, h4⟩, h5⟩ := h
    rw [numB_iff] at h1
    have := ih h5
    refine ⟨by omega, by omega, rfl⟩
/-- a script is right from n to m lines -/
def Script (l : List Ch) (n m : Int) : Prop := 0 ≤ n ∧ 0 ≤ m ∧ Right true 0 0 n m l
def decScript (l : List Ch) (n m : Int) : Decidable (Script l n m) :=
  have _ := decRight true 0 0 n m l
  inferInstanceAs (Decidable (0 ≤ n ∧ 0 ≤ m ∧ Right true 0 0 n m l))
/-- Check's answer -/
def chk (l : List Ch) (n m : Int) : Int := @ite Int (Script l n m) (decScript l n m) 0 50
/-- a script, piece by piece: what is kept, and the change behind it -/
def piecesL : Int → Int → Int → Int → List Ch → List (Rn × Ch)
  | a, b, n, m, [] => [(⟨a, b, n - a⟩, ⟨n, 0, m, 0⟩)]
  | a, b, n, m, c :: l => (⟨a, b, c.A - a⟩, c) :: piecesL (c.A + c.AN) (c.B + c.BN) n m l
/-- a piece of a text -/
def cut (A : List (List UInt8)) (i n : Int) : List (List UInt8) := (A.drop i.toNat).take n.toNat
/-- what a piece of a script makes -/
def pa (A B : List (List UInt8)) (x : Rn × Ch) : List (List UInt8) := cut A x.1.a x.1.n ++ cut B x.2.B x.2.BN
end Go.Proofs.YtgiojkhmkeocfaaGreatDoor

/- Edit scripts and the pairs that they keep: plain mathematics. Units: runs of one line; a script is made again out of its units. -/
set_option maxRecDepth 20000
namespace Go.Proofs.YtgiojkhmkeocfaaGreatDoor

/-- k pairs from a and b on -/
def un (a b : Int) : Nat → List Rn
  | 0 => []
  | k + 1 => ⟨a, b, 1⟩ :: un (a + 1) (b + 1) k
/-- the pairs of a run -/
def ex (r : Rn) : List Rn := un r.a r.b r.n.toNat
def exs (rs : List Rn) : List Rn := rs.flatMap ex
theorem exs_cons (r : Rn) (rs : List Rn) : exs (r :: rs) = ex r ++ exs rs := rfl
theorem mem_un {a b : Int} {k : Nat} {r : Rn} : r ∈ un a b k ↔ r.n = 1 ∧ a ≤ r.a ∧ r.a < a + k ∧ r.b - r.a = b - a := by
  induction k generalizing a b with
  | zero => simp [un]; omega
  | succ k ih =>
    rw [un, List.mem_cons, ih]
    constructor
    · rintro (rfl | h)
      · simp; omega
      · omega
    · rintro ⟨h1, h2, h3, h4⟩
      by_cases h : r.a = a
      · left
        obtain ⟨x, y, z⟩ := r
        simp only at *
        subst h h1
        have : y = b := by omega
        rw [this]
      · right
        omega
theorem mem_ex {p r : Rn} : r ∈ ex p ↔ r.n = 1 ∧ p.a ≤ r.a ∧ r.a < p.a + p.n.toNat ∧ r.b - r.a = p.b - p.a := mem_un
/-- rising runs, from a and b on -/
def Chain : Int → Int → List Rn → Prop
  | _, _, [] => True
  | a, b, r :: rs => a ≤ r.a ∧ b ≤ r.b ∧ 0 ≤ r.n ∧ Chain (r.a + r.n) (r.b + r.n) rs
theorem Chain.low {a b : Int} {rs : List Rn} (h : Chain a b rs) : ∀ r ∈ exs rs, r.n = 1 ∧ a ≤ r.a ∧ b ≤ r.b := by
  induction rs generalizing a b with
  | nil => simp [exs]
  | cons p rs ih =>
    obtain ⟨h1, h2, h3, h4⟩ := h
    intro r hr
    rw [exs_cons, List.mem_append, mem_ex] at hr
    rcases hr with hr | hr
    · omega
    · have := ih h4 r hr
      omega
theorem Chain.mono {a b a' b' : Int} {rs : List Rn} (h : Chain a b rs) (ha : a' ≤ a) (hb : b' ≤ b) : Chain a' b' rs := by
  cases rs with
  | nil => trivial
  | cons p rs => exact ⟨by have := h.1; omega, by have := h.2.1; omega, h.2.2⟩
/-- pairs in a rising row -/
def Up (l : List Rn) : Prop := l.Pairwise fun p q => p.a < q.a ∧ p.b < q.b
theorem up_un (a b : Int) (k : Nat) : Up (un a b k) := by
  induction k generalizing a b with
  | zero => exact List.Pairwise.nil
  | succ k ih =>
    refine List.Pairwise.cons (fun r hr => ?_) (ih _ _)
    rw [mem_un] at hr
    dsimp only
    omega
theorem Chain.up {a b : Int} {rs : List Rn} (h : Chain a b rs) : Up (exs rs) := by
  induction rs generalizing a b with
  | nil => exact List.Pairwise.nil
  | cons p rs ih =>
    obtain ⟨h1, h2, h3, h4⟩ := h
    rw [exs_cons]
    refine List.pairwise_append.2 ⟨up_un _ _ _, ih h4, fun r hr q hq => ?_⟩
    rw [mem_ex] at hr
    have := h4.low q hq
    omega
/-- what a script keeps, as runs -/
def rns (a b n m : Int) (l : List Ch) : List Rn := (piecesL a b n m l).map (·.1)
/-- what a script keeps, pair by pair -/
def U (a b n m : Int) (l : List Ch) : List Rn := exs (rns a b n m l)
theorem U_nil (a b n m : Int) : U a b n m [] = un a b (n - a).toNat := by simp [U, rns, piecesL, exs, ex]
theorem U_cons (a b n m : Int) (c : Ch) (l : List Ch) : U a b n m (c :: l) = un a b (c.A - a).toNat ++ U (c.A + c.AN) (c.B + c.BN) n m l := by
  simp [U, rns, piecesL, exs, ex]
theorem Right.chain {f : Bool} {a b n m : Int} {l : List Ch} (h : Right f a b n m l) : Chain a b (rns a b n m l) := by
  induction l generalizing f a b with
  | nil =>
    obtain ⟨h1, h2, h3⟩ := h
    exact ⟨Int.le_refl _, Int.le_refl _, by dsimp only; omega, trivial⟩
  | cons c l ih =>
    obtain ⟨⟨h1, h2, h3, h4⟩, h5⟩ := h
    rw [numB_iff] at h1
    refine ⟨Int.le_refl _, Int.le_refl _, by dsimp only; omega, (ih h5).mono ?_ ?_⟩ <;> dsimp only <;> omega
theorem Right.up {f : Bool} {a b n m : Int} {l : List Ch} (h : Right f a b n m l) : Up (U a b n m l) := h.chain.up
/-- the first of what is left: a pair at hand, or the end -/
theorem Right.first {a b n m : Int} {l : List Ch} (h : Right false a b n m l) : ∃ e t, U a b n m l ++ [⟨n, m, 0⟩] = e :: t ∧ e.a = a ∧ e.b = b := by
  cases l with
  | nil =>
    obtain ⟨h1, h2, h3⟩ := h
    rw [U_nil]
    by_cases hn : n = a
    · subst hn
      exact ⟨⟨n, m, 0⟩, [], by simp [un], rfl, by dsimp only; omega⟩
    · obtain ⟨k, hk⟩ : ∃ k : Nat, (n - a).toNat = k + 1 := ⟨(n - a).toNat - 1, by omega⟩
      rw [hk, un]
      exact ⟨_, _, rfl, rfl, rfl⟩
  | cons c l =>
    obtain ⟨⟨h1, h2, h3, h4⟩, h5⟩ := h
    have hlt : a < c.A := by simpa using h4
    rw [U_cons]
    obtain ⟨k, hk⟩ : ∃ k : Nat, (c.A - a).toNat = k + 1 := ⟨(c.A - a).toNat - 1, by omega⟩
    rw [hk, un]
    exact ⟨_, _, rfl, rfl, rfl⟩
end Go.Proofs.YtgiojkhmkeocfaaGreatDoor

/- Edit scripts and the pairs that they keep, further: pairs that fit make a right script; what is kept as a list; two scripts one behind the other; going back. -/
set_option maxRecDepth 20000
namespace Go.Proofs.YtgiojkhmkeocfaaGreatDoor

/-- pairs in a rising row, from a and b on, below n and m -/
def Fit : Int → Int → Int → Int → List Rn → Prop
  | a, b, n, m, [] => a ≤ n ∧ b ≤ m
  | a, b, n, m, r :: P => a ≤ r.a ∧ b ≤ r.b ∧ r.n = 1 ∧ Fit (r.a + 1) (r.b + 1) n m P
theorem Fit.le {a b n m : Int} {P : List Rn} (h : Fit a b n m P) : a ≤ n ∧ b ≤ m := by
  induction P generalizing a b with
  | nil => exact h
  | cons r P ih => have := ih h.2.2.2; have h1 := h.1; have h2 := h.2.1; omega
theorem Right.bounds {f : Bool} {a b n m : Int} {l : List Ch} (h : Right f a b n m l) : ∀ r ∈ U a b n m l, r.n = 1 ∧ a ≤ r.a ∧ r.a < n ∧ b ≤ r.b ∧ r.b < m := by
  induction l generalizing f a b with
  | nil =>
    obtain ⟨h1, h2, h3⟩ := h
    intro r hr
    rw [U_nil, mem_un] at hr
    omega
  | cons c l ih =>
    obtain ⟨⟨h1, h2, h3, h4⟩, h5⟩ := h
    rw [numB_iff] at h1
    have hle := h5.le
    intro r hr
    rw [U_cons, List.mem_append, mem_un] at hr
    rcases hr with hr | hr
    · omega
    · have := ih h5 r hr
      omega

/-- in order of the first text -/
def UpA (l : List Rn) : Prop := l.Pairwise fun p q => p.a < q.a
theorem Up.a {l : List Rn} (h : Up l) : UpA l := h.imp fun h => h.1
/-- lists of what is kept that make a script: each number from nx on, below m, rising -/
def Vk : Int → Int → List Int → Prop
  | _, _, [] => True
  | nx, m, z :: t => (z = -1 ∧ Vk nx m t) ∨ (z ≠ -1 ∧ nx ≤ z ∧ z < m ∧ Vk (z + 1) m t)
theorem Vk.each {nx m : Int} {K : List Int} (h : Vk nx m K) (h0 : 0 ≤ nx) : ∀ z ∈ K, z = -1 ∨ 0 ≤ z := by
  induction K generalizing nx with
  | nil => simp
  | cons y t ih =>
    intro z hz
    rw [List.mem_cons] at hz
    rcases h with ⟨rfl, h⟩ | ⟨hy, h1, h2, h3⟩
    · rcases hz with rfl | hz
      · exact .inl rfl
      · exact ih h h0 z hz
    · rcases hz with rfl | hz
      · right; omega
      · exact ih h3 (by omega) z hz
end Go.Proofs.YtgiojkhmkeocfaaGreatDoor

/- Two scripts one behind the other: the pairs of both; associative, and one that keeps all adds nothing. -/
set_option maxRecDepth 20000
namespace Go.Proofs.YtgiojkhmkeocfaaGreatDoor

section
variable {x y : List Ch} {n m k : Int}
end
end Go.Proofs.YtgiojkhmkeocfaaGreatDoor

/- Going back, what a script costs, and what it reaches: plain mathematics. -/
set_option maxRecDepth 20000
namespace Go.Proofs.YtgiojkhmkeocfaaGreatDoor

end Go.Proofs.YtgiojkhmkeocfaaGreatDoor

/- Hunks as lists: which are right, their lines, how they are made and gone back, what script they are; plain mathematics. -/
set_option maxRecDepth 20000
namespace Go.Proofs.YtgiojkhmkeocfaaGreatDoor

/-- a line with its sign -/
structure Mk where
  sg : Int
  tx : List UInt8
/-- a hunk -/
structure Hk where
  A : Int
  AN : Int
  B : Int
  BN : Int
  ls : List Mk
/-- a sign of one of the three kinds: kept 32, taken out 45, put in 43 -/
def okS (s : Int) : Bool := decide (s = 32) || decide (s = 45) || decide (s = 43)
/-- the lines of a side: all but those of one sign -/
def pkL (no : Int) : List Mk → List (List UInt8)
  | [] => []
  | m :: l => if m.sg ≠ no ∧ okS m.sg = true then m.tx :: pkL no l else pkL no l
def oldL (h : Hk) : List (List UInt8) := pkL 43 h.ls
def newL (h : Hk) : List (List UInt8) := pkL 45 h.ls
theorem pkL_append (no : Int) (x y : List Mk) : pkL no (x ++ y) = pkL no x ++ pkL no y := by
  induction x with
  | nil => rfl
  | cons m x ih =>
    simp only [List.cons_append, pkL, ih]
    split <;> simp
theorem pkL_length (no : Int) (x : List Mk) : (pkL no x).length ≤ x.length := by
  induction x with
  | nil => simp [pkL]
  | cons m x ih =>
    simp only [pkL]
    split <;> simp <;> omega

/-- lines with a sign -/
def mks (s : Int) (x : List (List UInt8)) : List Mk := x.map fun t => ⟨s, t⟩
/-- a group's lines, from a place of the first text on up to another -/
def bodyH (a b : List (List UInt8)) (e : Int) : Int → List Ch → List Mk
  | p, [] => mks 32 (cut a p (e - p))
  | p, c :: g => mks 32 (cut a p (c.A - p)) ++ (mks 45 (cut a c.A c.AN) ++ (mks 43 (cut b c.B c.BN) ++ bodyH a b e (c.A + c.AN) g))
/-- a hunk's numbers: where it stands, and how many lines it has -/
def cntH (a b : Int) (ls : List Mk) : Hk := ⟨if 0 < (pkL 43 ls).length then a + 1 else a, (pkL 43 ls).length, if 0 < (pkL 45 ls).length then b + 1 else b, (pkL 45 ls).length, ls⟩
/-- where a group's lines end -/
def endH (n ctx : Int) : List Ch → Int
  | [] => 0
  | [c] => min n (c.A + c.AN + ctx)
  | _ :: d :: g => endH n ctx (d :: g)
/-- a group's hunk -/
def oneH (a b : List (List UInt8)) (ctx : Int) (g : List Ch) : Hk := match g with
  | [] => ⟨0, 0, 0, 0, []⟩
  | f :: g => cntH (f.A - min ctx f.A) (f.B - min ctx f.A) (bodyH a b (endH a.length ctx (f :: g)) (f.A - min ctx f.A) (f :: g))
/-- is a text a line? has it its line feed? -/
def linB (s : List UInt8) : Bool := !s.isEmpty && s.dropLast.all fun c => c != 10
def fdB (s : List UInt8) : Bool := s.getLast? == some 10
/-- no line with one of two signs -/
def lstB (sg : Int) (l : List Mk) : Bool := l.all fun m => decide (m.sg ≠ sg) && decide (m.sg ≠ 32)
/-- are all lines as they must be? -/
def fldB : List Mk → Bool
  | [] => true
  | m :: l => linB m.tx && okS m.sg && (fdB m.tx || ((decide (m.sg = 43) || lstB 45 l) && (decide (m.sg = 45) || lstB 43 l))) && fldB l
def rngB (h : Hk) : Bool := nat31 h.A && nat31 h.AN && nat31 h.B && nat31 h.BN && !(decide (h.A = 0) && decide (0 < h.AN)) && !(decide (h.B = 0) && decide (0 < h.BN))
/-- Check's answer -/
def chkH (h : Hk) : Int := if rngB h = false then 2 else if fldB h.ls = false then 6 else if h.AN ≠ (oldL h).length ∨ h.BN ≠ (newL h).length then 120 else if h.ls.all (fun m => decide (m.sg = 32)) = true then 50 else 0
/-- a hunk's lines gone back; x: lines that are put in now, and wait -/
def invG : List Mk → List Mk → List Mk
  | x, [] => x
  | x, m :: l => if m.sg = 43 then ⟨45, m.tx⟩ :: invG x l else if m.sg = 45 then invG (x ++ [⟨43, m.tx⟩]) l else x ++ m :: invG [] l
end Go.Proofs.YtgiojkhmkeocfaaGreatDoor

/- Hunks gone back: whose lines are whose, going back twice; when lines are as they must be; plain mathematics. -/
set_option maxRecDepth 20000
namespace Go.Proofs.YtgiojkhmkeocfaaGreatDoor

theorem pick_mks_in (no s : Int) (hs : no ≠ s) (ho : okS s = true) (x : List (List UInt8)) : pkL no (mks s x) = x := by
  induction x with
  | nil => rfl
  | cons t x ih =>
    show pkL no (⟨s, t⟩ :: mks s x) = _
    simp only [pkL, ih]
    rw [if_pos ⟨by omega, ho⟩]
theorem pick_mks_out (s : Int) (x : List (List UInt8)) : pkL s (mks s x) = [] := by
  induction x with
  | nil => rfl
  | cons t x ih =>
    show pkL s (⟨s, t⟩ :: mks s x) = _
    simp only [pkL, ih]
    simp
/-- all of one sign -/
def AllS (s : Int) (x : List Mk) : Prop := ∀ m ∈ x, m.sg = s
theorem AllS.nil (s : Int) : AllS s [] := fun _ h => by cases h
theorem AllS.snoc {s : Int} {x : List Mk} (h : AllS s x) (t : List UInt8) : AllS s (x ++ [⟨s, t⟩]) := by
  intro m hm
  simp at hm
  rcases hm with hm | rfl
  · exact h m hm
  · rfl
theorem pick_out {s : Int} {x : List Mk} (h : AllS s x) : pkL s x = [] := by
  induction x with
  | nil => rfl
  | cons m x ih =>
    simp only [pkL]
    rw [if_neg (by simp [h m (by simp)])]
    exact ih fun q hq => h q (by simp [hq])

/-- the old lines of a hunk that goes back are the new ones -/
theorem inv_old (l : List Mk) : ∀ x, AllS 43 x → pkL 43 (invG x l) = pkL 45 l := by
  induction l with
  | nil => intro x hx; simp only [invG, pkL]; exact pick_out hx
  | cons m l ih =>
    intro x hx
    simp only [invG]
    by_cases h1 : m.sg = 43
    · rw [if_pos h1]
      simp only [pkL, ih x hx]
      rw [if_pos ⟨by decide, by decide⟩, if_pos ⟨by omega, by rw [h1]; decide⟩]
    · rw [if_neg h1]
      by_cases h2 : m.sg = 45
      · rw [if_pos h2, ih _ (hx.snoc _)]
        simp only [pkL]
        rw [if_neg (by simp [h2])]
      · rw [if_neg h2, pkL_append, pick_out hx]
        simp only [pkL, ih [] (AllS.nil _), List.nil_append]
        by_cases ho : okS m.sg = true
        · rw [if_pos ⟨h1, ho⟩, if_pos ⟨h2, ho⟩]
        · rw [if_neg (fun h => ho h.2), if_neg (fun h => ho h.2)]
/-- in each piece the lines that are taken out stand first; s: one that is put in stands ahead -/
def Nf : Bool → List Mk → Prop
  | _, [] => True
  | s, m :: l => if m.sg = 45 then s = false ∧ Nf false l else if m.sg = 43 then Nf true l else Nf false l
theorem nf_added {x : List Mk} (hx : AllS 43 x) (t : List Mk) (ht : ∀ s, Nf s t) : ∀ s, Nf s (x ++ t) := by
  induction x with
  | nil => exact ht
  | cons m x ih =>
    intro s
    have hm := hx m (by simp)
    simp only [List.cons_append, Nf]
    rw [if_neg (by omega), if_pos hm]
    exact ih (fun q hq => hx q (by simp [hq])) _
/-- all but the last have their line feed -/
def abl : List (List UInt8) → Bool
  | [] => true
  | t :: r => (r.isEmpty || fdB t) && abl r
theorem lst_pick {no s : Int} (hn : no = 43 ∧ s = 45 ∨ no = 45 ∧ s = 43) {l : List Mk} (h : ∀ m ∈ l, okS m.sg = true) : lstB s l = (pkL no l).isEmpty := by
  induction l with
  | nil => rfl
  | cons m l ih =>
    have hm := h m (by simp)
    have hi := ih fun q hq => h q (by simp [hq])
    simp only [lstB, List.all_cons, pkL] at hi ⊢
    rw [hi]
    have hcase : m.sg = 32 ∨ m.sg = 45 ∨ m.sg = 43 := by simp [okS] at hm; omega
    by_cases hno : m.sg = no
    · rw [if_neg (fun q => q.1 hno)]
      have e1 : decide (m.sg ≠ s) = true := decide_eq_true (by omega)
      have e2 : decide (m.sg ≠ 32) = true := decide_eq_true (by omega)
      rw [e1, e2]
      simp
    · rw [if_pos ⟨hno, hm⟩]
      have e : (decide (m.sg ≠ s) && decide (m.sg ≠ 32)) = false := by simp; omega
      rw [e]
      simp
/-- lines are as they must be -/
theorem fld_iff (l : List Mk) : fldB l = true ↔ (∀ m ∈ l, linB m.tx = true ∧ okS m.sg = true) ∧ abl (pkL 43 l) = true ∧ abl (pkL 45 l) = true := by
  induction l with
  | nil => simp [fldB, pkL, abl]
  | cons m l ih =>
    simp only [fldB, Bool.and_eq_true, ih]
    constructor
    · rintro ⟨⟨⟨h1, h2⟩, h3⟩, h4, h5, h6⟩
      have hok : ∀ q ∈ l, okS q.sg = true := fun q hq => (h4 q hq).2
      rw [lst_pick (no := 43) (by omega) hok, lst_pick (no := 45) (by omega) hok] at h3
      refine ⟨?_, ?_, ?_⟩
      · intro q hq
        simp at hq
        rcases hq with rfl | hq
        · exact ⟨h1, h2⟩
        · exact h4 q hq
      · simp only [pkL]
        by_cases hs : m.sg = 43
        · rw [if_neg (fun q => q.1 hs)]
          exact h5
        · rw [if_pos ⟨hs, h2⟩]
          simp only [abl, h5, Bool.and_true]
          simp [hs] at h3
          rcases h3 with h3 | h3
          · simp [h3]
          · simp [h3.1]
      · simp only [pkL]
        by_cases hs : m.sg = 45
        · rw [if_neg (fun q => q.1 hs)]
          exact h6
        · rw [if_pos ⟨hs, h2⟩]
          simp only [abl, h6, Bool.and_true]
          simp [hs] at h3
          rcases h3 with h3 | h3
          · simp [h3]
          · simp [h3.2]
    · rintro ⟨h1, h2, h3⟩
      have hm := h1 m (by simp)
      have h4 : ∀ q ∈ l, linB q.tx = true ∧ okS q.sg = true := fun q hq => h1 q (by simp [hq])
      have hok : ∀ q ∈ l, okS q.sg = true := fun q hq => (h4 q hq).2
      rw [lst_pick (no := 43) (by omega) hok, lst_pick (no := 45) (by omega) hok]
      simp only [pkL] at h2 h3
      refine ⟨⟨hm, ?_⟩, h4, ?_, ?_⟩
      · by_cases hs : m.sg = 43
        · rw [if_pos ⟨by omega, hm.2⟩] at h3
          simp only [abl, Bool.and_eq_true, Bool.or_eq_true] at h3
          rcases h3.1 with q | q
          · simp [hs, q]
          · simp [q]
        · rw [if_pos ⟨hs, hm.2⟩] at h2
          simp only [abl, Bool.and_eq_true, Bool.or_eq_true] at h2
          by_cases hr : m.sg = 45
          · rcases h2.1 with q | q
            · simp [hr, q]
            · simp [q]
          · rw [if_pos ⟨hr, hm.2⟩] at h3
            simp only [abl, Bool.and_eq_true, Bool.or_eq_true] at h3
            rcases h2.1 with q | q
            · rcases h3.1 with q' | q'
              · simp [q, q']
              · simp [q']
            · simp [q]
      · by_cases hs : m.sg = 43
        · rw [if_neg (fun q => q.1 hs)] at h2
          exact h2
        · rw [if_pos ⟨hs, hm.2⟩] at h2
          simp only [abl, Bool.and_eq_true] at h2
          exact h2.2
      · by_cases hs : m.sg = 45
        · rw [if_neg (fun q => q.1 hs)] at h3
          exact h3
        · rw [if_pos ⟨hs, hm.2⟩] at h3
          simp only [abl, Bool.and_eq_true] at h3
          exact h3.2
end Go.Proofs.YtgiojkhmkeocfaaGreatDoor

/- Hunks that are made of two texts: where they stand, their old and new lines, that they are in order and are the script again; plain mathematics. -/
set_option maxRecDepth 20000
namespace Go.Proofs.YtgiojkhmkeocfaaGreatDoor

/-- where a group ends in both texts -/
def endA : Int → List Ch → Int
  | p, [] => p
  | _, c :: g => endA (c.A + c.AN) g
def endB : Int → List Ch → Int
  | q, [] => q
  | _, c :: g => endB (c.B + c.BN) g
/-- what a group's hunk is, from where it stands on: s, t its places, e its end -/
structure OneF (a b : List (List UInt8)) (ctx : Int) (g : List Ch) (s t e : Int) : Prop where
  s0 : 0 ≤ s
  t0 : 0 ≤ t
  en : e ≤ a.length
  em : endB 0 g + (e - endA 0 g) ≤ b.length
  le : endA 0 g ≤ e
  se : s ≤ e
  AN : (oneH a b ctx g).AN = e - s
  BN : (oneH a b ctx g).BN = endB 0 g + (e - endA 0 g) - t
  A : (oneH a b ctx g).A = if 0 < e - s then s + 1 else s
  B : (oneH a b ctx g).B = if 0 < endB 0 g + (e - endA 0 g) - t then t + 1 else t
  old : oldL (oneH a b ctx g) = cut a s (e - s)
  ls : (oneH a b ctx g).ls = bodyH a b e s g
end Go.Proofs.YtgiojkhmkeocfaaGreatDoor

/- Hunks that are made of two texts, further: in order, right, the script again, their kinds of lines; plain mathematics. -/
set_option maxRecDepth 20000
namespace Go.Proofs.YtgiojkhmkeocfaaGreatDoor

end Go.Proofs.YtgiojkhmkeocfaaGreatDoor

/- Each group of a right script, and its hunk; how many lines it has; plain mathematics. -/
set_option maxRecDepth 20000
namespace Go.Proofs.YtgiojkhmkeocfaaGreatDoor

end Go.Proofs.YtgiojkhmkeocfaaGreatDoor

/- What the statements on hunks of two texts ask, in plain terms. -/
set_option maxRecDepth 20000
namespace Go.Proofs.YtgiojkhmkeocfaaGreatDoor

end Go.Proofs.YtgiojkhmkeocfaaGreatDoor

/- Which lists of changes are edit scripts: the code's Check, walked. -/
set_option maxRecDepth 20000
namespace Go.Proofs.YtgiojkhmkeocfaaGreatDoor
open Go.RowKit

theorem ret_bool {a b : Bool} (h : a = b) : Ending.returned (.bool a) = .returned (.bool b) := by rw [h]
theorem ret_int {k : IntKind} {a b : Int} (h : a = b) : Ending.returned (.int k a) = .returned (.int k b) := by rw [h]
end Go.Proofs.YtgiojkhmkeocfaaGreatDoor

/- The iterator over a script's pieces: its contract for every loop body that keeps what it reads. -/
set_option maxRecDepth 20000
namespace Go.Proofs.YtgiojkhmkeocfaaGreatDoor
open Go.RowKit Go.Shelf
attribute [local go_sem] Oper.semAt_some

/-- what a round keeps: all below n₀, the iterator's three boxes from lo on, every block of a change -/
structure Kp (n₀ lo : Nat) (W W' : World) : Prop where
  low : Below n₀ W W'
  box : ∀ k, lo ≤ k → k < lo + 3 → W'.heap[k]? = W.heap[k]?
  chg : ∀ (k : Nat) (cs : Array Value), W.heap[k]? = some (Obj.cells cs 64 (0, 0)) → W'.heap[k]? = some (Obj.cells cs 64 (0, 0))
section
variable {n₀ lo : Nat} {A B C : World}
theorem Kp.refl (W : World) : Kp n₀ lo W W := ⟨Below.refl _ _, fun _ _ _ => rfl, fun _ _ h => h⟩
theorem Kp.trans (h : Kp n₀ lo A B) (k : Kp n₀ lo B C) : Kp n₀ lo A C := ⟨h.low.trans k.low, fun j h1 h2 => (k.box j h1 h2).trans (h.box j h1 h2), fun j cs hj => k.chg j cs (h.chg j cs hj)⟩
theorem Kp.alloc {W : World} (hn : n₀ ≤ W.heap.size) (hl : lo + 3 ≤ W.heap.size) (o : Obj) : Kp n₀ lo W (W.alloc o) :=
  ⟨(Below.refl _ W).alloc hn o, fun k _ hk => Below.heap_alloc W o k (by omega), fun k cs hk => (Below.heap_alloc W o k (Array.getElem?_eq_some_iff.1 hk).1).trans hk⟩
theorem Kp.drewN (W : World) (k : Nat) : Kp n₀ lo W (W.drewN k) := ⟨Below.dN (Below.refl _ W) k, fun _ _ _ => rfl, fun _ _ h => h⟩
end

theorem HCh.lt {w : World} {ao : Option Addr} {n c : Nat} {l : List Ch} (h : HCh w (.slice ao n c) l) (a : Addr) (ha : ao = some a) (h0 : 0 < l.length) : a.block < w.heap.size := by
  obtain ⟨b, off, hb, hlt, _⟩ := HCh.at h h0
  rw [ha] at hb
  cases hb
  exact hlt

end Go.Proofs.YtgiojkhmkeocfaaGreatDoor

/- A row of the caller's own, in a box, within a range over the iterator. -/
set_option maxRecDepth 20000
namespace Go.Proofs.YtgiojkhmkeocfaaGreatDoor
open Go.RowKit Go.Shelf
attribute [local go_sem] Oper.semAt_some

theorem new_holds (W : World) (cs : Array Value) (e : TypeId) (k c : Nat) (hkc : k ≤ c) : Holds (W.alloc (.cells cs e)) (.slice (some ⟨W.heap.size, 0, none⟩) k c) k cs.toList := by
  refine .inr ⟨_, _, rfl, hkc, fun j u hj => ?_⟩
  rw [add_none, Lib.cell_of_heap (_root_.Go.heap_alloc_new W _)]
  simpa using hj
/-- a row of the caller's own, in a box of his; the row lies apart from the iterator's boxes -/
structure OwnR (n₀ lo B : Nat) (t e : TypeId) (s : Nat) (v : Value) (k : Nat) (xs : List Value) (W : World) : Prop where
  box : Boxed W B t v
  row : W.ownsRow n₀ e s v k xs
  far : ∀ g, v.ownBlock = some g → g < lo ∨ lo + 3 ≤ g
section
variable {n₀ lo B : Nat} {t e : TypeId} {s : Nat} {v : Value} {k : Nat} {xs : List Value} {W : World}
theorem OwnR.alloc (h : OwnR n₀ lo B t e s v k xs W) (o : Obj) : OwnR n₀ lo B t e s v k xs (W.alloc o) := ⟨h.box.alloc o, h.row.alloc o, h.far⟩
end
end Go.Proofs.YtgiojkhmkeocfaaGreatDoor

/- What a script keeps: the code's Keep, walked. -/
set_option maxRecDepth 20000
namespace Go.Proofs.YtgiojkhmkeocfaaGreatDoor
open Go.RowKit Go.Shelf
attribute [local go_sem] Oper.semAt_some


end Go.Proofs.YtgiojkhmkeocfaaGreatDoor

/- Laws for the plain walk: append onto an owned row of elements of whatever width, as a step of the walk and of a region that draws; Same of numbers, of changes. -/
set_option maxRecDepth 20000
namespace Go.Proofs.YtgiojkhmkeocfaaGreatDoor
open Go.RowKit

theorem run_append_h (w : World) (T E ty : TypeId) (z : Value) (size bytes : Nat) (hT : Tryz.prog.underlying T = some (.slice E)) (hinfo : (Tryz.prog.info? E).map (fun i => (i.zero, i.size, i.bytes)) = some (some z, size, bytes)) (hz1 : z.cells.size = size) (hsz : 0 < size) (hby : bytes ≤ 32)
    (base : Nat) (v : Value) (k : Nat) (xs : List Value) (hown : w.ownsRow base E size v k xs) (vx : Value) (m : Nat) (news : List Value) (hh : Holds w vx m news) (hl : news.length = m * size)
    (h1 : ∀ u ∈ news, u.oneCell' = true) (hk : k + m ≤ 4398046511104) (hbase : base ≤ w.heap.size) :
    ∃ v' w', (Builtin.append_ #[T, T] ty #[v, vx]).run Tryz.prog w = .ok v' w' ∧ w'.ownsRow base E size v' (k + m) (xs ++ news) ∧ w.grownBy w' v.ownBlock ∧ (v'.ownBlock = v.ownBlock ∨ v'.ownBlock = some w.heap.size) := by
  obtain ⟨i0, hi0, hz0, hzs, hz2⟩ := info_parts hinfo
  rcases hh with ⟨rfl, rfl, rfl⟩ | ⟨ad, c, rfl, _, hc⟩
  · exact ⟨v, w, run_append_owned_none (P := Tryz.prog) (w := w) base T ty E i0 size hT hi0 v k xs hown, by simpa using hown, World.grownBy.refl _ _, .inl rfl⟩
  · obtain ⟨v', w', hr, h2, h3, _, h5⟩ := run_append_own_at (P := Tryz.prog) w base T ty E i0 z size bytes hT hi0 hz0 hzs hz2 hz1 hsz v k xs hown ad m c news hl hc h1 (by unfold maxLen; omega) (by
      have : (k + m) * bytes ≤ (k + m) * 32 := Nat.mul_le_mul_left _ hby
      omega) hbase
    exact ⟨v', w', hr, h2, h3, h5⟩

theorem wpList_append_h {ops : Array Oper} {rest : List Oper} {o : Oper} {a : Act} {Q : Exit → Act → World → Prop} (w : World) (hw : Region.wanted o (yielded ops a.tmps) = true) (s x : Operand) (T E : TypeId) (z : Value) (size bytes : Nat)
    (ho : o.op = .call { callee := .builtin .append, args := #[s, x], argTypes := #[T, T] }) (hT : Tryz.prog.underlying T = some (.slice E)) (hinfo : (Tryz.prog.info? E).map (fun i => (i.zero, i.size, i.bytes)) = some (some z, size, bytes)) (hz1 : z.cells.size = size) (hsz : 0 < size) (hby : bytes ≤ 32)
    (base : Nat) (v : Value) (k : Nat) (xs : List Value) (hs : a.eval s = v) (hown : w.ownsRow base E size v k xs) (vx : Value) (m : Nat) (news : List Value) (hx : a.eval x = vx) (hh : Holds w vx m news) (hl : news.length = m * size)
    (h1 : ∀ u ∈ news, u.oneCell' = true) (hk : k + m ≤ 4398046511104) (hbase : base ≤ w.heap.size)
    (h : ∀ v' w', w'.ownsRow base E size v' (k + m) (xs ++ news) → w.grownBy w' v.ownBlock → wpList Tryz.prog ops Q rest (a.put o.dst v') w') : wpList Tryz.prog ops Q (o :: rest) a w := by
  refine wpList_step fun K hK => ?_
  rw [if_pos hw]
  obtain ⟨v', w', hr, h2, h3, _⟩ := run_append_h w T E o.type z size bytes hT hinfo hz1 hsz hby base v k xs hown vx m news hh hl h1 hk hbase
  unfold Oper.wp
  simp [execOp, ho, resolve, invoke, builtin, hs, hx, hr, Result.andThen]
  exact hK _ _ (h v' w' h2 h3)

theorem step_append_h {ops : Array Oper} {o : Oper} {a : Act} {K : Act → World → Prop} {Q : Exit → Act → World → Prop} {X : Prop} (w : World) (hgd : o.guard = none) (s x : Operand) (T E : TypeId) (z : Value) (size bytes : Nat)
    (ho : o.op = .call { callee := .builtin .append, args := #[s, x], argTypes := #[T, T] }) (hT : Tryz.prog.underlying T = some (.slice E)) (hinfo : (Tryz.prog.info? E).map (fun i => (i.zero, i.size, i.bytes)) = some (some z, size, bytes)) (hz1 : z.cells.size = size) (hsz : 0 < size) (hby : bytes ≤ 32)
    (base : Nat) (v : Value) (k : Nat) (xs : List Value) (hs : a.eval s = v) (hown : w.ownsRow base E size v k xs) (vx : Value) (m : Nat) (news : List Value) (hx : a.eval x = vx) (hh : Holds w vx m news) (hl : news.length = m * size)
    (h1 : ∀ u ∈ news, u.oneCell' = true) (hk : k + m ≤ 4398046511104) (hbase : base ≤ w.heap.size)
    (h : ∀ v' w', w'.ownsRow base E size v' (k + m) (xs ++ news) → w.grownBy w' v.ownBlock → K (a.put o.dst v') w') :
    if Region.wanted o (yielded ops a.tmps) = true then Oper.wp Tryz.prog o a w K Q else X := by
  have hw : Region.wanted o (yielded ops a.tmps) = true := by simp [Region.wanted, hgd]
  rw [if_pos hw]
  obtain ⟨v', w', hr, h2, h3, _⟩ := run_append_h w T E o.type z size bytes hT hinfo hz1 hsz hby base v k xs hown vx m news hh hl h1 hk hbase
  unfold Oper.wp
  simp [execOp, ho, resolve, invoke, builtin, hs, hx, hr, Result.andThen]
  exact h v' w' h2 h3

theorem owns_keep {w w' : World} {base : Nat} {e : TypeId} {s : Nat} {v : Value} {n : Nat} {xs : List Value} (h : w.ownsRow base e s v n xs) (hk : Below w.heap.size w w') : w'.ownsRow base e s v n xs := by
  refine ⟨h.1, ?_⟩
  rcases h.2 with h1 | ⟨g, cap, cur, q1, q2, q3, q4⟩
  · exact .inl h1
  · exact .inr ⟨g, cap, cur, q1, q2, (hk.block g (Array.getElem?_eq_some_iff.1 q3).1).trans q3, q4⟩
theorem owns_ge {w : World} {base : Nat} {e : TypeId} {s : Nat} {v : Value} {n : Nat} {xs : List Value} (h : w.ownsRow base e s v n xs) {j : Nat} (hj : v.ownBlock = some j) : base ≤ j := by
  rcases h.2 with ⟨rfl, _⟩ | ⟨g, cap, cur, rfl, hb, _⟩
  · cases hj
  · simp [Value.ownBlock] at hj; omega

/-- all ahead of a call as it was -/
def Low (W w : World) : Prop := Below W.heap.size W w
theorem low_drew (W w : World) : Low W w.drew ↔ Low W w := ⟨fun h => ⟨h.os, h.tape, h.output, h.size, h.block⟩, fun h => Below.dN h 1⟩
/-- a row of one's own, and all ahead of a call as it was -/
structure St (W : World) (e : TypeId) (s : Nat) (v : Value) (k : Nat) (xs : List Value) (w : World) : Prop where
  own : w.ownsRow W.heap.size e s v k xs
  low : Below W.heap.size W w
theorem st_alloc {W : World} {e : TypeId} {s : Nat} {v : Value} {k : Nat} {xs : List Value} {w : World} (o : Obj) (h : St W e s v k xs w) : St W e s v k xs (w.alloc o) := ⟨h.own.alloc o, h.low.alloc h.low.size o⟩
theorem St.grown {W : World} {e : TypeId} {s : Nat} {v v' : Value} {k k' : Nat} {xs xs' : List Value} {w w' : World} (h : St W e s v k xs w) (ho : w'.ownsRow W.heap.size e s v' k' xs') (hg : w.grownBy w' v.ownBlock) : St W e s v' k' xs' w' :=
  ⟨ho, h.low.grown hg h.low.size (fun _ hj => owns_ge h.own hj)⟩

end Go.Proofs.YtgiojkhmkeocfaaGreatDoor

/- A row of numbers of one's own, at a known block: what is kept. -/
set_option maxRecDepth 20000
namespace Go.Proofs.YtgiojkhmkeocfaaGreatDoor
open Go.RowKit

/-- the state of the walk -/
structure Ls (w : World) (g n : Nat) (Z : List Int) (u : World) : Prop where
  low : Below w.heap.size w u
  own : u.ownsRow w.heap.size 3 1 (.slice (some ⟨g, 0, none⟩) n n) n (icells Z)
theorem Ls.drewN {w u : World} {g n : Nat} {Z : List Int} (h : Ls w g n Z u) (k : Nat) : Ls w g n Z (u.drewN k) := ⟨Below.dN h.low k, h.own⟩
theorem Ls.keep {w u u' : World} {g n : Nat} {Z : List Int} (h : Ls w g n Z u) (hb : Below u.heap.size u u') : Ls w g n Z u' := ⟨h.low.trans (hb.mono h.low.size), owns_keep h.own hb⟩
theorem Ls.set {w u : World} {g n : Nat} {Z : List Int} (h : Ls w g n Z u) (k : Nat) (m : Int) : Ls w g n (Z.set k m) (u.setCell ⟨g, k, none⟩ (.int .i64 m)) := by
  obtain ⟨p1, g1⟩ := h.own.stored k (.int .i64 m)
  have e : (icells Z).set k (.int .i64 m) = icells (Z.set k m) := by simp [icells, List.map_set]
  rw [e] at p1
  exact ⟨h.low.grown g1 h.low.size (fun j hj => owns_ge h.own (by simpa [Value.ownBlock] using hj)), p1⟩
theorem Ls.len {w u : World} {g n : Nat} {Z : List Int} (h : Ls w g n Z u) : Z.length = n := by
  have := h.own.1
  rw [icells_length, Nat.mul_one] at this
  exact this
theorem Ls.at {w u : World} {g n : Nat} {Z : List Int} (h : Ls w g n Z u) {k : Nat} {z : Int} (hz : Z[k]? = some z) : u.cell? ⟨g, k, none⟩ = some (.int .i64 z) := by
  have hl := (List.getElem?_eq_some_iff.1 hz).1
  rw [h.len] at hl
  rw [h.own.cellAt k (by omega)]
  simp [icells, hz]
theorem low_grown {w u : World} (h : Low w u) (r : Option Nat) : w.grownBy u r := ⟨Below.os h, Below.tape h, Below.output h, Below.size h, fun k hk _ => Below.block h k hk⟩
theorem grown_set (u : World) (g j : Nat) (v : Value) : u.grownBy (u.setCell ⟨g, j, none⟩ v) (some g) := ⟨rfl, rfl, rfl, (KeepsWalks.setCell u _ v).size, fun k _ hk => Below.heap_setCell _ _ _ k (fun e => hk (by rw [e]))⟩
theorem grown_new {w u : World} {r : Option Nat} (h : w.grownBy u r) {B : Nat} (hB : w.heap.size ≤ B) (j : Nat) (v : Value) : w.grownBy (u.setCell ⟨B, j, none⟩ v) r :=
  ⟨h.os, h.tape, h.output, Nat.le_trans h.size (grown_set u B j v).size, fun k hk hn => (heap_setCell_other u _ k _ (fun e => by simp at e; omega)).trans (h.block k hk hn)⟩
theorem grown_drewN {w u : World} {r : Option Nat} (h : w.grownBy u r) (k : Nat) : w.grownBy (u.drewN k) r := ⟨h.os, h.tape, h.output, h.size, h.block⟩
end Go.Proofs.YtgiojkhmkeocfaaGreatDoor

/- Worlds behind a draw: new rows and what is carried. -/
set_option maxRecDepth 20000
namespace Go.Proofs.YtgiojkhmkeocfaaGreatDoor
open Go.RowKit
attribute [local simp] low_drew

theorem alloc_second (w : World) (o o2 : Obj) : ((w.alloc o).alloc o2).heap[w.heap.size + 1]? = some o2 := by
  have h := _root_.Go.heap_alloc_new (w.alloc o) o2
  rw [World.size_alloc] at h
  exact h
end Go.Proofs.YtgiojkhmkeocfaaGreatDoor

/- Lines with signs and hunks as cells: what slices of them hold; hunks in a box; append onto an owned row of hunks. -/
set_option maxRecDepth 20000
namespace Go.Proofs.YtgiojkhmkeocfaaGreatDoor
open Go.RowKit

def mkC (m : Mk) : List Value := [.int .u8 m.sg, .string ⟨m.tx.toArray⟩]
def mkcells (l : List Mk) : List Value := l.flatMap mkC
theorem infoMk : (Tryz.prog.info? 103).map (fun i => (i.zero, i.size, i.bytes)) = some (some (.agg #[.int .u8 0, .string ⟨#[]⟩]), 2, 24) := by kernel_rfl
theorem infoHk : (Tryz.prog.info? 59).map (fun i => (i.zero, i.size, i.bytes)) = some (some (.agg #[.int .i64 0, .int .i64 0, .int .i64 0, .int .i64 0, .slice none 0 0]), 5, 56) := by kernel_rfl
theorem mkcells_length (l : List Mk) : (mkcells l).length = l.length * 2 := by
  induction l with
  | nil => rfl
  | cons c l ih => simp only [mkcells, List.flatMap_cons, List.length_append, List.length_cons] at ih ⊢; rw [ih]; simp [mkC]; omega
theorem mkcells_append (a b : List Mk) : mkcells (a ++ b) = mkcells a ++ mkcells b := by simp [mkcells]
theorem mkcells_one (l : List Mk) : ∀ u ∈ mkcells l, u.oneCell' = true := by
  intro u hu
  simp only [mkcells, List.mem_flatMap, mkC] at hu
  obtain ⟨c, _, h⟩ := hu
  simp only [List.mem_cons, List.not_mem_nil, or_false] at h
  rcases h with rfl | rfl <;> rfl
theorem mkcells_at (l : List Mk) (k : Nat) (hk : k < l.length) : (mkcells l)[2 * k]? = some (.int .u8 l[k].sg) ∧ (mkcells l)[2 * k + 1]? = some (.string ⟨l[k].tx.toArray⟩) := by
  induction l generalizing k with
  | nil => simp at hk
  | cons c l ih =>
    cases k with
    | zero => simp [mkcells, mkC]
    | succ k =>
      have h := ih k (by simpa using hk)
      have e : ∀ i, (mkcells (c :: l))[2 * (k + 1) + i]? = (mkcells l)[2 * k + i]? := by
        intro i
        have : mkcells (c :: l) = mkC c ++ mkcells l := rfl
        rw [this, List.getElem?_append_right (by simp [mkC]; omega)]
        congr 1
        simp [mkC]; omega
      simp only [List.getElem_cons_succ]
      refine ⟨by rw [← (h).1]; exact e 0, by rw [← h.2]; exact e 1⟩
/-- a slice of lines with signs -/
def HMk (w : World) (v : Value) (l : List Mk) : Prop := Holds w v l.length (mkcells l)
theorem HMk.keep {w w' : World} {v : Value} {l : List Mk} (h : HMk w v l) {N : Nat} (hk : Below N w w') (hN : w.heap.size ≤ N) : HMk w' v l := Holds.keep h fun k hk' => hk.block k (by omega)
theorem HMk.at {w : World} {ao : Option Addr} {n c : Nat} {l : List Mk} (h : HMk w (.slice ao n c) l) (h0 : 0 < l.length) : ∃ b off, ao = some ⟨b, off, none⟩ ∧ b < w.heap.size ∧
    ∀ k (hk : k < l.length), w.cell? ⟨b, off + k * 2, none⟩ = some (.int .u8 l[k].sg) ∧ w.cell? ⟨b, off + k * 2 + 1, none⟩ = some (.string ⟨l[k].tx.toArray⟩) := by
  obtain ⟨b, off, c', hv, hb, hc⟩ := Holds.at h (by rw [mkcells_length]; omega)
  cases hv
  refine ⟨b, off, rfl, hb, fun k hk => ?_⟩
  obtain ⟨h0, h1⟩ := mkcells_at l k hk
  have hlen := mkcells_length l
  have e : k * 2 = 2 * k := by omega
  rw [e]
  refine ⟨?_, ?_⟩
  · have := hc (2 * k) (by omega)
    rw [← h0, this, List.getElem?_eq_getElem]
  · have := hc (2 * k + 1) (by omega)
    rw [← h1, Nat.add_assoc, this, List.getElem?_eq_getElem]
theorem Low.mk {W w : World} (h : Low W w) {b off n c : Nat} {l : List Mk} (hl : HMk W (.slice (some ⟨b, off, none⟩) n c) l) (k : Nat) (hk : k < l.length) {x : Mk} (hx : l[k] = x) : w.cell? ⟨b, off + k * 2, none⟩ = some (.int .u8 x.sg) ∧ w.cell? ⟨b, off + k * 2 + 1, none⟩ = some (.string ⟨x.tx.toArray⟩) := by
  obtain ⟨b', off', e, _, hc⟩ := HMk.at (HMk.keep hl h (Nat.le_refl _)) (by omega)
  cases e
  rw [← hx]
  exact hc k hk
/-- a hunk as a value, in a box -/
def hkV (h : Hk) (v : Value) : Value := .agg #[.int .i64 h.A, .int .i64 h.AN, .int .i64 h.B, .int .i64 h.BN, v]
def hkC (h : Hk) (v : Value) : List Value := [.int .i64 h.A, .int .i64 h.AN, .int .i64 h.B, .int .i64 h.BN, v]
def hkO (h : Hk) (v : Value) : Obj := .cells #[.int .i64 h.A, .int .i64 h.AN, .int .i64 h.B, .int .i64 h.BN, v] 59
def Hx (u : World) (b : Nat) (h : Hk) (v : Value) : Prop := u.heap[b]? = some (hkO h v)
section
variable {u u' : World} {b : Nat} {h : Hk} {v : Value}
theorem Hx.cells (q : Hx u b h v) : u.cell? ⟨b, 0, none⟩ = some (.int .i64 h.A) ∧ u.cell? ⟨b, 1, none⟩ = some (.int .i64 h.AN) ∧ u.cell? ⟨b, 2, none⟩ = some (.int .i64 h.B) ∧ u.cell? ⟨b, 3, none⟩ = some (.int .i64 h.BN) ∧ u.cell? ⟨b, 4, none⟩ = some v := by
  unfold Hx hkO at q
  refine ⟨?_, ?_, ?_, ?_, ?_⟩ <;> rw [Lib.cell_of_heap q] <;> rfl
theorem Hx.frozen (q : Hx u b h v) (j : Nat) : u.frozen? ⟨b, j, none⟩ = false := Lib.frozen_of_heap q j
theorem Hx.lt (q : Hx u b h v) : b < u.heap.size := (Array.getElem?_eq_some_iff.1 q).1
theorem Hx.low (q : Hx u b h v) (hg : Below u.heap.size u u') : Hx u' b h v := (hg.block b q.lt).trans q
theorem Hx.keep (q : Hx u b h v) {g : Option Nat} (hg : u.grownBy u' g) (hr : some b ≠ g) : Hx u' b h v := (hg.block b q.lt hr).trans q
theorem Hx.new (w : World) (h : Hk) (v : Value) : Hx (w.alloc (hkO h v)) w.heap.size h v := _root_.Go.heap_alloc_new w _
end
/-- hunks in a row: each with the slice of its lines -/
def hkcells : List (Hk × Value) → List Value
  | [] => []
  | (h, v) :: l => hkC h v ++ hkcells l
theorem hkcells_length (l : List (Hk × Value)) : (hkcells l).length = l.length * 5 := by
  induction l with
  | nil => rfl
  | cons c l ih =>
    obtain ⟨h, v⟩ := c
    simp only [hkcells, List.length_append, List.length_cons]
    rw [ih]
    simp [hkC]; omega
theorem hkcells_append (a b : List (Hk × Value)) : hkcells (a ++ b) = hkcells a ++ hkcells b := by
  induction a with
  | nil => rfl
  | cons c l ih =>
    obtain ⟨h, v⟩ := c
    simp only [List.cons_append, hkcells, ih, List.append_assoc]
theorem hkcells_at (l : List (Hk × Value)) (k : Nat) (hk : k < l.length) : (hkcells l)[5 * k]? = some (.int .i64 l[k].1.A) ∧ (hkcells l)[5 * k + 1]? = some (.int .i64 l[k].1.AN) ∧ (hkcells l)[5 * k + 2]? = some (.int .i64 l[k].1.B) ∧ (hkcells l)[5 * k + 3]? = some (.int .i64 l[k].1.BN) ∧ (hkcells l)[5 * k + 4]? = some l[k].2 := by
  induction l generalizing k with
  | nil => simp at hk
  | cons c l ih =>
    obtain ⟨x, y⟩ := c
    cases k with
    | zero => simp [hkcells, hkC]
    | succ k =>
      have h := ih k (by simpa using hk)
      have e : ∀ i, (hkcells ((x, y) :: l))[5 * (k + 1) + i]? = (hkcells l)[5 * k + i]? := by
        intro i
        have : hkcells ((x, y) :: l) = hkC x y ++ hkcells l := rfl
        rw [this, List.getElem?_append_right (by simp [hkC]; omega)]
        congr 1
        simp [hkC]; omega
      simp only [List.getElem_cons_succ]
      refine ⟨by rw [← (h).1]; exact e 0, by rw [← h.2.1]; exact e 1, by rw [← h.2.2.1]; exact e 2, by rw [← h.2.2.2.1]; exact e 3, by rw [← h.2.2.2.2]; exact e 4⟩
/-- a slice of hunks; p: the hunks, each with the slice of its lines -/
structure HHp (w : World) (v : Value) (p : List (Hk × Value)) : Prop where
  row : Holds w v p.length (hkcells p)
  ins : ∀ x ∈ p, HMk w x.2 x.1.ls
def HHk (w : World) (v : Value) (l : List Hk) : Prop := ∃ p : List (Hk × Value), p.map (·.1) = l ∧ HHp w v p
theorem HHp.keep {w w' : World} {v : Value} {p : List (Hk × Value)} (h : HHp w v p) {N : Nat} (hk : Below N w w') (hN : w.heap.size ≤ N) : HHp w' v p :=
  ⟨Holds.keep h.row fun k hk' => hk.block k (by omega), fun x hx => HMk.keep (h.ins x hx) hk hN⟩
theorem HHk.keep {w w' : World} {v : Value} {l : List Hk} (h : HHk w v l) {N : Nat} (hk : Below N w w') (hN : w.heap.size ≤ N) : HHk w' v l := by
  obtain ⟨p, hp, h⟩ := h
  exact ⟨p, hp, h.keep hk hN⟩
theorem HHp.at {w : World} {ao : Option Addr} {n c : Nat} {l : List (Hk × Value)} (h : HHp w (.slice ao n c) l) (h0 : 0 < l.length) : ∃ b off, ao = some ⟨b, off, none⟩ ∧ b < w.heap.size ∧
    ∀ k (hk : k < l.length), w.cell? ⟨b, off + k * 5, none⟩ = some (.int .i64 l[k].1.A) ∧ w.cell? ⟨b, off + k * 5 + 1, none⟩ = some (.int .i64 l[k].1.AN) ∧ w.cell? ⟨b, off + k * 5 + 2, none⟩ = some (.int .i64 l[k].1.B) ∧ w.cell? ⟨b, off + k * 5 + 3, none⟩ = some (.int .i64 l[k].1.BN) ∧ w.cell? ⟨b, off + k * 5 + 4, none⟩ = some l[k].2 := by
  obtain ⟨b, off, c', hv, hb, hc⟩ := Holds.at h.row (by rw [hkcells_length]; omega)
  cases hv
  refine ⟨b, off, rfl, hb, fun k hk => ?_⟩
  obtain ⟨h0, h1, h2, h3, h4⟩ := hkcells_at l k hk
  have hlen := hkcells_length l
  have e : k * 5 = 5 * k := by omega
  rw [e]
  refine ⟨?_, ?_, ?_, ?_, ?_⟩
  · have := hc (5 * k) (by omega)
    rw [← h0, this, List.getElem?_eq_getElem]
  · have := hc (5 * k + 1) (by omega)
    rw [← h1, Nat.add_assoc, this, List.getElem?_eq_getElem]
  · have := hc (5 * k + 2) (by omega)
    rw [← h2, Nat.add_assoc, this, List.getElem?_eq_getElem]
  · have := hc (5 * k + 3) (by omega)
    rw [← h3, Nat.add_assoc, this, List.getElem?_eq_getElem]
  · have := hc (5 * k + 4) (by omega)
    rw [← h4, Nat.add_assoc, this, List.getElem?_eq_getElem]
theorem HMk.form {w : World} {v : Value} {l : List Mk} (h : HMk w v l) : ∃ ao c, v = .slice ao l.length c := Holds.form h
theorem run_append_w (w : World) (T E ty : TypeId) (z : Value) (size bytes : Nat) (hT : Tryz.prog.underlying T = some (.slice E)) (hinfo : (Tryz.prog.info? E).map (fun i => (i.zero, i.size, i.bytes)) = some (some z, size, bytes)) (hz1 : z.cells.size = size) (hsz : 0 < size) (hby : bytes ≤ 64)
    (base : Nat) (v : Value) (k : Nat) (xs : List Value) (hown : w.ownsRow base E size v k xs) (vx : Value) (m : Nat) (news : List Value) (hh : Holds w vx m news) (hl : news.length = m * size)
    (h1 : ∀ u ∈ news, u.oneCell' = true) (hk : k + m ≤ 2199023255552) (hbase : base ≤ w.heap.size) :
    ∃ v' w', (Builtin.append_ #[T, T] ty #[v, vx]).run Tryz.prog w = .ok v' w' ∧ w'.ownsRow base E size v' (k + m) (xs ++ news) ∧ w.grownBy w' v.ownBlock ∧ (v'.ownBlock = v.ownBlock ∨ v'.ownBlock = some w.heap.size) := by
  obtain ⟨i0, hi0, hz0, hzs, hz2⟩ := info_parts hinfo
  rcases hh with ⟨rfl, rfl, rfl⟩ | ⟨ad, c, rfl, _, hc⟩
  · exact ⟨v, w, run_append_owned_none (P := Tryz.prog) (w := w) base T ty E i0 size hT hi0 v k xs hown, by simpa using hown, World.grownBy.refl _ _, .inl rfl⟩
  · obtain ⟨v', w', hr, h2, h3, _, h5⟩ := run_append_own_at (P := Tryz.prog) w base T ty E i0 z size bytes hT hi0 hz0 hzs hz2 hz1 hsz v k xs hown ad m c news hl hc h1 (by unfold maxLen; omega) (by
      have : (k + m) * bytes ≤ (k + m) * 64 := Nat.mul_le_mul_left _ hby
      omega) hbase
    exact ⟨v', w', hr, h2, h3, h5⟩
theorem wpList_append_w {ops : Array Oper} {rest : List Oper} {o : Oper} {a : Act} {Q : Exit → Act → World → Prop} (w : World) (hw : Region.wanted o (yielded ops a.tmps) = true) (s x : Operand) (T E : TypeId) (z : Value) (size bytes : Nat)
    (ho : o.op = .call { callee := .builtin .append, args := #[s, x], argTypes := #[T, T] }) (hT : Tryz.prog.underlying T = some (.slice E)) (hinfo : (Tryz.prog.info? E).map (fun i => (i.zero, i.size, i.bytes)) = some (some z, size, bytes)) (hz1 : z.cells.size = size) (hsz : 0 < size) (hby : bytes ≤ 64)
    (base : Nat) (v : Value) (k : Nat) (xs : List Value) (hs : a.eval s = v) (hown : w.ownsRow base E size v k xs) (vx : Value) (m : Nat) (news : List Value) (hx : a.eval x = vx) (hh : Holds w vx m news) (hl : news.length = m * size)
    (h1 : ∀ u ∈ news, u.oneCell' = true) (hk : k + m ≤ 2199023255552) (hbase : base ≤ w.heap.size)
    (h : ∀ v' w', w'.ownsRow base E size v' (k + m) (xs ++ news) → w.grownBy w' v.ownBlock → (v'.ownBlock = v.ownBlock ∨ v'.ownBlock = some w.heap.size) → wpList Tryz.prog ops Q rest (a.put o.dst v') w') : wpList Tryz.prog ops Q (o :: rest) a w := by
  refine wpList_step fun K hK => ?_
  rw [if_pos hw]
  obtain ⟨v', w', hr, h2, h3, h4⟩ := run_append_w w T E o.type z size bytes hT hinfo hz1 hsz hby base v k xs hown vx m news hh hl h1 hk hbase
  unfold Oper.wp
  simp [execOp, ho, resolve, invoke, builtin, hs, hx, hr, Result.andThen]
  exact hK _ _ (h v' w' h2 h3 h4)
theorem hnil_row (w : World) (base : Nat) (e : TypeId) (s : Nat) : w.ownsRow base e s (.slice none 0 0) 0 [] := ⟨by simp, .inl ⟨rfl, rfl⟩⟩
end Go.Proofs.YtgiojkhmkeocfaaGreatDoor

/- The reference's small functions of layer 11, walked: numbers, places, lines, the lines of a side. -/
set_option maxRecDepth 20000
namespace Go.Proofs.YtgiojkhmkeocfaaGreatDoor
open Go.RowKit

end Go.Proofs.YtgiojkhmkeocfaaGreatDoor

/- The reference's line, last of layer 11, walked. -/
set_option maxRecDepth 20000
namespace Go.Proofs.YtgiojkhmkeocfaaGreatDoor
open Go.RowKit

theorem bat (l : List UInt8) (k : Nat) (h : k < (⟨l.toArray⟩ : ByteArray).size) : (⟨l.toArray⟩ : ByteArray)[k]'h = l[k]'(h) := rfl
attribute [local go_sem] bat ByteArray.extract_mk
theorem wrap_s {n : Int} (h0 : -9223372036854775808 ≤ n) (h1 : n ≤ 9223372036854775807) : IntKind.i64.wrap n = n := by
  simp [IntKind.wrap, IntKind.bits, IntKind.signed]
  split <;> omega
end Go.Proofs.YtgiojkhmkeocfaaGreatDoor

/- The reference's fields of layer 11, walked. -/
set_option maxRecDepth 20000
namespace Go.Proofs.YtgiojkhmkeocfaaGreatDoor
open Go.RowKit

/-- a line in a box -/
def mkO (m : Mk) : Obj := .cells #[.int .u8 m.sg, .string ⟨m.tx.toArray⟩] 103
def Mx (u : World) (b : Nat) (m : Mk) : Prop := u.heap[b]? = some (mkO m)
section
variable {u u' : World} {b : Nat} {m : Mk}
theorem Mx.cells (q : Mx u b m) : u.cell? ⟨b, 0, none⟩ = some (.int .u8 m.sg) ∧ u.cell? ⟨b, 1, none⟩ = some (.string ⟨m.tx.toArray⟩) := by
  unfold Mx mkO at q
  refine ⟨?_, ?_⟩ <;> rw [Lib.cell_of_heap q] <;> rfl
theorem Mx.lt (q : Mx u b m) : b < u.heap.size := (Array.getElem?_eq_some_iff.1 q).1
theorem Mx.low (q : Mx u b m) (hg : Below u.heap.size u u') : Mx u' b m := (hg.block b q.lt).trans q
theorem Mx.new (w : World) (m : Mk) : Mx (w.alloc (mkO m)) w.heap.size m := _root_.Go.heap_alloc_new w _
end
theorem Hx.row {W : World} {b : Nat} {h : Hk} {v : Value} (q : Hx W b h v) (n : Nat) : Hx (W.drewN n) b h v := q

end Go.Proofs.YtgiojkhmkeocfaaGreatDoor

/- Steps of a region that draws its order, taken one by one where a guard says no: reads, calls by their contracts. -/
set_option maxRecDepth 20000
namespace Go.Proofs.YtgiojkhmkeocfaaGreatDoor
open Go.RowKit

theorem step_want {b : Bool} {X Y : Prop} (h : b = true) (hX : X) : if b = true then X else Y := by
  rw [if_pos h]
  exact hX
/-- an operation that reads alone, or is not wanted, from one stage of the region to the next -/
theorem go_take {P : Program} {S : World → Prop} {md : Region.Mode} {ops : Array Oper} {Q : Exit → Act → World → Prop} {fuel : Nat} {listed : Array Bool} {A : Act} {w : World}
    (i d : Nat) (op : Oper) (v : Value) (hi : ops[i]? = some op) (hd : op.dst = some d) (hs : Region.noSelect ops = true) (hf : Region.free md ops listed i = true) (hr : (Region.ready md ops listed).contains i = true)
    (hQ : ∀ c a w, Q (.panic c) (a.put op.dst v) w → Q (.panic c) a w) (hy : YieldsIf P ops S op v A) (hS : S w)
    (h : wpAnyH P md ops Q S fuel (listed.setIfInBounds i true) (A.put (some d) v) w) : wpAnyH P md ops Q S (fuel + 1) listed A w :=
  wpAnyH_take hi hs hf hr hQ hy hS (by rw [hd]; exact h)
/-- a call of whatever function value by its contract, where nothing else may come up; R: what is told of what is answered -/
theorem go_callE {P : Program} {S : World → Prop} {md : Region.Mode} {ops : Array Oper} {Q : Exit → Act → World → Prop} {fuel : Nat} {listed : Array Bool} {A : Act} {w : World}
    (i d : Nat) (op : Oper) (hi : ops[i]? = some op) (hd : op.dst = some d) (hr : Region.ready md ops listed = [i]) (hwt : Region.wanted op (yielded ops A.tmps) = true)
    (F : Nat) (x : Operand) (xs : Array Operand) (ts : Array TypeId) (ho : op.op = .call { callee := .value x, args := xs, argTypes := ts })
    (cap : Array Value) (hxv : A.eval x = .func (.func F) #[] cap) (args : Array Value) (hx : xs.map A.eval = args) (hen : ∀ args w, (callFunc F args).run P w = .ok (.enter F args) w) (R : Value → World → Prop)
    (hc : Calls P F (args ++ cap) w fun e w' => ∃ v, e = .returned v ∧ S w' ∧ R v w')
    (h : ∀ v w', S w' → R v w' → wpAnyH P md ops Q S fuel (listed.setIfInBounds i true) (A.put (some d) v) w') :
    wpAnyH P md ops Q S (fuel + 1) listed A w := by
  refine wpAnyH_ready hr (by simp) (AllReadyH.cons hi (fun K hK => ?_) AllReadyH.nil)
  refine step_want hwt ?_
  unfold Oper.wp
  have e : (execOp A.eval op).run P w = .ok (.enter F (args ++ cap)) w := by
    have h1 := hen (args ++ cap) w
    simp only [execOp, ho, resolve, invoke]
    simp only [hxv, Deferred.ofValue, Sem.run_bind, Sem.run_pure, Result.andThen_ok, hx, Array.empty_append]
    exact h1
  rw [e, Oper.upon_enter]
  refine hc.mono ?_
  rintro e w' ⟨v, rfl, hb, hR⟩
  exact hK.out _ _ hb (fun hu => by rw [hd]; exact h v w' hu hR)
/-- an operation that yields a value, whatever it does to memory, where nothing else may come up -/
theorem go_val {P : Program} {S : World → Prop} {md : Region.Mode} {ops : Array Oper} {Q : Exit → Act → World → Prop} {fuel : Nat} {listed : Array Bool} {A : Act} {w : World}
    (i d : Nat) (op : Oper) (hi : ops[i]? = some op) (hd : op.dst = some d) (hr : Region.ready md ops listed = [i]) (hwt : Region.wanted op (yielded ops A.tmps) = true)
    (v : Value) (w' : World) (he : (execOp A.eval op).run P w = .ok (.value v) w') (hS : S w')
    (h : wpAnyH P md ops Q S fuel (listed.setIfInBounds i true) (A.put (some d) v) w') :
    wpAnyH P md ops Q S (fuel + 1) listed A w := by
  refine wpAnyH_ready hr (by simp) (AllReadyH.cons hi (fun K hK => ?_) AllReadyH.nil)
  refine step_want hwt ?_
  unfold Oper.wp
  rw [he, Oper.upon_value]
  exact hK.out _ _ hS (fun _ => by rw [hd]; exact h)
/-- a store, where nothing else may come up -/
theorem go_skip {P : Program} {S : World → Prop} {md : Region.Mode} {ops : Array Oper} {Q : Exit → Act → World → Prop} {fuel : Nat} {listed : Array Bool} {A : Act} {w : World}
    (i : Nat) (op : Oper) (hi : ops[i]? = some op) (hd : op.dst = none) (hr : Region.ready md ops listed = [i]) (hwt : Region.wanted op (yielded ops A.tmps) = true)
    (w' : World) (he : (execOp A.eval op).run P w = .ok .skip w') (hS : S w')
    (h : wpAnyH P md ops Q S fuel (listed.setIfInBounds i true) A w') :
    wpAnyH P md ops Q S (fuel + 1) listed A w := by
  refine wpAnyH_ready hr (by simp) (AllReadyH.cons hi (fun K hK => ?_) AllReadyH.nil)
  refine step_want hwt ?_
  unfold Oper.wp
  rw [he, Oper.upon_skip]
  exact hK.out _ _ hS (fun _ => by rw [hd]; exact h)
end Go.Proofs.YtgiojkhmkeocfaaGreatDoor

/- The reference's Check of layer 11, walked. -/
set_option maxRecDepth 20000
namespace Go.Proofs.YtgiojkhmkeocfaaGreatDoor
open Go.RowKit

/-- a hunk is read out of its box -/
theorem load_hk {u : World} {b : Nat} {h : Hk} {v : Value} (q : Hx u b h v) {op : Oper} (x : Operand) (ho : op.op = .load 59 x) {ev : Operand → Value} (hx : ev x = .pointer (some ⟨b, 0, none⟩)) :
    (execOp ev op).run Tryz.prog u = .ok (.value (hkV h v)) u := by
  have hL : (loadVar 59 ⟨b, 0, none⟩).run Tryz.prog u = .ok (hkV h v) u := run_loadVar_row u b _ _ _ _ _ q Tryz.underlying59 rfl (by kernel_rfl)
  simp only [execOp, ho, hx, Instr.loadAt, Instr.sureAddr, Sem.run_bind, Sem.run_pure, Result.andThen_ok, hL]
end Go.Proofs.YtgiojkhmkeocfaaGreatDoor

/- The reference's Order of layer 11, walked. -/
set_option maxRecDepth 20000
namespace Go.Proofs.YtgiojkhmkeocfaaGreatDoor
open Go.RowKit

/-- hunks of lengths that can be gone through -/
def HOk (p : List (Hk × Value)) : Prop := p.length ≤ 1099511627776 ∧ ∀ x ∈ p, x.1.ls.length ≤ 1099511627776 ∧ ∀ m ∈ x.1.ls, m.tx.length ≤ 1099511627776
/-- a hunk of a row, read -/
theorem HHp.take {w W : World} {b off n c : Nat} {p : List (Hk × Value)} (h : HHp w (.slice (some ⟨b, off, none⟩) n c) p) (hB : Below w.heap.size w W) (k : Nat) (hk : k < p.length) {x : Hk} {y : Value} (hx : p[k] = (x, y)) : (W.cell? ⟨b, off + k * 5, none⟩ = some (.int .i64 x.A) ∧ W.cell? ⟨b, off + k * 5 + 1, none⟩ = some (.int .i64 x.AN) ∧ W.cell? ⟨b, off + k * 5 + 2, none⟩ = some (.int .i64 x.B) ∧ W.cell? ⟨b, off + k * 5 + 3, none⟩ = some (.int .i64 x.BN) ∧ W.cell? ⟨b, off + k * 5 + 4, none⟩ = some y) ∧ HMk W y x.ls := by
  have h2 := h.keep hB (Nat.le_refl _)
  obtain ⟨b', off', e, _, hc⟩ := h2.at (by omega)
  cases e
  have := hc k hk
  rw [hx] at this
  refine ⟨this, ?_⟩
  have hi := h2.ins p[k] (List.getElem_mem hk)
  rw [hx] at hi
  exact hi
end Go.Proofs.YtgiojkhmkeocfaaGreatDoor

/- The reference's Same, SameHunks of layer 11, walked: hunks that are the same. -/
set_option maxRecDepth 20000
namespace Go.Proofs.YtgiojkhmkeocfaaGreatDoor
open Go.RowKit

end Go.Proofs.YtgiojkhmkeocfaaGreatDoor

/- The reference's SameHunks of layer 11, walked: rows of hunks that are the same; steps by hand. -/
set_option maxRecDepth 20000
namespace Go.Proofs.YtgiojkhmkeocfaaGreatDoor
open Go.RowKit

theorem exec_ixH {u : World} {b off n c i : Nat} (hi : i < n) {op : Oper} (x y : Operand) (ho : op.op = .indexAddr 34 x y) {ev : Operand → Value} (hx : ev x = .slice (some ⟨b, off, none⟩) n c) (hy : ev y = .int .i64 (i : Int)) :
    (execOp ev op).run Tryz.prog u = .ok (.value (.pointer (some ⟨b, off + i * 5, none⟩))) u := by
  have i1 : 0 ≤ (i : Int) := by omega
  have i2 : (i : Int) < (n : Int) := by omega
  simp only [execOp, ho, hx, hy]
  go_simp
/-- the cells of a hunk in a row -/
def HkAt (u : World) (b o : Nat) (x : Hk) (y : Value) : Prop := u.cell? ⟨b, o, none⟩ = some (.int .i64 x.A) ∧ u.cell? ⟨b, o + 1, none⟩ = some (.int .i64 x.AN) ∧ u.cell? ⟨b, o + 2, none⟩ = some (.int .i64 x.B) ∧ u.cell? ⟨b, o + 3, none⟩ = some (.int .i64 x.BN) ∧ u.cell? ⟨b, o + 4, none⟩ = some y
theorem HkAt.low {u u' : World} {b o : Nat} {x : Hk} {y : Value} (h : HkAt u b o x y) (hB : Low u u') : HkAt u' b o x y := by
  have key : ∀ (q : Addr) (z : Value), u.cell? q = some z → u'.cell? q = some z := fun q z hz => (World.cell?_of_block (w := u) (Below.block hB _ (World.block_lt_of_cell? _ _ hz))).trans hz
  exact ⟨key _ _ h.1, key _ _ h.2.1, key _ _ h.2.2.1, key _ _ h.2.2.2.1, key _ _ h.2.2.2.2⟩
theorem load_hkR {u : World} {b o : Nat} {h : Hk} {yo : Option Addr} {n yc : Nat} (q : HkAt u b o h (.slice yo n yc)) {op : Oper} (x : Operand) (ho : op.op = .load 59 x) {ev : Operand → Value} (hx : ev x = .pointer (some ⟨b, o, none⟩)) :
    (execOp ev op).run Tryz.prog u = .ok (.value (hkV h (.slice yo n yc))) u := by
  obtain ⟨d0, d1, d2, d3, d4⟩ := q
  unfold hkV
  simp only [execOp, ho, hx]
  go_simp
end Go.Proofs.YtgiojkhmkeocfaaGreatDoor

/- Hunks of one's own: a row of them, each with a row of lines of one's own; the reference's Copy, walked. -/
set_option maxRecDepth 20000
namespace Go.Proofs.YtgiojkhmkeocfaaGreatDoor
open Go.RowKit

theorem own_lt {u : World} {base : Nat} {e : TypeId} {s : Nat} {v : Value} {n : Nat} {xs : List Value} (h : u.ownsRow base e s v n xs) {g : Nat} (hg : v.ownBlock = some g) : g < u.heap.size := by
  rcases h.2 with ⟨rfl, _⟩ | ⟨b, cap, cur, rfl, _, hb, _⟩
  · cases hg
  · simp [Value.ownBlock] at hg
    subst hg
    exact (Array.getElem?_eq_some_iff.1 hb).1
theorem own_ne {u : World} {base base' : Nat} {e e' : TypeId} {s s' : Nat} {v v' : Value} {n n' : Nat} {xs xs' : List Value} (h : u.ownsRow base e s v n xs) (h' : u.ownsRow base' e' s' v' n' xs') (he : e ≠ e') {g : Nat} (hg : v.ownBlock = some g) : v'.ownBlock ≠ some g := by
  intro hg'
  rcases h.2 with ⟨rfl, _⟩ | ⟨b, cap, cur, rfl, _, hb, _⟩
  · cases hg
  · rcases h'.2 with ⟨rfl, _⟩ | ⟨b', cap', cur', rfl, _, hb', _⟩
    · cases hg'
    · simp [Value.ownBlock] at hg hg'
      subst hg hg'
      rw [hb] at hb'
      simp at hb'
      exact he hb'.2
/-- a row of hunks of one's own -/
structure Hs (w : World) (ov : Value) (P : List (Hk × Value)) (u : World) : Prop where
  low : Below w.heap.size w u
  own : u.ownsRow w.heap.size 59 5 ov P.length (hkcells P)
  ins : ∀ x ∈ P, u.ownsRow w.heap.size 103 2 x.2 x.1.ls.length (mkcells x.1.ls)
theorem Hs.nil (w : World) : Hs w (.slice none 0 0) [] w := ⟨Below.refl _ _, hnil_row _ _ _ _, fun _ h => by cases h⟩
theorem Hs.alloc {w : World} {ov : Value} {P : List (Hk × Value)} {u : World} (h : Hs w ov P u) (o : Obj) : Hs w ov P (u.alloc o) := ⟨h.low.alloc h.low.size o, h.own.alloc o, fun x hx => (h.ins x hx).alloc o⟩
theorem Hs.drewN {w : World} {ov : Value} {P : List (Hk × Value)} {u : World} (h : Hs w ov P u) (n : Nat) : Hs w ov P (u.drewN n) := ⟨Below.dN h.low n, h.own, h.ins⟩
/-- what is written lies in a block that is none of theirs -/
theorem Hs.grown {w : World} {ov : Value} {P : List (Hk × Value)} {u u' : World} (h : Hs w ov P u) {g : Option Nat} (hg : u.grownBy u' g) (hb : ∀ k, g = some k → w.heap.size ≤ k) (h1 : ∀ k, g = some k → ov.ownBlock ≠ some k) (h2 : ∀ x ∈ P, ∀ k, g = some k → x.2.ownBlock ≠ some k) : Hs w ov P u' := by
  have key : ∀ {e : TypeId} {s : Nat} {v : Value} {n : Nat} {xs : List Value}, u.ownsRow w.heap.size e s v n xs → (∀ k, g = some k → v.ownBlock ≠ some k) → u'.ownsRow w.heap.size e s v n xs := by
    intro e s v n xs ho hne
    refine ⟨ho.1, ?_⟩
    rcases ho.2 with q | ⟨b, cap, cur, rfl, q2, q3, q4⟩
    · exact .inl q
    · refine .inr ⟨b, cap, cur, rfl, q2, ?_, q4⟩
      rw [hg.block b (Array.getElem?_eq_some_iff.1 q3).1 (fun e => hne b e.symm rfl)]
      exact q3
  exact ⟨h.low.grown hg h.low.size (fun k hk => hb k hk), key h.own h1, fun x hx => key (h.ins x hx) (h2 x hx)⟩
theorem Hs.lt {w : World} {ov : Value} {P : List (Hk × Value)} {u : World} (h : Hs w ov P u) : (∀ k, ov.ownBlock = some k → k < u.heap.size) ∧ ∀ x ∈ P, ∀ k, x.2.ownBlock = some k → k < u.heap.size := ⟨fun _ hk => own_lt h.own hk, fun x hx _ hk => own_lt (h.ins x hx) hk⟩
/-- one that is new, a box or a row, is none of theirs -/
theorem Hs.fresh {w : World} {ov : Value} {P : List (Hk × Value)} {u u1 u' : World} (h : Hs w ov P u) (h1 : Hs w ov P u1) {k : Nat} (hk : u.heap.size ≤ k) (hg : u1.grownBy u' (some k)) : Hs w ov P u' := by
  have hl := h.lt
  have hs := h.low.size
  refine h1.grown hg (fun j hj => by cases hj; omega) (fun j hj => by cases hj; intro e; have := hl.1 _ e; omega) (fun x hx j hj => by cases hj; intro e; have := hl.2 x hx _ e; omega)
/-- what it holds -/
theorem Hs.holds {w : World} {ov : Value} {P : List (Hk × Value)} {u : World} (h : Hs w ov P u) : HHp u ov P := ⟨holds_of h.own, fun x hx => holds_of (h.ins x hx)⟩
/-- a hunk more -/
theorem Hs.more {w : World} {ov : Value} {P : List (Hk × Value)} {u u' : World} (h : Hs w ov P u) {x : Hk} {y ov' : Value} (hy : u.ownsRow w.heap.size 103 2 y x.ls.length (mkcells x.ls)) (hg : u.grownBy u' ov.ownBlock) (ho : u'.ownsRow w.heap.size 59 5 ov' (P.length + 1) (hkcells P ++ hkC x y)) : Hs w ov' (P ++ [(x, y)]) u' := by
  have key : ∀ {v : Value} {n : Nat} {xs : List Value}, u.ownsRow w.heap.size 103 2 v n xs → u'.ownsRow w.heap.size 103 2 v n xs := by
    intro v n xs hv
    refine ⟨hv.1, ?_⟩
    rcases hv.2 with q | ⟨b, cap, cur, rfl, q2, q3, q4⟩
    · exact .inl q
    · refine .inr ⟨b, cap, cur, rfl, q2, ?_, q4⟩
      rw [hg.block b (Array.getElem?_eq_some_iff.1 q3).1 (fun e => own_ne h.own hv (by decide) e.symm rfl)]
      exact q3
  refine ⟨h.low.grown hg h.low.size (fun j hj => owns_ge h.own hj), ?_, fun z hz => ?_⟩
  · rw [hkcells_append, List.length_append]
    have e : hkcells [(x, y)] = hkC x y := by simp [hkcells]
    rw [e]
    exact ho
  · rcases List.mem_append.1 hz with hz | hz
    · exact key (h.ins z hz)
    · rw [List.mem_singleton.1 hz]
      exact key hy
/-- one hunk, as a new row of one -/
theorem one_row (w : World) (x : Hk) (y : Value) : Holds (w.alloc (hkO x y)) (.slice (some ⟨w.heap.size, 0, none⟩) 1 1) 1 (hkC x y) := new_holds w #[.int .i64 x.A, .int .i64 x.AN, .int .i64 x.B, .int .i64 x.BN, y] 59 1 1 (by decide)
theorem Hx.setl {u : World} {b : Nat} {h : Hk} {v : Value} (q : Hx u b h v) (z : Value) : Hx (u.setCell ⟨b, 4, none⟩ z) b h z := heap_setCell_same u b 4 _ _ z q

end Go.Proofs.YtgiojkhmkeocfaaGreatDoor
