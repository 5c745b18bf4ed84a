/-
  Texts that belong together, joined: EdRow, EdMath, EdM2, EdM3, EdM4, EdM5, HuMath.
-/
import Derived.Test.YtgcccpmcbjfaaaaDoorProg
import Derived.WalkKit
import Derived.WalkSpells
import Derived.WalkLawsBesides
import Derived.Deep.QuietTactic
import Derived.BigQuiet
import Derived.Laws.AppendOwnNone
import Derived.Below

/- Changes and runs as lists: what a slice of changes, of runs, of numbers, of texts holds, cell by cell; blocks that stay; append onto an owned row of wide elements. -/
namespace Go.Proofs.YtgcccpmcbjfaaaaDoor
open Go.RowKit

/-- a change -/
structure Ch where
  A : Int
  AN : Int
  B : Int
  BN : Int
/-- lines that are kept -/
structure Rn where
  a : Int
  b : Int
  n : Int
/-- a change as a value -/
def chV (c : Ch) : Value := .agg #[.int .i64 c.A, .int .i64 c.AN, .int .i64 c.B, .int .i64 c.BN]
def rnV (r : Rn) : Value := .agg #[.int .i64 r.a, .int .i64 r.b, .int .i64 r.n]
/-- what a type of elements has: its cells -/
def chC (c : Ch) : List Value := [.int .i64 c.A, .int .i64 c.AN, .int .i64 c.B, .int .i64 c.BN]
def rnC (r : Rn) : List Value := [.int .i64 r.a, .int .i64 r.b, .int .i64 r.n]
def chcells (l : List Ch) : List Value := l.flatMap chC
def rncells (l : List Rn) : List Value := l.flatMap rnC
def icells (ns : List Int) : List Value := ns.map fun z => .int .i64 z
def scells (ws : List (List UInt8)) : List Value := ws.map fun a => .string ⟨a.toArray⟩

theorem infoStr : (Tryd.prog.info? 9).map (fun i => (i.zero, i.size, i.bytes)) = some (some (.string ⟨#[]⟩), 1, 16) := by kernel_rfl
theorem infoInt : (Tryd.prog.info? 3).map (fun i => (i.zero, i.size, i.bytes)) = some (some (.int .i64 0), 1, 8) := by kernel_rfl
theorem addr_of {W : World} {a : Addr} {v : Value} (h : W.cell? (a.add 0) = some v) : ∃ b off, a = ⟨b, off, none⟩ := by
  obtain ⟨b, off, spot⟩ := a
  have hspot : spot = none := by simpa [Addr.add] using World.cell?_spot h
  subst hspot
  exact ⟨b, off, rfl⟩
theorem add_none (b off j : Nat) : (⟨b, off, none⟩ : Addr).add j = ⟨b, off + j, none⟩ := by unfold Addr.add; split <;> simp_all

theorem Below.dN {N : Nat} {w w1 : World} (h : Below N w w1) (n : Nat) : Below N w (w1.drewN n) := ⟨h.os, h.tape, h.output, h.size, h.block⟩
/-- what a slice value of n elements holds, cell by cell -/
def Holds (w : World) (v : Value) (n : Nat) (xs : List Value) : Prop :=
  (v = .slice none 0 0 ∧ n = 0 ∧ xs = []) ∨ ∃ ad c, v = .slice (some ad) n c ∧ n ≤ c ∧ ∀ j u, xs[j]? = some u → w.cell? (ad.add j) = some u
theorem holds_of {w : World} {B : Nat} {e : TypeId} {s : Nat} {v : Value} {n : Nat} {xs : List Value} (h : w.ownsRow B e s v n xs) : Holds w v n xs := by
  rcases h.2 with ⟨rfl, h0⟩ | ⟨g, cap, cur, rfl, _, _, hnc, _⟩
  · exact .inl ⟨rfl, h0, List.eq_nil_of_length_eq_zero (by rw [h.1, h0, Nat.zero_mul])⟩
  · exact .inr ⟨⟨g, 0, none⟩, cap, rfl, hnc, h.cells (g := g) rfl⟩
theorem Holds.keep {w w' : World} {v : Value} {n : Nat} {xs : List Value} (h : Holds w v n xs) (hk : ∀ k, k < w.heap.size → w'.heap[k]? = w.heap[k]?) : Holds w' v n xs := by
  rcases h with h | ⟨ad, c, hv, hnc, hc⟩
  · exact .inl h
  · refine .inr ⟨ad, c, hv, hnc, fun j u hj => ?_⟩
    have h1 := hc j u hj
    have hlt := World.block_lt_of_cell? w _ h1
    rw [World.cell?_of_block (w := w) (hk _ hlt)]
    exact h1
theorem Holds.form {w : World} {v : Value} {n : Nat} {xs : List Value} (h : Holds w v n xs) : ∃ ao c, v = .slice ao n c := by
  rcases h with ⟨rfl, rfl, rfl⟩ | ⟨ad, c, rfl, _⟩
  · exact ⟨_, _, rfl⟩
  · exact ⟨_, _, rfl⟩
/-- a slice that is not empty: where it lies -/
theorem Holds.at {w : World} {v : Value} {n : Nat} {xs : List Value} (h : Holds w v n xs) (h0 : 0 < xs.length) : ∃ b off c, v = .slice (some ⟨b, off, none⟩) n c ∧ b < w.heap.size ∧ ∀ j (hj : j < xs.length), w.cell? ⟨b, off + j, none⟩ = some xs[j] := by
  rcases h with ⟨_, _, rfl⟩ | ⟨ad, c, rfl, _, hc⟩
  · simp at h0
  · obtain ⟨b, off, rfl⟩ := addr_of (hc 0 _ (List.getElem?_eq_getElem h0))
    refine ⟨b, off, c, rfl, World.block_lt_of_cell? w _ (hc 0 _ (List.getElem?_eq_getElem h0)), fun j hj => ?_⟩
    have := hc j _ (List.getElem?_eq_getElem hj)
    rw [add_none] at this
    exact this
theorem Holds.nil (w : World) : Holds w (.slice none 0 0) 0 [] := .inl ⟨rfl, rfl, rfl⟩

theorem chcells_length (l : List Ch) : (chcells l).length = l.length * 4 := by
  induction l with
  | nil => rfl
  | cons c l ih => simp only [chcells, List.flatMap_cons, List.length_append, List.length_cons] at ih ⊢; rw [ih]; simp [chC]; omega
theorem rncells_length (l : List Rn) : (rncells l).length = l.length * 3 := by
  induction l with
  | nil => rfl
  | cons c l ih => simp only [rncells, List.flatMap_cons, List.length_append, List.length_cons] at ih ⊢; rw [ih]; simp [rnC]; omega
theorem icells_length (l : List Int) : (icells l).length = l.length := by simp [icells]
theorem scells_length (l : List (List UInt8)) : (scells l).length = l.length := by simp [scells]
theorem chcells_append (a b : List Ch) : chcells (a ++ b) = chcells a ++ chcells b := by simp [chcells]
theorem rncells_append (a b : List Rn) : rncells (a ++ b) = rncells a ++ rncells b := by simp [rncells]
theorem icells_append (a b : List Int) : icells (a ++ b) = icells a ++ icells b := by simp [icells]
theorem scells_append (a b : List (List UInt8)) : scells (a ++ b) = scells a ++ scells b := by simp [scells]
theorem chcells_one (l : List Ch) : ∀ u ∈ chcells l, u.oneCell' = true := by
  intro u hu
  simp only [chcells, List.mem_flatMap, chC] at hu
  obtain ⟨c, _, h⟩ := hu
  simp only [List.mem_cons, List.not_mem_nil, or_false] at h
  rcases h with rfl | rfl | rfl | rfl <;> rfl
theorem rncells_one (l : List Rn) : ∀ u ∈ rncells l, u.oneCell' = true := by
  intro u hu
  simp only [rncells, List.mem_flatMap, rnC] at hu
  obtain ⟨c, _, h⟩ := hu
  simp only [List.mem_cons, List.not_mem_nil, or_false] at h
  rcases h with rfl | rfl | rfl <;> rfl
theorem icells_one (l : List Int) : ∀ u ∈ icells l, u.oneCell' = true := by
  intro u hu
  simp only [icells, List.mem_map] at hu
  obtain ⟨a, _, rfl⟩ := hu
  rfl
theorem scells_one (l : List (List UInt8)) : ∀ u ∈ scells l, u.oneCell' = true := by
  intro u hu
  simp only [scells, List.mem_map] at hu
  obtain ⟨a, _, rfl⟩ := hu
  rfl
theorem chcells_at (l : List Ch) (k : Nat) (hk : k < l.length) : (chcells l)[4 * k]? = some (.int .i64 l[k].A) ∧ (chcells l)[4 * k + 1]? = some (.int .i64 l[k].AN) ∧ (chcells l)[4 * k + 2]? = some (.int .i64 l[k].B) ∧ (chcells l)[4 * k + 3]? = some (.int .i64 l[k].BN) := by
  induction l generalizing k with
  | nil => simp at hk
  | cons c l ih =>
    cases k with
    | zero => simp [chcells, chC]
    | succ k =>
      have h := ih k (by simpa using hk)
      have e : ∀ i, (chcells (c :: l))[4 * (k + 1) + i]? = (chcells l)[4 * k + i]? := by
        intro i
        have : chcells (c :: l) = chC c ++ chcells l := rfl
        rw [this, List.getElem?_append_right (by simp [chC]; omega)]
        congr 1
        simp [chC]; omega
      simp only [List.getElem_cons_succ]
      refine ⟨by rw [← (h).1]; exact e 0, by rw [← h.2.1]; exact e 1, by rw [← h.2.2.1]; exact e 2, by rw [← h.2.2.2]; exact e 3⟩
theorem rncells_at (l : List Rn) (k : Nat) (hk : k < l.length) : (rncells l)[3 * k]? = some (.int .i64 l[k].a) ∧ (rncells l)[3 * k + 1]? = some (.int .i64 l[k].b) ∧ (rncells l)[3 * k + 2]? = some (.int .i64 l[k].n) := by
  induction l generalizing k with
  | nil => simp at hk
  | cons c l ih =>
    cases k with
    | zero => simp [rncells, rnC]
    | succ k =>
      have h := ih k (by simpa using hk)
      have e : ∀ i, (rncells (c :: l))[3 * (k + 1) + i]? = (rncells l)[3 * k + i]? := by
        intro i
        have : rncells (c :: l) = rnC c ++ rncells l := rfl
        rw [this, List.getElem?_append_right (by simp [rnC]; omega)]
        congr 1
        simp [rnC]; omega
      simp only [List.getElem_cons_succ]
      refine ⟨by rw [← (h).1]; exact e 0, by rw [← h.2.1]; exact e 1, by rw [← h.2.2]; exact e 2⟩

/-- a slice of changes -/
def HCh (w : World) (v : Value) (l : List Ch) : Prop := Holds w v l.length (chcells l)
def HRn (w : World) (v : Value) (l : List Rn) : Prop := Holds w v l.length (rncells l)
def HI (w : World) (v : Value) (l : List Int) : Prop := Holds w v l.length (icells l)
def HS (w : World) (v : Value) (l : List (List UInt8)) : Prop := Holds w v l.length (scells l)
theorem HCh.keep {w w' : World} {v : Value} {l : List Ch} (h : HCh w v l) {N : Nat} (hk : Below N w w') (hN : w.heap.size ≤ N) : HCh w' v l := Holds.keep h fun k hk' => hk.block k (by omega)
theorem HRn.keep {w w' : World} {v : Value} {l : List Rn} (h : HRn w v l) {N : Nat} (hk : Below N w w') (hN : w.heap.size ≤ N) : HRn w' v l := Holds.keep h fun k hk' => hk.block k (by omega)
theorem HI.keep {w w' : World} {v : Value} {l : List Int} (h : HI w v l) {N : Nat} (hk : Below N w w') (hN : w.heap.size ≤ N) : HI w' v l := Holds.keep h fun k hk' => hk.block k (by omega)
theorem HS.keep {w w' : World} {v : Value} {l : List (List UInt8)} (h : HS w v l) {N : Nat} (hk : Below N w w') (hN : w.heap.size ≤ N) : HS w' v l := Holds.keep h fun k hk' => hk.block k (by omega)

/-- the change at a place: where it lies -/
theorem HCh.at {w : World} {ao : Option Addr} {n c : Nat} {l : List Ch} (h : HCh w (.slice ao n c) l) (h0 : 0 < l.length) : ∃ b off, ao = some ⟨b, off, none⟩ ∧ b < w.heap.size ∧
    ∀ k (hk : k < l.length), w.cell? ⟨b, off + k * 4, none⟩ = some (.int .i64 l[k].A) ∧ w.cell? ⟨b, off + k * 4 + 1, none⟩ = some (.int .i64 l[k].AN) ∧ w.cell? ⟨b, off + k * 4 + 2, none⟩ = some (.int .i64 l[k].B) ∧ w.cell? ⟨b, off + k * 4 + 3, none⟩ = some (.int .i64 l[k].BN) := by
  obtain ⟨b, off, c', hv, hb, hc⟩ := Holds.at h (by rw [chcells_length]; omega)
  cases hv
  refine ⟨b, off, rfl, hb, fun k hk => ?_⟩
  obtain ⟨h0, h1, h2, h3⟩ := chcells_at l k hk
  have hlen := chcells_length l
  have e : k * 4 = 4 * k := by omega
  rw [e]
  refine ⟨?_, ?_, ?_, ?_⟩
  · have := hc (4 * k) (by omega)
    rw [← h0, this, List.getElem?_eq_getElem]
  · have := hc (4 * k + 1) (by omega)
    rw [← h1, Nat.add_assoc, this, List.getElem?_eq_getElem]
  · have := hc (4 * k + 2) (by omega)
    rw [← h2, Nat.add_assoc, this, List.getElem?_eq_getElem]
  · have := hc (4 * k + 3) (by omega)
    rw [← h3, Nat.add_assoc, this, List.getElem?_eq_getElem]
theorem HRn.at {w : World} {ao : Option Addr} {n c : Nat} {l : List Rn} (h : HRn w (.slice ao n c) l) (h0 : 0 < l.length) : ∃ b off, ao = some ⟨b, off, none⟩ ∧ b < w.heap.size ∧
    ∀ k (hk : k < l.length), w.cell? ⟨b, off + k * 3, none⟩ = some (.int .i64 l[k].a) ∧ w.cell? ⟨b, off + k * 3 + 1, none⟩ = some (.int .i64 l[k].b) ∧ w.cell? ⟨b, off + k * 3 + 2, none⟩ = some (.int .i64 l[k].n) := by
  obtain ⟨b, off, c', hv, hb, hc⟩ := Holds.at h (by rw [rncells_length]; omega)
  cases hv
  refine ⟨b, off, rfl, hb, fun k hk => ?_⟩
  obtain ⟨h0, h1, h2⟩ := rncells_at l k hk
  have hlen := rncells_length l
  have e : k * 3 = 3 * k := by omega
  rw [e]
  refine ⟨?_, ?_, ?_⟩
  · have := hc (3 * k) (by omega)
    rw [← h0, this, List.getElem?_eq_getElem]
  · have := hc (3 * k + 1) (by omega)
    rw [← h1, Nat.add_assoc, this, List.getElem?_eq_getElem]
  · have := hc (3 * k + 2) (by omega)
    rw [← h2, Nat.add_assoc, this, List.getElem?_eq_getElem]
theorem HI.at {w : World} {ao : Option Addr} {n c : Nat} {l : List Int} (h : HI w (.slice ao n c) l) (h0 : 0 < l.length) : ∃ b off, ao = some ⟨b, off, none⟩ ∧ b < w.heap.size ∧
    ∀ k (hk : k < l.length), w.cell? ⟨b, off + k, none⟩ = some (.int .i64 l[k]) := by
  obtain ⟨b, off, c', hv, hb, hc⟩ := Holds.at h (by rw [icells_length]; omega)
  cases hv
  exact ⟨b, off, rfl, hb, fun k hk => by rw [hc k (by rw [icells_length]; exact hk)]; simp [icells]⟩
theorem HS.at {w : World} {ao : Option Addr} {n c : Nat} {l : List (List UInt8)} (h : HS w (.slice ao n c) l) (h0 : 0 < l.length) : ∃ b off, ao = some ⟨b, off, none⟩ ∧ b < w.heap.size ∧
    ∀ k (hk : k < l.length), w.cell? ⟨b, off + k, none⟩ = some (.string ⟨l[k].toArray⟩) := by
  obtain ⟨b, off, c', hv, hb, hc⟩ := Holds.at h (by rw [scells_length]; omega)
  cases hv
  exact ⟨b, off, rfl, hb, fun k hk => by rw [hc k (by rw [scells_length]; exact hk)]; simp [scells]⟩
end Go.Proofs.YtgcccpmcbjfaaaaDoor

/- Edit scripts as lists: which are right, what they keep, how they are made, put together and gone back; plain mathematics. -/
namespace Go.Proofs.YtgcccpmcbjfaaaaDoor

/-- numbers that a right script may have -/
def nat31 (z : Int) : Bool := decide (0 ≤ z) && decide (z ≤ 2147483647)
/-- a change of which the numbers are right, and which changes something -/
def numB (c : Ch) : Bool := nat31 c.A && nat31 c.AN && nat31 c.B && nat31 c.BN && (decide (0 < c.AN) || decide (0 < c.BN))
theorem numB_iff (c : Ch) : numB c = true ↔ (0 ≤ c.A ∧ c.A ≤ 2147483647) ∧ (0 ≤ c.AN ∧ c.AN ≤ 2147483647) ∧ (0 ≤ c.B ∧ c.B ≤ 2147483647) ∧ (0 ≤ c.BN ∧ c.BN ≤ 2147483647) ∧ (0 < c.AN ∨ 0 < c.BN) := by
  simp [numB, nat31, and_assoc]

/-- the rest of a right script, behind the lines a and b; f: nothing stands ahead of it -/
def Right : Bool → Int → Int → Int → Int → List Ch → Prop
  | _, a, b, n, m, [] => a ≤ n ∧ b ≤ m ∧ n - a = m - b
  | f, a, b, n, m, c :: l => (numB c = true ∧ c.A - a = c.B - b ∧ a ≤ c.A ∧ (f = true ∨ a < c.A)) ∧ Right false (c.A + c.AN) (c.B + c.BN) n m l
def decRight : (f : Bool) → (a b n m : Int) → (l : List Ch) → Decidable (Right f a b n m l)
  | _, a, b, n, m, [] => inferInstanceAs (Decidable (a ≤ n ∧ b ≤ m ∧ n - a = m - b))
  | f, a, b, n, m, c :: l =>
    have _ := decRight false (c.A + c.AN) (c.B + c.BN) n m l
    inferInstanceAs (Decidable ((numB c = true ∧ c.A - a = c.B - b ∧ a ≤ c.A ∧ (f = true ∨ a < c.A)) ∧ Right false (c.A + c.AN) (c.B + c.BN) n m l))
theorem Right.le {f : Bool} {a b n m : Int} {l : List Ch} (h : Right f a b n m l) : a ≤ n ∧ b ≤ m ∧ n - a - (m - b) = n - a - (m - b) := by
  induction l generalizing f a b with
  | nil => exact ⟨h.1, h.2.1, rfl⟩
  | cons c l ih =>
    obtain ⟨⟨h1, h2, h3, h4⟩, h5⟩ := h
    rw [numB_iff] at h1
    have := ih h5
    refine ⟨by omega, by omega, rfl⟩
/-- a script is right from n to m lines -/
def Script (l : List Ch) (n m : Int) : Prop := 0 ≤ n ∧ 0 ≤ m ∧ Right true 0 0 n m l
def decScript (l : List Ch) (n m : Int) : Decidable (Script l n m) :=
  have _ := decRight true 0 0 n m l
  inferInstanceAs (Decidable (0 ≤ n ∧ 0 ≤ m ∧ Right true 0 0 n m l))
/-- Check's answer -/
def chk (l : List Ch) (n m : Int) : Int := @ite Int (Script l n m) (decScript l n m) 0 50
theorem chk_ok {l : List Ch} {n m : Int} (h : Script l n m) : chk l n m = 0 := if_pos h
theorem chk_no {l : List Ch} {n m : Int} (h : ¬ Script l n m) : chk l n m = 50 := if_neg h

/-- a script, piece by piece: what is kept, and the change behind it -/
def piecesL : Int → Int → Int → Int → List Ch → List (Rn × Ch)
  | a, b, n, m, [] => [(⟨a, b, n - a⟩, ⟨n, 0, m, 0⟩)]
  | a, b, n, m, c :: l => (⟨a, b, c.A - a⟩, c) :: piecesL (c.A + c.AN) (c.B + c.BN) n m l
/-- a piece that lies within n and m lines -/
def Pc (n m : Int) (x : Rn × Ch) : Prop :=
  0 ≤ x.1.a ∧ 0 ≤ x.1.b ∧ 0 ≤ x.1.n ∧ x.1.a + x.1.n ≤ n ∧ x.1.b + x.1.n ≤ m ∧ 0 ≤ x.2.B ∧ 0 ≤ x.2.BN ∧ x.2.B + x.2.BN ≤ m ∧ 0 ≤ x.2.AN ∧ x.2.AN ≤ n
theorem Right.pc {f : Bool} {a b n m : Int} {c : Ch} {l : List Ch} (h : Right f a b n m (c :: l)) (ha : 0 ≤ a) (hb : 0 ≤ b) : Pc n m (⟨a, b, c.A - a⟩, c) := by
  obtain ⟨⟨h1, h2, h3, h4⟩, h5⟩ := h
  rw [numB_iff] at h1
  have := h5.le
  refine ⟨ha, hb, ?_, ?_, ?_, ?_, ?_, ?_, ?_, ?_⟩ <;> dsimp only <;> omega
theorem Right.pcEnd {f : Bool} {a b n m : Int} (h : Right f a b n m []) (ha : 0 ≤ a) (hb : 0 ≤ b) : Pc n m (⟨a, b, n - a⟩, ⟨n, 0, m, 0⟩) := by
  obtain ⟨h1, h2, h3⟩ := h
  refine ⟨ha, hb, ?_, ?_, ?_, ?_, ?_, ?_, ?_, ?_⟩ <;> dsimp only <;> omega

/-- what a piece says of the lines of the first text -/
def pk (x : Rn × Ch) : List Int := (List.range x.1.n.toNat).map (fun (i : Nat) => x.1.b + (i : Int)) ++ List.replicate x.2.AN.toNat (-1)
/-- what is kept -/
def keepL (l : List Ch) (n m : Int) : List Int := (piecesL 0 0 n m l).flatMap pk
/-- a piece of a text -/
def cut (A : List (List UInt8)) (i n : Int) : List (List UInt8) := (A.drop i.toNat).take n.toNat
/-- what a piece of a script makes -/
def pa (A B : List (List UInt8)) (x : Rn × Ch) : List (List UInt8) := cut A x.1.a x.1.n ++ cut B x.2.B x.2.BN
/-- what a script makes -/
def applyL (l : List Ch) (A B : List (List UInt8)) : List (List UInt8) := (piecesL 0 0 A.length B.length l).flatMap (pa A B)
end Go.Proofs.YtgcccpmcbjfaaaaDoor

/- Edit scripts and the pairs that they keep: plain mathematics. Units: runs of one line; a script is made again out of its units. -/
namespace Go.Proofs.YtgcccpmcbjfaaaaDoor

/-- k pairs from a and b on -/
def un (a b : Int) : Nat → List Rn
  | 0 => []
  | k + 1 => ⟨a, b, 1⟩ :: un (a + 1) (b + 1) k
/-- the pairs of a run -/
def ex (r : Rn) : List Rn := un r.a r.b r.n.toNat
def exs (rs : List Rn) : List Rn := rs.flatMap ex
theorem exs_cons (r : Rn) (rs : List Rn) : exs (r :: rs) = ex r ++ exs rs := rfl
theorem mem_un {a b : Int} {k : Nat} {r : Rn} : r ∈ un a b k ↔ r.n = 1 ∧ a ≤ r.a ∧ r.a < a + k ∧ r.b - r.a = b - a := by
  induction k generalizing a b with
  | zero => simp [un]; omega
  | succ k ih =>
    rw [un, List.mem_cons, ih]
    constructor
    · rintro (rfl | h)
      · simp; omega
      · omega
    · rintro ⟨h1, h2, h3, h4⟩
      by_cases h : r.a = a
      · left
        obtain ⟨x, y, z⟩ := r
        simp only at *
        subst h h1
        have : y = b := by omega
        rw [this]
      · right
        omega
theorem mem_ex {p r : Rn} : r ∈ ex p ↔ r.n = 1 ∧ p.a ≤ r.a ∧ r.a < p.a + p.n.toNat ∧ r.b - r.a = p.b - p.a := mem_un
theorem mem_exs {ps : List Rn} {r : Rn} : r ∈ exs ps ↔ ∃ p ∈ ps, r ∈ ex p := by simp [exs]
theorem un_append (a b : Int) (i j : Nat) : un a b (i + j) = un a b i ++ un (a + i) (b + i) j := by
  induction i generalizing a b with
  | zero => simp [un]
  | succ i ih =>
    rw [show i + 1 + j = (i + j) + 1 by omega, un, un, ih]
    simp only [List.cons_append]
    congr 3 <;> omega

/-- rising runs, from a and b on -/
def Chain : Int → Int → List Rn → Prop
  | _, _, [] => True
  | a, b, r :: rs => a ≤ r.a ∧ b ≤ r.b ∧ 0 ≤ r.n ∧ Chain (r.a + r.n) (r.b + r.n) rs
theorem Chain.low {a b : Int} {rs : List Rn} (h : Chain a b rs) : ∀ r ∈ exs rs, r.n = 1 ∧ a ≤ r.a ∧ b ≤ r.b := by
  induction rs generalizing a b with
  | nil => simp [exs]
  | cons p rs ih =>
    obtain ⟨h1, h2, h3, h4⟩ := h
    intro r hr
    rw [exs_cons, List.mem_append, mem_ex] at hr
    rcases hr with hr | hr
    · omega
    · have := ih h4 r hr
      omega
theorem Chain.mono {a b a' b' : Int} {rs : List Rn} (h : Chain a b rs) (ha : a' ≤ a) (hb : b' ≤ b) : Chain a' b' rs := by
  cases rs with
  | nil => trivial
  | cons p rs => exact ⟨by have := h.1; omega, by have := h.2.1; omega, h.2.2⟩
/-- pairs in a rising row -/
def Up (l : List Rn) : Prop := l.Pairwise fun p q => p.a < q.a ∧ p.b < q.b
theorem up_un (a b : Int) (k : Nat) : Up (un a b k) := by
  induction k generalizing a b with
  | zero => exact List.Pairwise.nil
  | succ k ih =>
    refine List.Pairwise.cons (fun r hr => ?_) (ih _ _)
    rw [mem_un] at hr
    dsimp only
    omega
theorem Chain.up {a b : Int} {rs : List Rn} (h : Chain a b rs) : Up (exs rs) := by
  induction rs generalizing a b with
  | nil => exact List.Pairwise.nil
  | cons p rs ih =>
    obtain ⟨h1, h2, h3, h4⟩ := h
    rw [exs_cons]
    refine List.pairwise_append.2 ⟨up_un _ _ _, ih h4, fun r hr q hq => ?_⟩
    rw [mem_ex] at hr
    have := h4.low q hq
    omega
/-- two rising rows of the same pairs are one -/
theorem up_ext {l k : List Rn} (hl : Up l) (hk : Up k) (h : ∀ r, r ∈ l ↔ r ∈ k) : l = k := by
  induction l generalizing k with
  | nil =>
    cases k with
    | nil => rfl
    | cons y t => have := (h y).2 (List.mem_cons_self ..); simp at this
  | cons x t ih =>
    cases k with
    | nil => have := (h x).1 (List.mem_cons_self ..); simp at this
    | cons y u =>
      unfold Up at hl hk
      rw [List.pairwise_cons] at hl hk
      have e : x = y := by
        have h1 := (h x).1 (List.mem_cons_self ..)
        have h2 := (h y).2 (List.mem_cons_self ..)
        rw [List.mem_cons] at h1 h2
        rcases h1 with h1 | h1
        · exact h1
        · rcases h2 with h2 | h2
          · exact h2.symm
          · have := hl.1 y h2
            have := hk.1 x h1
            omega
      subst e
      rw [ih hl.2 hk.2 fun r => ?_]
      have hr := h r
      rw [List.mem_cons, List.mem_cons] at hr
      constructor
      · intro hrt
        rcases hr.1 (.inr hrt) with e | e
        · subst e; have := hl.1 _ hrt; omega
        · exact e
      · intro hru
        rcases hr.2 (.inr hru) with e | e
        · subst e; have := hk.1 _ hru; omega
        · exact e

/-- the changes between what is kept -/
def betw : Int → Int → List Rn → List Ch
  | _, _, [] => []
  | a, b, r :: rs => if a < r.a ∨ b < r.b then ⟨a, r.a - a, b, r.b - b⟩ :: betw (r.a + r.n) (r.b + r.n) rs else betw (r.a + r.n) (r.b + r.n) rs
theorem betw_un (a b : Int) (k : Nat) (e : List Rn) : betw a b (un a b k ++ e) = betw (a + k) (b + k) e := by
  induction k generalizing a b with
  | zero => simp [un]
  | succ k ih =>
    rw [un, List.cons_append, betw]
    rw [if_neg (by simp)]
    dsimp only
    rw [ih]
    congr 1 <;> omega
theorem betw_ex (a b : Int) (r : Rn) (hr : 0 < r.n) (e : List Rn) : betw a b (r :: e) = betw a b (ex r ++ e) := by
  obtain ⟨x, y, n⟩ := r
  obtain ⟨k, rfl⟩ : ∃ k : Nat, n = ((k + 1 : Nat) : Int) := ⟨n.toNat - 1, by dsimp only at hr; omega⟩
  unfold ex
  dsimp only
  rw [Int.toNat_natCast, un, List.cons_append, betw, betw]
  have h := betw_un (x + 1) (y + 1) k e
  dsimp only
  rw [h]
  rw [show x + 1 + (k : Int) = x + ((k + 1 : Nat) : Int) by omega, show y + 1 + (k : Int) = y + ((k + 1 : Nat) : Int) by omega]
theorem betw_exs (a b : Int) (rs : List Rn) (h : ∀ r ∈ rs, 0 < r.n) (e : List Rn) : betw a b (rs ++ e) = betw a b (exs rs ++ e) := by
  induction rs generalizing a b with
  | nil => rfl
  | cons r rs ih =>
    have h1 := betw_ex a b r (h r (List.mem_cons_self ..)) (exs rs ++ e)
    rw [exs_cons, List.append_assoc, ← h1, List.cons_append, betw, betw]
    have := ih (r.a + r.n) (r.b + r.n) fun q hq => h q (List.mem_cons_of_mem _ hq)
    rw [this]

/-- what a script keeps, as runs -/
def rns (a b n m : Int) (l : List Ch) : List Rn := (piecesL a b n m l).map (·.1)
/-- what a script keeps, pair by pair -/
def U (a b n m : Int) (l : List Ch) : List Rn := exs (rns a b n m l)
theorem U_nil (a b n m : Int) : U a b n m [] = un a b (n - a).toNat := by simp [U, rns, piecesL, exs, ex]
theorem U_cons (a b n m : Int) (c : Ch) (l : List Ch) : U a b n m (c :: l) = un a b (c.A - a).toNat ++ U (c.A + c.AN) (c.B + c.BN) n m l := by
  simp [U, rns, piecesL, exs, ex]
theorem Right.chain {f : Bool} {a b n m : Int} {l : List Ch} (h : Right f a b n m l) : Chain a b (rns a b n m l) := by
  induction l generalizing f a b with
  | nil =>
    obtain ⟨h1, h2, h3⟩ := h
    exact ⟨Int.le_refl _, Int.le_refl _, by dsimp only; omega, trivial⟩
  | cons c l ih =>
    obtain ⟨⟨h1, h2, h3, h4⟩, h5⟩ := h
    rw [numB_iff] at h1
    refine ⟨Int.le_refl _, Int.le_refl _, by dsimp only; omega, (ih h5).mono ?_ ?_⟩ <;> dsimp only <;> omega
theorem Right.up {f : Bool} {a b n m : Int} {l : List Ch} (h : Right f a b n m l) : Up (U a b n m l) := h.chain.up
/-- the first of what is left: a pair at hand, or the end -/
theorem Right.first {a b n m : Int} {l : List Ch} (h : Right false a b n m l) : ∃ e t, U a b n m l ++ [⟨n, m, 0⟩] = e :: t ∧ e.a = a ∧ e.b = b := by
  cases l with
  | nil =>
    obtain ⟨h1, h2, h3⟩ := h
    rw [U_nil]
    by_cases hn : n = a
    · subst hn
      exact ⟨⟨n, m, 0⟩, [], by simp [un], rfl, by dsimp only; omega⟩
    · obtain ⟨k, hk⟩ : ∃ k : Nat, (n - a).toNat = k + 1 := ⟨(n - a).toNat - 1, by omega⟩
      rw [hk, un]
      exact ⟨_, _, rfl, rfl, rfl⟩
  | cons c l =>
    obtain ⟨⟨h1, h2, h3, h4⟩, h5⟩ := h
    have hlt : a < c.A := by simpa using h4
    rw [U_cons]
    obtain ⟨k, hk⟩ : ∃ k : Nat, (c.A - a).toNat = k + 1 := ⟨(c.A - a).toNat - 1, by omega⟩
    rw [hk, un]
    exact ⟨_, _, rfl, rfl, rfl⟩
/-- a script is made again out of its pairs -/
theorem betw_U {f : Bool} {a b n m : Int} {l : List Ch} (h : Right f a b n m l) : betw a b (U a b n m l ++ [⟨n, m, 0⟩]) = l := by
  induction l generalizing f a b with
  | nil =>
    obtain ⟨h1, h2, h3⟩ := h
    rw [U_nil, betw_un, betw, if_neg (by dsimp only; omega), betw]
  | cons c l ih =>
    obtain ⟨⟨h1, h2, h3, h4⟩, h5⟩ := h
    rw [numB_iff] at h1
    have hi := ih h5
    obtain ⟨e, t, he, ha, hb⟩ := h5.first
    rw [U_cons, List.append_assoc, betw_un]
    rw [he] at hi ⊢
    rw [betw, if_neg (by omega)] at hi
    rw [betw, if_pos (by omega), hi, ha, hb]
    obtain ⟨A, AN, B, BN⟩ := c
    dsimp only at *
    congr 2 <;> omega
end Go.Proofs.YtgcccpmcbjfaaaaDoor

/- Edit scripts and the pairs that they keep, further: pairs that fit make a right script; what is kept as a list; two scripts one behind the other; going back. -/
namespace Go.Proofs.YtgcccpmcbjfaaaaDoor

/-- pairs in a rising row, from a and b on, below n and m -/
def Fit : Int → Int → Int → Int → List Rn → Prop
  | a, b, n, m, [] => a ≤ n ∧ b ≤ m
  | a, b, n, m, r :: P => a ≤ r.a ∧ b ≤ r.b ∧ r.n = 1 ∧ Fit (r.a + 1) (r.b + 1) n m P
theorem Fit.le {a b n m : Int} {P : List Rn} (h : Fit a b n m P) : a ≤ n ∧ b ≤ m := by
  induction P generalizing a b with
  | nil => exact h
  | cons r P ih => have := ih h.2.2.2; have h1 := h.1; have h2 := h.2.1; omega
theorem right_step {x y n m : Int} {l : List Ch} (h : Right true (x + 1) (y + 1) n m l) : (∀ f, Right f x y n m l) ∧ U x y n m l = ⟨x, y, 1⟩ :: U (x + 1) (y + 1) n m l := by
  cases l with
  | nil =>
    obtain ⟨h1, h2, h3⟩ := h
    refine ⟨fun f => ⟨by omega, by omega, by omega⟩, ?_⟩
    rw [U_nil, U_nil, show (n - x).toNat = (n - (x + 1)).toNat + 1 by omega, un]
  | cons c l =>
    obtain ⟨⟨h1, h2, h3, h4⟩, h5⟩ := h
    refine ⟨fun f => ⟨⟨h1, by omega, by omega, .inr (by omega)⟩, h5⟩, ?_⟩
    rw [U_cons, U_cons, show (c.A - x).toNat = (c.A - (x + 1)).toNat + 1 by omega, un, List.cons_append]
/-- pairs that fit make a right script that keeps just them -/
theorem fit_right {a b n m : Int} {P : List Rn} (h : Fit a b n m P) (ha : 0 ≤ a) (hb : 0 ≤ b) (hn : n ≤ 2147483647) (hm : m ≤ 2147483647) :
    Right true a b n m (betw a b (P ++ [⟨n, m, 0⟩])) ∧ U a b n m (betw a b (P ++ [⟨n, m, 0⟩])) = P := by
  induction P generalizing a b with
  | nil =>
    obtain ⟨h1, h2⟩ := h
    rw [List.nil_append, betw]
    dsimp only
    split
    · rw [betw]
      refine ⟨⟨⟨by rw [numB_iff]; dsimp only; omega, by dsimp only; omega, by dsimp only; omega, .inl rfl⟩, ⟨by dsimp only; omega, by dsimp only; omega, by dsimp only; omega⟩⟩, ?_⟩
      rw [U_cons, U_nil]
      dsimp only
      rw [show (a - a).toNat = 0 by omega, show (n - (a + (n - a))).toNat = 0 by omega]
      rfl
    · rw [betw]
      refine ⟨⟨h1, h2, by omega⟩, ?_⟩
      rw [U_nil, show (n - a).toNat = 0 by omega]
      rfl
  | cons r P ih =>
    obtain ⟨x, y, z⟩ := r
    obtain ⟨h1, h2, h3, h4⟩ := h
    dsimp only at h1 h2 h3 h4
    subst h3
    obtain ⟨i1, i2⟩ := ih h4 (by omega) (by omega)
    obtain ⟨s1, s2⟩ := right_step i1
    have hle := h4.le
    rw [List.cons_append, betw]
    dsimp only
    split
    · refine ⟨⟨⟨by rw [numB_iff]; dsimp only; omega, by dsimp only; omega, by dsimp only; omega, .inl rfl⟩, ?_⟩, ?_⟩
      · dsimp only
        rw [show a + (x - a) = x by omega, show b + (y - b) = y by omega]
        exact s1 false
      · rw [U_cons]
        dsimp only
        rw [show a + (x - a) = x by omega, show b + (y - b) = y by omega, s2, i2, show (a - a).toNat = 0 by omega]
        rfl
    · obtain rfl : x = a := by omega
      obtain rfl : y = b := by omega
      refine ⟨s1 true, ?_⟩
      rw [s2, i2]
theorem fit_of_up {a b n m : Int} {P : List Rn} (hu : Up P) (h : ∀ r ∈ P, r.n = 1 ∧ a ≤ r.a ∧ r.a < n ∧ b ≤ r.b ∧ r.b < m) (hn : a ≤ n) (hm : b ≤ m) : Fit a b n m P := by
  induction P generalizing a b with
  | nil => exact ⟨hn, hm⟩
  | cons r P ih =>
    unfold Up at hu
    rw [List.pairwise_cons] at hu
    have h0 := h r (List.mem_cons_self ..)
    refine ⟨h0.2.1, h0.2.2.2.1, h0.1, ih hu.2 (fun q hq => ?_) (by omega) (by omega)⟩
    have h1 := h q (List.mem_cons_of_mem _ hq)
    have h2 := hu.1 q hq
    omega
theorem Right.bounds {f : Bool} {a b n m : Int} {l : List Ch} (h : Right f a b n m l) : ∀ r ∈ U a b n m l, r.n = 1 ∧ a ≤ r.a ∧ r.a < n ∧ b ≤ r.b ∧ r.b < m := by
  induction l generalizing f a b with
  | nil =>
    obtain ⟨h1, h2, h3⟩ := h
    intro r hr
    rw [U_nil, mem_un] at hr
    omega
  | cons c l ih =>
    obtain ⟨⟨h1, h2, h3, h4⟩, h5⟩ := h
    rw [numB_iff] at h1
    have hle := h5.le
    intro r hr
    rw [U_cons, List.mem_append, mem_un] at hr
    rcases hr with hr | hr
    · omega
    · have := ih h5 r hr
      omega

/-- pairs out of what is kept as a list -/
def keptR : Int → List Int → List Rn
  | _, [] => []
  | i, z :: t => if z = -1 then keptR (i + 1) t else ⟨i, z, 1⟩ :: keptR (i + 1) t
theorem keptR_append (i : Int) (X Y : List Int) : keptR i (X ++ Y) = keptR i X ++ keptR (i + X.length) Y := by
  induction X generalizing i with
  | nil => simp [keptR]
  | cons z t ih =>
    rw [List.cons_append, keptR, keptR, ih]
    rw [show i + 1 + (t.length : Int) = i + ((z :: t).length : Int) by simp; omega]
    split <;> simp
theorem keptR_none (i : Int) (k : Nat) : keptR i (List.replicate k (-1)) = [] := by
  induction k generalizing i with
  | zero => rfl
  | succ k ih => rw [List.replicate_succ, keptR, if_pos rfl, ih]
theorem keptR_run (i b : Int) (hb : 0 ≤ b) (k : Nat) : keptR i ((List.range k).map fun (j : Nat) => b + (j : Int)) = un i b k := by
  induction k generalizing i b with
  | zero => rfl
  | succ k ih =>
    rw [List.range_succ_eq_map, List.map_cons, List.map_map, keptR, if_neg (by simp; omega), un]
    have := ih (i + 1) (b + 1) (by omega)
    rw [← this]
    simp only [Int.natCast_zero, Int.add_zero]
    congr 2
    apply List.map_congr_left
    intro j _
    simp
    omega
theorem mem_keptR {i : Int} {K : List Int} {r : Rn} : r ∈ keptR i K ↔ r.n = 1 ∧ i ≤ r.a ∧ K[(r.a - i).toNat]? = some r.b ∧ r.b ≠ -1 := by
  induction K generalizing i with
  | nil => simp [keptR]
  | cons z t ih =>
    rw [keptR]
    have key : (r.n = 1 ∧ i + 1 ≤ r.a ∧ t[(r.a - (i + 1)).toNat]? = some r.b ∧ r.b ≠ -1) ↔ (r.n = 1 ∧ i + 1 ≤ r.a ∧ (z :: t)[(r.a - i).toNat]? = some r.b ∧ r.b ≠ -1) := by
      by_cases h : i + 1 ≤ r.a
      · rw [show (r.a - i).toNat = (r.a - (i + 1)).toNat + 1 by omega, List.getElem?_cons_succ]
      · constructor <;> (intro h1; omega)
    split
    · rename_i hz
      rw [ih, key]
      constructor
      · rintro ⟨h1, h2, h3, h4⟩
        exact ⟨h1, by omega, h3, h4⟩
      · rintro ⟨h1, h2, h3, h4⟩
        refine ⟨h1, ?_, h3, h4⟩
        by_cases h : r.a = i
        · rw [show (r.a - i).toNat = 0 by omega, List.getElem?_cons_zero, Option.some_inj] at h3
          omega
        · omega
    · rename_i hz
      rw [List.mem_cons, ih, key]
      constructor
      · rintro (rfl | ⟨h1, h2, h3, h4⟩)
        · simp [hz]
        · exact ⟨h1, by omega, h3, h4⟩
      · rintro ⟨h1, h2, h3, h4⟩
        by_cases h : r.a = i
        · left
          rw [show (r.a - i).toNat = 0 by omega, List.getElem?_cons_zero, Option.some_inj] at h3
          obtain ⟨x, y, w⟩ := r
          dsimp only at *
          rw [h, h1, h3]
        · exact .inr ⟨h1, by omega, h3, h4⟩
theorem keptR_ge {i : Int} {K : List Int} : ∀ r ∈ keptR i K, i ≤ r.a := fun _ hr => (mem_keptR.1 hr).2.1
/-- in order of the first text -/
def UpA (l : List Rn) : Prop := l.Pairwise fun p q => p.a < q.a
theorem Up.a {l : List Rn} (h : Up l) : UpA l := h.imp fun h => h.1
theorem keptR_up (i : Int) (K : List Int) : UpA (keptR i K) := by
  induction K generalizing i with
  | nil => exact List.Pairwise.nil
  | cons z t ih =>
    rw [keptR]
    split
    · exact ih _
    · exact List.Pairwise.cons (fun r hr => by have := keptR_ge r hr; dsimp only; omega) (ih _)
theorem upA_ext {l k : List Rn} (hl : UpA l) (hk : UpA k) (h : ∀ r, r ∈ l ↔ r ∈ k) : l = k := by
  induction l generalizing k with
  | nil =>
    cases k with
    | nil => rfl
    | cons y t => have := (h y).2 (List.mem_cons_self ..); simp at this
  | cons x t ih =>
    cases k with
    | nil => have := (h x).1 (List.mem_cons_self ..); simp at this
    | cons y u =>
      unfold UpA at hl hk
      rw [List.pairwise_cons] at hl hk
      have e : x = y := by
        have h1 := (h x).1 (List.mem_cons_self ..)
        have h2 := (h y).2 (List.mem_cons_self ..)
        rw [List.mem_cons] at h1 h2
        rcases h1 with h1 | h1
        · exact h1
        · rcases h2 with h2 | h2
          · exact h2.symm
          · have := hl.1 y h2
            have := hk.1 x h1
            omega
      subst e
      rw [ih hl.2 hk.2 fun r => ?_]
      have hr := h r
      rw [List.mem_cons, List.mem_cons] at hr
      constructor
      · intro hrt
        rcases hr.1 (.inr hrt) with e | e
        · subst e; have := hl.1 _ hrt; omega
        · exact e
      · intro hru
        rcases hr.2 (.inr hru) with e | e
        · subst e; have := hk.1 _ hru; omega
        · exact e

/-- what the rest of a script keeps -/
def kr (a b n m : Int) (l : List Ch) : List Int := (piecesL a b n m l).flatMap pk
theorem kr_nil (a b n m : Int) : kr a b n m [] = (List.range (n - a).toNat).map fun (j : Nat) => b + (j : Int) := by simp [kr, piecesL, pk]
theorem kr_cons (a b n m : Int) (c : Ch) (l : List Ch) : kr a b n m (c :: l) = ((List.range (c.A - a).toNat).map fun (j : Nat) => b + (j : Int)) ++ List.replicate c.AN.toNat (-1) ++ kr (c.A + c.AN) (c.B + c.BN) n m l := by
  simp [kr, piecesL, pk]
theorem kr_length {f : Bool} {a b n m : Int} {l : List Ch} (h : Right f a b n m l) : (kr a b n m l).length = (n - a).toNat := by
  induction l generalizing f a b with
  | nil => rw [kr_nil]; simp
  | cons c l ih =>
    obtain ⟨⟨h1, h2, h3, h4⟩, h5⟩ := h
    rw [numB_iff] at h1
    have hle := h5.le
    rw [kr_cons]
    simp only [List.length_append, List.length_map, List.length_range, List.length_replicate, ih h5]
    omega
theorem kr_kept {f : Bool} {a b n m : Int} {l : List Ch} (h : Right f a b n m l) (hb : 0 ≤ b) : keptR a (kr a b n m l) = U a b n m l := by
  induction l generalizing f a b with
  | nil => rw [kr_nil, U_nil, keptR_run _ _ hb]
  | cons c l ih =>
    obtain ⟨⟨h1, h2, h3, h4⟩, h5⟩ := h
    rw [numB_iff] at h1
    rw [kr_cons, U_cons, keptR_append, keptR_append, keptR_run _ _ hb, keptR_none, List.append_nil]
    simp only [List.length_append, List.length_map, List.length_range, List.length_replicate]
    rw [show a + (((c.A - a).toNat + c.AN.toNat : Nat) : Int) = c.A + c.AN by omega, ih h5 (by omega)]
theorem kr_each {f : Bool} {a b n m : Int} {l : List Ch} (h : Right f a b n m l) (hb : 0 ≤ b) : ∀ z ∈ kr a b n m l, z = -1 ∨ (0 ≤ z ∧ z < m) := by
  induction l generalizing f a b with
  | nil =>
    obtain ⟨h1, h2, h3⟩ := h
    intro z hz
    rw [kr_nil, List.mem_map] at hz
    obtain ⟨j, hj, rfl⟩ := hz
    rw [List.mem_range] at hj
    omega
  | cons c l ih =>
    obtain ⟨⟨h1, h2, h3, h4⟩, h5⟩ := h
    rw [numB_iff] at h1
    have hle := h5.le
    intro z hz
    rw [kr_cons, List.mem_append, List.mem_append, List.mem_map] at hz
    rcases hz with (⟨j, hj, rfl⟩ | hz) | hz
    · rw [List.mem_range] at hj
      omega
    · exact .inl (List.eq_of_mem_replicate hz)
    · exact ih h5 (by omega) z hz
/-- a list of what is kept is told by its pairs and its length -/
theorem kept_inj {i : Int} {K L : List Int} (hl : K.length = L.length) (h : keptR i K = keptR i L) : K = L := by
  apply List.ext_getElem? 
  intro k
  by_cases hk : k < K.length
  · have hk' : k < L.length := by omega
    rw [List.getElem?_eq_getElem hk, List.getElem?_eq_getElem hk', Option.some_inj]
    have h1 : ∀ z, z ≠ -1 → (K[k]? = some z ↔ L[k]? = some z) := by
      intro z hz
      have m1 := mem_keptR (i := i) (K := K) (r := ⟨i + k, z, 1⟩)
      have m2 := mem_keptR (i := i) (K := L) (r := ⟨i + k, z, 1⟩)
      dsimp only at m1 m2
      rw [show (i + (k : Int) - i).toNat = k by omega] at m1 m2
      rw [h, m2] at m1
      constructor
      · intro h3
        exact (m1.2 ⟨rfl, by omega, h3, hz⟩).2.2.1
      · intro h3
        exact (m1.1 ⟨rfl, by omega, h3, hz⟩).2.2.1
    by_cases e : K[k] = -1
    · by_cases e2 : L[k] = -1
      · rw [e, e2]
      · have := (h1 L[k] e2).2 (List.getElem?_eq_getElem hk')
        rw [List.getElem?_eq_getElem hk, Option.some_inj] at this
        exact this
    · have := (h1 K[k] e).1 (List.getElem?_eq_getElem hk)
      rw [List.getElem?_eq_getElem hk', Option.some_inj] at this
      exact this.symm
  · rw [List.getElem?_eq_none (by omega), List.getElem?_eq_none (by omega)]

/-- lists of what is kept that make a script: each number from nx on, below m, rising -/
def Vk : Int → Int → List Int → Prop
  | _, _, [] => True
  | nx, m, z :: t => (z = -1 ∧ Vk nx m t) ∨ (z ≠ -1 ∧ nx ≤ z ∧ z < m ∧ Vk (z + 1) m t)
theorem Vk.fit {nx m i : Int} {K : List Int} (h : Vk nx m K) (hm : nx ≤ m) : Fit i nx (i + K.length) m (keptR i K) := by
  have wk : ∀ {a b n m : Int} {P : List Rn}, Fit (a + 1) b n m P → Fit a b n m P := by
    intro a b n m P h
    cases P with
    | nil => exact ⟨by have := h.1; omega, h.2⟩
    | cons r P => exact ⟨by have := h.1; omega, h.2⟩
  induction K generalizing nx i with
  | nil => exact ⟨by simp, hm⟩
  | cons z t ih =>
    rw [keptR]
    rcases h with ⟨rfl, h⟩ | ⟨hz, h1, h2, h3⟩
    · rw [if_pos rfl]
      have := ih h hm (i := i + 1)
      rw [show i + 1 + (t.length : Int) = i + ((-1 :: t).length : Int) by simp; omega] at this
      exact wk this
    · rw [if_neg hz]
      have := ih h3 (by omega) (i := i + 1)
      rw [show i + 1 + (t.length : Int) = i + ((z :: t).length : Int) by simp; omega] at this
      exact ⟨Int.le_refl _, h1, rfl, this⟩
theorem Vk.each {nx m : Int} {K : List Int} (h : Vk nx m K) (h0 : 0 ≤ nx) : ∀ z ∈ K, z = -1 ∨ 0 ≤ z := by
  induction K generalizing nx with
  | nil => simp
  | cons y t ih =>
    intro z hz
    rw [List.mem_cons] at hz
    rcases h with ⟨rfl, h⟩ | ⟨hy, h1, h2, h3⟩
    · rcases hz with rfl | hz
      · exact .inl rfl
      · exact ih h h0 z hz
    · rcases hz with rfl | hz
      · right; omega
      · exact ih h3 (by omega) z hz
theorem vk_of_fit {i nx n m : Int} {K : List Int} (h : Fit i nx n m (keptR i K)) : Vk nx m K := by
  induction K generalizing i nx with
  | nil => trivial
  | cons z t ih =>
    rw [keptR] at h
    by_cases hz : z = -1
    · rw [if_pos hz] at h
      left
      refine ⟨hz, ?_⟩
      by_cases hin : i + 1 ≤ n
      · refine ih (i := i + 1) ?_
        revert h
        have hge := keptR_ge (i := i + 1) (K := t)
        generalize keptR (i + 1) t = P at hge ⊢
        intro h
        cases P with
        | nil => exact ⟨hin, h.2⟩
        | cons r P => exact ⟨hge r (List.mem_cons_self ..), h.2⟩
      · have hge := keptR_ge (i := i + 1) (K := t)
        have hnil : keptR (i + 1) t = [] := by
          cases hk : keptR (i + 1) t with
          | nil => rfl
          | cons r P =>
            rw [hk] at h hge
            have := hge r (List.mem_cons_self ..)
            have := h.2.2.2.le
            omega
        have hall : ∀ z ∈ t, z = -1 := by
          intro z hz
          obtain ⟨k, hk⟩ := List.getElem?_of_mem hz
          apply Classical.byContradiction
          intro hne
          have := mem_keptR (i := i + 1) (K := t) (r := ⟨i + 1 + k, z, 1⟩)
          dsimp only at this
          rw [hnil, show (i + 1 + (k : Int) - (i + 1)).toNat = k by omega] at this
          have := this.2 ⟨rfl, by omega, hk, hne⟩
          simp at this
        clear hnil hge h ih
        induction t with
        | nil => trivial
        | cons y t ih => exact .inl ⟨hall y (List.mem_cons_self ..), ih fun z hz => hall z (List.mem_cons_of_mem _ hz)⟩
    · rw [if_neg hz] at h
      obtain ⟨h1, h2, h3, h4⟩ := h
      dsimp only at h1 h2 h4
      exact .inr ⟨hz, h2, by have := h4.le; omega, ih h4⟩
end Go.Proofs.YtgcccpmcbjfaaaaDoor

/- Two scripts one behind the other: the pairs of both; associative, and one that keeps all adds nothing. -/
namespace Go.Proofs.YtgcccpmcbjfaaaaDoor

/-- what two scripts keep, run by run -/
def bothR : List Rn → List Rn → List Rn
  | [], _ => []
  | _ :: _, [] => []
  | p :: x, q :: y =>
    (if max p.b q.a < min (p.b + p.n) (q.a + q.n) then [⟨p.a + (max p.b q.a - p.b), q.b + (max p.b q.a - q.a), min (p.b + p.n) (q.a + q.n) - max p.b q.a⟩] else []) ++
      if min (p.b + p.n) (q.a + q.n) = p.b + p.n then bothR x (q :: y) else bothR (p :: x) y

theorem up_cmp {l : List Rn} (h : Up l) : ∀ r ∈ l, ∀ s ∈ l, r = s ∨ (r.a < s.a ∧ r.b < s.b) ∨ (s.a < r.a ∧ s.b < r.b) := by
  induction l with
  | nil => simp
  | cons x t ih =>
    unfold Up at h
    rw [List.pairwise_cons] at h
    intro r hr s hs
    rw [List.mem_cons] at hr hs
    rcases hr with rfl | hr
    · rcases hs with rfl | hs
      · exact .inl rfl
      · exact .inr (.inl (h.1 s hs))
    · rcases hs with rfl | hs
      · exact .inr (.inr (h.1 r hr))
      · exact ih h.2 r hr s hs
theorem exs_append (x y : List Rn) : exs (x ++ y) = exs x ++ exs y := by simp [exs]
theorem exs_one (r : Rn) : exs [r] = ex r := by simp [exs]

theorem both_head (p q : Rn) (hp : 0 ≤ p.n) (hq : 0 ≤ q.n) (i j : Int) : (⟨i, j, 1⟩ : Rn) ∈ exs (if max p.b q.a < min (p.b + p.n) (q.a + q.n) then [⟨p.a + (max p.b q.a - p.b), q.b + (max p.b q.a - q.a), min (p.b + p.n) (q.a + q.n) - max p.b q.a⟩] else []) ↔ ∃ t, (⟨i, t, 1⟩ : Rn) ∈ ex p ∧ (⟨t, j, 1⟩ : Rn) ∈ ex q := by
  obtain ⟨F, hF, f1, f2, f3⟩ : ∃ F, max p.b q.a = F ∧ p.b ≤ F ∧ q.a ≤ F ∧ (F = p.b ∨ F = q.a) := ⟨_, rfl, by omega, by omega, by omega⟩
  obtain ⟨T, hT, t1, t2, t3⟩ : ∃ T, min (p.b + p.n) (q.a + q.n) = T ∧ T ≤ p.b + p.n ∧ T ≤ q.a + q.n ∧ (T = p.b + p.n ∨ T = q.a + q.n) := ⟨_, rfl, by omega, by omega, by omega⟩
  rw [hF, hT]
  clear hF hT
  simp only [mem_ex]
  obtain ⟨k, hk⟩ : ∃ k : Nat, p.n.toNat = k := ⟨_, rfl⟩
  obtain ⟨o, ho⟩ : ∃ o : Nat, q.n.toNat = o := ⟨_, rfl⟩
  have hk' : p.n = k := by omega
  have ho' : q.n = o := by omega
  rw [hk, ho]
  rw [hk'] at t1 t3
  rw [ho'] at t2 t3
  split
  · rw [exs_one, mem_ex]
    dsimp only
    obtain ⟨u, hu⟩ : ∃ u : Nat, (T - F).toNat = u := ⟨_, rfl⟩
    have hu' : T - F = u := by omega
    rw [hu]
    constructor
    · rintro ⟨_, h1, h2, h3⟩
      exact ⟨i - p.a + p.b, ⟨trivial, by omega, by omega, by omega⟩, trivial, by omega, by omega, by omega⟩
    · rintro ⟨t, ⟨_, h1, h2, h3⟩, _, h4, h5, h6⟩
      exact ⟨rfl, by omega, by omega, by omega⟩
  · constructor
    · intro h; simp [exs] at h
    · rintro ⟨t, ⟨_, h1, h2, h3⟩, _, h4, h5, h6⟩
      omega

theorem both_spec (X Y : List Rn) (a b c d : Int) (hX : Chain a b X) (hY : Chain c d Y) :
    (∀ i j, (⟨i, j, 1⟩ : Rn) ∈ exs (bothR X Y) ↔ ∃ t, (⟨i, t, 1⟩ : Rn) ∈ exs X ∧ (⟨t, j, 1⟩ : Rn) ∈ exs Y) ∧ (∀ r ∈ bothR X Y, 0 < r.n) ∧ Up (exs (bothR X Y)) := by
  induction X, Y using bothR.induct generalizing a b c d with
  | case1 Y => rw [bothR]; exact ⟨by simp [exs], by simp, List.Pairwise.nil⟩
  | case2 p x => rw [bothR]; exact ⟨by simp [exs], by simp, List.Pairwise.nil⟩
  | case3 p x q y ih1 ih2 =>
    by_cases hto : min (p.b + p.n) (q.a + q.n) = p.b + p.n
    · have ih := ih1
      obtain ⟨x1, x2, x3, x4⟩ := hX
      have hY0 := hY
      obtain ⟨y1, y2, y3, y4⟩ := hY
      obtain ⟨i1, i2, i3⟩ := ih _ _ _ _ x4 hY0
      rw [bothR, if_pos hto]
      have hhead : ∀ i j, (⟨i, j, 1⟩ : Rn) ∈ exs (if max p.b q.a < min (p.b + p.n) (q.a + q.n) then [⟨p.a + (max p.b q.a - p.b), q.b + (max p.b q.a - q.a), min (p.b + p.n) (q.a + q.n) - max p.b q.a⟩] else []) ↔ ∃ t, (⟨i, t, 1⟩ : Rn) ∈ ex p ∧ (⟨t, j, 1⟩ : Rn) ∈ ex q := both_head p q x3 y3
      refine ⟨fun i j => ?_, fun r hr => ?_, ?_⟩
      · rw [exs_append, List.mem_append, hhead, i1]
        constructor
        · rintro (⟨t, h1, h2⟩ | ⟨t, h1, h2⟩)
          · exact ⟨t, by rw [exs_cons]; exact List.mem_append_left _ h1, by rw [exs_cons]; exact List.mem_append_left _ h2⟩
          · exact ⟨t, by rw [exs_cons]; exact List.mem_append_right _ h1, h2⟩
        · rintro ⟨t, h1, h2⟩
          rw [exs_cons, List.mem_append] at h1
          rcases h1 with h1 | h1
          · rw [exs_cons, List.mem_append] at h2
            rcases h2 with h2 | h2
            · exact .inl ⟨t, h1, h2⟩
            · rw [mem_ex] at h1
              have := y4.low _ h2
              dsimp only at h1 this
              omega
          · exact .inr ⟨t, h1, h2⟩
      · rw [List.mem_append] at hr
        rcases hr with hr | hr
        · split at hr
          · rw [List.mem_singleton] at hr
            subst hr
            dsimp only
            omega
          · simp at hr
        · exact i2 r hr
      · rw [exs_append]
        refine List.pairwise_append.2 ⟨?_, i3, fun r hr s hs => ?_⟩
        · split
          · rw [exs_one]; exact up_un _ _ _
          · exact List.Pairwise.nil
        · obtain ⟨i, j, z⟩ := r
          have hz : z = 1 := by
            split at hr
            · rw [exs_one, mem_ex] at hr; exact hr.1
            · simp [exs] at hr
          subst hz
          obtain ⟨t, h1, h2⟩ := (hhead i j).1 hr
          obtain ⟨i', j', z'⟩ := s
          have hz' : z' = 1 := by
            rw [mem_exs] at hs
            obtain ⟨p', _, hp⟩ := hs
            rw [mem_ex] at hp
            exact hp.1
          subst hz'
          obtain ⟨t', h3, h4⟩ := (i1 i' j').1 hs
          have l3 := x4.low _ h3
          rw [mem_ex] at h1
          dsimp only at h1 l3 ⊢
          refine ⟨by omega, ?_⟩
          have hc := up_cmp hY0.up ⟨t, j, 1⟩ (by rw [exs_cons]; exact List.mem_append_left _ h2) ⟨t', j', 1⟩ h4
          rcases hc with hc | hc | hc
          · cases hc; omega
          · exact hc.2
          · dsimp only at hc; omega
    · have ih := ih2
      have hX0 := hX
      obtain ⟨x1, x2, x3, x4⟩ := hX
      obtain ⟨y1, y2, y3, y4⟩ := hY
      obtain ⟨i1, i2, i3⟩ := ih _ _ _ _ hX0 y4
      rw [bothR, if_neg hto]
      have hhead : ∀ i j, (⟨i, j, 1⟩ : Rn) ∈ exs (if max p.b q.a < min (p.b + p.n) (q.a + q.n) then [⟨p.a + (max p.b q.a - p.b), q.b + (max p.b q.a - q.a), min (p.b + p.n) (q.a + q.n) - max p.b q.a⟩] else []) ↔ ∃ t, (⟨i, t, 1⟩ : Rn) ∈ ex p ∧ (⟨t, j, 1⟩ : Rn) ∈ ex q := both_head p q x3 y3
      refine ⟨fun i j => ?_, fun r hr => ?_, ?_⟩
      · rw [exs_append, List.mem_append, hhead, i1]
        constructor
        · rintro (⟨t, h1, h2⟩ | ⟨t, h1, h2⟩)
          · exact ⟨t, by rw [exs_cons]; exact List.mem_append_left _ h1, by rw [exs_cons]; exact List.mem_append_left _ h2⟩
          · exact ⟨t, h1, by rw [exs_cons]; exact List.mem_append_right _ h2⟩
        · rintro ⟨t, h1, h2⟩
          rw [exs_cons, List.mem_append] at h2
          rcases h2 with h2 | h2
          · rw [exs_cons, List.mem_append] at h1
            rcases h1 with h1 | h1
            · exact .inl ⟨t, h1, h2⟩
            · rw [mem_ex] at h2
              have := x4.low _ h1
              dsimp only at h2 this
              omega
          · exact .inr ⟨t, h1, h2⟩
      · rw [List.mem_append] at hr
        rcases hr with hr | hr
        · split at hr
          · rw [List.mem_singleton] at hr
            subst hr
            dsimp only
            omega
          · simp at hr
        · exact i2 r hr
      · rw [exs_append]
        refine List.pairwise_append.2 ⟨?_, i3, fun r hr s hs => ?_⟩
        · split
          · rw [exs_one]; exact up_un _ _ _
          · exact List.Pairwise.nil
        · obtain ⟨i, j, z⟩ := r
          have hz : z = 1 := by
            split at hr
            · rw [exs_one, mem_ex] at hr; exact hr.1
            · simp [exs] at hr
          subst hz
          obtain ⟨t, h1, h2⟩ := (hhead i j).1 hr
          obtain ⟨i', j', z'⟩ := s
          have hz' : z' = 1 := by
            rw [mem_exs] at hs
            obtain ⟨p', _, hp⟩ := hs
            rw [mem_ex] at hp
            exact hp.1
          subst hz'
          obtain ⟨t', h3, h4⟩ := (i1 i' j').1 hs
          have l4 := y4.low _ h4
          rw [mem_ex] at h2
          dsimp only at h2 l4 ⊢
          refine ⟨?_, by omega⟩
          have hc := up_cmp hX0.up ⟨i, t, 1⟩ (by rw [exs_cons]; exact List.mem_append_left _ h1) ⟨i', t', 1⟩ h3
          rcases hc with hc | hc | hc
          · cases hc; omega
          · exact hc.1
          · dsimp only at hc; omega

/-- the pairs of two scripts, one behind the other -/
def compP (x y : List Ch) (n m k : Int) : List Rn := exs (bothR (rns 0 0 n m x) (rns 0 0 m k y))
/-- two scripts, one behind the other -/
def compS (x y : List Ch) (n m k : Int) : List Ch := betw 0 0 (bothR (rns 0 0 n m x) (rns 0 0 m k y) ++ [⟨n, k, 0⟩])
section
variable {x y : List Ch} {n m k : Int}
theorem comp_spec (hx : Script x n m) (hy : Script y m k) : (∀ i j, (⟨i, j, 1⟩ : Rn) ∈ compP x y n m k ↔ ∃ t, (⟨i, t, 1⟩ : Rn) ∈ U 0 0 n m x ∧ (⟨t, j, 1⟩ : Rn) ∈ U 0 0 m k y) ∧ Up (compP x y n m k) ∧ compS x y n m k = betw 0 0 (compP x y n m k ++ [⟨n, k, 0⟩]) := by
  obtain ⟨h1, h2, h3⟩ := both_spec _ _ _ _ _ _ hx.2.2.chain hy.2.2.chain
  exact ⟨h1, h3, betw_exs _ _ _ h2 _⟩
theorem comp_unit : ∀ r ∈ compP x y n m k, r.n = 1 := by
  intro r hr
  unfold compP at hr
  rw [mem_exs] at hr
  obtain ⟨p, _, hp⟩ := hr
  rw [mem_ex] at hp
  exact hp.1
theorem comp_fit (hx : Script x n m) (hy : Script y m k) : Fit 0 0 n k (compP x y n m k) := by
  obtain ⟨h1, h2, _⟩ := comp_spec hx hy
  refine fit_of_up h2 (fun r hr => ?_) hx.1 hy.2.1
  have hu := comp_unit r hr
  obtain ⟨i, j, z⟩ := r
  dsimp only at hu
  subst hu
  obtain ⟨t, q1, q2⟩ := (h1 i j).1 hr
  have b1 := hx.2.2.bounds _ q1
  have b2 := hy.2.2.bounds _ q2
  dsimp only at b1 b2 ⊢
  omega
theorem comp_script (hx : Script x n m) (hy : Script y m k) (hn : n ≤ 2147483647) (hk : k ≤ 2147483647) : Script (compS x y n m k) n k ∧ U 0 0 n k (compS x y n m k) = compP x y n m k := by
  obtain ⟨_, _, h3⟩ := comp_spec hx hy
  rw [h3]
  have := fit_right (comp_fit hx hy) (Int.le_refl _) (Int.le_refl _) hn hk
  exact ⟨⟨hx.1, hy.2.1, this.1⟩, this.2⟩
end
theorem unit_ext {P Q : List Rn} (hP : UpA P) (hQ : UpA Q) (p1 : ∀ r ∈ P, r.n = 1) (q1 : ∀ r ∈ Q, r.n = 1) (h : ∀ i j, (⟨i, j, 1⟩ : Rn) ∈ P ↔ (⟨i, j, 1⟩ : Rn) ∈ Q) : P = Q := by
  refine upA_ext hP hQ fun r => ?_
  obtain ⟨i, j, z⟩ := r
  constructor
  · intro hr
    have : z = 1 := p1 _ hr
    subst this
    exact (h i j).1 hr
  · intro hr
    have : z = 1 := q1 _ hr
    subst this
    exact (h i j).2 hr
theorem U_unit {f : Bool} {a b n m : Int} {l : List Ch} (h : Right f a b n m l) : ∀ r ∈ U a b n m l, r.n = 1 := fun r hr => (h.bounds r hr).1
/-- putting together is associative -/
theorem comp_assoc {x y z : List Ch} {n m k o : Int} (hx : Script x n m) (hy : Script y m k) (hz : Script z k o) (hn : n ≤ 2147483647) (hm : m ≤ 2147483647) (hk : k ≤ 2147483647) (ho : o ≤ 2147483647) :
    compS (compS x y n m k) z n k o = compS x (compS y z m k o) n m o := by
  obtain ⟨s1, u1⟩ := comp_script hx hy hn hk
  obtain ⟨s2, u2⟩ := comp_script hy hz hm ho
  obtain ⟨m1, p1, e1⟩ := comp_spec s1 hz
  obtain ⟨m2, p2, e2⟩ := comp_spec hx s2
  rw [e1, e2]
  congr 2
  refine unit_ext p1.a p2.a comp_unit comp_unit fun i j => ?_
  rw [m1, m2, u1, u2]
  constructor
  · rintro ⟨t, h1, h2⟩
    obtain ⟨s, h3, h4⟩ := ((comp_spec hx hy).1 i t).1 h1
    exact ⟨s, h3, ((comp_spec hy hz).1 s j).2 ⟨t, h4, h2⟩⟩
  · rintro ⟨s, h3, h4⟩
    obtain ⟨t, h5, h6⟩ := ((comp_spec hy hz).1 s j).1 h4
    exact ⟨t, ((comp_spec hx hy).1 i t).2 ⟨s, h3, h5⟩, h6⟩
theorem nil_script {n : Int} (h : 0 ≤ n) : Script [] n n := ⟨h, h, h, h, rfl⟩
theorem comp_nil {x : List Ch} {n m : Int} (hx : Script x n m) : compS x [] n m m = x := by
  have hy := nil_script hx.2.1
  obtain ⟨m1, p1, e1⟩ := comp_spec hx hy
  rw [e1]
  have : compP x [] n m m = U 0 0 n m x := by
    refine unit_ext p1.a hx.2.2.up.a comp_unit (U_unit hx.2.2) fun i j => ?_
    rw [m1]
    constructor
    · rintro ⟨t, h1, h2⟩
      rw [U_nil, mem_un] at h2
      dsimp only at h2
      obtain rfl : t = j := by omega
      exact h1
    · intro h
      refine ⟨j, h, ?_⟩
      have := hx.2.2.bounds _ h
      rw [U_nil, mem_un]
      dsimp only at this ⊢
      omega
  rw [this, betw_U hx.2.2]
theorem nil_comp {x : List Ch} {n m : Int} (hx : Script x n m) : compS [] x n n m = x := by
  have hy := nil_script hx.1
  obtain ⟨m1, p1, e1⟩ := comp_spec hy hx
  rw [e1]
  have : compP [] x n n m = U 0 0 n m x := by
    refine unit_ext p1.a hx.2.2.up.a comp_unit (U_unit hx.2.2) fun i j => ?_
    rw [m1]
    constructor
    · rintro ⟨t, h1, h2⟩
      rw [U_nil, mem_un] at h1
      dsimp only at h1
      obtain rfl : t = i := by omega
      exact h2
    · intro h
      refine ⟨i, ?_, h⟩
      have := hx.2.2.bounds _ h
      rw [U_nil, mem_un]
      dsimp only at this ⊢
      omega
  rw [this, betw_U hx.2.2]

/-- two lists of what is kept, one behind the other -/
def compK (p q : List Int) : List Int := p.map fun z => if 0 ≤ z then q.getD z.toNat (-1) else -1
theorem compK_kept {x y : List Ch} {n m k : Int} (hx : Script x n m) (hy : Script y m k) : keptR 0 (compK (kr 0 0 n m x) (kr 0 0 m k y)) = compP x y n m k := by
  obtain ⟨m1, p1, _⟩ := comp_spec hx hy
  refine unit_ext (keptR_up _ _) p1.a (fun r hr => (mem_keptR.1 hr).1) comp_unit fun i j => ?_
  rw [m1]
  rw [← kr_kept hx.2.2 (Int.le_refl _), ← kr_kept hy.2.2 (Int.le_refl _)]
  simp only [mem_keptR]
  have hp := kr_each hx.2.2 (Int.le_refl _)
  have hq := kr_each hy.2.2 (Int.le_refl _)
  have hql := kr_length hy.2.2
  generalize kr 0 0 n m x = p at *
  generalize kr 0 0 m k y = q at *
  simp only [compK, List.getElem?_map, true_and, Int.sub_zero]
  constructor
  · rintro ⟨h1, h2, h3⟩
    cases hz : p[i.toNat]? with
    | none => rw [hz] at h2; simp at h2
    | some z =>
      rw [hz] at h2
      simp only [Option.map_some, Option.some_inj] at h2
      split at h2
      · rename_i h0
        refine ⟨z, ⟨h1, rfl, by omega⟩, h0, ?_, h3⟩
        rw [List.getD, ] at h2
        cases hq2 : q[z.toNat]? with
        | none => rw [hq2] at h2; simp at h2; omega
        | some w => rw [hq2] at h2; simp at h2; rw [h2]
      · omega
  · rintro ⟨t, ⟨h1, h2, h3⟩, h4, h5, h6⟩
    refine ⟨h1, ?_, h6⟩
    rw [h2]
    simp only [Option.map_some, Option.some_inj]
    rw [if_pos h4, List.getD, h5]
    rfl
end Go.Proofs.YtgcccpmcbjfaaaaDoor

/- Going back, what a script costs, and what it reaches: plain mathematics. -/
namespace Go.Proofs.YtgcccpmcbjfaaaaDoor

/-- a change the other way round -/
def inv (c : Ch) : Ch := ⟨c.B, c.BN, c.A, c.AN⟩
def invL (l : List Ch) : List Ch := l.map inv
def sw (r : Rn) : Rn := ⟨r.b, r.a, r.n⟩
theorem inv_inv (c : Ch) : inv (inv c) = c := rfl
theorem invL_invL (l : List Ch) : invL (invL l) = l := by simp [invL, Function.comp_def, inv_inv]
theorem numB_inv (c : Ch) : numB (inv c) = true ↔ numB c = true := by
  rw [numB_iff, numB_iff]
  simp only [inv]
  omega
theorem Right.inv {f : Bool} {a b n m : Int} {l : List Ch} (h : Right f a b n m l) : Right f b a m n (invL l) := by
  induction l generalizing f a b with
  | nil => exact ⟨h.2.1, h.1, by have := h.2.2; omega⟩
  | cons c l ih =>
    obtain ⟨⟨h1, h2, h3, h4⟩, h5⟩ := h
    refine ⟨⟨(numB_inv c).2 h1, ?_, ?_, ?_⟩, ih h5⟩
    · show c.B - b = c.A - a; omega
    · show b ≤ c.B; omega
    · rcases h4 with h4 | h4
      · exact .inl h4
      · right; show b < c.B; omega
theorem Script.inv {n m : Int} {l : List Ch} (h : Script l n m) : Script (invL l) m n := ⟨h.2.1, h.1, h.2.2.inv⟩
theorem un_sw (a b : Int) (k : Nat) : (un a b k).map sw = un b a k := by
  induction k generalizing a b with
  | zero => rfl
  | succ k ih => rw [un, un, List.map_cons, ih]; rfl
theorem U_inv {f : Bool} {a b n m : Int} {l : List Ch} (h : Right f a b n m l) : U b a m n (invL l) = (U a b n m l).map sw := by
  induction l generalizing f a b with
  | nil =>
    obtain ⟨h1, h2, h3⟩ := h
    rw [invL, List.map_nil, U_nil, U_nil, un_sw, h3]
  | cons c l ih =>
    obtain ⟨⟨h1, h2, h3, h4⟩, h5⟩ := h
    have := ih h5
    unfold invL at this ⊢
    rw [List.map_cons, U_cons, U_cons, List.map_append, un_sw, ← this, h2]
    rfl

/-- a cost with some lines on top -/
def mo (s z : Int) : Int := s + min (max z 0) (2147483647 - s)
def costF : Int → List Ch → Int
  | s, [] => s
  | s, c :: l => costF (mo (mo s c.AN) c.BN) l
theorem mo_range {s z : Int} (h0 : 0 ≤ s) (h1 : s ≤ 2147483647) : 0 ≤ mo s z ∧ mo s z ≤ 2147483647 := by unfold mo; omega
theorem mo_add {s z : Int} (h0 : 0 ≤ z) (h1 : s + z ≤ 2147483647) : mo s z = s + z := by unfold mo; omega
theorem cost_right {f : Bool} {a b n m s : Int} {l : List Ch} (h : Right f a b n m l) (h0 : 0 ≤ s) (hs : s + (n - a) + (m - b) ≤ 2147483647) : costF s l = s + (n - a) + (m - b) - 2 * (U a b n m l).length := by
  have hul : ∀ (a b : Int) (k : Nat), (un a b k).length = k := by
    intro a b k
    induction k generalizing a b with
    | zero => rfl
    | succ k ih => rw [un, List.length_cons, ih]
  induction l generalizing f a b s with
  | nil =>
    obtain ⟨h1, h2, h3⟩ := h
    rw [costF, U_nil, hul]
    omega
  | cons c l ih =>
    obtain ⟨⟨h1, h2, h3, h4⟩, h5⟩ := h
    rw [numB_iff] at h1
    have hle := h5.le
    have e1 : mo s c.AN = s + c.AN := mo_add (by omega) (by omega)
    have e2 : mo (s + c.AN) c.BN = s + c.AN + c.BN := mo_add (by omega) (by omega)
    rw [costF, e1, e2, ih h5 (by omega) (by omega), U_cons, List.length_append, hul]
    omega
theorem cost_script {n m : Int} {l : List Ch} (h : Script l n m) (hs : n + m ≤ 2147483647) : costF 0 l = n + m - 2 * (U 0 0 n m l).length := by
  have := cost_right h.2.2 (Int.le_refl 0) (by omega)
  omega

/-- how many lines are taken out -/
def takenL : List Int → Int
  | [] => 0
  | z :: t => (if z < 0 then 1 else 0) + takenL t
theorem taken_kept {i : Int} {K : List Int} (h : ∀ z ∈ K, z = -1 ∨ 0 ≤ z) : takenL K = K.length - (keptR i K).length := by
  induction K generalizing i with
  | nil => rfl
  | cons z t ih =>
    have hz := h z (List.mem_cons_self ..)
    have ht := ih (i := i + 1) fun y hy => h y (List.mem_cons_of_mem _ hy)
    rw [takenL, keptR, ht]
    simp only [List.length_cons]
    split
    · rw [if_pos (by omega)]; omega
    · rw [if_neg (by omega)]; simp only [List.length_cons]; omega

theorem cut_eq {A B : List (List UInt8)} {a b : Int} {k : Nat} (ha : 0 ≤ a) (hb : 0 ≤ b) (h : ∀ r ∈ un a b k, A[r.a.toNat]? = B[r.b.toNat]?) : cut A a k = cut B b k := by
  apply List.ext_getElem?
  intro j
  simp only [cut, Int.toNat_natCast, List.getElem?_take, List.getElem?_drop]
  split
  · have := h ⟨a + j, b + j, 1⟩ (by rw [mem_un]; dsimp only; omega)
    dsimp only at this
    rw [show a.toNat + j = (a + (j : Int)).toNat by omega, show b.toNat + j = (b + (j : Int)).toNat by omega]
    exact this
  · rfl
theorem drop_cut {B : List (List UInt8)} {b : Int} {k : Nat} (hb : 0 ≤ b) : cut B b k ++ B.drop (b + k).toNat = B.drop b.toNat := by
  rw [cut, Int.toNat_natCast, show (b + (k : Int)).toNat = b.toNat + k by omega, ← List.drop_drop, List.take_append_drop]
theorem reach {A B : List (List UInt8)} {f : Bool} {a b : Int} {l : List Ch} (h : Right f a b A.length B.length l) (ha : 0 ≤ a) (hb : 0 ≤ b) (hs : ∀ r ∈ U a b A.length B.length l, A[r.a.toNat]? = B[r.b.toNat]?) :
    (piecesL a b A.length B.length l).flatMap (pa A B) = B.drop b.toNat := by
  induction l generalizing f a b with
  | nil =>
    obtain ⟨h1, h2, h3⟩ := h
    rw [U_nil] at hs
    simp only [piecesL, List.flatMap_cons, List.flatMap_nil, List.append_nil, pa]
    obtain ⟨k, hk⟩ : ∃ k : Nat, (A.length : Int) - a = k := ⟨((A.length : Int) - a).toNat, by omega⟩
    rw [hk, Int.toNat_natCast] at hs
    rw [hk, cut_eq ha hb hs]
    have e : cut B (B.length : Int) 0 = [] := by simp [cut]
    rw [e, List.append_nil]
    have := drop_cut (B := B) (k := k) hb
    rw [← this, List.drop_of_length_le (by omega), List.append_nil]
  | cons c l ih =>
    obtain ⟨⟨h1, h2, h3, h4⟩, h5⟩ := h
    rw [numB_iff] at h1
    rw [U_cons] at hs
    have hi := ih h5 (by omega) (by omega) fun r hr => hs r (List.mem_append_right _ hr)
    simp only [piecesL, List.flatMap_cons, pa]
    rw [hi]
    obtain ⟨k, hk⟩ : ∃ k : Nat, c.A - a = k := ⟨(c.A - a).toNat, by omega⟩
    obtain ⟨o, ho⟩ : ∃ o : Nat, c.BN = o := ⟨c.BN.toNat, by omega⟩
    rw [hk, Int.toNat_natCast] at hs
    rw [hk, ho, cut_eq ha hb fun r hr => hs r (List.mem_append_left _ hr)]
    have e1 := drop_cut (B := B) (b := c.B) (k := o) (by omega)
    have e2 := drop_cut (B := B) (b := b) (k := k) hb
    rw [List.append_assoc, e1, show c.B = b + k by omega, e2]
theorem apply_reach {A B : List (List UInt8)} {l : List Ch} (h : Script l A.length B.length) (hs : ∀ r ∈ U 0 0 A.length B.length l, A[r.a.toNat]? = B[r.b.toNat]?) : applyL l A B = B := by
  have := reach h.2.2 (Int.le_refl _) (Int.le_refl _) hs
  simpa [applyL] using this
end Go.Proofs.YtgcccpmcbjfaaaaDoor

/- Hunks as lists: which are right, their lines, how they are made and gone back, what script they are; plain mathematics. -/
namespace Go.Proofs.YtgcccpmcbjfaaaaDoor

/-- a line with its sign -/
structure Mk where
  sg : Int
  tx : List UInt8
/-- a hunk -/
structure Hk where
  A : Int
  AN : Int
  B : Int
  BN : Int
  ls : List Mk
/-- a sign of one of the three kinds: kept 32, taken out 45, put in 43 -/
def okS (s : Int) : Bool := decide (s = 32) || decide (s = 45) || decide (s = 43)
/-- the lines of a side: all but those of one sign -/
def pkL (no : Int) : List Mk → List (List UInt8)
  | [] => []
  | m :: l => if m.sg ≠ no ∧ okS m.sg = true then m.tx :: pkL no l else pkL no l
def oldL (h : Hk) : List (List UInt8) := pkL 43 h.ls
def newL (h : Hk) : List (List UInt8) := pkL 45 h.ls
theorem pkL_append (no : Int) (x y : List Mk) : pkL no (x ++ y) = pkL no x ++ pkL no y := by
  induction x with
  | nil => rfl
  | cons m x ih =>
    simp only [List.cons_append, pkL, ih]
    split <;> simp
theorem pkL_length (no : Int) (x : List Mk) : (pkL no x).length ≤ x.length := by
  induction x with
  | nil => simp [pkL]
  | cons m x ih =>
    simp only [pkL]
    split <;> simp <;> omega

/-- changes in groups: those between which at most twice so many lines are kept are together -/
def gcons (ctx : Int) (c : Ch) : List Ch → List (List Ch) → List (List Ch)
  | d :: _, g :: gs => if d.A - c.A - c.AN ≤ 2 * ctx then (c :: g) :: gs else [c] :: g :: gs
  | _, gs => [c] :: gs
def grp (ctx : Int) : List Ch → List (List Ch)
  | [] => []
  | c :: l => gcons ctx c l (grp ctx l)
theorem grp_nil (ctx : Int) : grp ctx [] = [] := rfl
theorem grp_one (ctx : Int) (c : Ch) : grp ctx [c] = [[c]] := rfl
theorem grp_head (ctx : Int) (c : Ch) (l : List Ch) : ∃ g gs, grp ctx (c :: l) = (c :: g) :: gs := by
  cases l with
  | nil => exact ⟨[], [], rfl⟩
  | cons d l =>
    show ∃ g gs, gcons ctx c (d :: l) (grp ctx (d :: l)) = _
    cases grp ctx (d :: l) with
    | nil => exact ⟨_, _, rfl⟩
    | cons g gs =>
      simp only [gcons]
      split
      · exact ⟨_, _, rfl⟩
      · exact ⟨_, _, rfl⟩
theorem grp_cons2 (ctx : Int) (c d : Ch) (l : List Ch) : ∃ g gs, grp ctx (d :: l) = (d :: g) :: gs ∧ grp ctx (c :: d :: l) = if d.A - c.A - c.AN ≤ 2 * ctx then (c :: d :: g) :: gs else [c] :: (d :: g) :: gs := by
  obtain ⟨g, gs, h⟩ := grp_head ctx d l
  refine ⟨g, gs, h, ?_⟩
  show gcons ctx c (d :: l) (grp ctx (d :: l)) = _
  rw [h]
  rfl
/-- the groups hold the changes, in order -/
theorem grp_flatten (ctx : Int) (l : List Ch) : (grp ctx l).flatten = l := by
  induction l with
  | nil => rfl
  | cons c l ih =>
    cases l with
    | nil => rfl
    | cons d l =>
      obtain ⟨g, gs, h1, h2⟩ := grp_cons2 ctx c d l
      rw [h2]
      rw [h1] at ih
      split <;> simp at ih ⊢ <;> exact ih
theorem grp_ne (ctx : Int) (l : List Ch) : ∀ g ∈ grp ctx l, g ≠ [] := by
  induction l with
  | nil => simp [grp]
  | cons c l ih =>
    cases l with
    | nil => simp [grp, gcons]
    | cons d l =>
      obtain ⟨g, gs, h1, h2⟩ := grp_cons2 ctx c d l
      rw [h2]
      rw [h1] at ih
      intro x hx
      split at hx
      · simp at hx
        rcases hx with rfl | hx
        · simp
        · exact ih x (by simp [hx])
      · simp at hx
        rcases hx with rfl | rfl | hx
        · simp
        · simp
        · exact ih x (by simp [hx])
theorem grp_eq_nil (ctx : Int) (l : List Ch) : grp ctx l = [] ↔ l = [] := by
  constructor
  · intro h
    have := grp_flatten ctx l
    rw [h] at this
    exact this.symm
  · rintro rfl
    rfl
/-- a change more: in the last group, or in one of its own -/
theorem grp_snoc (ctx : Int) (l : List Ch) (c d : Ch) : ∃ gs g, grp ctx (l ++ [c]) = gs ++ [g ++ [c]] ∧ grp ctx (l ++ [c] ++ [d]) = if d.A - c.A - c.AN ≤ 2 * ctx then gs ++ [g ++ [c] ++ [d]] else gs ++ [g ++ [c]] ++ [[d]] := by
  induction l with
  | nil =>
    refine ⟨[], [], rfl, ?_⟩
    rfl
  | cons e l ih =>
    obtain ⟨gs, g, h1, h2⟩ := ih
    have key : ∀ (x : List Ch), x ≠ [] → ∀ G : List (List Ch), grp ctx x = G → ∃ e', x.head? = some e' ∧ grp ctx (e :: x) = if e'.A - e.A - e.AN ≤ 2 * ctx then (match G with | g :: gs => (e :: g) :: gs | [] => [[e]]) else [e] :: G := by
      intro x hx G hG
      cases x with
      | nil => exact absurd rfl hx
      | cons y x =>
        obtain ⟨g, gs, q1, q2⟩ := grp_cons2 ctx e y x
        refine ⟨y, rfl, ?_⟩
        rw [q2]
        rw [q1] at hG
        subst hG
        rfl
    obtain ⟨e1, f1, k1⟩ := key (l ++ [c]) (by simp) _ h1
    obtain ⟨e2, f2, k2⟩ := key (l ++ [c] ++ [d]) (by simp) _ h2
    have he : e1 = e2 := by
      cases l with
      | nil => simp at f1 f2; rw [← f1, ← f2]
      | cons y l => simp at f1 f2; rw [← f1, ← f2]
    subst he
    by_cases hn : e1.A - e.A - e.AN ≤ 2 * ctx
    · rw [if_pos hn] at k1 k2
      cases gs with
      | nil =>
        refine ⟨[], e :: g, by rw [List.cons_append, k1]; rfl, ?_⟩
        rw [List.cons_append, List.cons_append, k2]
        by_cases hd : d.A - c.A - c.AN ≤ 2 * ctx
        · rw [if_pos hd, if_pos hd]; rfl
        · rw [if_neg hd, if_neg hd]; rfl
      | cons g0 gs =>
        refine ⟨(e :: g0) :: gs, g, by rw [List.cons_append, k1]; rfl, ?_⟩
        rw [List.cons_append, List.cons_append, k2]
        by_cases hd : d.A - c.A - c.AN ≤ 2 * ctx
        · rw [if_pos hd, if_pos hd]; rfl
        · rw [if_neg hd, if_neg hd]; rfl
    · rw [if_neg hn] at k1 k2
      refine ⟨[e] :: gs, g, by rw [List.cons_append, k1]; rfl, ?_⟩
      rw [List.cons_append, List.cons_append, k2]
      by_cases hd : d.A - c.A - c.AN ≤ 2 * ctx
      · rw [if_pos hd, if_pos hd]; rfl
      · rw [if_neg hd, if_neg hd]; rfl
/-- with more lines kept there are never more groups -/
theorem grp_fewer {c1 c2 : Int} (h : c1 ≤ c2) (l : List Ch) : (grp c2 l).length ≤ (grp c1 l).length := by
  induction l with
  | nil => simp [grp]
  | cons c l ih =>
    cases l with
    | nil => simp [grp, gcons]
    | cons d l =>
      obtain ⟨g, gs, p1, p2⟩ := grp_cons2 c1 c d l
      obtain ⟨g', gs', q1, q2⟩ := grp_cons2 c2 c d l
      rw [p2, q2]
      rw [p1, q1] at ih
      simp only [List.length_cons] at ih
      split <;> split <;> simp <;> omega

/-- lines with a sign -/
def mks (s : Int) (x : List (List UInt8)) : List Mk := x.map fun t => ⟨s, t⟩
/-- a group's lines, from a place of the first text on up to another -/
def bodyH (a b : List (List UInt8)) (e : Int) : Int → List Ch → List Mk
  | p, [] => mks 32 (cut a p (e - p))
  | p, c :: g => mks 32 (cut a p (c.A - p)) ++ (mks 45 (cut a c.A c.AN) ++ (mks 43 (cut b c.B c.BN) ++ bodyH a b e (c.A + c.AN) g))
/-- a hunk's numbers: where it stands, and how many lines it has -/
def cntH (a b : Int) (ls : List Mk) : Hk := ⟨if 0 < (pkL 43 ls).length then a + 1 else a, (pkL 43 ls).length, if 0 < (pkL 45 ls).length then b + 1 else b, (pkL 45 ls).length, ls⟩
/-- how many lines are kept ahead of a group -/
def ahd (ctx : Int) (g : List Ch) : Int := match g with | [] => 0 | f :: _ => min ctx f.A
/-- where a group's lines end -/
def endH (n ctx : Int) : List Ch → Int
  | [] => 0
  | [c] => min n (c.A + c.AN + ctx)
  | _ :: d :: g => endH n ctx (d :: g)
/-- a group's hunk -/
def oneH (a b : List (List UInt8)) (ctx : Int) (g : List Ch) : Hk := match g with
  | [] => ⟨0, 0, 0, 0, []⟩
  | f :: g => cntH (f.A - min ctx f.A) (f.B - min ctx f.A) (bodyH a b (endH a.length ctx (f :: g)) (f.A - min ctx f.A) (f :: g))
/-- Group's error -/
def grpE (l : List Ch) (n m ctx : Int) : Int := if chk l n m ≠ 0 then chk l n m else if ctx < 0 ∨ 100 < ctx then 2 else 0
/-- Group's groups -/
def grpR (l : List Ch) (n m ctx : Int) : List (List Ch) := if grpE l n m ctx = 0 then grp ctx l else []
/-- Make's hunks -/
def mkR (l : List Ch) (a b : List (List UInt8)) (ctx : Int) : List Hk := (grpR l a.length b.length ctx).map (oneH a b ctx)

/-- is a text a line? has it its line feed? -/
def linB (s : List UInt8) : Bool := !s.isEmpty && s.dropLast.all fun c => c != 10
def fdB (s : List UInt8) : Bool := s.getLast? == some 10
/-- no line with one of two signs -/
def lstB (sg : Int) (l : List Mk) : Bool := l.all fun m => decide (m.sg ≠ sg) && decide (m.sg ≠ 32)
/-- are all lines as they must be? -/
def fldB : List Mk → Bool
  | [] => true
  | m :: l => linB m.tx && okS m.sg && (fdB m.tx || ((decide (m.sg = 43) || lstB 45 l) && (decide (m.sg = 45) || lstB 43 l))) && fldB l
def rngB (h : Hk) : Bool := nat31 h.A && nat31 h.AN && nat31 h.B && nat31 h.BN && !(decide (h.A = 0) && decide (0 < h.AN)) && !(decide (h.B = 0) && decide (0 < h.BN))
/-- Check's answer -/
def chkH (h : Hk) : Int := if rngB h = false then 2 else if fldB h.ls = false then 6 else if h.AN ≠ (oldL h).length ∨ h.BN ≠ (newL h).length then 120 else if h.ls.all (fun m => decide (m.sg = 32)) = true then 50 else 0
/-- where a hunk stands -/
def atA (h : Hk) : Int := if 0 < h.AN then h.A - 1 else h.A
def atB (h : Hk) : Int := if 0 < h.BN then h.B - 1 else h.B
/-- are hunks in order? -/
def ordB : Int → Int → List Hk → Bool
  | _, _, [] => true
  | u, v, h :: l => decide (u ≤ atA h) && decide (atA h - u = atB h - v) && ordB (atA h + h.AN) (atB h + h.BN) l
/-- the first error -/
def errs : List Hk → Int
  | [] => 0
  | h :: l => if chkH h ≠ 0 then chkH h else errs l
/-- Order's answer -/
def ordH (l : List Hk) : Int := if errs l ≠ 0 then errs l else if ordB 0 0 l = true then 0 else 121

/-- a hunk's lines gone back; x: lines that are put in now, and wait -/
def invG : List Mk → List Mk → List Mk
  | x, [] => x
  | x, m :: l => if m.sg = 43 then ⟨45, m.tx⟩ :: invG x l else if m.sg = 45 then invG (x ++ [⟨43, m.tx⟩]) l else x ++ m :: invG [] l
def invH (h : Hk) : Hk := ⟨h.B, h.BN, h.A, h.AN, invG [] h.ls⟩

/-- does the last change end at these places? (the changes backwards) -/
def endsAt (a b : Int) : List Ch → Bool
  | [] => false
  | c :: _ => decide (c.A + c.AN = a) && decide (c.B + c.BN = b)
/-- a line that is taken out, put in -/
def bmA : List Ch → List Ch
  | [] => []
  | c :: r => ⟨c.A, c.AN + 1, c.B, c.BN⟩ :: r
def bmB : List Ch → List Ch
  | [] => []
  | c :: r => ⟨c.A, c.AN, c.B, c.BN + 1⟩ :: r
/-- a change to go on with -/
def opn (a b : Int) (r : List Ch) : List Ch := if endsAt a b r = true then r else ⟨a, 0, b, 0⟩ :: r
/-- the changes of lines, and of hunks (backwards) -/
def chLs : Int → Int → List Ch → List Mk → List Ch
  | _, _, r, [] => r
  | a, b, r, m :: l => if m.sg = 32 then chLs (a + 1) (b + 1) r l else if m.sg = 45 then chLs (a + 1) b (bmA (opn a b r)) l else chLs a (b + 1) (bmB (opn a b r)) l
def chHs : List Ch → List Hk → List Ch
  | r, [] => r
  | r, h :: l => chHs (chLs (atA h) (atB h) r h.ls) l
/-- Changes' script -/
def chR (l : List Hk) : List Ch := if ordH l = 0 then (chHs [] l).reverse else []
end Go.Proofs.YtgcccpmcbjfaaaaDoor
