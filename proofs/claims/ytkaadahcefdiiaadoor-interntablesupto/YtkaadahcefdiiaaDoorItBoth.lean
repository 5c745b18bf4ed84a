/-
  Both tables side by side: what each call leaves of both; an argument of Booleans, opened.
-/
import Derived.Test.YtkaadahcefdiiaaDoorItRefAll
import Derived.Test.YtkaadahcefdiiaaDoorItOpen
import Derived.Deep.Grids
namespace Go.Proofs.YtkaadahcefdiiaaDoor
open Cn It Go.RowKit Go.Maps

/-- both tables, and all ahead of the law's call as it was -/
structure Both (o : Ig) (fs ls : List (List UInt8)) (t B r : Nat) (W w : World) : Prop where
  tbl : Tbl o fs t B w
  rt : ∃ v, RT o ls r v W.heap.size w
  low : Below W.heap.size W w
  ht : W.heap.size ≤ t
  hB : W.heap.size ≤ B
  hr : W.heap.size ≤ r
theorem both_drew (o : Ig) (fs ls : List (List UInt8)) (t B r : Nat) (W w : World) : Both o fs ls t B r W w.drew ↔ Both o fs ls t B r W w :=
  ⟨fun h => ⟨⟨h.tbl.box, h.tbl.map⟩, (let ⟨v, h1⟩ := h.rt; ⟨v, ⟨h1.box, h1.row⟩⟩), (h.low.trans ⟨rfl, rfl, rfl, Nat.le_refl _, fun _ _ => rfl⟩ : Below W.heap.size W w), h.ht, h.hB, h.hr⟩,
   fun h => ⟨⟨h.tbl.box, h.tbl.map⟩, (let ⟨v, h1⟩ := h.rt; ⟨v, ⟨h1.box, h1.row⟩⟩), h.low.drew, h.ht, h.hB, h.hr⟩⟩

section
variable {o : Ig} {fs ls : List (List UInt8)} {t B r : Nat} {W w w' : World}
theorem Both.keep (h : Both o fs ls t B r W w) (hb : Below w.heap.size w w') : Both o fs ls t B r W w' :=
  ⟨h.tbl.keep (S := fun _ => False) (.of_below hb) (fun h => h) (fun h => h), (let ⟨v, h1⟩ := h.rt; ⟨v, h1.low hb⟩), h.low.trans (hb.mono h.low.size), h.ht, h.hB, h.hr⟩
theorem Both.cell {b off : Nat} {v : Value} (h : Both o fs ls t B r W w) (hb : b < W.heap.size) (hc : W.cell? ⟨b, off, none⟩ = some v) : w.cell? ⟨b, off, none⟩ = some v := (h.low.cell (p := ⟨b, off, none⟩) hb).trans hc
theorem Both.list (h : Both o fs ls t B r W w) : ∃ lo lc, w.cell? ⟨r, 6, none⟩ = some (.slice lo ls.length lc) := by
  obtain ⟨v, h1⟩ := h.rt
  obtain ⟨lo, lc, e⟩ := (holds_of h1.row).form
  rw [scells_length] at e
  subst e
  exact ⟨lo, lc, h1.cells.2.2.2.2.2.2⟩
theorem Both.rne {v : Value} (h : Both o fs ls t B r W w) (h1 : RT o ls r v W.heap.size w) : B ≠ r ∧ v.ownBlock ≠ some B ∧ t ≠ r ∧ v.ownBlock ≠ some t := by
  refine ⟨fun e => h.tbl.row_ne h1.box e.symm, fun e => ?_, fun e => ?_, fun e => ?_⟩
  · rcases h1.row.2 with ⟨h2, _⟩ | ⟨g, cap, cur, q1, q2, q3, _⟩
    · rw [h2] at e; cases e
    · rw [q1] at e; cases e; exact h.tbl.row_ne q3 rfl
  · exact h.tbl.row_ne_t h1.box (by decide) e
  · rcases h1.row.2 with ⟨h2, _⟩ | ⟨g, cap, cur, q1, q2, q3, _⟩
    · rw [h2] at e; cases e
    · rw [q1] at e; cases e; exact h.tbl.row_ne_t q3 (by decide) rfl
end

theorem ClassBoth (l f : List UInt8) (m : Nat) (o : Ig) (fs fs' ls : List (List UInt8)) (t B r : Nat) (W w : World) (hl : l.length ≤ 137438953472) (hf : Hid (canonL o l = f)) (hm : Hid (num fs f = m)) (hfs' : Hid (add fs f = fs')) (hfs : fs.length ≤ 1099511627776) (h : Both o fs ls t B r W w) :
    Calls Tryd.prog 15 #[.pointer (some ⟨t, 0, none⟩), .string ⟨l.toArray⟩] w fun e w' => e = .returned (.int .i64 m) ∧ Both o fs' ls t B r W w' := by
  refine (Class_any l o fs t B w hl hfs h.tbl).mono ?_
  rintro e w1 ⟨rfl, hT1, hb1⟩
  rw [hf.out] at hT1 ⊢
  rw [hfs'.out] at hT1
  refine ⟨by rw [hm.out], hT1, ?_, hb1.below h.low h.low.size (fun k e => by subst e; exact h.hB), h.ht, h.hB, h.hr⟩
  obtain ⟨v, h1⟩ := h.rt
  obtain ⟨n1, n2, _, _⟩ := h.rne h1
  exact ⟨v, h1.keep hb1 (fun e => n1 e.symm) (fun g hg e => n2 (by rw [hg, e]))⟩

theorem rClassBoth (l f : List UInt8) (m : Nat) (o : Ig) (fs ls : List (List UInt8)) (t B r : Nat) (W w : World) (hl : l.length ≤ 137438953472) (hf : Hid (canonL o l = f)) (hm : Hid (num (ls.map (canonL o)) f = m)) (hls : Hid (∀ a ∈ ls, a.length ≤ 137438953472)) (hn : ls.length ≤ 1099511627776) (h : Both o fs ls t B r W w) :
    Calls Tryd.prog 16 #[.pointer (some ⟨r, 0, none⟩), .string ⟨l.toArray⟩] w fun e w' => e = .returned (.int .i64 m) ∧ Both o fs (radd o ls l) t B r W w' := by
  obtain ⟨v, h1⟩ := h.rt
  refine (rClass_any l o ls r v W.heap.size w hl hls hn h.low.size h1).mono ?_
  rintro e w1 ⟨rfl, v', hT1, hb1, _⟩
  obtain ⟨n1, n2, n3, n4⟩ := h.rne h1
  refine ⟨by rw [hf.out, hm.out], h.tbl.keep hb1 (fun e => ?_) (fun e => ?_), ⟨v', hT1⟩, hb1.below h.low h.low.size (fun k e => ?_), h.ht, h.hB, h.hr⟩
  · rcases e with e | e
    · exact n3 e
    · exact n4 e
  · rcases e with e | e
    · exact n1 e
    · exact n2 e
  · rcases e with e | e
    · subst e; exact h.hr
    · exact owns_ge h1.row e

theorem rClassTo (l f : List UInt8) (m : Nat) (o : Ig) (fs ls ls' : List (List UInt8)) (t B r : Nat) (W w : World) (hl : l.length ≤ 137438953472) (hf : Hid (canonL o l = f)) (hm : Hid (num (ls.map (canonL o)) f = m)) (hr : Hid (radd o ls l = ls')) (hls : Hid (∀ a ∈ ls, a.length ≤ 137438953472)) (hn : ls.length ≤ 1099511627776) (h : Both o fs ls t B r W w) :
    Calls Tryd.prog 16 #[.pointer (some ⟨r, 0, none⟩), .string ⟨l.toArray⟩] w fun e w' => e = .returned (.int .i64 m) ∧ Both o fs ls' t B r W w' := by
  rw [← hr.out]
  exact rClassBoth l f m o fs ls t B r W w hl hf hm hls hn h

theorem LookBoth (l f : List UInt8) (n : Nat) (b : Bool) (o : Ig) (fs ls : List (List UInt8)) (t B r : Nat) (W w : World) (hl : l.length ≤ 137438953472) (hf : Hid (canonL o l = f)) (hm : Hid (lookN fs f = n ∧ lookB fs f = b)) (h : Both o fs ls t B r W w) :
    Calls Tryd.prog 13 #[.pointer (some ⟨t, 0, none⟩), .string ⟨l.toArray⟩] w fun e w' => e = .returned (.tuple #[.int .i64 n, .bool b]) ∧ Both o fs ls t B r W w' := by
  refine (Look_any l o fs t B w hl h.tbl).mono ?_
  rintro e w1 ⟨rfl, hb1⟩
  exact ⟨by rw [hf.out, hm.out.1, hm.out.2], h.keep hb1⟩

theorem rLookBoth (l f : List UInt8) (n : Nat) (b : Bool) (o : Ig) (fs ls : List (List UInt8)) (t B r : Nat) (W w : World) (hl : l.length ≤ 137438953472) (hf : Hid (canonL o l = f)) (hm : Hid (lookN (ls.map (canonL o)) f = n ∧ lookB (ls.map (canonL o)) f = b)) (hls : Hid (∀ a ∈ ls, a.length ≤ 137438953472)) (hn : ls.length ≤ 1099511627776) (h : Both o fs ls t B r W w) :
    Calls Tryd.prog 14 #[.pointer (some ⟨r, 0, none⟩), .string ⟨l.toArray⟩] w fun e w' => e = .returned (.tuple #[.int .i64 n, .bool b]) ∧ Both o fs ls t B r W w' := by
  obtain ⟨v, h1⟩ := h.rt
  refine (rLook_any l o ls r v W.heap.size w hl hls hn h1).mono ?_
  rintro e w1 ⟨rfl, hb1⟩
  exact ⟨by rw [hf.out, hm.out.1, hm.out.2], h.keep hb1⟩

theorem SizeBoth (n : Nat) (o : Ig) (fs ls : List (List UInt8)) (t B r : Nat) (W w : World) (hm : Hid (fs.length = n)) (h : Both o fs ls t B r W w) :
    Calls Tryd.prog 12 #[.pointer (some ⟨t, 0, none⟩)] w fun e w' => e = .returned (.int .i64 n) ∧ w = w' := by
  refine (Size_any o fs t B w h.tbl).mono ?_
  rintro e w1 ⟨rfl, rfl⟩
  exact ⟨by rw [hm.out], rfl⟩

/-- a list of Booleans as cells -/
def bcells (bs : List Bool) : List Value := bs.map Value.bool
theorem bcells_length (bs : List Bool) : (bcells bs).length = bs.length := by simp [bcells]
theorem open_flags {H : Type} {enc : TypeId × Value → H} {W : World} {fuel : Nat} {ao : Option Addr} {len cap : Nat} {x : DataW H × List MemPlace}
    (h : DataW.trod enc Tryd.prog W 0 (fun _ => true) true fuel 31 [.slice ao len cap] = some x) : ∃ bs : List Bool, Holds W (.slice ao len cap) (bcells bs) := by
  rcases Go.Deep.open_bools Tryd.underlying31 Tryd.underlying4 cellsBool h with ⟨hcs, _⟩ | ⟨a, l, c, Bf, hcs, _, hl, _, _, hcell⟩
  · simp at hcs
    obtain ⟨rfl, rfl, rfl⟩ := hcs
    exact ⟨[], .inl ⟨rfl, rfl⟩⟩
  · simp at hcs
    obtain ⟨rfl, rfl, rfl⟩ := hcs
    refine ⟨(List.range len).map Bf, .inr ⟨a, cap, by simp [bcells], fun j u hj => ?_⟩⟩
    have hj' : j < len := by
      have := (List.getElem?_eq_some_iff.1 hj).1
      simpa [bcells] using this
    rw [hcell j (by omega)]
    simp [bcells, hj'] at hj
    rw [hj]
end Go.Proofs.YtkaadahcefdiiaaDoor
