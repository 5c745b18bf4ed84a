/-
  Two rows of texts that a region lays in whatever order: each one empty or full; steps of that region. Numbers of forms, place by place.
-/
import Derived.Test.YtkaadahcefdiiaaDoorItCat
namespace Go.Proofs.YtkaadahcefdiiaaDoor
open Cn It Go.RowKit

/-- all ahead is as it was -/
def Low (W u : World) : Prop := Below W.heap.size W u
theorem low_drew (W u : World) : Low W u.drew ↔ Low W u := ⟨fun h => (Below.trans h ⟨rfl, rfl, rfl, Nat.le_refl _, fun _ _ => rfl⟩ : Below W.heap.size W u), fun h => Below.drew h⟩
theorem low_alloc {W u : World} (h : Low W u) (ob : Obj) : Low W (u.alloc ob) := Below.alloc h (Below.size h) ob
theorem Low.keep {W u u' : World} (h : Low W u) (hb : Below u.heap.size u u') : Low W u' := Below.trans h (hb.mono (Below.size h))
theorem Low.six {W u : World} {o : Ig} {b : Nat} (h : Low W u) (hb : Boxed o b W) : u.cell? ⟨b, 0, none⟩ = some (.bool o.sp) ∧ u.cell? ⟨b, 1, none⟩ = some (.bool o.wt) ∧ u.cell? ⟨b, 2, none⟩ = some (.bool o.bl) ∧ u.cell? ⟨b, 3, none⟩ = some (.bool o.cs) ∧ u.cell? ⟨b, 4, none⟩ = some (.bool o.tb) ∧ u.cell? ⟨b, 5, none⟩ = some (.bool o.tr) := (hb.keep h).cells

theorem low_cell {W u : World} {b off : Nat} {v : Value} (h : Low W u) (hb : b < W.heap.size) (hc : W.cell? ⟨b, off, none⟩ = some v) : u.cell? ⟨b, off, none⟩ = some v := (Below.cell h (p := ⟨b, off, none⟩) hb).trans hc

theorem owns_heap {u u' : World} (h : u.heap = u'.heap) {base n : Nat} {e : TypeId} {v : Value} {xs : List Value} (ho : u.ownsRow base e 1 v n xs) : u'.ownsRow base e 1 v n xs := by
  refine ⟨ho.1, ?_⟩
  rcases ho.2 with h1 | ⟨g, cap, cur, q1, q2, q3, q4⟩
  · exact .inl h1
  · exact .inr ⟨g, cap, cur, q1, q2, by rw [← h]; exact q3, q4⟩

/-- a row that holds these texts -/
def One (W : World) (ws : List (List UInt8)) (v : Value) (H : Array Obj) : Prop := ∃ u : World, u.heap = H ∧ u.ownsRow W.heap.size 9 1 v ws.length (scells ws)
/-- two rows, apart -/
structure Two (W : World) (ws1 : List (List UInt8)) (v1 : Value) (ws2 : List (List UInt8)) (v2 : Value) (H : Array Obj) : Prop where
  one1 : One W ws1 v1 H
  one2 : One W ws2 v2 H
  apart : ∀ g, v1.ownBlock = some g → v2.ownBlock ≠ some g
theorem Two.symm {W : World} {ws1 ws2 : List (List UInt8)} {v1 v2 : Value} {H : Array Obj} (h : Two W ws1 v1 ws2 v2 H) : Two W ws2 v2 ws1 v1 H := ⟨h.one2, h.one1, fun g h1 h2 => h.apart g h2 h1⟩
theorem One.own {W : World} {ws : List (List UInt8)} {v : Value} {u : World} (h : One W ws v u.heap) : u.ownsRow W.heap.size 9 1 v ws.length (scells ws) := by
  obtain ⟨u', hu, ho⟩ := h
  exact owns_heap hu ho
theorem owns_lt' {w : World} {base n : Nat} {e : TypeId} {vx : Value} {xs : List Value} (ho : w.ownsRow base e 1 vx n xs) {g : Nat} (hg : vx.ownBlock = some g) : g < w.heap.size := by
  rcases ho.2 with ⟨h1, _⟩ | ⟨g', cap, cur, q1, q2, q3, _⟩
  · rw [h1] at hg; cases hg
  · rw [q1] at hg; cases hg; exact (Array.getElem?_eq_some_iff.1 q3).1
theorem One.alloc {W : World} {ws : List (List UInt8)} {v : Value} {u : World} (h : One W ws v u.heap) (ob : Obj) : One W ws v (u.alloc ob).heap := ⟨_, rfl, h.own.alloc ob⟩

theorem one_new {W u : World} (h : Low W u) : One W [] (.slice (some ⟨u.heap.size, 0, none⟩) 0 0) (u.alloc (.cells #[] 9)).heap := ⟨_, rfl, nil_row_new u _ _ rfl (Below.size h)⟩
theorem two_new {W u : World} {ws : List (List UInt8)} {v : Value} (h : Low W u) (h1 : One W ws v u.heap) : Two W ws v [] (.slice (some ⟨u.heap.size, 0, none⟩) 0 0) (u.alloc (.cells #[] 9)).heap :=
  ⟨h1.alloc _, one_new h, fun g hg e => by
    have := owns_lt' h1.own hg
    simp [Value.ownBlock] at e
    omega⟩
theorem two_both {W u : World} (h : Low W u) : Two W [] (.slice (some ⟨u.heap.size, 0, none⟩) 0 0) [] (.slice (some ⟨u.heap.size + 1, 0, none⟩) 0 0) ((u.alloc (.cells #[] 9)).alloc (.cells #[] 9)).heap := by
  have h1 := two_new (low_alloc h (.cells #[] 9)) (one_new h)
  simpa using h1

/-- a row is filled: the lone one -/
theorem step_one {ops : Array Oper} {op : Oper} {a : Act} {K : Act → World → Prop} {Q : Exit → Act → World → Prop} {X : Prop} (W U : World) (hgd : op.guard = none) (s x : Operand)
    (ho : op.op = .call { callee := .builtin .append, args := #[s, x], argTypes := #[22, 22] }) (v vx : Value) (ws : List (List UInt8)) (hs : a.eval s = v) (hx : a.eval x = vx)
    (hh : Holds W vx (scells ws)) (hl : ws.length ≤ 1099511627776) (h1 : One W [] v U.heap) (hL : Low W U)
    (h : ∀ v' U', One W ws v' U'.heap → Low W U' → K (a.put op.dst v') U') : if Region.wanted op (yielded ops a.tmps) = true then Oper.wp Tryd.prog op a U K Q else X := by
  refine step_append_holds U hgd s x 22 9 (.string ⟨#[]⟩) 16 Tryd.underlying22 infoStr rfl (by decide) ho W.heap.size v 0 [] hs h1.own vx (scells ws) hx (hh.keep (Below.block hL)) (scells_one ws) (by rw [scells_length]; omega) (Below.size hL) ?_
  intro v' U' h2 h3 _
  exact h v' U' ⟨U', rfl, by simpa [scells_length] using h2⟩ (Below.grown hL h3 (Below.size hL) (fun j hj => owns_ge' h1.own hj))

/-- .. beside another one -/
theorem step_two {ops : Array Oper} {op : Oper} {a : Act} {K : Act → World → Prop} {Q : Exit → Act → World → Prop} {X : Prop} (W U : World) (hgd : op.guard = none) (s x : Operand)
    (ho : op.op = .call { callee := .builtin .append, args := #[s, x], argTypes := #[22, 22] }) (v vx : Value) (ws ws2 : List (List UInt8)) (v2 : Value) (hs : a.eval s = v) (hx : a.eval x = vx)
    (hh : Holds W vx (scells ws)) (hl : ws.length ≤ 1099511627776) (h1 : Two W [] v ws2 v2 U.heap) (hL : Low W U)
    (h : ∀ v' U', Two W ws v' ws2 v2 U'.heap → Low W U' → K (a.put op.dst v') U') : if Region.wanted op (yielded ops a.tmps) = true then Oper.wp Tryd.prog op a U K Q else X := by
  refine step_append_holds U hgd s x 22 9 (.string ⟨#[]⟩) 16 Tryd.underlying22 infoStr rfl (by decide) ho W.heap.size v 0 [] hs h1.one1.own vx (scells ws) hx (hh.keep (Below.block hL)) (scells_one ws) (by rw [scells_length]; omega) (Below.size hL) ?_
  intro v' U' h2 h3 h4
  refine h v' U' ⟨⟨U', rfl, by simpa [scells_length] using h2⟩, ⟨U', rfl, ?_⟩, fun g hg e => ?_⟩ (Below.grown hL h3 (Below.size hL) (fun j hj => owns_ge' h1.one1.own hj))
  · have ho2 := h1.one2.own
    refine ⟨ho2.1, ?_⟩
    rcases ho2.2 with h5 | ⟨g, cap, cur, q1, q2, q3, q4⟩
    · exact .inl h5
    · exact .inr ⟨g, cap, cur, q1, q2, (h3.block g (Array.getElem?_eq_some_iff.1 q3).1 (fun e => h1.apart g e.symm (by rw [q1]; rfl))).trans q3, q4⟩
  · rcases h4 with h5 | h5
    · exact h1.apart g (by rw [← h5]; exact hg) e
    · rw [h5] at hg
      cases hg
      exact Nat.lt_irrefl _ (owns_lt' h1.one2.own e)

theorem ClassesTwo (la lb : List (List UInt8)) (o : Ig) (va vb : Value) (W u : World) (hla : Hid (∀ a ∈ la, a.length ≤ 137438953472)) (hlb : Hid (∀ a ∈ lb, a.length ≤ 137438953472)) (hn : la.length + lb.length ≤ 1099511627776) (h : Two W la va lb vb u.heap) (hL : Low W u) :
    Calls Tryd.prog 7 #[va, vb, igV o] u fun e w' => ∃ vx vy, e = .returned (.tuple #[vx, vy, .int .i64 (adds [] (la.map (canonL o) ++ lb.map (canonL o))).length]) ∧ Holds w' vx (icells (nums [] (la.map (canonL o)))) ∧ Holds w' vy (icells (nums (adds [] (la.map (canonL o))) (lb.map (canonL o)))) ∧ Low W w' := by
  refine (Classes_any la lb o va vb u hla.out hlb.out hn (holds_of h.one1.own) (holds_of h.one2.own)).mono ?_
  rintro e w' ⟨vx, vy, he, h1, h2, h3⟩
  exact ⟨vx, vy, he, h1, h2, hL.keep h3⟩

theorem EqualLow (a b : List UInt8) (q : Bool) (o : Ig) (W u : World) (ha : a.length ≤ 137438953472) (hb : b.length ≤ 137438953472) (hq : Hid (eqL o a b = q)) (hL : Low W u) :
    Calls Tryd.prog 18 #[.string ⟨a.toArray⟩, .string ⟨b.toArray⟩, igV o] u fun e w' => e = .returned (.bool q) ∧ Low W w' := by
  refine (Equal_any a b o u ha hb).mono ?_
  rintro e w' ⟨rfl, h⟩
  exact ⟨by rw [hq.out], hL.keep h⟩

/-! numbers, place by place -/
theorem nums_get (fl : List (List UInt8)) (i : Nat) (h : i < fl.length) (h' : i < (nums [] fl).length) : (nums [] fl)[i] = num (adds [] fl) fl[i] := by
  have e := nums_eq fl []
  simp only [e, List.getElem_map]
theorem nums_get_take (fl : List (List UInt8)) (i : Nat) (h : i < fl.length) (h' : i < (nums [] fl).length) : (nums [] fl)[i] = num (adds [] (fl.take i)) fl[i] := by
  have e1 : fl = fl.take i ++ (fl[i] :: fl.drop (i + 1)) := by rw [List.getElem_cons_drop, List.take_append_drop]
  have e2 : nums [] fl = nums [] (fl.take i) ++ (num (adds [] (fl.take i)) fl[i] :: nums (add (adds [] (fl.take i)) fl[i]) (fl.drop (i + 1))) := by
    conv => lhs; rw [e1]
    rw [nums_append]
    rfl
  have e3 : (nums [] (fl.take i)).length = i := by rw [nums_length, List.length_take]; omega
  simp only [e2]
  rw [List.getElem_append_right (by omega)]
  simp [e3]
theorem adds_take_next (fl : List (List UInt8)) (i : Nat) (h : i < fl.length) (hn : num (adds [] (fl.take i)) fl[i] = (adds [] (fl.take i)).length) : (adds [] (fl.take (i + 1))).length = (adds [] (fl.take i)).length + 1 := by
  rw [← List.take_append_getElem h, adds_snoc]
  by_cases hm : fl[i] ∈ adds [] (fl.take i)
  · have := num_lt hm; omega
  · rw [add_new hm]; simp
theorem adds_take_same (fl : List (List UInt8)) (i : Nat) (h : i < fl.length) (hn : num (adds [] (fl.take i)) fl[i] ≠ (adds [] (fl.take i)).length) : (adds [] (fl.take (i + 1))).length = (adds [] (fl.take i)).length := by
  rw [← List.take_append_getElem h, adds_snoc]
  by_cases hm : fl[i] ∈ adds [] (fl.take i)
  · rw [add_old hm]
  · exact absurd (num_new hm) hn
theorem nums_same (fl : List (List UInt8)) (i k : Nat) (hi : i < fl.length) (hk : k < fl.length) (hi' : i < (nums [] fl).length) (hk' : k < (nums [] fl).length) : (nums [] fl)[i] = (nums [] fl)[k] ↔ fl[i] = fl[k] := by
  rw [nums_get fl i hi hi', nums_get fl k hk hk']
  exact num_inj (mem_adds_self fl [] _ (List.getElem_mem hi)) (mem_adds_self fl [] _ (List.getElem_mem hk))
end Go.Proofs.YtkaadahcefdiiaaDoor
