/-
  Rows of texts and rows of numbers: what a slice value holds, cell by cell; the helpers SameStrings and SameInts of the reference, walked at two slices that hold the same.
-/
import Derived.Test.YtkaadahcefdiiaaDoorKit
import Derived.Test.YtkaadahcefdiiaaDoorProg
import Derived.WalkKit
import Derived.WalkSpells
import Derived.WalkLawsBesides
import Derived.Deep.QuietTactic
import Derived.BigQuiet
import Derived.Laws.AppendOwnNone
namespace Go.Proofs.YtkaadahcefdiiaaDoor
open Go.RowKit
attribute [local go_sem] ba_at ByteArray.extract_mk

/-- a list of texts as cells -/
def scells (ws : List (List UInt8)) : List Value := ws.map fun a => .string ⟨a.toArray⟩
/-- a list of numbers as cells -/
def icells (ns : List Nat) : List Value := ns.map fun (n : Nat) => .int .i64 (n : Int)
theorem scells_length (ws : List (List UInt8)) : (scells ws).length = ws.length := by simp [scells]
theorem icells_length (ws : List Nat) : (icells ws).length = ws.length := by simp [icells]
theorem scells_append (a b : List (List UInt8)) : scells (a ++ b) = scells a ++ scells b := by simp [scells]
theorem icells_append (a b : List Nat) : icells (a ++ b) = icells a ++ icells b := by simp [icells]
theorem scells_one (ws : List (List UInt8)) : ∀ u ∈ scells ws, u.oneCell' = true := by
  intro u hu
  simp only [scells, List.mem_map] at hu
  obtain ⟨a, _, rfl⟩ := hu
  rfl
theorem icells_one (ws : List Nat) : ∀ u ∈ icells ws, u.oneCell' = true := by
  intro u hu
  simp only [icells, List.mem_map] at hu
  obtain ⟨a, _, rfl⟩ := hu
  rfl
theorem infoStr : (Tryd.prog.info? 9).map (fun i => (i.zero, i.size, i.bytes)) = some (some (.string ⟨#[]⟩), 1, 16) := by kernel_rfl
theorem infoInt : (Tryd.prog.info? 3).map (fun i => (i.zero, i.size, i.bytes)) = some (some (.int .i64 0), 1, 8) := by kernel_rfl

theorem addr_of {W : World} {a : Addr} {v : Value} (h : W.cell? (a.add 0) = some v) : ∃ b off, a = ⟨b, off, none⟩ := by
  obtain ⟨b, off, spot⟩ := a
  have hspot : spot = none := by simpa [Addr.add] using World.cell?_spot h
  subst hspot
  exact ⟨b, off, rfl⟩
theorem add_none (b off j : Nat) : (⟨b, off, none⟩ : Addr).add j = ⟨b, off + j, none⟩ := by unfold Addr.add; split <;> simp_all

/-- what a slice value holds, cell by cell -/
def Holds (w : World) (v : Value) (xs : List Value) : Prop :=
  (v = .slice none 0 0 ∧ xs = []) ∨ ∃ ad c, v = .slice (some ad) xs.length c ∧ ∀ j u, xs[j]? = some u → w.cell? (ad.add j) = some u
theorem holds_of {w : World} {B : Nat} {e : TypeId} {v : Value} {n : Nat} {xs : List Value} (h : w.ownsRow B e 1 v n xs) : Holds w v xs := by
  have hn : xs.length = n := by rw [h.1, Nat.mul_one]
  subst hn
  rcases h.2 with ⟨rfl, h0⟩ | ⟨g, cap, cur, rfl, _⟩
  · exact .inl ⟨rfl, List.eq_nil_of_length_eq_zero h0⟩
  · exact .inr ⟨⟨g, 0, none⟩, cap, rfl, h.cells (g := g) rfl⟩
theorem Holds.keep {w w' : World} {v : Value} {xs : List Value} (h : Holds w v xs) (hk : ∀ k, k < w.heap.size → w'.heap[k]? = w.heap[k]?) : Holds w' v xs := by
  rcases h with h | ⟨ad, c, hv, hc⟩
  · exact .inl h
  · refine .inr ⟨ad, c, hv, fun j u hj => ?_⟩
    have h1 := hc j u hj
    have hlt := World.block_lt_of_cell? w _ h1
    rw [World.cell?_of_block (w := w) (hk _ hlt)]
    exact h1
theorem Holds.form {w : World} {v : Value} {xs : List Value} (h : Holds w v xs) : ∃ ao c, v = .slice ao xs.length c := by
  rcases h with ⟨rfl, rfl⟩ | ⟨ad, c, rfl, _⟩
  · exact ⟨_, _, rfl⟩
  · exact ⟨_, _, rfl⟩
/-- a slice that is not empty: where it lies -/
theorem Holds.at {w : World} {v : Value} {xs : List Value} (h : Holds w v xs) (h0 : 0 < xs.length) : ∃ b off c, v = .slice (some ⟨b, off, none⟩) xs.length c ∧ b < w.heap.size ∧ ∀ j (hj : j < xs.length), w.cell? ⟨b, off + j, none⟩ = some xs[j] := by
  rcases h with ⟨_, rfl⟩ | ⟨ad, c, rfl, hc⟩
  · simp at h0
  · obtain ⟨b, off, rfl⟩ := addr_of (hc 0 _ (List.getElem?_eq_getElem h0))
    refine ⟨b, off, c, rfl, World.block_lt_of_cell? w _ (hc 0 _ (List.getElem?_eq_getElem h0)), fun j hj => ?_⟩
    have := hc j _ (List.getElem?_eq_getElem hj)
    rw [add_none] at this
    exact this
theorem Holds.nil (w : World) : Holds w (.slice none 0 0) [] := .inl ⟨rfl, rfl⟩

theorem wpList_append_holds {ops : Array Oper} {rest : List Oper} {o : Oper} {a : Act} {Q : Exit → Act → World → Prop} (w : World) (hgd : o.guard = none) (s x : Operand) (T E : TypeId) (z : Value) (bytes : Nat)
    (hT : Tryd.prog.underlying T = some (.slice E)) (hinfo : (Tryd.prog.info? E).map (fun i => (i.zero, i.size, i.bytes)) = some (some z, 1, bytes)) (hz1 : z.cells.size = 1) (hby : bytes ≤ 16)
    (ho : o.op = .call { callee := .builtin .append, args := #[s, x], argTypes := #[T, T] })
    (base : Nat) (v : Value) (n : Nat) (xs : List Value) (hs : a.eval s = v) (hown : w.ownsRow base E 1 v n xs)
    (vx : Value) (ws : List Value) (hx : a.eval x = vx) (hh : Holds w vx ws) (h1 : ∀ u ∈ ws, u.oneCell' = true) (hl : n + ws.length ≤ 1099511627776) (hbase : base ≤ w.heap.size)
    (h : ∀ v' w', w'.ownsRow base E 1 v' (n + ws.length) (xs ++ ws) → w.grownBy w' v.ownBlock → wpList Tryd.prog ops Q rest (a.put o.dst v') w') : wpList Tryd.prog ops Q (o :: rest) a w := by
  obtain ⟨i0, hi, hz0, hzs, hz2⟩ := info_parts hinfo
  rcases hh with ⟨rfl, rfl⟩ | ⟨ad, c, rfl, hc⟩
  · refine wpList_append_own_none hgd s x T ho base E i0 1 hT hi v n xs hs hown hx ?_
    exact h v w (by simpa using hown) (World.grownBy.refl _ _)
  · refine wpList_append_own w hgd s x T ho base E i0 z 1 bytes hT hi hz0 hzs hz2 hz1 (by decide) v n xs hs hown ad ws.length c ws hx (by omega) hc h1 (by unfold maxLen; omega) ?_ hbase ?_
    · have : (n + ws.length) * bytes ≤ (n + ws.length) * 16 := Nat.mul_le_mul_left _ hby
      omega
    · intro v' w' h1 h2 _
      exact h v' w' h1 h2

set_option maxHeartbeats 1000000 in
theorem SameS_any (va vb : Value) (ws : List (List UInt8)) (w : World) (hl : ws.length ≤ 1099511627776) (ha : Holds w va (scells ws)) (hb : Holds w vb (scells ws)) :
    Calls Tryd.prog 10 #[va, vb] w fun e w' => e = .returned (.bool true) ∧ ∃ n, w' = w.drewN n := by
  by_cases h0 : 0 < ws.length
  · obtain ⟨b1, o1, c1, rfl, _, hc1⟩ := ha.at (by rw [scells_length]; exact h0)
    obtain ⟨b2, o2, c2, rfl, _, hc2⟩ := hb.at (by rw [scells_length]; exact h0)
    rw [scells_length] at *
    have HC1 : Hid (∀ j (h : j < ws.length), w.cell? ⟨b1, o1 + j, none⟩ = some (.string ⟨ws[j].toArray⟩)) := fun j h => by rw [hc1 j (by rw [scells_length]; exact h)]; simp [scells]
    have HC2 : Hid (∀ j (h : j < ws.length), w.cell? ⟨b2, o2 + j, none⟩ = some (.string ⟨ws[j].toArray⟩)) := fun j h => by rw [hc2 j (by rw [scells_length]; exact h)]; simp [scells]
    clear hc1 hc2 ha hb
    go_enter Tryd.func10, Tryd.ntmps10
    go_wp2
    go_loopw [5] (fun i wr => ∃ k m : Nat, k ≤ ws.length ∧ i = .int .i64 k ∧ wr = w.drewN m) (fun i _ => ws.length - (intOf i).toNat)
    case atStart => exact ⟨0, 0, Nat.zero_le _, rfl, rfl⟩
    case round =>
      obtain ⟨k, m, hk, rfl, rfl⟩ := hrel
      by_cases hlt : k < ws.length
      · have d1 := HC1.out k hlt
        have d2 := HC2.out k hlt
        have i1 : 0 ≤ (k : Int) := by omega
        have i2 : (k : Int) < (ws.length : Int) := by omega
        go_wp2_with fail
        go_quiet (fail)
        go_wp2
        go_roundw
        case rel => exact ⟨k + 1, _, by omega, by go_num, rfl⟩
        case measure => simp [intOf]; omega
      · go_wp2
        go_ret
        exact ⟨rfl, _, rfl⟩
  · have : ws = [] := List.eq_nil_of_length_eq_zero (by omega)
    subst this
    obtain ⟨ao, ca, rfl⟩ := ha.form
    obtain ⟨bo, cb, rfl⟩ := hb.form
    simp only [scells, List.map_nil, List.length_nil]
    go_enter Tryd.func10, Tryd.ntmps10
    go_wp2
    refine wp_loop_rounds 1 ?_
    rw [rounds_succ]
    go_wp2
    go_ret
    exact ⟨rfl, 0, rfl⟩

set_option maxHeartbeats 1000000 in
theorem SameI_any (va vb : Value) (ws : List Nat) (w : World) (hl : ws.length ≤ 1099511627776) (ha : Holds w va (icells ws)) (hb : Holds w vb (icells ws)) :
    Calls Tryd.prog 9 #[va, vb] w fun e w' => e = .returned (.bool true) ∧ ∃ n, w' = w.drewN n := by
  by_cases h0 : 0 < ws.length
  · obtain ⟨b1, o1, c1, rfl, _, hc1⟩ := ha.at (by rw [icells_length]; exact h0)
    obtain ⟨b2, o2, c2, rfl, _, hc2⟩ := hb.at (by rw [icells_length]; exact h0)
    rw [icells_length] at *
    have HC1 : Hid (∀ j (h : j < ws.length), w.cell? ⟨b1, o1 + j, none⟩ = some (.int .i64 (ws[j] : Int))) := fun j h => by rw [hc1 j (by rw [icells_length]; exact h)]; simp [icells]
    have HC2 : Hid (∀ j (h : j < ws.length), w.cell? ⟨b2, o2 + j, none⟩ = some (.int .i64 (ws[j] : Int))) := fun j h => by rw [hc2 j (by rw [icells_length]; exact h)]; simp [icells]
    clear hc1 hc2 ha hb
    go_enter Tryd.func9, Tryd.ntmps9
    go_wp2
    go_loopw [5] (fun i wr => ∃ k m : Nat, k ≤ ws.length ∧ i = .int .i64 k ∧ wr = w.drewN m) (fun i _ => ws.length - (intOf i).toNat)
    case atStart => exact ⟨0, 0, Nat.zero_le _, rfl, rfl⟩
    case round =>
      obtain ⟨k, m, hk, rfl, rfl⟩ := hrel
      by_cases hlt : k < ws.length
      · have d1 := HC1.out k hlt
        have d2 := HC2.out k hlt
        have i1 : 0 ≤ (k : Int) := by omega
        have i2 : (k : Int) < (ws.length : Int) := by omega
        go_wp2_with fail
        go_quiet (fail)
        go_wp2
        go_roundw
        case rel => exact ⟨k + 1, _, by omega, by go_num, rfl⟩
        case measure => simp [intOf]; omega
      · go_wp2
        go_ret
        exact ⟨rfl, _, rfl⟩
  · have : ws = [] := List.eq_nil_of_length_eq_zero (by omega)
    subst this
    obtain ⟨ao, ca, rfl⟩ := ha.form
    obtain ⟨bo, cb, rfl⟩ := hb.form
    simp only [icells, List.map_nil, List.length_nil]
    go_enter Tryd.func9, Tryd.ntmps9
    go_wp2
    refine wp_loop_rounds 1 ?_
    rw [rounds_succ]
    go_wp2
    go_ret
    exact ⟨rfl, 0, rfl⟩
end Go.Proofs.YtkaadahcefdiiaaDoor
