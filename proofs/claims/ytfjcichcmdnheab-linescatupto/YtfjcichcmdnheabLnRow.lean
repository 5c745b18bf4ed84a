/-
  Rows of texts that a call owns, as cells; the helper SameStrings of the reference, walked at two slices that hold the same texts: it returns true, and only reads.
-/
import Derived.Test.YtfjcichcmdnheabKit
import Derived.Test.YtfjcichcmdnheabProg
import Derived.WalkKit
import Derived.WalkSpells
import Derived.WalkLawsBesides
import Derived.Deep.QuietTactic
import Derived.BigQuiet
namespace Go.Proofs.Ytfjcichcmdnheab
open Go.RowKit
attribute [local go_sem] ba_at ByteArray.extract_mk

/-- a list of texts as cells -/
def scells (ws : List (List UInt8)) : List Value := ws.map fun a => .string ⟨a.toArray⟩
theorem scells_length (ws : List (List UInt8)) : (scells ws).length = ws.length := by simp [scells]
theorem scells_snoc (ws : List (List UInt8)) (a : List UInt8) : scells (ws ++ [a]) = scells ws ++ [.string ⟨a.toArray⟩] := by simp [scells]

theorem ownsRow_keep {w w' : World} {B : Nat} {e : TypeId} {size : Nat} {v : Value} {n : Nat} {xs : List Value} (h : w.ownsRow B e size v n xs) (hk : ∀ k, k < w.heap.size → w'.heap[k]? = w.heap[k]?) : w'.ownsRow B e size v n xs := by
  refine ⟨h.1, ?_⟩
  rcases h.2 with h | ⟨g, cap, cur, q1, q2, q3, q4⟩
  · exact .inl h
  · exact .inr ⟨g, cap, cur, q1, q2, (hk g (Array.getElem?_eq_some_iff.1 q3).1).trans q3, q4⟩

theorem ownsRow_form' {w : World} {B : Nat} {e : TypeId} {size : Nat} {v : Value} {n : Nat} {xs : List Value} (h : w.ownsRow B e size v n xs) : ∃ ao cap, v = .slice ao n cap := by
  rcases h.2 with ⟨rfl, rfl⟩ | ⟨g, cap, cur, q1, _⟩
  · exact ⟨_, _, rfl⟩
  · exact ⟨_, _, q1⟩

theorem one_str (a : ByteArray) : ∀ u ∈ [Value.string a], u.oneCell' = true := by intro u hu; simp at hu; subst hu; rfl

theorem infoStr : (Try.prog.info? 9).map (fun i => (i.zero, i.size, i.bytes)) = some (some (.string ⟨#[]⟩), 1, 16) := by kernel_rfl

/-- a slice value holds these texts -/
def Srow (w : World) (v : Value) (ws : List (List UInt8)) : Prop :=
  (ws = [] ∧ ∃ ao cap, v = .slice ao 0 cap) ∨ (∃ b off cap, v = .slice (some ⟨b, off, none⟩) ws.length cap ∧ ∀ j (h : j < ws.length), w.cell? ⟨b, off + j, none⟩ = some (.string ⟨ws[j].toArray⟩))

theorem srow_of {w : World} {B : Nat} {e : TypeId} {v : Value} {ws : List (List UInt8)} (h : w.ownsRow B e 1 v ws.length (scells ws)) : Srow w v ws := by
  rcases h.2 with ⟨rfl, h0⟩ | ⟨g, cap, cur, rfl, _⟩
  · exact .inl ⟨List.eq_nil_of_length_eq_zero h0, _, _, rfl⟩
  · refine .inr ⟨g, 0, cap, rfl, fun j hj => ?_⟩
    have := h.cells (g := g) rfl j (.string ⟨ws[j].toArray⟩) (by simp [scells, hj])
    have hadd : (⟨g, 0, none⟩ : Addr).add j = ⟨g, j, none⟩ := by unfold Addr.add; split <;> simp_all
    rw [hadd] at this
    rw [Nat.zero_add]; exact this

theorem Srow.keep {w w' : World} {v : Value} {ws : List (List UInt8)} (h : Srow w v ws) (hk : ∀ k, k < w.heap.size → w'.heap[k]? = w.heap[k]?) : Srow w' v ws := by
  rcases h with h | ⟨b, off, cap, hv, hc⟩
  · exact .inl h
  · refine .inr ⟨b, off, cap, hv, fun j hj => ?_⟩
    have h1 := hc j hj
    have hlt := World.block_lt_of_cell? w _ h1
    rw [World.cell?_of_block (w := w) (w' := w') (hk b hlt)]
    exact h1

set_option maxHeartbeats 1000000 in
theorem Same_any (va vb : Value) (ws : List (List UInt8)) (w : World) (hl : ws.length ≤ 1099511627776) (ha : Srow w va ws) (hb : Srow w vb ws) :
    Calls Try.prog 6 #[va, vb] w fun e w' => e = .returned (.bool true) ∧ ∃ n, w' = w.drewN n := by
  cases hws : ws with
  | nil =>
    subst hws
    obtain ⟨ao, ca, rfl⟩ : ∃ ao cap, va = .slice ao 0 cap := by
      rcases ha with ⟨_, h⟩ | ⟨b, off, cap, h, _⟩
      · exact h
      · exact ⟨_, _, h⟩
    obtain ⟨bo, cb, rfl⟩ : ∃ ao cap, vb = .slice ao 0 cap := by
      rcases hb with ⟨_, h⟩ | ⟨b, off, cap, h, _⟩
      · exact h
      · exact ⟨_, _, h⟩
    go_enter Try.func6, Try.ntmps6
    go_wp2
    refine wp_loop_rounds 1 ?_
    rw [rounds_succ]
    go_wp2
    go_ret
    exact ⟨rfl, 0, rfl⟩
  | cons x xs =>
    have hne : ws ≠ [] := by rw [hws]; simp
    clear hws
    rcases ha with ⟨h, _⟩ | ⟨b1, o1, c1, rfl, hc1⟩
    · exact absurd h hne
    rcases hb with ⟨h, _⟩ | ⟨b2, o2, c2, rfl, hc2⟩
    · exact absurd h hne
    have HC1 : Hid (∀ j (h : j < ws.length), w.cell? ⟨b1, o1 + j, none⟩ = some (.string ⟨ws[j].toArray⟩)) := hc1
    have HC2 : Hid (∀ j (h : j < ws.length), w.cell? ⟨b2, o2 + j, none⟩ = some (.string ⟨ws[j].toArray⟩)) := hc2
    clear hc1 hc2
    go_enter Try.func6, Try.ntmps6
    go_wp2
    go_loopw [5] (fun i wr => ∃ k m : Nat, k ≤ ws.length ∧ i = .int .i64 k ∧ wr = w.drewN m) (fun i _ => ws.length - (intOf i).toNat)
    case atStart => exact ⟨0, 0, Nat.zero_le _, rfl, rfl⟩
    case round =>
      obtain ⟨k, m, hk, rfl, rfl⟩ := hrel
      by_cases hlt : k < ws.length
      · have d1 := HC1.out k hlt
        have d2 := HC2.out k hlt
        have i1 : 0 ≤ (k : Int) := by omega
        have i2 : (k : Int) < (ws.length : Int) := by omega
        go_wp2_with fail
        go_quiet (fail)
        go_wp2
        go_roundw
        case rel => exact ⟨k + 1, _, by omega, by go_num, rfl⟩
        case measure => simp [intOf]; omega
      · go_wp2
        go_ret
        exact ⟨rfl, _, rfl⟩
end Go.Proofs.Ytfjcichcmdnheab
