/-
  What an argument of type []string holds, and how much of it there is by the statement's own count; copies of a slice.
-/
import Derived.Test.YtkaadahcefdiiaaDoorCards
import Derived.Test.YtkaadahcefdiiaaDoorTie
import Derived.Test.YtkaadahcefdiiaaDoorCnOpen
import Derived.Test.YtkaadahcefdiiaaDoorCnTab
import Derived.Test.YtkaadahcefdiiaaDoorItAll
import Derived.ProofKit
import Derived.OpenShut
import Derived.ShutString
import Derived.ChangeOld
import Derived.Below
import Derived.SliceStrings
import Derived.JoinedCond
import Derived.Deep.DeepHandedRow
import Derived.Lib.LaidTab
import Derived.LaidSub
namespace Go.Proofs.YtkaadahcefdiiaaDoor
open Go.ChangeShapes Go.WideShapes Go.ChangeAt Go.RowKit
open Cn

theorem laidOut : laidOutB Tryd.prog = true := by kernel_rfl
theorem cellsStr : Tryd.prog.cellsOf 9 = 1 := by kernel_rfl

theorem strs_bulk {H : Type} (l : List ByteArray) : l.length + (l.map fun s => s.data.toList).flatten.length ≤ Rows.uptoBulkAll (strs (H := H) l) := by
  induction l with
  | nil => simp [strs, Rows.uptoBulkAll]
  | cons s t ih =>
    have e : strs (H := H) (s :: t) = .lit (.string s.data.toList) :: strs t := rfl
    rw [e, Rows.uptoBulkAll, Rows.uptoBulk]
    simp only [List.length_cons, List.map_cons, List.flatten_cons, List.length_append] at ih ⊢
    omega

/-- the texts that an argument holds -/
theorem open_texts {H : Type} {enc : TypeId × Value → H} {W : World} {fuel : Nat} {ao : Option Addr} {len cap : Nat} {d : DataW H} {p : List MemPlace}
    (h : DataW.trod enc Tryd.prog W 0 (fun _ => true) true fuel 22 [.slice ao len cap] = some (d, p)) :
    ∃ ws : List (List UInt8), Holds W (.slice ao len cap) (scells ws) ∧ ws.length + ws.flatten.length ≤ Rows.uptoBulk d := by
  rcases open_strings Tryd.underlying22 Tryd.underlying9 cellsStr h with ⟨hcs, hx⟩ | ⟨a, l, c, ss, hcs, _, hl, hm, hz, hx, hcell, _⟩
  · simp at hcs
    obtain ⟨rfl, rfl, rfl⟩ := hcs
    exact ⟨[], .inl ⟨rfl, rfl⟩, by simp⟩
  · simp at hcs
    obtain ⟨rfl, rfl, rfl⟩ := hcs
    simp at hz
    simp only [Prod.mk.injEq] at hx
    obtain ⟨rfl, _⟩ := hx
    have hlen : ((ss.take len).map fun s => s.data.toList).length = len := by simp; omega
    refine ⟨(ss.take len).map fun s => s.data.toList, .inr ⟨a, cap, by rw [scells_length, hlen], fun j u hj => ?_⟩, ?_⟩
    · have hj' : j < len := by
        have := (List.getElem?_eq_some_iff.1 hj).1
        rw [scells_length, hlen] at this
        exact this
      rw [hcell j (by omega)]
      have hjs : j < ss.length := by omega
      simp [scells, hj', hjs] at hj
      simp [List.getD, hjs, ← hj]
    · have := strs_bulk (H := H) (ss.take len)
      rw [Rows.uptoBulk]
      simp only [List.length_map] at this ⊢
      omega

theorem each_le {ws : List (List UInt8)} : ∀ a ∈ ws, a.length ≤ ws.flatten.length := by
  induction ws with
  | nil => simp
  | cons x t ih =>
    intro a ha
    simp only [List.mem_cons] at ha
    simp only [List.flatten_cons, List.length_append]
    rcases ha with rfl | ha
    · omega
    · have := ih a ha; omega

/-- a new empty row -/
theorem nil_row_new {e : TypeId} (W : World) (N g : Nat) (hg : W.heap.size = g) (hB : N ≤ g) : (W.alloc (.cells #[] e)).ownsRow N e 1 (.slice (some ⟨g, 0, none⟩) 0 0) 0 [] := by
  subst hg
  exact ⟨by simp, .inr ⟨_, 0, #[], rfl, hB, _root_.Go.heap_alloc_new W _, Nat.le_refl _, by decide, rfl, rfl⟩⟩
theorem nil_row {e : TypeId} {W : World} {N g : Nat} (hg : W.heap[g]? = some (.cells #[] e (0, 0))) (hB : N ≤ g) : W.ownsRow N e 1 (.slice (some ⟨g, 0, none⟩) 0 0) 0 [] :=
  ⟨by simp, .inr ⟨g, 0, #[], rfl, hB, hg, Nat.le_refl _, by decide, rfl, rfl⟩⟩

theorem below_drewN (w : World) (n : Nat) : Below w.heap.size w (w.drewN n) := ⟨rfl, rfl, rfl, Nat.le_refl _, fun _ _ => rfl⟩
theorem SameS_low (va vb : Value) (ws : List (List UInt8)) (w : World) (hl : ws.length ≤ 1099511627776) (ha : Holds w va (scells ws)) (hb : Holds w vb (scells ws)) :
    Calls Tryd.prog 10 #[va, vb] w fun e w' => e = .returned (.bool true) ∧ Below w.heap.size w w' := by
  refine (SameS_any va vb ws w hl ha hb).mono ?_
  rintro e w' ⟨rfl, n, rfl⟩
  exact ⟨rfl, below_drewN w n⟩
theorem SameI_low (va vb : Value) (ws : List Nat) (w : World) (hl : ws.length ≤ 1099511627776) (ha : Holds w va (icells ws)) (hb : Holds w vb (icells ws)) :
    Calls Tryd.prog 9 #[va, vb] w fun e w' => e = .returned (.bool true) ∧ Below w.heap.size w w' := by
  refine (SameI_any va vb ws w hl ha hb).mono ?_
  rintro e w' ⟨rfl, n, rfl⟩
  exact ⟨rfl, below_drewN w n⟩
end Go.Proofs.YtkaadahcefdiiaaDoor
