/-
  What an argument of type []string holds, and how much of it there is by the statement's own count.
-/
import Derived.Test.YtfjcichcmdnheaaRows
import Derived.Test.YtfjcichcmdnheaaLnJoin
import Derived.ProofKit
import Derived.OpenShut
import Derived.ShutString
import Derived.ChangeOld
import Derived.Below
import Derived.SliceStrings
import Derived.JoinedCond
import Derived.Laws.AppendOwnNone
namespace Go.Proofs.Ytfjcichcmdnheaa
open Go.ChangeShapes Go.WideShapes Go.ChangeAt Go.RowKit
open Ln

theorem own : ownKnob Try.prog.godebug = none := by kernel_rfl
theorem laidOut : laidOutB Try.prog = true := by kernel_rfl
theorem cellsStr : Try.prog.cellsOf 9 = 1 := by kernel_rfl

theorem addr_of {W : World} {a : Addr} {v : Value} (h : W.cell? (a.add 0) = some v) : ∃ b off, a = ⟨b, off, none⟩ := by
  obtain ⟨b, off, spot⟩ := a
  have hspot : spot = none := by simpa [Addr.add] using World.cell?_spot h
  subst hspot
  exact ⟨b, off, rfl⟩
theorem add_none (b off j : Nat) : (⟨b, off, none⟩ : Addr).add j = ⟨b, off + j, none⟩ := by unfold Addr.add; split <;> simp_all

/-- a slice of texts that came in -/
def Argv (w : World) (v : Value) (ws : List (List UInt8)) : Prop :=
  (v = .slice none 0 0 ∧ ws = []) ∨ ∃ ad cap, v = .slice (some ad) ws.length cap ∧ ws.length ≤ cap ∧ ∀ j u, (scells ws)[j]? = some u → w.cell? (ad.add j) = some u

theorem Argv.srow {w : World} {v : Value} {ws : List (List UInt8)} (h : Argv w v ws) : Srow w v ws := by
  rcases h with ⟨rfl, rfl⟩ | ⟨ad, cap, rfl, _, hc⟩
  · exact .inl ⟨rfl, _, _, rfl⟩
  · cases ws with
    | nil => exact .inl ⟨rfl, _, _, rfl⟩
    | cons x t =>
      obtain ⟨b, off, rfl⟩ := addr_of (hc 0 _ rfl)
      refine .inr ⟨b, off, cap, rfl, fun j hj => ?_⟩
      have := hc j (.string ⟨(x :: t)[j].toArray⟩) (by rw [scells, List.getElem?_map, List.getElem?_eq_getElem hj]; rfl)
      rw [add_none] at this
      exact this

theorem Argv.cap {w : World} {v : Value} {ws : List (List UInt8)} (h : Argv w v ws) : ∃ ao cap, v = .slice ao ws.length cap ∧ ws.length ≤ cap := by
  rcases h with ⟨rfl, rfl⟩ | ⟨ad, cap, rfl, hl, _⟩
  · exact ⟨_, _, rfl, Nat.le_refl _⟩
  · exact ⟨_, _, rfl, hl⟩

theorem ownsRow_cap {w : World} {B : Nat} {e : TypeId} {v : Value} {n : Nat} {xs : List Value} (h : w.ownsRow B e 1 v n xs) : ∃ ao cap, v = .slice ao n cap ∧ n ≤ cap := by
  rcases h.2 with ⟨rfl, rfl⟩ | ⟨g, cap, cur, q1, _, _, q4, _⟩
  · exact ⟨_, _, rfl, Nat.le_refl _⟩
  · exact ⟨_, _, q1, q4⟩

theorem strs_bulk {H : Type} (l : List ByteArray) : l.length + (l.map fun s => s.data.toList).flatten.length ≤ Rows.uptoBulkAll (strs (H := H) l) := by
  induction l with
  | nil => simp [strs, Rows.uptoBulkAll]
  | cons s t ih =>
    have e : strs (H := H) (s :: t) = .lit (.string s.data.toList) :: strs t := rfl
    rw [e, Rows.uptoBulkAll, Rows.uptoBulk]
    simp only [List.length_cons, List.map_cons, List.flatten_cons, List.length_append] at ih ⊢
    omega

/-- the texts that an argument holds -/
theorem open_texts {H : Type} {enc : TypeId × Value → H} {W : World} {fuel : Nat} {ao : Option Addr} {len cap : Nat} {d : DataW H} {p : List MemPlace}
    (h : DataW.trod enc Try.prog W 0 (fun _ => true) true fuel 22 [.slice ao len cap] = some (d, p)) :
    ∃ ws : List (List UInt8), Argv W (.slice ao len cap) ws ∧ ws.length + ws.flatten.length ≤ Rows.uptoBulk d := by
  rcases open_strings Try.underlying22 Try.underlying9 cellsStr h with ⟨hcs, hx⟩ | ⟨a, l, c, ss, hcs, _, hl, hm, hz, hx, hcell, _⟩
  · simp at hcs
    obtain ⟨rfl, rfl, rfl⟩ := hcs
    exact ⟨[], .inl ⟨rfl, rfl⟩, by simp⟩
  · simp at hcs
    obtain ⟨rfl, rfl, rfl⟩ := hcs
    simp at hz
    simp only [Prod.mk.injEq] at hx
    obtain ⟨rfl, _⟩ := hx
    have hlen : ((ss.take len).map fun s => s.data.toList).length = len := by simp; omega
    refine ⟨(ss.take len).map fun s => s.data.toList, .inr ⟨a, cap, by rw [hlen], by omega, fun j u hj => ?_⟩, ?_⟩
    · have hj' : j < len := by
        have := (List.getElem?_eq_some_iff.1 hj).1
        rw [scells_length, hlen] at this
        exact this
      rw [hcell j (by omega)]
      have hjs : j < ss.length := by omega
      simp [scells, hj', hjs] at hj
      simp [List.getD, hjs, ← hj]
    · have := strs_bulk (H := H) (ss.take len)
      rw [Rows.uptoBulk]
      simp only [List.length_map] at this ⊢
      omega

theorem each_le {ws : List (List UInt8)} : ∀ a ∈ ws, a.length ≤ ws.flatten.length := by
  induction ws with
  | nil => simp
  | cons x t ih =>
    intro a ha
    simp only [List.mem_cons] at ha
    simp only [List.flatten_cons, List.length_append]
    rcases ha with rfl | ha
    · omega
    · have := ih a ha; omega
end Go.Proofs.Ytfjcichcmdnheaa
