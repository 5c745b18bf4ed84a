/-
  What an argument of type []redlineref07.Pair holds.
-/
import Derived.Test.YtppdcjjkkckokaaEdOpen
import Derived.Test.YtppdcjjkkckokaaPaRow
namespace Go.Proofs.Ytppdcjjkkckokaa
open Go.ChangeShapes Go.WideShapes Go.ChangeAt Go.RowKit

theorem cellsQr : Try.prog.cellsOf 43 = 2 := by kernel_rfl
/-- a pair of numbers that an int holds -/
def wPr (p : Pr) : Prop := w64 p.X ∧ w64 p.Y

set_option maxRecDepth 10000 in
/-- the pairs that an argument holds -/
theorem open_prs {H : Type} {enc : TypeId × Value → H} {W : World} {fuel : Nat} {ao : Option Addr} {len cap : Nat} {d : DataW H} {p : List MemPlace}
    (h : DataW.trod enc Try.prog W 0 (fun _ => true) true fuel 40 [.slice ao len cap] = some (d, p)) :
    ∃ l : List Pr, HPr W (.slice ao len cap) l ∧ l.length ≤ Rows.uptoBulk d ∧ ∀ c ∈ l, wPr c := by
  rcases Go.Deep.open_slice Try.underlying40 h with ⟨hcs, hx⟩ | ⟨a, l, c, m, n, D, Pl, hcs, _, hl, hm, hmm, hx, hel⟩
  · simp at hcs
    obtain ⟨rfl, rfl, rfl⟩ := hcs
    exact ⟨[], .inl ⟨rfl, rfl, rfl⟩, by simp, by simp⟩
  · simp at hcs
    obtain ⟨rfl, rfl, rfl⟩ := hcs
    simp only [Prod.mk.injEq] at hx
    obtain ⟨rfl, _⟩ := hx
    have hlm : len ≤ m := by rw [hmm]; split <;> omega
    have each : ∀ i, i < len → ∃ c : Pr, wPr c ∧ W.cell? (a.add (i * 2)) = some (.int .i64 c.X) ∧ W.cell? (a.add (i * 2 + 1)) = some (.int .i64 c.Y) ∧ 1 ≤ Rows.uptoBulk (D i) := by
      intro i hi
      obtain ⟨cs', h1, h2⟩ := hel i (by omega)
      rw [cellsQr] at h1
      obtain ⟨_, hlen, hcell⟩ := World.cells?_some h1
      obtain ⟨xs, k, hk, hxy, _, hxl, hf⟩ := DataW.trod_struct Try.underlying43 h2
      match xs, hxl, cs', hlen with
      | [y0, y1], _, [v0, v1], _ =>
        have g0 := hf 0 _ rfl
        have g1 := hf 1 _ rfl
        simp [cellsInt] at g0 g1
        obtain ⟨z0, e0, _, w0⟩ := DataW.trod_int Try.underlying3 g0
        obtain ⟨z1, e1, _, w1⟩ := DataW.trod_int Try.underlying3 g1
        cases e0
        cases e1
        have c0 := hcell 0 (by omega)
        have c1 := hcell 1 (by omega)
        rw [Go.Deep.add_add] at c0 c1
        simp only [Prod.mk.injEq] at hxy
        refine ⟨⟨z0, z1⟩, ⟨w64_of w0, w64_of w1⟩, by simpa using c0, by simpa using c1, ?_⟩
        rw [hxy.1, Rows.uptoBulk]
        omega
    have : Inhabited Pr := ⟨⟨0, 0⟩⟩
    obtain ⟨f, hf⟩ := Go.Deep.choose_lt each
    have hlen : ((List.range len).map f).length = len := by simp
    refine ⟨(List.range len).map f, .inr ⟨a, cap, by rw [hlen], by rw [hlen]; exact hl, fun j u hj => ?_⟩, ?_, ?_⟩
    · have hj' : j < len * 2 := by
        have := (List.getElem?_eq_some_iff.1 hj).1
        rw [prcells_length, hlen] at this
        exact this
      obtain ⟨h0, h1⟩ := prcells_at ((List.range len).map f) (j / 2) (by rw [hlen]; omega)
      obtain ⟨_, g0, g1, _⟩ := hf (j / 2) (by omega)
      simp only [List.getElem_map, List.getElem_range] at h0 h1
      rcases (by omega : j = 2 * (j / 2) ∨ j = 2 * (j / 2) + 1) with e | e
      · rw [e, h0] at hj
        rw [e, Nat.mul_comm, g0, hj]
      · rw [e, h1] at hj
        rw [e, Nat.mul_comm, g1, hj]
    · rw [hlen, Rows.uptoBulk]
      have := bulk_range D len fun i hi => (hf i hi).2.2.2
      omega
    · intro c hc
      simp only [List.mem_map, List.mem_range] at hc
      obtain ⟨i, hi, rfl⟩ := hc
      exact (hf i hi).1
end Go.Proofs.Ytppdcjjkkckokaa
