/-
  Texts that belong together, joined: HuBk.
-/
import Derived.Test.YtgckcbcdmmnkoaaGreatDoorPartB1
import Derived.Test.YtgckcbcdmmnkoaaGreatDoorPartA17
import Derived.Test.YtgckcbcdmmnkoaaGreatDoorPartA5
import Derived.Test.YtgckcbcdmmnkoaaGreatDoorPartA6

/- Going back as a hunk to a hunk; reads of hunks within a region that draws. -/
set_option maxRecDepth 20000
namespace Go.Proofs.YtgckcbcdmmnkoaaGreatDoor
open Go.RowKit

theorem invG_len (l : List Mk) : ∀ x : List Mk, (invG x l).length = x.length + l.length := by
  induction l with
  | nil => intro x; simp [invG]
  | cons m l ih =>
    intro x
    simp only [invG]
    split
    · simp [ih]; omega
    · split
      · simp [ih]; omega
      · simp [ih]
theorem invG_mem (l : List Mk) : ∀ (x : List Mk) (m : Mk), m ∈ invG x l → ∃ q, (q ∈ x ∨ q ∈ l) ∧ q.tx = m.tx := by
  induction l with
  | nil => intro x m h; exact ⟨m, .inl h, rfl⟩
  | cons c l ih =>
    intro x m h
    simp only [invG] at h
    split at h
    · rcases List.mem_cons.1 h with rfl | h
      · exact ⟨c, .inr (by simp), rfl⟩
      · obtain ⟨q, hq, e⟩ := ih x m h
        exact ⟨q, hq.imp id (fun k => by simp [k]), e⟩
    · split at h
      · obtain ⟨q, hq, e⟩ := ih _ m h
        rcases hq with hq | hq
        · rcases List.mem_append.1 hq with hq | hq
          · exact ⟨q, .inl hq, e⟩
          · rw [List.mem_singleton.1 hq] at e
            exact ⟨c, .inr (by simp), e⟩
        · exact ⟨q, .inr (by simp [hq]), e⟩
      · rcases List.mem_append.1 h with h | h
        · exact ⟨m, .inl h, rfl⟩
        · rcases List.mem_cons.1 h with rfl | h
          · exact ⟨m, .inr (by simp), rfl⟩
          · obtain ⟨q, hq, e⟩ := ih [] m h
            rcases hq with hq | hq
            · cases hq
            · exact ⟨q, .inr (by simp [hq]), e⟩
theorem inv_bound {h X : Hk} (hX : invH h = X) {M : Nat} (hl : ∀ m ∈ h.ls, m.tx.length ≤ M) : X.ls.length = h.ls.length ∧ ∀ m ∈ X.ls, m.tx.length ≤ M := by
  subst hX
  refine ⟨by simp [invH, invG_len], fun m hm => ?_⟩
  obtain ⟨q, hq, e⟩ := invG_mem h.ls [] m hm
  rcases hq with hq | hq
  · cases hq
  · rw [← e]
    exact hl q hq
/-- Invert within a region that draws -/
theorem hinv_held {h X : Hk} {v : Value} {W u : World} (hv : HMk u v h.ls) (hl : h.ls.length ≤ 549755813888) (HX : Hid (invH h = X)) (hL : Low W u) : Calls Tryz.prog 19 (#[hkV h v] ++ #[]) u fun e w' => ∃ x, e = .returned x ∧ Low W w' ∧ (∃ o c, x = hkV X (.slice o X.ls.length c) ∧ HMk w' (.slice o X.ls.length c) X.ls ∧ Below u.heap.size u w') := by
  have e : X = ⟨h.B, h.BN, h.A, h.AN, invG [] h.ls⟩ := HX.out.symm
  refine (hInvert_f h v u hv hl _ rfl).mono ?_
  rintro e1 w' ⟨x, rfl, hx, hB⟩
  have hh : HMk w' x (invG [] h.ls) := holds_of hx
  obtain ⟨o, c, rfl⟩ := hh.form
  subst e
  exact ⟨_, rfl, hL.trans (hB.mono hL.size), o, c, rfl, hh, hB⟩
theorem hinv_f {h X : Hk} {v : Value} {u : World} (hv : HMk u v h.ls) (hl : h.ls.length ≤ 549755813888) (HX : Hid (invH h = X)) : Calls Tryz.prog 19 #[hkV h v] u fun e w' => ∃ o c, e = .returned (hkV X (.slice o X.ls.length c)) ∧ HMk w' (.slice o X.ls.length c) X.ls ∧ Below u.heap.size u w' := by
  refine (hinv_held (W := u) hv hl HX (Below.refl _ _)).mono ?_
  rintro e w' ⟨x, rfl, _, o, c, rfl, h1, h2⟩
  exact ⟨o, c, rfl, h1, h2⟩
theorem exec_eqE {u : World} {z : Int} {r : Bool} (h : (z == 0) = r) {op : Oper} (x y : Operand) (ho : op.op = .binOp .eql 27 x y 27) {ev : Operand → Value} (hx : ev x = .int .i64 z) (hy : ev y = .int .i64 0) :
    (execOp ev op).run Tryz.prog u = .ok (.value (.bool r)) u := by
  simp only [execOp, ho, hx, hy]
  go_simp
theorem exec_neB {u : World} {r : Bool} {op : Oper} (x y : Operand) (ho : op.op = .binOp .neq 4 x y 4) {ev : Operand → Value} (hx : ev x = .bool r) (hy : ev y = .bool r) :
    (execOp ev op).run Tryz.prog u = .ok (.value (.bool false)) u := by
  simp only [execOp, ho, hx, hy]
  cases r <;> go_simp
end Go.Proofs.YtgckcbcdmmnkoaaGreatDoor
