/-
  The heads of all lengths in memory; the closure that looks whether one of them may stand behind a pair, walked.
-/
import Derived.Test.YtppdcjjkkckokaaPaWi
import Derived.Test.YtppdcjjkkckokaaPaBk
namespace Go.Proofs.Ytppdcjjkkckokaa
open Go.RowKit
attribute [local simp] low_drew low_alloc

theorem owns_cells {w : World} {base n : Nat} {e : TypeId} {s : Nat} {v : Value} {xs : List Value} (ho : w.ownsRow base e s v n xs) {g : Nat} (hg : v.ownBlock = some g) : ∃ cur, w.heap[g]? = some (.cells cur e (0, 0)) ∧ base ≤ g := by
  rcases ho.2 with ⟨h1, _⟩ | ⟨g', cap, cur, q1, q2, q3, _⟩
  · rw [h1] at hg; cases hg
  · rw [q1] at hg; cases hg; exact ⟨cur, q3, q2⟩
theorem owns_differ {w : World} {base base' n n' : Nat} {e e' : TypeId} {s s' : Nat} {v v' : Value} {xs xs' : List Value} (ho : w.ownsRow base e s v n xs) (ho' : w.ownsRow base' e' s' v' n' xs') (hne : e ≠ e') : v.ownBlock = none ∨ v.ownBlock ≠ v'.ownBlock := by
  cases h : v.ownBlock with
  | none => exact .inl rfl
  | some g =>
    right
    intro e2
    obtain ⟨cur, h1, _⟩ := owns_cells ho h
    obtain ⟨cur', h2, _⟩ := owns_cells ho' e2.symm
    rw [h1] at h2
    cases h2
    exact hne rfl
/-- the heads of all lengths: a row of rows, each with its own block -/
structure Al (W : World) (base : Nat) (va : Value) (vals : List Value) (H : List (List Pr)) : Prop where
  row : W.ownsRow base 94 1 va vals.length vals
  len : vals.length = H.length
  own : ∀ (n : Nat) (v : Value) (h : List Pr), vals[n]? = some v → H[n]? = some h → W.ownsRow base 44 2 v h.length (prcells h)
  apart : ∀ (i j : Nat) (v v' : Value) (g : Nat), i ≠ j → vals[i]? = some v → vals[j]? = some v' → v.ownBlock = some g → v'.ownBlock ≠ some g
theorem Al.keep {W u : World} {base : Nat} {va : Value} {vals : List Value} {H : List (List Pr)} (h : Al W base va vals H) (hb : Low W u) : Al u base va vals H :=
  ⟨owns_keep h.row hb, h.len, fun n v k h1 h2 => owns_keep (h.own n v k h1 h2) hb, h.apart⟩
theorem Al.at {W : World} {base : Nat} {va : Value} {vals : List Value} {H : List (List Pr)} (h : Al W base va vals H) {n : Nat} (hn : n < H.length) : ∃ v, vals[n]? = some v ∧ HPr W v H[n] := by
  have hl := h.len
  exact ⟨vals[n], List.getElem?_eq_getElem (by omega), holds_of (h.own n _ _ (List.getElem?_eq_getElem (by omega)) (List.getElem?_eq_getElem hn))⟩
theorem Al.cell {W : World} {base : Nat} {ao : Option Addr} {k c : Nat} {vals : List Value} {H : List (List Pr)} (h : Al W base (.slice ao k c) vals H) {n : Nat} {v : Value} (hv : vals[n]? = some v) : ∃ g, ao = some ⟨g, 0, none⟩ ∧ g < W.heap.size ∧ W.cell? ⟨g, n, none⟩ = some v ∧ W.frozen? ⟨g, n, none⟩ = false := by
  have hn := (List.getElem?_eq_some_iff.1 hv).1
  rcases h.row.2 with ⟨h1, h2⟩ | ⟨g, cap, cur, q1, q2, q3, q4⟩
  · omega
  · cases q1
    refine ⟨g, rfl, (Array.getElem?_eq_some_iff.1 q3).1, ?_, h.row.frozenAt n⟩
    rw [h.row.cellAt n (by omega), hv]
/-- one list of heads has grown -/
theorem Al.set {W u : World} {base : Nat} {g k c : Nat} {vals : List Value} {H : List (List Pr)} (h : Al W base (.slice (some ⟨g, 0, none⟩) k c) vals H) {n : Nat} {v v' : Value} {h' : List Pr} (hv : vals[n]? = some v) (hG : Grows base W v v' h' u) : Al (u.setCell ⟨g, n, none⟩ v') base (.slice (some ⟨g, 0, none⟩) k c) (vals.set n v') (H.set n h') := by
  have hn := (List.getElem?_eq_some_iff.1 hv).1
  have hl := h.len
  obtain ⟨g1, g2, g3⟩ := hG
  have hnH : n < H.length := by omega
  have hOn := h.own n v H[n] hv (List.getElem?_eq_getElem hnH)
  have hrow : u.ownsRow base 94 1 (.slice (some ⟨g, 0, none⟩) k c) vals.length vals := h.row.kept g2 (owns_differ h.row hOn (by decide))
  have hkk : k = vals.length := by
    rcases h.row.2 with ⟨h1, h2⟩ | ⟨g', cap, cur, q1, _⟩
    · cases h1
    · cases q1; rfl
  subst hkk
  obtain ⟨p1, gs⟩ := hrow.stored n v'
  refine ⟨by rw [List.length_set]; exact p1, by simp [hl], fun m x y hx hy => ?_, fun i j x y b hij hx hy hb => ?_⟩
  · by_cases e : m = n
    · subst e
      rw [List.getElem?_set_self hn] at hx
      rw [List.getElem?_set_self hnH] at hy
      cases hx
      cases hy
      exact g1.kept gs (by simpa [Value.ownBlock] using owns_differ g1 hrow (by decide))
    · rw [List.getElem?_set_ne (fun q => e q.symm)] at hx hy
      have hOm := h.own m x y hx hy
      have hOu : u.ownsRow base 44 2 x y.length (prcells y) := hOm.kept g2 (by
        cases hb : x.ownBlock with
        | none => exact .inl rfl
        | some b => exact .inr (fun q => h.apart m n x v b e hx hv hb q.symm))
      exact hOu.kept gs (by simpa [Value.ownBlock] using owns_differ hOu hrow (by decide))
  · have key : ∀ m y, m ≠ n → vals[m]? = some y → ∀ b, y.ownBlock = some b → v'.ownBlock ≠ some b := fun m y hmn hy b hb q => by
      rcases g3 with g3 | ⟨g', g3, g4⟩
      · exact h.apart m n y v b hmn hy hv hb (g3 ▸ q)
      · rw [g3] at q
        cases q
        have hm := (List.getElem?_eq_some_iff.1 hy).1
        have := owns_lt2 (h.own m y H[m] hy (List.getElem?_eq_getElem (by omega))) hb
        omega
    by_cases ei : i = n
    · subst ei
      rw [List.getElem?_set_self hn] at hx
      cases hx
      rw [List.getElem?_set_ne hij] at hy
      exact fun q => key j y (fun q' => hij q'.symm) hy b q hb
    · rw [List.getElem?_set_ne (fun q => ei q.symm)] at hx
      by_cases ej : j = n
      · subst ej
        rw [List.getElem?_set_self hn] at hy
        cases hy
        exact key i x ei hx b hb
      · rw [List.getElem?_set_ne (fun q => ej q.symm)] at hy
        exact h.apart i j x y b hij hx hy hb
/-- one more, still empty -/
theorem Al.more {W w1 : World} {base : Nat} {va va' : Value} {vals : List Value} {H : List (List Pr)} (h : Al W base va vals H) (hO : w1.ownsRow base 94 1 va' (vals.length + 1) (vals ++ [.slice none 0 0])) (hg : W.grownBy w1 va.ownBlock) : Al w1 base va' (vals ++ [.slice none 0 0]) (H ++ [[]]) := by
  have hl := h.len
  refine ⟨by rw [List.length_append]; exact hO, by simp [hl], fun n v k hv hk => ?_, fun i j x y b hij hx hy hb => ?_⟩
  · by_cases e : n < vals.length
    · rw [List.getElem?_append_left e] at hv
      rw [List.getElem?_append_left (by omega)] at hk
      have := h.own n v k hv hk
      exact this.kept hg (owns_differ this h.row (by decide))
    · have hn : n = vals.length := by
        have := (List.getElem?_eq_some_iff.1 hv).1
        simp at this
        omega
      subst hn
      rw [List.getElem?_append_right (Nat.le_refl _)] at hv
      rw [hl, List.getElem?_append_right (Nat.le_refl _)] at hk
      simp at hv hk
      subst hv hk
      exact World.ownsRow_nil _ _ _ _
  · have key : ∀ (m : Nat) (y : Value), (vals ++ [.slice none 0 0])[m]? = some y → y.ownBlock ≠ none → vals[m]? = some y := fun m y hy hn => by
      by_cases e : m < vals.length
      · rwa [List.getElem?_append_left e] at hy
      · rw [List.getElem?_append_right (by omega)] at hy
        have := (List.getElem?_eq_some_iff.1 hy).1
        simp at this
        have e2 : m - vals.length = 0 := by omega
        rw [e2] at hy
        simp at hy
        subst hy
        exact absurd rfl hn
    intro q
    exact h.apart i j x y b hij (key i x hx (by rw [hb]; simp)) (key j y hy (by rw [q]; simp)) hb q

theorem behind_low (h : List Pr) (p : Pr) (v : Value) (W u : World) (hh : HPr W v h) (hl : h.length ≤ 1048576) (hs : Hid (Stair h)) (r : Bool) (hr : Hid (r = true ↔ ∃ a ∈ h, ab a p)) (hL : Low W u) :
    Calls Try.prog 62 #[v, prV p] u fun e w' => e = .returned (.bool r) ∧ Low W w' := by
  refine (behind_f h p v u (HPr.keep hh hL (Nat.le_refl _)) hl hs r hr).mono ?_
  rintro e w' ⟨rfl, h2⟩
  exact ⟨rfl, Below.trans hL (h2.mono (Below.size hL))⟩

set_option maxHeartbeats 1000000 in
theorem rf1_f (H : List (List Pr)) (p : Pr) (i B4 Bp base : Nat) (va : Value) (vals : List Value) (W u : World) (hL : Low W u) (hA : Al W base va vals H) (c4 : W.cell? ⟨B4, 0, none⟩ = some va) (hb4 : B4 < W.heap.size) (cX : W.cell? ⟨Bp, 0, none⟩ = some (.int .i64 p.X)) (cY : W.cell? ⟨Bp, 1, none⟩ = some (.int .i64 p.Y)) (hbp : Bp < W.heap.size) (hi : i < H.length) (hst : Hid (∀ h ∈ H, Stair h ∧ h.length ≤ 1048576)) (_hHl : H.length ≤ 1048576) (r : Bool) (hr : Hid (r = true ↔ ∃ a ∈ H[i], ab a p)) :
    Calls Try.prog 61 #[.int .i64 (i : Int), .pointer (some ⟨B4, 0, none⟩), .pointer (some ⟨Bp, 0, none⟩)] u fun e u' => e = .returned (.bool !r) ∧ Low W u' := by
  obtain ⟨ao, c, rfl⟩ := (holds_of hA.row).form
  obtain ⟨v, hv, hh⟩ := hA.at hi
  obtain ⟨g, rfl, hgl, cv, _⟩ := hA.cell hv
  have hs := hst.out _ (List.getElem_mem hi)
  obtain ⟨vo, vc, rfl⟩ := Holds.form hh
  have hlen := hA.len
  obtain ⟨X, Y⟩ := p
  dsimp only at cX cY
  have hcs : ∀ z : World, Low W z → z.cell? ⟨B4, 0, none⟩ = some (.slice (some ⟨g, 0, none⟩) vals.length c) ∧ z.cell? ⟨g, i, none⟩ = some (.slice vo H[i].length vc) ∧ z.cell? ⟨Bp, 0, none⟩ = some (.int .i64 X) ∧ z.cell? ⟨Bp, 1, none⟩ = some (.int .i64 Y) := fun z hz => ⟨cell_stay hz hb4 c4, cell_stay hz hgl cv, cell_stay hz hbp cX, cell_stay hz hbp cY⟩
  obtain ⟨d1, d2, d3, d4⟩ := hcs u hL
  obtain ⟨h, hh'⟩ : ∃ h, H[i] = h := ⟨_, rfl⟩
  rw [hh'] at hh hs d2 hcs hr
  have HS : Hid (Stair h) := hs.1
  have hhl := hs.2
  clear hh' c4 cX cY cv hs
  have i1 : 0 ≤ (i : Int) := by omega
  have i2 : (i : Int) < (vals.length : Int) := by omega
  go_enter Try.func61, Try.ntmps61
  go_wp2_with fail
  go_region_held3 (fun w' => w'.cell? ⟨B4, 0, none⟩ = some (.slice (some ⟨g, 0, none⟩) vals.length c) ∧ w'.cell? ⟨g, i, none⟩ = some (.slice vo h.length vc) ∧ w'.cell? ⟨Bp, 0, none⟩ = some (.int .i64 X) ∧ w'.cell? ⟨Bp, 1, none⟩ = some (.int .i64 Y) ∧ Low W w') (go_keep)
    (first | (go_at_call 62; refine (behind_low h ⟨X, Y⟩ _ W _ hh hhl HS r hr (by first | assumption | (simp [*]; done))).mono ?_; rintro e w' ⟨rfl, hlow⟩; obtain ⟨g0, g1, g2, g3⟩ := hcs w' hlow))
  go_wp2
  go_ret
  exact ⟨rfl, hlow⟩
end Go.Proofs.Ytppdcjjkkckokaa
