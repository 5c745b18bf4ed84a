/-
  Texts that belong together, joined: CxB.
-/
import Derived.Test.YtgiojkhmkeocfaaGreatDoorPartF1
import Derived.Test.YtgiojkhmkeocfaaGreatDoorPartB14

/- What CtxfmtBack needs of two texts: the patch of both is read from its text as it was; plain mathematics. -/
set_option maxRecDepth 20000
namespace Go.Proofs.YtgiojkhmkeocfaaGreatDoor
open Ln

theorem errs_out {l : List Hk} (h : errs l = 0) : ∀ x ∈ l, chkH x = 0 := by
  induction l with
  | nil => intro x hx; cases hx
  | cons y l ih =>
    simp only [errs] at h
    split at h
    · rename_i hq
      exact absurd h hq
    · rename_i hq
      intro x hx
      rcases List.mem_cons.1 hx with rfl | hx
      · omega
      · exact ih h x hx
/-- what two texts give -/
structure Bc (s t nm : List UInt8) (L : List Ch) (ctx : Int) : Prop where
  scr : Script L (splitL s).length (splitL t).length
  few : L.length ≤ (splitL s).length + 1
  hun : (mkR L (splitL s) (splitL t) ctx).length ≤ L.length
  grp : grpE L (splitL s).length (splitL t).length ctx = 0
  gd : ∀ x ∈ mkR L (splitL s) (splitL t) ctx, Gh x
  nil : mkR L (splitL s) (splitL t) ctx = [] ↔ s = t
  wrg : wrgP ⟨[111, 108, 100], nm, mkR L (splitL s) (splitL t) ctx⟩ = 0
  emp : ptT ⟨[111, 108, 100], nm, mkR L (splitL s) (splitL t) ctx⟩ = [] ↔ s = t
  rd : s ≠ t → cxT (ptT ⟨[111, 108, 100], nm, mkR L (splitL s) (splitL t) ctx⟩) = if 1048576 < (ptT ⟨[111, 108, 100], nm, mkR L (splitL s) (splitL t) ctx⟩).length then .error (0, 9) else .ok [⟨[111, 108, 100], nm, mkR L (splitL s) (splitL t) ctx⟩]
theorem bc_of (K : Int) (s t nm : List UInt8) (hx : (splitL s).length ≤ 200) (hy : (splitL t).length ≤ 200) (hn : nm.length ≤ 64) {ctx : Int} (hc : 0 ≤ ctx ∧ ctx ≤ 100) {L : List Ch} (hL : mkL (eng K (clx ig0 (splitL s) (splitL t)) (cly ig0 (splitL s) (splitL t))) (splitL t).length = L) : Bc s t nm L ctx := by
  obtain ⟨h1, h2, h3⟩ := eng_hun K (splitL s) (splitL t) (by omega) (by omega) hL
  have hb0 := bk_of K s t hx hy hL
  have ha := split_right s
  have hb := split_right t
  have h4 := script_order (ctx := ctx) h1 h2 hc (by omega) (by omega) (fun u hu => hu.elim (fun h => (check_lin ha u h).1) fun h => (check_lin hb u h).1) (check_abl ha) (check_abl hb)
  have h5 : innL (splitL s ++ splitL t) = false := (by
    simp only [innL, List.any_eq_false]
    intro u hu
    rcases List.mem_append.1 hu with hu | hu
    · simpa using (check_lin ha u hu).2
    · simpa using (check_lin hb u hu).2)
  have h6 : ordH (mkR L (splitL s) (splitL t) ctx) = 0 := by
    rcases h4 with h4 | h4
    · exact h4.1
    · rw [h5] at h4
      exact absurd h4.2 (by simp)
  have h7 : errs (mkR L (splitL s) (splitL t) ctx) = 0 := by
    unfold ordH at h6
    split at h6
    · exact h6
    · rename_i hq
      omega
  have h8 := errs_out h7
  have hse := script_each h1 h2 hc
  have hgd : ∀ x ∈ mkR L (splitL s) (splitL t) ctx, Gh x := by
    intro x hx'
    obtain ⟨⟨a1, a2, a3⟩, ⟨b1, b2, b3⟩, _, _, h9⟩ := hse x hx'
    refine ⟨h8 x hx', h9, fun q => ?_, fun q => ?_⟩
    · unfold atA at a3
      rw [if_pos (by omega)] at a3
      omega
    · unfold atB at b3
      rw [if_pos (by omega)] at b3
      omega
  obtain ⟨h10, _⟩ := made_len (ctx := ctx) h1 hc
  have hnil : mkR L (splitL s) (splitL t) ctx = [] ↔ s = t := by
    rw [(mkR_eq h1 hc).1, List.map_eq_nil_iff, grp_eq_nil]
    exact hb0.nil
  have hw : wrgP ⟨[111, 108, 100], nm, mkR L (splitL s) (splitL t) ctx⟩ = 0 := by
    unfold wrgP
    rw [if_neg (by simp only [List.length_cons, List.length_nil]; omega), if_neg (by simp only; omega)]
    exact h7
  refine ⟨h1, h3, h10, (mkR_eq h1 hc).2, hgd, hnil, hw, ?_, ?_⟩
  · unfold ptT
    rw [if_pos hw]
    constructor
    · intro he
      refine Classical.byContradiction fun hne => ?_
      have : mkR L (splitL s) (splitL t) ctx ≠ [] := fun q => hne (hnil.1 q)
      rw [pt_lines this] at he
      simp at he
    · intro he
      have := hnil.2 he
      unfold ptL
      rw [if_pos this]
      rfl
  · intro hne
    have hg : Gp ⟨[111, 108, 100], nm, mkR L (splitL s) (splitL t) ctx⟩ := ⟨fun q => hne (hnil.1 q), by show 3 ≤ 64; decide, hn, by show (mkR L (splitL s) (splitL t) ctx).length ≤ 4096; omega, hgd⟩
    have hall : ∀ q ∈ [(⟨[111, 108, 100], nm, mkR L (splitL s) (splitL t) ctx⟩ : Pth)], Gp q := fun q hq => by rw [List.mem_singleton.1 hq]; exact hg
    have e : [(⟨[111, 108, 100], nm, mkR L (splitL s) (splitL t) ctx⟩ : Pth)].flatMap ptT = ptT ⟨[111, 108, 100], nm, mkR L (splitL s) (splitL t) ctx⟩ := by simp
    have e2 := pts_text hall
    rw [e] at e2
    split
    · rename_i hq
      unfold cxT
      rw [if_pos hq]
    · rename_i hq
      rw [e2] at hq ⊢
      exact cx_back hall (by simp) (by omega)
end Go.Proofs.YtgiojkhmkeocfaaGreatDoor
