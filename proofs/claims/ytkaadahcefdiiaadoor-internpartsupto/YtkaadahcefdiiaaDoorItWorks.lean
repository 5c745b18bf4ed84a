/-
  The helper works of the laws of layer intern, walked: it returns true.
-/
import Derived.Test.YtkaadahcefdiiaaDoorItOpen
namespace Go.Proofs.YtkaadahcefdiiaaDoor
open Cn It Go.RowKit
attribute [local go_sem] ba_at ByteArray.extract_mk ba_cat

theorem owns_ge' {w : World} {base : Nat} {e : TypeId} {vx : Value} {n : Nat} {xs : List Value} (ho : w.ownsRow base e 1 vx n xs) {g : Nat} (hg : vx.ownBlock = some g) : base ≤ g := by
  rcases ho.2 with ⟨h1, _⟩ | ⟨g', cap, cur, q1, q2, _⟩
  · rw [h1] at hg; cases hg
  · rw [q1] at hg; cases hg; exact q2
/-- a new row, read as a slice -/
theorem holds_new (w : World) (C : List Value) (t : TypeId) (g n c : Nat) (hg : w.heap.size = g) (hn : C.length = n) : Holds (w.alloc (.cells C.toArray t)) (.slice (some ⟨g, 0, none⟩) n c) C := by
  subst hg hn
  exact .inr ⟨_, c, rfl, new_cells w C t⟩
theorem Holds.alloc {w : World} {v : Value} {xs : List Value} (h : Holds w v xs) (ob : Obj) : Holds (w.alloc ob) v xs := h.keep (fun k hk => Below.heap_alloc w ob k hk)

theorem wk1 : nums [] ([[65, 10], [98, 10], [97, 10]].map (canonL ⟨false, false, false, true, false, false⟩)) = [0, 1, 0] := by decide +kernel
theorem wk2 : nums (adds [] ([[65, 10], [98, 10], [97, 10]].map (canonL ⟨false, false, false, true, false, false⟩))) ([[98, 10], [99, 10]].map (canonL ⟨false, false, false, true, false, false⟩)) = [1, 2] := by decide +kernel
theorem wk3 : (adds [] ([[65, 10], [98, 10], [97, 10]].map (canonL ⟨false, false, false, true, false, false⟩) ++ [[98, 10], [99, 10]].map (canonL ⟨false, false, false, true, false, false⟩))).length = 3 := by decide +kernel

set_option maxRecDepth 10000 in
set_option maxHeartbeats 1000000 in
theorem works_any (w : World) :
    Calls Tryd.prog 17 #[] w fun e w' => e = .returned (.bool true) ∧ Below w.heap.size w w' := by
  have hb0 := ((Below.refl _ w).alloc (Nat.le_refl w.heap.size) (.cells (scells [[65, 10], [98, 10], [97, 10]]).toArray 9)).alloc (by simp) (.cells (scells [[98, 10], [99, 10]]).toArray 9)
  have ha := (holds_new w (scells [[65, 10], [98, 10], [97, 10]]) 9 w.heap.size 3 3 rfl rfl).alloc (.cells (scells [[98, 10], [99, 10]]).toArray 9)
  have hb := holds_new (w.alloc (.cells (scells [[65, 10], [98, 10], [97, 10]]).toArray 9)) (scells [[98, 10], [99, 10]]) 9 (w.heap.size + 1) 2 2 (by simp) rfl
  simp only [show (scells [[65, 10], [98, 10], [97, 10]]).toArray = #[.string ⟨#[65, 10]⟩, .string ⟨#[98, 10]⟩, .string ⟨#[97, 10]⟩] from rfl, show (scells [[98, 10], [99, 10]]).toArray = #[.string ⟨#[98, 10]⟩, .string ⟨#[99, 10]⟩] from rfl] at ha hb hb0
  go_enter Tryd.func17, Tryd.ntmps17
  go_wp2_with fail
  generalize (w.alloc (.cells #[.string ⟨#[65, 10]⟩, .string ⟨#[98, 10]⟩, .string ⟨#[97, 10]⟩] 9)).alloc (.cells #[.string ⟨#[98, 10]⟩, .string ⟨#[99, 10]⟩] 9) = w0 at ha hb hb0 ⊢
  refine (Classes_any [[65, 10], [98, 10], [97, 10]] [[98, 10], [99, 10]] ⟨false, false, false, true, false, false⟩ _ _ w0 (by intro a h; simp at h; rcases h with rfl | rfl | rfl <;> simp) (by intro a h; simp at h; rcases h with rfl | rfl <;> simp) (by simp) ha hb).mono ?_
  rintro e w1 ⟨vx, vy, rfl, hx, hy, hb1⟩
  rw [wk1] at hx
  rw [wk2] at hy
  rw [wk3]
  have hb2 := hb0.trans (hb1.mono hb0.size)
  have hq1 := holds_new w1 (icells [0, 1, 0]) 3 w1.heap.size 3 3 rfl rfl
  have hx1 := hx.alloc (.cells (icells [0, 1, 0]).toArray 3)
  have hy1 := hy.alloc (.cells (icells [0, 1, 0]).toArray 3)
  have hb3 := hb2.alloc hb2.size (.cells (icells [0, 1, 0]).toArray 3)
  simp only [show (icells [0, 1, 0]).toArray = #[.int .i64 0, .int .i64 1, .int .i64 0] from rfl] at hq1 hx1 hy1 hb3
  clear hx hy hb0 hb1 hb2 ha hb
  go_wp2_with fail
  generalize w1.alloc (.cells #[.int .i64 0, .int .i64 1, .int .i64 0] 3) = w2 at hq1 hx1 hy1 hb3 ⊢
  refine (SameI_low vx _ [0, 1, 0] w2 (by simp) hx1 hq1).mono ?_
  rintro e w3 ⟨rfl, hb4⟩
  have hb5 := hb3.trans (hb4.mono hb3.size)
  have hq2 := holds_new w3 (icells [1, 2]) 3 w3.heap.size 2 2 rfl rfl
  have hy2 := (hy1.keep hb4.block).alloc (.cells (icells [1, 2]).toArray 3)
  have hb6 := hb5.alloc hb5.size (.cells (icells [1, 2]).toArray 3)
  simp only [show (icells [1, 2]).toArray = #[.int .i64 1, .int .i64 2] from rfl] at hq2 hy2 hb6
  clear hq1 hx1 hy1 hb3 hb4 hb5
  go_wp2_with fail
  generalize w3.alloc (.cells #[.int .i64 1, .int .i64 2] 3) = w4 at hq2 hy2 hb6 ⊢
  refine (SameI_low vy _ [1, 2] w4 (by simp) hy2 hq2).mono ?_
  rintro e w5 ⟨rfl, hb7⟩
  go_wp2
  go_ret
  exact ⟨rfl, hb6.trans (hb7.mono hb6.size)⟩
end Go.Proofs.YtkaadahcefdiiaaDoor
