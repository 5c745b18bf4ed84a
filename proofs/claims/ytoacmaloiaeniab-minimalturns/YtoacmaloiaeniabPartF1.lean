/-
  Texts that belong together, joined: MiTn.
-/
import Derived.Test.YtoacmaloiaeniabPartA3

/- A row turned about: the law's own helper, walked; a number ahead of a row. -/
namespace Go.Proofs.Ytoacmaloiaeniab
open Go.RowKit

set_option maxRecDepth 10000 in
set_option maxHeartbeats 2000000 in
theorem turned_f (x : List Int) (v : Value) (w : World) (hx : HI w v x) (hxl : x.length ≤ 1048576) :
    Calls Try.prog 17 #[v] w fun e w' => ∃ v', e = .returned v' ∧ HI w' v' x.reverse ∧ Below w.heap.size w w' := by
  obtain ⟨xo, xc, rfl⟩ := Holds.form hx
  go_enter Try.func17, Try.ntmps17
  go_wp2
  go_loopw [3, 4] (fun ov iv wr => ∃ (k : Nat) (z : Int) (X : List Int), k ≤ x.length ∧ (∃ oo oc, ov = .slice oo X.length oc) ∧ iv = .int .i64 z ∧ z + 1 = k ∧ St w 3 1 ov X.length (icells X) wr ∧ X.length ≤ x.length ∧ Hid (X = (x.drop k).reverse)) (fun _ iv _ => (intOf iv + 1).toNat)
  case atStart => exact ⟨x.length, (x.length : Int) - 1, [], Nat.le_refl _, ⟨_, _, rfl⟩, by go_num, by omega, ⟨World.ownsRow_nil _ _ _ _, Below.refl _ w⟩, by simp, (by show _ = _; simp)⟩
  case round =>
    obtain ⟨k, z, X, hk, ⟨oo, oc, rfl⟩, rfl, hz, hSt, hXl, hR⟩ := hrel
    cases k with
    | zero =>
      obtain rfl : z = -1 := by omega
      go_wp2
      go_ret
      refine ⟨_, rfl, ?_, hSt.low⟩
      have : X = x.reverse := by rw [hR.out]; simp
      rw [← this]
      exact holds_of hSt.own
    | succ i =>
      obtain rfl : z = (i : Int) := by omega
      obtain ⟨b, off, rfl, _, hc⟩ := HI.at (HI.keep hx hSt.low (Nat.le_refl _)) (by omega)
      have c0 := hc i (by omega)
      obtain ⟨xi, hxi⟩ : ∃ z, x[i] = z := ⟨_, rfl⟩
      rw [hxi] at c0
      have HR : Hid (X ++ [xi] = (x.drop i).reverse) := (by
        show _ = _
        rw [List.drop_eq_getElem_cons (show i < x.length by omega), List.reverse_cons, ← hR.out, hxi])
      have hXl2 : Hid (X.length + 1 ≤ x.length) := (by
        show _ ≤ _
        rw [hR.out]; simp; omega)
      clear hc hxi hR hz
      have i1 : 0 ≤ (i : Int) := by omega
      have i2 : (i : Int) < (x.length : Int) := by omega
      have hsz := hSt.low.size
      go_wp2_with (at_builtin; refine wpList_append_h _ (by kernel_rfl) (.tmp 12) (.tmp 17) 22 3 (.int .i64 0) 1 8 rfl Try.underlying22 infoInt rfl (by decide) (by decide) w.heap.size _ _ _ rfl (hSt.own.alloc _) _ 1 (icells [xi]) rfl (new_holds _ _ _ _ _ (by decide)) rfl (icells_one _) (by omega) (by simp; omega) ?_)
      intro v2 w2 hown2 hgrow2
      have hSt2 := (st_alloc (Obj.cells #[Value.int IntKind.i64 xi] 3) hSt).grown hown2 hgrow2
      obtain ⟨oo2, oc2, rfl⟩ := (holds_of hown2).form
      rw [← icells_append] at hSt2
      clear hown2 hgrow2 c0
      go_wp2
      go_roundw
      case rel => exact ⟨i, (i : Int) - 1, X ++ [xi], by omega, ⟨_, _, by rw [List.length_append]; rfl⟩, by go_num, by omega, by rw [List.length_append]; exact hSt2, by have := hXl2.out; simp; omega, HR⟩
      case measure => simp [intOf]
end Go.Proofs.Ytoacmaloiaeniab
