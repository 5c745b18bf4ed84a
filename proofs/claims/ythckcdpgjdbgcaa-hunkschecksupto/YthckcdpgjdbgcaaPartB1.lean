/-
  Texts that belong together, joined: EdSameS.
-/
import Derived.Test.YthckcdpgjdbgcaaPartA1

/- SameStrings of the reference, walked at two slices that hold the same. -/
namespace Go.Proofs.Ythckcdpgjdbgcaa
open Go.RowKit

set_option maxHeartbeats 1000000 in
theorem SameS_any (va vb : Value) (l : List (List UInt8)) (w : World) (hlen : l.length ≤ 4398046511104) (ha : HS w va l) (hb : HS w vb l) :
    Calls Try.prog 12 #[va, vb] w fun e w' => e = .returned (.bool true) ∧ Below w.heap.size w w' := by
  obtain ⟨ao, ca, rfl⟩ := Holds.form ha
  obtain ⟨bo, cb, rfl⟩ := Holds.form hb
  go_enter Try.func12, Try.ntmps12
  go_wp2
  go_loopw [5] (fun i wr => ∃ k m : Nat, k ≤ l.length ∧ i = .int .i64 k ∧ wr = w.drewN m) (fun i _ => l.length - (intOf i).toNat)
  case atStart => exact ⟨0, 0, Nat.zero_le _, rfl, rfl⟩
  case round =>
    obtain ⟨k, m, hk, rfl, rfl⟩ := hrel
    by_cases hlt : k < l.length
    · obtain ⟨b1, o1, rfl, _, hc1⟩ := HS.at ha (by omega)
      obtain ⟨b2, o2, rfl, _, hc2⟩ := HS.at hb (by omega)
      have d1 := hc1 k hlt
      have d2 := hc2 k hlt
      clear hc1 hc2
      have i1 : 0 ≤ (k : Int) := by omega
      have i2 : (k : Int) < (l.length : Int) := by omega
      go_wp2_with fail
      go_quiet (fail)
      go_wp2
      go_roundw
      case rel => exact ⟨k + 1, _, by omega, by go_num, rfl⟩
      case measure => simp [intOf]; omega
    · go_wp2
      go_ret
      exact ⟨rfl, Below.dN (Below.refl _ w) _⟩

end Go.Proofs.Ythckcdpgjdbgcaa
