/-
  sort.Search, walked: the function value may lay blocks; what holds of the memory is kept.
-/
import Derived.Test.YtppdcjjkkckokaaEdDrew
import Derived.Shelf.RegionOpenPlain
namespace Go.Proofs.Ytppdcjjkkckokaa
open Go.RowKit

set_option maxRecDepth 10000 in
set_option maxHeartbeats 2000000 in
theorem Search_f (g : Nat) (cb : Array Value) (n r : Nat) (p : Nat → Bool) (S : World → Prop) (w : World) (hS : S w) (eg : ∀ args w, (callFunc g args).run Try.prog w = .ok (.enter g args) w) (hn : n ≤ 1099511627776) (hr : r ≤ n)
    (hf : Hid (∀ i : Nat, i < n → ∀ u : World, S u → Calls Try.prog g (#[.int .i64 (i : Int)] ++ cb) u fun e u' => e = .returned (.bool (p i)) ∧ S u'))
    (lo : Hid (∀ i, i < r → p i = false)) (hi : Hid (∀ i, r ≤ i → i < n → p i = true)) :
    Calls Try.prog 60 #[.int .i64 (n : Int), .func (.func g) #[] cb] w fun e w' => e = .returned (.int .i64 (r : Int)) ∧ S w' := by
  go_enter Try.func60, Try.ntmps60
  go_wp2
  go_loopw [5, 6] (fun iv jv wr => ∃ (i j : Nat), iv = .int .i64 i ∧ jv = .int .i64 j ∧ i ≤ r ∧ r ≤ j ∧ j ≤ n ∧ S wr) (fun iv jv _ => (intOf jv).toNat - (intOf iv).toNat)
  case atStart => exact ⟨0, n, rfl, rfl, Nat.zero_le _, hr, Nat.le_refl _, hS⟩
  case round =>
    obtain ⟨i, j, rfl, rfl, h1, h2, h3, hSr⟩ := hrel
    by_cases hij : i < j
    · have hc := hf.out ((i + j) / 2) (by omega) wr hSr
      rw [show (((i + j) / 2 : Nat) : Int) = ((i : Int) + (j : Int)) / 2 by omega] at hc
      by_cases hm : (i + j) / 2 < r
      · rw [lo.out _ hm] at hc
        go_wp2_with (go_at_fn g; refine hc.mono ?_; rintro e w' ⟨rfl, hS'⟩)
        go_roundw
        case rel => exact ⟨(i + j) / 2 + 1, j, by go_num, rfl, by omega, h2, h3, hS'⟩
        case measure => simp [intOf]; omega
      · rw [hi.out _ (by omega) (by omega)] at hc
        go_wp2_with (go_at_fn g; refine hc.mono ?_; rintro e w' ⟨rfl, hS'⟩)
        go_roundw
        case rel => exact ⟨i, (i + j) / 2, rfl, by go_num, h1, by omega, by omega, hS'⟩
        case measure => simp [intOf]; omega
    · obtain rfl : i = r := by omega
      go_wp2
      go_ret
      exact ⟨rfl, hSr⟩
end Go.Proofs.Ytppdcjjkkckokaa
