/-
  The reference's Cost and Invert, walked.
-/
import Derived.Test.YtdnbfgobpkpedaaEdIC
namespace Go.Proofs.Ytdnbfgobpkpedaa
open Go.RowKit
attribute [local simp] low_drew low_alloc

set_option maxRecDepth 10000 in
set_option maxHeartbeats 2000000 in
theorem rCost_f (l : List Ch) (r : Int) (v : Value) (w : World) (hl : HCh w v l) (hlen : l.length ≤ 1099511627776) (hr : Hid (costF 0 l = r)) :
    Calls Try.prog 18 #[v] w fun e w' => e = .returned (.int .i64 r) ∧ Below w.heap.size w w' := by
  obtain ⟨ao, ca, rfl⟩ := Holds.form hl
  go_enter Try.func18, Try.ntmps18
  go_wp2
  go_loopw [3, 4] (fun sv iv wr => ∃ (k : Nat) (s : Int), k ≤ l.length ∧ sv = .int .i64 s ∧ iv = .int .i64 k ∧ 0 ≤ s ∧ s ≤ 2147483647 ∧ wr = w ∧ Hid (costF s (l.drop k) = r)) (fun _ iv _ => l.length - (intOf iv).toNat)
  case atStart => exact ⟨0, 0, Nat.zero_le _, rfl, rfl, by omega, by omega, rfl, hr⟩
  case round =>
    obtain ⟨k, s, hk, rfl, rfl, h0, h1, rfl, hR⟩ := hrel
    by_cases hlt : k < l.length
    · obtain ⟨bk, off, rfl, hbk, hc⟩ := HCh.at hl (by omega)
      obtain ⟨c0, c1, c2, c3⟩ := hc k hlt
      have hR' := hR.out
      rw [List.drop_eq_getElem_cons hlt] at hR'
      obtain ⟨c, hcd⟩ : ∃ c, l[k] = c := ⟨_, rfl⟩
      rw [hcd] at hR' c0 c1 c2 c3
      clear hc hcd hR
      have HR : Hid (costF (mo (mo s c.AN) c.BN) (l.drop (k + 1)) = r) := hR'
      clear hR'
      obtain ⟨A, AN, B, BN⟩ := c
      dsimp only at c0 c1 c2 c3 HR
      have i1 : 0 ≤ (k : Int) := by omega
      have i2 : (k : Int) < (l.length : Int) := by omega
      obtain ⟨m0, m1⟩ := mo_range (z := AN) h0 h1
      obtain ⟨n0, n1⟩ := mo_range (z := BN) m0 m1
      go_wp2
      refine ⟨⟨k + 1, mo (mo s AN) BN, by omega, congrArg (Value.int .i64) ?_, by go_num, n0, n1, trivial, HR⟩, by simp [intOf]; omega⟩
      unfold mo
      repeat' split
      all_goals omega
    · go_wp2
      go_ret
      refine ⟨ret_int ?_, Below.refl _ _⟩
      have := hR.out
      rw [List.drop_of_length_le (by omega)] at this
      exact this
end Go.Proofs.Ytdnbfgobpkpedaa
