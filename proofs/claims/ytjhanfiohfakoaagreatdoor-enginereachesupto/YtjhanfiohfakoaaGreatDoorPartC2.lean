/-
  Texts that belong together, joined: EnWk.
-/
import Derived.Test.YtjhanfiohfakoaaGreatDoorPartA17
import Derived.Test.YtjhanfiohfakoaaGreatDoorPartA5

/- The law's own test works of layer 10, walked; with nothing ignored a line counts as itself. -/
set_option maxRecDepth 20000
namespace Go.Proofs.YtjhanfiohfakoaaGreatDoor
open Go.RowKit

/-- letters' case alone is ignored -/
def igCs : Tx.Cn.Ig := ⟨false, false, false, true, false, false⟩
theorem ex_clx : clx igCs [[65, 10], [98, 10], [99, 10]] [[97, 10], [99, 10]] = [0, 1, 2] := by decide +kernel
theorem ex_cly : cly igCs [[65, 10], [98, 10], [99, 10]] [[97, 10], [99, 10]] = [0, 2] := by decide +kernel
theorem ex_kp2 : kp 0 [0, 1, 2] [0, 2] = [0, -1, 1] := by simp [kp, lc]
theorem ex_en : mkL (eng 1 (clx igCs [[65, 10], [98, 10], [99, 10]] [[97, 10], [99, 10]]) (cly igCs [[65, 10], [98, 10], [99, 10]] [[97, 10], [99, 10]])) (([[97, 10], [99, 10]] : List (List UInt8)).length : Int) = [⟨1, 1, 1, 0⟩] := by
  rw [ex_clx, ex_cly]
  show mkL (kp 0 [0, 1, 2] [0, 2]) 2 = _
  rw [ex_kp2]
  rfl

set_option maxRecDepth 10000 in
set_option maxHeartbeats 2000000 in
theorem enWorks_any (w : World) : Calls Tryz.prog 12 #[] w fun e w' => e = .returned (.bool true) ∧ Below w.heap.size w w' := by
  have hB0 := ((Below.refl _ w).alloc (Nat.le_refl w.heap.size) (.cells #[.string ⟨#[65, 10]⟩, .string ⟨#[98, 10]⟩, .string ⟨#[99, 10]⟩] 9)).alloc (by simp) (.cells #[.string ⟨#[97, 10]⟩, .string ⟨#[99, 10]⟩] 9)
  have ha : HS ((w.alloc (.cells #[.string ⟨#[65, 10]⟩, .string ⟨#[98, 10]⟩, .string ⟨#[99, 10]⟩] 9)).alloc (.cells #[.string ⟨#[97, 10]⟩, .string ⟨#[99, 10]⟩] 9)) (.slice (some ⟨w.heap.size, 0, none⟩) 3 3) [[65, 10], [98, 10], [99, 10]] :=
    HS.keep (new_holds w #[.string ⟨#[65, 10]⟩, .string ⟨#[98, 10]⟩, .string ⟨#[99, 10]⟩] 9 3 3 (by decide)) ((Below.refl _ _).alloc (Nat.le_refl _) _) (Nat.le_refl _)
  have hb : HS ((w.alloc (.cells #[.string ⟨#[65, 10]⟩, .string ⟨#[98, 10]⟩, .string ⟨#[99, 10]⟩] 9)).alloc (.cells #[.string ⟨#[97, 10]⟩, .string ⟨#[99, 10]⟩] 9)) (.slice (some ⟨w.heap.size + 1, 0, none⟩) 2 2) [[97, 10], [99, 10]] :=
    new_holds_at _ (w.heap.size + 1) (by simp) #[.string ⟨#[97, 10]⟩, .string ⟨#[99, 10]⟩] 9 2 2 (by decide)
  go_enter Tryz.func12, Tryz.ntmps12
  go_wp2_with fail
  generalize (w.alloc (.cells #[.string ⟨#[65, 10]⟩, .string ⟨#[98, 10]⟩, .string ⟨#[99, 10]⟩] 9)).alloc (.cells #[.string ⟨#[97, 10]⟩, .string ⟨#[99, 10]⟩] 9) = W0 at ha hb hB0 ⊢
  refine (En_f 1 igCs [[65, 10], [98, 10], [99, 10]] [[97, 10], [99, 10]] _ _ W0 ha hb (by decide) (by decide) (by decide) (by intro a h; simp at h; rcases h with rfl | rfl | rfl <;> simp) (by intro a h; simp at h; rcases h with rfl | rfl <;> simp) _ ex_en).mono ?_
  rintro e w1 ⟨v1, rfl, hv1, hB1⟩
  obtain ⟨o1, c1, rfl⟩ := Holds.form hv1
  have hB01 := hB0.trans (hB1.mono hB0.size)
  have hA := (Below.refl _ w1).alloc (Nat.le_refl _) (.cells #[.int .i64 1, .int .i64 1, .int .i64 1, .int .i64 0] 53)
  have hn : HCh (w1.alloc (.cells #[.int .i64 1, .int .i64 1, .int .i64 1, .int .i64 0] 53)) (.slice (some ⟨w1.heap.size, 0, none⟩) 1 1) [⟨1, 1, 1, 0⟩] := new_holds w1 #[.int .i64 1, .int .i64 1, .int .i64 1, .int .i64 0] 53 1 1 (by decide)
  have hv2 := HCh.keep hv1 hA (Nat.le_refl _)
  have hB02 := hB01.trans (hA.mono hB01.size)
  clear ha hb hB0 hB1 hv1 hA hB01
  go_wp2_with fail
  refine (SameC_any _ _ [⟨1, 1, 1, 0⟩] _ (by decide) hv2 hn).mono ?_
  rintro e w3 ⟨rfl, hB3⟩
  have hB03 := hB02.trans (hB3.mono hB02.size)
  go_wp2
  go_ret
  exact ⟨ret_bool (by simp), hB03⟩

/-- any number names an engine, by its rest -/
theorem kind_of (k : Int) : ∃ K, wrap64 (1 + wrap64 ((IntKind.u64.wrap k).tmod 4)) = K ∧ 1 ≤ K ∧ K ≤ 4 := by
  refine ⟨_, rfl, ?_⟩
  have h0 : 0 ≤ IntKind.u64.wrap k := by simp [IntKind.wrap, IntKind.bits, IntKind.signed]; omega
  generalize IntKind.u64.wrap k = z at h0 ⊢
  rw [Int.tmod_eq_emod_of_nonneg h0]
  unfold wrap64
  omega
theorem canon0 (l : List UInt8) : Tx.Cn.canonL ig0 l = l := by
  show Tx.Cn.bareL l ++ Tx.Cn.feedL l = l
  unfold Tx.Cn.bareL Tx.Cn.feedL
  cases h : Tx.Cn.feedB l with
  | false => simp
  | true =>
    have h1 : l.getLast? = some 10 := by simpa [Tx.Cn.feedB] using h
    obtain ⟨q, rfl⟩ := List.getLast?_eq_some_iff.1 h1
    simp
end Go.Proofs.YtjhanfiohfakoaaGreatDoor
