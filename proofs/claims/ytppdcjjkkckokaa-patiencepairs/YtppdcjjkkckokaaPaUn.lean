/-
  The lines that are there once in each text: Unique of the code, walked.
-/
import Derived.Test.YtppdcjjkkckokaaPaPl
namespace Go.Proofs.Ytppdcjjkkckokaa
open Go.RowKit Go.Maps

/-- what one place adds -/
theorem uq_at (x y : List Int) (i : Nat) (hi : i < x.length) : (if tm x[i] x = 1 ∧ tm x[i] y = 1 then ps x[i] i 0 y else []) = match pf y x[i] with
    | none => []
    | some j => if j ≠ -1 ∧ (pf x x[i]).getD 0 = (i : Int) then [⟨i, j⟩] else [] := by
  have h0 := tm_pos hi
  have hx : (pf x x[i]).getD 0 = (i : Int) ↔ tm x[i] x = 1 := by
    unfold pf
    rw [if_neg (by omega)]
    by_cases h1 : tm x[i] x = 1
    · rw [if_pos h1]
      simp [h1, idx_one hi h1]
    · rw [if_neg h1]
      simp [h1]
  simp only [hx]
  unfold pf
  by_cases h1 : tm x[i] y = 0
  · rw [if_pos h1, if_neg (by omega)]
  · rw [if_neg h1]
    by_cases h2 : tm x[i] y = 1
    · rw [if_pos h2]
      dsimp only
      by_cases h3 : tm x[i] x = 1
      · rw [if_pos ⟨h3, h2⟩, if_pos ⟨by omega, h3⟩, ps_one h2]
        simp
      · rw [if_neg (fun h => h3 h.1), if_neg (fun h => h3 h.2)]
    · rw [if_neg h2, if_neg (fun h => h2 h.2)]
      simp

set_option maxRecDepth 10000 in
set_option maxHeartbeats 4000000 in
theorem Unique_f (x y : List Int) (vx vy : Value) (w : World) (hx : HI w vx x) (hy : HI w vy y) (hxl : x.length ≤ 1048576) (hyl : y.length ≤ 1048576) (hwx : ∀ c ∈ x, w64 c) (hwy : ∀ c ∈ y, w64 c) (L : List Pr) (hL : Hid (unq x y = L)) :
    Calls Try.prog 25 #[vx, vy] w fun e w' => ∃ v', e = .returned v' ∧ HPr w' v' L ∧ Below w.heap.size w w' := by
  obtain ⟨xo, xc, rfl⟩ := Holds.form hx
  obtain ⟨yo, yc, rfl⟩ := Holds.form hy
  have hLl : L.length ≤ 1048576 := by rw [← hL.out]; exact Nat.le_trans (uq_length x y 0 x) hxl
  have HWX : Hid (∀ c ∈ x, w64 c) := hwx
  have HWY : Hid (∀ c ∈ y, w64 c) := hwy
  clear hwx hwy
  go_enter Try.func25, Try.ntmps25
  go_wp2_with fail
  refine (places_f x _ w hx hxl HWX.out).mono ?_
  rintro e w1 ⟨Bx, rfl, hMx, hbx, hB1⟩
  go_wp2_with fail
  refine (places_f y _ w1 (HI.keep hy hB1 (Nat.le_refl _)) hyl HWY.out).mono ?_
  rintro e W1 ⟨By, rfl, hMy, hby, hB2⟩
  have hMx2 : Mo x Bx W1 := hMx.keep (hB2.block Bx hMx.lt)
  have hBW : Below w.heap.size w W1 := hB1.trans (Below.mono hB2 hB1.size)
  have hsW := hBW.size
  clear hMx hB1 hB2
  go_wp2
  go_loopw [7, 18] (fun lv iv wr => ∃ (i : Nat) (Z : List Pr) (zo : Option Addr) (zc : Nat), i ≤ x.length ∧ iv = .int .i64 i ∧ lv = .slice zo Z.length zc ∧ Z.length ≤ L.length ∧ wr.ownsRow W1.heap.size 44 2 (.slice zo Z.length zc) Z.length (prcells Z) ∧ Low W1 wr ∧ Hid (Z ++ uq x y i (x.drop i) = L)) (fun _ iv _ => x.length - (intOf iv).toNat)
  case atStart => exact ⟨0, [], none, 0, Nat.zero_le _, rfl, rfl, Nat.zero_le _, World.ownsRow_nil _ _ _ _, Below.refl _ _, hL⟩
  case round =>
    obtain ⟨i, Z, zo, zc, hi, rfl, rfl, hZl, hO, hLow, HZ⟩ := hrel
    have hs := Below.size hLow
    by_cases hil : i < x.length
    · have hBr : Below w.heap.size w wr := hBW.trans (Below.mono hLow hsW)
      obtain ⟨b, off, rfl, _, hc⟩ := HI.at (HI.keep hx hBr (Nat.le_refl _)) (by omega)
      have c0 := hc i hil
      have hua := uq_at x y i hil
      obtain ⟨z, hz⟩ : ∃ z, x[i] = z := ⟨_, rfl⟩
      rw [hz] at c0 hua
      have hzw : w64 z := by rw [← hz]; exact HWX.out _ (List.getElem_mem hil)
      have HZ2 : Hid (Z ++ ((match pf y z with
        | none => []
        | some j => if j ≠ -1 ∧ (pf x z).getD 0 = (i : Int) then [⟨i, j⟩] else []) ++ uq x y (i + 1) (x.drop (i + 1))) = L) := (by
        show _ = _
        have := HZ.out
        rw [List.drop_eq_getElem_cons hil, uq, hz] at this
        rw [← hua]
        exact this)
      have hlk := (hMy.keep (Below.block hLow By hMy.lt)).look hzw
      have hlk1 := (hMx2.keep (Below.block hLow Bx hMx2.lt)).look1 hzw
      obtain ⟨px, hpx⟩ : ∃ p, (pf x z).getD 0 = p := ⟨_, rfl⟩
      rw [hpx] at HZ2 hlk1
      clear hc hz HZ hua hpx
      have i1 : 0 ≤ (i : Int) := by omega
      have i2 : (i : Int) < (x.length : Int) := by omega
      cases hp : pf y z with
      | none =>
        rw [hp] at hlk HZ2
        simp only [Option.getD_none, Option.isSome_none] at hlk
        have HZ3 : Hid (Z ++ uq x y (i + 1) (x.drop (i + 1)) = L) := HZ2
        clear HZ2 hp
        go_wp2
        go_roundw
        case rel => exact ⟨i + 1, Z, zo, zc, by omega, by go_num, rfl, hZl, hO, hLow, by simpa using HZ3⟩
        case measure => simp [intOf]; omega
      | some j =>
        rw [hp] at hlk HZ2
        simp only [Option.getD_some, Option.isSome_some] at hlk
        dsimp only at HZ2
        clear hp
        by_cases hj : j = -1
        · have e1 : (j != -1) = false := by simp [hj]
          have HZ3 : Hid (Z ++ uq x y (i + 1) (x.drop (i + 1)) = L) := (by
            show _ = _
            have := HZ2.out
            rw [if_neg (fun h => h.1 hj)] at this
            exact this)
          clear HZ2 hj
          go_wp2
          go_roundw
          case rel => exact ⟨i + 1, Z, zo, zc, by omega, by go_num, rfl, hZl, hO, hLow, by simpa using HZ3⟩
          case measure => simp [intOf]; omega
        · have e1 : (j != -1) = true := by simp [hj]
          by_cases hpi : px = (i : Int)
          · have e2 : (px == (i : Int)) = true := by simp [hpi]
            have HZ3 : Hid ((Z ++ [⟨i, j⟩]) ++ uq x y (i + 1) (x.drop (i + 1)) = L) := (by
              show _ = _
              have := HZ2.out
              rw [if_pos ⟨hj, hpi⟩] at this
              simpa using this)
            have hZl2 : Z.length + 1 ≤ L.length := by rw [← HZ3.out]; simp
            clear HZ2 hj hpi
            go_wp2_with (at_builtin; refine wpList_append_h _ (by kernel_rfl) (.tmp 41) (.tmp 45) 41 44 (.agg #[.int .i64 0, .int .i64 0]) 2 16 rfl Try.underlying41 infoPr rfl (by decide) (by decide) W1.heap.size (.slice zo Z.length zc) Z.length (prcells Z) (by kernel_rfl) (hO.alloc _) (.slice (some ⟨wr.heap.size, 0, none⟩) 1 1) 1 (prcells [⟨i, j⟩]) (by kernel_rfl) (new_holds wr _ _ 1 1 (by decide)) rfl (prcells_one _) (by omega) (by simp; omega) ?_)
            intro v3 w3 hown3 hgrow3
            have hB3 : Low W1 w3 := (Below.alloc hLow (Below.size hLow) _).grown hgrow3 (by simp; omega) (fun _ hj => owns_ge hO hj)
            rw [← prcells_append] at hown3
            obtain ⟨oo3, oc3, rfl⟩ := (holds_of hown3).form
            clear hgrow3
            go_wp2
            go_roundw
            case rel => exact ⟨i + 1, Z ++ [⟨i, j⟩], oo3, oc3, by omega, by go_num, by simp, by simp; omega, by simpa using hown3, hB3, by simpa using HZ3⟩
            case measure => simp [intOf]; omega
          · have e2 : (px == (i : Int)) = false := by simp [hpi]
            have HZ3 : Hid (Z ++ uq x y (i + 1) (x.drop (i + 1)) = L) := (by
              show _ = _
              have := HZ2.out
              rw [if_neg (fun h => hpi h.2)] at this
              exact this)
            clear HZ2 hj
            go_wp2
            go_roundw
            case rel => exact ⟨i + 1, Z, zo, zc, by omega, by go_num, rfl, hZl, hO, hLow, by simpa using HZ3⟩
            case measure => simp [intOf]; omega
    · obtain rfl : i = x.length := by omega
      have : Z = L := by
        have := HZ.out
        rw [List.drop_length] at this
        simpa [uq] using this
      subst this
      go_wp2
      go_ret
      exact ⟨_, rfl, holds_of hO, hBW.trans (Below.mono hLow hsW)⟩
end Go.Proofs.Ytppdcjjkkckokaa
