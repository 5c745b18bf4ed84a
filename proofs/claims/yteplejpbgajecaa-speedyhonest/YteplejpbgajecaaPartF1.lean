/-
  Texts that belong together, joined: SpWk, PcHo.
-/
import Derived.Test.YteplejpbgajecaaPartC2
import Derived.Test.YteplejpbgajecaaPartA4

/- The worked example of the layer speedy, and the law's own test works, walked. -/
namespace Go.Proofs.Yteplejpbgajecaa
open Go.RowKit

theorem ex_tf : tf [1, 2, 3] [2, 3, 1] 0 3 0 3 = 0 := by rw [tf_eq]; simp
theorem ex_tb : tb [1, 2, 3] [2, 3, 1] 0 3 0 3 = 0 := by rw [tb]; simp
theorem ex_gdy : lp 0 0 (gdy [2, 3, 1] 64 0 [1, 2, 3]) = [⟨0, 2⟩] := by rfl
theorem ex_lst : lp 0 0 (kp 0 [1, 2, 3] [2, 3, 1]) = [⟨1, 0⟩, ⟨2, 1⟩] := by simp [kp, lc, lp]
theorem ex_sp8 : pcs (smid 8 [1, 2, 3] [2, 3, 1]) [1, 2, 3] [2, 3, 1] 4 0 3 0 3 = [⟨0, 2⟩] := by
  rw [pcs, ends, ex_tf, ex_tb]
  exact ex_gdy
theorem ex_sp9 : pcs (smid 9 [1, 2, 3] [2, 3, 1]) [1, 2, 3] [2, 3, 1] 4 0 3 0 3 = [⟨1, 0⟩, ⟨2, 1⟩] := by
  rw [pcs, ends, ex_tf, ex_tb]
  exact ex_lst
theorem ex_k8 : sKeep 8 [1, 2, 3] [2, 3, 1] = [2, -1, -1] := by
  unfold sKeep
  show wrk _ (pcs (smid 8 [1, 2, 3] [2, 3, 1]) [1, 2, 3] [2, 3, 1] 4 0 3 0 3) = _
  rw [ex_sp8]
  rfl
theorem ex_k9 : sKeep 9 [1, 2, 3] [2, 3, 1] = [-1, 0, 1] := by
  unfold sKeep
  show wrk _ (pcs (smid 9 [1, 2, 3] [2, 3, 1]) [1, 2, 3] [2, 3, 1] 4 0 3 0 3) = _
  rw [ex_sp9]
  rfl
theorem ex_m8 : mkL (sKeep 8 [1, 2, 3] [2, 3, 1]) (([2, 3, 1] : List Int).length : Int) = [⟨0, 0, 0, 2⟩, ⟨1, 2, 3, 0⟩] := by rw [ex_k8]; rfl
theorem ex_m9 : mkL (sKeep 9 [1, 2, 3] [2, 3, 1]) (([2, 3, 1] : List Int).length : Int) = [⟨0, 1, 0, 0⟩, ⟨3, 0, 2, 1⟩] := by rw [ex_k9]; rfl

set_option maxRecDepth 10000 in
set_option maxHeartbeats 2000000 in
theorem spWorks_any (w : World) : Calls Try.prog 15 #[] w fun e w' => e = .returned (.bool true) ∧ Below w.heap.size w w' := by
  go_enter Try.func15, Try.ntmps15
  obtain ⟨hX, hY, hB0⟩ := two_rows w #[.int .i64 1, .int .i64 2, .int .i64 3] #[.int .i64 2, .int .i64 3, .int .i64 1] 3 3 (w.heap.size + 1) rfl [1, 2, 3] [2, 3, 1] rfl rfl rfl rfl
  go_wp2_with fail
  refine (spDiff_f [1, 2, 3] [2, 3, 1] 8 _ _ _ hX hY (by decide) (by decide) _ ex_m8).mono ?_
  rintro e w1 ⟨v1, rfl, hv1, hB1⟩
  obtain ⟨o1, c1, rfl⟩ := Holds.form hv1
  have hB01 := hB0.trans (hB1.mono hB0.size)
  clear hX hY hB0 hB1
  obtain ⟨hX, hY, hB2⟩ := two_rows w1 #[.int .i64 1, .int .i64 2, .int .i64 3] #[.int .i64 2, .int .i64 3, .int .i64 1] 3 3 (w1.heap.size + 1) rfl [1, 2, 3] [2, 3, 1] rfl rfl rfl rfl
  go_wp2_with fail
  refine (spDiff_f [1, 2, 3] [2, 3, 1] 9 _ _ _ hX hY (by decide) (by decide) _ ex_m9).mono ?_
  rintro e w3 ⟨v3, rfl, hv3, hB3⟩
  obtain ⟨o3, c3, rfl⟩ := Holds.form hv3
  have hB13 := hB2.trans (hB3.mono hB2.size)
  have hB03 := hB01.trans (hB13.mono hB01.size)
  have hu1 := HCh.keep hv1 hB13 (Nat.le_refl _)
  clear hX hY hB2 hB3 hB13 hB01 hv1
  have hn1 : HCh (w3.alloc (.cells #[.int .i64 0, .int .i64 0, .int .i64 0, .int .i64 2, .int .i64 1, .int .i64 2, .int .i64 3, .int .i64 0] 49)) (.slice (some ⟨w3.heap.size, 0, none⟩) 2 2) [⟨0, 0, 0, 2⟩, ⟨1, 2, 3, 0⟩] := new_holds w3 #[.int .i64 0, .int .i64 0, .int .i64 0, .int .i64 2, .int .i64 1, .int .i64 2, .int .i64 3, .int .i64 0] 49 2 2 (by decide)
  have hA1 := (Below.refl _ w3).alloc (Nat.le_refl _) (.cells #[.int .i64 0, .int .i64 0, .int .i64 0, .int .i64 2, .int .i64 1, .int .i64 2, .int .i64 3, .int .i64 0] 49)
  have hu2 := HCh.keep hu1 hA1 (Nat.le_refl _)
  have hu3 := HCh.keep hv3 hA1 (Nat.le_refl _)
  have hB04 := hB03.trans (hA1.mono hB03.size)
  clear hu1 hv3 hA1 hB03
  go_wp2_with fail
  refine (SameC_any _ _ [⟨0, 0, 0, 2⟩, ⟨1, 2, 3, 0⟩] _ (by decide) hu2 hn1).mono ?_
  rintro e w5 ⟨rfl, hB5⟩
  have hB05 := hB04.trans (hB5.mono hB04.size)
  have hu5 := HCh.keep hu3 hB5 (Nat.le_refl _)
  clear hu2 hu3 hn1 hB04 hB5
  have hn2 : HCh (w5.alloc (.cells #[.int .i64 0, .int .i64 1, .int .i64 0, .int .i64 0, .int .i64 3, .int .i64 0, .int .i64 2, .int .i64 1] 49)) (.slice (some ⟨w5.heap.size, 0, none⟩) 2 2) [⟨0, 1, 0, 0⟩, ⟨3, 0, 2, 1⟩] := new_holds w5 #[.int .i64 0, .int .i64 1, .int .i64 0, .int .i64 0, .int .i64 3, .int .i64 0, .int .i64 2, .int .i64 1] 49 2 2 (by decide)
  have hA2 := (Below.refl _ w5).alloc (Nat.le_refl _) (.cells #[.int .i64 0, .int .i64 1, .int .i64 0, .int .i64 0, .int .i64 3, .int .i64 0, .int .i64 2, .int .i64 1] 49)
  have hu6 := HCh.keep hu5 hA2 (Nat.le_refl _)
  have hB06 := hB05.trans (hA2.mono hB05.size)
  clear hu5 hA2 hB05
  go_wp2_with fail
  refine (SameC_any _ _ [⟨0, 1, 0, 0⟩, ⟨3, 0, 2, 1⟩] _ (by decide) hu6 hn2).mono ?_
  rintro e w7 ⟨rfl, hB7⟩
  have hB07 := hB06.trans (hB7.mono hB06.size)
  go_wp2
  go_ret
  exact ⟨ret_bool (by simp), hB07⟩
end Go.Proofs.Yteplejpbgajecaa

/- What a script keeps is held against both rows, whatever is kept: the law's own Honest, walked. -/
namespace Go.Proofs.Yteplejpbgajecaa
open Go.RowKit

theorem prs_step (K : List Int) (k : Nat) (hk : k < K.length) : prs (K.take (k + 1)) = prs (K.take k) + if 0 ≤ K[k] then 1 else 0 := by
  unfold prs
  rw [List.take_succ_eq_append_getElem hk, List.filter_append, List.length_append]
  congr 1
  by_cases h : 0 ≤ K[k] <;> simp [h]
theorem prs_le (K : List Int) : prs K ≤ K.length := by unfold prs; exact List.length_filter_le _ _

set_option maxRecDepth 10000 in
set_option maxHeartbeats 4000000 in
theorem Honest_g (x y : List Int) (L : List Ch) (vl vx vy : Value) (w : World) (hl : HCh w vl L) (hx : HI w vx x) (hy : HI w vy y) (hxl : x.length ≤ 4096) (hyl : y.length ≤ 4096) (K : List Int) (hK : Hid (Kpt x y K)) (hL : Hid (mkL K y.length = L)) (r : Nat) (hr : Hid (prs K = r)) :
    Calls Try.prog 16 #[vl, vx, vy] w fun e w' => e = .returned (.tuple #[.int .i64 (r : Int), .bool true]) ∧ Below w.heap.size w w' := by
  obtain ⟨lo, lca, rfl⟩ := Holds.form hl
  obtain ⟨xo, xc, rfl⟩ := Holds.form hx
  obtain ⟨yo, yc, rfl⟩ := Holds.form hy
  have hKl : K.length = x.length := hK.out.len
  have hV : Vk 0 (y.length : Int) K := hK.out.vk
  have hsame : Hid (∀ (i : Nat) (q : Nat), K[i]? = some (q : Int) → ∃ c, x[i]? = some c ∧ y[q]? = some c) := (by
    intro i q h
    have h1 := hK.out.eqs i q h
    have h2 : i < x.length := by rw [← hKl]; exact (List.getElem?_eq_some_iff.1 h).1
    exact ⟨x[i], List.getElem?_eq_getElem h2, by rw [← h1, List.getElem?_eq_getElem h2]⟩)
  have hprs : Hid (prs K = r) := hr
  obtain ⟨hS, hkm, hlen⟩ := keep_mk hV (by omega) (by omega) (by omega)
  have hLm : mkL K y.length = L := hL.out
  rw [hLm] at hS hkm hlen
  rw [hKl] at hS hkm hlen
  clear hLm hV
  go_enter Try.func16, Try.ntmps16
  have HKM : Hid (keepL L x.length y.length = K) := hkm
  have HKL : Hid (K.length = x.length) := hKl
  have hLl : L.length ≤ 1048576 := by omega
  clear hkm hKl hlen
  go_wp2_with fail
  refine (Keep_ok L x.length y.length _ w hl hS (by omega) (by omega) hLl).mono ?_
  rintro e w1 ⟨v1, rfl, hv1, hB1⟩
  rw [HKM.out] at hv1
  obtain ⟨ko, kc, rfl⟩ := Holds.form hv1
  rw [HKL.out]
  have hv1' : HI w1 (.slice ko x.length kc) K := by have := hv1; rw [HKL.out] at this; exact this
  clear hv1
  go_wp2
  go_loopw [10, 11] (fun sv iv wr => ∃ (k s : Nat), k ≤ x.length ∧ s ≤ k ∧ sv = .int .i64 (s : Int) ∧ iv = .int .i64 (k : Int) ∧ Below w1.heap.size w1 wr ∧ Hid (prs (K.take k) = s)) (fun _ iv _ => x.length - (intOf iv).toNat)
  case atStart => exact ⟨0, 0, Nat.zero_le _, Nat.zero_le _, rfl, rfl, Below.refl _ _, rfl⟩
  case round =>
    obtain ⟨k, s, hk, hsk, rfl, rfl, hB, hP⟩ := hrel
    have hBw : Below w.heap.size w wr := hB1.trans (hB.mono hB1.size)
    by_cases hlt : k < x.length
    · have hkK : k < K.length := by have := HKL.out; omega
      obtain ⟨bk, ok, rfl, _, hck⟩ := HI.at (n := x.length) (HI.keep hv1' hB (Nat.le_refl _)) (by omega)
      obtain ⟨bx, ox, rfl, _, hcx⟩ := HI.at (HI.keep hx hBw (Nat.le_refl _)) (by omega)
      have d0 := hck k hkK
      have d1 := hcx k hlt
      have hps := prs_step K k hkK
      have hsm := hsame.out k
      rw [List.getElem?_eq_getElem hkK, List.getElem?_eq_getElem hlt] at hsm
      obtain ⟨z, hz⟩ : ∃ z, K[k] = z := ⟨_, rfl⟩
      obtain ⟨xk, hxk⟩ : ∃ z, x[k] = z := ⟨_, rfl⟩
      rw [hz] at d0 hps hsm
      rw [hxk] at d1 hsm
      clear hck hcx hz hxk
      have i1 : 0 ≤ (k : Int) := by omega
      have i2 : (k : Int) < (x.length : Int) := by omega
      by_cases hz0 : 0 ≤ z
      · obtain ⟨q, rfl⟩ := Int.eq_ofNat_of_zero_le hz0
        rw [if_pos hz0, hP.out] at hps
        have HPS : Hid (prs (K.take (k + 1)) = s + 1) := hps
        obtain ⟨c, h1, h2⟩ := hsm q rfl
        have hxc : xk = c := Option.some.inj h1
        subst hxc
        have hqy : q < y.length := (List.getElem?_eq_some_iff.1 h2).1
        obtain ⟨by', oy, rfl, _, hcy⟩ := HI.at (HI.keep hy hBw (Nat.le_refl _)) (by omega)
        have d2 := hcy q hqy
        rw [List.getElem?_eq_getElem hqy] at h2
        rw [Option.some.inj h2] at d2
        clear hsm h1 h2 hps hcy
        have i3 : (q : Int) < (y.length : Int) := by omega
        have i4 : ¬ (y.length : Int) ≤ (q : Int) := by omega
        have i5 : decide ((y.length : Int) ≤ (q : Int)) = false := decide_eq_false i4
        have i6 : 0 ≤ (q : Int) := by omega
        have i7 : decide (y.length ≤ q) = false := decide_eq_false (by omega)
        go_wp2_with fail
        go_big_quiet (fail)
        go_wp2
        go_roundw
        case rel => exact ⟨k + 1, s + 1, by omega, by omega, by go_num, by go_num, Below.dN hB _, HPS⟩
        case measure => simp [intOf]; omega
      · rw [if_neg hz0, hP.out] at hps
        have HPS : Hid (prs (K.take (k + 1)) = s) := (by show _ = _; omega)
        clear hsm hps
        go_wp2
        go_roundw
        case rel => exact ⟨k + 1, s, by omega, by omega, rfl, by go_num, hB, HPS⟩
        case measure => simp [intOf]; omega
    · have hsr : s = r := by rw [← hP.out, ← hprs.out, List.take_of_length_le (by have := HKL.out; omega)]
      subst hsr
      go_wp2
      go_ret2
      exact ⟨rfl, hBw⟩
end Go.Proofs.Yteplejpbgajecaa
