/-
  Texts that belong together, joined: HiWk, HiWo, PcHo.
-/
import Derived.Test.YteplejpbgajecabPartA6
import Derived.Test.YteplejpbgajecabPartA7
import Derived.Test.YteplejpbgajecabPartA4

/- The worked example of the layer histogram: plain. -/
namespace Go.Proofs.Yteplejpbgajecab

theorem ex_best : best [1, 2, 1, 3] [1, 3, 1, 2] = some ⟨0, 2, 2, 1⟩ := by
  have a : tl [1, 2, 1, 3] [1, 3, 1, 2] 0 0 = 1 := by rw [tl_step, tl_step]; simp
  have b : tl [1, 2, 1, 3] [1, 3, 1, 2] 0 2 = 2 := by rw [tl_step, tl_step, tl_step]; simp
  have c : tl [1, 2, 1, 3] [1, 3, 1, 2] 2 0 = 2 := by rw [tl_step, tl_step, tl_step]; simp
  have d : tl [1, 2, 1, 3] [1, 3, 1, 2] 2 2 = 1 := by rw [tl_step, tl_step]; simp
  have e : runs [1, 2, 1, 3] [1, 3, 1, 2] = [⟨0, 0, 1, 2⟩, ⟨0, 2, 2, 1⟩, ⟨2, 0, 2, 1⟩, ⟨2, 2, 1, 2⟩] := by
    simp [runs, rowR, rj, List.range', a, b, c, d, rar, cnt]
  unfold best
  rw [e]
  rfl
theorem ex_best2 : best [2, 1, 3] [3, 1, 2] = some ⟨0, 2, 1, 1⟩ := by
  have a : tl [2, 1, 3] [3, 1, 2] 0 2 = 1 := by rw [tl_step, tl_step]; simp
  have b : tl [2, 1, 3] [3, 1, 2] 1 1 = 1 := by rw [tl_step, tl_step]; simp
  have c : tl [2, 1, 3] [3, 1, 2] 2 0 = 1 := by rw [tl_step, tl_step]; simp
  have e : runs [2, 1, 3] [3, 1, 2] = [⟨0, 2, 1, 1⟩, ⟨1, 1, 1, 1⟩, ⟨2, 0, 1, 1⟩] := by
    simp [runs, rowR, rj, List.range', a, b, c, rar, cnt]
  unfold best
  rw [e]
  rfl
theorem ex_hi : pcs (hmid [1, 2, 1, 3] [1, 3, 1, 2]) [1, 2, 1, 3] [1, 3, 1, 2] 5 0 4 0 4 = [⟨0, 0⟩, ⟨1, 3⟩] := by
  have t1 : tf [1, 2, 1, 3] [1, 3, 1, 2] 0 4 0 4 = 1 := by rw [tf_eq, tf_eq]; simp
  have t2 : tb [1, 2, 1, 3] [1, 3, 1, 2] 1 4 1 4 = 0 := by rw [tb]; simp
  have t3 : tf [1, 2, 1, 3] [1, 3, 1, 2] 1 1 1 3 = 0 := by rw [tf_eq]; simp
  have t4 : tb [1, 2, 1, 3] [1, 3, 1, 2] 1 1 1 3 = 0 := by rw [tb]; simp
  have t5 : tf [1, 2, 1, 3] [1, 3, 1, 2] 2 4 4 4 = 0 := by rw [tf_eq]; simp
  have t6 : tb [1, 2, 1, 3] [1, 3, 1, 2] 2 4 4 4 = 0 := by rw [tb]; simp
  have u1 : best (sub [1, 2, 1, 3] 1 4) (sub [1, 3, 1, 2] 1 4) = some ⟨0, 2, 1, 1⟩ := ex_best2
  have p2 : pcs (hmid [1, 2, 1, 3] [1, 3, 1, 2]) [1, 2, 1, 3] [1, 3, 1, 2] 4 1 1 1 3 = [] := by
    rw [pcs, ends, t3, t4]
    simp [fp, bp]
  have p3 : pcs (hmid [1, 2, 1, 3] [1, 3, 1, 2]) [1, 2, 1, 3] [1, 3, 1, 2] 4 2 4 4 4 = [] := by
    rw [pcs, ends, t5, t6]
    simp [fp, bp]
  rw [pcs, ends, t1, t2]
  simp [fp, bp, hmid, u1, hsel, p2, p3]
theorem ex_hkeep : hKeep [1, 2, 1, 3] [1, 3, 1, 2] = [0, 3, -1, -1] := by
  unfold hKeep
  show wrk _ (pcs (hmid [1, 2, 1, 3] [1, 3, 1, 2]) [1, 2, 1, 3] [1, 3, 1, 2] 5 0 4 0 4) = _
  rw [ex_hi]
  rfl
theorem ex_hmk : mkL (hKeep [1, 2, 1, 3] [1, 3, 1, 2]) (([1, 3, 1, 2] : List Int).length : Int) = [⟨1, 0, 1, 2⟩, ⟨2, 2, 4, 0⟩] := by rw [ex_hkeep]; rfl
end Go.Proofs.Yteplejpbgajecab

/- The law's own test works, of the layer histogram, walked. -/
namespace Go.Proofs.Yteplejpbgajecab
open Go.RowKit

theorem w64h (l : List Int) (h : l.all (fun z => decide (-1000 ≤ z ∧ z ≤ 1000)) = true) : ∀ c ∈ l, w64 c := by
  intro c hc
  have := of_decide_eq_true (List.all_eq_true.1 h c hc)
  exact ⟨by omega, by omega⟩
set_option maxRecDepth 10000 in
set_option maxHeartbeats 2000000 in
theorem hiWorks_any (w : World) : Calls Try.prog 14 #[] w fun e w' => e = .returned (.bool true) ∧ Below w.heap.size w w' := by
  go_enter Try.func14, Try.ntmps14
  obtain ⟨hX, hY, hB0⟩ := two_rows w #[.int .i64 1, .int .i64 2, .int .i64 1, .int .i64 3] #[.int .i64 1, .int .i64 3, .int .i64 1, .int .i64 2] 4 4 (w.heap.size + 1) rfl [1, 2, 1, 3] [1, 3, 1, 2] rfl rfl rfl rfl
  go_wp2_with fail
  refine (hiDiff_f [1, 2, 1, 3] [1, 3, 1, 2] _ _ _ hX hY (by decide) (by decide) (w64h _ (by decide)) (w64h _ (by decide)) _ ex_hmk).mono ?_
  rintro e w1 ⟨v1, rfl, hv1, hB1⟩
  obtain ⟨o1, c1, rfl⟩ := Holds.form hv1
  have hB01 := hB0.trans (hB1.mono hB0.size)
  clear hX hY hB0 hB1
  obtain ⟨hX, hY, hB2⟩ := two_rows w1 #[.int .i64 1, .int .i64 2, .int .i64 1, .int .i64 3] #[.int .i64 1, .int .i64 3, .int .i64 1, .int .i64 2] 4 4 (w1.heap.size + 1) rfl [1, 2, 1, 3] [1, 3, 1, 2] rfl rfl rfl rfl
  go_wp2_with fail
  refine (Best_f [1, 2, 1, 3] [1, 3, 1, 2] _ _ _ hX hY (by decide) (by decide) (w64h _ (by decide)) (w64h _ (by decide)) _ ex_best).mono ?_
  rintro e w3 ⟨rfl, hB3⟩
  have hB13 := hB2.trans (hB3.mono hB2.size)
  have hB03 := hB01.trans (hB13.mono hB01.size)
  have hv3 := HCh.keep hv1 hB13 (Nat.le_refl _)
  clear hX hY hB2 hB3 hB13 hB01 hv1
  unfold hrV
  have hH3 : Hbx (w3.alloc (.cells #[.int .i64 0, .int .i64 2, .int .i64 2, .int .i64 1] 61)) w3.heap.size ⟨0, 2, 2, 1⟩ := Hbx.new w3 ⟨0, 2, 2, 1⟩
  have hBa := hB03.alloc hB03.size (.cells #[.int .i64 0, .int .i64 2, .int .i64 2, .int .i64 1] 61)
  have hv4 := HCh.keep hv3 ((Below.refl _ w3).alloc (Nat.le_refl _) (.cells #[.int .i64 0, .int .i64 2, .int .i64 2, .int .i64 1] 61)) (Nat.le_refl _)
  have hv5 := HCh.keep hv4 ((Below.refl _ (w3.alloc (.cells #[.int .i64 0, .int .i64 2, .int .i64 2, .int .i64 1] 61))).alloc (Nat.le_refl _) (.cells #[.int .i64 1, .int .i64 0, .int .i64 1, .int .i64 2, .int .i64 2, .int .i64 2, .int .i64 4, .int .i64 0] 41)) (Nat.le_refl _)
  have hH4 := hH3.low ((Below.refl _ (w3.alloc (.cells #[.int .i64 0, .int .i64 2, .int .i64 2, .int .i64 1] 61))).alloc (Nat.le_refl _) (.cells #[.int .i64 1, .int .i64 0, .int .i64 1, .int .i64 2, .int .i64 2, .int .i64 2, .int .i64 4, .int .i64 0] 41))
  have hBb := hBa.alloc hBa.size (.cells #[.int .i64 1, .int .i64 0, .int .i64 1, .int .i64 2, .int .i64 2, .int .i64 2, .int .i64 4, .int .i64 0] 41)
  have hnew : HCh ((w3.alloc (.cells #[.int .i64 0, .int .i64 2, .int .i64 2, .int .i64 1] 61)).alloc (.cells #[.int .i64 1, .int .i64 0, .int .i64 1, .int .i64 2, .int .i64 2, .int .i64 2, .int .i64 4, .int .i64 0] 41)) (.slice (some ⟨w3.heap.size + 1, 0, none⟩) 2 2) [⟨1, 0, 1, 2⟩, ⟨2, 2, 4, 0⟩] := by
    have h := new_holds (w3.alloc (.cells #[.int .i64 0, .int .i64 2, .int .i64 2, .int .i64 1] 61)) #[.int .i64 1, .int .i64 0, .int .i64 1, .int .i64 2, .int .i64 2, .int .i64 2, .int .i64 4, .int .i64 0] 41 2 2 (by decide)
    rw [show (w3.alloc (.cells #[.int .i64 0, .int .i64 2, .int .i64 2, .int .i64 1] 61)).heap.size = w3.heap.size + 1 by simp] at h
    exact h
  clear hv3 hH3 hBa hv4 hB03
  go_wp2_with fail
  refine (SameC_any _ _ [⟨1, 0, 1, 2⟩, ⟨2, 2, 4, 0⟩] _ (by decide) hv5 hnew).mono ?_
  rintro e w5 ⟨rfl, hB5⟩
  have hH5 := hH4.low hB5
  have hB05 := hBb.trans (hB5.mono hBb.size)
  clear hv5 hnew hH4 hBb hB5
  obtain ⟨c0, c1, c2, c3⟩ := hH5.cells
  simp only [Int.cast_ofNat_Int] at c0 c1 c2 c3
  go_wp2
  go_ret
  exact ⟨ret_bool (by simp), hB05⟩
end Go.Proofs.Yteplejpbgajecab

/- What a script keeps is held against both rows, whatever is kept: the law's own Honest, walked. -/
namespace Go.Proofs.Yteplejpbgajecab
open Go.RowKit

theorem prs_step (K : List Int) (k : Nat) (hk : k < K.length) : prs (K.take (k + 1)) = prs (K.take k) + if 0 ≤ K[k] then 1 else 0 := by
  unfold prs
  rw [List.take_succ_eq_append_getElem hk, List.filter_append, List.length_append]
  congr 1
  by_cases h : 0 ≤ K[k] <;> simp [h]
theorem prs_le (K : List Int) : prs K ≤ K.length := by unfold prs; exact List.length_filter_le _ _

set_option maxRecDepth 10000 in
set_option maxHeartbeats 4000000 in
theorem Honest_g (x y : List Int) (L : List Ch) (vl vx vy : Value) (w : World) (hl : HCh w vl L) (hx : HI w vx x) (hy : HI w vy y) (hxl : x.length ≤ 4096) (hyl : y.length ≤ 4096) (K : List Int) (hK : Hid (Kpt x y K)) (hL : Hid (mkL K y.length = L)) (r : Nat) (hr : Hid (prs K = r)) :
    Calls Try.prog 15 #[vl, vx, vy] w fun e w' => e = .returned (.tuple #[.int .i64 (r : Int), .bool true]) ∧ Below w.heap.size w w' := by
  obtain ⟨lo, lca, rfl⟩ := Holds.form hl
  obtain ⟨xo, xc, rfl⟩ := Holds.form hx
  obtain ⟨yo, yc, rfl⟩ := Holds.form hy
  have hKl : K.length = x.length := hK.out.len
  have hV : Vk 0 (y.length : Int) K := hK.out.vk
  have hsame : Hid (∀ (i : Nat) (q : Nat), K[i]? = some (q : Int) → ∃ c, x[i]? = some c ∧ y[q]? = some c) := (by
    intro i q h
    have h1 := hK.out.eqs i q h
    have h2 : i < x.length := by rw [← hKl]; exact (List.getElem?_eq_some_iff.1 h).1
    exact ⟨x[i], List.getElem?_eq_getElem h2, by rw [← h1, List.getElem?_eq_getElem h2]⟩)
  have hprs : Hid (prs K = r) := hr
  obtain ⟨hS, hkm, hlen⟩ := keep_mk hV (by omega) (by omega) (by omega)
  have hLm : mkL K y.length = L := hL.out
  rw [hLm] at hS hkm hlen
  rw [hKl] at hS hkm hlen
  clear hLm hV
  go_enter Try.func15, Try.ntmps15
  have HKM : Hid (keepL L x.length y.length = K) := hkm
  have HKL : Hid (K.length = x.length) := hKl
  have hLl : L.length ≤ 1048576 := by omega
  clear hkm hKl hlen
  go_wp2_with fail
  refine (Keep_ok L x.length y.length _ w hl hS (by omega) (by omega) hLl).mono ?_
  rintro e w1 ⟨v1, rfl, hv1, hB1⟩
  rw [HKM.out] at hv1
  obtain ⟨ko, kc, rfl⟩ := Holds.form hv1
  rw [HKL.out]
  have hv1' : HI w1 (.slice ko x.length kc) K := by have := hv1; rw [HKL.out] at this; exact this
  clear hv1
  go_wp2
  go_loopw [10, 11] (fun sv iv wr => ∃ (k s : Nat), k ≤ x.length ∧ s ≤ k ∧ sv = .int .i64 (s : Int) ∧ iv = .int .i64 (k : Int) ∧ Below w1.heap.size w1 wr ∧ Hid (prs (K.take k) = s)) (fun _ iv _ => x.length - (intOf iv).toNat)
  case atStart => exact ⟨0, 0, Nat.zero_le _, Nat.zero_le _, rfl, rfl, Below.refl _ _, rfl⟩
  case round =>
    obtain ⟨k, s, hk, hsk, rfl, rfl, hB, hP⟩ := hrel
    have hBw : Below w.heap.size w wr := hB1.trans (hB.mono hB1.size)
    by_cases hlt : k < x.length
    · have hkK : k < K.length := by have := HKL.out; omega
      obtain ⟨bk, ok, rfl, _, hck⟩ := HI.at (n := x.length) (HI.keep hv1' hB (Nat.le_refl _)) (by omega)
      obtain ⟨bx, ox, rfl, _, hcx⟩ := HI.at (HI.keep hx hBw (Nat.le_refl _)) (by omega)
      have d0 := hck k hkK
      have d1 := hcx k hlt
      have hps := prs_step K k hkK
      have hsm := hsame.out k
      rw [List.getElem?_eq_getElem hkK, List.getElem?_eq_getElem hlt] at hsm
      obtain ⟨z, hz⟩ : ∃ z, K[k] = z := ⟨_, rfl⟩
      obtain ⟨xk, hxk⟩ : ∃ z, x[k] = z := ⟨_, rfl⟩
      rw [hz] at d0 hps hsm
      rw [hxk] at d1 hsm
      clear hck hcx hz hxk
      have i1 : 0 ≤ (k : Int) := by omega
      have i2 : (k : Int) < (x.length : Int) := by omega
      by_cases hz0 : 0 ≤ z
      · obtain ⟨q, rfl⟩ := Int.eq_ofNat_of_zero_le hz0
        rw [if_pos hz0, hP.out] at hps
        have HPS : Hid (prs (K.take (k + 1)) = s + 1) := hps
        obtain ⟨c, h1, h2⟩ := hsm q rfl
        have hxc : xk = c := Option.some.inj h1
        subst hxc
        have hqy : q < y.length := (List.getElem?_eq_some_iff.1 h2).1
        obtain ⟨by', oy, rfl, _, hcy⟩ := HI.at (HI.keep hy hBw (Nat.le_refl _)) (by omega)
        have d2 := hcy q hqy
        rw [List.getElem?_eq_getElem hqy] at h2
        rw [Option.some.inj h2] at d2
        clear hsm h1 h2 hps hcy
        have i3 : (q : Int) < (y.length : Int) := by omega
        have i4 : ¬ (y.length : Int) ≤ (q : Int) := by omega
        have i5 : decide ((y.length : Int) ≤ (q : Int)) = false := decide_eq_false i4
        have i6 : 0 ≤ (q : Int) := by omega
        have i7 : decide (y.length ≤ q) = false := decide_eq_false (by omega)
        go_wp2_with fail
        go_big_quiet (fail)
        go_wp2
        go_roundw
        case rel => exact ⟨k + 1, s + 1, by omega, by omega, by go_num, by go_num, Below.dN hB _, HPS⟩
        case measure => simp [intOf]; omega
      · rw [if_neg hz0, hP.out] at hps
        have HPS : Hid (prs (K.take (k + 1)) = s) := (by show _ = _; omega)
        clear hsm hps
        go_wp2
        go_roundw
        case rel => exact ⟨k + 1, s, by omega, by omega, rfl, by go_num, hB, HPS⟩
        case measure => simp [intOf]; omega
    · have hsr : s = r := by rw [← hP.out, ← hprs.out, List.take_of_length_le (by have := HKL.out; omega)]
      subst hsr
      go_wp2
      go_ret2
      exact ⟨rfl, hBw⟩
end Go.Proofs.Yteplejpbgajecab
