/-
  Texts that belong together, joined: MiKm, MiHo.
-/
import Derived.Test.YtoacmaloiaeniabPartA3

/- A script that is made of what is kept keeps it: plain. -/
namespace Go.Proofs.Ytoacmaloiaeniab

theorem Right.many {f : Bool} {a b n m : Int} {l : List Ch} (h : Right f a b n m l) : (l.length : Int) ≤ (n - a) + (m - b) := by
  induction l generalizing f a b with
  | nil => have := h.le; simp; omega
  | cons c l ih =>
    obtain ⟨⟨h1, h2, h3, h4⟩, h5⟩ := h
    rw [numB_iff] at h1
    have := ih h5
    simp only [List.length_cons]
    omega
/-- a script that is made of what is kept keeps it -/
theorem keep_mk {K : List Int} {m : Int} (h : Vk 0 m K) (h0 : 0 ≤ m) (hm : m ≤ 2147483647) (hl : K.length ≤ 1048576) : Script (mkL K m) K.length m ∧ keepL (mkL K m) K.length m = K ∧ ((mkL K m).length : Int) ≤ K.length + m := by
  obtain ⟨hS, hU⟩ := mk_script h h0 hm hl
  refine ⟨hS, ?_, ?_⟩
  · have e : keepL (mkL K m) K.length m = kr 0 0 K.length m (mkL K m) := rfl
    rw [e]
    refine kept_inj (i := 0) ?_ ?_
    · rw [kr_length hS.2.2]; omega
    · rw [kr_kept hS.2.2 (Int.le_refl _), hU]
  · have := hS.2.2.many
    omega
end Go.Proofs.Ytoacmaloiaeniab

/- What a script keeps is held against both rows: the law's own Honest, walked. -/
namespace Go.Proofs.Ytoacmaloiaeniab
open Go.RowKit

theorem prs_step (K : List Int) (k : Nat) (hk : k < K.length) : prs (K.take (k + 1)) = prs (K.take k) + if 0 ≤ K[k] then 1 else 0 := by
  unfold prs
  rw [List.take_succ_eq_append_getElem hk, List.filter_append, List.length_append]
  congr 1
  by_cases h : 0 ≤ K[k] <;> simp [h]
theorem prs_le (K : List Int) : prs K ≤ K.length := by unfold prs; exact List.length_filter_le _ _

set_option maxRecDepth 10000 in
set_option maxHeartbeats 4000000 in
theorem Honest_f (x y : List Int) (L : List Ch) (vl vx vy : Value) (w : World) (hl : HCh w vl L) (hx : HI w vx x) (hy : HI w vy y) (hxl : x.length ≤ 4096) (hyl : y.length ≤ 4096) (hL : Hid (mkL (kp 0 x y) y.length = L)) (r : Nat) (hr : Hid (lc x y = r)) :
    Calls Try.prog 16 #[vl, vx, vy] w fun e w' => e = .returned (.tuple #[.int .i64 (r : Int), .bool true]) ∧ Below w.heap.size w w' := by
  obtain ⟨lo, lca, rfl⟩ := Holds.form hl
  obtain ⟨xo, xc, rfl⟩ := Holds.form hx
  obtain ⟨yo, yc, rfl⟩ := Holds.form hy
  obtain ⟨K, hK⟩ : ∃ K, kp 0 x y = K := ⟨_, rfl⟩
  have hKl : K.length = x.length := by rw [← hK, kp_length]
  have hV : Vk 0 (y.length : Int) K := by
    have := kp_vk 0 x y (Int.le_refl _)
    rw [Int.zero_add, hK] at this
    exact this
  have hsame : Hid (∀ (i : Nat) (q : Nat), K[i]? = some (q : Int) → ∃ c, x[i]? = some c ∧ y[q]? = some c) := (by
    intro i q h
    rw [← hK] at h
    obtain ⟨_, c, h1, h2⟩ := kp_same 0 x y (Int.le_refl _) i q h (by omega)
    rw [show ((q : Int) - 0).toNat = q by omega] at h2
    exact ⟨c, h1, h2⟩)
  have hprs : Hid (prs K = r) := (by show _ = _; rw [← hK, prs_kp 0 x y (Int.le_refl _), hr.out])
  obtain ⟨hS, hkm, hlen⟩ := keep_mk hV (by omega) (by omega) (by omega)
  have hLm : mkL K y.length = L := by rw [← hK]; exact hL.out
  rw [hLm] at hS hkm hlen
  rw [hKl] at hS hkm hlen
  clear hK hLm hV
  go_enter Try.func16, Try.ntmps16
  have HKM : Hid (keepL L x.length y.length = K) := hkm
  have HKL : Hid (K.length = x.length) := hKl
  have hLl : L.length ≤ 1048576 := by omega
  clear hkm hKl hlen
  go_wp2_with fail
  refine (Keep_ok L x.length y.length _ w hl hS (by omega) (by omega) hLl).mono ?_
  rintro e w1 ⟨v1, rfl, hv1, hB1⟩
  rw [HKM.out] at hv1
  obtain ⟨ko, kc, rfl⟩ := Holds.form hv1
  rw [HKL.out]
  have hv1' : HI w1 (.slice ko x.length kc) K := by have := hv1; rw [HKL.out] at this; exact this
  clear hv1
  go_wp2
  go_loopw [10, 11] (fun sv iv wr => ∃ (k s : Nat), k ≤ x.length ∧ s ≤ k ∧ sv = .int .i64 (s : Int) ∧ iv = .int .i64 (k : Int) ∧ Below w1.heap.size w1 wr ∧ Hid (prs (K.take k) = s)) (fun _ iv _ => x.length - (intOf iv).toNat)
  case atStart => exact ⟨0, 0, Nat.zero_le _, Nat.zero_le _, rfl, rfl, Below.refl _ _, rfl⟩
  case round =>
    obtain ⟨k, s, hk, hsk, rfl, rfl, hB, hP⟩ := hrel
    have hBw : Below w.heap.size w wr := hB1.trans (hB.mono hB1.size)
    by_cases hlt : k < x.length
    · have hkK : k < K.length := by have := HKL.out; omega
      obtain ⟨bk, ok, rfl, _, hck⟩ := HI.at (n := x.length) (HI.keep hv1' hB (Nat.le_refl _)) (by omega)
      obtain ⟨bx, ox, rfl, _, hcx⟩ := HI.at (HI.keep hx hBw (Nat.le_refl _)) (by omega)
      have d0 := hck k hkK
      have d1 := hcx k hlt
      have hps := prs_step K k hkK
      have hsm := hsame.out k
      rw [List.getElem?_eq_getElem hkK, List.getElem?_eq_getElem hlt] at hsm
      obtain ⟨z, hz⟩ : ∃ z, K[k] = z := ⟨_, rfl⟩
      obtain ⟨xk, hxk⟩ : ∃ z, x[k] = z := ⟨_, rfl⟩
      rw [hz] at d0 hps hsm
      rw [hxk] at d1 hsm
      clear hck hcx hz hxk
      have i1 : 0 ≤ (k : Int) := by omega
      have i2 : (k : Int) < (x.length : Int) := by omega
      by_cases hz0 : 0 ≤ z
      · obtain ⟨q, rfl⟩ := Int.eq_ofNat_of_zero_le hz0
        rw [if_pos hz0, hP.out] at hps
        have HPS : Hid (prs (K.take (k + 1)) = s + 1) := hps
        obtain ⟨c, h1, h2⟩ := hsm q rfl
        have hxc : xk = c := Option.some.inj h1
        subst hxc
        have hqy : q < y.length := (List.getElem?_eq_some_iff.1 h2).1
        obtain ⟨by', oy, rfl, _, hcy⟩ := HI.at (HI.keep hy hBw (Nat.le_refl _)) (by omega)
        have d2 := hcy q hqy
        rw [List.getElem?_eq_getElem hqy] at h2
        rw [Option.some.inj h2] at d2
        clear hsm h1 h2 hps hcy
        have i3 : (q : Int) < (y.length : Int) := by omega
        have i4 : ¬ (y.length : Int) ≤ (q : Int) := by omega
        have i5 : decide ((y.length : Int) ≤ (q : Int)) = false := decide_eq_false i4
        have i6 : 0 ≤ (q : Int) := by omega
        have i7 : decide (y.length ≤ q) = false := decide_eq_false (by omega)
        go_wp2_with fail
        go_big_quiet (fail)
        go_wp2
        go_roundw
        case rel => exact ⟨k + 1, s + 1, by omega, by omega, by go_num, by go_num, Below.dN hB _, HPS⟩
        case measure => simp [intOf]; omega
      · rw [if_neg hz0, hP.out] at hps
        have HPS : Hid (prs (K.take (k + 1)) = s) := (by show _ = _; omega)
        clear hsm hps
        go_wp2
        go_roundw
        case rel => exact ⟨k + 1, s, by omega, by omega, rfl, by go_num, hB, HPS⟩
        case measure => simp [intOf]; omega
    · have hsr : s = r := by rw [← hP.out, ← hprs.out, List.take_of_length_le (by have := HKL.out; omega)]
      subst hsr
      go_wp2
      go_ret2
      exact ⟨rfl, hBw⟩
end Go.Proofs.Ytoacmaloiaeniab
