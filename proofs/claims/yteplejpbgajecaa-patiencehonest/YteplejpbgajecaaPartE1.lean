/-
  Texts that belong together, joined: PaHm, PaWk, PaWo, PcHo.
-/
import Derived.Test.YteplejpbgajecaaPartB4
import Derived.Test.YteplejpbgajecaaPartB1

/- What patience keeps is honest, and what it keeps for sure: plain. -/
namespace Go.Proofs.Yteplejpbgajecaa

theorem pKeep_front (x y : List Int) (i : Nat) (hi : i < tf x y 0 x.length 0 y.length) : (pKeep x y)[i]? = some (i : Int) := by
  have hm : (⟨(i : Int), (i : Int)⟩ : Pr) ∈ pcs (pmid x y) x y (x.length + 1) 0 x.length 0 y.length := by
    rw [pcs, ends, List.mem_append]
    exact .inl (mem_fp.2 ⟨i, hi, by simp⟩)
  have := (pKeep_ok x y).at hm
  simpa [pKeep] using this
theorem tf_fr (x y : List Int) : ∀ i, i ≤ x.length → i ≤ y.length → tf x y i x.length i y.length = fr (x.drop i) (y.drop i) := by
  intro i
  induction h : x.length - i generalizing i with
  | zero =>
    intro h1 h2
    rw [tf_eq, if_neg (by omega), List.drop_of_length_le (by omega)]
    simp [fr]
  | succ n ih =>
    intro h1 h2
    by_cases hy : i < y.length
    · rw [tf_eq, fr_step x y i (by omega) hy]
      rw [List.getElem?_eq_getElem (by omega), List.getElem?_eq_getElem hy]
      by_cases e : x[i] = y[i]
      · rw [if_pos ⟨by omega, hy, by rw [e]⟩, if_pos e, ih (i + 1) (by omega) (by omega) (by omega)]
      · rw [if_neg (fun q => e (by simpa using q.2.2)), if_neg e]
    · rw [tf_eq, if_neg (by omega), List.drop_of_length_le (l := y) (by omega)]
      cases x.drop i <;> simp [fr]
/-- equal texts have no changes, others have some -/
theorem pKeep_nil (x y : List Int) (hx : x.length ≤ 4096) (hy : y.length ≤ 4096) : mkL (pKeep x y) y.length = [] ↔ x = y := by
  constructor
  · exact nil_same (pKeep_kpt x y).vk (pKeep_kpt x y).len (pKeep_kpt x y).eqs hx hy
  · rintro rfl
    have e : pKeep x x = (List.range x.length).map fun (j : Nat) => (0 : Int) + (j : Int) := by
      apply List.ext_getElem?
      intro i
      by_cases hi : i < x.length
      · rw [pKeep_front x x i (by rw [tf_all]; omega)]
        simp [hi]
      · rw [List.getElem?_eq_none (by rw [(pKeep_kpt x x).len]; omega), List.getElem?_eq_none (by simp; omega)]
    rw [e]
    exact mk_id x.length
theorem pKeep_le (x y : List Int) : prs (pKeep x y) ≤ lc x y := by
  have := hon_le (pKeep x y) x y 0 (pKeep_kpt x y).vk (pKeep_kpt x y).len (pKeep_kpt x y).eqs
  simpa using this
theorem pKeep_first (x y : List Int) (hx : x.length ≤ 4096) (hy : y.length ≤ 4096) {c : Ch} {L : List Ch} (h : mkL (pKeep x y) y.length = c :: L) : (fr x y : Int) ≤ c.A := by
  refine front_le (pKeep_kpt x y).vk (by rw [(pKeep_kpt x y).len]; exact hx) hy h (fr x y) (fun i hi => pKeep_front x y i ?_)
  rw [tf_fr x y 0 (Nat.zero_le _) (Nat.zero_le _)]
  simpa using hi
end Go.Proofs.Yteplejpbgajecaa

/- The worked example of the layer patience, walked. -/
namespace Go.Proofs.Yteplejpbgajecaa
open Go.RowKit

theorem ex_pa : pcs (pmid [1, 2, 1, 3] [3, 2, 4]) [1, 2, 1, 3] [3, 2, 4] 5 0 4 0 3 = [⟨1, 1⟩] := by
  have t1 : tf [1, 2, 1, 3] [3, 2, 4] 0 4 0 3 = 0 := by rw [tf_eq]; simp
  have t2 : tb [1, 2, 1, 3] [3, 2, 4] 0 4 0 3 = 0 := by rw [tb]; simp
  have t3 : tf [1, 2, 1, 3] [3, 2, 4] 0 1 0 1 = 0 := by rw [tf_eq]; simp
  have t4 : tb [1, 2, 1, 3] [3, 2, 4] 0 1 0 1 = 0 := by rw [tb]; simp
  have t5 : tf [1, 2, 1, 3] [3, 2, 4] 2 4 2 3 = 0 := by rw [tf_eq]; simp
  have t6 : tb [1, 2, 1, 3] [3, 2, 4] 2 4 2 3 = 0 := by rw [tb]; simp
  have u1 : lng (unq (sub [1, 2, 1, 3] 0 4) (sub [3, 2, 4] 0 3)) = [⟨1, 1⟩] := by rfl
  have u2 : lng (unq (sub [1, 2, 1, 3] 0 1) (sub [3, 2, 4] 0 1)) = [] := by rfl
  have u3 : lng (unq (sub [1, 2, 1, 3] 2 4) (sub [3, 2, 4] 2 3)) = [] := by rfl
  have k2 : lp 0 0 (kp 0 (sub [1, 2, 1, 3] 0 1) (sub [3, 2, 4] 0 1)) = [] := by simp [sub, kp, lc, lp]
  have k3 : lp 2 2 (kp 0 (sub [1, 2, 1, 3] 2 4) (sub [3, 2, 4] 2 3)) = [] := by simp [sub, kp, lc, lp]
  have p2 : pcs (pmid [1, 2, 1, 3] [3, 2, 4]) [1, 2, 1, 3] [3, 2, 4] 4 0 1 0 1 = [] := by
    rw [pcs, ends, t3, t4]
    simp [fp, bp, pmid, u2, k2]
  have p3 : pcs (pmid [1, 2, 1, 3] [3, 2, 4]) [1, 2, 1, 3] [3, 2, 4] 4 2 4 2 3 = [] := by
    rw [pcs, ends, t5, t6]
    simp [fp, bp, pmid, u3, k3]
  rw [pcs, ends, t1, t2]
  simp [fp, bp, pmid, u1, gos, p2, p3]
theorem ex_keep : pKeep [1, 2, 1, 3] [3, 2, 4] = [-1, 1, -1, -1] := by
  unfold pKeep
  show wrk _ (pcs (pmid [1, 2, 1, 3] [3, 2, 4]) [1, 2, 1, 3] [3, 2, 4] 5 0 4 0 3) = _
  rw [ex_pa]
  rfl
theorem ex_pmk : mkL (pKeep [1, 2, 1, 3] [3, 2, 4]) (([3, 2, 4] : List Int).length : Int) = [⟨0, 1, 0, 1⟩, ⟨2, 2, 2, 1⟩] := by rw [ex_keep]; rfl
theorem ex_unq : (unq [1, 2, 1, 3] [3, 2, 4]).length = 2 := by rfl
end Go.Proofs.Yteplejpbgajecaa

/- The law's own test works, of the layer patience, walked. -/
namespace Go.Proofs.Yteplejpbgajecaa
open Go.RowKit

theorem w64s (l : List Int) (h : l.all (fun z => decide (-1000 ≤ z ∧ z ≤ 1000)) = true) : ∀ c ∈ l, w64 c := by
  intro c hc
  have := of_decide_eq_true (List.all_eq_true.1 h c hc)
  exact ⟨by omega, by omega⟩
set_option maxRecDepth 10000 in
set_option maxHeartbeats 2000000 in
theorem paWorks_any (w : World) : Calls Try.prog 25 #[] w fun e w' => e = .returned (.bool true) ∧ Below w.heap.size w w' := by
  go_enter Try.func25, Try.ntmps25
  obtain ⟨hX, hY, hB0⟩ := two_rows w #[.int .i64 1, .int .i64 2, .int .i64 1, .int .i64 3] #[.int .i64 3, .int .i64 2, .int .i64 4] 4 3 (w.heap.size + 1) rfl [1, 2, 1, 3] [3, 2, 4] rfl rfl rfl rfl
  go_wp2_with fail
  refine (paDiff_f [1, 2, 1, 3] [3, 2, 4] _ _ _ hX hY (by decide) (by decide) (w64s _ (by decide)) (w64s _ (by decide)) _ ex_pmk).mono ?_
  rintro e w1 ⟨v1, rfl, hv1, hB1⟩
  obtain ⟨o1, c1, rfl⟩ := Holds.form hv1
  have hB01 := hB0.trans (hB1.mono hB0.size)
  clear hX hY hB0 hB1
  have hnew : HCh (w1.alloc (.cells #[.int .i64 0, .int .i64 1, .int .i64 0, .int .i64 1, .int .i64 2, .int .i64 2, .int .i64 2, .int .i64 1] 49)) (.slice (some ⟨w1.heap.size, 0, none⟩) 2 2) [⟨0, 1, 0, 1⟩, ⟨2, 2, 2, 1⟩] := new_holds w1 _ _ 2 2 (by decide)
  have hv2 := HCh.keep hv1 ((Below.refl _ w1).alloc (Nat.le_refl _) (.cells #[.int .i64 0, .int .i64 1, .int .i64 0, .int .i64 1, .int .i64 2, .int .i64 2, .int .i64 2, .int .i64 1] 49)) (Nat.le_refl _)
  go_wp2_with fail
  refine (SameC_any _ _ [⟨0, 1, 0, 1⟩, ⟨2, 2, 2, 1⟩] _ (by decide) hv2 hnew).mono ?_
  rintro e w3 ⟨rfl, hB3⟩
  have hB03 : Below w.heap.size w w3 := (hB01.alloc hB01.size _).trans (hB3.mono (by have := hB01.size; simp; omega))
  clear hB3 hB01 hv1 hv2 hnew
  obtain ⟨hX, hY, hB4⟩ := two_rows w3 #[.int .i64 1, .int .i64 2, .int .i64 1, .int .i64 3] #[.int .i64 3, .int .i64 2, .int .i64 4] 4 3 (w3.heap.size + 1) rfl [1, 2, 1, 3] [3, 2, 4] rfl rfl rfl rfl
  go_wp2_with fail
  refine (Unique_f [1, 2, 1, 3] [3, 2, 4] _ _ _ hX hY (by decide) (by decide) (w64s _ (by decide)) (w64s _ (by decide)) _ rfl).mono ?_
  rintro e w5 ⟨v5, rfl, hv5, hB5⟩
  obtain ⟨o5, c5, rfl⟩ := Holds.form hv5
  have hB45 := hB4.trans (hB5.mono hB4.size)
  have hB05 := hB03.trans (hB45.mono hB03.size)
  clear hX hY hv5
  go_wp2
  go_ret
  exact ⟨rfl, hB05⟩
end Go.Proofs.Yteplejpbgajecaa

/- What a script keeps is held against both rows, whatever is kept: the law's own Honest, walked. -/
namespace Go.Proofs.Yteplejpbgajecaa
open Go.RowKit

theorem prs_step (K : List Int) (k : Nat) (hk : k < K.length) : prs (K.take (k + 1)) = prs (K.take k) + if 0 ≤ K[k] then 1 else 0 := by
  unfold prs
  rw [List.take_succ_eq_append_getElem hk, List.filter_append, List.length_append]
  congr 1
  by_cases h : 0 ≤ K[k] <;> simp [h]
theorem prs_le (K : List Int) : prs K ≤ K.length := by unfold prs; exact List.length_filter_le _ _

set_option maxRecDepth 10000 in
set_option maxHeartbeats 4000000 in
theorem Honest_g (x y : List Int) (L : List Ch) (vl vx vy : Value) (w : World) (hl : HCh w vl L) (hx : HI w vx x) (hy : HI w vy y) (hxl : x.length ≤ 4096) (hyl : y.length ≤ 4096) (K : List Int) (hK : Hid (Kpt x y K)) (hL : Hid (mkL K y.length = L)) (r : Nat) (hr : Hid (prs K = r)) :
    Calls Try.prog 16 #[vl, vx, vy] w fun e w' => e = .returned (.tuple #[.int .i64 (r : Int), .bool true]) ∧ Below w.heap.size w w' := by
  obtain ⟨lo, lca, rfl⟩ := Holds.form hl
  obtain ⟨xo, xc, rfl⟩ := Holds.form hx
  obtain ⟨yo, yc, rfl⟩ := Holds.form hy
  have hKl : K.length = x.length := hK.out.len
  have hV : Vk 0 (y.length : Int) K := hK.out.vk
  have hsame : Hid (∀ (i : Nat) (q : Nat), K[i]? = some (q : Int) → ∃ c, x[i]? = some c ∧ y[q]? = some c) := (by
    intro i q h
    have h1 := hK.out.eqs i q h
    have h2 : i < x.length := by rw [← hKl]; exact (List.getElem?_eq_some_iff.1 h).1
    exact ⟨x[i], List.getElem?_eq_getElem h2, by rw [← h1, List.getElem?_eq_getElem h2]⟩)
  have hprs : Hid (prs K = r) := hr
  obtain ⟨hS, hkm, hlen⟩ := keep_mk hV (by omega) (by omega) (by omega)
  have hLm : mkL K y.length = L := hL.out
  rw [hLm] at hS hkm hlen
  rw [hKl] at hS hkm hlen
  clear hLm hV
  go_enter Try.func16, Try.ntmps16
  have HKM : Hid (keepL L x.length y.length = K) := hkm
  have HKL : Hid (K.length = x.length) := hKl
  have hLl : L.length ≤ 1048576 := by omega
  clear hkm hKl hlen
  go_wp2_with fail
  refine (Keep_ok L x.length y.length _ w hl hS (by omega) (by omega) hLl).mono ?_
  rintro e w1 ⟨v1, rfl, hv1, hB1⟩
  rw [HKM.out] at hv1
  obtain ⟨ko, kc, rfl⟩ := Holds.form hv1
  rw [HKL.out]
  have hv1' : HI w1 (.slice ko x.length kc) K := by have := hv1; rw [HKL.out] at this; exact this
  clear hv1
  go_wp2
  go_loopw [10, 11] (fun sv iv wr => ∃ (k s : Nat), k ≤ x.length ∧ s ≤ k ∧ sv = .int .i64 (s : Int) ∧ iv = .int .i64 (k : Int) ∧ Below w1.heap.size w1 wr ∧ Hid (prs (K.take k) = s)) (fun _ iv _ => x.length - (intOf iv).toNat)
  case atStart => exact ⟨0, 0, Nat.zero_le _, Nat.zero_le _, rfl, rfl, Below.refl _ _, rfl⟩
  case round =>
    obtain ⟨k, s, hk, hsk, rfl, rfl, hB, hP⟩ := hrel
    have hBw : Below w.heap.size w wr := hB1.trans (hB.mono hB1.size)
    by_cases hlt : k < x.length
    · have hkK : k < K.length := by have := HKL.out; omega
      obtain ⟨bk, ok, rfl, _, hck⟩ := HI.at (n := x.length) (HI.keep hv1' hB (Nat.le_refl _)) (by omega)
      obtain ⟨bx, ox, rfl, _, hcx⟩ := HI.at (HI.keep hx hBw (Nat.le_refl _)) (by omega)
      have d0 := hck k hkK
      have d1 := hcx k hlt
      have hps := prs_step K k hkK
      have hsm := hsame.out k
      rw [List.getElem?_eq_getElem hkK, List.getElem?_eq_getElem hlt] at hsm
      obtain ⟨z, hz⟩ : ∃ z, K[k] = z := ⟨_, rfl⟩
      obtain ⟨xk, hxk⟩ : ∃ z, x[k] = z := ⟨_, rfl⟩
      rw [hz] at d0 hps hsm
      rw [hxk] at d1 hsm
      clear hck hcx hz hxk
      have i1 : 0 ≤ (k : Int) := by omega
      have i2 : (k : Int) < (x.length : Int) := by omega
      by_cases hz0 : 0 ≤ z
      · obtain ⟨q, rfl⟩ := Int.eq_ofNat_of_zero_le hz0
        rw [if_pos hz0, hP.out] at hps
        have HPS : Hid (prs (K.take (k + 1)) = s + 1) := hps
        obtain ⟨c, h1, h2⟩ := hsm q rfl
        have hxc : xk = c := Option.some.inj h1
        subst hxc
        have hqy : q < y.length := (List.getElem?_eq_some_iff.1 h2).1
        obtain ⟨by', oy, rfl, _, hcy⟩ := HI.at (HI.keep hy hBw (Nat.le_refl _)) (by omega)
        have d2 := hcy q hqy
        rw [List.getElem?_eq_getElem hqy] at h2
        rw [Option.some.inj h2] at d2
        clear hsm h1 h2 hps hcy
        have i3 : (q : Int) < (y.length : Int) := by omega
        have i4 : ¬ (y.length : Int) ≤ (q : Int) := by omega
        have i5 : decide ((y.length : Int) ≤ (q : Int)) = false := decide_eq_false i4
        have i6 : 0 ≤ (q : Int) := by omega
        have i7 : decide (y.length ≤ q) = false := decide_eq_false (by omega)
        go_wp2_with fail
        go_big_quiet (fail)
        go_wp2
        go_roundw
        case rel => exact ⟨k + 1, s + 1, by omega, by omega, by go_num, by go_num, Below.dN hB _, HPS⟩
        case measure => simp [intOf]; omega
      · rw [if_neg hz0, hP.out] at hps
        have HPS : Hid (prs (K.take (k + 1)) = s) := (by show _ = _; omega)
        clear hsm hps
        go_wp2
        go_roundw
        case rel => exact ⟨k + 1, s, by omega, by omega, rfl, by go_num, hB, HPS⟩
        case measure => simp [intOf]; omega
    · have hsr : s = r := by rw [← hP.out, ← hprs.out, List.take_of_length_le (by have := HKL.out; omega)]
      subst hsr
      go_wp2
      go_ret2
      exact ⟨rfl, hBw⟩
end Go.Proofs.Yteplejpbgajecaa
