/-
  Texts that belong together, joined: MiWm.
-/
import Derived.Test.YtoacmaloiaeniabPartA3

/- Which rows are the same, told by the script; SameInts of any two rows, walked. -/
namespace Go.Proofs.Ytoacmaloiaeniab
open Go.RowKit

theorem kp_self (b : Int) (x : List Int) : kp b x x = (List.range x.length).map fun (j : Nat) => b + (j : Int) := by
  induction x generalizing b with
  | nil => rw [kp_nil]; rfl
  | cons a x ih =>
    rw [kp_cons, if_pos rfl, ih, List.length_cons, List.range_succ_eq_map, List.map_cons, List.map_map]
    simp
    intro j _
    omega
theorem mk_nil (x y : List Int) (hx : x.length ≤ 4096) (hy : y.length ≤ 4096) : mkL (kp 0 x y) y.length = [] ↔ x = y := by
  constructor
  · intro h
    have hv : Vk 0 (y.length : Int) (kp 0 x y) := by
      have := kp_vk 0 x y (Int.le_refl _)
      rwa [Int.zero_add] at this
    have hl := kp_length 0 x y
    obtain ⟨⟨_, _, hS⟩, hU⟩ := mk_script hv (by omega) (by omega) (by rw [hl]; omega)
    rw [h] at hS hU
    rw [U_nil] at hU
    have hnm : x.length = y.length := by
      have h1 := hS.2.2
      rw [hl] at h1
      omega
    apply List.ext_getElem hnm
    intro i h1 h2
    have hm : (⟨(i : Int), (i : Int), 1⟩ : Rn) ∈ keptR 0 (kp 0 x y) := by
      rw [← hU, mem_un]
      rw [hl]
      refine ⟨rfl, ?_, ?_, ?_⟩ <;> dsimp only <;> omega
    rw [mem_keptR] at hm
    obtain ⟨_, _, h3, _⟩ := hm
    dsimp only at h3
    rw [show ((i : Int) - 0).toNat = i by omega] at h3
    obtain ⟨_, c, h4, h5⟩ := kp_same 0 x y (Int.le_refl _) i i h3 (by omega)
    rw [show ((i : Int) - 0).toNat = i by omega] at h5
    rw [List.getElem?_eq_getElem h1] at h4
    rw [List.getElem?_eq_getElem h2] at h5
    rw [Option.some.inj h4, Option.some.inj h5]
  · rintro rfl
    unfold mkL
    rw [kp_self, keptR_run 0 0 (Int.le_refl _), betw_un]
    simp [betw]
theorem gr_step (x y : List Int) (j i : Nat) (hj : j < x.length) (hi : i < y.length) : gr (x.drop j) (y.drop i) = if x[j] = y[i] then gr (x.drop (j + 1)) (y.drop (i + 1)) + 1 else gr (x.drop j) (y.drop (i + 1)) := by
  rw [List.drop_eq_getElem_cons hj, List.drop_eq_getElem_cons hi, gr]
theorem gr_end (x y : List Int) (j i : Nat) (h : x.length ≤ j ∨ y.length ≤ i) : gr (x.drop j) (y.drop i) = 0 := by
  rcases h with h | h
  · rw [List.drop_of_length_le h]; cases y.drop i <;> rfl
  · rw [List.drop_of_length_le h]; cases x.drop j <;> rfl

set_option maxHeartbeats 1000000 in
theorem SameI_dec (va vb : Value) (a b : List Int) (w : World) (ha : HI w va a) (hb : HI w vb b) (ha' : a.length ≤ 1048576) (r : Bool) (hr : Hid (r = decide (a = b))) :
    Calls Try.prog 14 #[va, vb] w fun e w' => e = .returned (.bool r) ∧ Below w.heap.size w w' := by
  obtain ⟨ao, ca, rfl⟩ := Holds.form ha
  obtain ⟨bo, cb, rfl⟩ := Holds.form hb
  by_cases hl : a.length = b.length
  · have HB : Hid (HI w (.slice bo b.length cb) b) := hb
    rw [← hl] at hb
    have HL : Hid (a.length = b.length) := hl
    go_enter Try.func14, Try.ntmps14
    rw [← hl]
    clear hl
    go_wp2
    go_loopw [5] (fun i wr => ∃ k m : Nat, k ≤ a.length ∧ i = .int .i64 k ∧ wr = w.drewN m ∧ Hid (a.take k = b.take k)) (fun i _ => a.length - (intOf i).toNat)
    case atStart => exact ⟨0, 0, Nat.zero_le _, rfl, rfl, (by show _ = _; simp)⟩
    case round =>
      obtain ⟨k, m, hk, rfl, rfl, hT⟩ := hrel
      by_cases hlt : k < a.length
      · have hlt' : k < b.length := by have := HL.out; omega
        obtain ⟨b1, o1, rfl, _, hc1⟩ := HI.at ha (by omega)
        obtain ⟨b2, o2, rfl, _, hc2⟩ := HI.at (n := a.length) hb (by omega)
        have d1 := hc1 k hlt
        have d2 := hc2 k hlt'
        have HT : Hid (a.take (k + 1) = a.take k ++ [a[k]] ∧ b.take (k + 1) = b.take k ++ [b[k]]) := ⟨List.take_succ_eq_append_getElem hlt, List.take_succ_eq_append_getElem hlt'⟩
        have HNE : Hid (a[k] ≠ b[k] → a ≠ b) := (by
          show _ → _
          intro h e
          subst e
          exact h rfl)
        obtain ⟨xk, hxk⟩ : ∃ z, a[k] = z := ⟨_, rfl⟩
        obtain ⟨yk, hyk⟩ : ∃ z, b[k] = z := ⟨_, rfl⟩
        rw [hxk] at d1 HT HNE
        rw [hyk] at d2 HT HNE
        clear hc1 hc2 hxk hyk
        have i1 : 0 ≤ (k : Int) := by omega
        have i2 : (k : Int) < (a.length : Int) := by omega
        by_cases hxy : xk = yk
        · have HT2 : Hid (a.take (k + 1) = b.take (k + 1)) := (by show _ = _; rw [HT.out.1, HT.out.2, hT.out, hxy])
          go_wp2_with fail
          go_quiet (fail)
          go_wp2
          go_roundw
          case rel => exact ⟨k + 1, _, by omega, by go_num, rfl, HT2⟩
          case measure => simp [intOf]; omega
        · have hxy' : decide (xk = yk) = false := decide_eq_false hxy
          obtain rfl : r = false := by rw [hr.out]; exact decide_eq_false (HNE.out hxy)
          go_wp2_with fail
          go_quiet (fail)
          go_wp2
          go_ret
          exact ⟨rfl, Below.dN (Below.dN (Below.refl _ w) _) _⟩
      · obtain rfl : r = true := by
          rw [hr.out]
          apply decide_eq_true
          have h := hT.out
          rw [List.take_of_length_le (by omega), List.take_of_length_le (by have := HL.out; omega)] at h
          exact h
        go_wp2
        go_ret
        exact ⟨rfl, Below.dN (Below.refl _ w) _⟩
  · obtain rfl : r = false := by
      rw [hr.out]
      exact decide_eq_false (fun e => hl (by rw [e]))
    have hl' : ¬ (a.length : Int) = (b.length : Int) := by omega
    have hl2 : decide ((a.length : Int) = (b.length : Int)) = false := decide_eq_false hl'
    go_enter Try.func14, Try.ntmps14
    go_wp2
    go_ret
    exact ⟨rfl, Below.refl _ _⟩
end Go.Proofs.Ytoacmaloiaeniab
