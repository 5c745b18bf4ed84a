/-
  Check of the reference, walked at any slice of texts: what it tells is what the plain function checkE says; it only reads.
-/
import Derived.Test.YtfjcichcmdnheaaLnCheck
namespace Go.Proofs.Ytfjcichcmdnheaa
open Ln Go.RowKit
attribute [local go_sem] ba_at ByteArray.extract_mk

theorem lineB_drop_feed {x : List UInt8} {m : Nat} {last : Bool} (h : lineB x last = lineB (x.drop m) last) (hm : m + 1 < x.length) (h10 : x[m] = 10) : lineB x last = false := by
  rw [h, List.drop_eq_getElem_cons (by omega), lineB_cons _ _ _ (by intro e; have := congrArg List.length e; simp at this; omega), h10]; rfl
theorem lineB_drop_next {x : List UInt8} {m : Nat} {last : Bool} (h : lineB x last = lineB (x.drop m) last) (hm : m + 1 < x.length) (h10 : x[m] ≠ 10) : lineB x last = lineB (x.drop (m + 1)) last := by
  rw [h, List.drop_eq_getElem_cons (by omega), lineB_cons _ _ _ (by intro e; have := congrArg List.length e; simp at this; omega)]
  simp [h10]
theorem lineB_drop_last {x : List UInt8} {m : Nat} {last : Bool} (h : lineB x last = lineB (x.drop m) last) (hm : m + 1 = x.length) : lineB x last = (last || x[m] == 10) := by
  rw [h, List.drop_eq_getElem_cons (by omega), List.drop_of_length_le (by omega)]; rfl

set_option maxHeartbeats 4000000 in
theorem refCheck_any (v : Value) (ws : List (List UInt8)) (w : World) (hl : ws.length ≤ 1099511627776) (he : ∀ a ∈ ws, a.length ≤ 1099511627776) (hv : Srow w v ws) :
    Calls Try.prog 15 #[v] w fun e w' => e = .returned (.int .i64 (checkE ws)) ∧ ∃ n, w' = w.drewN n := by
  cases hws : ws with
  | nil =>
    subst hws
    obtain ⟨ao, cap, rfl⟩ := srow_nil hv
    go_enter Try.func15, Try.ntmps15
    go_wp2
    refine wp_loop_rounds 1 ?_
    rw [rounds_succ]
    go_wp2
    go_ret
    exact ⟨rfl, 0, rfl⟩
  | cons x xs =>
    have hne : ws ≠ [] := by rw [hws]; simp
    rw [← hws]
    clear hws
    rcases hv with ⟨h, _⟩ | ⟨b1, o1, c1, rfl, hc1⟩
    · exact absurd h hne
    have HC : Hid (∀ j (h : j < ws.length), w.cell? ⟨b1, o1 + j, none⟩ = some (.string ⟨ws[j].toArray⟩)) := hc1
    have HL : Hid (∀ a ∈ ws, a.length ≤ 1099511627776) := he
    clear hc1 he
    go_enter Try.func15, Try.ntmps15
    go_wp2
    go_loopw [3, 4] (fun i _ wr => ∃ k n : Nat, k ≤ ws.length ∧ i = .int .i64 k ∧ wr = w.drewN n ∧ Hid (checkB ws = checkB (ws.drop k))) (fun i _ _ => ws.length - (intOf i).toNat)
    case atStart => exact ⟨0, 0, Nat.zero_le _, rfl, rfl, rfl⟩
    case round =>
      obtain ⟨k, n, hk, rfl, rfl, HR⟩ := hrel
      by_cases hlt : k < ws.length
      · have d1 := HC.out k hlt
        have hxl := HL.out ws[k] (List.getElem_mem hlt)
        have i1 : 0 ≤ (k : Int) := by omega
        have i2 : (k : Int) < (ws.length : Int) := by omega
        have HD : Hid (checkB ws = checkB (ws[k] :: ws.drop (k + 1))) := by
          have := HR.out
          rw [List.drop_eq_getElem_cons hlt] at this
          exact this
        have HM : Hid ((ws.drop (k + 1)).isEmpty = ((k : Int) == (ws.length : Int) - 1)) := drop_isEmpty hlt
        generalize hx : ws[k] = x at *
        have hq : ∃ q : Bool, q = ((k : Int) == (ws.length : Int) - 1) := ⟨_, rfl⟩
        obtain ⟨q, hq⟩ := hq
        have HQ : Hid (q = (ws.drop (k + 1)).isEmpty) := hq.trans HM.out.symm
        go_wp2
        go_loopw [4] (fun j wr => ∃ m : Nat, (m + 1 ≤ x.length ∨ x.length = 0 ∧ m = 0) ∧ j = .int .i64 m ∧ wr = w.drewN n ∧ Hid (lineB x q = lineB (x.drop m) q)) (fun j _ => x.length - (intOf j).toNat)
        case atStart => exact ⟨0, by omega, rfl, rfl, rfl⟩
        case round =>
          obtain ⟨m, hm, rfl, rfl, HI⟩ := hrel
          by_cases hml : m + 1 < x.length
          · have j1 : (m : Int) < (x.length : Int) - 1 := by omega
            by_cases h10 : x[m] = 10
            · have hb := (is10 h10).1
              have HE : Hid (checkE ws = 6) := check_no HD.out HQ.out (lineB_drop_feed HI.out hml h10)
              clear h10
              go_wp2
              go_ret
              exact ⟨ret_e HE.out, _, rfl⟩
            · have hb := (not10 h10).1
              have HE : Hid (lineB x q = lineB (x.drop (m + 1)) q) := lineB_drop_next HI.out hml h10
              clear h10
              go_wp2
              go_roundw
              case rel => exact ⟨m + 1, by omega, by go_num, by trivial, HE⟩
              case measure => simp [intOf]; omega
          · have j1 : ¬ (m : Int) < (x.length : Int) - 1 := by omega
            have wr1 : IntKind.i64.wrap ((ws.length : Int) - 1) = (ws.length : Int) - 1 := wrap_i64 (by omega) (by omega)
            have wr2 : IntKind.i64.wrap ((x.length : Int) - 1) = (x.length : Int) - 1 := wrap_i64 (by omega) (by omega)
            rcases Nat.eq_zero_or_pos x.length with h0 | h0
            · have hb0 : ((x.length : Int) == 0) = true := by rw [beq_iff_eq]; omega
              have HE : Hid (checkE ws = 6) := check_no HD.out HQ.out (by rw [List.eq_nil_of_length_eq_zero h0]; rfl)
              clear h0 hm
              go_wp2_with fail
              go_quiet (fail)
              go_wp2
              go_ret
              exact ⟨ret_e HE.out, _, World.drewN_drewN ..⟩
            · have hb0 : ((x.length : Int) == 0) = false := by rw [beq_eq_false_iff_ne]; omega
              have hme : m + 1 = x.length := by omega
              have HV := lineB_drop_last HI.out hme
              have hix := fun u => idx_str (P := Try.prog) 9 Try.underlying9 x ((x.length : Int) - 1) m (by omega) (by omega) u
              by_cases hlast : k + 1 = ws.length
              · have k1 : decide ((k : Int) < (ws.length : Int) - 1) = false := decide_eq_false (by omega)
                have hq1 : q = true := by rw [hq]; simp; omega
                have HE : Hid (checkB ws = checkB (ws.drop (k + 1))) := check_go HD.out HQ.out (by rw [HV, hq1]; rfl)
                clear HV hlast
                go_wp2_with fail
                go_quiet (fail)
                go_wp2
                go_roundw
                case rel => exact ⟨k + 1, _, by omega, by go_num, rfl, HE⟩
                case measure => simp [intOf]; omega
              · have k1 : (k : Int) < (ws.length : Int) - 1 := by omega
                have hq1 : q = false := by rw [hq, beq_eq_false_iff_ne]; omega
                by_cases h10 : x[m] = 10
                · have hb := (is10 h10).2
                  have HE : Hid (checkB ws = checkB (ws.drop (k + 1))) := check_go HD.out HQ.out (by rw [HV, h10]; simp)
                  clear HV h10
                  go_wp2_with fail
                  go_quiet (fail)
                  go_wp2
                  go_roundw
                  case rel => exact ⟨k + 1, _, by omega, by go_num, rfl, HE⟩
                  case measure => simp [intOf]; omega
                · have hb := (not10 h10).2
                  have HE : Hid (checkE ws = 6) := check_no HD.out HQ.out (by rw [HV, hq1]; simp [h10])
                  clear HV h10
                  go_wp2_with fail
                  go_quiet (fail)
                  go_wp2
                  go_ret
                  exact ⟨ret_e HE.out, _, World.drewN_drewN ..⟩
      · have HE : Hid (checkE ws = 0) := check_end (by rw [HR.out, List.drop_of_length_le (by omega)])
        go_wp2
        go_ret
        exact ⟨ret_e HE.out, _, rfl⟩
end Go.Proofs.Ytfjcichcmdnheaa
