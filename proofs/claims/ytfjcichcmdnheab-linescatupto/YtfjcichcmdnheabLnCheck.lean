/-
  Check of layer lines, walked at any slice of texts: what it tells is what the plain function checkE says; it only reads.
-/
import Derived.Test.YtfjcichcmdnheabLnByte
import Derived.Test.YtfjcichcmdnheabLnRow
namespace Go.Proofs.Ytfjcichcmdnheab
open Ln Go.RowKit
attribute [local go_sem] ba_at ByteArray.extract_mk

set_option maxHeartbeats 1000000 in
theorem isLine_any (l : List UInt8) (last : Bool) (w : World) (hl : l.length ≤ 1099511627776) :
    Calls Try.prog 12 #[.string ⟨l.toArray⟩, .bool last] w fun e w' => e = .returned (.bool (lineB l last)) ∧ w = w' := by
  rcases Int.lt_or_le (Lib.indexByte l 10) 0 with hq | hq
  · obtain ⟨q1, q2⟩ := index_none hq
    have HE : Hid (lineB l last = (last && !l.isEmpty)) := lineB_all q2 last
    clear hq q2
    go_enter Try.func12, Try.ntmps12
    go_wp2_with fail
    refine (Try.strings_Index_one ⟨l.toArray⟩ 10 _).mono ?_
    rintro e w1 ⟨rfl, rfl⟩
    have hi2 : Lib.indexByte (⟨l.toArray⟩ : ByteArray).data.toList 10 = -1 := q1
    rw [hi2]
    cases last with
    | false =>
      go_wp2
      go_ret
      rw [HE.out]
      exact ⟨rfl, rfl⟩
    | true =>
      cases l with
      | nil =>
        go_wp2
        go_ret
        rw [HE.out]
        exact ⟨rfl, rfl⟩
      | cons c t =>
        go_wp2
        go_ret
        rw [HE.out]
        exact ⟨rfl, rfl⟩
  · obtain ⟨a, b, he, hn, hi⟩ := index_some hq
    have HE : Hid (lineB l last = b.isEmpty) := by
      show _ = _
      rw [he]; exact lineB_cut hn last
    have hlen : l.length = a.length + 1 + b.length := by rw [he]; simp; omega
    clear hn hq he
    go_enter Try.func12, Try.ntmps12
    go_wp2_with fail
    refine (Try.strings_Index_one ⟨l.toArray⟩ 10 _).mono ?_
    rintro e w1 ⟨rfl, rfl⟩
    have hi2 : Lib.indexByte (⟨l.toArray⟩ : ByteArray).data.toList 10 = a.length := hi
    rw [hi2]
    cases b with
    | nil =>
      have hb : ((a.length : Int) == (l.length : Int) - 1) = true := by simp at hlen; simp; omega
      clear hlen
      go_wp2
      go_ret
      rw [HE.out]
      exact ⟨rfl, rfl⟩
    | cons c t =>
      have hb : ((a.length : Int) == (l.length : Int) - 1) = false := by simp at hlen; rw [beq_eq_false_iff_ne]; omega
      clear hlen
      go_wp2
      go_ret
      rw [HE.out]
      exact ⟨rfl, rfl⟩

theorem check_no {ws : List (List UInt8)} {x : List UInt8} {t : List (List UInt8)} {last : Bool} (h : checkB ws = checkB (x :: t)) (hl : last = t.isEmpty) (hx : lineB x last = false) : checkE ws = 6 := by
  unfold checkE
  rw [h]
  simp [checkB, ← hl, hx]
theorem check_go {ws : List (List UInt8)} {x : List UInt8} {t : List (List UInt8)} {last : Bool} (h : checkB ws = checkB (x :: t)) (hl : last = t.isEmpty) (hx : lineB x last = true) : checkB ws = checkB t := by
  rw [h]
  simp [checkB, ← hl, hx]
theorem check_end {ws : List (List UInt8)} (h : checkB ws = checkB []) : checkE ws = 0 := by
  unfold checkE; rw [h]; rfl
theorem drop_isEmpty {ws : List (List UInt8)} {k : Nat} (hk : k < ws.length) : (ws.drop (k + 1)).isEmpty = ((k : Int) == (ws.length : Int) - 1) := by
  rw [Bool.eq_iff_iff, List.isEmpty_iff, List.drop_eq_nil_iff, beq_iff_eq]; omega
theorem ret_e {a b : Int} (h : a = b) : Ending.returned (.int .i64 b) = .returned (.int .i64 a) := by rw [h]

/-- the slice of an empty list -/
theorem srow_nil {w : World} {v : Value} (h : Srow w v []) : ∃ ao cap, v = .slice ao 0 cap := by
  rcases h with ⟨_, h⟩ | ⟨b, off, cap, h, _⟩
  · exact h
  · exact ⟨_, _, h⟩

set_option maxHeartbeats 1000000 in
theorem Check_any (v : Value) (ws : List (List UInt8)) (w : World) (hl : ws.length ≤ 1099511627776) (he : ∀ a ∈ ws, a.length ≤ 1099511627776) (hv : Srow w v ws) :
    Calls Try.prog 8 #[v] w fun e w' => e = .returned (.int .i64 (checkE ws)) ∧ w = w' := by
  cases hws : ws with
  | nil =>
    subst hws
    obtain ⟨ao, cap, rfl⟩ := srow_nil hv
    go_enter Try.func8, Try.ntmps8
    go_wp2
    refine wp_loop_rounds 1 ?_
    rw [rounds_succ]
    go_wp2
    go_ret
    exact ⟨rfl, rfl⟩
  | cons x xs =>
    have hne : ws ≠ [] := by rw [hws]; simp
    rw [← hws]
    clear hws
    rcases hv with ⟨h, _⟩ | ⟨b1, o1, c1, rfl, hc1⟩
    · exact absurd h hne
    have HC : Hid (∀ j (h : j < ws.length), w.cell? ⟨b1, o1 + j, none⟩ = some (.string ⟨ws[j].toArray⟩)) := hc1
    have HL : Hid (∀ a ∈ ws, a.length ≤ 1099511627776) := he
    clear hc1 he
    go_enter Try.func8, Try.ntmps8
    go_wp2
    go_loopw [3, 4, 7] (fun _ _ i wr => ∃ k : Nat, k ≤ ws.length ∧ i = .int .i64 k ∧ wr = w ∧ Hid (checkB ws = checkB (ws.drop k))) (fun _ _ i _ => ws.length - (intOf i).toNat)
    case atStart => exact ⟨0, Nat.zero_le _, rfl, rfl, rfl⟩
    case round =>
      obtain ⟨k, hk, rfl, rfl, HR⟩ := hrel
      by_cases hlt : k < ws.length
      · have d1 := HC.out k hlt
        have hxl := HL.out ws[k] (List.getElem_mem hlt)
        have i1 : 0 ≤ (k : Int) := by omega
        have i2 : (k : Int) < (ws.length : Int) := by omega
        have HD : Hid (checkB ws = checkB (ws[k] :: ws.drop (k + 1))) := by
          have := HR.out
          rw [List.drop_eq_getElem_cons hlt] at this
          exact this
        have HM := drop_isEmpty hlt
        generalize hq : ((k : Int) == (ws.length : Int) - 1) = q at *
        generalize ws[k] = x at *
        go_wp2_with fail
        refine (isLine_any x q _ hxl).mono ?_
        rintro e w1 ⟨rfl, rfl⟩
        cases hx : lineB x q with
        | false =>
          have HE : Hid (checkE ws = 6) := check_no HD.out HM.symm hx
          go_wp2
          go_ret
          exact ⟨ret_e HE.out, rfl⟩
        | true =>
          have HE : Hid (checkB ws = checkB (ws.drop (k + 1))) := check_go HD.out HM.symm hx
          go_wp2
          go_roundw
          case rel => exact ⟨k + 1, by omega, by go_num, by trivial, HE⟩
          case measure => simp [intOf]; omega
      · have HE : Hid (checkE ws = 0) := check_end (by rw [HR.out, List.drop_of_length_le (by omega)])
        go_wp2
        go_ret
        exact ⟨ret_e HE.out, rfl⟩

end Go.Proofs.Ytfjcichcmdnheab
