/-
  For every two texts of together at most 1048576 letters and values, the law LinesAgree returns true and leaves its arguments as they were: two texts are the same up to the byte that First tells, there they are not, and the order of the two does not matter. The condition is the statement's own bound on what comes in; nothing else is asked.
-/
import Derived.Test.YtfjcichcmdnheaaRows
import Derived.Test.YtfjcichcmdnheaaLnWorks
import Derived.Test.YtfjcichcmdnheaaLnLeaf
import Derived.ProofKit
import Derived.OpenShut
import Derived.JoinedCond
namespace Go.Proofs.Ytfjcichcmdnheaa.linesAgree
open Go.ChangeShapes Go.WideShapes Go.ChangeAt Go.RowKit
open Go.ChangeMaps (open_string shut_string)
open Ln
attribute [local go_sem] ba_at ByteArray.extract_mk

theorem own : ownKnob Try.prog.godebug = none := by kernel_rfl

theorem short2 {H : Type} {s q : ByteArray} (hk : Rows.uptoSmall H [.lit (.string s.data.toList), .lit (.string q.data.toList)] = true) : s.data.toList.length ≤ 1048576 ∧ q.data.toList.length ≤ 1048576 := by
  have h : Rows.uptoBulkAll [DataW.lit (H := H) (.string s.data.toList), .lit (.string q.data.toList)] ≤ 1048576 := of_decide_eq_true hk
  simp only [Rows.uptoBulkAll, Rows.uptoBulk] at h
  omega

theorem First_same (a : List UInt8) (w : World) (ha : a.length ≤ 1048576) :
    Calls Try.prog 20 #[.string ⟨a.toArray⟩, .string ⟨a.toArray⟩] w fun e w' => e = .returned (.tuple #[.int .i64 0, .int .i64 0, .bool false]) ∧ Below w.heap.size w w' := by
  refine (First_any a a w (by omega) (by omega)).mono ?_
  rintro e w1 ⟨rfl, hb⟩
  obtain ⟨e1, e2, e3⟩ := first_same a
  rw [e1, e2, e3]
  exact ⟨rfl, hb⟩
theorem First_diff (a b : List UInt8) (w : World) (ha : a.length ≤ 1048576) (hb : b.length ≤ 1048576) (h : a ≠ b) (c z : Nat) (hc : commonN a b = c) (hz : (a.take c).count 10 = z) :
    Calls Try.prog 20 #[.string ⟨a.toArray⟩, .string ⟨b.toArray⟩] w fun e w' => e = .returned (.tuple #[.int .i64 ((c : Int) + 1), .int .i64 ((z : Int) + 1), .bool true]) ∧ Below w.heap.size w w' := by
  refine (First_any a b w (by omega) (by omega)).mono ?_
  rintro e w1 ⟨rfl, hb⟩
  obtain ⟨e1, e2, e3⟩ := first_other h
  subst hc hz
  rw [e1, e2, e3]
  exact ⟨rfl, hb⟩

theorem split_each (l : List UInt8) : ∀ x ∈ splitL l, x.length ≤ l.length := by
  have hj : ∀ (ws : List (List UInt8)) (x : List UInt8), x ∈ ws → x.length ≤ ws.flatten.length := by
    intro ws x
    induction ws with
    | nil => simp
    | cons y t ih =>
      intro h
      simp only [List.mem_cons] at h
      simp only [List.flatten_cons, List.length_append]
      rcases h with rfl | h
      · omega
      · have := ih h; omega
  intro x hx
  have := hj _ x hx
  rw [split_join] at this
  exact this

theorem tail_facts (t : List UInt8) : (splitL t = [] ∧ t.count 10 = 0) ∨ (∃ p x, splitL t = p ++ [x] ∧ feedB x = true ∧ t.count 10 = p.length + 1 ∧ p.length + 1 ≤ t.length ∧ x.length ≤ t.length) ∨ (∃ p x, splitL t = p ++ [x] ∧ feedB x = false ∧ t.count 10 = p.length ∧ p.length + 1 ≤ t.length ∧ x.length ≤ t.length) := by
  have hcnt := split_count t
  by_cases h1 : splitL t = []
  · have h2 := split_nil h1
    subst h2
    exact .inl ⟨rfl, rfl⟩
  · have hl := split_last t h1
    have he := (List.dropLast_concat_getLast h1).symm
    have hx : ((splitL t).getLast h1).length ≤ t.length := split_each t _ (List.getLast_mem h1)
    have hn := split_len t
    generalize (splitL t).getLast h1 = x at *
    generalize (splitL t).dropLast = p at *
    have ht : t.isEmpty = false := by
      cases t with
      | nil => exact absurd rfl h1
      | cons c t => rfl
    rw [he] at hn
    rw [ht, he] at hcnt
    simp only [List.length_append, List.length_singleton] at hn hcnt
    cases hf : feedB t with
    | true => rw [hf] at hl hcnt; exact .inr (.inl ⟨p, x, he, hl, by simpa using hcnt, hn, hx⟩)
    | false => rw [hf] at hl hcnt; exact .inr (.inr ⟨p, x, he, hl, by simp at hcnt; omega, hn, hx⟩)

theorem srow_some {w : World} {v : Value} {ws : List (List UInt8)} (h : Srow w v ws) (h0 : 0 < ws.length) : ∃ b off cap, v = .slice (some ⟨b, off, none⟩) ws.length cap ∧ ∀ j (h : j < ws.length), w.cell? ⟨b, off + j, none⟩ = some (.string ⟨ws[j].toArray⟩) := by
  rcases h with ⟨h, _⟩ | h
  · rw [h] at h0; simp at h0
  · exact h

set_option maxHeartbeats 4000000 in
set_option maxRecDepth 100000 in
theorem walk_diff (a b : List UInt8) (w : World) (ha : a.length ≤ 1048576) (hb : b.length ≤ 1048576) (hne : a ≠ b) :
    Calls Try.prog 8 #[.string ⟨a.toArray⟩, .string ⟨b.toArray⟩] w fun e w' => e = .returned (.bool true) ∧ Below w.heap.size w w' := by
  obtain ⟨hc1, hc2⟩ := common_le a b
  have htk := common_take a b
  have hni := fun h1 h2 => common_ne a b h1 h2
  have hfull : ¬ (commonN a b = a.length ∧ commonN a b = b.length) := fun h => hne (common_full h.1 h.2)
  have hcm : commonN b a = commonN a b := common_comm b a
  generalize hc : commonN a b = c at *
  have hzb : (b.take c).count 10 = (a.take c).count 10 := by rw [htk]
  have hcnt := tail_facts (a.take c)
  have htl : (a.take c).length = c := by simp; omega
  rw [htl] at hcnt
  generalize hz : (a.take c).count 10 = z at *
  have hzl : z ≤ c := by
    have := List.count_le_length (a := (10 : UInt8)) (l := a.take c)
    rw [hz, htl] at this; exact this
  have HT : Hid (a.take c = b.take c) := htk
  have HNE : Hid (a ≠ b) := hne
  have HC : Hid (commonN a b = c) := hc
  have HCM : Hid (commonN b a = c) := hcm
  have HZ : Hid ((a.take c).count 10 = z) := hz
  have HZB : Hid ((b.take c).count 10 = z) := hzb
  clear hne hc hcm hz hzb
  have hab : (a.take c == b.take c) = true := by rw [htk]; exact beq_self_eq_true _
  have hab2 : (a.take c != b.take c) = false := by rw [htk]; exact bne_self_eq_false _
  clear htk
  go_enter Try.func8, Try.ntmps8
  go_wp2_with fail
  refine (works_any _).mono ?_
  rintro e w1 ⟨rfl, hb1⟩
  go_wp2_with fail
  refine (First_diff a b _ ha hb HNE.out c z HC.out HZ.out).mono ?_
  rintro e w2 ⟨rfl, hb2⟩
  have hbb2 := hb1.trans (hb2.mono hb1.size)
  go_wp2_with fail
  refine (First_diff b a _ hb ha (fun e => HNE.out e.symm) c z HCM.out HZB.out).mono ?_
  rintro e w3 ⟨rfl, hb3⟩
  have hbb3 := hbb2.trans (hb3.mono hbb2.size)
  clear hb1 hb2 hb3 hbb2
  have wr1 : IntKind.i64.wrap ((c : Int) + 1 - 1) = (c : Int) := by rw [wrap_i64 (by omega) (by omega)]; omega
  have wr2 : IntKind.i64.wrap ((a.length : Int) + 1) = (a.length : Int) + 1 := wrap_i64 (by omega) (by omega)
  have wr3 : IntKind.i64.wrap ((b.length : Int) + 1) = (b.length : Int) + 1 := wrap_i64 (by omega) (by omega)
  have wr4 : IntKind.i64.wrap (c : Int) = (c : Int) := wrap_i64 (by omega) (by omega)
  have g1 : decide ((c : Int) + 1 < 1) = false := decide_eq_false (by omega)
  have g2 : decide ((a.length : Int) + 1 < (c : Int) + 1) = false := decide_eq_false (by omega)
  have g3 : decide ((b.length : Int) + 1 < (c : Int) + 1) = false := decide_eq_false (by omega)
  have g2' : decide (a.length < c) = false := decide_eq_false (by omega)
  have g3' : decide (b.length < c) = false := decide_eq_false (by omega)
  have l1 : (c : Int) ≤ (a.length : Int) := by omega
  have l2 : (c : Int) ≤ (b.length : Int) := by omega
  have l0 : (0 : Int) ≤ (c : Int) := by omega
  by_cases h1 : c < a.length
  · by_cases h2 : c < b.length
    · have d1 := fun u => idx_str (P := Try.prog) 9 Try.underlying9 a c c h1 rfl u
      have d2 := fun u => idx_str (P := Try.prog) 9 Try.underlying9 b c c h2 rfl u
      have hd := (other_byte (hni h1 h2)).1
      have g4 : decide ((c : Int) + 1 ≤ (a.length : Int)) = true := decide_eq_true (by omega)
      have g4a : decide (c + 1 ≤ a.length) = true := decide_eq_true (by omega)
      have g4b : decide (c < a.length) = true := decide_eq_true (by omega)
      have g4c : decide ((c : Int) < (a.length : Int)) = true := decide_eq_true (by omega)
      have g5 : decide ((c : Int) + 1 ≤ (b.length : Int)) = true := decide_eq_true (by omega)
      have g5a : decide (c + 1 ≤ b.length) = true := decide_eq_true (by omega)
      have g5b : decide (c < b.length) = true := decide_eq_true (by omega)
      have g5c : decide ((c : Int) < (b.length : Int)) = true := decide_eq_true (by omega)
      have g6 : decide ((a.length : Int) < (c : Int) + 1) = false := decide_eq_false (by omega)
      have g6a : decide (a.length < c + 1) = false := decide_eq_false (by omega)
      have g6b : decide (a.length ≤ c) = false := decide_eq_false (by omega)
      have g6c : decide ((a.length : Int) ≤ (c : Int)) = false := decide_eq_false (by omega)
      clear hni hfull
      go_wp2_with fail
      go_big_quiet (fail)
      have hbq := below_drewN hbb3 nq
      generalize hwq : w3.drewN nq = wq at *
      clear hwq
      go_wp2_with fail
      refine (Split_any (a.take c) _ (by omega)).mono ?_
      rintro e w5 ⟨vx, rfl, hown, hb5⟩
      have hbb5 := hbq.trans (hb5.mono hbq.size)
      clear hbq hb5
      rcases hcnt with ⟨hL, hz0⟩ | ⟨p, x, hL, hf, hzn, hp, hxl⟩ | ⟨p, x, hL, hf, hzn, hp, hxl⟩
      · rw [hL] at hown
        obtain ⟨ao, cap, rfl⟩ := srow_nil (srow_of hown)
        clear hown hL
        subst hz0
        go_wp2
        go_ret
        exact ⟨rfl, hbb5⟩
      · rw [hL] at hown
        obtain ⟨b5, o5, cap, rfl, hcell⟩ := srow_some (srow_of hown) (by simp)
        have d1 : w5.cell? ⟨b5, o5 + p.length, none⟩ = some (.string ⟨x.toArray⟩) := by
          have := hcell p.length (by simp)
          simpa using this
        have hlen : (p ++ [x]).length = p.length + 1 := by simp
        rw [hlen]
        clear hown hcell hL hlen
        generalize p.length = m at *
        subst hzn
        go_wp2_with fail
        refine (Bare_any x _ (by omega)).mono ?_
        rintro e w6 ⟨rfl, rfl⟩
        rw [hf]
        go_wp2
        go_ret
        exact ⟨rfl, hbb5⟩
      · rw [hL] at hown
        obtain ⟨b5, o5, cap, rfl, hcell⟩ := srow_some (srow_of hown) (by simp)
        have d1 : w5.cell? ⟨b5, o5 + p.length, none⟩ = some (.string ⟨x.toArray⟩) := by
          have := hcell p.length (by simp)
          simpa using this
        have hlen : (p ++ [x]).length = p.length + 1 := by simp
        rw [hlen]
        clear hown hcell hL hlen
        generalize p.length = m at *
        subst hzn
        go_wp2_with fail
        refine (Bare_any x _ (by omega)).mono ?_
        rintro e w6 ⟨rfl, rfl⟩
        rw [hf]
        go_wp2
        go_ret
        exact ⟨rfl, hbb5⟩
    · have g4 : decide ((c : Int) + 1 ≤ (a.length : Int)) = true := decide_eq_true (by omega)
      have g4a : decide (c + 1 ≤ a.length) = true := decide_eq_true (by omega)
      have g4b : decide (c < a.length) = true := decide_eq_true (by omega)
      have g4c : decide ((c : Int) < (a.length : Int)) = true := decide_eq_true (by omega)
      have g5 : decide ((c : Int) + 1 ≤ (b.length : Int)) = false := decide_eq_false (by omega)
      have g5a : decide (c + 1 ≤ b.length) = false := decide_eq_false (by omega)
      have g5b : decide (c < b.length) = false := decide_eq_false (by omega)
      have g5c : decide ((c : Int) < (b.length : Int)) = false := decide_eq_false (by omega)
      have g6 : decide ((a.length : Int) < (c : Int) + 1) = false := decide_eq_false (by omega)
      have g6a : decide (a.length < c + 1) = false := decide_eq_false (by omega)
      have g6b : decide (a.length ≤ c) = false := decide_eq_false (by omega)
      have g6c : decide ((a.length : Int) ≤ (c : Int)) = false := decide_eq_false (by omega)
      clear hni hfull
      go_wp2_with fail
      go_big_quiet (fail)
      have hbq := below_drewN hbb3 nq
      generalize hwq : w3.drewN nq = wq at *
      clear hwq
      go_wp2_with fail
      refine (Split_any (a.take c) _ (by omega)).mono ?_
      rintro e w5 ⟨vx, rfl, hown, hb5⟩
      have hbb5 := hbq.trans (hb5.mono hbq.size)
      clear hbq hb5
      rcases hcnt with ⟨hL, hz0⟩ | ⟨p, x, hL, hf, hzn, hp, hxl⟩ | ⟨p, x, hL, hf, hzn, hp, hxl⟩
      · rw [hL] at hown
        obtain ⟨ao, cap, rfl⟩ := srow_nil (srow_of hown)
        clear hown hL
        subst hz0
        go_wp2
        go_ret
        exact ⟨rfl, hbb5⟩
      · rw [hL] at hown
        obtain ⟨b5, o5, cap, rfl, hcell⟩ := srow_some (srow_of hown) (by simp)
        have d1 : w5.cell? ⟨b5, o5 + p.length, none⟩ = some (.string ⟨x.toArray⟩) := by
          have := hcell p.length (by simp)
          simpa using this
        have hlen : (p ++ [x]).length = p.length + 1 := by simp
        rw [hlen]
        clear hown hcell hL hlen
        generalize p.length = m at *
        subst hzn
        go_wp2_with fail
        refine (Bare_any x _ (by omega)).mono ?_
        rintro e w6 ⟨rfl, rfl⟩
        rw [hf]
        go_wp2
        go_ret
        exact ⟨rfl, hbb5⟩
      · rw [hL] at hown
        obtain ⟨b5, o5, cap, rfl, hcell⟩ := srow_some (srow_of hown) (by simp)
        have d1 : w5.cell? ⟨b5, o5 + p.length, none⟩ = some (.string ⟨x.toArray⟩) := by
          have := hcell p.length (by simp)
          simpa using this
        have hlen : (p ++ [x]).length = p.length + 1 := by simp
        rw [hlen]
        clear hown hcell hL hlen
        generalize p.length = m at *
        subst hzn
        go_wp2_with fail
        refine (Bare_any x _ (by omega)).mono ?_
        rintro e w6 ⟨rfl, rfl⟩
        rw [hf]
        go_wp2
        go_ret
        exact ⟨rfl, hbb5⟩
  · have g4 : decide ((c : Int) + 1 ≤ (a.length : Int)) = false := decide_eq_false (by omega)
    have g4a : decide (c + 1 ≤ a.length) = false := decide_eq_false (by omega)
    have g4b : decide (c < a.length) = false := decide_eq_false (by omega)
    have g4c : decide ((c : Int) < (a.length : Int)) = false := decide_eq_false (by omega)
    have g6 : decide ((a.length : Int) < (c : Int) + 1) = true := decide_eq_true (by omega)
    have g6a : decide (a.length < c + 1) = true := decide_eq_true (by omega)
    have g6b : decide (a.length ≤ c) = true := decide_eq_true (by omega)
    have g6c : decide ((a.length : Int) ≤ (c : Int)) = true := decide_eq_true (by omega)
    have g7 : decide ((b.length : Int) < (c : Int) + 1) = false := decide_eq_false (by omega)
    have g7a : decide (b.length < c + 1) = false := decide_eq_false (by omega)
    have g7b : decide (b.length ≤ c) = false := decide_eq_false (by omega)
    have g7c : decide ((b.length : Int) ≤ (c : Int)) = false := decide_eq_false (by omega)
    clear hni hfull
    go_wp2_with fail
    go_big_quiet (fail)
    have hbq := below_drewN hbb3 nq
    generalize hwq : w3.drewN nq = wq at *
    clear hwq
    go_wp2_with fail
    refine (Split_any (a.take c) _ (by omega)).mono ?_
    rintro e w5 ⟨vx, rfl, hown, hb5⟩
    have hbb5 := hbq.trans (hb5.mono hbq.size)
    clear hbq hb5
    rcases hcnt with ⟨hL, hz0⟩ | ⟨p, x, hL, hf, hzn, hp, hxl⟩ | ⟨p, x, hL, hf, hzn, hp, hxl⟩
    · rw [hL] at hown
      obtain ⟨ao, cap, rfl⟩ := srow_nil (srow_of hown)
      clear hown hL
      subst hz0
      go_wp2
      go_ret
      exact ⟨rfl, hbb5⟩
    · rw [hL] at hown
      obtain ⟨b5, o5, cap, rfl, hcell⟩ := srow_some (srow_of hown) (by simp)
      have d1 : w5.cell? ⟨b5, o5 + p.length, none⟩ = some (.string ⟨x.toArray⟩) := by
        have := hcell p.length (by simp)
        simpa using this
      have hlen : (p ++ [x]).length = p.length + 1 := by simp
      rw [hlen]
      clear hown hcell hL hlen
      generalize p.length = m at *
      subst hzn
      go_wp2_with fail
      refine (Bare_any x _ (by omega)).mono ?_
      rintro e w6 ⟨rfl, rfl⟩
      rw [hf]
      go_wp2
      go_ret
      exact ⟨rfl, hbb5⟩
    · rw [hL] at hown
      obtain ⟨b5, o5, cap, rfl, hcell⟩ := srow_some (srow_of hown) (by simp)
      have d1 : w5.cell? ⟨b5, o5 + p.length, none⟩ = some (.string ⟨x.toArray⟩) := by
        have := hcell p.length (by simp)
        simpa using this
      have hlen : (p ++ [x]).length = p.length + 1 := by simp
      rw [hlen]
      clear hown hcell hL hlen
      generalize p.length = m at *
      subst hzn
      go_wp2_with fail
      refine (Bare_any x _ (by omega)).mono ?_
      rintro e w6 ⟨rfl, rfl⟩
      rw [hf]
      go_wp2
      go_ret
      exact ⟨rfl, hbb5⟩

set_option maxHeartbeats 1000000 in
theorem walk_same (a : List UInt8) (w : World) (ha : a.length ≤ 1048576) :
    Calls Try.prog 8 #[.string ⟨a.toArray⟩, .string ⟨a.toArray⟩] w fun e w' => e = .returned (.bool true) ∧ Below w.heap.size w w' := by
  go_enter Try.func8, Try.ntmps8
  go_wp2_with fail
  refine (works_any _).mono ?_
  rintro e w1 ⟨rfl, hb1⟩
  go_wp2_with fail
  refine (First_same a _ ha).mono ?_
  rintro e w2 ⟨rfl, hb2⟩
  have hbb2 := hb1.trans (hb2.mono hb1.size)
  go_wp2_with fail
  refine (First_same a _ ha).mono ?_
  rintro e w3 ⟨rfl, hb3⟩
  have hbb3 := hbb2.trans (hb3.mono hbb2.size)
  go_wp2
  go_ret
  exact ⟨rfl, hbb3⟩

theorem walk (a b : List UInt8) (w : World) (ha : a.length ≤ 1048576) (hb : b.length ≤ 1048576) :
    Calls Try.prog 8 #[.string ⟨a.toArray⟩, .string ⟨b.toArray⟩] w fun e w' => e = .returned (.bool true) ∧ Below w.heap.size w w' := by
  by_cases h : a = b
  · subst h; exact walk_same a w ha
  · exact walk_diff a b w ha hb h

theorem contract (H : Type) (enc : TypeId × Value → H) (W : World) (base : Nat) (args : Array Value) (ds gs : List (DataW H)) (before : List MemPlace)
    (hval : ∀ (j : Nat) t v, Try.f8.params[j]? = some t → args[j]? = some v → Value.okWide Try.prog W .any base t v)
    (hW : DataW.Whole enc Try.prog Try.f8.params.toList Rows.linesAgreeSpec.vars false W args.toList ds gs before) (hk : Rows.uptoSmall H (ds ++ gs) = true) :
    Calls Try.prog 8 args W fun e W' => ∃ v, e = .returned v ∧ Rows.linesAgreeSpec.post enc Try.prog Try.f8 false true false false W args v W' := by
  have hW' := hW
  obtain ⟨p, q, hA0, hV, rfl, hfz, hnd⟩ := hW
  have hA : DataW.TrodAll enc Try.prog W 0 (fun _ => true) true Try.f8.params.toList args.toList ds p := hA0
  rw [Try.params8] at hA hval
  obtain ⟨v0, vs0, d0, ds0, p0, q0, hargs, rfl, rfl, h0, r0⟩ := trodAll_cons hA
  obtain ⟨v1, vs1, d1, ds1, p1, q1, rfl, rfl, rfl, h1, r1⟩ := trodAll_cons r0
  obtain ⟨rfl, rfl, rfl⟩ := trodAll_nil r1
  obtain rfl : args = #[v0, v1] := by cases args; simp_all
  obtain ⟨rfl, rfl⟩ := trodVars_none hV
  obtain ⟨a0, rfl, rfl, rfl, w0⟩ := open_string Try.underlying9 (hval 0 9 v0 rfl rfl) h0
  obtain ⟨a1, rfl, rfl, rfl, w1⟩ := open_string Try.underlying9 (hval 1 9 v1 rfl rfl) h1
  clear hA0
  simp only [List.append_nil] at hW' hk
  obtain ⟨s0, s1⟩ := short2 hk
  have hw := walk a0.data.toList a1.data.toList W s0 s1
  refine hw.mono fun e W' ⟨he, hg⟩ => ?_
  subst he
  exact ⟨_, rfl, _, _, _, [], _, [], hW', trodAll_mk1 (shut_bool Try.underlying4 _), trodAll_cons_mk (shut_string Try.underlying9 w0) (trodAll_cons_mk (shut_string Try.underlying9 w1) trodAll_mk0), rfl, hg.frame _, fun h => by cases h⟩

set_option maxRecDepth 100000 in
theorem lifted (os : Os) (started : os.Started) (H : Type) (enc : TypeId × Value → H) (F : Stop.Interp) :
    ReturnsInHanded {} Try.checked os 8 .any ((Rows.OpenSpec.upto Rows.linesAgreeSpec).pre6 enc Try.prog Try.f8 Rows.linesAgreeUptoRow.domain false) (((Rows.OpenSpec.upto Rows.linesAgreeSpec).at F).post enc Try.prog Try.f8 false true false false) := by
  refine returnsInHanded_of_cond (C := Try.checked) (s := Rows.OpenSpec.upto Rows.linesAgreeSpec) (k := Rows.uptoSmall) rfl own started (by kernel_rfl) Try.func8
    (OpenSpec.witness (enc := enc) (C := Try.checked) (s := Rows.OpenSpec.upto Rows.linesAgreeSpec) (k := Rows.uptoSmall) rfl false ⟨#[], #[.string .empty, .string .empty], []⟩ 8 (by kernel_rfl) (by kernel_rfl) (by kernel_rfl)
      (x := ([.lit (.string []), .lit (.string [])], [], [])) (by kernel_rfl) rfl (by kernel_rfl)) ?_
  intro W base args ds gs before hval hW _ hk _
  exact contract H enc W base args ds gs before hval hW hk

theorem proved : Rows.LinesAgreeUptoSaid :=
  OpenClaim.holds_of_cond 8 Try.f8 rfl rfl rfl rfl rfl rfl rfl ⟨rfl, rfl, rfl, rfl, rfl⟩ rfl rfl rfl rfl rfl (by kernel_rfl) Try.func8 (by kernel_rfl)
    (of_decide_eq_true (by kernel_rfl)) (by unfold Func.isWrapper; first | (rw [if_pos (by decide +kernel)]; kernel_rfl) | (rw [if_neg (by decide +kernel)]; exact ⟨rfl, rfl⟩))
    (fun os started H enc _ F => lifted os started H enc F)
#print axioms proved
end Go.Proofs.Ytfjcichcmdnheaa.linesAgree
