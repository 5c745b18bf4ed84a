/-
  slices.Replace by one pair in a row of pairs, walked.
-/
import Derived.Test.YtppdcjjkkckokaaPaIn
namespace Go.Proofs.Ytppdcjjkkckokaa
open Go.RowKit

theorem Insert_f (h : List Pr) (p : Pr) (i gp base : Nat) (v : Value) (w : World) (hO : w.ownsRow base 44 2 v h.length (prcells h)) (hb : base ≤ w.heap.size) (hi : i ≤ h.length) (hp : Blk w gp (prC p)) (hne : v.ownBlock ≠ some gp) (hl : h.length ≤ 1048576) :
    Calls Try.prog 80 #[v, .int .i64 (i : Int), .slice (some ⟨gp, 0, none⟩) 1 1] w fun e w' => ∃ v', e = .returned v' ∧ Grows base w v v' (h.take i ++ p :: h.drop i) w' := by
  by_cases hin : i = h.length
  · have e : h.take i ++ p :: h.drop i = h ++ [p] := by subst hin; simp
    rw [e, hin]
    exact Insert_end h p v gp base w hO hb hp hl
  · obtain ⟨g, cap, cur, rfl, q2, q3, q4, q5, q6, q7⟩ := row_blk hO (by omega)
    by_cases hroom : h.length + 1 ≤ cap
    · exact Insert_room h p h.length i g cap gp base rfl cur w q3 q2 (by omega) hroom q5 q6 q7 hp (fun e => hne (by rw [e]; rfl)) hl
    · obtain rfl : cap = h.length := by omega
      exact Insert_grow h p h.length i g gp base rfl cur w q3 hb (by omega) q6 q7 hp hl

theorem sl_both (ao : Option Addr) (n cap l h : Nat) (hl : l ≤ h) (hc : h ≤ cap) : ∃ x0 x1 x2, ∀ u : World, (Instr.slice 94 (.slice ao n cap) (some (.int .i64 (l : Int))) (some (.int .i64 (h : Int))) none).run Try.prog u = .ok (.slice x0 x1 x2) u := ⟨_, _, _, fun u => by
  rw [run_slice_lh (P := Try.prog) u 94 ao n cap (by rw [undH, ← elemH]) .i64 .i64 l h (by omega) (by omega) (by omega), elemH, size_of_pr]
  rfl⟩
theorem owns_cap {w : World} {base : Nat} {e : TypeId} {s : Nat} {ao : Option Addr} {n cap : Nat} {xs : List Value} (hO : w.ownsRow base e s (.slice ao n cap) n xs) : n ≤ cap := by
  rcases hO.2 with ⟨h, h1⟩ | ⟨g, cap', cur, q1, q2, q3, q4, _⟩
  · cases h; exact Nat.le_refl _
  · cases q1; exact q4

set_option maxRecDepth 10000 in
set_option maxHeartbeats 2000000 in
theorem Replace_ins (h : List Pr) (p : Pr) (i gp base : Nat) (v : Value) (w : World) (hO : w.ownsRow base 44 2 v h.length (prcells h)) (hb : base ≤ w.heap.size) (hi : i ≤ h.length) (hp : Blk w gp (prC p)) (hne : v.ownBlock ≠ some gp) (hl : h.length ≤ 1048576) :
    Calls Try.prog 76 #[v, .int .i64 (i : Int), .int .i64 (i : Int), .slice (some ⟨gp, 0, none⟩) 1 1] w fun e w' => ∃ v', e = .returned v' ∧ Grows base w v v' (h.take i ++ p :: h.drop i) w' := by
  obtain ⟨ao, c, rfl⟩ := (holds_of hO).form
  obtain ⟨x0, x1, x2, s0⟩ := sl_both ao h.length c i i (Nat.le_refl _) (Nat.le_trans hi (owns_cap hO))
  have hI := Insert_f h p i gp base _ w hO hb hi hp hne hl
  generalize h.take i ++ p :: h.drop i = H' at hI ⊢
  go_enter Try.func76, Try.ntmps76
  go_wp2_with fail
  refine hI.mono ?_
  rintro e w1 ⟨v', rfl, hG⟩
  obtain ⟨ao', c', rfl⟩ := (holds_of hG.1).form
  go_wp2
  go_ret
  exact ⟨_, rfl, hG⟩

set_option maxRecDepth 10000 in
set_option maxHeartbeats 2000000 in
theorem Replace_tail (h : List Pr) (p : Pr) (n i g cap gp base : Nat) (HN : Hid (h.length = n)) (cur : List Value) (w : World) (hg : Blk w g cur) (hgb : base ≤ g) (hi : i < n) (hnc : n ≤ cap) (hcm : cap ≤ maxLen) (hcl : Hid (cur.length = cap * 2)) (hct : Hid (cur.take (n * 2) = prcells h)) (hp : Blk w gp (prC p)) (_hl : n ≤ 1048576) :
    Calls Try.prog 76 #[.slice (some ⟨g, 0, none⟩) n cap, .int .i64 (i : Int), .int .i64 (n : Int), .slice (some ⟨gp, 0, none⟩) 1 1] w fun e w' => ∃ v', e = .returned v' ∧ Grows base w (.slice (some ⟨g, 0, none⟩) n cap) v' (h.take i ++ p :: h.drop n) w' := by
  obtain ⟨x0, x1, x2, s0⟩ := sl_both (some ⟨g, 0, none⟩) n cap i n (by omega) hnc
  have s1 := sl_to undH elemH g n cap i (by omega)
  have hcp : (prC p).length = 2 := rfl
  have hfit : i * 2 + (prC p).length ≤ cur.length := by rw [hcp, hcl.out]; omega
  have hap : ∀ ty, (Builtin.append_ #[94, 41] ty #[.slice (some ⟨g, 0, none⟩) i cap, .slice (some ⟨gp, 0, none⟩) 1 1]).run Try.prog w = .ok (.slice (some ⟨g, 0, none⟩) (i + 1) cap) (w.setRow g (spl cur (i * 2) (prC p)).toArray) := fun ty =>
    run_append_room undH undP w ty g i cap ⟨gp, 0, none⟩ 1 1 cur (prC p) hg (by omega) rfl (pr_src hp) hfit (prC_one p)
  have hG1 := setRow_grown w g (spl cur (i * 2) (prC p)).toArray
  have hB1 : Blk (w.setRow g (spl cur (i * 2) (prC p)).toArray) g (spl cur (i * 2) (prC p)) := setRow_heap w g _ _ _ _ hg
  have hl1 : (spl cur (i * 2) (prC p)).length = cap * 2 := by rw [spl_length hfit, hcl.out]
  have ht1 : (spl cur (i * 2) (prC p)).take ((i + 1) * 2) = prcells (h.take i ++ p :: h.drop n) := by
    rw [spl_take hfit _ (by rw [hcp]; omega), List.drop_of_length_le (by rw [HN.out]; exact Nat.le_refl _), prcells_append, prcells_take, ← hct.out, List.take_take]
    congr 2
    omega
  generalize w.setRow g (spl cur (i * 2) (prC p)).toArray = W1 at hap hG1 hB1
  generalize spl cur (i * 2) (prC p) = cur1 at hB1 hl1 ht1
  have hlen : (h.take i ++ p :: h.drop n).length = i + 1 := by
    have := HN.out
    rw [List.length_append, List.length_cons, List.length_take, List.length_drop]
    omega
  have HE : Hid ((h.take i ++ p :: h.drop n).length = i + 1) := hlen
  clear hlen
  have hne1 : ((i : Int) == (n : Int)) = false := by simp; omega
  by_cases hin : i + 1 < n
  · have s2 := sl_from undH elemH g n cap (i + 1) (by omega) (by omega)
    rw [show ((i + 1 : Nat) : Int) = (i : Int) + 1 by simp] at s2
    obtain ⟨W2, hr2, hG2, cur2, hB2, hl2, ht2⟩ := run_clear_pr undH W1 0 g ((i + 1) * 2) (n - (i + 1)) (cap - (i + 1)) cur1 hB1 (by rw [hl1]; omega)
    have hd : decide ((i : Int) + 1 < (n : Int)) = true := decide_eq_true (by omega)
    go_enter Try.func76, Try.ntmps76
    go_wp2_with (at_builtin; refine wpList_ap _ (by kernel_rfl) (.tmp 32) (.tmp 33) 94 41 rfl _ _ rfl rfl _ _ (hap _) ?_)
    go_wp2_with (at_builtin; refine wpList_cl _ (by kernel_rfl) (.tmp 43) 94 rfl _ rfl _ _ hr2 ?_)
    go_wp2
    go_ret
    refine ⟨_, rfl, ?_, hG1.trans hG2, .inl rfl⟩
    rw [HE.out]
    exact blk_row hB2 hgb (by omega) hcm (by rw [hl2, hl1]) (by rw [ht2, ht1])
  · have hd : decide ((i : Int) + 1 < (n : Int)) = false := decide_eq_false (by omega)
    go_enter Try.func76, Try.ntmps76
    go_wp2_with (at_builtin; refine wpList_ap _ (by kernel_rfl) (.tmp 32) (.tmp 33) 94 41 rfl _ _ rfl rfl _ _ (hap _) ?_)
    go_wp2
    go_ret
    refine ⟨_, rfl, ?_, hG1, .inl rfl⟩
    rw [HE.out]
    exact blk_row hB1 hgb (by omega) hcm hl1 ht1

set_option maxRecDepth 10000 in
set_option maxHeartbeats 4000000 in
theorem Replace_mid (h : List Pr) (p : Pr) (n i j g cap gp base : Nat) (HN : Hid (h.length = n)) (cur : List Value) (w : World) (hg : Blk w g cur) (hgb : base ≤ g) (hi : i < j) (hj : j < n) (hnc : n ≤ cap) (hcm : cap ≤ maxLen) (hcl : Hid (cur.length = cap * 2)) (hct : Hid (cur.take (n * 2) = prcells h)) (hp : Blk w gp (prC p)) (_hne : gp ≠ g) (hl : n ≤ 1048576) :
    Calls Try.prog 76 #[.slice (some ⟨g, 0, none⟩) n cap, .int .i64 (i : Int), .int .i64 (j : Int), .slice (some ⟨gp, 0, none⟩) 1 1] w fun e w' => ∃ v', e = .returned v' ∧ Grows base w (.slice (some ⟨g, 0, none⟩) n cap) v' (h.take i ++ p :: h.drop j) w' := by
  obtain ⟨x0, x1, x2, s0⟩ := sl_both (some ⟨g, 0, none⟩) n cap i j (by omega) (by omega)
  obtain ⟨tot, htot⟩ : ∃ t, t = i + 1 + (n - j) := ⟨_, rfl⟩
  have s1 := sl_to undH elemH g n cap i (by omega)
  have s2 := sl_from undH elemH g n cap j (by omega) (by omega)
  have s3 := sl_to undH elemH g n cap tot (by omega)
  have s4 := sl_from undH elemH g tot cap i (by omega) (by omega)
  have s5 := sl_from undH elemH g tot cap (i + 1) (by omega) (by omega)
  rw [show ((i + 1 : Nat) : Int) = (i : Int) + 1 by simp] at s5
  have hw1 : IntKind.i64.wrap ((i : Int) + 1) = (i : Int) + 1 := by rw [IntKind.wrap_i64]; omega
  have hw2 : IntKind.i64.wrap ((i : Int) + 1 + ((n - j : Nat) : Int)) = (tot : Int) := by rw [IntKind.wrap_i64]; omega
  have hw3 : (i : Int) + 1 + ((n - j : Nat) : Int) = (tot : Int) := by omega
  have hne1 : ((i : Int) == (j : Int)) = false := by simp; omega
  have hne2 : ((j : Int) == (n : Int)) = false := by simp; omega
  have hd1 : decide ((cap : Int) < (tot : Int)) = false := decide_eq_false (by omega)
  have hd2 : decide ((i : Int) + 1 ≤ (j : Int)) = true := decide_eq_true (by omega)
  have HT : Hid (tot = i + 1 + (n - j)) := htot
  clear htot
  go_enter Try.func76, Try.ntmps76
  go_wp2_with fail
  go_quiet (fail)
  have hgd : Blk (w.drewN nq) g cur := hg
  have hpd : Blk (w.drewN nq) gp (prC p) := hp
  have hGd : w.grownBy (w.drewN nq) (some g) := ⟨rfl, rfl, rfl, Nat.le_refl _, fun _ _ _ => rfl⟩
  generalize w.drewN nq = wd at hgd hpd hGd ⊢
  have hcp : (prC p).length = 2 := rfl
  have hfit : i * 2 + (prC p).length ≤ cur.length := by rw [hcp, hcl.out]; omega
  have hcp1 : ∀ ty, (Builtin.copy_ #[94, 41] ty #[.slice (some ⟨g, i * 2, none⟩) (tot - i) (cap - i), .slice (some ⟨gp, 0, none⟩) 1 1]).run Try.prog wd = .ok (goInt (1 : Nat)) (wd.setRow g (spl cur (i * 2) (prC p)).toArray) := fun ty =>
    run_copy_pr undH wd ty g _ _ _ ⟨gp, 0, none⟩ _ _ cur _ 1 hgd (by have := HT.out; simp only [Nat.min_def]; split <;> omega) rfl (pr_src hpd) hfit (prC_one p)
  have hG1 := hGd.trans (setRow_grown wd g (spl cur (i * 2) (prC p)).toArray)
  have hB1 : Blk (wd.setRow g (spl cur (i * 2) (prC p)).toArray) g (spl cur (i * 2) (prC p)) := setRow_heap wd g _ _ _ _ hgd
  have hl1 : (spl cur (i * 2) (prC p)).length = cap * 2 := by rw [spl_length hfit, hcl.out]
  have ht1 : (spl cur (i * 2) (prC p)).take ((i + 1) * 2) = prcells (h.take i) ++ prC p := by
    rw [spl_take hfit _ (by rw [hcp]; omega), prcells_take, ← hct.out, List.take_take]
    congr 2
    omega
  have hcs1 : ((prcells h).drop (j * 2)).length = (n - j) * 2 := by rw [List.length_drop, prcells_length, HN.out]; omega
  have hsrc : ∀ k v, ((prcells h).drop (j * 2))[k]? = some v → (spl cur (i * 2) (prC p))[j * 2 + k]? = some v := fun k v hk => by
    have hlt := (List.getElem?_eq_some_iff.1 hk).1
    rw [hcs1] at hlt
    rw [← hk, List.getElem?_drop, ← hct.out, List.getElem?_take, if_pos (by omega)]
    unfold spl
    rw [List.getElem?_append_right (by rw [List.length_append, List.length_take, hcp, hcl.out]; omega), List.getElem?_drop]
    congr 1
    rw [List.length_append, List.length_take, hcp, hcl.out]
    omega
  generalize wd.setRow g (spl cur (i * 2) (prC p)).toArray = W1 at hcp1 hG1 hB1
  generalize spl cur (i * 2) (prC p) = cur1 at hB1 hl1 ht1 hsrc
  have hcp2 : ∀ (u : World) (ty : TypeId), u.heap = W1.heap → (Builtin.copy_ #[94, 94] ty #[.slice (some ⟨g, (i + 1) * 2, none⟩) (tot - (i + 1)) (cap - (i + 1)), .slice (some ⟨g, j * 2, none⟩) (n - j) (cap - j)]).run Try.prog u = .ok (goInt (n - j : Nat)) (u.setRow g (spl cur1 ((i + 1) * 2) ((prcells h).drop (j * 2))).toArray) := fun u ty hu => by
    have hgu : Blk u g cur1 := by unfold Blk; rw [hu]; exact hB1
    refine run_copy_pr undH u ty _ _ _ _ ⟨g, j * 2, none⟩ _ _ cur1 _ (n - j) hgu (by have := HT.out; simp only [Nat.min_def]; split <;> omega) hcs1 (fun k v hk => ?_) (by rw [hcs1, hl1]; omega) (fun v hv => prcells_one h v (List.mem_of_mem_drop hv))
    rw [add_none, hgu.cell]
    exact hsrc k v hk
  go_wp2_with (at_builtin; refine wpList_cp _ (by kernel_rfl) (.tmp 95) (.tmp 96) 94 41 rfl _ _ rfl rfl _ _ (hcp1 _) ?_)
  go_wp2_with fail
  go_region_held3 (fun _ => True) (trivial) (first | (refine step_cp _ rfl (.tmp 103) (.tmp 106) 94 94 rfl _ _ rfl rfl _ _ (hcp2 _ _ (by first | rfl | trivial)) ?_))
  have hG2 : w.grownBy (W1.drew.setRow g (spl cur1 ((i + 1) * 2) ((prcells h).drop (j * 2))).toArray) (some g) := hG1.trans ((drew_grown W1 (some g)).trans (setRow_grown W1.drew g _))
  have hfit2 : (i + 1) * 2 + ((prcells h).drop (j * 2)).length ≤ cur1.length := by rw [hcs1, hl1]; omega
  have hB2 : Blk (W1.drew.setRow g (spl cur1 ((i + 1) * 2) ((prcells h).drop (j * 2))).toArray) g (spl cur1 ((i + 1) * 2) ((prcells h).drop (j * 2))) := setRow_heap W1.drew g _ _ _ _ hB1
  have hl2 : (spl cur1 ((i + 1) * 2) ((prcells h).drop (j * 2))).length = cap * 2 := by rw [spl_length hfit2, hl1]
  have ht2 : (spl cur1 ((i + 1) * 2) ((prcells h).drop (j * 2))).take (tot * 2) = prcells (h.take i ++ p :: h.drop j) := by
    have e3 : prcells (h.take i ++ p :: h.drop j) = prcells (h.take i) ++ prC p ++ prcells (h.drop j) := by
      rw [prcells_append, List.append_assoc]
      rfl
    rw [spl_take hfit2 _ (by rw [hcs1, HT.out]; omega), ht1, e3, prcells_drop, Nat.mul_comm 2 j]
  generalize W1.drew.setRow g (spl cur1 ((i + 1) * 2) ((prcells h).drop (j * 2))).toArray = W2 at hG2 hB2 ⊢
  generalize spl cur1 ((i + 1) * 2) ((prcells h).drop (j * 2)) = cur2 at hB2 hl2 ht2
  have hlen : Hid ((h.take i ++ p :: h.drop j).length = tot) := (by
    show _ = _
    have := HN.out
    rw [List.length_append, List.length_cons, List.length_take, List.length_drop, HT.out]
    omega)
  clear hcp1 hcp2 hB1 ht1 hsrc hgd hpd hGd hG1
  by_cases hji : j = i + 1
  · have hT2 : tot = n := by rw [HT.out]; omega
    obtain ⟨x3, x4, s6⟩ : ∃ x3 x4, ∀ u : World, (Instr.slice 94 (.slice (some ⟨g, 0, none⟩) n cap) (some (.int .i64 (tot : Int))) none none).run Try.prog u = .ok (.slice x3 0 x4) u := ⟨_, _, fun u => by
      rw [run_slice_l (P := Try.prog) u 94 (some ⟨g, 0, none⟩) n cap (by rw [undH, ← elemH]) .i64 tot (by omega) (by omega), elemH, size_of_pr]
      simp [Result.andThen, sliced, hT2]
      exact ⟨rfl, rfl⟩⟩
    have hr2 : ∀ ty, (Builtin.clear_ #[94] ty #[.slice x3 0 x4]).run Try.prog W2 = .ok (.tuple #[]) W2 := fun ty => by cases x3 <;> simp [Builtin.clear_, run_underlying undH]
    clear hT2
    go_wp2_with (at_builtin; refine wpList_cl _ (by kernel_rfl) (.tmp 110) 94 rfl _ rfl _ _ (hr2 _) ?_)
    go_wp2
    go_ret
    refine ⟨_, rfl, ?_, hG2, .inl rfl⟩
    rw [hlen.out]
    exact blk_row hB2 hgb (by have := HT.out; omega) hcm hl2 ht2
  · have s6 := sl_from undH elemH g n cap tot (by have := HT.out; omega) (by have := HT.out; omega)
    obtain ⟨W3, hr3, hG3, cur3, hB3, hl3, ht3⟩ := run_clear_pr undH W2 0 g (tot * 2) (n - tot) (cap - tot) cur2 hB2 (by rw [hl2]; have := HT.out; omega)
    go_wp2_with (at_builtin; refine wpList_cl _ (by kernel_rfl) (.tmp 110) 94 rfl _ rfl _ _ hr3 ?_)
    go_wp2
    go_ret
    refine ⟨_, rfl, ?_, hG2.trans hG3, .inl rfl⟩
    rw [hlen.out]
    exact blk_row hB3 hgb (by have := HT.out; omega) hcm (by rw [hl3, hl2]) (by rw [ht3, ht2])

theorem Replace_f (h : List Pr) (p : Pr) (i j gp base : Nat) (v : Value) (w : World) (hO : w.ownsRow base 44 2 v h.length (prcells h)) (hb : base ≤ w.heap.size) (hij : i ≤ j) (hj : j ≤ h.length) (hp : Blk w gp (prC p)) (hne : v.ownBlock ≠ some gp) (hl : h.length ≤ 1048576) :
    Calls Try.prog 76 #[v, .int .i64 (i : Int), .int .i64 (j : Int), .slice (some ⟨gp, 0, none⟩) 1 1] w fun e w' => ∃ v', e = .returned v' ∧ Grows base w v v' (h.take i ++ p :: h.drop j) w' := by
  by_cases e : i = j
  · subst e
    exact Replace_ins h p i gp base v w hO hb hj hp hne hl
  · obtain ⟨g, cap, cur, rfl, q2, q3, q4, q5, q6, q7⟩ := row_blk hO (by omega)
    by_cases e2 : j = h.length
    · subst e2
      exact Replace_tail h p h.length i g cap gp base rfl cur w q3 q2 (by omega) q4 q5 q6 q7 hp hl
    · exact Replace_mid h p h.length i j g cap gp base rfl cur w q3 q2 (by omega) (by omega) q4 q5 q6 q7 hp (fun e => hne (by rw [e]; rfl)) hl
end Go.Proofs.Ytppdcjjkkckokaa
