/-
  Texts that belong together, joined: PaRp, PcLs, PaSr, PaHd, PaWi, PaBk, PaRs, PaUq, MiMath.
-/
import Derived.Test.YteplejpbgajecaaPartA2
import Derived.Test.YteplejpbgajecaaPartA1
import Derived.Laws.Rows
import Derived.Shelf.RegionOpenPlain

/- slices.Replace by one pair in a row of pairs, walked. -/
namespace Go.Proofs.Yteplejpbgajecaa
open Go.RowKit

theorem Insert_f (h : List Pr) (p : Pr) (i gp base : Nat) (v : Value) (w : World) (hO : w.ownsRow base 40 2 v h.length (prcells h)) (hb : base ≤ w.heap.size) (hi : i ≤ h.length) (hp : Blk w gp (prC p)) (hne : v.ownBlock ≠ some gp) (hl : h.length ≤ 1048576) :
    Calls Try.prog 76 #[v, .int .i64 (i : Int), .slice (some ⟨gp, 0, none⟩) 1 1] w fun e w' => ∃ v', e = .returned v' ∧ Grows base w v v' (h.take i ++ p :: h.drop i) w' := by
  by_cases hin : i = h.length
  · have e : h.take i ++ p :: h.drop i = h ++ [p] := by subst hin; simp
    rw [e, hin]
    exact Insert_end h p v gp base w hO hb hp hl
  · obtain ⟨g, cap, cur, rfl, q2, q3, q4, q5, q6, q7⟩ := row_blk hO (by omega)
    by_cases hroom : h.length + 1 ≤ cap
    · exact Insert_room h p h.length i g cap gp base rfl cur w q3 q2 (by omega) hroom q5 q6 q7 hp (fun e => hne (by rw [e]; rfl)) hl
    · obtain rfl : cap = h.length := by omega
      exact Insert_grow h p h.length i g gp base rfl cur w q3 hb (by omega) q6 q7 hp hl

theorem sl_both (ao : Option Addr) (n cap l h : Nat) (hl : l ≤ h) (hc : h ≤ cap) : ∃ x0 x1 x2, ∀ u : World, (Instr.slice 93 (.slice ao n cap) (some (.int .i64 (l : Int))) (some (.int .i64 (h : Int))) none).run Try.prog u = .ok (.slice x0 x1 x2) u := ⟨_, _, _, fun u => by
  rw [run_slice_lh (P := Try.prog) u 93 ao n cap (by rw [undH, ← elemH]) .i64 .i64 l h (by omega) (by omega) (by omega), elemH, size_of_pr]
  rfl⟩
theorem owns_cap {w : World} {base : Nat} {e : TypeId} {s : Nat} {ao : Option Addr} {n cap : Nat} {xs : List Value} (hO : w.ownsRow base e s (.slice ao n cap) n xs) : n ≤ cap := by
  rcases hO.2 with ⟨h, h1⟩ | ⟨g, cap', cur, q1, q2, q3, q4, _⟩
  · cases h; exact Nat.le_refl _
  · cases q1; exact q4

set_option maxRecDepth 10000 in
set_option maxHeartbeats 2000000 in
theorem Replace_ins (h : List Pr) (p : Pr) (i gp base : Nat) (v : Value) (w : World) (hO : w.ownsRow base 40 2 v h.length (prcells h)) (hb : base ≤ w.heap.size) (hi : i ≤ h.length) (hp : Blk w gp (prC p)) (hne : v.ownBlock ≠ some gp) (hl : h.length ≤ 1048576) :
    Calls Try.prog 72 #[v, .int .i64 (i : Int), .int .i64 (i : Int), .slice (some ⟨gp, 0, none⟩) 1 1] w fun e w' => ∃ v', e = .returned v' ∧ Grows base w v v' (h.take i ++ p :: h.drop i) w' := by
  obtain ⟨ao, c, rfl⟩ := (holds_of hO).form
  obtain ⟨x0, x1, x2, s0⟩ := sl_both ao h.length c i i (Nat.le_refl _) (Nat.le_trans hi (owns_cap hO))
  have hI := Insert_f h p i gp base _ w hO hb hi hp hne hl
  generalize h.take i ++ p :: h.drop i = H' at hI ⊢
  go_enter Try.func72, Try.ntmps72
  go_wp2_with fail
  refine hI.mono ?_
  rintro e w1 ⟨v', rfl, hG⟩
  obtain ⟨ao', c', rfl⟩ := (holds_of hG.1).form
  go_wp2
  go_ret
  exact ⟨_, rfl, hG⟩

set_option maxRecDepth 10000 in
set_option maxHeartbeats 2000000 in
theorem Replace_tail (h : List Pr) (p : Pr) (n i g cap gp base : Nat) (HN : Hid (h.length = n)) (cur : List Value) (w : World) (hg : Blk w g cur) (hgb : base ≤ g) (hi : i < n) (hnc : n ≤ cap) (hcm : cap ≤ maxLen) (hcl : Hid (cur.length = cap * 2)) (hct : Hid (cur.take (n * 2) = prcells h)) (hp : Blk w gp (prC p)) (_hl : n ≤ 1048576) :
    Calls Try.prog 72 #[.slice (some ⟨g, 0, none⟩) n cap, .int .i64 (i : Int), .int .i64 (n : Int), .slice (some ⟨gp, 0, none⟩) 1 1] w fun e w' => ∃ v', e = .returned v' ∧ Grows base w (.slice (some ⟨g, 0, none⟩) n cap) v' (h.take i ++ p :: h.drop n) w' := by
  obtain ⟨x0, x1, x2, s0⟩ := sl_both (some ⟨g, 0, none⟩) n cap i n (by omega) hnc
  have s1 := sl_to undH elemH g n cap i (by omega)
  have hcp : (prC p).length = 2 := rfl
  have hfit : i * 2 + (prC p).length ≤ cur.length := by rw [hcp, hcl.out]; omega
  have hap : ∀ ty, (Builtin.append_ #[93, 37] ty #[.slice (some ⟨g, 0, none⟩) i cap, .slice (some ⟨gp, 0, none⟩) 1 1]).run Try.prog w = .ok (.slice (some ⟨g, 0, none⟩) (i + 1) cap) (w.setRow g (spl cur (i * 2) (prC p)).toArray) := fun ty =>
    run_append_room undH undP w ty g i cap ⟨gp, 0, none⟩ 1 1 cur (prC p) hg (by omega) rfl (pr_src hp) hfit (prC_one p)
  have hG1 := setRow_grown w g (spl cur (i * 2) (prC p)).toArray
  have hB1 : Blk (w.setRow g (spl cur (i * 2) (prC p)).toArray) g (spl cur (i * 2) (prC p)) := setRow_heap w g _ _ _ _ hg
  have hl1 : (spl cur (i * 2) (prC p)).length = cap * 2 := by rw [spl_length hfit, hcl.out]
  have ht1 : (spl cur (i * 2) (prC p)).take ((i + 1) * 2) = prcells (h.take i ++ p :: h.drop n) := by
    rw [spl_take hfit _ (by rw [hcp]; omega), List.drop_of_length_le (by rw [HN.out]; exact Nat.le_refl _), prcells_append, prcells_take, ← hct.out, List.take_take]
    congr 2
    omega
  generalize w.setRow g (spl cur (i * 2) (prC p)).toArray = W1 at hap hG1 hB1
  generalize spl cur (i * 2) (prC p) = cur1 at hB1 hl1 ht1
  have hlen : (h.take i ++ p :: h.drop n).length = i + 1 := by
    have := HN.out
    rw [List.length_append, List.length_cons, List.length_take, List.length_drop]
    omega
  have HE : Hid ((h.take i ++ p :: h.drop n).length = i + 1) := hlen
  clear hlen
  have hne1 : ((i : Int) == (n : Int)) = false := by simp; omega
  by_cases hin : i + 1 < n
  · have s2 := sl_from undH elemH g n cap (i + 1) (by omega) (by omega)
    rw [show ((i + 1 : Nat) : Int) = (i : Int) + 1 by simp] at s2
    obtain ⟨W2, hr2, hG2, cur2, hB2, hl2, ht2⟩ := run_clear_pr undH W1 0 g ((i + 1) * 2) (n - (i + 1)) (cap - (i + 1)) cur1 hB1 (by rw [hl1]; omega)
    have hd : decide ((i : Int) + 1 < (n : Int)) = true := decide_eq_true (by omega)
    go_enter Try.func72, Try.ntmps72
    go_wp2_with (at_builtin; refine wpList_ap _ (by kernel_rfl) (.tmp 32) (.tmp 33) 93 37 rfl _ _ rfl rfl _ _ (hap _) ?_)
    go_wp2_with (at_builtin; refine wpList_cl _ (by kernel_rfl) (.tmp 43) 93 rfl _ rfl _ _ hr2 ?_)
    go_wp2
    go_ret
    refine ⟨_, rfl, ?_, hG1.trans hG2, .inl rfl⟩
    rw [HE.out]
    exact blk_row hB2 hgb (by omega) hcm (by rw [hl2, hl1]) (by rw [ht2, ht1])
  · have hd : decide ((i : Int) + 1 < (n : Int)) = false := decide_eq_false (by omega)
    go_enter Try.func72, Try.ntmps72
    go_wp2_with (at_builtin; refine wpList_ap _ (by kernel_rfl) (.tmp 32) (.tmp 33) 93 37 rfl _ _ rfl rfl _ _ (hap _) ?_)
    go_wp2
    go_ret
    refine ⟨_, rfl, ?_, hG1, .inl rfl⟩
    rw [HE.out]
    exact blk_row hB1 hgb (by omega) hcm hl1 ht1

set_option maxRecDepth 10000 in
set_option maxHeartbeats 4000000 in
theorem Replace_mid (h : List Pr) (p : Pr) (n i j g cap gp base : Nat) (HN : Hid (h.length = n)) (cur : List Value) (w : World) (hg : Blk w g cur) (hgb : base ≤ g) (hi : i < j) (hj : j < n) (hnc : n ≤ cap) (hcm : cap ≤ maxLen) (hcl : Hid (cur.length = cap * 2)) (hct : Hid (cur.take (n * 2) = prcells h)) (hp : Blk w gp (prC p)) (_hne : gp ≠ g) (hl : n ≤ 1048576) :
    Calls Try.prog 72 #[.slice (some ⟨g, 0, none⟩) n cap, .int .i64 (i : Int), .int .i64 (j : Int), .slice (some ⟨gp, 0, none⟩) 1 1] w fun e w' => ∃ v', e = .returned v' ∧ Grows base w (.slice (some ⟨g, 0, none⟩) n cap) v' (h.take i ++ p :: h.drop j) w' := by
  obtain ⟨x0, x1, x2, s0⟩ := sl_both (some ⟨g, 0, none⟩) n cap i j (by omega) (by omega)
  obtain ⟨tot, htot⟩ : ∃ t, t = i + 1 + (n - j) := ⟨_, rfl⟩
  have s1 := sl_to undH elemH g n cap i (by omega)
  have s2 := sl_from undH elemH g n cap j (by omega) (by omega)
  have s3 := sl_to undH elemH g n cap tot (by omega)
  have s4 := sl_from undH elemH g tot cap i (by omega) (by omega)
  have s5 := sl_from undH elemH g tot cap (i + 1) (by omega) (by omega)
  rw [show ((i + 1 : Nat) : Int) = (i : Int) + 1 by simp] at s5
  have hw1 : IntKind.i64.wrap ((i : Int) + 1) = (i : Int) + 1 := by rw [IntKind.wrap_i64]; omega
  have hw2 : IntKind.i64.wrap ((i : Int) + 1 + ((n - j : Nat) : Int)) = (tot : Int) := by rw [IntKind.wrap_i64]; omega
  have hw3 : (i : Int) + 1 + ((n - j : Nat) : Int) = (tot : Int) := by omega
  have hne1 : ((i : Int) == (j : Int)) = false := by simp; omega
  have hne2 : ((j : Int) == (n : Int)) = false := by simp; omega
  have hd1 : decide ((cap : Int) < (tot : Int)) = false := decide_eq_false (by omega)
  have hd2 : decide ((i : Int) + 1 ≤ (j : Int)) = true := decide_eq_true (by omega)
  have HT : Hid (tot = i + 1 + (n - j)) := htot
  clear htot
  go_enter Try.func72, Try.ntmps72
  go_wp2_with fail
  go_quiet (fail)
  have hgd : Blk (w.drewN nq) g cur := hg
  have hpd : Blk (w.drewN nq) gp (prC p) := hp
  have hGd : w.grownBy (w.drewN nq) (some g) := ⟨rfl, rfl, rfl, Nat.le_refl _, fun _ _ _ => rfl⟩
  generalize w.drewN nq = wd at hgd hpd hGd ⊢
  have hcp : (prC p).length = 2 := rfl
  have hfit : i * 2 + (prC p).length ≤ cur.length := by rw [hcp, hcl.out]; omega
  have hcp1 : ∀ ty, (Builtin.copy_ #[93, 37] ty #[.slice (some ⟨g, i * 2, none⟩) (tot - i) (cap - i), .slice (some ⟨gp, 0, none⟩) 1 1]).run Try.prog wd = .ok (goInt (1 : Nat)) (wd.setRow g (spl cur (i * 2) (prC p)).toArray) := fun ty =>
    run_copy_pr undH wd ty g _ _ _ ⟨gp, 0, none⟩ _ _ cur _ 1 hgd (by have := HT.out; simp only [Nat.min_def]; split <;> omega) rfl (pr_src hpd) hfit (prC_one p)
  have hG1 := hGd.trans (setRow_grown wd g (spl cur (i * 2) (prC p)).toArray)
  have hB1 : Blk (wd.setRow g (spl cur (i * 2) (prC p)).toArray) g (spl cur (i * 2) (prC p)) := setRow_heap wd g _ _ _ _ hgd
  have hl1 : (spl cur (i * 2) (prC p)).length = cap * 2 := by rw [spl_length hfit, hcl.out]
  have ht1 : (spl cur (i * 2) (prC p)).take ((i + 1) * 2) = prcells (h.take i) ++ prC p := by
    rw [spl_take hfit _ (by rw [hcp]; omega), prcells_take, ← hct.out, List.take_take]
    congr 2
    omega
  have hcs1 : ((prcells h).drop (j * 2)).length = (n - j) * 2 := by rw [List.length_drop, prcells_length, HN.out]; omega
  have hsrc : ∀ k v, ((prcells h).drop (j * 2))[k]? = some v → (spl cur (i * 2) (prC p))[j * 2 + k]? = some v := fun k v hk => by
    have hlt := (List.getElem?_eq_some_iff.1 hk).1
    rw [hcs1] at hlt
    rw [← hk, List.getElem?_drop, ← hct.out, List.getElem?_take, if_pos (by omega)]
    unfold spl
    rw [List.getElem?_append_right (by rw [List.length_append, List.length_take, hcp, hcl.out]; omega), List.getElem?_drop]
    congr 1
    rw [List.length_append, List.length_take, hcp, hcl.out]
    omega
  generalize wd.setRow g (spl cur (i * 2) (prC p)).toArray = W1 at hcp1 hG1 hB1
  generalize spl cur (i * 2) (prC p) = cur1 at hB1 hl1 ht1 hsrc
  have hcp2 : ∀ (u : World) (ty : TypeId), u.heap = W1.heap → (Builtin.copy_ #[93, 93] ty #[.slice (some ⟨g, (i + 1) * 2, none⟩) (tot - (i + 1)) (cap - (i + 1)), .slice (some ⟨g, j * 2, none⟩) (n - j) (cap - j)]).run Try.prog u = .ok (goInt (n - j : Nat)) (u.setRow g (spl cur1 ((i + 1) * 2) ((prcells h).drop (j * 2))).toArray) := fun u ty hu => by
    have hgu : Blk u g cur1 := by unfold Blk; rw [hu]; exact hB1
    refine run_copy_pr undH u ty _ _ _ _ ⟨g, j * 2, none⟩ _ _ cur1 _ (n - j) hgu (by have := HT.out; simp only [Nat.min_def]; split <;> omega) hcs1 (fun k v hk => ?_) (by rw [hcs1, hl1]; omega) (fun v hv => prcells_one h v (List.mem_of_mem_drop hv))
    rw [add_none, hgu.cell]
    exact hsrc k v hk
  go_wp2_with (at_builtin; refine wpList_cp _ (by kernel_rfl) (.tmp 95) (.tmp 96) 93 37 rfl _ _ rfl rfl _ _ (hcp1 _) ?_)
  go_wp2_with fail
  go_region_held3 (fun _ => True) (trivial) (first | (refine step_cp _ rfl (.tmp 103) (.tmp 106) 93 93 rfl _ _ rfl rfl _ _ (hcp2 _ _ (by first | rfl | trivial)) ?_))
  have hG2 : w.grownBy (W1.drew.setRow g (spl cur1 ((i + 1) * 2) ((prcells h).drop (j * 2))).toArray) (some g) := hG1.trans ((drew_grown W1 (some g)).trans (setRow_grown W1.drew g _))
  have hfit2 : (i + 1) * 2 + ((prcells h).drop (j * 2)).length ≤ cur1.length := by rw [hcs1, hl1]; omega
  have hB2 : Blk (W1.drew.setRow g (spl cur1 ((i + 1) * 2) ((prcells h).drop (j * 2))).toArray) g (spl cur1 ((i + 1) * 2) ((prcells h).drop (j * 2))) := setRow_heap W1.drew g _ _ _ _ hB1
  have hl2 : (spl cur1 ((i + 1) * 2) ((prcells h).drop (j * 2))).length = cap * 2 := by rw [spl_length hfit2, hl1]
  have ht2 : (spl cur1 ((i + 1) * 2) ((prcells h).drop (j * 2))).take (tot * 2) = prcells (h.take i ++ p :: h.drop j) := by
    have e3 : prcells (h.take i ++ p :: h.drop j) = prcells (h.take i) ++ prC p ++ prcells (h.drop j) := by
      rw [prcells_append, List.append_assoc]
      rfl
    rw [spl_take hfit2 _ (by rw [hcs1, HT.out]; omega), ht1, e3, prcells_drop, Nat.mul_comm 2 j]
  generalize W1.drew.setRow g (spl cur1 ((i + 1) * 2) ((prcells h).drop (j * 2))).toArray = W2 at hG2 hB2 ⊢
  generalize spl cur1 ((i + 1) * 2) ((prcells h).drop (j * 2)) = cur2 at hB2 hl2 ht2
  have hlen : Hid ((h.take i ++ p :: h.drop j).length = tot) := (by
    show _ = _
    have := HN.out
    rw [List.length_append, List.length_cons, List.length_take, List.length_drop, HT.out]
    omega)
  clear hcp1 hcp2 hB1 ht1 hsrc hgd hpd hGd hG1
  by_cases hji : j = i + 1
  · have hT2 : tot = n := by rw [HT.out]; omega
    obtain ⟨x3, x4, s6⟩ : ∃ x3 x4, ∀ u : World, (Instr.slice 93 (.slice (some ⟨g, 0, none⟩) n cap) (some (.int .i64 (tot : Int))) none none).run Try.prog u = .ok (.slice x3 0 x4) u := ⟨_, _, fun u => by
      rw [run_slice_l (P := Try.prog) u 93 (some ⟨g, 0, none⟩) n cap (by rw [undH, ← elemH]) .i64 tot (by omega) (by omega), elemH, size_of_pr]
      simp [Result.andThen, sliced, hT2]
      exact ⟨rfl, rfl⟩⟩
    have hr2 : ∀ ty, (Builtin.clear_ #[93] ty #[.slice x3 0 x4]).run Try.prog W2 = .ok (.tuple #[]) W2 := fun ty => by cases x3 <;> simp [Builtin.clear_, run_underlying undH]
    clear hT2
    go_wp2_with (at_builtin; refine wpList_cl _ (by kernel_rfl) (.tmp 110) 93 rfl _ rfl _ _ (hr2 _) ?_)
    go_wp2
    go_ret
    refine ⟨_, rfl, ?_, hG2, .inl rfl⟩
    rw [hlen.out]
    exact blk_row hB2 hgb (by have := HT.out; omega) hcm hl2 ht2
  · have s6 := sl_from undH elemH g n cap tot (by have := HT.out; omega) (by have := HT.out; omega)
    obtain ⟨W3, hr3, hG3, cur3, hB3, hl3, ht3⟩ := run_clear_pr undH W2 0 g (tot * 2) (n - tot) (cap - tot) cur2 hB2 (by rw [hl2]; have := HT.out; omega)
    go_wp2_with (at_builtin; refine wpList_cl _ (by kernel_rfl) (.tmp 110) 93 rfl _ rfl _ _ hr3 ?_)
    go_wp2
    go_ret
    refine ⟨_, rfl, ?_, hG2.trans hG3, .inl rfl⟩
    rw [hlen.out]
    exact blk_row hB3 hgb (by have := HT.out; omega) hcm (by rw [hl3, hl2]) (by rw [ht3, ht2])

theorem Replace_f (h : List Pr) (p : Pr) (i j gp base : Nat) (v : Value) (w : World) (hO : w.ownsRow base 40 2 v h.length (prcells h)) (hb : base ≤ w.heap.size) (hij : i ≤ j) (hj : j ≤ h.length) (hp : Blk w gp (prC p)) (hne : v.ownBlock ≠ some gp) (hl : h.length ≤ 1048576) :
    Calls Try.prog 72 #[v, .int .i64 (i : Int), .int .i64 (j : Int), .slice (some ⟨gp, 0, none⟩) 1 1] w fun e w' => ∃ v', e = .returned v' ∧ Grows base w v v' (h.take i ++ p :: h.drop j) w' := by
  by_cases e : i = j
  · subst e
    exact Replace_ins h p i gp base v w hO hb hj hp hne hl
  · obtain ⟨g, cap, cur, rfl, q2, q3, q4, q5, q6, q7⟩ := row_blk hO (by omega)
    by_cases e2 : j = h.length
    · subst e2
      exact Replace_tail h p h.length i g cap gp base rfl cur w q3 q2 (by omega) q4 q5 q6 q7 hp hl
    · exact Replace_mid h p h.length i j g cap gp base rfl cur w q3 q2 (by omega) (by omega) q4 q5 q6 q7 hp (fun e => hne (by rw [e]; rfl)) hl
end Go.Proofs.Yteplejpbgajecaa

/- A row of numbers of one's own, at a known block: what is kept. -/
namespace Go.Proofs.Yteplejpbgajecaa
open Go.RowKit

/-- the state of the walk -/
structure Ls (w : World) (g n : Nat) (Z : List Int) (u : World) : Prop where
  low : Below w.heap.size w u
  own : u.ownsRow w.heap.size 3 1 (.slice (some ⟨g, 0, none⟩) n n) n (icells Z)
theorem Ls.drewN {w u : World} {g n : Nat} {Z : List Int} (h : Ls w g n Z u) (k : Nat) : Ls w g n Z (u.drewN k) := ⟨Below.dN h.low k, h.own⟩
theorem Ls.keep {w u u' : World} {g n : Nat} {Z : List Int} (h : Ls w g n Z u) (hb : Below u.heap.size u u') : Ls w g n Z u' := ⟨h.low.trans (hb.mono h.low.size), owns_keep h.own hb⟩
theorem Ls.set {w u : World} {g n : Nat} {Z : List Int} (h : Ls w g n Z u) (k : Nat) (m : Int) : Ls w g n (Z.set k m) (u.setCell ⟨g, k, none⟩ (.int .i64 m)) := by
  obtain ⟨p1, g1⟩ := h.own.stored k (.int .i64 m)
  have e : (icells Z).set k (.int .i64 m) = icells (Z.set k m) := by simp [icells, List.map_set]
  rw [e] at p1
  exact ⟨h.low.grown g1 h.low.size (fun j hj => owns_ge h.own (by simpa [Value.ownBlock] using hj)), p1⟩
theorem Ls.len {w u : World} {g n : Nat} {Z : List Int} (h : Ls w g n Z u) : Z.length = n := by
  have := h.own.1
  rw [icells_length, Nat.mul_one] at this
  exact this
theorem Ls.at {w u : World} {g n : Nat} {Z : List Int} (h : Ls w g n Z u) {k : Nat} {z : Int} (hz : Z[k]? = some z) : u.cell? ⟨g, k, none⟩ = some (.int .i64 z) := by
  have hl := (List.getElem?_eq_some_iff.1 hz).1
  rw [h.len] at hl
  rw [h.own.cellAt k (by omega)]
  simp [icells, hz]
theorem low_grown {w u : World} (h : Low w u) (r : Option Nat) : w.grownBy u r := ⟨Below.os h, Below.tape h, Below.output h, Below.size h, fun k hk _ => Below.block h k hk⟩
theorem grown_set (u : World) (g j : Nat) (v : Value) : u.grownBy (u.setCell ⟨g, j, none⟩ v) (some g) := ⟨rfl, rfl, rfl, (KeepsWalks.setCell u _ v).size, fun k _ hk => Below.heap_setCell _ _ _ k (fun e => hk (by rw [e]))⟩
theorem ls_other {W0 u : World} {n : Nat} {K : List Int} {G : Nat} (h : Ls W0 G n K u) {g : Nat} (hg : G ≠ g) (hw : W0.heap.size ≤ g) (j : Nat) (v : Value) : Ls W0 G n K (u.setCell ⟨g, j, none⟩ v) :=
  ⟨h.low.grown (grown_set u g j v) h.low.size (fun q hq => by cases hq; exact hw), h.own.kept (grown_set u g j v) (.inr (fun e => by simp [Value.ownBlock] at e; omega))⟩
theorem grown_new {w u : World} {r : Option Nat} (h : w.grownBy u r) {B : Nat} (hB : w.heap.size ≤ B) (j : Nat) (v : Value) : w.grownBy (u.setCell ⟨B, j, none⟩ v) r :=
  ⟨h.os, h.tape, h.output, Nat.le_trans h.size (grown_set u B j v).size, fun k hk hn => (heap_setCell_other u _ k _ (fun e => by simp at e; omega)).trans (h.block k hk hn)⟩
theorem grown_drewN {w u : World} {r : Option Nat} (h : w.grownBy u r) (k : Nat) : w.grownBy (u.drewN k) r := ⟨h.os, h.tape, h.output, h.size, h.block⟩
end Go.Proofs.Yteplejpbgajecaa

/- sort.Search, walked: the function value may lay blocks; what holds of the memory is kept. -/
namespace Go.Proofs.Yteplejpbgajecaa
open Go.RowKit

set_option maxRecDepth 10000 in
set_option maxHeartbeats 2000000 in
theorem Search_f (g : Nat) (cb : Array Value) (n r : Nat) (p : Nat → Bool) (S : World → Prop) (w : World) (hS : S w) (eg : ∀ args w, (callFunc g args).run Try.prog w = .ok (.enter g args) w) (hn : n ≤ 1099511627776) (hr : r ≤ n)
    (hf : Hid (∀ i : Nat, i < n → ∀ u : World, S u → Calls Try.prog g (#[.int .i64 (i : Int)] ++ cb) u fun e u' => e = .returned (.bool (p i)) ∧ S u'))
    (lo : Hid (∀ i, i < r → p i = false)) (hi : Hid (∀ i, r ≤ i → i < n → p i = true)) :
    Calls Try.prog 59 #[.int .i64 (n : Int), .func (.func g) #[] cb] w fun e w' => e = .returned (.int .i64 (r : Int)) ∧ S w' := by
  go_enter Try.func59, Try.ntmps59
  go_wp2
  go_loopw [5, 6] (fun iv jv wr => ∃ (i j : Nat), iv = .int .i64 i ∧ jv = .int .i64 j ∧ i ≤ r ∧ r ≤ j ∧ j ≤ n ∧ S wr) (fun iv jv _ => (intOf jv).toNat - (intOf iv).toNat)
  case atStart => exact ⟨0, n, rfl, rfl, Nat.zero_le _, hr, Nat.le_refl _, hS⟩
  case round =>
    obtain ⟨i, j, rfl, rfl, h1, h2, h3, hSr⟩ := hrel
    by_cases hij : i < j
    · have hc := hf.out ((i + j) / 2) (by omega) wr hSr
      rw [show (((i + j) / 2 : Nat) : Int) = ((i : Int) + (j : Int)) / 2 by omega] at hc
      by_cases hm : (i + j) / 2 < r
      · rw [lo.out _ hm] at hc
        go_wp2_with (go_at_fn g; refine hc.mono ?_; rintro e w' ⟨rfl, hS'⟩)
        go_roundw
        case rel => exact ⟨(i + j) / 2 + 1, j, by go_num, rfl, by omega, h2, h3, hS'⟩
        case measure => simp [intOf]; omega
      · rw [hi.out _ (by omega) (by omega)] at hc
        go_wp2_with (go_at_fn g; refine hc.mono ?_; rintro e w' ⟨rfl, hS'⟩)
        go_roundw
        case rel => exact ⟨i, (i + j) / 2, rfl, by go_num, h1, by omega, by omega, hS'⟩
        case measure => simp [intOf]; omega
    · obtain rfl : i = r := by omega
      go_wp2
      go_ret
      exact ⟨rfl, hSr⟩
end Go.Proofs.Yteplejpbgajecaa

/- Heads of rows: upTo, behind, above of the code, walked. -/
namespace Go.Proofs.Yteplejpbgajecaa
open Go.RowKit
attribute [local simp] low_drew

theorem cell_stay {u u' : World} (h : Below u.heap.size u u') {b o : Nat} {v : Value} (hb : b < u.heap.size) (hc : u.cell? ⟨b, o, none⟩ = some v) : u'.cell? ⟨b, o, none⟩ = some v := by
  rw [← hc]
  unfold World.cell?
  rw [h.block b hb]
/-- what X the i-th has -/
def px (h : List Pr) (i : Nat) : Int := (h[i]?.map (·.X)).getD 0
def py (h : List Pr) (i : Nat) : Int := (h[i]?.map (·.Y)).getD 0
theorem px_eq {h : List Pr} {i : Nat} (hi : i < h.length) : px h i = h[i].X := by simp [px, hi]
theorem py_eq {h : List Pr} {i : Nat} (hi : i < h.length) : py h i = h[i].Y := by simp [py, hi]

theorem upTo1_f (h : List Pr) (x : Int) (i B1 B2 : Nat) (hv : Value) (W u : World) (hL : Low W u) (hb1 : B1 < W.heap.size) (hb2 : B2 < W.heap.size) (c1 : W.cell? ⟨B1, 0, none⟩ = some hv) (c2 : W.cell? ⟨B2, 0, none⟩ = some (.int .i64 x)) (hh : HPr W hv h) (hi : i < h.length) :
    Calls Try.prog 75 #[.int .i64 (i : Int), .pointer (some ⟨B1, 0, none⟩), .pointer (some ⟨B2, 0, none⟩)] u fun e u' => e = .returned (.bool (decide (px h i ≤ x))) ∧ Low W u' := by
  obtain ⟨ho, hc, rfl⟩ := Holds.form hh
  obtain ⟨b, off, rfl, hbl, hcs⟩ := HPr.at hh (by omega)
  have d1 := cell_stay hL hb1 c1
  have d2 := cell_stay hL hb2 c2
  have d3 := cell_stay hL hbl (hcs i hi).1
  rw [px_eq hi]
  generalize h[i].X = X at *
  clear c1 c2 hcs
  have i1 : 0 ≤ (i : Int) := by omega
  have i2 : (i : Int) < (h.length : Int) := by omega
  go_enter Try.func75, Try.ntmps75
  go_wp2_with fail
  go_quiet (fail)
  go_wp2
  go_ret
  exact ⟨rfl, Below.dN hL _⟩

theorem with1_f (h : List Pr) (p : Pr) (i B1 B2 : Nat) (hv : Value) (W u : World) (hL : Low W u) (hb1 : B1 < W.heap.size) (hb2 : B2 < W.heap.size) (c1 : W.cell? ⟨B1, 0, none⟩ = some hv) (c2 : W.cell? ⟨B2, 1, none⟩ = some (.int .i64 p.Y)) (hh : HPr W hv h) (hi : i < h.length) :
    Calls Try.prog 71 #[.int .i64 (i : Int), .pointer (some ⟨B1, 0, none⟩), .pointer (some ⟨B2, 0, none⟩)] u fun e u' => e = .returned (.bool (decide (p.Y < py h i))) ∧ Low W u' := by
  obtain ⟨ho, hc, rfl⟩ := Holds.form hh
  obtain ⟨b, off, rfl, hbl, hcs⟩ := HPr.at hh (by omega)
  have d1 := cell_stay hL hb1 c1
  have d2 := cell_stay hL hb2 c2
  have d3 := cell_stay hL hbl (hcs i hi).2
  rw [py_eq hi]
  generalize h[i].Y = X at *
  clear c1 c2 hcs
  have i1 : 0 ≤ (i : Int) := by omega
  have i2 : (i : Int) < (h.length : Int) := by omega
  go_enter Try.func71, Try.ntmps71
  go_wp2_with fail
  go_quiet (fail)
  go_wp2
  go_ret
  exact ⟨rfl, Below.dN hL _⟩

theorem upTo_f (h : List Pr) (x : Int) (v : Value) (w : World) (hh : HPr w v h) (hl : h.length ≤ 1048576) (hs : Hid (Stair h)) (r : Nat) (hr : Hid (upto h x = r)) :
    Calls Try.prog 70 #[v, .int .i64 x] w fun e w' => e = .returned (.int .i64 (r : Int)) ∧ Below w.heap.size w w' := by
  obtain ⟨ho, hc, rfl⟩ := Holds.form hh
  have hrl : r ≤ h.length := by rw [← hr.out]; exact upto_le h x
  obtain ⟨W2, hW2⟩ : ∃ W2, (w.alloc (Obj.cells #[.slice ho h.length hc] 93)).alloc (Obj.cells #[.int .i64 x] 3) = W2 := ⟨_, rfl⟩
  have hB : Below w.heap.size w W2 := by rw [← hW2]; exact ((Below.refl _ w).alloc (Nat.le_refl _) _).alloc (by simp) _
  have hsz : W2.heap.size = w.heap.size + 1 + 1 := by rw [← hW2]; simp
  have k1 : W2.heap[w.heap.size]? = some (Obj.cells #[.slice ho h.length hc] 93 (0, 0)) := by rw [← hW2]; exact (Below.heap_alloc _ _ _ (by simp)).trans (_root_.Go.heap_alloc_new w _)
  have k2 : W2.heap[w.heap.size + 1]? = some (Obj.cells #[.int .i64 x] 3 (0, 0)) := by rw [← hW2]; exact alloc_second w _ _
  have c1 : W2.cell? ⟨w.heap.size, 0, none⟩ = some (.slice ho h.length hc) := by rw [Lib.cell_of_heap k1]; rfl
  have c2 : W2.cell? ⟨w.heap.size + 1, 0, none⟩ = some (.int .i64 x) := by rw [Lib.cell_of_heap k2]; rfl
  have hh2 := HPr.keep hh hB (Nat.le_refl _)
  go_enter Try.func70, Try.ntmps70
  go_wp2_with fail
  refine (Search_f 75 #[.pointer (some ⟨w.heap.size, 0, none⟩), .pointer (some ⟨w.heap.size + 1, 0, none⟩)] h.length r (fun i => decide (px h i ≤ x)) (fun u => Low W2 u) W2 (Below.refl _ _) (enters_of Try.func75 (by kernel_rfl) rfl) (by omega) hrl
    (fun i hi u hu => upTo1_f h x i w.heap.size (w.heap.size + 1) _ W2 u hu (by omega) (by omega) c1 c2 hh2 hi)
    (fun i hi => by
      have hi' : i < h.length := by omega
      rw [← hr.out] at hi
      have := upto_lt hi hi'
      rw [px_eq hi']
      exact decide_eq_false (by omega))
    (fun i hi hil => by
      rw [← hr.out] at hi
      rw [px_eq hil]
      exact decide_eq_true (upto_ge hs.out hi hil))).mono ?_
  rintro e w3 ⟨rfl, hL3⟩
  go_wp2
  go_ret
  exact ⟨rfl, hB.trans (Below.mono hL3 (by omega))⟩

theorem above_f (p q : Pr) (r : Bool) (w : World) (hr : Hid (decide (ab p q) = r)) :
    Calls Try.prog 41 #[prV p, prV q] w fun e w' => e = .returned (.bool r) ∧ Below w.heap.size w w' := by
  obtain ⟨ax, ay⟩ := p
  obtain ⟨bx, by'⟩ := q
  unfold prV
  have h := hr.out
  unfold ab at h
  dsimp only at h
  go_enter Try.func41, Try.ntmps41
  subst h
  clear hr
  by_cases h1 : bx < ax
  · go_wp2
    go_ret
    exact ⟨ret_bool (by simp [h1]), ((Below.refl _ w).alloc (Nat.le_refl _) _).alloc (by simp) _⟩
  · go_wp2
    go_ret
    exact ⟨ret_bool (by simp; omega), ((Below.refl _ w).alloc (Nat.le_refl _) _).alloc (by simp) _⟩

set_option maxHeartbeats 1000000 in
theorem behind_f (h : List Pr) (p : Pr) (v : Value) (w : World) (hh : HPr w v h) (hl : h.length ≤ 1048576) (hs : Hid (Stair h)) (r : Bool) (hr : Hid (r = true ↔ ∃ a ∈ h, ab a p)) :
    Calls Try.prog 61 #[v, prV p] w fun e w' => e = .returned (.bool r) ∧ Below w.heap.size w w' := by
  obtain ⟨ho, hc, rfl⟩ := Holds.form hh
  obtain ⟨X, Y⟩ := p
  have hrr := hr.out
  rw [behind_iff hs.out] at hrr
  dsimp only at hrr
  obtain ⟨k, hk⟩ : ∃ k, upto h X = k := ⟨_, rfl⟩
  have hkl := upto_le h X
  rw [hk] at hrr hkl
  have HK : Hid (upto h X = k) := hk
  have HR : Hid (r = true ↔ 0 < k ∧ ∃ a, h[k - 1]? = some a ∧ Y < a.Y) := hrr
  clear hk hrr hr
  unfold prV
  dsimp only
  obtain ⟨W1, hW1⟩ : ∃ W1, w.alloc (Obj.cells #[.int .i64 X, .int .i64 Y] 40) = W1 := ⟨_, rfl⟩
  have hB : Below w.heap.size w W1 := by rw [← hW1]; exact (Below.refl _ w).alloc (Nat.le_refl _) _
  have hsz : W1.heap.size = w.heap.size + 1 := by rw [← hW1]; simp
  have k1 : W1.heap[w.heap.size]? = some (Obj.cells #[.int .i64 X, .int .i64 Y] 40 (0, 0)) := by rw [← hW1]; exact _root_.Go.heap_alloc_new w _
  have c1 : W1.cell? ⟨w.heap.size, 0, none⟩ = some (.int .i64 X) := by rw [Lib.cell_of_heap k1]; rfl
  have c2 : W1.cell? ⟨w.heap.size, 1, none⟩ = some (.int .i64 Y) := by rw [Lib.cell_of_heap k1]; rfl
  have hh1 := HPr.keep hh hB (Nat.le_refl _)
  go_enter Try.func61, Try.ntmps61
  go_wp2_with fail
  refine (upTo_f h X _ W1 hh1 hl hs k HK).mono ?_
  rintro e w2 ⟨rfl, hB2⟩
  have hB02 : Below w.heap.size w w2 := hB.trans (hB2.mono (by omega))
  have d2 := cell_stay hB2 (by omega) c2
  have hh2 := HPr.keep hh1 hB2 (Nat.le_refl _)
  clear c1 c2 k1 hh1 hW1
  cases k with
  | zero =>
    have : r = false := by
      cases r with
      | false => rfl
      | true => have := (HR.out.1 rfl).1; omega
    subst this
    have e1 : decide ((0 : Int) < 0) = false := rfl
    go_wp2_with fail
    go_big_quiet (fail)
    go_wp2
    go_ret
    exact ⟨rfl, Below.dN hB02 _⟩
  | succ k =>
    obtain ⟨b, off, rfl, _, hcs⟩ := HPr.at hh2 (by omega)
    have d3 := (hcs k (by omega)).2
    obtain ⟨Z, hZ⟩ : ∃ Z, h[k].Y = Z := ⟨_, rfl⟩
    rw [hZ] at d3
    have hrz : r = decide (Y < Z) := by
      have := HR.out
      rw [Nat.add_sub_cancel, List.getElem?_eq_getElem (by omega)] at this
      cases r with
      | false =>
        symm
        refine decide_eq_false (fun c => ?_)
        have := this.2 ⟨by omega, _, rfl, by rw [hZ]; exact c⟩
        cases this
      | true =>
        obtain ⟨_, a, ha, hya⟩ := this.1 rfl
        cases ha
        rw [hZ] at hya
        exact (decide_eq_true hya).symm
    subst hrz
    clear hcs hZ HR HK
    have e1 : decide ((0 : Int) < (k : Int) + 1) = true := decide_eq_true (by omega)
    have i1 : 0 ≤ (k : Int) := by omega
    have i2 : (k : Int) < (h.length : Int) := by omega
    have n4 : IntKind.i64.wrap ((k : Int) + 1 - 1) = (k : Int) := by rw [IntKind.wrap_i64]; omega
    have n6 : (k : Int) + 1 - 1 = (k : Int) := by omega
    go_wp2_with fail
    go_big_quiet (fail)
    go_wp2
    go_ret
    exact ⟨rfl, Below.dN hB02 _⟩
end Go.Proofs.Yteplejpbgajecaa

/- The heads and one more: heads.with, walked. -/
namespace Go.Proofs.Yteplejpbgajecaa
open Go.RowKit
attribute [local simp] low_drew low_alloc

theorem owns_lt2 {w : World} {base n : Nat} {e : TypeId} {s : Nat} {v : Value} {xs : List Value} (ho : w.ownsRow base e s v n xs) {g : Nat} (hg : v.ownBlock = some g) : g < w.heap.size := by
  rcases ho.2 with ⟨h1, _⟩ | ⟨g', cap, cur, q1, q2, q3, _⟩
  · rw [h1] at hg; cases hg
  · rw [q1] at hg; cases hg; exact (Array.getElem?_eq_some_iff.1 q3).1
theorem blk_new (u : World) (p : Pr) : Blk (u.alloc (.cells #[.int .i64 p.X, .int .i64 p.Y] 40)) u.heap.size (prC p) := _root_.Go.heap_alloc_new u _
/-- a new pair in memory -/
structure Np (W : World) (gp : Nat) (p : Pr) (u : World) : Prop where
  blk : Blk u gp (prC p)
  ge : W.heap.size ≤ gp
theorem np_new {W u : World} (h : Low W u) (p : Pr) : Np W u.heap.size p (u.alloc (.cells #[.int .i64 p.X, .int .i64 p.Y] 40)) := ⟨blk_new u p, Below.size h⟩
theorem np_drew (W : World) (gp : Nat) (p : Pr) (u : World) : Np W gp p u.drew ↔ Np W gp p u := ⟨fun h => ⟨h.blk, h.ge⟩, fun h => ⟨h.blk, h.ge⟩⟩

theorem upTo_low (h : List Pr) (x : Int) (v : Value) (W u : World) (hh : HPr W v h) (hl : h.length ≤ 1048576) (hs : Hid (Stair h)) (r : Nat) (hr : Hid (upto h x = r)) (hL : Low W u) :
    Calls Try.prog 70 #[v, .int .i64 x] u fun e w' => e = .returned (.int .i64 (r : Int)) ∧ Low W w' := by
  refine (upTo_f h x v u (HPr.keep hh hL (Nat.le_refl _)) hl hs r hr).mono ?_
  rintro e w' ⟨rfl, h2⟩
  exact ⟨rfl, Below.trans hL (h2.mono (Below.size hL))⟩
theorem upTo_np (h : List Pr) (x : Int) (v : Value) (W u : World) (hh : HPr W v h) (hl : h.length ≤ 1048576) (hs : Hid (Stair h)) (r : Nat) (hr : Hid (upto h x = r)) (hL : Low W u) (gp : Nat) (p : Pr) (hp : Np W gp p u) :
    Calls Try.prog 70 #[v, .int .i64 x] u fun e w' => e = .returned (.int .i64 (r : Int)) ∧ Low W w' ∧ Np W gp p w' := by
  refine (upTo_f h x v u (HPr.keep hh hL (Nat.le_refl _)) hl hs r hr).mono ?_
  rintro e w' ⟨rfl, h2⟩
  exact ⟨rfl, Below.trans hL (h2.mono (Below.size hL)), (h2.block gp (Array.getElem?_eq_some_iff.1 hp.blk).1).trans hp.blk, hp.ge⟩
theorem Replace_low (h : List Pr) (p : Pr) (i j gp base : Nat) (v : Value) (W u : World) (hO : W.ownsRow base 40 2 v h.length (prcells h)) (hb : base ≤ W.heap.size) (hij : i ≤ j) (hj : j ≤ h.length) (hl : h.length ≤ 1048576) (hL : Low W u) (hp : Np W gp p u) :
    Calls Try.prog 72 #[v, .int .i64 (i : Int), .int .i64 (j : Int), .slice (some ⟨gp, 0, none⟩) 1 1] u fun e w' => ∃ v', e = .returned v' ∧ Grows base W v v' (h.take i ++ p :: h.drop j) w' := by
  refine (Replace_f h p i j gp base v u (owns_keep hO hL) (Nat.le_trans hb (Below.size hL)) hij hj hp.blk (fun e => by have := owns_lt2 hO e; have := hp.ge; omega) hl).mono ?_
  rintro e w' ⟨v', rfl, h1, h2, h3⟩
  refine ⟨v', rfl, h1, (low_grown hL _).trans h2, ?_⟩
  rcases h3 with h3 | ⟨g, h3, h4⟩
  · exact .inl h3
  · exact .inr ⟨g, h3, Nat.le_trans (Below.size hL) h4⟩

set_option maxRecDepth 10000 in
set_option maxHeartbeats 2000000 in
theorem with_f (h : List Pr) (p : Pr) (base : Nat) (v : Value) (w : World) (hO : w.ownsRow base 40 2 v h.length (prcells h)) (hb : base ≤ w.heap.size) (hs : Hid (Stair h)) (hn : Hid (¬ ∃ a ∈ h, ab a p)) (hl : h.length ≤ 1048576) (L : List Pr) (hL : Hid (ins h p = L)) :
    Calls Try.prog 62 #[v, prV p] w fun e w' => ∃ v', e = .returned v' ∧ Grows base w v v' L w' := by
  obtain ⟨ho, hc, rfl⟩ := (holds_of hO).form
  obtain ⟨X, Y⟩ := p
  obtain ⟨i, hi⟩ : ∃ i, upto h X = i := ⟨_, rfl⟩
  obtain ⟨j, hj⟩ : ∃ j, grt h Y = j := ⟨_, rfl⟩
  have hij : i ≤ j := by rw [← hi, ← hj]; exact upto_grt hs.out hn.out
  have hjl : j ≤ h.length := by rw [← hj]; exact grt_le h Y
  have HI : Hid (upto h X = i) := hi
  have HJ : Hid (grt h Y = j) := hj
  have HL : Hid (h.take i ++ ⟨X, Y⟩ :: h.drop j = L) := (by show _ = _; rw [← hL.out, ← hi, ← hj]; rfl)
  clear hi hj hL
  unfold prV
  dsimp only
  obtain ⟨W2, hW2⟩ : ∃ W2, (w.alloc (Obj.cells #[.slice ho h.length hc] 93)).alloc (Obj.cells #[.int .i64 X, .int .i64 Y] 40) = W2 := ⟨_, rfl⟩
  have hB : Below w.heap.size w W2 := by rw [← hW2]; exact ((Below.refl _ w).alloc (Nat.le_refl _) _).alloc (by simp) _
  have hsz : W2.heap.size = w.heap.size + 1 + 1 := by rw [← hW2]; simp
  have k1 : W2.heap[w.heap.size]? = some (Obj.cells #[.slice ho h.length hc] 93 (0, 0)) := by rw [← hW2]; exact (Below.heap_alloc _ _ _ (by simp)).trans (_root_.Go.heap_alloc_new w _)
  have k2 : W2.heap[w.heap.size + 1]? = some (Obj.cells #[.int .i64 X, .int .i64 Y] 40 (0, 0)) := by rw [← hW2]; exact alloc_second w _ _
  have c1 : W2.cell? ⟨w.heap.size, 0, none⟩ = some (.slice ho h.length hc) := by rw [Lib.cell_of_heap k1]; rfl
  have c2 : W2.cell? ⟨w.heap.size + 1, 0, none⟩ = some (.int .i64 X) := by rw [Lib.cell_of_heap k2]; rfl
  have c3 : W2.cell? ⟨w.heap.size + 1, 1, none⟩ = some (.int .i64 Y) := by rw [Lib.cell_of_heap k2]; rfl
  have hO2 := owns_keep hO hB
  have hh2 : HPr W2 (.slice ho h.length hc) h := holds_of hO2
  have hcs : ∀ u : World, Low W2 u → u.cell? ⟨w.heap.size, 0, none⟩ = some (.slice ho h.length hc) ∧ u.cell? ⟨w.heap.size + 1, 0, none⟩ = some (.int .i64 X) ∧ u.cell? ⟨w.heap.size + 1, 1, none⟩ = some (.int .i64 Y) := fun u hu => ⟨cell_stay hu (by omega) c1, cell_stay hu (by omega) c2, cell_stay hu (by omega) c3⟩
  have hcs2 : ∀ u : World, W2.grownBy u (Value.slice ho h.length hc).ownBlock → u.cell? ⟨w.heap.size, 0, none⟩ = some (.slice ho h.length hc) ∧ u.cell? ⟨w.heap.size + 1, 0, none⟩ = some (.int .i64 X) ∧ u.cell? ⟨w.heap.size + 1, 1, none⟩ = some (.int .i64 Y) := fun u hu => by
    have n1 := hu.block w.heap.size (by omega) (fun e => Nat.lt_irrefl _ (owns_lt2 hO e.symm))
    have n2 := hu.block (w.heap.size + 1) (by omega) (fun e => by have := owns_lt2 hO e.symm; omega)
    exact ⟨by rw [Lib.cell_of_heap (n1.trans k1)]; rfl, by rw [Lib.cell_of_heap (n2.trans k2)]; rfl, by rw [Lib.cell_of_heap (n2.trans k2)]; rfl⟩
  clear k1 k2
  go_enter Try.func62, Try.ntmps62
  go_wp2_with fail
  refine (Search_f 71 #[.pointer (some ⟨w.heap.size, 0, none⟩), .pointer (some ⟨w.heap.size + 1, 0, none⟩)] h.length j (fun i => decide (Y < py h i)) (fun u => Low W2 u) W2 (Below.refl _ _) (enters_of Try.func71 (by kernel_rfl) rfl) (by omega) hjl
    (fun i hi u hu => with1_f h ⟨X, Y⟩ i w.heap.size (w.heap.size + 1) _ W2 u hu (by omega) (by omega) c1 c3 hh2 hi)
    (fun i hi => by
      have hi' : i < h.length := by omega
      rw [← HJ.out] at hi
      have := grt_lt hi hi'
      rw [py_eq hi']
      exact decide_eq_false (by omega))
    (fun i hi hil => by
      rw [← HJ.out] at hi
      rw [py_eq hil]
      exact decide_eq_true (grt_ge hs.out hi hil))).mono ?_
  rintro e w3 ⟨rfl, hL3⟩
  obtain ⟨d1, d2, d3⟩ := hcs w3 hL3
  have hL3' : Low W2 w3 := hL3
  clear c1 c2 c3
  go_wp2_with fail
  go_region_held3 (fun w' => w'.cell? ⟨w.heap.size, 0, none⟩ = some (.slice ho h.length hc) ∧ w'.cell? ⟨w.heap.size + 1, 0, none⟩ = some (.int .i64 X) ∧ w'.cell? ⟨w.heap.size + 1, 1, none⟩ = some (.int .i64 Y)) (go_keep)
    (first
      | (go_at_call 70; refine (upTo_np h X _ W2 _ hh2 hl hs i HI (by first | assumption | (simp [*]; done)) _ ⟨X, Y⟩ (by exact ⟨blk_new w3 ⟨X, Y⟩, Below.size hL3'⟩)).mono ?_; rintro e u1 ⟨rfl, hlow, hnp⟩; obtain ⟨e1, e2, e3⟩ := hcs u1 hlow)
      | (go_at_call 70; refine (upTo_low h X _ W2 _ hh2 hl hs i HI (by first | assumption | (simp [*]; done))).mono ?_; rintro e u1 ⟨rfl, hlow⟩; obtain ⟨e1, e2, e3⟩ := hcs u1 hlow)
      | (go_at_call 72; refine (Replace_low h ⟨X, Y⟩ i j _ base _ W2 _ hO2 (by omega) hij hjl hl (by first | assumption | (simp [*]; done)) (by first | exact hnp | exact ⟨hnp.blk, hnp.ge⟩ | exact ⟨blk_new u1 ⟨X, Y⟩, Below.size hlow⟩)).mono ?_; rintro e u2 ⟨v', rfl, hG⟩; obtain ⟨e1, e2, e3⟩ := hcs2 u2 hG.2.1))
  all_goals
    rw [HL.out] at hG
    obtain ⟨ao', c', rfl⟩ := (holds_of hG.1).form
    go_wp2
    go_ret
    refine ⟨_, rfl, ?_, (low_grown hB _).trans hG.2.1, ?_⟩
    · exact hG.1
    · rcases hG.2.2 with h3 | ⟨g, h3, h4⟩
      · exact .inl h3
      · exact .inr ⟨g, h3, by omega⟩
end Go.Proofs.Yteplejpbgajecaa

/- The iterator slices.Backward over a row of pairs: its contract for every loop body that keeps what it reads. -/
namespace Go.Proofs.Yteplejpbgajecaa
open Go.RowKit Go.Shelf
attribute [local go_sem] Oper.semAt_some

/-- what a round keeps: all below n₀, and the iterator's box -/
structure Kq (n₀ lo : Nat) (W W' : World) : Prop where
  low : Below n₀ W W'
  box : W'.heap[lo]? = W.heap[lo]?
section
variable {n₀ lo : Nat} {A B C : World}
theorem Kq.refl (W : World) : Kq n₀ lo W W := ⟨Below.refl _ _, rfl⟩
theorem Kq.trans (h : Kq n₀ lo A B) (k : Kq n₀ lo B C) : Kq n₀ lo A C := ⟨h.low.trans k.low, k.box.trans h.box⟩
theorem Kq.alloc {W : World} (hn : n₀ ≤ W.heap.size) (hl : lo < W.heap.size) (o : Obj) : Kq n₀ lo W (W.alloc o) := ⟨(Below.refl _ W).alloc hn o, Below.heap_alloc W o lo hl⟩
theorem Kq.putObj {w : World} (hn : n₀ ≤ w.heap.size) (hl : lo < w.heap.size) (W : World) (l : Nat) (o o' : Obj) (hlw : w.heap.size ≤ l) (h : W.heap[l]? = some o) (hc : o.isCells = false) (hw : o.isWalk = false) : Kq n₀ lo W (W.putObj l o') :=
  ⟨belowK_b hn W l o o' hlw h hc hw, by have hne : l ≠ lo := (by omega); simp [World.putObj, hne]⟩
theorem Kq.drewN (W : World) (k : Nat) : Kq n₀ lo W (W.drewN k) := ⟨Below.dN (Below.refl _ W) k, rfl⟩
end
/-- the members with their places -/
def en (k : Nat) : List Pr → List (Nat × Pr)
  | [] => []
  | p :: t => (k, p) :: en (k + 1) t
theorem en_append (k : Nat) (a b : List Pr) : en k (a ++ b) = en k a ++ en (k + a.length) b := by
  induction a generalizing k with
  | nil => rfl
  | cons p t ih => simp [en, ih]; congr 1; omega
theorem en_take (l : List Pr) (i : Nat) (hi : i < l.length) : (en 0 (l.take (i + 1))).reverse = (i, l[i]) :: (en 0 (l.take i)).reverse := by
  rw [List.take_succ_eq_append_getElem hi, en_append, List.reverse_append]
  have : 0 + (l.take i).length = i := by rw [List.length_take]; omega
  rw [this]
  rfl
theorem en_snd (k : Nat) (l : List Pr) : (en k l).map (·.2) = l := by
  induction l generalizing k with
  | nil => rfl
  | cons p t ih => simp [en, ih]
/-- a member with its place, which is below n -/
abbrev Mp (n : Nat) := { x : Nat × Pr // x.1 < n }

theorem Backward_any (ao : Option Addr) (len c : Nat) (w : World) :
    Calls Try.prog 58 #[.slice ao len c] w fun e w' =>
      e = .returned (.func (.func 69) #[] #[.pointer (some ⟨w.heap.size, 0, none⟩)]) ∧ w' = w.alloc (.cells #[.slice ao len c] 37) := by
  go_enter Try.func58, Try.ntmps58
  go_wp2
  go_ret
  exact ⟨rfl, rfl⟩

set_option maxRecDepth 100000 in
set_option maxHeartbeats 2000000 in
theorem back1_in (N : Nat) (hN : 1 ≤ N) (lp lo n₀ : Nat) (ao : Option Addr) (ca : Nat) (l : List Pr) (hlen : l.length ≤ 1048576)
    (J Jx : List (Mp l.length) → World → Prop) (W : World) (_hJ : AbidesFrom W.heap.size J)
    (hY : ∀ pre (x : Mp l.length) W1, J pre W1 → pre.length < l.length → YieldAt Fence.wide (N - 1) Try.prog lp #[.int .i64 (x.1.1 : Int), prV x.1.2] W1 fun e W' =>
      (e = .returned (.bool true) ∧ J (pre ++ [x]) W' ∧ Kq n₀ lo W1 W') ∨ (e = .returned (.bool false) ∧ Jx (pre ++ [x]) W'))
    (_hlo : n₀ ≤ lo) (_hsz : lo < W.heap.size) (hb0 : W.heap[lo]? = some (.cells #[.slice ao l.length ca] 37 (0, 0)))
    (hl : HPr W (.slice ao l.length ca) l) (hb : ∀ a, ao = some a → 0 < l.length → a.block < n₀) (h0 : J [] W) :
    CallsIn Fence.wide N Try.prog 69 #[.func (.yield lp) #[] #[], .pointer (some ⟨lo, 0, none⟩)] W fun e W' => (∃ v, e = .returned v) ∧
      ((∃ ys : List (Mp l.length), ys.map (·.1) = (en 0 l).reverse ∧ J ys W') ∨ (∃ pre, True ∧ Jx pre W')) := by
  have d0 : W.cell? ⟨lo, 0, none⟩ = some (.slice ao l.length ca) := by rw [Lib.cell_of_heap hb0]; rfl
  refine callsIn_of_wp Try.func69 rfl trivial ?_ rfl
  simp only [Try.ntmps69, List.size_toArray, List.length_cons, List.length_nil, Nat.reduceAdd, Nat.reduceSub, Array.replicate_succ, Array.replicate_zero, List.push_toArray, List.append_toArray, List.nil_append, List.cons_append]
  gi_wp2
  gi_loopw [3] (fun iv wr => ∃ (k : Nat) (z : Int) (pre : List (Mp l.length)), k ≤ l.length ∧ pre.length + k = l.length ∧ iv = .int .i64 z ∧ z + 1 = k ∧ Kq n₀ lo W wr ∧ J pre wr ∧ Hid (pre.map (·.1) ++ (en 0 (l.take k)).reverse = (en 0 l).reverse)) (fun iv _ => (intOf iv + 1).toNat)
  case atStart => exact ⟨l.length, (l.length : Int) - 1, [], Nat.le_refl _, by simp, by go_num, by omega, Kq.refl W, h0, (by show _ = _; simp)⟩
  case round =>
    obtain ⟨k, z, pre, hk, hpl, rfl, hz, hK, hJr, hR⟩ := hrel
    have hszr := hK.low.size
    have hbx := hK.box.trans hb0
    have d1 : wr.cell? ⟨lo, 0, none⟩ = some (.slice ao l.length ca) := by rw [Lib.cell_of_heap hbx]; rfl
    cases k with
    | zero =>
      obtain rfl : z = -1 := by omega
      gi_wp2
      go_end0
      exact ⟨⟨_, rfl⟩, .inl ⟨pre, by have h := hR.out; rw [← h]; simp [en], hJr⟩⟩
    | succ i =>
      obtain rfl : z = (i : Int) := by omega
      have hlt : i < l.length := by omega
      obtain ⟨bk, off, rfl, hbk, hc⟩ := HPr.at hl (by omega)
      have hbn := hb _ rfl (by omega)
      have hcell : ∀ o v, W.cell? ⟨bk, o, none⟩ = some v → wr.cell? ⟨bk, o, none⟩ = some v := fun o v h => by
        rw [← h]
        unfold World.cell?
        rw [hK.low.block bk hbn]
      obtain ⟨c0', c1'⟩ := hc i hlt
      have c0 := hcell _ _ c0'
      have c1 := hcell _ _ c1'
      have HR : Hid (pre.map (·.1) ++ (i, l[i]) :: (en 0 (l.take i)).reverse = (en 0 l).reverse) := (by
        show _ = _
        rw [← en_take l i hlt]
        exact hR.out)
      obtain ⟨p, hp⟩ : ∃ p, l[i] = p := ⟨_, rfl⟩
      rw [hp] at c0 c1 HR
      clear hc c0' c1' hcell hR hp
      have i1 : 0 ≤ (i : Int) := by omega
      have i2 : (i : Int) < (l.length : Int) := by omega
      obtain ⟨X, Y⟩ := p
      dsimp only at c0 c1
      obtain ⟨fn, tmps, assign, body, hy, hRd⟩ := hY pre ⟨(i, ⟨X, Y⟩), hlt⟩ wr hJr (by omega)
      simp only [prV] at hy
      gi_wp2
      refine hRd.mono ?_
      rintro e W3 (⟨rfl, hJ3, hk3⟩ | ⟨rfl, hJx3⟩)
      · gi_wp2
        go_roundw
        case rel => exact ⟨i, (i : Int) - 1, pre ++ [⟨(i, ⟨X, Y⟩), hlt⟩], by omega, by simp; omega, by go_num, by omega, hK.trans hk3, hJ3, (by show _ = _; rw [← HR.out]; simp)⟩
        case measure => simp [intOf]
      · gi_wp2
        refine bodyPost_ret (results_none rfl _ _ _) rfl ?_
        exact ⟨⟨_, rfl⟩, .inr ⟨_, trivial, hJx3⟩⟩

theorem HPr.lt {w : World} {ao : Option Addr} {n c : Nat} {l : List Pr} (h : HPr w (.slice ao n c) l) (a : Addr) (ha : ao = some a) (h0 : 0 < l.length) : a.block < w.heap.size := by
  obtain ⟨b, off, hb, hlt, _⟩ := HPr.at h h0
  rw [ha] at hb
  cases hb
  exact hlt
/-- the iterator over a row of pairs from its end -/
theorem back_stops (N : Nat) (hN : 1 ≤ N) (lo n₀ : Nat) (ao : Option Addr) (ca : Nat) (l : List Pr) (hlen : l.length ≤ 1048576) (w : World)
    (hlo : n₀ ≤ lo) (hsz : lo < w.heap.size) (hb0 : w.heap[lo]? = some (.cells #[.slice ao l.length ca] 37 (0, 0))) (hl : HPr w (.slice ao l.length ca) l) (hb : ∀ a, ao = some a → 0 < l.length → a.block < n₀) :
    SeqStopsK Fence.wide N Try.prog 69 #[.pointer (some ⟨lo, 0, none⟩)] (fun x : Mp l.length => #[.int .i64 (x.1.1 : Int), prV x.1.2]) (Kq n₀ lo) (fun ys => ys.map (·.1) = (en 0 l).reverse) (fun _ => True) l.length w := fun lp J Jx W hW hJ _ hY h0 =>
  back1_in N hN lp lo n₀ ao ca l hlen J Jx W hJ hY hlo (Nat.lt_of_lt_of_le hsz hW.size) ((hW.block _ hsz).trans hb0) (HPr.keep hl hW (Nat.le_refl _)) hb h0
end Go.Proofs.Yteplejpbgajecaa

/- The heads of all lengths in memory; the closure that looks whether one of them may stand behind a pair, walked. -/
namespace Go.Proofs.Yteplejpbgajecaa
open Go.RowKit
attribute [local simp] low_drew low_alloc

theorem owns_cells {w : World} {base n : Nat} {e : TypeId} {s : Nat} {v : Value} {xs : List Value} (ho : w.ownsRow base e s v n xs) {g : Nat} (hg : v.ownBlock = some g) : ∃ cur, w.heap[g]? = some (.cells cur e (0, 0)) ∧ base ≤ g := by
  rcases ho.2 with ⟨h1, _⟩ | ⟨g', cap, cur, q1, q2, q3, _⟩
  · rw [h1] at hg; cases hg
  · rw [q1] at hg; cases hg; exact ⟨cur, q3, q2⟩
theorem owns_differ {w : World} {base base' n n' : Nat} {e e' : TypeId} {s s' : Nat} {v v' : Value} {xs xs' : List Value} (ho : w.ownsRow base e s v n xs) (ho' : w.ownsRow base' e' s' v' n' xs') (hne : e ≠ e') : v.ownBlock = none ∨ v.ownBlock ≠ v'.ownBlock := by
  cases h : v.ownBlock with
  | none => exact .inl rfl
  | some g =>
    right
    intro e2
    obtain ⟨cur, h1, _⟩ := owns_cells ho h
    obtain ⟨cur', h2, _⟩ := owns_cells ho' e2.symm
    rw [h1] at h2
    cases h2
    exact hne rfl
/-- the heads of all lengths: a row of rows, each with its own block -/
structure Al (W : World) (base : Nat) (va : Value) (vals : List Value) (H : List (List Pr)) : Prop where
  row : W.ownsRow base 93 1 va vals.length vals
  len : vals.length = H.length
  own : ∀ (n : Nat) (v : Value) (h : List Pr), vals[n]? = some v → H[n]? = some h → W.ownsRow base 40 2 v h.length (prcells h)
  apart : ∀ (i j : Nat) (v v' : Value) (g : Nat), i ≠ j → vals[i]? = some v → vals[j]? = some v' → v.ownBlock = some g → v'.ownBlock ≠ some g
theorem Al.keep {W u : World} {base : Nat} {va : Value} {vals : List Value} {H : List (List Pr)} (h : Al W base va vals H) (hb : Low W u) : Al u base va vals H :=
  ⟨owns_keep h.row hb, h.len, fun n v k h1 h2 => owns_keep (h.own n v k h1 h2) hb, h.apart⟩
theorem Al.at {W : World} {base : Nat} {va : Value} {vals : List Value} {H : List (List Pr)} (h : Al W base va vals H) {n : Nat} (hn : n < H.length) : ∃ v, vals[n]? = some v ∧ HPr W v H[n] := by
  have hl := h.len
  exact ⟨vals[n], List.getElem?_eq_getElem (by omega), holds_of (h.own n _ _ (List.getElem?_eq_getElem (by omega)) (List.getElem?_eq_getElem hn))⟩
theorem Al.cell {W : World} {base : Nat} {ao : Option Addr} {k c : Nat} {vals : List Value} {H : List (List Pr)} (h : Al W base (.slice ao k c) vals H) {n : Nat} {v : Value} (hv : vals[n]? = some v) : ∃ g, ao = some ⟨g, 0, none⟩ ∧ g < W.heap.size ∧ W.cell? ⟨g, n, none⟩ = some v ∧ W.frozen? ⟨g, n, none⟩ = false := by
  have hn := (List.getElem?_eq_some_iff.1 hv).1
  rcases h.row.2 with ⟨h1, h2⟩ | ⟨g, cap, cur, q1, q2, q3, q4⟩
  · omega
  · cases q1
    refine ⟨g, rfl, (Array.getElem?_eq_some_iff.1 q3).1, ?_, h.row.frozenAt n⟩
    rw [h.row.cellAt n (by omega), hv]
/-- one list of heads has grown -/
theorem Al.set {W u : World} {base : Nat} {g k c : Nat} {vals : List Value} {H : List (List Pr)} (h : Al W base (.slice (some ⟨g, 0, none⟩) k c) vals H) {n : Nat} {v v' : Value} {h' : List Pr} (hv : vals[n]? = some v) (hG : Grows base W v v' h' u) : Al (u.setCell ⟨g, n, none⟩ v') base (.slice (some ⟨g, 0, none⟩) k c) (vals.set n v') (H.set n h') := by
  have hn := (List.getElem?_eq_some_iff.1 hv).1
  have hl := h.len
  obtain ⟨g1, g2, g3⟩ := hG
  have hnH : n < H.length := by omega
  have hOn := h.own n v H[n] hv (List.getElem?_eq_getElem hnH)
  have hrow : u.ownsRow base 93 1 (.slice (some ⟨g, 0, none⟩) k c) vals.length vals := h.row.kept g2 (owns_differ h.row hOn (by decide))
  have hkk : k = vals.length := by
    rcases h.row.2 with ⟨h1, h2⟩ | ⟨g', cap, cur, q1, _⟩
    · cases h1
    · cases q1; rfl
  subst hkk
  obtain ⟨p1, gs⟩ := hrow.stored n v'
  refine ⟨by rw [List.length_set]; exact p1, by simp [hl], fun m x y hx hy => ?_, fun i j x y b hij hx hy hb => ?_⟩
  · by_cases e : m = n
    · subst e
      rw [List.getElem?_set_self hn] at hx
      rw [List.getElem?_set_self hnH] at hy
      cases hx
      cases hy
      exact g1.kept gs (by simpa [Value.ownBlock] using owns_differ g1 hrow (by decide))
    · rw [List.getElem?_set_ne (fun q => e q.symm)] at hx hy
      have hOm := h.own m x y hx hy
      have hOu : u.ownsRow base 40 2 x y.length (prcells y) := hOm.kept g2 (by
        cases hb : x.ownBlock with
        | none => exact .inl rfl
        | some b => exact .inr (fun q => h.apart m n x v b e hx hv hb q.symm))
      exact hOu.kept gs (by simpa [Value.ownBlock] using owns_differ hOu hrow (by decide))
  · have key : ∀ m y, m ≠ n → vals[m]? = some y → ∀ b, y.ownBlock = some b → v'.ownBlock ≠ some b := fun m y hmn hy b hb q => by
      rcases g3 with g3 | ⟨g', g3, g4⟩
      · exact h.apart m n y v b hmn hy hv hb (g3 ▸ q)
      · rw [g3] at q
        cases q
        have hm := (List.getElem?_eq_some_iff.1 hy).1
        have := owns_lt2 (h.own m y H[m] hy (List.getElem?_eq_getElem (by omega))) hb
        omega
    by_cases ei : i = n
    · subst ei
      rw [List.getElem?_set_self hn] at hx
      cases hx
      rw [List.getElem?_set_ne hij] at hy
      exact fun q => key j y (fun q' => hij q'.symm) hy b q hb
    · rw [List.getElem?_set_ne (fun q => ei q.symm)] at hx
      by_cases ej : j = n
      · subst ej
        rw [List.getElem?_set_self hn] at hy
        cases hy
        exact key i x ei hx b hb
      · rw [List.getElem?_set_ne (fun q => ej q.symm)] at hy
        exact h.apart i j x y b hij hx hy hb
/-- one more, still empty -/
theorem Al.more {W w1 : World} {base : Nat} {va va' : Value} {vals : List Value} {H : List (List Pr)} (h : Al W base va vals H) (hO : w1.ownsRow base 93 1 va' (vals.length + 1) (vals ++ [.slice none 0 0])) (hg : W.grownBy w1 va.ownBlock) : Al w1 base va' (vals ++ [.slice none 0 0]) (H ++ [[]]) := by
  have hl := h.len
  refine ⟨by rw [List.length_append]; exact hO, by simp [hl], fun n v k hv hk => ?_, fun i j x y b hij hx hy hb => ?_⟩
  · by_cases e : n < vals.length
    · rw [List.getElem?_append_left e] at hv
      rw [List.getElem?_append_left (by omega)] at hk
      have := h.own n v k hv hk
      exact this.kept hg (owns_differ this h.row (by decide))
    · have hn : n = vals.length := by
        have := (List.getElem?_eq_some_iff.1 hv).1
        simp at this
        omega
      subst hn
      rw [List.getElem?_append_right (Nat.le_refl _)] at hv
      rw [hl, List.getElem?_append_right (Nat.le_refl _)] at hk
      simp at hv hk
      subst hv hk
      exact World.ownsRow_nil _ _ _ _
  · have key : ∀ (m : Nat) (y : Value), (vals ++ [.slice none 0 0])[m]? = some y → y.ownBlock ≠ none → vals[m]? = some y := fun m y hy hn => by
      by_cases e : m < vals.length
      · rwa [List.getElem?_append_left e] at hy
      · rw [List.getElem?_append_right (by omega)] at hy
        have := (List.getElem?_eq_some_iff.1 hy).1
        simp at this
        have e2 : m - vals.length = 0 := by omega
        rw [e2] at hy
        simp at hy
        subst hy
        exact absurd rfl hn
    intro q
    exact h.apart i j x y b hij (key i x hx (by rw [hb]; simp)) (key j y hy (by rw [q]; simp)) hb q

theorem behind_low (h : List Pr) (p : Pr) (v : Value) (W u : World) (hh : HPr W v h) (hl : h.length ≤ 1048576) (hs : Hid (Stair h)) (r : Bool) (hr : Hid (r = true ↔ ∃ a ∈ h, ab a p)) (hL : Low W u) :
    Calls Try.prog 61 #[v, prV p] u fun e w' => e = .returned (.bool r) ∧ Low W w' := by
  refine (behind_f h p v u (HPr.keep hh hL (Nat.le_refl _)) hl hs r hr).mono ?_
  rintro e w' ⟨rfl, h2⟩
  exact ⟨rfl, Below.trans hL (h2.mono (Below.size hL))⟩

set_option maxHeartbeats 1000000 in
theorem rf1_f (H : List (List Pr)) (p : Pr) (i B4 Bp base : Nat) (va : Value) (vals : List Value) (W u : World) (hL : Low W u) (hA : Al W base va vals H) (c4 : W.cell? ⟨B4, 0, none⟩ = some va) (hb4 : B4 < W.heap.size) (cX : W.cell? ⟨Bp, 0, none⟩ = some (.int .i64 p.X)) (cY : W.cell? ⟨Bp, 1, none⟩ = some (.int .i64 p.Y)) (hbp : Bp < W.heap.size) (hi : i < H.length) (hst : Hid (∀ h ∈ H, Stair h ∧ h.length ≤ 1048576)) (_hHl : H.length ≤ 1048576) (r : Bool) (hr : Hid (r = true ↔ ∃ a ∈ H[i], ab a p)) :
    Calls Try.prog 60 #[.int .i64 (i : Int), .pointer (some ⟨B4, 0, none⟩), .pointer (some ⟨Bp, 0, none⟩)] u fun e u' => e = .returned (.bool !r) ∧ Low W u' := by
  obtain ⟨ao, c, rfl⟩ := (holds_of hA.row).form
  obtain ⟨v, hv, hh⟩ := hA.at hi
  obtain ⟨g, rfl, hgl, cv, _⟩ := hA.cell hv
  have hs := hst.out _ (List.getElem_mem hi)
  obtain ⟨vo, vc, rfl⟩ := Holds.form hh
  have hlen := hA.len
  obtain ⟨X, Y⟩ := p
  dsimp only at cX cY
  have hcs : ∀ z : World, Low W z → z.cell? ⟨B4, 0, none⟩ = some (.slice (some ⟨g, 0, none⟩) vals.length c) ∧ z.cell? ⟨g, i, none⟩ = some (.slice vo H[i].length vc) ∧ z.cell? ⟨Bp, 0, none⟩ = some (.int .i64 X) ∧ z.cell? ⟨Bp, 1, none⟩ = some (.int .i64 Y) := fun z hz => ⟨cell_stay hz hb4 c4, cell_stay hz hgl cv, cell_stay hz hbp cX, cell_stay hz hbp cY⟩
  obtain ⟨d1, d2, d3, d4⟩ := hcs u hL
  obtain ⟨h, hh'⟩ : ∃ h, H[i] = h := ⟨_, rfl⟩
  rw [hh'] at hh hs d2 hcs hr
  have HS : Hid (Stair h) := hs.1
  have hhl := hs.2
  clear hh' c4 cX cY cv hs
  have i1 : 0 ≤ (i : Int) := by omega
  have i2 : (i : Int) < (vals.length : Int) := by omega
  go_enter Try.func60, Try.ntmps60
  go_wp2_with fail
  go_region_held3 (fun w' => w'.cell? ⟨B4, 0, none⟩ = some (.slice (some ⟨g, 0, none⟩) vals.length c) ∧ w'.cell? ⟨g, i, none⟩ = some (.slice vo h.length vc) ∧ w'.cell? ⟨Bp, 0, none⟩ = some (.int .i64 X) ∧ w'.cell? ⟨Bp, 1, none⟩ = some (.int .i64 Y) ∧ Low W w') (go_keep)
    (first | (go_at_call 61; refine (behind_low h ⟨X, Y⟩ _ W _ hh hhl HS r hr (by first | assumption | (simp [*]; done))).mono ?_; rintro e w' ⟨rfl, hlow⟩; obtain ⟨g0, g1, g2, g3⟩ := hcs w' hlow))
  go_wp2
  go_ret
  exact ⟨rfl, hlow⟩
end Go.Proofs.Yteplejpbgajecaa

/- Lines that are there once: plain; the reference's times and Unique, and the law's same, walked. -/
namespace Go.Proofs.Yteplejpbgajecaa
open Go.RowKit

/-- how often a class stands in a text -/
def tm (c : Int) : List Int → Nat
  | [] => 0
  | a :: x => (if a = c then 1 else 0) + tm c x
theorem tm_le (c : Int) (x : List Int) : tm c x ≤ x.length := by
  induction x with
  | nil => simp [tm]
  | cons a x ih => rw [tm, List.length_cons]; split <;> omega
/-- the places of a class from place j on, each with i -/
def ps (c i : Int) : Int → List Int → List Pr
  | _, [] => []
  | j, b :: y => (if b = c then [⟨i, j⟩] else []) ++ ps c i (j + 1) y
/-- the pairs of classes that stand once in each, from place i on -/
def uq (x0 y0 : List Int) : Int → List Int → List Pr
  | _, [] => []
  | i, a :: x => (if tm a x0 = 1 ∧ tm a y0 = 1 then ps a i 0 y0 else []) ++ uq x0 y0 (i + 1) x
def unq (x y : List Int) : List Pr := uq x y 0 x
theorem ps_length (c i j : Int) (y : List Int) : (ps c i j y).length = tm c y := by
  induction y generalizing j with
  | nil => rfl
  | cons b y ih =>
    rw [ps, tm, List.length_append, ih]
    split <;> simp
theorem uq_length (x0 y0 : List Int) (i : Int) (x : List Int) : (uq x0 y0 i x).length ≤ x.length := by
  induction x generalizing i with
  | nil => simp [uq]
  | cons a x ih =>
    rw [uq, List.length_append, List.length_cons]
    have := ih (i + 1)
    split
    · rename_i h
      rw [ps_length]
      omega
    · simp; omega

set_option maxRecDepth 10000 in
theorem times_f (x : List Int) (c : Int) (r : Nat) (v : Value) (w : World) (hx : HI w v x) (hxl : x.length ≤ 1048576) (hr : Hid (tm c x = r)) :
    Calls Try.prog 43 #[v, .int .i64 c] w fun e w' => e = .returned (.int .i64 (r : Int)) ∧ w = w' := by
  obtain ⟨xo, xc, rfl⟩ := Holds.form hx
  go_enter Try.func43, Try.ntmps43
  go_wp2
  go_loopw [5, 6] (fun nv iv wr => ∃ (i n : Nat), i ≤ x.length ∧ n ≤ i ∧ nv = .int .i64 n ∧ iv = .int .i64 i ∧ wr = w ∧ Hid (n + tm c (x.drop i) = r)) (fun _ iv _ => x.length - (intOf iv).toNat)
  case atStart => exact ⟨0, 0, Nat.zero_le _, Nat.le_refl _, rfl, rfl, rfl, (by show _ = _; rw [← hr.out]; simp)⟩
  case round =>
    obtain ⟨i, n, hi, hni, rfl, rfl, rfl, hN⟩ := hrel
    by_cases hil : i < x.length
    · obtain ⟨b, off, rfl, _, hc⟩ := HI.at hx (by omega)
      have c0 := hc i hil
      obtain ⟨z, hz⟩ : ∃ z, x[i] = z := ⟨_, rfl⟩
      rw [hz] at c0
      have hN2 : n + ((if z = c then 1 else 0) + tm c (x.drop (i + 1))) = r := by
        have := hN.out
        rw [List.drop_eq_getElem_cons hil, tm, hz] at this
        exact this
      have HN : Hid (n + ((if z = c then 1 else 0) + tm c (x.drop (i + 1))) = r) := hN2
      clear hc hz hN hN2
      have i1 : 0 ≤ (i : Int) := by omega
      have i2 : (i : Int) < (x.length : Int) := by omega
      by_cases hzc : z = c
      · have HN3 : Hid (n + 1 + tm c (x.drop (i + 1)) = r) := (by
          show _ = _
          have := HN.out
          rw [if_pos hzc] at this
          omega)
        clear HN
        subst hzc
        go_wp2
        go_roundw
        case rel => exact ⟨i + 1, n + 1, by omega, by omega, by go_num, by go_num, trivial, HN3⟩
        case measure => simp [intOf]; omega
      · have HN3 : Hid (n + tm c (x.drop (i + 1)) = r) := (by
          show _ = _
          have := HN.out
          rw [if_neg hzc] at this
          omega)
        clear HN
        go_wp2
        go_roundw
        case rel => exact ⟨i + 1, n, by omega, by omega, rfl, by go_num, trivial, HN3⟩
        case measure => simp [intOf]; omega
    · obtain rfl : i = x.length := by omega
      have : n = r := by
        have := hN.out
        simpa [tm] using this
      subst this
      go_wp2
      go_ret
      exact ⟨rfl, rfl⟩

set_option maxRecDepth 10000 in
set_option maxHeartbeats 4000000 in
theorem rUnique_f (x y : List Int) (vx vy : Value) (w : World) (hx : HI w vx x) (hy : HI w vy y) (hxl : x.length ≤ 4096) (hyl : y.length ≤ 4096) (L : List Pr) (hL : Hid (unq x y = L)) :
    Calls Try.prog 21 #[vx, vy] w fun e w' => ∃ v', e = .returned v' ∧ HPr w' v' L ∧ Below w.heap.size w w' := by
  obtain ⟨xo, xc, rfl⟩ := Holds.form hx
  obtain ⟨yo, yc, rfl⟩ := Holds.form hy
  have hLl : L.length ≤ 4096 := by rw [← hL.out]; exact Nat.le_trans (uq_length x y 0 x) hxl
  go_enter Try.func21, Try.ntmps21
  go_wp2
  go_loopw [5, 6] (fun lv iv wr => ∃ (i : Nat) (Z : List Pr) (zo : Option Addr) (zc : Nat), i ≤ x.length ∧ iv = .int .i64 i ∧ lv = .slice zo Z.length zc ∧ Z.length ≤ L.length ∧ wr.ownsRow w.heap.size 39 2 (.slice zo Z.length zc) Z.length (prcells Z) ∧ Below w.heap.size w wr ∧ Hid (Z ++ uq x y i (x.drop i) = L)) (fun _ iv _ => x.length - (intOf iv).toNat)
  case atStart => exact ⟨0, [], none, 0, Nat.zero_le _, rfl, rfl, Nat.zero_le _, World.ownsRow_nil _ _ _ _, Below.refl _ _, hL⟩
  case round =>
    obtain ⟨i, Z, zo, zc, hi, rfl, rfl, hZl, hO, hB, HZ⟩ := hrel
    have hs := hB.size
    by_cases hil : i < x.length
    · have hxr := HI.keep hx hB (Nat.le_refl _)
      have hyr := HI.keep hy hB (Nat.le_refl _)
      obtain ⟨b, off, rfl, _, hc⟩ := HI.at hxr (by omega)
      have c0 := hc i hil
      obtain ⟨z, hz⟩ : ∃ z, x[i] = z := ⟨_, rfl⟩
      rw [hz] at c0
      have hcx : ∀ u : World, Below w.heap.size w u → u.cell? ⟨b, off + i, none⟩ = some (.int .i64 z) := fun u hu => by
        obtain ⟨b', off', e', _, hc'⟩ := HI.at (HI.keep hx hu (Nat.le_refl _)) (by omega)
        cases e'
        rw [hc' i hil, hz]
      have HZ2 : Hid (Z ++ ((if tm z x = 1 ∧ tm z y = 1 then ps z i 0 y else []) ++ uq x y (i + 1) (x.drop (i + 1))) = L) := (by
        show _ = _
        have := HZ.out
        rw [List.drop_eq_getElem_cons hil, uq, hz] at this
        exact this)
      clear hc hz HZ
      have i1 : 0 ≤ (i : Int) := by omega
      have i2 : (i : Int) < (x.length : Int) := by omega
      obtain ⟨a, ha⟩ : ∃ a, tm z x = a := ⟨_, rfl⟩
      obtain ⟨a', ha'⟩ : ∃ a, tm z y = a := ⟨_, rfl⟩
      rw [ha, ha'] at HZ2
      have Ha : Hid (tm z x = a) := ha
      have Ha' : Hid (tm z y = a') := ha'
      have hab := tm_le z x
      have hab' := tm_le z y
      rw [ha] at hab
      rw [ha'] at hab'
      clear ha ha'
      by_cases h1 : a = 1
      · have q1 : ((a : Int) != 1) = false := by simp; omega
        by_cases h2 : a' = 1
        · have q2 : ((a' : Int) != 1) = false := by simp; omega
          have HZ3 : Hid (Z ++ (ps z i 0 y ++ uq x y (i + 1) (x.drop (i + 1))) = L) := (by
            show _ = _
            rw [← HZ2.out, if_pos ⟨h1, h2⟩])
          clear HZ2
          go_wp2_with fail
          refine (times_f x z a _ wr hxr (by omega) Ha).mono ?_
          rintro e w1 ⟨rfl, rfl⟩
          go_wp2_with fail
          refine (times_f y z a' _ wr hyr (by omega) Ha').mono ?_
          rintro e w1 ⟨rfl, rfl⟩
          go_wp2
          go_loopw [5, 7] (fun lv jv wi => ∃ (j : Nat) (Z' : List Pr) (zo : Option Addr) (zc : Nat), j ≤ y.length ∧ jv = .int .i64 j ∧ lv = .slice zo Z'.length zc ∧ Z'.length ≤ L.length ∧ wi.ownsRow w.heap.size 39 2 (.slice zo Z'.length zc) Z'.length (prcells Z') ∧ Below w.heap.size w wi ∧ Hid (Z' ++ (ps z i j (y.drop j) ++ uq x y (i + 1) (x.drop (i + 1))) = L)) (fun _ jv _ => y.length - (intOf jv).toNat)
          case atStart => exact ⟨0, Z, zo, zc, Nat.zero_le _, rfl, rfl, hZl, hO, hB, HZ3⟩
          case round =>
            clear hO hB hs HZ3 c0 hxr hyr
            obtain ⟨j, Z', zo', zc', hj, rfl, rfl, hZl', hO, hB, HZ⟩ := hrel
            have hs := hB.size
            by_cases hjl : j < y.length
            · have c0 := hcx wr hB
              obtain ⟨b', off', rfl, _, hc⟩ := HI.at (HI.keep hy hB (Nat.le_refl _)) (by omega)
              have c1 := hc j hjl
              obtain ⟨t, ht⟩ : ∃ t, y[j] = t := ⟨_, rfl⟩
              rw [ht] at c1
              have HZ2 : Hid (Z' ++ ((if t = z then [⟨i, j⟩] else []) ++ ps z i (j + 1) (y.drop (j + 1)) ++ uq x y (i + 1) (x.drop (i + 1))) = L) := (by
                show _ = _
                have := HZ.out
                rw [List.drop_eq_getElem_cons hjl, ps, ht] at this
                exact this)
              clear hc ht HZ
              have j1 : 0 ≤ (j : Int) := by omega
              have j2 : (j : Int) < (y.length : Int) := by omega
              by_cases htz : t = z
              · have HZ3 : Hid ((Z' ++ [⟨i, j⟩]) ++ (ps z i ((j + 1 : Nat) : Int) (y.drop (j + 1)) ++ uq x y (i + 1) (x.drop (i + 1))) = L) := (by
                  show _ = _
                  rw [← HZ2.out, if_pos htz]
                  simp)
                clear HZ2
                have hZl2 : Z'.length + 1 ≤ L.length := by rw [← HZ3.out]; simp
                subst htz
                go_wp2_with fail
                go_quiet (fail)
                have hOd : (wr.drewN nq).ownsRow w.heap.size 39 2 (.slice zo' Z'.length zc') Z'.length (prcells Z') := hO
                have hBd : Below w.heap.size w (wr.drewN nq) := Below.dN hB nq
                generalize wr.drewN nq = wd at hOd hBd ⊢
                have hsd := hBd.size
                go_wp2_with (at_builtin; refine wpList_append_h _ (by kernel_rfl) (.tmp 45) (.tmp 49) 36 39 (.agg #[.int .i64 0, .int .i64 0]) 2 16 rfl Try.underlying36 infoQr rfl (by decide) (by decide) w.heap.size (.slice zo' Z'.length zc') Z'.length (prcells Z') (by kernel_rfl) (hOd.alloc _) (.slice (some ⟨wd.heap.size, 0, none⟩) 1 1) 1 (prcells [⟨i, j⟩]) (by kernel_rfl) (new_holds wd _ _ 1 1 (by decide)) rfl (prcells_one _) (by omega) (by simp; omega) ?_)
                intro v3 w3 hown3 hgrow3
                have hB3 : Below w.heap.size w w3 := (hBd.alloc (by omega) _).grown hgrow3 (by simp; omega) (fun _ hj => owns_ge hO hj)
                rw [← prcells_append] at hown3
                obtain ⟨zo3, zc3, rfl⟩ := (holds_of hown3).form
                clear hgrow3
                go_wp2
                go_roundw
                case rel => exact ⟨j + 1, Z' ++ [⟨i, j⟩], zo3, zc3, by omega, by go_num, by rw [List.length_append]; rfl, by simp; omega, by rw [List.length_append]; exact hown3, hB3, HZ3⟩
                case measure => simp [intOf]; omega
              · have HZ3 : Hid (Z' ++ (ps z i ((j + 1 : Nat) : Int) (y.drop (j + 1)) ++ uq x y (i + 1) (x.drop (i + 1))) = L) := (by
                  show _ = _
                  rw [← HZ2.out, if_neg htz]
                  simp)
                clear HZ2
                have htz' : (t == z) = false := by simp [htz]
                go_wp2_with fail
                go_quiet (fail)
                go_wp2
                go_roundw
                case rel => exact ⟨j + 1, Z', zo', zc', by omega, by go_num, rfl, hZl', hO, Below.dN hB _, HZ3⟩
                case measure => simp [intOf]; omega
            · obtain rfl : j = y.length := by omega
              have HZ3 : Hid (Z' ++ uq x y ((i + 1 : Nat) : Int) (x.drop (i + 1)) = L) := (by
                show _ = _
                rw [← HZ.out]
                simp [ps])
              go_wp2
              go_roundw
              case rel => exact ⟨i + 1, Z', zo', zc', by omega, by go_num, rfl, hZl', hO, hB, HZ3⟩
              case measure => simp [intOf]; omega
        · have q2 : ((a' : Int) != 1) = true := by simp; omega
          have HZ3 : Hid (Z ++ uq x y ((i + 1 : Nat) : Int) (x.drop (i + 1)) = L) := (by
            show _ = _
            rw [← HZ2.out, if_neg (fun h => h2 h.2)]
            simp)
          clear HZ2
          go_wp2_with fail
          refine (times_f x z a _ wr hxr (by omega) Ha).mono ?_
          rintro e w1 ⟨rfl, rfl⟩
          go_wp2_with fail
          refine (times_f y z a' _ wr hyr (by omega) Ha').mono ?_
          rintro e w1 ⟨rfl, rfl⟩
          go_wp2
          go_roundw
          case rel => exact ⟨i + 1, Z, zo, zc, hil, by go_num, rfl, hZl, hO, hB, HZ3⟩
          case measure => simp [intOf]; omega
      · have q1 : ((a : Int) != 1) = true := by simp; omega
        have HZ3 : Hid (Z ++ uq x y ((i + 1 : Nat) : Int) (x.drop (i + 1)) = L) := (by
          show _ = _
          rw [← HZ2.out, if_neg (fun h => h1 h.1)]
          simp)
        clear HZ2
        go_wp2_with fail
        refine (times_f x z a _ wr hxr (by omega) Ha).mono ?_
        rintro e w1 ⟨rfl, rfl⟩
        go_wp2
        go_roundw
        case rel => exact ⟨i + 1, Z, zo, zc, hil, by go_num, rfl, hZl, hO, hB, HZ3⟩
        case measure => simp [intOf]; omega
    · obtain rfl : i = x.length := by omega
      have hZL : Z = L := by
        have := HZ.out
        simpa [uq] using this
      subst hZL
      go_wp2
      go_ret
      exact ⟨_, rfl, holds_of hO, hB⟩

set_option maxRecDepth 10000 in
set_option maxHeartbeats 2000000 in
theorem same_any (va vb : Value) (l : List Pr) (w : World) (hlen : l.length ≤ 1048576) (ha : HPr w va l) (hb : HPr w vb l) :
    Calls Try.prog 19 #[va, vb] w fun e w' => e = .returned (.bool true) ∧ Below w.heap.size w w' := by
  obtain ⟨ao, ac, rfl⟩ := Holds.form ha
  obtain ⟨bo, bc, rfl⟩ := Holds.form hb
  go_enter Try.func19, Try.ntmps19
  go_wp2
  go_loopw [5] (fun iv wr => ∃ i : Nat, i ≤ l.length ∧ iv = .int .i64 i ∧ Below w.heap.size w wr) (fun iv _ => l.length - (intOf iv).toNat)
  case atStart => exact ⟨0, Nat.zero_le _, rfl, Below.refl _ _⟩
  case round =>
    obtain ⟨i, hi, rfl, hB⟩ := hrel
    by_cases hil : i < l.length
    · obtain ⟨b1, f1, rfl, _, hc1⟩ := HPr.at (HPr.keep ha hB (Nat.le_refl _)) (by omega)
      obtain ⟨b2, f2, rfl, _, hc2⟩ := HPr.at (HPr.keep hb hB (Nat.le_refl _)) (by omega)
      obtain ⟨c0, c1⟩ := hc1 i hil
      obtain ⟨d0, d1⟩ := hc2 i hil
      obtain ⟨X, hX⟩ : ∃ X, l[i].X = X := ⟨_, rfl⟩
      obtain ⟨Y, hY⟩ : ∃ Y, l[i].Y = Y := ⟨_, rfl⟩
      rw [hX] at c0 d0
      rw [hY] at c1 d1
      clear hc1 hc2 hX hY
      have i1 : 0 ≤ (i : Int) := by omega
      have i2 : (i : Int) < (l.length : Int) := by omega
      have e1 : (X != X) = false := by simp
      have e2 : (Y != Y) = false := by simp
      go_wp2_with fail
      go_big_quiet (fail)
      go_wp2
      go_roundw
      case rel => exact ⟨i + 1, hil, by go_num, Below.dN hB _⟩
      case measure => simp [intOf]; omega
    · obtain rfl : i = l.length := by omega
      go_wp2
      go_ret
      exact ⟨rfl, hB⟩
end Go.Proofs.Yteplejpbgajecaa

/- How long the longest common row of two rows of numbers is, what is kept, and what follows: plain. -/
namespace Go.Proofs.Yteplejpbgajecaa

/-- how long the longest common row is -/
def lc : List Int → List Int → Nat
  | [], _ => 0
  | _ :: _, [] => 0
  | a :: x, b :: y => if a = b then lc x y + 1 else max (lc x (b :: y)) (lc (a :: x) y)
theorem lc_nil_left (y : List Int) : lc [] y = 0 := by rw [lc]
theorem lc_nil_right (x : List Int) : lc x [] = 0 := by cases x <;> rw [lc]
theorem lc_cons (a b : Int) (x y : List Int) : lc (a :: x) (b :: y) = if a = b then lc x y + 1 else max (lc x (b :: y)) (lc (a :: x) y) := by rw [lc]
theorem lc_ex (x y : List Int) : ∃ s : List Int, s.Sublist x ∧ s.Sublist y ∧ s.length = lc x y := by
  induction x generalizing y with
  | nil => exact ⟨[], List.Sublist.refl _, List.nil_sublist _, by rw [lc_nil_left]; rfl⟩
  | cons a x ih =>
    induction y with
    | nil => exact ⟨[], List.nil_sublist _, List.Sublist.refl _, by rw [lc_nil_right]; rfl⟩
    | cons b y ihy =>
      rw [lc_cons]
      by_cases h : a = b
      · subst h
        obtain ⟨s, h1, h2, h3⟩ := ih y
        exact ⟨a :: s, h1.cons_cons a, h2.cons_cons a, by rw [if_pos rfl]; simp [h3]⟩
      · rw [if_neg h]
        obtain ⟨s, h1, h2, h3⟩ := ih (b :: y)
        obtain ⟨t, k1, k2, k3⟩ := ihy
        by_cases hm : lc x (b :: y) ≤ lc (a :: x) y
        · exact ⟨t, k1, k2.cons b, by omega⟩
        · exact ⟨s, h1.cons a, h2, by omega⟩
theorem lc_le (s x y : List Int) (hx : s.Sublist x) (hy : s.Sublist y) : s.length ≤ lc x y := by
  induction x generalizing y s with
  | nil => rw [List.sublist_nil.1 hx]; simp
  | cons a x ih =>
    induction y generalizing s with
    | nil => rw [List.sublist_nil.1 hy]; simp
    | cons b y ihy =>
      rw [lc_cons]
      by_cases h : a = b
      · subst h
        rw [if_pos rfl]
        cases hx with
        | cons _ hx =>
          cases hy with
          | cons _ hy => have := ih s y hx hy; omega
          | cons_cons _ hy =>
            rename_i s
            have := ih s y ((List.sublist_cons_self a s).trans hx) hy
            simp; omega
        | cons_cons _ hx =>
          rename_i s
          have : s.Sublist y := by
            cases hy with
            | cons _ hy => exact (List.sublist_cons_self a s).trans hy
            | cons_cons _ hy => exact hy
          have := ih s y hx this
          simp; omega
      · rw [if_neg h]
        cases hx with
        | cons _ hx => have := ih s (b :: y) hx hy; omega
        | cons_cons _ hx =>
          rename_i s
          cases hy with
          | cons _ hy => have := ihy (a :: s) (hx.cons_cons a) hy; omega
          | cons_cons _ hy => exact absurd rfl h
theorem lc_left (x y : List Int) : lc x y ≤ x.length := by
  obtain ⟨s, h1, _, h3⟩ := lc_ex x y
  rw [← h3]; exact h1.length_le
theorem lc_right (x y : List Int) : lc x y ≤ y.length := by
  obtain ⟨s, _, h2, h3⟩ := lc_ex x y
  rw [← h3]; exact h2.length_le
theorem lc_of {x y x' y' : List Int} (h : ∀ s : List Int, s.Sublist x → s.Sublist y → ∃ t : List Int, t.Sublist x' ∧ t.Sublist y' ∧ s.length ≤ t.length) : lc x y ≤ lc x' y' := by
  obtain ⟨s, h1, h2, h3⟩ := lc_ex x y
  obtain ⟨t, k1, k2, k3⟩ := h s h1 h2
  have := lc_le t x' y' k1 k2
  omega
theorem lc_comm (x y : List Int) : lc x y = lc y x := Nat.le_antisymm (lc_of fun s a b => ⟨s, b, a, Nat.le_refl _⟩) (lc_of fun s a b => ⟨s, b, a, Nat.le_refl _⟩)
theorem lc_rev (x y : List Int) : lc x.reverse y.reverse = lc x y := by
  refine Nat.le_antisymm (lc_of fun s a b => ⟨s.reverse, ?_, ?_, by simp⟩) (lc_of fun s a b => ⟨s.reverse, List.reverse_sublist.2 a, List.reverse_sublist.2 b, by simp⟩)
  · have := List.reverse_sublist.2 a; rwa [List.reverse_reverse] at this
  · have := List.reverse_sublist.2 b; rwa [List.reverse_reverse] at this
theorem lc_self (x : List Int) : lc x x = x.length := Nat.le_antisymm (lc_left x x) (lc_le x x x (List.Sublist.refl _) (List.Sublist.refl _))
theorem lc_ahead (c : Int) (x y : List Int) : lc (c :: x) (c :: y) = lc x y + 1 := by rw [lc_cons, if_pos rfl]
theorem lc_mono {x x' y y' : List Int} (hx : x.Sublist x') (hy : y.Sublist y') : lc x y ≤ lc x' y' := lc_of fun s a b => ⟨s, a.trans hx, b.trans hy, Nat.le_refl _⟩
/-- a line more -/
theorem lc_more (p q y : List Int) (c : Int) : lc (p ++ q) y ≤ lc (p ++ c :: q) y ∧ lc (p ++ c :: q) y ≤ lc (p ++ q) y + 1 := by
  refine ⟨lc_mono ((List.Sublist.refl p).append (List.sublist_cons_self c q)) (List.Sublist.refl y), ?_⟩
  obtain ⟨s, h1, h2, h3⟩ := lc_ex (p ++ c :: q) y
  obtain ⟨s1, s2, rfl, k1, k2⟩ := List.sublist_append_iff.1 h1
  cases k2 with
  | cons _ k2 =>
    have := lc_le (s1 ++ s2) (p ++ q) y (k1.append k2) h2
    omega
  | cons_cons _ k2 =>
    rename_i s2
    have := lc_le (s1 ++ s2) (p ++ q) y (k1.append k2) (((List.Sublist.refl s1).append (List.sublist_cons_self c s2)).trans h2)
    simp at h3 this
    omega
/-- rows behind both -/
theorem lc_behind (x y u v : List Int) : lc x y + lc u v ≤ lc (x ++ u) (y ++ v) := by
  obtain ⟨s, h1, h2, h3⟩ := lc_ex x y
  obtain ⟨t, k1, k2, k3⟩ := lc_ex u v
  have := lc_le (s ++ t) (x ++ u) (y ++ v) (h1.append k1) (h2.append k2)
  simp at this
  omega
theorem lc_all (x y : List Int) : lc x y = x.length ↔ x.Sublist y := by
  constructor
  · intro h
    obtain ⟨s, h1, h2, h3⟩ := lc_ex x y
    have : s = x := h1.eq_of_length (by omega)
    rwa [← this]
  · intro h
    exact Nat.le_antisymm (lc_left x y) (lc_le x x y (List.Sublist.refl _) h)
/-- how much of x is found in y, going through y once -/
def gr : List Int → List Int → Nat
  | [], _ => 0
  | _ :: _, [] => 0
  | a :: x, b :: y => if a = b then gr x y + 1 else gr (a :: x) y
theorem gr_le (x y : List Int) : gr x y ≤ x.length := by
  induction y generalizing x with
  | nil => cases x <;> simp [gr]
  | cons b y ih =>
    cases x with
    | nil => simp [gr]
    | cons a x =>
      rw [gr]
      split
      · have := ih x; simp; omega
      · exact ih (a :: x)
theorem gr_all (x y : List Int) : gr x y = x.length ↔ x.Sublist y := by
  induction y generalizing x with
  | nil => cases x <;> simp [gr]
  | cons b y ih =>
    cases x with
    | nil => simp [gr]
    | cons a x =>
      rw [gr]
      by_cases h : a = b
      · subst h
        rw [if_pos rfl]
        have := ih x
        rw [List.cons_sublist_cons, ← this]
        simp
      · rw [if_neg h, ih (a :: x)]
        constructor
        · exact fun h => h.cons b
        · intro k
          cases k with
          | cons _ k => exact k
          | cons_cons _ k => exact absurd rfl h

/-- what is kept: with which of y's members, numbered from b on, each of x's makes a pair -/
def kp (b : Int) : List Int → List Int → List Int
  | [], _ => []
  | _ :: x, [] => -1 :: kp b x []
  | a :: x, c :: y => if a = c then b :: kp (b + 1) x y else if lc (a :: x) y ≤ lc x (c :: y) then -1 :: kp b x (c :: y) else kp (b + 1) (a :: x) y
theorem kp_nil (b : Int) (y : List Int) : kp b [] y = [] := by rw [kp]
theorem kp_none (b : Int) (x : List Int) : kp b x [] = List.replicate x.length (-1) := by
  induction x with
  | nil => rw [kp]; rfl
  | cons a x ih => rw [kp, ih]; rfl
theorem kp_cons (b a c : Int) (x y : List Int) : kp b (a :: x) (c :: y) = if a = c then b :: kp (b + 1) x y else if lc (a :: x) y ≤ lc x (c :: y) then -1 :: kp b x (c :: y) else kp (b + 1) (a :: x) y := by rw [kp]
theorem kp_length (b : Int) (x y : List Int) : (kp b x y).length = x.length := by
  induction x generalizing y b with
  | nil => rw [kp_nil]
  | cons a x ih =>
    induction y generalizing b with
    | nil => rw [kp_none]; simp
    | cons c y ihy =>
      rw [kp_cons]
      split
      · simp [ih]
      split
      · simp [ih]
      · exact ihy _
theorem Vk.up {a b m : Int} {K : List Int} (h : Vk b m K) (hab : a ≤ b) : Vk a m K := by
  induction K with
  | nil => trivial
  | cons z t ih =>
    rcases h with ⟨h1, h2⟩ | ⟨h1, h2, h3⟩
    · exact .inl ⟨h1, ih h2⟩
    · exact .inr ⟨h1, by omega, h3⟩
theorem Vk.none (b m : Int) (k : Nat) : Vk b m (List.replicate k (-1)) := by
  induction k with
  | zero => trivial
  | succ k ih => exact .inl ⟨rfl, ih⟩
theorem kp_vk (b : Int) (x y : List Int) (hb : 0 ≤ b) : Vk b (b + y.length) (kp b x y) := by
  induction x generalizing y b with
  | nil => rw [kp_nil]; trivial
  | cons a x ih =>
    induction y generalizing b with
    | nil => rw [kp_none]; exact Vk.none _ _ _
    | cons c y ihy =>
      rw [kp_cons]
      split
      · refine .inr ⟨by omega, by omega, by simp; omega, ?_⟩
        have := ih (b + 1) y (by omega)
        rw [show b + ((c :: y).length : Int) = b + 1 + (y.length : Int) by simp; omega]
        exact this
      split
      · exact .inl ⟨rfl, ih b (c :: y) hb⟩
      · have := ihy (b + 1) (by omega)
        rw [show b + ((c :: y).length : Int) = b + 1 + (y.length : Int) by simp; omega]
        exact this.up (by omega)
/-- how many pairs a list of what is kept holds -/
def prs (K : List Int) : Nat := (K.filter fun z => decide (0 ≤ z)).length
theorem prs_kp (b : Int) (x y : List Int) (hb : 0 ≤ b) : prs (kp b x y) = lc x y := by
  induction x generalizing y b with
  | nil => rw [kp_nil, lc_nil_left]; rfl
  | cons a x ih =>
    induction y generalizing b with
    | nil =>
      rw [kp_none, lc_nil_right]
      simp [prs]
    | cons c y ihy =>
      rw [kp_cons, lc_cons]
      by_cases h : a = c
      · rw [if_pos h, if_pos h, ← ih (b + 1) y (by omega)]
        simp [prs, hb]
      · rw [if_neg h, if_neg h]
        split
        · have := ih b (c :: y) hb
          rw [show prs (-1 :: kp b x (c :: y)) = prs (kp b x (c :: y)) by simp [prs], this]
          omega
        · rw [ihy (b + 1) (by omega)]
          omega
/-- what is kept is the same -/
theorem kp_same (b : Int) (x y : List Int) (hb : 0 ≤ b) (i : Nat) (z : Int) (h : (kp b x y)[i]? = some z) (hz : 0 ≤ z) : b ≤ z ∧ ∃ c, x[i]? = some c ∧ y[(z - b).toNat]? = some c := by
  induction x generalizing y b i with
  | nil => rw [kp_nil] at h; simp at h
  | cons a x ih =>
    induction y generalizing b i with
    | nil =>
      rw [kp_none] at h
      have := List.eq_of_mem_replicate (List.mem_of_getElem? h)
      omega
    | cons c y ihy =>
      rw [kp_cons] at h
      by_cases e : a = c
      · subst e
        rw [if_pos rfl] at h
        cases i with
        | zero =>
          simp at h
          subst h
          exact ⟨Int.le_refl _, a, by simp, by simp⟩
        | succ i =>
          obtain ⟨h1, d, h2, h3⟩ := ih (b + 1) y (by omega) i (by simpa using h)
          refine ⟨by omega, d, by simpa using h2, ?_⟩
          rw [show (z - b).toNat = (z - (b + 1)).toNat + 1 by omega]
          simpa using h3
      · rw [if_neg e] at h
        split at h
        · cases i with
          | zero => simp at h; omega
          | succ i =>
            obtain ⟨h1, d, h2, h3⟩ := ih b (c :: y) hb i (by simpa using h)
            exact ⟨h1, d, by simpa using h2, h3⟩
        · obtain ⟨h1, d, h2, h3⟩ := ihy (b + 1) (by omega) i h
          refine ⟨by omega, d, h2, ?_⟩
          rw [show (z - b).toNat = (z - (b + 1)).toNat + 1 by omega]
          simpa using h3
/-- how many members are the same at the front -/
def fr : List Int → List Int → Nat
  | a :: x, b :: y => if a = b then fr x y + 1 else 0
  | _, _ => 0
theorem fr_le (x y : List Int) : fr x y ≤ x.length ∧ fr x y ≤ y.length := by
  induction x generalizing y with
  | nil => simp [fr]
  | cons a x ih =>
    cases y with
    | nil => simp [fr]
    | cons b y =>
      have := ih y
      rw [fr]
      split <;> simp <;> omega
theorem fr_lc (x y : List Int) : fr x y + lc (x.drop (fr x y)) (y.drop (fr x y)) = lc x y := by
  induction x generalizing y with
  | nil => simp [fr, lc_nil_left]
  | cons a x ih =>
    cases y with
    | nil => simp [fr, lc_nil_right]
    | cons b y =>
      have := ih y
      rw [fr]
      split
      · rename_i h
        subst h
        rw [lc_ahead]
        simp
        omega
      · simp
theorem fr_at (x y : List Int) (i : Nat) (h : i < fr x y) : x[i]? = y[i]? := by
  induction x generalizing y i with
  | nil => simp [fr] at h
  | cons a x ih =>
    cases y with
    | nil => simp [fr] at h
    | cons b y =>
      rw [fr] at h
      split at h
      · rename_i e
        subst e
        cases i with
        | zero => simp
        | succ i => simpa using ih y i (by omega)
      · omega
theorem fr_step (x y : List Int) (i : Nat) (hx : i < x.length) (hy : i < y.length) : fr (x.drop i) (y.drop i) = if x[i] = y[i] then fr (x.drop (i + 1)) (y.drop (i + 1)) + 1 else 0 := by
  rw [List.drop_eq_getElem_cons hx, List.drop_eq_getElem_cons hy, fr]
/-- a length of two places -/
def ln (x y : List Int) (i j : Nat) : Nat := lc (x.drop i) (y.drop j)
theorem ln_end (x y : List Int) (i j : Nat) (h : x.length ≤ i ∨ y.length ≤ j) : ln x y i j = 0 := by
  rcases h with h | h
  · rw [ln, List.drop_of_length_le h, lc_nil_left]
  · rw [ln, List.drop_of_length_le h, lc_nil_right]
theorem ln_step (x y : List Int) (i j : Nat) (hx : i < x.length) (hy : j < y.length) : ln x y i j = if x[i] = y[j] then ln x y (i + 1) (j + 1) + 1 else max (ln x y (i + 1) j) (ln x y i (j + 1)) := by
  unfold ln
  rw [List.drop_eq_getElem_cons hx, List.drop_eq_getElem_cons hy, lc_cons]
theorem ln_le (x y : List Int) (i j : Nat) : ln x y i j ≤ x.length := by
  have := lc_left (x.drop i) (y.drop j)
  simp at this
  unfold ln
  omega
theorem ln_zero (x y : List Int) : ln x y 0 0 = lc x y := rfl
theorem kp_step (b : Int) (x y : List Int) (i j : Nat) (hx : i < x.length) (hy : j < y.length) : kp b (x.drop i) (y.drop j) = if x[i] = y[j] then b :: kp (b + 1) (x.drop (i + 1)) (y.drop (j + 1)) else if ln x y i (j + 1) ≤ ln x y (i + 1) j then -1 :: kp b (x.drop (i + 1)) (y.drop j) else kp (b + 1) (x.drop i) (y.drop (j + 1)) := by
  unfold ln
  rw [List.drop_eq_getElem_cons hx, List.drop_eq_getElem_cons hy, kp_cons]
theorem kp_same_front (b : Int) (x y : List Int) (i : Nat) (h : i < fr x y) : kp b (x.drop i) (y.drop i) = b :: kp (b + 1) (x.drop (i + 1)) (y.drop (i + 1)) := by
  have h1 := fr_le x y
  rw [kp_step b x y i i (by omega) (by omega), if_pos]
  have := fr_at x y i h
  rw [List.getElem?_eq_getElem (by omega), List.getElem?_eq_getElem (by omega)] at this
  simpa using this
end Go.Proofs.Yteplejpbgajecaa
