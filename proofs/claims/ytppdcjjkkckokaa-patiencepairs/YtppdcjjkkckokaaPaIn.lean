/-
  slices.Insert of one pair into a row of pairs, walked.
-/
import Derived.Test.YtppdcjjkkckokaaPaCp
import Derived.Deep.CutRange
namespace Go.Proofs.Ytppdcjjkkckokaa
open Go.RowKit

abbrev tH : TypeId := 94
abbrev tP : TypeId := 44
theorem undH : Try.prog.underlying 94 = some (.slice 44) := by kernel_rfl
theorem undP : Try.prog.underlying 41 = some (.slice 44) := by kernel_rfl
theorem elemH : Try.prog.elem 94 = 44 := by kernel_rfl
theorem row_blk {w : World} {base : Nat} {v : Value} {n : Nat} {xs : List Value} (hO : w.ownsRow base 44 2 v n xs) (h0 : 0 < n) : ∃ g cap cur, v = .slice (some ⟨g, 0, none⟩) n cap ∧ base ≤ g ∧ Blk w g cur ∧ n ≤ cap ∧ cap ≤ maxLen ∧ cur.length = cap * 2 ∧ cur.take (n * 2) = xs := by
  rcases hO.2 with ⟨_, h1, _⟩ | ⟨g, cap, cur, q1, q2, q3, q4, q5, q6, q7⟩
  · omega
  · exact ⟨g, cap, cur.toList, q1, q2, by unfold Blk; simpa using q3, q4, q5, by simpa using q6, q7⟩
theorem blk_row {w : World} {base g n cap : Nat} {cur xs : List Value} (hg : Blk w g cur) (hb : base ≤ g) (hn : n ≤ cap) (hc : cap ≤ maxLen) (hl : cur.length = cap * 2) (ht : cur.take (n * 2) = xs) : w.ownsRow base 44 2 (.slice (some ⟨g, 0, none⟩) n cap) n xs := by
  refine ⟨?_, .inr ⟨g, cap, cur.toArray, rfl, hb, hg, hn, hc, by simpa using hl, by simpa using ht⟩⟩
  rw [← ht, List.length_take]
  omega
theorem pr_src {w : World} {gp : Nat} {p : Pr} (h : Blk w gp (prC p)) : ∀ j v, (prC p)[j]? = some v → w.cell? ((⟨gp, 0, none⟩ : Addr).add j) = some v := fun j v hj => by
  rw [add_none, Nat.zero_add, h.cell j]
  exact hj
theorem prC_one (p : Pr) : ∀ u ∈ prC p, u.oneCell' = true := by intro u hu; simp [prC] at hu; rcases hu with rfl | rfl <;> rfl
/-- what a row of one's own becomes -/
def Grows (base : Nat) (w : World) (v : Value) (v' : Value) (l : List Pr) (w' : World) : Prop :=
  w'.ownsRow base 44 2 v' l.length (prcells l) ∧ w.grownBy w' v.ownBlock ∧ (v'.ownBlock = v.ownBlock ∨ ∃ g, v'.ownBlock = some g ∧ w.heap.size ≤ g)

theorem drew_grown (w : World) (r : Option Nat) : w.grownBy w.drew r := ⟨rfl, rfl, rfl, Nat.le_refl _, fun _ _ _ => rfl⟩

set_option maxRecDepth 10000 in
set_option maxHeartbeats 2000000 in
theorem Insert_end (h : List Pr) (p : Pr) (v : Value) (gp base : Nat) (w : World) (hO : w.ownsRow base 44 2 v h.length (prcells h)) (hb : base ≤ w.heap.size) (hp : Blk w gp (prC p)) (hl : h.length ≤ 1048576) :
    Calls Try.prog 80 #[v, .int .i64 (h.length : Int), .slice (some ⟨gp, 0, none⟩) 1 1] w fun e w' => ∃ v', e = .returned v' ∧ Grows base w v v' (h ++ [p]) w' := by
  obtain ⟨ao, c, rfl⟩ := (holds_of hO).form
  have hh : Holds w (.slice (some ⟨gp, 0, none⟩) 1 1) 1 (prC p) := .inr ⟨_, 1, rfl, Nat.le_refl _, pr_src hp⟩
  obtain ⟨v', w', hr, h2, h3, h4⟩ := run_append_h w 94 44 94 (.agg #[.int .i64 0, .int .i64 0]) 2 16 undH infoPr rfl (by decide) (by decide) base (.slice ao h.length c) h.length (prcells h) hO (.slice (some ⟨gp, 0, none⟩) 1 1) 1 (prC p) hh rfl (prC_one p) (by omega) hb
  have hr' : ∀ ty, (Builtin.append_ #[94, 41] ty #[.slice ao h.length c, .slice (some ⟨gp, 0, none⟩) 1 1]).run Try.prog w = .ok v' w' := fun ty => (run_append_types undH undP ty _ _ _ _ _ _ w).trans hr
  obtain ⟨ao', c', rfl⟩ := (holds_of h2).form
  obtain ⟨x0, x1, x2, s0⟩ : ∃ x0 x1 x2, ∀ u : World, (Instr.slice 94 (.slice ao h.length c) (some (.int .i64 (h.length : Int))) none none).run Try.prog u = .ok (.slice x0 x1 x2) u := ⟨_, _, _, fun u => by
    rw [run_slice_l (P := Try.prog) u 94 ao h.length c (by rw [undH, ← elemH]) .i64 h.length (by omega) (by omega), elemH, size_of_pr]
    rfl⟩
  go_enter Try.func80, Try.ntmps80
  go_wp2_with (at_builtin; refine wpList_ap _ (by kernel_rfl) (.tmp 23) (.tmp 24) 94 41 rfl _ _ rfl rfl _ _ (hr' _) ?_)
  go_wp2
  go_ret
  refine ⟨_, rfl, ?_, h3, ?_⟩
  · rw [List.length_append, prcells_append]
    exact h2
  · rcases h4 with h4 | h4
    · exact .inl h4
    · exact .inr ⟨_, h4, Nat.le_refl _⟩

set_option maxRecDepth 10000 in
set_option maxHeartbeats 2000000 in
theorem Insert_room (h : List Pr) (p : Pr) (n i g cap gp base : Nat) (HN : Hid (h.length = n)) (cur : List Value) (w : World) (hg : Blk w g cur) (hgb : base ≤ g) (hi : i < n) (hroom : n + 1 ≤ cap) (hcm : cap ≤ maxLen) (hcl : Hid (cur.length = cap * 2)) (hct : Hid (cur.take (n * 2) = prcells h)) (hp : Blk w gp (prC p)) (hne : gp ≠ g) (hl : n ≤ 1048576) :
    Calls Try.prog 80 #[.slice (some ⟨g, 0, none⟩) n cap, .int .i64 (i : Int), .slice (some ⟨gp, 0, none⟩) 1 1] w fun e w' => ∃ v', e = .returned v' ∧ Grows base w (.slice (some ⟨g, 0, none⟩) n cap) v' (h.take i ++ p :: h.drop i) w' := by
  have s0 := sl_from undH elemH g n cap i (by omega) (by omega)
  have s1 := sl_to undH elemH g n cap (n + 1) hroom
  have s2 := sl_from undH elemH g (n + 1) cap (i + 1) (by omega) (by omega)
  have s3 := sl_from undH elemH g (n + 1) cap i (by omega) (by omega)
  rw [show ((n + 1 : Nat) : Int) = (n : Int) + 1 by simp] at s1
  rw [show ((i + 1 : Nat) : Int) = (i : Int) + 1 by simp] at s2
  have hw1 : IntKind.i64.wrap ((i : Int) + 1) = (i : Int) + 1 := by rw [IntKind.wrap_i64]; omega
  have hne1 : ((i : Int) == (n : Int)) = false := by simp; omega
  have hcap : decide ((cap : Int) < (n : Int) + 1) = false := decide_eq_false (by omega)
  have hcs1 : ((prcells h).drop (i * 2)).length = (n - i) * 2 := by rw [List.length_drop, prcells_length, HN.out]; omega
  have hcp1 : ∀ (u : World) (ty : TypeId), u.heap = w.heap → (Builtin.copy_ #[94, 94] ty #[.slice (some ⟨g, (i + 1) * 2, none⟩) (n - i) (cap - (i + 1)), .slice (some ⟨g, i * 2, none⟩) (n + 1 - i) (cap - i)]).run Try.prog u = .ok (goInt (n - i : Nat)) (u.setRow g (spl cur ((i + 1) * 2) ((prcells h).drop (i * 2))).toArray) := fun u ty hu => by
    have hgu : Blk u g cur := by unfold Blk; rw [hu]; exact hg
    refine run_copy_pr undH u ty g _ _ _ ⟨g, i * 2, none⟩ _ _ cur _ (n - i) hgu (by simp only [Nat.min_def]; split <;> omega) hcs1 (fun j v hj => ?_) (by rw [hcs1, hcl.out]; omega) (fun v hv => prcells_one h v (List.mem_of_mem_drop hv))
    rw [add_none, hgu.cell, ← hj, List.getElem?_drop, ← hct.out, List.getElem?_take, if_pos]
    have := (List.getElem?_eq_some_iff.1 hj).1
    rw [hcs1] at this
    omega
  have hov : (callFunc 81 #[.slice (some ⟨gp, 0, none⟩) 1 1, .slice (some ⟨g, (i + 1) * 2, none⟩) (n - i) (cap - (i + 1))]).run Try.prog w = .ok (.value (.bool false)) w := by
    rw [run_callFunc_extern Try.func81 (by kernel_rfl) (by kernel_rfl) (by kernel_rfl) (e := Extern.SlicesOverlaps.overlaps #[41, 41] #[4]) (by kernel_rfl), Lib.run_overlaps_apart w 41 4 44 undP 2 size_of_pr ⟨gp, 0, none⟩ ⟨g, (i + 1) * 2, none⟩ 1 1 _ _ hne 44 44 2 cur.length (by unfold Blk at hp; simp [World.shape?, hp, prC]) (by unfold Blk at hg; simp [World.shape?, hg]) (by have := hcl.out; omega) (by unfold Blk at hp; simp [World.frozen?, hp]) (by unfold Blk at hp; simp [World.frozen?, hp])]
    rfl
  go_enter Try.func80, Try.ntmps80
  go_wp2_with (simp only [hov])
  go_region_held3 (fun _ => True) (trivial) (first | (refine step_cp _ rfl (.tmp 73) (.tmp 76) 94 94 rfl _ _ rfl rfl _ _ (hcp1 _ _ (by first | rfl | trivial)) ?_))
  obtain ⟨cur1, hcur1⟩ : ∃ c, spl cur ((i + 1) * 2) ((prcells h).drop (i * 2)) = c := ⟨_, rfl⟩
  obtain ⟨W1, hW1⟩ : ∃ u, w.drew.setRow g cur1.toArray = u := ⟨_, rfl⟩
  have hG1 : w.grownBy W1 (some g) := by rw [← hW1]; exact (drew_grown w (some g)).trans (setRow_grown w.drew g _)
  have hB1 : Blk W1 g cur1 := by rw [← hW1]; exact setRow_heap w.drew g _ _ _ _ hg
  have hP1 : Blk W1 gp (prC p) := (hG1.block gp (Array.getElem?_eq_some_iff.1 hp).1 (fun e => hne (Option.some.inj e))).trans hp
  have hl1 : cur1.length = cap * 2 := by rw [← hcur1, spl_length (by rw [hcs1, hcl.out]; omega), hcl.out]
  have HC1 : Hid (cur1 = spl cur ((i + 1) * 2) ((prcells h).drop (i * 2))) := hcur1.symm
  rw [hcur1, hW1]
  clear hcur1 hW1 hcp1 hov
  have hcp2 : ∀ ty, (Builtin.copy_ #[94, 41] ty #[.slice (some ⟨g, i * 2, none⟩) (n + 1 - i) (cap - i), .slice (some ⟨gp, 0, none⟩) 1 1]).run Try.prog W1 = .ok (goInt (1 : Nat)) (W1.setRow g (spl cur1 (i * 2) (prC p)).toArray) := fun ty =>
    run_copy_pr undH W1 ty g _ _ _ ⟨gp, 0, none⟩ _ _ cur1 _ 1 hB1 (by simp only [Nat.min_def]; split <;> omega) rfl (pr_src hP1) (by rw [hl1]; simp [prC]; omega) (prC_one p)
  go_wp2_with (at_builtin; refine wpList_cp _ (by kernel_rfl) (.tmp 80) (.tmp 81) 94 41 rfl _ _ rfl rfl _ _ (hcp2 _) ?_)
  have hG2 := hG1.trans (setRow_grown W1 g (spl cur1 (i * 2) (prC p)).toArray)
  have hB2 : Blk (W1.setRow g (spl cur1 (i * 2) (prC p)).toArray) g (spl cur1 (i * 2) (prC p)) := setRow_heap W1 g _ _ _ _ hB1
  generalize W1.setRow g (spl cur1 (i * 2) (prC p)).toArray = W2 at hG2 hB2 ⊢
  go_wp2
  go_ret
  refine ⟨_, rfl, ?_, hG2, .inl rfl⟩
  have hcp : (prC p).length = 2 := rfl
  have hlen : (h.take i ++ p :: h.drop i).length = n + 1 := by
    have := HN.out
    rw [List.length_append, List.length_cons, List.length_take, List.length_drop]
    omega
  rw [hlen]
  refine blk_row hB2 hgb hroom hcm (by rw [spl_length (by rw [hcp, hl1]; omega), hl1]) ?_
  have e1 : cur1.take (i * 2) = prcells (h.take i) := by
    rw [HC1.out, spl, List.append_assoc, List.take_append_of_le_length (by rw [List.length_take, hcl.out]; omega), List.take_take, prcells_take, ← hct.out, List.take_take]
    congr 1
    omega
  have e2 : (cur1.drop (i * 2 + 2)).take ((n - i) * 2) = prcells (h.drop i) := by
    rw [HC1.out, spl, List.append_assoc, List.drop_append_of_le_length (by rw [List.length_take, hcl.out]; omega), List.drop_of_length_le (by rw [List.length_take, hcl.out]; omega), List.nil_append, List.take_left' hcs1, prcells_drop, Nat.mul_comm 2 i]
  unfold spl
  rw [hcp, e1]
  have e3 : prcells (h.take i ++ p :: h.drop i) = prcells (h.take i) ++ prC p ++ prcells (h.drop i) := by
    rw [prcells_append, List.append_assoc]
    rfl
  have e4 : (prcells (h.take i) ++ prC p).length = i * 2 + 2 := by
    have := HN.out
    rw [List.length_append, prcells_length, List.length_take, hcp]
    omega
  rw [e3, ← e2, List.take_append, e4, List.take_of_length_le (by rw [e4]; omega)]
  congr 2
  omega

set_option maxRecDepth 10000 in
set_option maxHeartbeats 2000000 in
theorem Insert_grow (h : List Pr) (p : Pr) (n i g gp base : Nat) (HN : Hid (h.length = n)) (cur : List Value) (w : World) (hg : Blk w g cur) (hbw : base ≤ w.heap.size) (hi : i < n) (_hcl : Hid (cur.length = n * 2)) (hct : Hid (cur.take (n * 2) = prcells h)) (hp : Blk w gp (prC p)) (hl : n ≤ 1048576) :
    Calls Try.prog 80 #[.slice (some ⟨g, 0, none⟩) n n, .int .i64 (i : Int), .slice (some ⟨gp, 0, none⟩) 1 1] w fun e w' => ∃ v', e = .returned v' ∧ Grows base w (.slice (some ⟨g, 0, none⟩) n n) v' (h.take i ++ p :: h.drop i) w' := by
  obtain ⟨i0, hi0, hz0, hzs, hzb⟩ := info_parts infoPr
  have hpre : (prcells (h.take i)).length = i * 2 := by have := HN.out; rw [prcells_length, List.length_take]; omega
  have hold : (Builtin.firstCells i0.size i (.slice (some ⟨g, 0, none⟩) i n)).run Try.prog w.drew = .ok (prcells (h.take i)).toArray w.drew := by
    have hgd : Blk w.drew g cur := hg
    have := run_loadCells_list (P := Try.prog) w.drew ⟨g, 0, none⟩ (prcells (h.take i)) (fun j v hj => by
      have hlt := (List.getElem?_eq_some_iff.1 hj).1
      rw [hpre] at hlt
      rw [add_none, Nat.zero_add, hgd.cell, ← hj, prcells_take, ← hct.out, List.getElem?_take, if_pos (by omega), List.getElem?_take, if_pos (by omega)])
    rw [hpre] at this
    simp only [Builtin.firstCells, hzs]
    exact this
  obtain ⟨G, hG⟩ : ∃ G, grownCap w (n + 1) n 44 = G := ⟨_, rfl⟩
  have hGge : n + 1 ≤ G := by rw [← hG]; exact grownCap_ge _ _ _ _
  have hGle : G ≤ maxLen := by rw [← hG]; exact grownCap_le_maxLen _ _ _ _ (by unfold maxLen; omega)
  obtain ⟨row, hrow⟩ : ∃ row : List Value, ((prcells (h.take i)).toArray ++ Builtin.zeroCells (Value.agg #[.int .i64 0, .int .i64 0]).cells (n + 1 - i) ++ Builtin.zeroCells (Value.agg #[.int .i64 0, .int .i64 0]).cells (G - (n + 1))).toList = row := ⟨_, rfl⟩
  have hrl : row.length = G * 2 := by
    rw [← hrow]
    simp [Builtin.zeroCells, Value.cells, hpre]
    omega
  have hrt : row.take (i * 2) = prcells (h.take i) := by
    rw [← hrow]
    simp only [Array.toList_append, List.append_assoc]
    rw [List.take_left' hpre]
  obtain ⟨W0, hW0⟩ : ∃ W0, w.drew.alloc (.cells row.toArray 44) = W0 := ⟨_, rfl⟩
  have hkk : (n : Int) + 1 - (i : Int) = ((n + 1 - i : Nat) : Int) := by omega
  have hrz : ∀ ty, (Builtin.append_ #[94, 3] ty #[.slice (some ⟨g, 0, none⟩) i n, .int .i64 ((n : Int) + 1 - (i : Int))]).run Try.prog w = .ok (.slice (some ⟨w.heap.size, 0, none⟩) (n + 1) G) W0 := fun ty => by
    have h := Lib.run_append_grow_zeros (P := Try.prog) w 94 3 ty 44 i0 _ .i64 .i64 undH (by kernel_rfl) hi0 hz0 (some ⟨g, 0, none⟩) i n (prcells (h.take i)) hold (n + 1 - i) (by omega) (by omega) (by omega) (by omega) (by rw [hzb]; omega) (by
      rw [hzb, show i + (n + 1 - i) = n + 1 by omega]
      exact growslice_fits (by omega) (by omega))
    rw [show i + (n + 1 - i) = n + 1 by omega, hG] at h
    rw [hkk, h, ← hW0, ← hrow]
  have hs0 : W0.heap.size = w.heap.size + 1 := by rw [← hW0]; simp
  have hB0 : Blk W0 w.heap.size row := by rw [← hW0]; exact _root_.Go.heap_alloc_new w.drew _
  have hG0 : w.grownBy W0 none := by rw [← hW0]; exact (drew_grown w none).trans (World.grownBy_alloc _ _ _)
  have hP0 : Blk W0 gp (prC p) := (hG0.block gp (Array.getElem?_eq_some_iff.1 hp).1 (by simp)).trans hp
  have hg0 : Blk W0 g cur := (hG0.block g (Array.getElem?_eq_some_iff.1 hg).1 (by simp)).trans hg
  have hne : gp ≠ w.heap.size := Nat.ne_of_lt (Array.getElem?_eq_some_iff.1 hp).1
  have hne2 : g ≠ w.heap.size := Nat.ne_of_lt (Array.getElem?_eq_some_iff.1 hg).1
  have hcp : (prC p).length = 2 := rfl
  have hcp1 : ∀ ty, (Builtin.copy_ #[94, 41] ty #[.slice (some ⟨w.heap.size, i * 2, none⟩) (n + 1 - i) (G - i), .slice (some ⟨gp, 0, none⟩) 1 1]).run Try.prog W0 = .ok (goInt (1 : Nat)) (W0.setRow w.heap.size (spl row (i * 2) (prC p)).toArray) := fun ty =>
    run_copy_pr undH W0 ty _ _ _ _ ⟨gp, 0, none⟩ _ _ row _ 1 hB0 (by simp only [Nat.min_def]; split <;> omega) rfl (pr_src hP0) (by rw [hrl, hcp]; omega) (prC_one p)
  obtain ⟨W1, hW1⟩ : ∃ u, W0.setRow w.heap.size (spl row (i * 2) (prC p)).toArray = u := ⟨_, rfl⟩
  have hB1 : Blk W1 w.heap.size (spl row (i * 2) (prC p)) := by rw [← hW1]; exact setRow_heap W0 _ _ _ _ _ hB0
  have hG1 : W0.grownBy W1 (some w.heap.size) := by rw [← hW1]; exact setRow_grown _ _ _
  have hg1 : Blk W1 g cur := (hG1.block g (Array.getElem?_eq_some_iff.1 hg0).1 (fun e => hne2 (Option.some.inj e))).trans hg0
  rw [hW1] at hcp1
  have hl1 : (spl row (i * 2) (prC p)).length = G * 2 := by rw [spl_length (by rw [hrl, hcp]; omega), hrl]
  have ht1 : (spl row (i * 2) (prC p)).take (i * 2 + 2) = prcells (h.take i) ++ prC p := by rw [spl_take (cur := row) (o := i * 2) (cs := prC p) (by rw [hrl, hcp]; omega) (i * 2 + 2) rfl, hrt]
  generalize spl row (i * 2) (prC p) = cur1 at hB1 hl1 ht1
  have hcs1 : ((prcells h).drop (i * 2)).length = (n - i) * 2 := by rw [List.length_drop, prcells_length, HN.out]; omega
  have hcp2 : ∀ (u : World) (ty : TypeId), u.heap = W1.heap → (Builtin.copy_ #[94, 94] ty #[.slice (some ⟨w.heap.size, (i + 1) * 2, none⟩) (n - i) (G - (i + 1)), .slice (some ⟨g, i * 2, none⟩) (n - i) (n - i)]).run Try.prog u = .ok (goInt (n - i : Nat)) (u.setRow w.heap.size (spl cur1 ((i + 1) * 2) ((prcells h).drop (i * 2))).toArray) := fun u ty hu => by
    have hgu : Blk u w.heap.size cur1 := by unfold Blk; rw [hu]; exact hB1
    have hgs : Blk u g cur := by unfold Blk; rw [hu]; exact hg1
    refine run_copy_pr undH u ty _ _ _ _ ⟨g, i * 2, none⟩ _ _ cur1 _ (n - i) hgu (by simp only [Nat.min_def]; split <;> omega) hcs1 (fun j v hj => ?_) (by rw [hcs1, hl1]; omega) (fun v hv => prcells_one h v (List.mem_of_mem_drop hv))
    rw [add_none, hgs.cell, ← hj, List.getElem?_drop, ← hct.out, List.getElem?_take, if_pos]
    have := (List.getElem?_eq_some_iff.1 hj).1
    rw [hcs1] at this
    omega
  have s0 := sl_from undH elemH g n n i (by omega) (by omega)
  have s1 := sl_to undH elemH g n n i (by omega)
  have s2 := sl_from undH elemH w.heap.size (n + 1) G i (by omega) (by omega)
  have s3 := sl_from undH elemH w.heap.size (n + 1) G (i + 1) (by omega) (by omega)
  rw [show ((i + 1 : Nat) : Int) = (i : Int) + 1 by simp] at s3
  have hw1 : IntKind.i64.wrap ((i : Int) + 1) = (i : Int) + 1 := by rw [IntKind.wrap_i64]; omega
  have hne1 : ((i : Int) == (n : Int)) = false := by simp; omega
  have hcap : decide ((n : Int) < (n : Int) + 1) = true := decide_eq_true (by omega)
  have hGW : w.grownBy W1 none := ⟨hG1.os.trans hG0.os, hG1.tape.trans hG0.tape, hG1.output.trans hG0.output, Nat.le_trans hG0.size hG1.size, fun k hk _ => (hG1.block k (by rw [hs0]; omega) (fun e => by have := Option.some.inj e; omega)).trans (hG0.block k hk (by simp))⟩
  clear hW0 hW1 hold hi0 hz0 hzs hzb hrow hrl hrt hkk hg0 hP0 hB0 hG1
  go_enter Try.func80, Try.ntmps80
  go_wp2_with (at_builtin; refine wpList_ap _ (by kernel_rfl) (.tmp 34) (.tmp 39) 94 3 rfl _ _ rfl rfl _ _ (hrz _) ?_)
  go_wp2_with (at_builtin; refine wpList_cp _ (by kernel_rfl) (.tmp 43) (.tmp 44) 94 41 rfl _ _ rfl rfl _ _ (hcp1 _) ?_)
  go_wp2_with fail
  go_region_held3 (fun _ => True) (trivial) (first | (refine step_cp _ rfl (.tmp 50) (.tmp 53) 94 94 rfl _ _ rfl rfl _ _ (hcp2 _ _ (by first | rfl | trivial)) ?_))
  have hGF : w.grownBy (W1.drew.setRow w.heap.size (spl cur1 ((i + 1) * 2) ((prcells h).drop (i * 2))).toArray) none := ⟨hGW.os, hGW.tape, hGW.output, by simpa [World.setRow] using hGW.size, fun k hk _ => (setRow_other W1.drew _ k _ (by omega)).trans (hGW.block k hk (by simp))⟩
  have hBF : Blk (W1.drew.setRow w.heap.size (spl cur1 ((i + 1) * 2) ((prcells h).drop (i * 2))).toArray) w.heap.size (spl cur1 ((i + 1) * 2) ((prcells h).drop (i * 2))) := setRow_heap W1.drew _ _ _ _ _ hB1
  generalize W1.drew.setRow w.heap.size (spl cur1 ((i + 1) * 2) ((prcells h).drop (i * 2))).toArray = WF at hGF hBF ⊢
  go_wp2
  go_ret
  have hlen : (h.take i ++ p :: h.drop i).length = n + 1 := by
    have := HN.out
    rw [List.length_append, List.length_cons, List.length_take, List.length_drop]
    omega
  refine ⟨_, rfl, ?_, ⟨hGF.os, hGF.tape, hGF.output, hGF.size, fun k hk _ => hGF.block k hk (by simp)⟩, .inr ⟨_, rfl, Nat.le_refl _⟩⟩
  rw [hlen]
  refine blk_row hBF hbw hGge hGle (by rw [spl_length (by rw [hcs1, hl1]; omega), hl1]) ?_
  have e3 : prcells (h.take i ++ p :: h.drop i) = prcells (h.take i) ++ prC p ++ prcells (h.drop i) := by
    rw [prcells_append, List.append_assoc]
    rfl
  rw [spl_take (by rw [hcs1, hl1]; omega) _ (by rw [hcs1]; omega), show (i + 1) * 2 = i * 2 + 2 by omega, ht1, e3, prcells_drop, Nat.mul_comm 2 i]
end Go.Proofs.Ytppdcjjkkckokaa
