/-
  The reference's table in memory: what is ignored, and the first line of each class; its calls Look and Class, walked.
-/
import Derived.Test.YtkaadahcefdiiaaDoorItTab
import Derived.Test.YtkaadahcefdiiaaDoorItAll
import Derived.Maps.AppendAt
namespace Go.Proofs.YtkaadahcefdiiaaDoor
open Cn It Go.RowKit Go.Maps
attribute [local go_sem] ba_at ByteArray.extract_mk ba_cat
attribute [local simp] stay_drew

set_option maxHeartbeats 400000 in
theorem refEqual_any (a b : List UInt8) (o : Ig) (w : World) (ha : a.length ≤ 137438953472) (hb : b.length ≤ 137438953472) :
    Calls Tryd.prog 21 #[.string ⟨a.toArray⟩, .string ⟨b.toArray⟩, igV o] w fun e w' => e = .returned (.bool (eqL o a b)) ∧ Below w.heap.size w w' := by
  have hbx : Stay o w.heap.size w (w.alloc (.cells #[.bool o.sp, .bool o.wt, .bool o.bl, .bool o.cs, .bool o.tb, .bool o.tr] 24)) := ⟨Boxed.fresh o w, (Below.refl _ w).alloc (Nat.le_refl _) _⟩
  unfold igV
  go_enter Tryd.func21, Tryd.ntmps21
  go_wp2_with fail
  have hd := hbx.box.cells
  generalize w.alloc (.cells #[.bool o.sp, .bool o.wt, .bool o.bl, .bool o.cs, .bool o.tb, .bool o.tr] 24) = wb at hbx hd ⊢
  obtain ⟨d0, d1, d2, d3, d4, d5⟩ := hd
  go_region_held3 (fun w' => w'.cell? ⟨w.heap.size, 0, none⟩ = some (.bool o.sp) ∧ w'.cell? ⟨w.heap.size, 1, none⟩ = some (.bool o.wt) ∧ w'.cell? ⟨w.heap.size, 2, none⟩ = some (.bool o.bl) ∧ w'.cell? ⟨w.heap.size, 3, none⟩ = some (.bool o.cs) ∧ w'.cell? ⟨w.heap.size, 4, none⟩ = some (.bool o.tb) ∧ w'.cell? ⟨w.heap.size, 5, none⟩ = some (.bool o.tr) ∧ Stay o w.heap.size w w') (go_keep)
    (first | (go_at_call 24; refine (stayed (refCanon_any _ o _ (by assumption)) o w.heap.size w (by first | assumption | (rw [stay_drew]; assumption))).mono ?_; rintro e w' ⟨rfl, e0, e1, e2, e3, e4, e5, hbS⟩))
  go_wp2
  go_ret
  exact ⟨rfl, hbS.low⟩

/-- the reference's table: its own block, the slice of the first lines -/
structure RT (o : Ig) (ls : List (List UInt8)) (t : Nat) (v : Value) (N : Nat) (w : World) : Prop where
  box : w.heap[t]? = some (.cells #[.bool o.sp, .bool o.wt, .bool o.bl, .bool o.cs, .bool o.tb, .bool o.tr, v] 36 (0, 0))
  row : w.ownsRow N 9 1 v ls.length (scells ls)

section
variable {o : Ig} {ls : List (List UInt8)} {t N : Nat} {v : Value} {w w' : World}
theorem RT.lt (h : RT o ls t v N w) : t < w.heap.size := (Array.getElem?_eq_some_iff.1 h.box).1
theorem RT.keep {S : Nat → Prop} (h : RT o ls t v N w) (hb : But S w w') (ht : ¬ S t) (hv : ∀ g, v.ownBlock = some g → ¬ S g) : RT o ls t v N w' := by
  refine ⟨(hb.block t h.lt ht).trans h.box, h.row.1, ?_⟩
  rcases h.row.2 with h1 | ⟨g, cap, cur, q1, q2, q3, q4⟩
  · exact .inl h1
  · exact .inr ⟨g, cap, cur, q1, q2, (hb.block g (Array.getElem?_eq_some_iff.1 q3).1 (hv g (by rw [q1]; rfl))).trans q3, q4⟩
theorem RT.low (h : RT o ls t v N w) (hb : Below w.heap.size w w') : RT o ls t v N w' := h.keep (S := fun _ => False) (.of_below hb) (fun h => h) (fun _ _ h => h)
theorem RT.cells (h : RT o ls t v N w) : w.cell? ⟨t, 0, none⟩ = some (.bool o.sp) ∧ w.cell? ⟨t, 1, none⟩ = some (.bool o.wt) ∧ w.cell? ⟨t, 2, none⟩ = some (.bool o.bl) ∧ w.cell? ⟨t, 3, none⟩ = some (.bool o.cs) ∧ w.cell? ⟨t, 4, none⟩ = some (.bool o.tb) ∧ w.cell? ⟨t, 5, none⟩ = some (.bool o.tr) ∧ w.cell? ⟨t, 6, none⟩ = some v := by
  refine ⟨?_, ?_, ?_, ?_, ?_, ?_, ?_⟩ <;> rw [Lib.cell_of_heap h.box] <;> rfl
theorem RT.at (h : RT o ls t v N w) (h0 : 0 < ls.length) : ∃ g c, v = .slice (some ⟨g, 0, none⟩) ls.length c := by
  rcases h.row.2 with ⟨_, h1⟩ | ⟨g, cap, cur, q1, _⟩
  · omega
  · exact ⟨g, cap, q1⟩
theorem RT.line {g c : Nat} (h : RT o ls t (.slice (some ⟨g, 0, none⟩) ls.length c) N w) (j : Nat) (hj : j < ls.length) : w.cell? ⟨g, j, none⟩ = some (.string ⟨ls[j].toArray⟩) := by
  have := h.row.cells (g := g) rfl j (.string ⟨ls[j].toArray⟩) (by simp [scells, hj])
  rw [add_none, Nat.zero_add] at this
  exact this
end

/-- the reference's table, and all ahead of a call as it was -/
structure RHeld (o : Ig) (ls : List (List UInt8)) (t : Nat) (v : Value) (N : Nat) (W w : World) : Prop where
  tbl : RT o ls t v N w
  low : Below W.heap.size W w
theorem rheld_drew (o : Ig) (ls : List (List UInt8)) (t : Nat) (v : Value) (N : Nat) (W w : World) : RHeld o ls t v N W w.drew ↔ RHeld o ls t v N W w :=
  ⟨fun h => ⟨⟨h.tbl.box, h.tbl.row⟩, (h.low.trans ⟨rfl, rfl, rfl, Nat.le_refl _, fun _ _ => rfl⟩ : Below W.heap.size W w)⟩, fun h => ⟨⟨h.tbl.box, h.tbl.row⟩, h.low.drew⟩⟩
attribute [local simp] rheld_drew
theorem refEqualHeld (a b : List UInt8) (q : Bool) (o : Ig) (ls : List (List UInt8)) (t : Nat) (v : Value) (N : Nat) (W w : World) (ha : a.length ≤ 137438953472) (hb : b.length ≤ 137438953472) (hq : Hid (eqL o a b = q)) (hH : RHeld o ls t v N W w) :
    Calls Tryd.prog 21 #[.string ⟨a.toArray⟩, .string ⟨b.toArray⟩, igV o] w fun e w' => e = .returned (.bool q) ∧ RHeld o ls t v N W w' := by
  refine (refEqual_any a b o w ha hb).mono ?_
  rintro e w1 ⟨rfl, hb1⟩
  exact ⟨by rw [hq.out], hH.tbl.low hb1, hH.low.trans (hb1.mono hH.low.size)⟩

theorem look_at {gs : List (List UInt8)} {f : List UInt8} {k : Nat} (hk : k < gs.length) (hn : ∀ j (h : j < gs.length), j < k → gs[j] ≠ f) (he : gs[k] = f) : lookN gs f = k ∧ lookB gs f = true := by
  have hm : f ∈ gs := by rw [← he]; exact List.getElem_mem hk
  refine ⟨?_, List.contains_iff_mem.2 hm⟩
  rw [lookN_old hm]
  have h1 := num_lt hm
  have h2 : gs[num gs f] = f := List.getElem_idxOf h1
  rcases Nat.lt_trichotomy (num gs f) k with h | h | h
  · exact absurd h2 (hn _ h1 h)
  · exact h
  · exact absurd he (by have := List.not_of_lt_findIdx (p := (· == f)) (xs := gs) h; simpa using this)
theorem look_end {gs : List (List UInt8)} {f : List UInt8} (hn : ∀ j (h : j < gs.length), gs[j] ≠ f) : lookN gs f = 0 ∧ lookB gs f = false := by
  have hm : f ∉ gs := by
    intro h
    obtain ⟨j, hj, e⟩ := List.getElem_of_mem h
    exact hn j hj e
  exact ⟨lookN_new hm, Bool.eq_false_iff.2 (fun e => hm (List.contains_iff_mem.1 e))⟩

set_option maxHeartbeats 1000000 in
theorem rLook_any (l : List UInt8) (o : Ig) (ls : List (List UInt8)) (t : Nat) (v : Value) (N : Nat) (w : World) (hl : l.length ≤ 137438953472) (hls : Hid (∀ a ∈ ls, a.length ≤ 137438953472)) (hn : ls.length ≤ 1099511627776) (hT : RT o ls t v N w) :
    Calls Tryd.prog 14 #[.pointer (some ⟨t, 0, none⟩), .string ⟨l.toArray⟩] w fun e w' => e = .returned (.tuple #[.int .i64 (lookN (ls.map (canonL o)) (canonL o l)), .bool (lookB (ls.map (canonL o)) (canonL o l))]) ∧ Below w.heap.size w w' := by
  by_cases h0 : 0 < ls.length
  · obtain ⟨g, c, rfl⟩ := hT.at h0
    have hH : RHeld o ls t (.slice (some ⟨g, 0, none⟩) ls.length c) N w w := ⟨hT, Below.refl _ w⟩
    clear hT
    go_enter Tryd.func14, Tryd.ntmps14
    go_wp2
    go_loopw [6] (fun i wr => ∃ k : Nat, k ≤ ls.length ∧ i = .int .i64 k ∧ RHeld o ls t (.slice (some ⟨g, 0, none⟩) ls.length c) N w wr ∧ ∀ j (h : j < (ls.map (canonL o)).length), j < k → (ls.map (canonL o))[j] ≠ canonL o l) (fun i _ => ls.length - (intOf i).toNat)
    case atStart => exact ⟨0, Nat.zero_le _, rfl, hH, fun j _ h => by omega⟩
    case round =>
      obtain ⟨k, hk, rfl, hR, hne⟩ := hrel
      have HNE : Hid (∀ j (h : j < (ls.map (canonL o)).length), j < k → (ls.map (canonL o))[j] ≠ canonL o l) := hne
      clear hne
      obtain ⟨d0, d1, d2, d3, d4, d5, d6⟩ := hR.tbl.cells
      by_cases hlt : k < ls.length
      · have d7 := hR.tbl.line k hlt
        have i1 : 0 ≤ (k : Int) := by omega
        have i2 : (k : Int) < (ls.length : Int) := by omega
        have hkl := hls.out _ (List.getElem_mem hlt)
        have hkm : k < (ls.map (canonL o)).length := by simpa using hlt
        cases hq : eqL o ls[k] l
        · have HQ : Hid (eqL o ls[k] l = false) := hq
          have HN2 : Hid (∀ j (h : j < (ls.map (canonL o)).length), j < k + 1 → (ls.map (canonL o))[j] ≠ canonL o l) := by
            intro j h hj
            rcases Nat.lt_or_ge j k with h1 | h1
            · exact HNE.out j h h1
            · obtain rfl : j = k := by omega
              simp only [List.getElem_map]
              intro e
              rw [eqL, e] at hq
              simp at hq
          clear hq
          go_wp2_with fail
          go_region_held3 (fun w' => w'.cell? ⟨t, 0, none⟩ = some (.bool o.sp) ∧ w'.cell? ⟨t, 1, none⟩ = some (.bool o.wt) ∧ w'.cell? ⟨t, 2, none⟩ = some (.bool o.bl) ∧ w'.cell? ⟨t, 3, none⟩ = some (.bool o.cs) ∧ w'.cell? ⟨t, 4, none⟩ = some (.bool o.tb) ∧ w'.cell? ⟨t, 5, none⟩ = some (.bool o.tr) ∧ w'.cell? ⟨t, 6, none⟩ = some (.slice (some ⟨g, 0, none⟩) ls.length c) ∧ w'.cell? ⟨g, k, none⟩ = some (.string ⟨ls[k].toArray⟩) ∧ RHeld o ls t (.slice (some ⟨g, 0, none⟩) ls.length c) N w w') (go_keep)
            (first | (go_at_call 21; refine (refEqualHeld ls[k] l false o ls t _ N w _ hkl hl HQ (by first | assumption | (rw [rheld_drew]; assumption))).mono ?_; rintro e w' ⟨rfl, hbS⟩; obtain ⟨e0, e1, e2, e3, e4, e5, e6⟩ := hbS.tbl.cells; have e7 := hbS.tbl.line k hlt))
          go_wp2
          go_roundw
          case rel => exact ⟨k + 1, by omega, by go_num, hbS, HN2.out⟩
          case measure => simp [intOf]; omega
        · have HQ : Hid (eqL o ls[k] l = true) := hq
          have HL : Hid (lookN (ls.map (canonL o)) (canonL o l) = k ∧ lookB (ls.map (canonL o)) (canonL o l) = true) := look_at hkm HNE.out (by simp only [List.getElem_map]; exact beq_iff_eq.1 hq)
          clear hq
          go_wp2_with fail
          go_region_held3 (fun w' => w'.cell? ⟨t, 0, none⟩ = some (.bool o.sp) ∧ w'.cell? ⟨t, 1, none⟩ = some (.bool o.wt) ∧ w'.cell? ⟨t, 2, none⟩ = some (.bool o.bl) ∧ w'.cell? ⟨t, 3, none⟩ = some (.bool o.cs) ∧ w'.cell? ⟨t, 4, none⟩ = some (.bool o.tb) ∧ w'.cell? ⟨t, 5, none⟩ = some (.bool o.tr) ∧ w'.cell? ⟨t, 6, none⟩ = some (.slice (some ⟨g, 0, none⟩) ls.length c) ∧ w'.cell? ⟨g, k, none⟩ = some (.string ⟨ls[k].toArray⟩) ∧ RHeld o ls t (.slice (some ⟨g, 0, none⟩) ls.length c) N w w') (go_keep)
            (first | (go_at_call 21; refine (refEqualHeld ls[k] l true o ls t _ N w _ hkl hl HQ (by first | assumption | (rw [rheld_drew]; assumption))).mono ?_; rintro e w' ⟨rfl, hbS⟩; obtain ⟨e0, e1, e2, e3, e4, e5, e6⟩ := hbS.tbl.cells; have e7 := hbS.tbl.line k hlt))
          go_wp2
          go_ret2
          rw [HL.out.1, HL.out.2]
          exact ⟨rfl, hbS.low⟩
      · have HL : Hid (lookN (ls.map (canonL o)) (canonL o l) = 0 ∧ lookB (ls.map (canonL o)) (canonL o l) = false) := look_end (fun j h => HNE.out j h (by simp at h; omega))
        go_wp2
        go_ret2
        rw [HL.out.1, HL.out.2]
        exact ⟨rfl, hR.low⟩
  · have hz : ls = [] := List.eq_nil_of_length_eq_zero (by omega)
    subst hz
    obtain ⟨d0, d1, d2, d3, d4, d5, d6⟩ := hT.cells
    obtain ⟨ao, c, hv⟩ := (holds_of hT.row).form
    simp only [scells, List.map_nil, List.length_nil] at hv
    subst hv
    clear h0 hls hT
    go_enter Tryd.func14, Tryd.ntmps14
    go_wp2
    refine wp_loop_rounds 1 ?_
    rw [rounds_succ]
    go_wp2
    go_ret2
    exact ⟨rfl, Below.refl _ _⟩

/-- the first lines of the classes, once a line was shown -/
def radd (o : Ig) (ls : List (List UInt8)) (l : List UInt8) : List (List UInt8) := if (ls.map (canonL o)).contains (canonL o l) then ls else ls ++ [l]
theorem radd_map (o : Ig) (ls : List (List UInt8)) (l : List UInt8) : (radd o ls l).map (canonL o) = add (ls.map (canonL o)) (canonL o l) := by
  unfold radd add
  split <;> simp
theorem radd_mem {o : Ig} {ls : List (List UInt8)} {l a : List UInt8} (h : a ∈ radd o ls l) : a ∈ ls ∨ a = l := by
  unfold radd at h
  split at h
  · exact .inl h
  · simpa using h
theorem radd_len (o : Ig) (ls : List (List UInt8)) (l : List UInt8) : (radd o ls l).length ≤ ls.length + 1 := by unfold radd; split <;> simp

theorem RT.row_ne {o : Ig} {ls : List (List UInt8)} {t N g : Nat} {v : Value} {w : World} {C : Array Value} {e : TypeId} {fz : Nat × Nat} (h : RT o ls t v N w) (hg : w.heap[g]? = some (.cells C e fz)) (he : e ≠ 36) : g ≠ t := by
  intro e'
  subst e'
  have := h.box
  rw [hg] at this
  cases this
  exact he rfl
theorem RT.own_ne {o : Ig} {ls : List (List UInt8)} {t N : Nat} {v : Value} {w : World} (h : RT o ls t v N w) : v.ownBlock ≠ some t := by
  intro e
  rcases h.row.2 with ⟨h1, _⟩ | ⟨g, cap, cur, q1, q2, q3, _⟩
  · rw [h1] at e; cases e
  · rw [q1] at e
    cases e
    exact h.row_ne q3 (by decide) rfl
theorem RT.put {o : Ig} {ls' : List (List UInt8)} {t N : Nat} {v v' : Value} {w : World} (hb : w.heap[t]? = some (.cells #[.bool o.sp, .bool o.wt, .bool o.bl, .bool o.cs, .bool o.tb, .bool o.tr, v] 36 (0, 0))) (hr : w.ownsRow N 9 1 v' ls'.length (scells ls')) :
    RT o ls' t v' N (w.setCell ⟨t, 6, none⟩ v') := by
  refine ⟨?_, hr.1, ?_⟩
  · have := row_set (l := [.bool o.sp, .bool o.wt, .bool o.bl, .bool o.cs, .bool o.tb, .bool o.tr, v]) hb 6 v'
    exact this
  · rcases hr.2 with h1 | ⟨g, cap, cur, q1, q2, q3, q4⟩
    · exact .inl h1
    · have hne : g ≠ t := by
        intro e
        subst e
        rw [hb] at q3
        simp only [Option.some.injEq, Obj.cells.injEq] at q3
        exact absurd q3.2.1 (by decide)
      exact .inr ⟨g, cap, cur, q1, q2, (Below.heap_setCell w _ _ g hne).trans q3, q4⟩

set_option maxRecDepth 10000 in
set_option maxHeartbeats 1000000 in
theorem rClass_any (l : List UInt8) (o : Ig) (ls : List (List UInt8)) (t : Nat) (v : Value) (N : Nat) (w : World) (hl : l.length ≤ 137438953472) (hls : Hid (∀ a ∈ ls, a.length ≤ 137438953472)) (hn : ls.length ≤ 1099511627776) (hN : N ≤ w.heap.size) (hT : RT o ls t v N w) :
    Calls Tryd.prog 16 #[.pointer (some ⟨t, 0, none⟩), .string ⟨l.toArray⟩] w fun e w' => e = .returned (.int .i64 (num (ls.map (canonL o)) (canonL o l))) ∧ ∃ v', RT o (radd o ls l) t v' N w' ∧ But (fun k => k = t ∨ v.ownBlock = some k) w w' ∧ Fresh v v' w := by
  obtain ⟨i0, hi, hz0, hz1, hz2⟩ := info_parts infoStr
  by_cases hm : canonL o l ∈ ls.map (canonL o)
  · have HL : Hid (lookN (ls.map (canonL o)) (canonL o l) = num (ls.map (canonL o)) (canonL o l) ∧ lookB (ls.map (canonL o)) (canonL o l) = true) := ⟨lookN_old hm, List.contains_iff_mem.2 hm⟩
    have HR : Hid (radd o ls l = ls) := by show _ = _; rw [radd, if_pos (List.contains_iff_mem.2 hm)]
    clear hm
    go_enter Tryd.func16, Tryd.ntmps16
    go_wp2_with fail
    refine (rLook_any l o ls t v N w hl hls hn hT).mono ?_
    rintro e w1 ⟨rfl, hb1⟩
    rw [HL.out.1, HL.out.2]
    go_wp2
    go_ret
    rw [HR.out]
    exact ⟨rfl, v, hT.low hb1, .of_below hb1, .inl rfl⟩
  · have HL : Hid (lookN (ls.map (canonL o)) (canonL o l) = 0 ∧ lookB (ls.map (canonL o)) (canonL o l) = false) := ⟨lookN_new hm, Bool.eq_false_iff.2 (fun e => hm (List.contains_iff_mem.1 e))⟩
    have HR : Hid (radd o ls l = ls ++ [l]) := by show _ = _; rw [radd, if_neg (fun e => hm (List.contains_iff_mem.1 e))]
    have HNU : Hid (num (ls.map (canonL o)) (canonL o l) = ls.length) := by show _ = _; rw [num_new hm, List.length_map]
    clear hm
    go_enter Tryd.func16, Tryd.ntmps16
    go_wp2_with fail
    refine (rLook_any l o ls t v N w hl hls hn hT).mono ?_
    rintro e w1 ⟨rfl, hb1⟩
    rw [HL.out.1, HL.out.2]
    have hT1 := hT.low hb1
    have hz := hb1.size
    obtain ⟨d0, d1, d2, d3, d4, d5, d6⟩ := hT1.cells
    obtain ⟨ao, c, hv⟩ := (holds_of hT1.row).form
    rw [scells_length] at hv
    subst hv
    clear d0 d1 d2 d3 d4 d5
    go_wp2_with (at_builtin; refine wpList_append_own_at _ rfl _ _ 22 rfl N 9 i0 (.string ⟨#[]⟩) 1 16 Tryd.underlying22 hi hz0 hz1 hz2 rfl (by decide) _ _ _ rfl (hT1.row.alloc _) ⟨w1.heap.size, 0, none⟩ 1 1 [.string ⟨l.toArray⟩] rfl rfl (cell_one_new _ _ _) (by intro u hu; simp at hu; subst hu; rfl) ?c3 ?c4 ?c5 ?_)
    case c3 => unfold maxLen; omega
    case c4 => omega
    case c5 => simp; omega
    intro v' w2 hown' hgrow hnil hloc
    obtain ⟨ao', n', c', rfl⟩ : ∃ a n c, v' = .slice a n c := by
      obtain ⟨a, c, h⟩ := (holds_of hown').form
      exact ⟨a, _, c, h⟩
    have hbx := (hgrow.block t (by have := hT1.lt; simp; omega) (fun e => hT1.own_ne e.symm)).trans ((Below.heap_alloc w1 _ t hT1.lt).trans hT1.box)
    have fz : w2.frozen? ⟨t, 6, none⟩ = false := row_frozen hbx 6
    have c6 : w2.cell? ⟨t, 6, none⟩ = some (.slice ao ls.length c) := by rw [Lib.cell_of_heap hbx]; rfl
    have hT2 : RT o (ls ++ [l]) t (.slice ao' n' c') N (w2.setCell ⟨t, 6, none⟩ (.slice ao' n' c')) := RT.put hbx (by rw [scells_append, List.length_append]; exact hown')
    have hB : But (fun k => k = t ∨ (Value.slice ao ls.length c).ownBlock = some k) w (w2.setCell ⟨t, 6, none⟩ (.slice ao' n' c')) := by
      refine ((But.of_below hb1).trans (But.of_grown ((World.grownBy_alloc w1 _ _).trans hgrow) (S := fun k => (Value.slice ao ls.length c).ownBlock = some k) (fun k e => e)) (fun _ _ h => .inr h)).trans (But.setCell w2 ⟨t, 6, none⟩ (.slice ao' n' c')) (fun k _ e => .inl e)
    have hF : Fresh (.slice ao ls.length c) (.slice ao' n' c') w := by
      rcases hloc with h | h
      · exact .inl h
      · exact .inr ⟨_, h, by omega⟩
    clear hnil hloc hown' hgrow hbx d6
    go_wp2
    go_ret
    rw [HR.out, HNU.out]
    exact ⟨rfl, _, hT2, hB, hF⟩
end Go.Proofs.YtkaadahcefdiiaaDoor
