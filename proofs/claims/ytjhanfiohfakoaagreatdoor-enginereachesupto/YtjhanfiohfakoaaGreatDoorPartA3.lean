/-
  Texts that belong together, joined: ItRef, ItRefAll, CnOpen, CnTab, ItOpen.
-/
import Derived.Test.YtjhanfiohfakoaaGreatDoorPartA2
import Derived.Maps.AppendAt
import Derived.Test.YtjhanfiohfakoaaGreatDoorRows
import Derived.WalkKit
import Derived.ProofKit
import Derived.OpenShut
import Derived.Test.YtjhanfiohfakoaaGreatDoorCards
import Derived.Test.YtjhanfiohfakoaaGreatDoorTie
import Derived.ShutString
import Derived.ChangeOld
import Derived.Below
import Derived.SliceStrings
import Derived.JoinedCond
import Derived.Deep.DeepHandedRow
import Derived.Lib.LaidTab
import Derived.LaidSub

/- The reference's table in memory: what is ignored, and the first line of each class; its calls Look and Class, walked. -/
set_option maxRecDepth 20000
namespace Go.Proofs.YtjhanfiohfakoaaGreatDoor.Tx
open Cn It Go.RowKit Go.Maps
attribute [local go_sem] ba_at ByteArray.extract_mk ba_cat
attribute [local simp] stay_drew

set_option maxHeartbeats 400000 in
theorem refEqual_any (a b : List UInt8) (o : Ig) (w : World) (ha : a.length ≤ 137438953472) (hb : b.length ≤ 137438953472) :
    Calls Tryz.prog 80 #[.string ⟨a.toArray⟩, .string ⟨b.toArray⟩, igV o] w fun e w' => e = .returned (.bool (eqL o a b)) ∧ Below w.heap.size w w' := by
  have hbx : Stay o w.heap.size w (w.alloc (.cells #[.bool o.sp, .bool o.wt, .bool o.bl, .bool o.cs, .bool o.tb, .bool o.tr] 24)) := ⟨Boxed.fresh o w, (Below.refl _ w).alloc (Nat.le_refl _) _⟩
  unfold igV
  go_enter Tryz.func80, Tryz.ntmps80
  go_wp2_with fail
  have hd := hbx.box.cells
  generalize w.alloc (.cells #[.bool o.sp, .bool o.wt, .bool o.bl, .bool o.cs, .bool o.tb, .bool o.tr] 24) = wb at hbx hd ⊢
  obtain ⟨d0, d1, d2, d3, d4, d5⟩ := hd
  go_region_held3 (fun w' => w'.cell? ⟨w.heap.size, 0, none⟩ = some (.bool o.sp) ∧ w'.cell? ⟨w.heap.size, 1, none⟩ = some (.bool o.wt) ∧ w'.cell? ⟨w.heap.size, 2, none⟩ = some (.bool o.bl) ∧ w'.cell? ⟨w.heap.size, 3, none⟩ = some (.bool o.cs) ∧ w'.cell? ⟨w.heap.size, 4, none⟩ = some (.bool o.tb) ∧ w'.cell? ⟨w.heap.size, 5, none⟩ = some (.bool o.tr) ∧ Stay o w.heap.size w w') (go_keep)
    (first | (go_at_call 101; refine (stayed (refCanon_any _ o _ (by assumption)) o w.heap.size w (by first | assumption | (rw [stay_drew]; assumption))).mono ?_; rintro e w' ⟨rfl, e0, e1, e2, e3, e4, e5, hbS⟩))
  go_wp2
  go_ret
  exact ⟨rfl, hbS.low⟩

/-- the reference's table: its own block, the slice of the first lines -/
structure RT (o : Ig) (ls : List (List UInt8)) (t : Nat) (v : Value) (N : Nat) (w : World) : Prop where
  box : w.heap[t]? = some (.cells #[.bool o.sp, .bool o.wt, .bool o.bl, .bool o.cs, .bool o.tb, .bool o.tr, v] 70 (0, 0))
  row : w.ownsRow N 9 1 v ls.length (scells ls)

section
variable {o : Ig} {ls : List (List UInt8)} {t N : Nat} {v : Value} {w w' : World}
theorem RT.lt (h : RT o ls t v N w) : t < w.heap.size := (Array.getElem?_eq_some_iff.1 h.box).1
theorem RT.keep {S : Nat → Prop} (h : RT o ls t v N w) (hb : But S w w') (ht : ¬ S t) (hv : ∀ g, v.ownBlock = some g → ¬ S g) : RT o ls t v N w' := by
  refine ⟨(hb.block t h.lt ht).trans h.box, h.row.1, ?_⟩
  rcases h.row.2 with h1 | ⟨g, cap, cur, q1, q2, q3, q4⟩
  · exact .inl h1
  · exact .inr ⟨g, cap, cur, q1, q2, (hb.block g (Array.getElem?_eq_some_iff.1 q3).1 (hv g (by rw [q1]; rfl))).trans q3, q4⟩
theorem RT.low (h : RT o ls t v N w) (hb : Below w.heap.size w w') : RT o ls t v N w' := h.keep (S := fun _ => False) (.of_below hb) (fun h => h) (fun _ _ h => h)
theorem RT.cells (h : RT o ls t v N w) : w.cell? ⟨t, 0, none⟩ = some (.bool o.sp) ∧ w.cell? ⟨t, 1, none⟩ = some (.bool o.wt) ∧ w.cell? ⟨t, 2, none⟩ = some (.bool o.bl) ∧ w.cell? ⟨t, 3, none⟩ = some (.bool o.cs) ∧ w.cell? ⟨t, 4, none⟩ = some (.bool o.tb) ∧ w.cell? ⟨t, 5, none⟩ = some (.bool o.tr) ∧ w.cell? ⟨t, 6, none⟩ = some v := by
  refine ⟨?_, ?_, ?_, ?_, ?_, ?_, ?_⟩ <;> rw [Lib.cell_of_heap h.box] <;> rfl
theorem RT.at (h : RT o ls t v N w) (h0 : 0 < ls.length) : ∃ g c, v = .slice (some ⟨g, 0, none⟩) ls.length c := by
  rcases h.row.2 with ⟨_, h1⟩ | ⟨g, cap, cur, q1, _⟩
  · omega
  · exact ⟨g, cap, q1⟩
theorem RT.line {g c : Nat} (h : RT o ls t (.slice (some ⟨g, 0, none⟩) ls.length c) N w) (j : Nat) (hj : j < ls.length) : w.cell? ⟨g, j, none⟩ = some (.string ⟨ls[j].toArray⟩) := by
  have := h.row.cells (g := g) rfl j (.string ⟨ls[j].toArray⟩) (by simp [scells, hj])
  rw [add_none, Nat.zero_add] at this
  exact this
end

/-- the reference's table, and all ahead of a call as it was -/
structure RHeld (o : Ig) (ls : List (List UInt8)) (t : Nat) (v : Value) (N : Nat) (W w : World) : Prop where
  tbl : RT o ls t v N w
  low : Below W.heap.size W w
theorem rheld_drew (o : Ig) (ls : List (List UInt8)) (t : Nat) (v : Value) (N : Nat) (W w : World) : RHeld o ls t v N W w.drew ↔ RHeld o ls t v N W w :=
  ⟨fun h => ⟨⟨h.tbl.box, h.tbl.row⟩, (h.low.trans ⟨rfl, rfl, rfl, Nat.le_refl _, fun _ _ => rfl⟩ : Below W.heap.size W w)⟩, fun h => ⟨⟨h.tbl.box, h.tbl.row⟩, h.low.drew⟩⟩
attribute [local simp] rheld_drew
theorem refEqualHeld (a b : List UInt8) (q : Bool) (o : Ig) (ls : List (List UInt8)) (t : Nat) (v : Value) (N : Nat) (W w : World) (ha : a.length ≤ 137438953472) (hb : b.length ≤ 137438953472) (hq : Hid (eqL o a b = q)) (hH : RHeld o ls t v N W w) :
    Calls Tryz.prog 80 #[.string ⟨a.toArray⟩, .string ⟨b.toArray⟩, igV o] w fun e w' => e = .returned (.bool q) ∧ RHeld o ls t v N W w' := by
  refine (refEqual_any a b o w ha hb).mono ?_
  rintro e w1 ⟨rfl, hb1⟩
  exact ⟨by rw [hq.out], hH.tbl.low hb1, hH.low.trans (hb1.mono hH.low.size)⟩

theorem look_at {gs : List (List UInt8)} {f : List UInt8} {k : Nat} (hk : k < gs.length) (hn : ∀ j (h : j < gs.length), j < k → gs[j] ≠ f) (he : gs[k] = f) : lookN gs f = k ∧ lookB gs f = true := by
  have hm : f ∈ gs := by rw [← he]; exact List.getElem_mem hk
  refine ⟨?_, List.contains_iff_mem.2 hm⟩
  rw [lookN_old hm]
  have h1 := num_lt hm
  have h2 : gs[num gs f] = f := List.getElem_idxOf h1
  rcases Nat.lt_trichotomy (num gs f) k with h | h | h
  · exact absurd h2 (hn _ h1 h)
  · exact h
  · exact absurd he (by have := List.not_of_lt_findIdx (p := (· == f)) (xs := gs) h; simpa using this)
theorem look_end {gs : List (List UInt8)} {f : List UInt8} (hn : ∀ j (h : j < gs.length), gs[j] ≠ f) : lookN gs f = 0 ∧ lookB gs f = false := by
  have hm : f ∉ gs := by
    intro h
    obtain ⟨j, hj, e⟩ := List.getElem_of_mem h
    exact hn j hj e
  exact ⟨lookN_new hm, Bool.eq_false_iff.2 (fun e => hm (List.contains_iff_mem.1 e))⟩

set_option maxHeartbeats 1000000 in
theorem rLook_any (l : List UInt8) (o : Ig) (ls : List (List UInt8)) (t : Nat) (v : Value) (N : Nat) (w : World) (hl : l.length ≤ 137438953472) (hls : Hid (∀ a ∈ ls, a.length ≤ 137438953472)) (hn : ls.length ≤ 1099511627776) (hT : RT o ls t v N w) :
    Calls Tryz.prog 52 #[.pointer (some ⟨t, 0, none⟩), .string ⟨l.toArray⟩] w fun e w' => e = .returned (.tuple #[.int .i64 (lookN (ls.map (canonL o)) (canonL o l)), .bool (lookB (ls.map (canonL o)) (canonL o l))]) ∧ Below w.heap.size w w' := by
  by_cases h0 : 0 < ls.length
  · obtain ⟨g, c, rfl⟩ := hT.at h0
    have hH : RHeld o ls t (.slice (some ⟨g, 0, none⟩) ls.length c) N w w := ⟨hT, Below.refl _ w⟩
    clear hT
    go_enter Tryz.func52, Tryz.ntmps52
    go_wp2
    go_loopw [6] (fun i wr => ∃ k : Nat, k ≤ ls.length ∧ i = .int .i64 k ∧ RHeld o ls t (.slice (some ⟨g, 0, none⟩) ls.length c) N w wr ∧ ∀ j (h : j < (ls.map (canonL o)).length), j < k → (ls.map (canonL o))[j] ≠ canonL o l) (fun i _ => ls.length - (intOf i).toNat)
    case atStart => exact ⟨0, Nat.zero_le _, rfl, hH, fun j _ h => by omega⟩
    case round =>
      obtain ⟨k, hk, rfl, hR, hne⟩ := hrel
      have HNE : Hid (∀ j (h : j < (ls.map (canonL o)).length), j < k → (ls.map (canonL o))[j] ≠ canonL o l) := hne
      clear hne
      obtain ⟨d0, d1, d2, d3, d4, d5, d6⟩ := hR.tbl.cells
      by_cases hlt : k < ls.length
      · have d7 := hR.tbl.line k hlt
        have i1 : 0 ≤ (k : Int) := by omega
        have i2 : (k : Int) < (ls.length : Int) := by omega
        have hkl := hls.out _ (List.getElem_mem hlt)
        have hkm : k < (ls.map (canonL o)).length := by simpa using hlt
        cases hq : eqL o ls[k] l
        · have HQ : Hid (eqL o ls[k] l = false) := hq
          have HN2 : Hid (∀ j (h : j < (ls.map (canonL o)).length), j < k + 1 → (ls.map (canonL o))[j] ≠ canonL o l) := by
            intro j h hj
            rcases Nat.lt_or_ge j k with h1 | h1
            · exact HNE.out j h h1
            · obtain rfl : j = k := by omega
              simp only [List.getElem_map]
              intro e
              rw [eqL, e] at hq
              simp at hq
          clear hq
          go_wp2_with fail
          go_region_held3 (fun w' => w'.cell? ⟨t, 0, none⟩ = some (.bool o.sp) ∧ w'.cell? ⟨t, 1, none⟩ = some (.bool o.wt) ∧ w'.cell? ⟨t, 2, none⟩ = some (.bool o.bl) ∧ w'.cell? ⟨t, 3, none⟩ = some (.bool o.cs) ∧ w'.cell? ⟨t, 4, none⟩ = some (.bool o.tb) ∧ w'.cell? ⟨t, 5, none⟩ = some (.bool o.tr) ∧ w'.cell? ⟨t, 6, none⟩ = some (.slice (some ⟨g, 0, none⟩) ls.length c) ∧ w'.cell? ⟨g, k, none⟩ = some (.string ⟨ls[k].toArray⟩) ∧ RHeld o ls t (.slice (some ⟨g, 0, none⟩) ls.length c) N w w') (go_keep)
            (first | (go_at_call 80; refine (refEqualHeld ls[k] l false o ls t _ N w _ hkl hl HQ (by first | assumption | (rw [rheld_drew]; assumption))).mono ?_; rintro e w' ⟨rfl, hbS⟩; obtain ⟨e0, e1, e2, e3, e4, e5, e6⟩ := hbS.tbl.cells; have e7 := hbS.tbl.line k hlt))
          go_wp2
          go_roundw
          case rel => exact ⟨k + 1, by omega, by go_num, hbS, HN2.out⟩
          case measure => simp [intOf]; omega
        · have HQ : Hid (eqL o ls[k] l = true) := hq
          have HL : Hid (lookN (ls.map (canonL o)) (canonL o l) = k ∧ lookB (ls.map (canonL o)) (canonL o l) = true) := look_at hkm HNE.out (by simp only [List.getElem_map]; exact beq_iff_eq.1 hq)
          clear hq
          go_wp2_with fail
          go_region_held3 (fun w' => w'.cell? ⟨t, 0, none⟩ = some (.bool o.sp) ∧ w'.cell? ⟨t, 1, none⟩ = some (.bool o.wt) ∧ w'.cell? ⟨t, 2, none⟩ = some (.bool o.bl) ∧ w'.cell? ⟨t, 3, none⟩ = some (.bool o.cs) ∧ w'.cell? ⟨t, 4, none⟩ = some (.bool o.tb) ∧ w'.cell? ⟨t, 5, none⟩ = some (.bool o.tr) ∧ w'.cell? ⟨t, 6, none⟩ = some (.slice (some ⟨g, 0, none⟩) ls.length c) ∧ w'.cell? ⟨g, k, none⟩ = some (.string ⟨ls[k].toArray⟩) ∧ RHeld o ls t (.slice (some ⟨g, 0, none⟩) ls.length c) N w w') (go_keep)
            (first | (go_at_call 80; refine (refEqualHeld ls[k] l true o ls t _ N w _ hkl hl HQ (by first | assumption | (rw [rheld_drew]; assumption))).mono ?_; rintro e w' ⟨rfl, hbS⟩; obtain ⟨e0, e1, e2, e3, e4, e5, e6⟩ := hbS.tbl.cells; have e7 := hbS.tbl.line k hlt))
          go_wp2
          go_ret2
          rw [HL.out.1, HL.out.2]
          exact ⟨rfl, hbS.low⟩
      · have HL : Hid (lookN (ls.map (canonL o)) (canonL o l) = 0 ∧ lookB (ls.map (canonL o)) (canonL o l) = false) := look_end (fun j h => HNE.out j h (by simp at h; omega))
        go_wp2
        go_ret2
        rw [HL.out.1, HL.out.2]
        exact ⟨rfl, hR.low⟩
  · have hz : ls = [] := List.eq_nil_of_length_eq_zero (by omega)
    subst hz
    obtain ⟨d0, d1, d2, d3, d4, d5, d6⟩ := hT.cells
    obtain ⟨ao, c, hv⟩ := (holds_of hT.row).form
    simp only [scells, List.map_nil, List.length_nil] at hv
    subst hv
    clear h0 hls hT
    go_enter Tryz.func52, Tryz.ntmps52
    go_wp2
    refine wp_loop_rounds 1 ?_
    rw [rounds_succ]
    go_wp2
    go_ret2
    exact ⟨rfl, Below.refl _ _⟩

/-- the first lines of the classes, once a line was shown -/
def radd (o : Ig) (ls : List (List UInt8)) (l : List UInt8) : List (List UInt8) := if (ls.map (canonL o)).contains (canonL o l) then ls else ls ++ [l]
theorem radd_map (o : Ig) (ls : List (List UInt8)) (l : List UInt8) : (radd o ls l).map (canonL o) = add (ls.map (canonL o)) (canonL o l) := by
  unfold radd add
  split <;> simp
theorem radd_mem {o : Ig} {ls : List (List UInt8)} {l a : List UInt8} (h : a ∈ radd o ls l) : a ∈ ls ∨ a = l := by
  unfold radd at h
  split at h
  · exact .inl h
  · simpa using h
theorem radd_len (o : Ig) (ls : List (List UInt8)) (l : List UInt8) : (radd o ls l).length ≤ ls.length + 1 := by unfold radd; split <;> simp

theorem RT.row_ne {o : Ig} {ls : List (List UInt8)} {t N g : Nat} {v : Value} {w : World} {C : Array Value} {e : TypeId} {fz : Nat × Nat} (h : RT o ls t v N w) (hg : w.heap[g]? = some (.cells C e fz)) (he : e ≠ 70) : g ≠ t := by
  intro e'
  subst e'
  have := h.box
  rw [hg] at this
  cases this
  exact he rfl
theorem RT.own_ne {o : Ig} {ls : List (List UInt8)} {t N : Nat} {v : Value} {w : World} (h : RT o ls t v N w) : v.ownBlock ≠ some t := by
  intro e
  rcases h.row.2 with ⟨h1, _⟩ | ⟨g, cap, cur, q1, q2, q3, _⟩
  · rw [h1] at e; cases e
  · rw [q1] at e
    cases e
    exact h.row_ne q3 (by decide) rfl
theorem RT.put {o : Ig} {ls' : List (List UInt8)} {t N : Nat} {v v' : Value} {w : World} (hb : w.heap[t]? = some (.cells #[.bool o.sp, .bool o.wt, .bool o.bl, .bool o.cs, .bool o.tb, .bool o.tr, v] 70 (0, 0))) (hr : w.ownsRow N 9 1 v' ls'.length (scells ls')) :
    RT o ls' t v' N (w.setCell ⟨t, 6, none⟩ v') := by
  refine ⟨?_, hr.1, ?_⟩
  · have := row_set (l := [.bool o.sp, .bool o.wt, .bool o.bl, .bool o.cs, .bool o.tb, .bool o.tr, v]) hb 6 v'
    exact this
  · rcases hr.2 with h1 | ⟨g, cap, cur, q1, q2, q3, q4⟩
    · exact .inl h1
    · have hne : g ≠ t := by
        intro e
        subst e
        rw [hb] at q3
        simp only [Option.some.injEq, Obj.cells.injEq] at q3
        exact absurd q3.2.1 (by decide)
      exact .inr ⟨g, cap, cur, q1, q2, (Below.heap_setCell w _ _ g hne).trans q3, q4⟩

set_option maxRecDepth 10000 in
set_option maxHeartbeats 1000000 in
theorem rClass_any (l : List UInt8) (o : Ig) (ls : List (List UInt8)) (t : Nat) (v : Value) (N : Nat) (w : World) (hl : l.length ≤ 137438953472) (hls : Hid (∀ a ∈ ls, a.length ≤ 137438953472)) (hn : ls.length ≤ 1099511627776) (hN : N ≤ w.heap.size) (hT : RT o ls t v N w) :
    Calls Tryz.prog 33 #[.pointer (some ⟨t, 0, none⟩), .string ⟨l.toArray⟩] w fun e w' => e = .returned (.int .i64 (num (ls.map (canonL o)) (canonL o l))) ∧ ∃ v', RT o (radd o ls l) t v' N w' ∧ But (fun k => k = t ∨ v.ownBlock = some k) w w' ∧ Fresh v v' w := by
  obtain ⟨i0, hi, hz0, hz1, hz2⟩ := info_parts infoStr
  by_cases hm : canonL o l ∈ ls.map (canonL o)
  · have HL : Hid (lookN (ls.map (canonL o)) (canonL o l) = num (ls.map (canonL o)) (canonL o l) ∧ lookB (ls.map (canonL o)) (canonL o l) = true) := ⟨lookN_old hm, List.contains_iff_mem.2 hm⟩
    have HR : Hid (radd o ls l = ls) := by show _ = _; rw [radd, if_pos (List.contains_iff_mem.2 hm)]
    clear hm
    go_enter Tryz.func33, Tryz.ntmps33
    go_wp2_with fail
    refine (rLook_any l o ls t v N w hl hls hn hT).mono ?_
    rintro e w1 ⟨rfl, hb1⟩
    rw [HL.out.1, HL.out.2]
    go_wp2
    go_ret
    rw [HR.out]
    exact ⟨rfl, v, hT.low hb1, .of_below hb1, .inl rfl⟩
  · have HL : Hid (lookN (ls.map (canonL o)) (canonL o l) = 0 ∧ lookB (ls.map (canonL o)) (canonL o l) = false) := ⟨lookN_new hm, Bool.eq_false_iff.2 (fun e => hm (List.contains_iff_mem.1 e))⟩
    have HR : Hid (radd o ls l = ls ++ [l]) := by show _ = _; rw [radd, if_neg (fun e => hm (List.contains_iff_mem.1 e))]
    have HNU : Hid (num (ls.map (canonL o)) (canonL o l) = ls.length) := by show _ = _; rw [num_new hm, List.length_map]
    clear hm
    go_enter Tryz.func33, Tryz.ntmps33
    go_wp2_with fail
    refine (rLook_any l o ls t v N w hl hls hn hT).mono ?_
    rintro e w1 ⟨rfl, hb1⟩
    rw [HL.out.1, HL.out.2]
    have hT1 := hT.low hb1
    have hz := hb1.size
    obtain ⟨d0, d1, d2, d3, d4, d5, d6⟩ := hT1.cells
    obtain ⟨ao, c, hv⟩ := (holds_of hT1.row).form
    rw [scells_length] at hv
    subst hv
    clear d0 d1 d2 d3 d4 d5
    go_wp2_with (at_builtin; refine wpList_append_own_at _ rfl _ _ 22 rfl N 9 i0 (.string ⟨#[]⟩) 1 16 Tryz.underlying22 hi hz0 hz1 hz2 rfl (by decide) _ _ _ rfl (hT1.row.alloc _) ⟨w1.heap.size, 0, none⟩ 1 1 [.string ⟨l.toArray⟩] rfl rfl (cell_one_new _ _ _) (by intro u hu; simp at hu; subst hu; rfl) ?c3 ?c4 ?c5 ?_)
    case c3 => unfold maxLen; omega
    case c4 => omega
    case c5 => simp; omega
    intro v' w2 hown' hgrow hnil hloc
    obtain ⟨ao', n', c', rfl⟩ : ∃ a n c, v' = .slice a n c := by
      obtain ⟨a, c, h⟩ := (holds_of hown').form
      exact ⟨a, _, c, h⟩
    have hbx := (hgrow.block t (by have := hT1.lt; simp; omega) (fun e => hT1.own_ne e.symm)).trans ((Below.heap_alloc w1 _ t hT1.lt).trans hT1.box)
    have fz : w2.frozen? ⟨t, 6, none⟩ = false := row_frozen hbx 6
    have c6 : w2.cell? ⟨t, 6, none⟩ = some (.slice ao ls.length c) := by rw [Lib.cell_of_heap hbx]; rfl
    have hT2 : RT o (ls ++ [l]) t (.slice ao' n' c') N (w2.setCell ⟨t, 6, none⟩ (.slice ao' n' c')) := RT.put hbx (by rw [scells_append, List.length_append]; exact hown')
    have hB : But (fun k => k = t ∨ (Value.slice ao ls.length c).ownBlock = some k) w (w2.setCell ⟨t, 6, none⟩ (.slice ao' n' c')) := by
      refine ((But.of_below hb1).trans (But.of_grown ((World.grownBy_alloc w1 _ _).trans hgrow) (S := fun k => (Value.slice ao ls.length c).ownBlock = some k) (fun k e => e)) (fun _ _ h => .inr h)).trans (But.setCell w2 ⟨t, 6, none⟩ (.slice ao' n' c')) (fun k _ e => .inl e)
    have hF : Fresh (.slice ao ls.length c) (.slice ao' n' c') w := by
      rcases hloc with h | h
      · exact .inl h
      · exact .inr ⟨_, h, by omega⟩
    clear hnil hloc hown' hgrow hbx d6
    go_wp2
    go_ret
    rw [HR.out, HNU.out]
    exact ⟨rfl, _, hT2, hB, hF⟩
end Go.Proofs.YtjhanfiohfakoaaGreatDoor.Tx

/- The reference's classes of two lists of lines, walked. -/
set_option maxRecDepth 20000
namespace Go.Proofs.YtjhanfiohfakoaaGreatDoor.Tx
open Cn It Go.RowKit Go.Maps
attribute [local go_sem] ba_at ByteArray.extract_mk ba_cat

section
variable {o : Ig} {ls : List (List UInt8)} {t N base n : Nat} {v vx : Value} {xs : List Value} {w w' : World}
theorem RT.int_ne (h : RT o ls t v N w) (ho : w.ownsRow base 3 1 vx n xs) {g : Nat} (hg : vx.ownBlock = some g) : g ≠ t ∧ v.ownBlock ≠ some g := by
  rcases ho.2 with ⟨h1, _⟩ | ⟨g', cap, cur, q1, q2, q3, _⟩
  · rw [h1] at hg; cases hg
  · rw [q1] at hg
    cases hg
    refine ⟨h.row_ne q3 (by decide), fun e => ?_⟩
    rcases h.row.2 with ⟨h1, _⟩ | ⟨g2, cap2, cur2, p1, p2, p3, _⟩
    · rw [h1] at e; cases e
    · rw [p1] at e
      simp only [Value.ownBlock, Option.some.injEq] at e
      rw [e, q3] at p3
      simp only [Option.some.injEq, Obj.cells.injEq] at p3
      exact absurd p3.2.1 (by decide)
theorem owns_but {S : Nat → Prop} {e : TypeId} (ho : w.ownsRow base e 1 vx n xs) (hb : But S w w') (hS : ∀ g, vx.ownBlock = some g → ¬ S g) : w'.ownsRow base e 1 vx n xs := by
  refine ⟨ho.1, ?_⟩
  rcases ho.2 with h1 | ⟨g, cap, cur, q1, q2, q3, q4⟩
  · exact .inl h1
  · exact .inr ⟨g, cap, cur, q1, q2, (hb.block g (Array.getElem?_eq_some_iff.1 q3).1 (hS g (by rw [q1]; rfl))).trans q3, q4⟩
theorem RT.int_row (h : RT o ls t v N w) (ho : w.ownsRow base 3 1 vx n xs) (hb : But (fun k => k = t ∨ v.ownBlock = some k) w w') : w'.ownsRow base 3 1 vx n xs :=
  owns_but ho hb (fun g hg e => by
    obtain ⟨h1, h2⟩ := h.int_ne ho hg
    rcases e with e | e
    · exact h1 e
    · exact h2 e)
theorem owns_ge {e : TypeId} (ho : w.ownsRow base e 1 vx n xs) {g : Nat} (hg : vx.ownBlock = some g) : base ≤ g := by
  rcases ho.2 with ⟨h1, _⟩ | ⟨g', cap, cur, q1, q2, _⟩
  · rw [h1] at hg; cases hg
  · rw [q1] at hg; cases hg; exact q2
theorem owns_lt {e : TypeId} (ho : w.ownsRow base e 1 vx n xs) {g : Nat} (hg : vx.ownBlock = some g) : g < w.heap.size := by
  rcases ho.2 with ⟨h1, _⟩ | ⟨g', cap, cur, q1, q2, q3, _⟩
  · rw [h1] at hg; cases hg
  · rw [q1] at hg; cases hg; exact (Array.getElem?_eq_some_iff.1 q3).1
end

/-- the numbers so far, behind k rounds -/
structure RFill (o : Ig) (t N : Nat) (W : World) (fs fl : List (List UInt8)) (base k : Nat) (vx : Value) (w : World) : Prop where
  tbl : ∃ ls v, RT o ls t v N w ∧ ls.map (canonL o) = adds fs (fl.take k) ∧ ∀ a ∈ ls, a.length ≤ 137438953472
  row : w.ownsRow base 3 1 vx k (icells (nums fs (fl.take k)))
  low : Below N W w
  hN : N ≤ base
  ht : N ≤ t
  hb : base ≤ w.heap.size

theorem RFill.step {o : Ig} {t N : Nat} {W : World} {fs fl : List (List UInt8)} {base k : Nat} {vx vx' v v' : Value} {ls : List (List UInt8)} {l : List UInt8} {w w1 w2 : World} {ob : Obj}
    (h : RFill o t N W fs fl base k vx w) (hk : k < fl.length) (hl : l.length ≤ 137438953472) (hcan : canonL o l = fl[k]) (hT : RT o ls t v N w) (hls : ls.map (canonL o) = adds fs (fl.take k)) (hal : ∀ a ∈ ls, a.length ≤ 137438953472)
    (hT1 : RT o (radd o ls l) t v' N w1) (hb1 : But (fun j => j = t ∨ v.ownBlock = some j) w w1)
    (hg : (w1.alloc ob).grownBy w2 vx.ownBlock) (ho : w2.ownsRow base 3 1 vx' (k + 1) (icells (nums fs (fl.take k)) ++ [.int .i64 (num (adds fs (fl.take k)) fl[k])])) :
    RFill o t N W fs fl base (k + 1) vx' w2 ∧ ∀ {n : Nat} {vz : Value} {zs : List Value}, w.ownsRow N 3 1 vz n zs → (∀ g, vz.ownBlock = some g → g < base) → w2.ownsRow N 3 1 vz n zs := by
  have htk : fl.take (k + 1) = fl.take k ++ [fl[k]] := (List.take_append_getElem hk).symm
  have hrow1 := hT.int_row h.row hb1
  have hbg : But (fun j => vx.ownBlock = some j) w1 w2 := .of_grown ((World.grownBy_alloc w1 ob _).trans hg) (fun _ e => e)
  have hlow1 : Below N W w1 := hb1.below h.low (Nat.le_trans h.hN h.hb) (fun j e => by
    rcases e with e | e
    · subst e; exact h.ht
    · exact owns_ge hT.row e)
  refine ⟨⟨⟨radd o ls l, v', hT1.keep hbg (fun e => (hT1.int_ne hrow1 e).1 rfl) (fun g hv e => (hT1.int_ne hrow1 e).2 hv), ?_, fun a ha => ?_⟩, ?_, ?_, h.hN, h.ht, ?_⟩, ?_⟩
  · rw [radd_map, hls, hcan, htk, adds_snoc]
  · rcases radd_mem ha with h1 | rfl
    · exact hal a h1
    · exact hl
  · rw [htk, nums_snoc, icells_append]
    exact ho
  · exact hbg.below hlow1 (Nat.le_trans (Nat.le_trans h.hN h.hb) hb1.size) (fun j e => Nat.le_trans h.hN (owns_ge hrow1 e))
  · exact Nat.le_trans h.hb (Nat.le_trans hb1.size hbg.size)
  · intro n vz zs hz hlt
    refine owns_but (hT.int_row hz hb1) hbg (fun g hg' e => ?_)
    have h1 := hlt g hg'
    have h2 := owns_ge hrow1 e
    omega

theorem RT.made (o : Ig) (w1 : World) (N m : Nat) (hm : w1.heap.size = m) : RT o [] m (.slice none 0 0) N (w1.alloc (.cells #[.bool o.sp, .bool o.wt, .bool o.bl, .bool o.cs, .bool o.tb, .bool o.tr, .slice none 0 0] 70)) := by
  subst hm
  exact ⟨_root_.Go.heap_alloc_new w1 _, World.ownsRow_nil _ _ _ _⟩

set_option maxRecDepth 10000 in
set_option maxHeartbeats 2000000 in
theorem rClasses_f (la lb fa fb : List (List UInt8)) (o : Ig) (va vb : Value) (w : World) (hfa : Hid (fa = la.map (canonL o))) (hfb : Hid (fb = lb.map (canonL o))) (hla : Hid (∀ a ∈ la, a.length ≤ 137438953472)) (hlb : Hid (∀ a ∈ lb, a.length ≤ 137438953472)) (hn : la.length + lb.length ≤ 1099511627776)
    (ha : Holds w va (scells la)) (hb : Holds w vb (scells lb)) :
    Calls Tryz.prog 20 #[va, vb, igV o] w fun e w' => ∃ vx vy, e = .returned (.tuple #[vx, vy, .int .i64 (adds [] (fa ++ fb)).length]) ∧ Holds w' vx (icells (nums [] fa)) ∧ Holds w' vy (icells (nums (adds [] fa) fb)) ∧ Below w.heap.size w w' := by
  obtain ⟨i0, hi, hz0, hz1, hz2⟩ := info_parts infoInt
  have ea : fa.length = la.length := by rw [hfa.out]; simp
  have eb : fb.length = lb.length := by rw [hfb.out]; simp
  have hal := adds_le fa []
  have hR0 : RFill o (w.heap.size + 1) w.heap.size w [] fa w.heap.size 0 (.slice none 0 0) ((w.alloc (.cells #[.bool o.sp, .bool o.wt, .bool o.bl, .bool o.cs, .bool o.tb, .bool o.tr] 24)).alloc (.cells #[.bool o.sp, .bool o.wt, .bool o.bl, .bool o.cs, .bool o.tb, .bool o.tr, .slice none 0 0] 70)) :=
    ⟨⟨[], _, RT.made o _ _ _ (by simp), rfl, fun _ h => by cases h⟩, World.ownsRow_nil _ _ _ _, ((Below.refl _ w).alloc (Nat.le_refl _) _).alloc (by simp) _, Nat.le_refl _, by omega, by simp; omega⟩
  obtain ⟨ao, ca, hva⟩ := ha.form
  obtain ⟨bo, cb, hvb⟩ := hb.form
  rw [scells_length] at hva hvb
  subst hva hvb
  unfold igV
  go_enter Tryz.func20, Tryz.ntmps20
  go_wp2
  generalize (w.alloc (.cells #[.bool o.sp, .bool o.wt, .bool o.bl, .bool o.cs, .bool o.tb, .bool o.tr] 24)).alloc (.cells #[.bool o.sp, .bool o.wt, .bool o.bl, .bool o.cs, .bool o.tb, .bool o.tr, .slice none 0 0] 70) = w0 at hR0 ⊢
  generalize w.heap.size + 1 = t at hR0 ⊢
  go_loopw [10, 12] (fun vx i wr => ∃ (k : Nat) (xo : Option Addr) (n1 xc : Nat), k ≤ la.length ∧ vx = .slice xo n1 xc ∧ i = .int .i64 k ∧ RFill o t w.heap.size w [] fa w.heap.size k (.slice xo n1 xc) wr) (fun _ i _ => la.length - (intOf i).toNat)
  case atStart => exact ⟨0, _, _, _, Nat.zero_le _, rfl, rfl, hR0⟩
  case round =>
    obtain ⟨k, xo, n1, xc, hk, rfl, rfl, hR⟩ := hrel
    by_cases hlt : k < la.length
    · obtain ⟨b, off, c', hav, hbl, hc⟩ := ha.at (by rw [scells_length]; omega)
      rw [scells_length] at hav
      cases hav
      have d1 : wr.cell? ⟨b, off + k, none⟩ = some (.string ⟨la[k].toArray⟩) := by
        rw [hR.low.cell (p := ⟨b, off + k, none⟩) hbl, hc k (by rw [scells_length]; omega)]; simp [scells]
      clear hc
      have i1 : 0 ≤ (k : Int) := by omega
      have i2 : (k : Int) < (la.length : Int) := by omega
      have hkf : k < fa.length := by omega
      have hcan : canonL o la[k] = fa[k] := by simp only [hfa.out, List.getElem_map]
      obtain ⟨ls, v, hT, hls, hll⟩ := hR.tbl
      have hlen : ls.length ≤ 1099511627776 := by
        have h1 := congrArg List.length hls
        have h2 := adds_le (fa.take k) []
        rw [List.length_map] at h1
        rw [List.length_take] at h2
        simp at h2
        omega
      have HLL : Hid (∀ a ∈ ls, a.length ≤ 137438953472) := hll
      have HLS : Hid (ls.map (canonL o) = adds [] (fa.take k)) := hls
      clear hll hls
      go_wp2_with fail
      refine (rClass_any la[k] o ls t v w.heap.size wr (hla.out _ (List.getElem_mem hlt)) HLL hlen hR.low.size hT).mono ?_
      rintro e w1 ⟨rfl, v', hT1, hb1, _⟩
      have hx1 := hT.int_row hR.row hb1
      have hz : w.heap.size ≤ w1.heap.size := Nat.le_trans hR.low.size hb1.size
      rw [HLS.out, hcan]
      generalize hm : num (adds [] (fa.take k)) fa[k] = m
      go_wp2_with (at_builtin; refine wpList_append_own _ rfl _ _ 35 rfl w.heap.size 3 i0 (.int .i64 0) 1 8 Tryz.underlying35 hi hz0 hz1 hz2 rfl (by decide) _ _ _ rfl (hx1.alloc _) ⟨w1.heap.size, 0, none⟩ 1 1 [.int .i64 m] rfl rfl (cell_one_new _ _ _) (by intro u hu; simp at hu; subst hu; rfl) ?c3 ?c4 ?c5 ?_)
      case c3 => unfold maxLen; omega
      case c4 => omega
      case c5 => simp; omega
      intro v2 w2 hown' hgrow _
      obtain ⟨xo2, n2, xc2, rfl⟩ : ∃ a n c, v2 = .slice a n c := by
        obtain ⟨a, c, h⟩ := (holds_of hown').form
        exact ⟨a, _, c, h⟩
      subst hm
      have hR2 := (hR.step hkf (hla.out _ (List.getElem_mem hlt)) hcan hT HLS.out HLL.out hT1 hb1 hgrow hown').1
      clear hown' hgrow hT1 hb1 hT hR hx1 hcan d1
      go_wp2
      go_roundw
      case rel => exact ⟨k + 1, _, _, _, by omega, rfl, by go_num, hR2⟩
      case measure => simp [intOf]; omega
    · obtain rfl : k = la.length := by omega
      have etk : fa.take la.length = fa := List.take_of_length_le (by omega)
      obtain ⟨base, hbase⟩ : ∃ n, n = wr.heap.size := ⟨_, rfl⟩
      have hS0 : RFill o t w.heap.size w (adds [] fa) fb base 0 (.slice none 0 0) wr := by
        obtain ⟨ls, v, hT, hls, hll⟩ := hR.tbl
        refine ⟨⟨ls, v, hT, ?_, hll⟩, World.ownsRow_nil _ _ _ _, hR.low, by rw [hbase]; exact hR.low.size, hR.ht, by rw [hbase]; exact Nat.le_refl _⟩
        rw [hls, etk]
        rfl
      have hX0 : wr.ownsRow w.heap.size 3 1 (.slice xo n1 xc) la.length (icells (nums [] fa)) := by
        have := hR.row
        rw [etk] at this
        exact this
      have HXB : Hid (∀ g, (Value.slice xo n1 xc).ownBlock = some g → g < base) := fun g hg => by rw [hbase]; exact owns_lt hX0 hg
      clear hR hbase etk hk hlt
      go_wp2
      go_loopw [11, 13] (fun vy i wr => ∃ (k : Nat) (yo : Option Addr) (n2 yc : Nat), k ≤ lb.length ∧ vy = .slice yo n2 yc ∧ i = .int .i64 k ∧ RFill o t w.heap.size w (adds [] fa) fb base k (.slice yo n2 yc) wr ∧ wr.ownsRow w.heap.size 3 1 (.slice xo n1 xc) la.length (icells (nums [] fa))) (fun _ i _ => lb.length - (intOf i).toNat)
      case atStart => exact ⟨0, _, _, _, Nat.zero_le _, rfl, rfl, hS0, hX0⟩
      case round =>
        clear hS0 hX0
        obtain ⟨k, yo, n2, yc, hk, rfl, rfl, hR, hX⟩ := hrel
        by_cases hlt : k < lb.length
        · obtain ⟨b, off, c', hav, hbl, hc⟩ := hb.at (by rw [scells_length]; omega)
          rw [scells_length] at hav
          cases hav
          have d1 : wr.cell? ⟨b, off + k, none⟩ = some (.string ⟨lb[k].toArray⟩) := by
            rw [hR.low.cell (p := ⟨b, off + k, none⟩) hbl, hc k (by rw [scells_length]; omega)]; simp [scells]
          clear hc
          have i1 : 0 ≤ (k : Int) := by omega
          have i2 : (k : Int) < (lb.length : Int) := by omega
          have hkf : k < fb.length := by omega
          have hcan : canonL o lb[k] = fb[k] := by simp only [hfb.out, List.getElem_map]
          obtain ⟨ls, v, hT, hls, hll⟩ := hR.tbl
          have hlen : ls.length ≤ 1099511627776 := by
            have h1 := congrArg List.length hls
            have h2 := adds_le (fb.take k) (adds [] fa)
            rw [List.length_map] at h1
            rw [List.length_take] at h2
            simp at hal
            omega
          have HLL : Hid (∀ a ∈ ls, a.length ≤ 137438953472) := hll
          have HLS : Hid (ls.map (canonL o) = adds (adds [] fa) (fb.take k)) := hls
          clear hll hls
          go_wp2_with fail
          refine (rClass_any lb[k] o ls t v w.heap.size wr (hlb.out _ (List.getElem_mem hlt)) HLL hlen hR.low.size hT).mono ?_
          rintro e w1 ⟨rfl, v', hT1, hb1, _⟩
          have hx1 := hT.int_row hR.row hb1
          have hz : base ≤ w1.heap.size := Nat.le_trans hR.hb hb1.size
          rw [HLS.out, hcan]
          generalize hm : num (adds (adds [] fa) (fb.take k)) fb[k] = m
          go_wp2_with (at_builtin; refine wpList_append_own _ rfl _ _ 35 rfl base 3 i0 (.int .i64 0) 1 8 Tryz.underlying35 hi hz0 hz1 hz2 rfl (by decide) _ _ _ rfl (hx1.alloc _) ⟨w1.heap.size, 0, none⟩ 1 1 [.int .i64 m] rfl rfl (cell_one_new _ _ _) (by intro u hu; simp at hu; subst hu; rfl) ?c3 ?c4 ?c5 ?_)
          case c3 => unfold maxLen; omega
          case c4 => omega
          case c5 => simp; omega
          intro v2 w2 hown' hgrow _
          obtain ⟨xo2, n3, xc2, rfl⟩ : ∃ a n c, v2 = .slice a n c := by
            obtain ⟨a, c, h⟩ := (holds_of hown').form
            exact ⟨a, _, c, h⟩
          subst hm
          obtain ⟨hR2, hkeep⟩ := hR.step hkf (hlb.out _ (List.getElem_mem hlt)) hcan hT HLS.out HLL.out hT1 hb1 hgrow hown'
          have hX2 := hkeep hX HXB.out
          clear hown' hgrow hT1 hb1 hT hR hx1 hcan d1 hkeep hX
          go_wp2
          go_roundw
          case rel => exact ⟨k + 1, _, _, _, by omega, rfl, by go_num, hR2, hX2⟩
          case measure => simp [intOf]; omega
        · obtain rfl : k = lb.length := by omega
          have etk : fb.take lb.length = fb := List.take_of_length_le (by omega)
          obtain ⟨ls, v, hT, hls, hll⟩ := hR.tbl
          have HY : Hid (Holds wr (.slice yo n2 yc) (icells (nums (adds [] fa) fb))) := by
            have := holds_of hR.row
            rw [etk] at this
            exact this
          have HX : Hid (Holds wr (.slice xo n1 xc) (icells (nums [] fa))) := holds_of hX
          have HB : Hid (Below w.heap.size w wr) := hR.low
          have HN : Hid (ls.length = (adds [] (fa ++ fb)).length) := by
            show _ = _
            have h1 := congrArg List.length hls
            rw [List.length_map, etk, ← adds_append] at h1
            exact h1
          obtain ⟨d0, d1, d2, d3, d4, d5, d6⟩ := hT.cells
          obtain ⟨lo, lc, hlv⟩ := (holds_of hT.row).form
          rw [scells_length] at hlv
          subst hlv
          clear d0 d1 d2 d3 d4 d5 hll hls hT hR hX etk hk hlt
          go_wp2_with fail
          go_quiet (fail)
          go_wp2
          go_ret3
          rw [← HN.out]
          exact ⟨_, _, rfl, HX.out.keep (fun _ _ => rfl), HY.out.keep (fun _ _ => rfl), HB.out.trans ⟨rfl, rfl, rfl, Nat.le_refl _, fun _ _ => rfl⟩⟩

theorem rClasses_any (la lb : List (List UInt8)) (o : Ig) (va vb : Value) (w : World) (hla : ∀ a ∈ la, a.length ≤ 137438953472) (hlb : ∀ a ∈ lb, a.length ≤ 137438953472) (hn : la.length + lb.length ≤ 1099511627776) (ha : Holds w va (scells la)) (hb : Holds w vb (scells lb)) :
    Calls Tryz.prog 20 #[va, vb, igV o] w fun e w' => ∃ vx vy, e = .returned (.tuple #[vx, vy, .int .i64 (adds [] (la.map (canonL o) ++ lb.map (canonL o))).length]) ∧ Holds w' vx (icells (nums [] (la.map (canonL o)))) ∧ Holds w' vy (icells (nums (adds [] (la.map (canonL o))) (lb.map (canonL o)))) ∧ Below w.heap.size w w' :=
  rClasses_f la lb _ _ o va vb w (show _ = _ from rfl) (show _ = _ from rfl) hla hlb hn ha hb
end Go.Proofs.YtjhanfiohfakoaaGreatDoor.Tx

/- What is ignored as an argument: a value of six Booleans, opened and shut; a world that holds the library's listed tables. -/
set_option maxRecDepth 20000
namespace Go.Proofs.YtjhanfiohfakoaaGreatDoor.Tx
open Go.ChangeShapes Go.WideShapes Go.ChangeAt Go.RowKit
open Cn

theorem own : ownKnob Tryz.prog.godebug = none := by kernel_rfl
theorem cellsIg : Tryz.prog.cellsOf 24 = 6 := by kernel_rfl
theorem cellsBool : Tryz.prog.cellsOf 4 = 1 := by kernel_rfl

/-- what is ignored, as a datum -/
def igD {H : Type} (o : Ig) : DataW H := .agg [.lit (.bool o.sp), .lit (.bool o.wt), .lit (.bool o.bl), .lit (.bool o.cs), .lit (.bool o.tb), .lit (.bool o.tr)]

theorem list6 {l : List Value} (h : l.length = 6) : ∃ a b c d e f, l = [a, b, c, d, e, f] := by
  match l, h with
  | [a, b, c, d, e, f], _ => exact ⟨a, b, c, d, e, f, rfl⟩

section
variable {H : Type} {enc : TypeId × Value → H} {w : World} {base : Nat} {spare : Nat → Bool} {held : Bool}
theorem bool1 {n : Nat} {c : Value} {y : DataW H × List MemPlace} (h : DataW.trod enc Tryz.prog w base spare held n 4 [c] = some y) : ∃ b, c = .bool b ∧ y = (.lit (.bool b), []) := by
  obtain ⟨b, e, hx⟩ := DataW.trod_bool Tryz.underlying4 h
  simp at e
  exact ⟨b, e, hx⟩

theorem open_ig {r : Reach} {b0 : Nat} {v : Value} {d : DataW H} {p : List MemPlace} (hv : Value.okWide Tryz.prog w r b0 24 v) (h : DataW.Trod enc Tryz.prog w base spare held 24 v d p) :
    ∃ o : Ig, v = igV o ∧ d = igD o ∧ p = [] := by
  obtain ⟨cs, rfl, hsz⟩ := okWide_struct Tryz.underlying24 hv
  obtain ⟨l⟩ := cs
  obtain ⟨c0, c1, c2, c3, c4, c5, rfl⟩ := list6 (l := l) (by rw [cellsIg] at hsz; simpa using hsz)
  obtain ⟨fuel, hf⟩ := h
  cases fuel with
  | zero => simp [DataW.trod] at hf
  | succ n =>
    simp [DataW.trod, Tryz.underlying24, Value.cells, cellsIg, cellsBool] at hf
    cases hy0 : DataW.trod enc Tryz.prog w base spare held n 4 [c0] with
    | none => simp [hy0] at hf
    | some y0 =>
    obtain ⟨x0, rfl, rfl⟩ := bool1 hy0
    cases hy1 : DataW.trod enc Tryz.prog w base spare held n 4 [c1] with
    | none => simp [hy0, hy1] at hf
    | some y1 =>
    obtain ⟨x1, rfl, rfl⟩ := bool1 hy1
    cases hy2 : DataW.trod enc Tryz.prog w base spare held n 4 [c2] with
    | none => simp [hy0, hy1, hy2] at hf
    | some y2 =>
    obtain ⟨x2, rfl, rfl⟩ := bool1 hy2
    cases hy3 : DataW.trod enc Tryz.prog w base spare held n 4 [c3] with
    | none => simp [hy0, hy1, hy2, hy3] at hf
    | some y3 =>
    obtain ⟨x3, rfl, rfl⟩ := bool1 hy3
    cases hy4 : DataW.trod enc Tryz.prog w base spare held n 4 [c4] with
    | none => simp [hy0, hy1, hy2, hy3, hy4] at hf
    | some y4 =>
    obtain ⟨x4, rfl, rfl⟩ := bool1 hy4
    cases hy5 : DataW.trod enc Tryz.prog w base spare held n 4 [c5] with
    | none => simp [hy0, hy1, hy2, hy3, hy4, hy5] at hf
    | some y5 =>
    obtain ⟨x5, rfl, rfl⟩ := bool1 hy5
    simp [hy0, hy1, hy2, hy3, hy4, hy5] at hf
    exact ⟨⟨x0, x1, x2, x3, x4, x5⟩, rfl, hf.1.symm, hf.2⟩

theorem shut_ig (o : Ig) : DataW.Trod enc Tryz.prog w base spare held 24 (igV o) (igD o) [] :=
  ⟨2, by simp [DataW.trod, igV, igD, Value.cells, Tryz.underlying24, Tryz.underlying4, cellsIg, cellsBool]⟩
end
end Go.Proofs.YtjhanfiohfakoaaGreatDoor.Tx

/- A world that holds the library's tables on letters, as the rows list them. -/
set_option maxRecDepth 20000
namespace Go.Proofs.YtjhanfiohfakoaaGreatDoor.Tx

def put (cs : Array Value) : Obj → Obj
  | .cells _ t frozen => .cells cs t frozen
  | o => o

/-- a world for the witness: the tables on letters hold what the rows list -/
def laidOnU (w : World) : World :=
  { w with heap := (w.heap.modify 1 (put ((Go.Pinned.utf8FirstZ.map fun n : Nat => Value.int .u8 (n : Int)).toArray))).modify 2 (put (([128, 191, 160, 191, 128, 159, 144, 191, 128, 143, 0, 0, 0, 0, 0, 0, 0, 0, 0, 0, 0, 0, 0, 0, 0, 0, 0, 0, 0, 0, 0, 0] : List Int).map (Value.int .u8)).toArray) }
end Go.Proofs.YtjhanfiohfakoaaGreatDoor.Tx

/- What an argument of type []string holds, and how much of it there is by the statement's own count; copies of a slice. -/
set_option maxRecDepth 20000
namespace Go.Proofs.YtjhanfiohfakoaaGreatDoor.Tx
open Go.ChangeShapes Go.WideShapes Go.ChangeAt Go.RowKit
open Cn

theorem laidOut : laidOutB Tryz.prog = true := by kernel_rfl
theorem cellsStr : Tryz.prog.cellsOf 9 = 1 := by kernel_rfl

theorem strs_bulk {H : Type} (l : List ByteArray) : l.length + (l.map fun s => s.data.toList).flatten.length ≤ Rows.uptoBulkAll (strs (H := H) l) := by
  induction l with
  | nil => simp [strs, Rows.uptoBulkAll]
  | cons s t ih =>
    have e : strs (H := H) (s :: t) = .lit (.string s.data.toList) :: strs t := rfl
    rw [e, Rows.uptoBulkAll, Rows.uptoBulk]
    simp only [List.length_cons, List.map_cons, List.flatten_cons, List.length_append] at ih ⊢
    omega

/-- the texts that an argument holds -/
theorem open_texts {H : Type} {enc : TypeId × Value → H} {W : World} {fuel : Nat} {ao : Option Addr} {len cap : Nat} {d : DataW H} {p : List MemPlace}
    (h : DataW.trod enc Tryz.prog W 0 (fun _ => true) true fuel 22 [.slice ao len cap] = some (d, p)) :
    ∃ ws : List (List UInt8), Holds W (.slice ao len cap) (scells ws) ∧ ws.length + ws.flatten.length ≤ Rows.uptoBulk d := by
  rcases open_strings Tryz.underlying22 Tryz.underlying9 cellsStr h with ⟨hcs, hx⟩ | ⟨a, l, c, ss, hcs, _, hl, hm, hz, hx, hcell, _⟩
  · simp at hcs
    obtain ⟨rfl, rfl, rfl⟩ := hcs
    exact ⟨[], .inl ⟨rfl, rfl⟩, by simp⟩
  · simp at hcs
    obtain ⟨rfl, rfl, rfl⟩ := hcs
    simp at hz
    simp only [Prod.mk.injEq] at hx
    obtain ⟨rfl, _⟩ := hx
    have hlen : ((ss.take len).map fun s => s.data.toList).length = len := by simp; omega
    refine ⟨(ss.take len).map fun s => s.data.toList, .inr ⟨a, cap, by rw [scells_length, hlen], by rw [scells_length, hlen]; exact hl, fun j u hj => ?_⟩, ?_⟩
    · have hj' : j < len := by
        have := (List.getElem?_eq_some_iff.1 hj).1
        rw [scells_length, hlen] at this
        exact this
      rw [hcell j (by omega)]
      have hjs : j < ss.length := by omega
      simp [scells, hj', hjs] at hj
      simp [List.getD, hjs, ← hj]
    · have := strs_bulk (H := H) (ss.take len)
      rw [Rows.uptoBulk]
      simp only [List.length_map] at this ⊢
      omega

theorem each_le {ws : List (List UInt8)} : ∀ a ∈ ws, a.length ≤ ws.flatten.length := by
  induction ws with
  | nil => simp
  | cons x t ih =>
    intro a ha
    simp only [List.mem_cons] at ha
    simp only [List.flatten_cons, List.length_append]
    rcases ha with rfl | ha
    · omega
    · have := ih a ha; omega

/-- a new empty row -/
theorem nil_row_new {e : TypeId} (W : World) (N g : Nat) (hg : W.heap.size = g) (hB : N ≤ g) : (W.alloc (.cells #[] e)).ownsRow N e 1 (.slice (some ⟨g, 0, none⟩) 0 0) 0 [] := by
  subst hg
  exact ⟨by simp, .inr ⟨_, 0, #[], rfl, hB, _root_.Go.heap_alloc_new W _, Nat.le_refl _, by decide, rfl, rfl⟩⟩
theorem nil_row {e : TypeId} {W : World} {N g : Nat} (hg : W.heap[g]? = some (.cells #[] e (0, 0))) (hB : N ≤ g) : W.ownsRow N e 1 (.slice (some ⟨g, 0, none⟩) 0 0) 0 [] :=
  ⟨by simp, .inr ⟨g, 0, #[], rfl, hB, hg, Nat.le_refl _, by decide, rfl, rfl⟩⟩

theorem below_drewN (w : World) (n : Nat) : Below w.heap.size w (w.drewN n) := ⟨rfl, rfl, rfl, Nat.le_refl _, fun _ _ => rfl⟩
theorem SameS_low (va vb : Value) (ws : List (List UInt8)) (w : World) (hl : ws.length ≤ 1099511627776) (ha : Holds w va (scells ws)) (hb : Holds w vb (scells ws)) :
    Calls Tryz.prog 9 #[va, vb] w fun e w' => e = .returned (.bool true) ∧ Below w.heap.size w w' := by
  refine (SameS_any va vb ws w hl ha hb).mono ?_
  rintro e w' ⟨rfl, n, rfl⟩
  exact ⟨rfl, below_drewN w n⟩
end Go.Proofs.YtjhanfiohfakoaaGreatDoor.Tx
