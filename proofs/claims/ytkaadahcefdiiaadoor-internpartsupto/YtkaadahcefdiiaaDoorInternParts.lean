/-
  For all lists of lines a and b, and whatever is ignored, of together at most 1048576 letters and values, the law InternParts returns true and leaves its arguments as they were: two lines have one number just if they count as the same; the numbers come without gaps, each new one as the next. The conditions are the statement's own: that bound, and the library's listed tables hold what the program's text lays.
-/
import Derived.Test.YtkaadahcefdiiaaDoorItTwo
import Derived.Deep.CutRange
namespace Go.Proofs.YtkaadahcefdiiaaDoor.internParts
open Go.ChangeShapes Go.WideShapes Go.ChangeAt Go.RowKit
open Cn It
attribute [local go_sem] ba_at ByteArray.extract_mk ba_cat
attribute [local simp] low_drew low_alloc

set_option maxRecDepth 10000 in
set_option maxHeartbeats 8000000 in
theorem walk (la lb : List (List UInt8)) (o : Ig) (va vb : Value) (w : World) (hla : Hid (∀ a ∈ la, a.length ≤ 137438953472)) (hlb : Hid (∀ a ∈ lb, a.length ≤ 137438953472)) (ha : Holds w va (scells la)) (hb : Holds w vb (scells lb)) :
    Calls Tryd.prog 5 #[va, vb, igV o] w fun e w' => e = .returned (.bool true) ∧ Below w.heap.size w w' := by
  obtain ⟨ao, ca, hva⟩ := ha.form
  obtain ⟨bo, cb, hvb⟩ := hb.form
  rw [scells_length] at hva hvb
  subst hva hvb
  have hbx : Stay o w.heap.size w (w.alloc (.cells #[.bool o.sp, .bool o.wt, .bool o.bl, .bool o.cs, .bool o.tb, .bool o.tr] 24)) := ⟨Boxed.fresh o w, (Below.refl _ w).alloc (Nat.le_refl _) _⟩
  by_cases h1 : (60 : Int) < la.length
  · unfold igV
    go_enter Tryd.func5, Tryd.ntmps5
    go_wp2_with fail
    refine (works_any _).mono ?_
    rintro e w1 ⟨rfl, hb1⟩
    go_wp2
    go_ret
    exact ⟨rfl, (hbx.keep hb1).low⟩
  by_cases h2 : (60 : Int) < lb.length
  · unfold igV
    go_enter Tryd.func5, Tryd.ntmps5
    go_wp2_with fail
    refine (works_any _).mono ?_
    rintro e w1 ⟨rfl, hb1⟩
    go_wp2
    go_ret
    exact ⟨rfl, (hbx.keep hb1).low⟩
  unfold igV
  go_enter Tryd.func5, Tryd.ntmps5
  go_wp2_with fail
  refine (works_any _).mono ?_
  rintro e w1 ⟨rfl, hb1⟩
  have hS1 := hbx.keep hb1
  have ha1 := ha.keep hS1.low.block
  have hb1 := hb.keep hS1.low.block
  have hla1 : la.length ≤ 1099511627776 := by omega
  have hlb1 : lb.length ≤ 1099511627776 := by omega
  have hlab : la.length + lb.length ≤ 1099511627776 := by omega
  clear hbx ha hb
  go_wp2_with fail
  go_cut [7, 8, 9] from 25 to 36 (fun x y nv wz => ∃ xo xc yo yc, x = .slice xo la.length xc ∧ y = .slice yo lb.length yc ∧ nv = .int .i64 (adds [] (la.map (canonL o) ++ lb.map (canonL o))).length ∧ Holds wz (.slice xo la.length xc) (icells (nums [] (la.map (canonL o)))) ∧ Holds wz (.slice yo lb.length yc) (icells (nums (adds [] (la.map (canonL o))) (lb.map (canonL o)))) ∧ Low w1 wz)
  case first =>
    have hL : Low w1 w1 := Below.refl _ w1
    have hbox : Boxed o w.heap.size w1 := hS1.box
    obtain ⟨d0, d1, d2, d3, d4, d5⟩ := hL.six hbox
    go_region_held3 (fun w' => w'.cell? ⟨w.heap.size, 0, none⟩ = some (.bool o.sp) ∧ w'.cell? ⟨w.heap.size, 1, none⟩ = some (.bool o.wt) ∧ w'.cell? ⟨w.heap.size, 2, none⟩ = some (.bool o.bl) ∧ w'.cell? ⟨w.heap.size, 3, none⟩ = some (.bool o.cs) ∧ w'.cell? ⟨w.heap.size, 4, none⟩ = some (.bool o.tb) ∧ w'.cell? ⟨w.heap.size, 5, none⟩ = some (.bool o.tr) ∧ Low w1 w') (go_keep)
      (first
        | (refine step_two w1 _ rfl (.tmp 26) (.tmp 27) rfl _ _ la _ _ rfl rfl ha1 hla1 (by first | assumption | exact two_both (by first | assumption | (simp [*]; done)) | exact (two_both (by first | assumption | (simp [*]; done))).symm | exact (two_new (by first | assumption | (simp [*]; done)) (by assumption)).symm) (by first | assumption | (simp [*]; done)) ?_; intro v1 u1 hw1 hlow1; obtain ⟨e0, e1, e2, e3, e4, e5⟩ := hlow1.six hbox)
        | (refine step_one w1 _ rfl (.tmp 26) (.tmp 27) rfl _ _ la rfl rfl ha1 hla1 (by exact one_new (by first | assumption | (simp [*]; done))) (by first | assumption | (simp [*]; done)) ?_; intro v1 u1 hw1 hlow1; obtain ⟨e0, e1, e2, e3, e4, e5⟩ := hlow1.six hbox)
        | (refine step_two w1 _ rfl (.tmp 29) (.tmp 30) rfl _ _ lb _ _ rfl rfl hb1 hlb1 (by first | exact Two.symm (by assumption) | exact two_both (by first | assumption | (simp [*]; done)) | exact (two_both (by first | assumption | (simp [*]; done))).symm | exact (two_new (by first | assumption | (simp [*]; done)) (by assumption)).symm) (by first | assumption | (simp [*]; done)) ?_; intro v2 u2 hw2' hlow2; have hw2 := hw2'.symm; clear hw2'; obtain ⟨e0, e1, e2, e3, e4, e5⟩ := hlow2.six hbox)
        | (refine step_one w1 _ rfl (.tmp 29) (.tmp 30) rfl _ _ lb rfl rfl hb1 hlb1 (by exact one_new (by first | assumption | (simp [*]; done))) (by first | assumption | (simp [*]; done)) ?_; intro v2 u2 hw2 hlow2; obtain ⟨e0, e1, e2, e3, e4, e5⟩ := hlow2.six hbox)
        | (go_at_call 7; refine (ClassesTwo la lb o _ _ w1 _ hla hlb hlab (by assumption) (by first | assumption | (simp [*]; done))).mono ?_; rintro e w' ⟨vx, vy, rfl, hx, hy, hlow3⟩; obtain ⟨f0, f1, f2, f3, f4, f5⟩ := hlow3.six hbox))
    all_goals
      obtain ⟨xo, xc, hvx⟩ := hx.form
      obtain ⟨yo, yc, hvy⟩ := hy.form
      rw [icells_length, nums_length, List.length_map] at hvx hvy
      subst hvx hvy
      go_wp2_with fail
      go_meet
      case rel => exact ⟨xo, xc, yo, yc, rfl, rfl, rfl, hx, hy, hlow3⟩
  case rest =>
    obtain ⟨xo, xc, yo, yc, rfl, rfl, rfl, hx, hy, hL1⟩ := hcut
    have hS2 := hS1.keep hL1
    have hsz2 := hS2.low.size
    have hNa : (nums [] (la.map (canonL o))).length = la.length := by rw [nums_length, List.length_map]
    have hNb : (nums (adds [] (la.map (canonL o))) (lb.map (canonL o))).length = lb.length := by rw [nums_length, List.length_map]
    have ha2 := ha1.keep (Below.block hL1)
    have hb2 := hb1.keep (Below.block hL1)
    clear hS1 ha1 hb1 hL1
    go_wp2_with (at_builtin; refine wpList_append_holds _ rfl (.tmp 49) (.tmp 50) 22 9 (.string ⟨#[]⟩) 16 Tryd.underlying22 infoStr rfl (by decide) rfl wc.heap.size _ 0 [] rfl (nil_row_new _ _ _ rfl (by omega)) _ (scells la) rfl ?hold1 (scells_one la) ?len1 ?base1 ?_)
    case hold1 => exact ha2.alloc _
    case len1 => rw [scells_length]; omega
    case base1 => simp
    intro v1 w3 hown1 hgrow1
    have hB3 : Below wc.heap.size wc w3 := (But.of_grown (S := fun k => k = wc.heap.size) ((World.grownBy_alloc _ _ _).trans hgrow1) (fun k e => by cases e; rfl)).below (Below.refl _ wc) (Nat.le_refl _) (fun k e => by omega)
    have hle3 := hB3.size
    obtain ⟨co, n1, c1, rfl⟩ : ∃ a n c, v1 = .slice a n c := by
      obtain ⟨a, c, h⟩ := (holds_of hown1).form
      exact ⟨a, _, c, h⟩
    rw [scells_length] at hown1
    clear hgrow1
    go_wp2_with (at_builtin; refine wpList_append_holds _ rfl (.tmp 51) (.tmp 52) 22 9 (.string ⟨#[]⟩) 16 Tryd.underlying22 infoStr rfl (by decide) rfl wc.heap.size _ _ _ rfl hown1 _ (scells lb) rfl ?hold2 (scells_one lb) ?len2 ?base2 ?_)
    case hold2 => exact hb2.keep hB3.block
    case len2 => rw [scells_length]; omega
    case base2 => omega
    intro v2 w4 hown2 hgrow2
    have hB4 : Below wc.heap.size wc w4 := hB3.grown hgrow2 hle3 (fun j hj => owns_ge' hown1 hj)
    have hle4 := hB4.size
    rw [← scells_append] at hown2
    have hall4 := holds_of hown2
    obtain ⟨do_, n2, c2, rfl⟩ : ∃ a n c, v2 = .slice a n c := by
      obtain ⟨a, c, h⟩ := hall4.form
      exact ⟨a, _, c, h⟩
    have hx4 := hx.keep hB4.block
    have hy4 := hy.keep hB4.block
    have hS4 := hS2.keep hB4
    clear hgrow2 hown1 hown2 hB3 hle3 hB4 hS2 hx hy hsz2
    go_wp2_with (at_builtin; refine wpList_append_holds _ rfl (.tmp 54) (.tmp 55) 25 3 (.int .i64 0) 8 Tryd.underlying25 infoInt rfl (by decide) rfl w4.heap.size _ 0 [] rfl (nil_row_new _ _ _ rfl (by omega)) _ (icells (nums [] (la.map (canonL o)))) rfl ?hold3 (icells_one _) ?len3 ?base3 ?_)
    case hold3 => exact hx4.alloc _
    case len3 => rw [icells_length]; omega
    case base3 => simp
    intro v3 w5 hown3 hgrow3
    have hB5 : Below w4.heap.size w4 w5 := (But.of_grown (S := fun k => k = w4.heap.size) ((World.grownBy_alloc _ _ _).trans hgrow3) (fun k e => by cases e; rfl)).below (Below.refl _ w4) (Nat.le_refl _) (fun k e => by omega)
    have hle5 := hB5.size
    obtain ⟨eo, n3, c3, rfl⟩ : ∃ a n c, v3 = .slice a n c := by
      obtain ⟨a, c, h⟩ := (holds_of hown3).form
      exact ⟨a, _, c, h⟩
    rw [icells_length] at hown3
    clear hgrow3
    go_wp2_with (at_builtin; refine wpList_append_holds _ rfl (.tmp 56) (.tmp 57) 25 3 (.int .i64 0) 8 Tryd.underlying25 infoInt rfl (by decide) rfl w4.heap.size _ _ _ rfl hown3 _ (icells (nums (adds [] (la.map (canonL o))) (lb.map (canonL o)))) rfl ?hold4 (icells_one _) ?len4 ?base4 ?_)
    case hold4 => exact hy4.keep hB5.block
    case len4 => rw [icells_length]; omega
    case base4 => omega
    intro v4 w6 hown4 hgrow4
    have hB6 : Below w4.heap.size w4 w6 := hB5.grown hgrow4 hle5 (fun j hj => owns_ge' hown3 hj)
    have hS6 := hS4.keep hB6
    rw [← icells_append, ← nums_append] at hown4
    have hl6 := holds_of hown4
    have hall6 := hall4.keep hB6.block
    obtain ⟨fl, hfl⟩ : ∃ fl, fl = la.map (canonL o) ++ lb.map (canonL o) := ⟨_, rfl⟩
    obtain ⟨all, hal⟩ : ∃ all, all = la ++ lb := ⟨_, rfl⟩
    have hflen : fl.length = all.length := by rw [hfl, hal]; simp
    have hfm : Hid (fl = all.map (canonL o)) := by show _ = _; rw [hfl, hal, List.map_append]
    have hlle : all.length ≤ 120 := by rw [hal]; simp; omega
    have hllx : Hid (∀ a ∈ all, a.length ≤ 137438953472) := by
      intro a h
      rw [hal] at h
      rcases List.mem_append.1 h with h | h
      · exact hla.out a h
      · exact hlb.out a h
    rw [← hfl] at hl6 ⊢
    rw [← hal] at hall6
    obtain ⟨lo, lc, hlv⟩ := hl6.form
    obtain ⟨go_, gc, hgv⟩ := hall6.form
    rw [icells_length, nums_length, hflen] at hlv
    rw [scells_length] at hgv
    subst hlv
    cases hgv
    clear hgrow4 hown3 hown4 hB5 hle5 hS4 hx4 hy4 hall4 hB6 hfl hal hle4 hNa hNb ha2 hb2
    go_wp2
    go_loopw [12, 13] (fun nx i wr => ∃ k : Nat, k ≤ all.length ∧ nx = .int .i64 (adds [] (fl.take k)).length ∧ i = .int .i64 k ∧ Low w6 wr) (fun _ i _ => all.length - (intOf i).toNat)
    case atStart => exact ⟨0, Nat.zero_le _, rfl, rfl, Below.refl _ w6⟩
    case round =>
      obtain ⟨k, hk, rfl, rfl, hlow⟩ := hrel
      by_cases hlt : k < all.length
      · obtain ⟨bl, ol, cl', hlv, hbl, hcl⟩ := hl6.at (by rw [icells_length, nums_length]; omega)
        obtain ⟨bg, og, cg', hgv, hbg, hcg⟩ := hall6.at (by rw [scells_length]; omega)
        rw [icells_length, nums_length, hflen] at hlv
        rw [scells_length] at hgv
        cases hlv
        cases hgv
        have HC : Hid (∀ j (h : j < fl.length), w6.cell? ⟨bl, ol + j, none⟩ = some (.int .i64 ((nums [] fl)[j]'(by rw [nums_length]; exact h)))) := fun j h => by rw [hcl j (by rw [icells_length, nums_length]; exact h)]; simp [icells]
        have HA : Hid (∀ j (h : j < all.length), w6.cell? ⟨bg, og + j, none⟩ = some (.string ⟨all[j].toArray⟩)) := fun j h => by rw [hcg j (by rw [scells_length]; exact h)]; simp [scells]
        have hkf : k < fl.length := by omega
        have hadl := adds_le (fl.take k) []
        rw [List.length_take] at hadl
        simp only [List.length_nil, Nat.zero_add] at hadl
        have ck0 := HC.out k hkf
        have sk := HA.out k hlt
        have hkk1 := hllx.out _ (List.getElem_mem hlt)
        have hxt := nums_get_take fl k hkf (by rw [nums_length]; exact hkf)
        have HSAME : Hid (∀ j (h : j < fl.length), (nums [] fl)[k]'(by rw [nums_length]; exact hkf) = (nums [] fl)[j]'(by rw [nums_length]; exact h) ↔ eqL o all[k] (all[j]'(by omega)) = true) := by
          intro j h
          rw [nums_same fl k j hkf h]
          simp only [hfm.out, List.getElem_map]
          exact beq_iff_eq.symm
        obtain ⟨x, hx⟩ : ∃ x, x = (nums [] fl)[k]'(by rw [nums_length]; exact hkf) := ⟨_, rfl⟩
        have ck : w6.cell? ⟨bl, ol + k, none⟩ = some (.int .i64 x) := by rw [hx]; exact ck0
        rw [← hx] at hxt HSAME
        have hxle := num_le (adds [] (fl.take k)) fl[k]
        have hnext := adds_take_next fl k hkf
        have hsame0 := adds_take_same fl k hkf
        rw [← hxt] at hxle hnext hsame0
        obtain ⟨nn, hnn⟩ : ∃ nn, nn = (adds [] (fl.take k)).length := ⟨_, rfl⟩
        rw [← hnn] at hxle hnext hsame0 hadl
        rw [← hnn]
        obtain ⟨d0, d1, d2, d3, d4, d5⟩ := hlow.six hS6.box
        have d6 := low_cell hlow hbl ck
        have d8 := low_cell hlow hbg sk
        have i1 : 0 ≤ (k : Int) := by omega
        have i2 : (k : Int) < (all.length : Int) := by omega
        have x0 : ¬ ((x : Int) < 0) := by omega
        have x1 : ¬ ((nn : Int) < (x : Int)) := by omega
        clear hcl hcg ck0 hxt hx hnn
        by_cases hxn : x = nn
        · have HNV : Hid ((adds [] (fl.take (k + 1))).length = nn + 1) := hnext hxn
          clear hnext hsame0
          subst hxn
          go_wp2
          clear d0 d1 d2 d3 d4 d5 d6 d8
          go_loopw [14] (fun kk wr => ∃ j : Nat, j ≤ k ∧ kk = .int .i64 j ∧ Low w6 wr) (fun kk _ => k - (intOf kk).toNat)
          case atStart => exact ⟨0, Nat.zero_le _, rfl, hlow⟩
          case round =>
            clear hlow
            obtain ⟨j, hjk, rfl, hlow⟩ := hrel
            by_cases hjlt : j < k
            · have cj0 := HC.out j (by omega)
              have sj := HA.out j (by omega)
              have hjj1 := hllx.out _ (List.getElem_mem (l := all) (n := j) (by omega))
              have hsame := HSAME.out j (by omega)
              obtain ⟨y, hy⟩ : ∃ y, y = (nums [] fl)[j]'(by rw [nums_length]; omega) := ⟨_, rfl⟩
              have cj : w6.cell? ⟨bl, ol + j, none⟩ = some (.int .i64 y) := by rw [hy]; exact cj0
              rw [← hy] at hsame
              obtain ⟨g0, g1, g2, g3, g4, g5⟩ := hlow.six hS6.box
              have g6 := low_cell hlow hbl ck
              have g7 := low_cell hlow hbl cj
              have g8 := low_cell hlow hbg sk
              have g9 := low_cell hlow hbg sj
              have j1 : 0 ≤ (j : Int) := by omega
              have j2 : (j : Int) < (all.length : Int) := by omega
              have j3 : (j : Int) < (k : Int) := by omega
              clear cj0 hy
              by_cases hxy : x = y
              · have HQ : Hid (eqL o all[k] all[j] = true) := hsame.1 hxy
                clear hsame
                subst hxy
                go_wp2_with fail
                go_region_held3 (fun w' => w'.cell? ⟨bl, ol + k, none⟩ = some (.int .i64 x) ∧ w'.cell? ⟨bl, ol + j, none⟩ = some (.int .i64 x) ∧ w'.cell? ⟨bg, og + k, none⟩ = some (.string ⟨all[k].toArray⟩) ∧ w'.cell? ⟨bg, og + j, none⟩ = some (.string ⟨all[j].toArray⟩) ∧ w'.cell? ⟨w.heap.size, 0, none⟩ = some (.bool o.sp) ∧ w'.cell? ⟨w.heap.size, 1, none⟩ = some (.bool o.wt) ∧ w'.cell? ⟨w.heap.size, 2, none⟩ = some (.bool o.bl) ∧ w'.cell? ⟨w.heap.size, 3, none⟩ = some (.bool o.cs) ∧ w'.cell? ⟨w.heap.size, 4, none⟩ = some (.bool o.tb) ∧ w'.cell? ⟨w.heap.size, 5, none⟩ = some (.bool o.tr) ∧ Low w6 w') (go_keep)
                  (first | (go_at_call 18; refine (EqualLow all[k] all[j] true o w6 _ hkk1 hjj1 HQ (by first | assumption | (simp [*]; done))).mono ?_; rintro e w' ⟨rfl, hlow3⟩; obtain ⟨f0, f1, f2, f3, f4, f5⟩ := hlow3.six hS6.box; have f6 := low_cell hlow3 hbl ck; have f7 := low_cell hlow3 hbl cj; have f8 := low_cell hlow3 hbg sk; have f9 := low_cell hlow3 hbg sj))
                go_wp2
                go_roundw
                case rel => exact ⟨j + 1, by omega, by go_num, hlow3⟩
                case measure => simp [intOf]; omega
              · have HQ : Hid (eqL o all[k] all[j] = false) := Bool.eq_false_iff.2 (fun e => hxy (hsame.2 e))
                have hne : ¬ ((x : Int) = (y : Int)) := by omega
                clear hsame hxy
                go_wp2_with fail
                go_region_held3 (fun w' => w'.cell? ⟨bl, ol + k, none⟩ = some (.int .i64 x) ∧ w'.cell? ⟨bl, ol + j, none⟩ = some (.int .i64 y) ∧ w'.cell? ⟨bg, og + k, none⟩ = some (.string ⟨all[k].toArray⟩) ∧ w'.cell? ⟨bg, og + j, none⟩ = some (.string ⟨all[j].toArray⟩) ∧ w'.cell? ⟨w.heap.size, 0, none⟩ = some (.bool o.sp) ∧ w'.cell? ⟨w.heap.size, 1, none⟩ = some (.bool o.wt) ∧ w'.cell? ⟨w.heap.size, 2, none⟩ = some (.bool o.bl) ∧ w'.cell? ⟨w.heap.size, 3, none⟩ = some (.bool o.cs) ∧ w'.cell? ⟨w.heap.size, 4, none⟩ = some (.bool o.tb) ∧ w'.cell? ⟨w.heap.size, 5, none⟩ = some (.bool o.tr) ∧ Low w6 w') (go_keep)
                  (first | (go_at_call 18; refine (EqualLow all[k] all[j] false o w6 _ hkk1 hjj1 HQ (by first | assumption | (simp [*]; done))).mono ?_; rintro e w' ⟨rfl, hlow3⟩; obtain ⟨f0, f1, f2, f3, f4, f5⟩ := hlow3.six hS6.box; have f6 := low_cell hlow3 hbl ck; have f7 := low_cell hlow3 hbl cj; have f8 := low_cell hlow3 hbg sk; have f9 := low_cell hlow3 hbg sj))
                go_wp2
                go_roundw
                case rel => exact ⟨j + 1, by omega, by go_num, hlow3⟩
                case measure => simp [intOf]; omega
            · have j3 : ¬ ((j : Int) < (k : Int)) := by omega
              go_wp2
              go_roundw
              case rel => exact ⟨k + 1, by omega, by rw [HNV.out]; go_num, by go_num, hlow⟩
              case measure => simp [intOf]; omega
        · have HNV : Hid ((adds [] (fl.take (k + 1))).length = nn) := hsame0 hxn
          have hne2 : ¬ ((x : Int) = (nn : Int)) := by omega
          clear hnext hsame0 hxn
          go_wp2
          clear d0 d1 d2 d3 d4 d5 d6 d8
          go_loopw [14] (fun kk wr => ∃ j : Nat, j ≤ k ∧ kk = .int .i64 j ∧ Low w6 wr) (fun kk _ => k - (intOf kk).toNat)
          case atStart => exact ⟨0, Nat.zero_le _, rfl, hlow⟩
          case round =>
            clear hlow
            obtain ⟨j, hjk, rfl, hlow⟩ := hrel
            by_cases hjlt : j < k
            · have cj0 := HC.out j (by omega)
              have sj := HA.out j (by omega)
              have hjj1 := hllx.out _ (List.getElem_mem (l := all) (n := j) (by omega))
              have hsame := HSAME.out j (by omega)
              obtain ⟨y, hy⟩ : ∃ y, y = (nums [] fl)[j]'(by rw [nums_length]; omega) := ⟨_, rfl⟩
              have cj : w6.cell? ⟨bl, ol + j, none⟩ = some (.int .i64 y) := by rw [hy]; exact cj0
              rw [← hy] at hsame
              obtain ⟨g0, g1, g2, g3, g4, g5⟩ := hlow.six hS6.box
              have g6 := low_cell hlow hbl ck
              have g7 := low_cell hlow hbl cj
              have g8 := low_cell hlow hbg sk
              have g9 := low_cell hlow hbg sj
              have j1 : 0 ≤ (j : Int) := by omega
              have j2 : (j : Int) < (all.length : Int) := by omega
              have j3 : (j : Int) < (k : Int) := by omega
              clear cj0 hy
              by_cases hxy : x = y
              · have HQ : Hid (eqL o all[k] all[j] = true) := hsame.1 hxy
                clear hsame
                subst hxy
                go_wp2_with fail
                go_region_held3 (fun w' => w'.cell? ⟨bl, ol + k, none⟩ = some (.int .i64 x) ∧ w'.cell? ⟨bl, ol + j, none⟩ = some (.int .i64 x) ∧ w'.cell? ⟨bg, og + k, none⟩ = some (.string ⟨all[k].toArray⟩) ∧ w'.cell? ⟨bg, og + j, none⟩ = some (.string ⟨all[j].toArray⟩) ∧ w'.cell? ⟨w.heap.size, 0, none⟩ = some (.bool o.sp) ∧ w'.cell? ⟨w.heap.size, 1, none⟩ = some (.bool o.wt) ∧ w'.cell? ⟨w.heap.size, 2, none⟩ = some (.bool o.bl) ∧ w'.cell? ⟨w.heap.size, 3, none⟩ = some (.bool o.cs) ∧ w'.cell? ⟨w.heap.size, 4, none⟩ = some (.bool o.tb) ∧ w'.cell? ⟨w.heap.size, 5, none⟩ = some (.bool o.tr) ∧ Low w6 w') (go_keep)
                  (first | (go_at_call 18; refine (EqualLow all[k] all[j] true o w6 _ hkk1 hjj1 HQ (by first | assumption | (simp [*]; done))).mono ?_; rintro e w' ⟨rfl, hlow3⟩; obtain ⟨f0, f1, f2, f3, f4, f5⟩ := hlow3.six hS6.box; have f6 := low_cell hlow3 hbl ck; have f7 := low_cell hlow3 hbl cj; have f8 := low_cell hlow3 hbg sk; have f9 := low_cell hlow3 hbg sj))
                go_wp2
                go_roundw
                case rel => exact ⟨j + 1, by omega, by go_num, hlow3⟩
                case measure => simp [intOf]; omega
              · have HQ : Hid (eqL o all[k] all[j] = false) := Bool.eq_false_iff.2 (fun e => hxy (hsame.2 e))
                have hne : ¬ ((x : Int) = (y : Int)) := by omega
                clear hsame hxy
                go_wp2_with fail
                go_region_held3 (fun w' => w'.cell? ⟨bl, ol + k, none⟩ = some (.int .i64 x) ∧ w'.cell? ⟨bl, ol + j, none⟩ = some (.int .i64 y) ∧ w'.cell? ⟨bg, og + k, none⟩ = some (.string ⟨all[k].toArray⟩) ∧ w'.cell? ⟨bg, og + j, none⟩ = some (.string ⟨all[j].toArray⟩) ∧ w'.cell? ⟨w.heap.size, 0, none⟩ = some (.bool o.sp) ∧ w'.cell? ⟨w.heap.size, 1, none⟩ = some (.bool o.wt) ∧ w'.cell? ⟨w.heap.size, 2, none⟩ = some (.bool o.bl) ∧ w'.cell? ⟨w.heap.size, 3, none⟩ = some (.bool o.cs) ∧ w'.cell? ⟨w.heap.size, 4, none⟩ = some (.bool o.tb) ∧ w'.cell? ⟨w.heap.size, 5, none⟩ = some (.bool o.tr) ∧ Low w6 w') (go_keep)
                  (first | (go_at_call 18; refine (EqualLow all[k] all[j] false o w6 _ hkk1 hjj1 HQ (by first | assumption | (simp [*]; done))).mono ?_; rintro e w' ⟨rfl, hlow3⟩; obtain ⟨f0, f1, f2, f3, f4, f5⟩ := hlow3.six hS6.box; have f6 := low_cell hlow3 hbl ck; have f7 := low_cell hlow3 hbl cj; have f8 := low_cell hlow3 hbg sk; have f9 := low_cell hlow3 hbg sj))
                go_wp2
                go_roundw
                case rel => exact ⟨j + 1, by omega, by go_num, hlow3⟩
                case measure => simp [intOf]; omega
            · have j3 : ¬ ((j : Int) < (k : Int)) := by omega
              go_wp2
              go_roundw
              case rel => exact ⟨k + 1, by omega, by rw [HNV.out], by go_num, hlow⟩
              case measure => simp [intOf]; omega
      · obtain rfl : k = all.length := by omega
        have etk : fl.take all.length = fl := List.take_of_length_le (by omega)
        rw [etk]
        go_wp2
        go_ret
        exact ⟨rfl, (hS6.keep hlow).low⟩

theorem contract (H : Type) (enc : TypeId × Value → H) (W : World) (base : Nat) (args : Array Value) (ds gs : List (DataW H)) (before : List MemPlace)
    (hval : ∀ (j : Nat) t v, Tryd.f5.params[j]? = some t → args[j]? = some v → Value.okWide Tryd.prog W .any base t v)
    (hW : DataW.Whole enc Tryd.prog Tryd.f5.params.toList Rows.internPartsSpec.vars false W args.toList ds gs before) (hk : Rows.uptoSmall H (ds ++ gs) = true) :
    Calls Tryd.prog 5 args W fun e W' => ∃ v, e = .returned v ∧ Rows.internPartsSpec.post enc Tryd.prog Tryd.f5 false true false false W args v W' := by
  have hW' := hW
  obtain ⟨p, q, hA0, hV, rfl, hfz, hnd⟩ := hW
  have hA : DataW.TrodAll enc Tryd.prog W 0 (fun _ => true) true Tryd.f5.params.toList args.toList ds p := hA0
  rw [Tryd.params5] at hA hval
  obtain ⟨v0, vs0, d0, ds0, p0, q0, hargs, rfl, rfl, h0, r0⟩ := trodAll_cons hA
  obtain ⟨v1, vs1, d1, ds1, p1, q1, rfl, rfl, rfl, h1, r1⟩ := trodAll_cons r0
  obtain ⟨v2, vs2, d2, ds2, p2, q2, rfl, rfl, rfl, h2, r2⟩ := trodAll_cons r1
  obtain ⟨rfl, rfl, rfl⟩ := trodAll_nil r2
  obtain rfl : args = #[v0, v1, v2] := by cases args; simp_all
  obtain ⟨rfl, rfl⟩ := trodVars_none hV
  obtain ⟨a0, len0, cap0, rfl⟩ := okWide_slice Tryd.underlying22 (hval 0 22 v0 rfl rfl)
  have k0 := h0
  have lt0 : ∀ x ∈ p0, x.block < W.heap.size := by obtain ⟨m, hm⟩ := k0; exact DataW.trod_lt m _ _ _ hm
  obtain ⟨a1, len1, cap1, rfl⟩ := okWide_slice Tryd.underlying22 (hval 1 22 v1 rfl rfl)
  have k1 := h1
  have lt1 : ∀ x ∈ p1, x.block < W.heap.size := by obtain ⟨m, hm⟩ := k1; exact DataW.trod_lt m _ _ _ hm
  clear hA0
  simp only [List.append_nil] at hk
  have hbk : Rows.uptoBulkAll [d0, d1, d2] ≤ 1048576 := of_decide_eq_true hk
  simp only [Rows.uptoBulkAll] at hbk
  obtain ⟨f0, hf0⟩ := h0
  obtain ⟨ws0, hv0, hwl0⟩ := open_texts (by simpa [Value.cells] using hf0)
  have he0 : ∀ a ∈ ws0, a.length ≤ 137438953472 := fun a ha => by have := each_le a ha; omega
  obtain ⟨f1, hf1⟩ := h1
  obtain ⟨ws1, hv1, hwl1⟩ := open_texts (by simpa [Value.cells] using hf1)
  have he1 : ∀ a ∈ ws1, a.length ≤ 137438953472 := fun a ha => by have := each_le a ha; omega
  obtain ⟨o, rfl, rfl, rfl⟩ := open_ig (hval 2 24 v2 rfl rfl) h2
  have hw := walk ws0 ws1 o (.slice a0 len0 cap0) (.slice a1 len1 cap1) W he0 he1 hv0 hv1
  refine hw.mono fun e W' ⟨he, bel⟩ => ?_
  subst he
  exact ⟨_, rfl, _, _, _, [], _, [], hW', trodAll_mk1 (shut_bool Tryd.underlying4 _), trodAll_cons_mk (Below.trod laidOut (by kernel_rfl) (of_decide_eq_true (by kernel_rfl)) k0 bel lt0) (trodAll_cons_mk (Below.trod laidOut (by kernel_rfl) (of_decide_eq_true (by kernel_rfl)) k1 bel lt1) (trodAll_cons_mk (shut_ig o) trodAll_mk0)), rfl, bel.frame _, fun h => by cases h⟩

theorem laid_met (os : Os) : laidMet Tryd.prog Rows.internPartsUptoRow.laid ((laidOnU (World.holding Tryd.prog os ⟨#[], #[], []⟩)).forCall (fun _ _ => 0) ⟨#[], #[.slice none 0 0, .slice none 0 0, .agg #[.bool false, .bool false, .bool false, .bool false, .bool false, .bool false]], []⟩).memory :=
  laidMet_of_run' 8 (by kernel_rfl) (by kernel_rfl)
theorem reads (os : Os) {H : Type} (enc : TypeId × Value → H) : ∃ places, DataW.whole enc Tryd.prog ((laidOnU (World.holding Tryd.prog os ⟨#[], #[], []⟩)).forCall (fun _ _ => 0) ⟨#[], #[.slice none 0 0, .slice none 0 0, .agg #[.bool false, .bool false, .bool false, .bool false, .bool false, .bool false]], []⟩).memory Tryd.f5.params.toList Rows.internPartsSpec.vars false #[Value.slice none 0 0, Value.slice none 0 0, Value.agg #[.bool false, .bool false, .bool false, .bool false, .bool false, .bool false]].toList 8 = some ([.nil, .nil, .agg [.lit (.bool false), .lit (.bool false), .lit (.bool false), .lit (.bool false), .lit (.bool false), .lit (.bool false)]], [], places) :=
  ⟨[], by kernel_rfl⟩

set_option maxRecDepth 100000 in
theorem lifted (os : Os) (started : os.Started) (H : Type) (enc : TypeId × Value → H) (F : Stop.Interp) :
    ReturnsInHanded {} Tryd.checked os 5 .any ((Rows.OpenSpec.upto Rows.internPartsSpec).preRow enc Tryd.prog Tryd.f5 Rows.internPartsUptoRow.domain false Rows.internPartsUptoRow.laid) (((Rows.OpenSpec.upto Rows.internPartsSpec).at F).post enc Tryd.prog Tryd.f5 false true false false) := by
  obtain ⟨places, hx⟩ := reads os enc
  refine returnsInHanded_of_row (C := Tryd.checked) (s := Rows.OpenSpec.upto Rows.internPartsSpec) own started (by kernel_rfl) Tryd.func5
    (witness_row_at (enc := enc) (C := Tryd.checked) false (laidOnU (World.holding Tryd.prog os ⟨#[], #[], []⟩)) #[.slice none 0 0, .slice none 0 0, .agg #[.bool false, .bool false, .bool false, .bool false, .bool false, .bool false]] rfl (by kernel_rfl) (by kernel_rfl) (by kernel_rfl)
      (OpenSpec.preRow_of_cond 8 hx (by kernel_rfl) (fun k hk => by cases hk; kernel_rfl) (by kernel_rfl) (laid_met os))) ?_
  intro W base args ds gs before hval hW _ hcond _ _ _ _
  exact contract H enc W base args ds gs before hval hW (hcond _ rfl)

theorem said : Rows.InternPartsUptoSaid :=
  OpenClaim.holds_of_cond 5 Tryd.f5 rfl rfl rfl rfl rfl rfl rfl ⟨rfl, rfl, rfl, rfl, rfl⟩ rfl rfl rfl rfl rfl (by kernel_rfl) Tryd.func5 (by kernel_rfl)
    (of_decide_eq_true (by kernel_rfl)) (by unfold Func.isWrapper; first | (rw [if_pos (by decide +kernel)]; kernel_rfl) | (rw [if_neg (by decide +kernel)]; exact ⟨rfl, rfl⟩))
    (fun os started H enc _ F => by rw [OpenClaim.pre_eq_preRow]; exact lifted os started H enc F)

theorem plain (f : FuncId) (fn : Func) (hf : Tryd.pinned.checked.prog.funcNamed "redline/redlinelaw04.InternParts" = some f) (hfn : Tryd.pinned.checked.prog.funcs[f]? = some fn) :
    false = Tryd.pinned.checked.prog.looks [] ∧ ∀ (j : Nat) t, fn.params[j]? = some t → Tryd.pinned.checked.prog.wantsStandIn t = false := by
  obtain rfl : f = 5 := Option.some.inj ((show Tryd.prog.funcNamed "redline/redlinelaw04.InternParts" = some 5 by kernel_rfl).symm.trans hf) |>.symm
  obtain rfl : fn = Tryd.f5 := (Option.some.inj (Tryd.func5.symm.trans hfn)).symm
  refine ⟨by kernel_rfl, fun j t ht => ?_⟩
  rw [Tryd.params5] at ht
  have hm : t = 22 ∨ t = 22 ∨ t = 24 := by simpa using Array.mem_of_getElem? ht
  rcases hm with rfl | rfl | rfl
  · exact (show Tryd.prog.wantsStandIn 22 = false by kernel_rfl)
  · exact (show Tryd.prog.wantsStandIn 22 = false by kernel_rfl)
  · exact (show Tryd.prog.wantsStandIn 24 = false by kernel_rfl)

theorem card : Rows.InternPartsUptoCardSaid :=
  Claim7.holds_tied_plain_at .later [] _ _ _ _ said (fun _ h => by cases h) (by kernel_rfl) (fun _ h => by cases h) internPartsUpto_row_tie rfl ⟨rfl, rfl⟩ (by kernel_rfl) rfl plain (by kernel_rfl)
#print axioms card
end Go.Proofs.YtkaadahcefdiiaaDoor.internParts
