/-
  For every list of lines, every list of Booleans and whatever is ignored, of together at most 1048576 letters and values, the law InternTables returns true and leaves its arguments as they were: a table answers, line by line, what the plain reference answers. The conditions are the statement's own: that bound, and the library's listed tables hold what the program's text lays.
-/
import Derived.Test.YtkaadahcefdiiaaDoorItBoth
import Derived.Deep.CutRange
namespace Go.Proofs.YtkaadahcefdiiaaDoor.internTables
open Go.ChangeShapes Go.WideShapes Go.ChangeAt Go.RowKit
open Cn It
attribute [local go_sem] ba_at ByteArray.extract_mk ba_cat
attribute [local simp] stay_drew both_drew

/-- the cells of a variable of what is ignored, and that all ahead is as it was -/
def Six (o : Ig) (b : Nat) (W w : World) : Prop := w.cell? ⟨b, 0, none⟩ = some (.bool o.sp) ∧ w.cell? ⟨b, 1, none⟩ = some (.bool o.wt) ∧ w.cell? ⟨b, 2, none⟩ = some (.bool o.bl) ∧ w.cell? ⟨b, 3, none⟩ = some (.bool o.cs) ∧ w.cell? ⟨b, 4, none⟩ = some (.bool o.tb) ∧ w.cell? ⟨b, 5, none⟩ = some (.bool o.tr) ∧ Stay o b W w
theorem six_of {o : Ig} {b : Nat} {W w : World} (h : Stay o b W w) : Six o b W w := by
  obtain ⟨d0, d1, d2, d3, d4, d5⟩ := h.box.cells
  exact ⟨d0, d1, d2, d3, d4, d5, h⟩
theorem six_alloc {o : Ig} {b : Nat} {W w : World} (h : Stay o b W w) (ob : Obj) : Six o b W (w.alloc ob) := six_of (h.keep ((Below.refl _ w).alloc (Nat.le_refl _) ob))

theorem stay_alloc {o : Ig} {b : Nat} {W w : World} (h : Stay o b W w) (ob : Obj) : Stay o b W (w.alloc ob) := h.keep ((Below.refl _ w).alloc (Nat.le_refl _) ob)
attribute [local simp] stay_alloc

theorem NewStay (o : Ig) (b : Nat) (W w : World) (hS : Stay o b W w) :
    Calls Tryd.prog 11 #[igV o] w fun e w' => ∃ t B, e = .returned (.pointer (some ⟨t, 0, none⟩)) ∧ Tbl o [] t B w' ∧ w.heap.size ≤ t ∧ w.heap.size ≤ B ∧ Below w.heap.size w w' ∧ Stay o b W w' := by
  refine (New_any o w).mono ?_
  rintro e w1 ⟨t, B, rfl, h1, h2, h3, h4⟩
  exact ⟨t, B, rfl, h1, h2, h3, h4, hS.keep h4⟩

theorem bothA {o : Ig} {t B : Nat} {W w1 : World} (hS : Below W.heap.size W w1) (hT : Tbl o [] t B w1) (ht : W.heap.size ≤ t) (hB : W.heap.size ≤ B) : Both o [] [] t B w1.heap.size W (w1.alloc (.cells #[.bool o.sp, .bool o.wt, .bool o.bl, .bool o.cs, .bool o.tb, .bool o.tr, .slice none 0 0] 36)) := by
  have hb := (Below.refl _ w1).alloc (Nat.le_refl _) (.cells #[.bool o.sp, .bool o.wt, .bool o.bl, .bool o.cs, .bool o.tb, .bool o.tr, .slice none 0 0] 36)
  exact ⟨hT.keep (S := fun _ => False) (.of_below hb) (fun h => h) (fun h => h), ⟨_, RT.made o w1 _ _ rfl⟩, hS.trans (hb.mono hS.size), ht, hB, hS.size⟩
theorem bothB {o : Ig} {t B : Nat} {W wb w1 : World} (hS : Below W.heap.size W wb) (hT : Tbl o [] t B w1) (ht : W.heap.size ≤ t) (hB : W.heap.size ≤ B)
    (hlow : Below (wb.alloc (.cells #[.bool o.sp, .bool o.wt, .bool o.bl, .bool o.cs, .bool o.tb, .bool o.tr, .slice none 0 0] 36)).drew.heap.size (wb.alloc (.cells #[.bool o.sp, .bool o.wt, .bool o.bl, .bool o.cs, .bool o.tb, .bool o.tr, .slice none 0 0] 36)).drew w1) (hl : Below W.heap.size W w1) : Both o [] [] t B wb.heap.size W w1 := by
  have h := RT.made o wb W.heap.size _ rfl
  have h' : RT o [] wb.heap.size (.slice none 0 0) W.heap.size (wb.alloc (.cells #[.bool o.sp, .bool o.wt, .bool o.bl, .bool o.cs, .bool o.tb, .bool o.tr, .slice none 0 0] 36)).drew := ⟨h.box, h.row⟩
  exact ⟨hT, ⟨_, h'.low hlow⟩, hl, ht, hB, hS.size⟩

/-- the loop's state behind k rounds -/
structure At (o : Ig) (ls : List (List UInt8)) (t B r : Nat) (W : World) (k : Nat) (w : World) : Prop where
  both : Both o (ls.map (canonL o)) ls t B r W w
  short : ∀ a ∈ ls, a.length ≤ 137438953472
  few : ls.length ≤ k

set_option maxRecDepth 10000 in
set_option maxHeartbeats 4000000 in
theorem walk (la : List (List UInt8)) (bs : List Bool) (o : Ig) (va vk : Value) (w : World) (hla : Hid (∀ a ∈ la, a.length ≤ 137438953472)) (ha : Holds w va (scells la)) (hk : Holds w vk (bcells bs)) :
    Calls Tryd.prog 4 #[va, vk, igV o] w fun e w' => e = .returned (.bool true) ∧ Below w.heap.size w w' := by
  obtain ⟨ao, ca, hva⟩ := ha.form
  obtain ⟨bo, cb, hvb⟩ := hk.form
  rw [scells_length] at hva
  rw [bcells_length] at hvb
  subst hva hvb
  have hbx : Stay o w.heap.size w (w.alloc (.cells #[.bool o.sp, .bool o.wt, .bool o.bl, .bool o.cs, .bool o.tb, .bool o.tr] 24)) := ⟨Boxed.fresh o w, (Below.refl _ w).alloc (Nat.le_refl _) _⟩
  by_cases h1 : (300 : Int) < la.length
  · unfold igV
    go_enter Tryd.func4, Tryd.ntmps4
    go_wp2
    go_ret
    exact ⟨rfl, hbx.low⟩
  unfold igV
  go_enter Tryd.func4, Tryd.ntmps4
  go_wp2_with fail
  generalize w.alloc (.cells #[.bool o.sp, .bool o.wt, .bool o.bl, .bool o.cs, .bool o.tb, .bool o.tr] 24) = wb at hbx ⊢
  go_cut [7, 8] from 17 to 21 (fun tv rv wz => ∃ t B r, tv = .pointer (some ⟨t, 0, none⟩) ∧ rv = .pointer (some ⟨r, 0, none⟩) ∧ Both o [] [] t B r w wz)
  case first =>
    obtain ⟨d0, d1, d2, d3, d4, d5⟩ := hbx.box.cells
    go_region_held3 (fun w' => w'.cell? ⟨w.heap.size, 0, none⟩ = some (.bool o.sp) ∧ w'.cell? ⟨w.heap.size, 1, none⟩ = some (.bool o.wt) ∧ w'.cell? ⟨w.heap.size, 2, none⟩ = some (.bool o.bl) ∧ w'.cell? ⟨w.heap.size, 3, none⟩ = some (.bool o.cs) ∧ w'.cell? ⟨w.heap.size, 4, none⟩ = some (.bool o.tb) ∧ w'.cell? ⟨w.heap.size, 5, none⟩ = some (.bool o.tr) ∧ Stay o w.heap.size w w') (go_keep)
      (first | (go_at_call 11; refine (NewStay o w.heap.size w _ (by first | assumption | (rw [stay_drew]; assumption) | (simp [*]; done))).mono ?_; rintro e w' ⟨t, B, rfl, hT, ht, hB, hlow, hS⟩; obtain ⟨e0, e1, e2, e3, e4, e5⟩ := hS.box.cells))
    all_goals go_wp2_with fail
    all_goals go_meet
    case rel =>
      have hz := hbx.low.size
      exact ⟨t, B, _, rfl, rfl, bothA hS.low hT (Nat.le_trans hz ht) (Nat.le_trans hz hB)⟩
    case rel =>
      have hz := hbx.low.size
      have hy : wb.heap.size ≤ (wb.alloc (.cells #[.bool o.sp, .bool o.wt, .bool o.bl, .bool o.cs, .bool o.tb, .bool o.tr, .slice none 0 0] 36)).drew.heap.size := by simp
      exact ⟨t, B, _, rfl, rfl, bothB hbx.low hT (Nat.le_trans hz (Nat.le_trans hy ht)) (Nat.le_trans hz (Nat.le_trans hy hB)) hlow hS.low⟩
  case rest =>
    obtain ⟨t, B, r, rfl, rfl, hB0⟩ := hcut
    clear hbx
    rename_i wz
    go_wp2_with fail
    refine (SizeBoth 0 o [] [] t B r w _ (show _ = _ from rfl) hB0).mono ?_
    rintro e w1 ⟨rfl, rfl⟩
    go_wp2
    go_loopw [9] (fun i wr => ∃ (k : Nat) (ls : List (List UInt8)), k ≤ la.length ∧ i = .int .i64 k ∧ At o ls t B r w k wr) (fun i _ => la.length - (intOf i).toNat)
    case atStart => exact ⟨0, [], Nat.zero_le _, rfl, hB0, (fun _ h => by cases h), Nat.le_refl _⟩
    case round =>
      clear hB0
      obtain ⟨k, ls, hkk, rfl, hbo, hls, hln0⟩ := hrel
      have hls : Hid (∀ a ∈ ls, a.length ≤ 137438953472) := hls
      by_cases hlt : k < la.length
      · obtain ⟨b, off, c', hav, hbl, hc⟩ := ha.at (by rw [scells_length]; omega)
        rw [scells_length] at hav
        cases hav
        have hcell : w.cell? ⟨b, off + k, none⟩ = some (.string ⟨la[k].toArray⟩) := by rw [hc k (by rw [scells_length]; omega)]; simp [scells]
        have d1 := hbo.cell hbl hcell
        clear hc
        have i1 : 0 ≤ (k : Int) := by omega
        have i2 : (k : Int) < (la.length : Int) := by omega
        have hkl := hla.out _ (List.getElem_mem hlt)
        have hln : ls.length ≤ 1099511627776 := by omega
        have hrl := radd_len o ls la[k]
        obtain ⟨F, hF⟩ : ∃ F, F = ls.map (canonL o) := ⟨_, rfl⟩
        obtain ⟨f, hf⟩ : ∃ f, canonL o la[k] = f := ⟨_, rfl⟩
        have HF : Hid (canonL o la[k] = f) := hf
        have HFL : Hid (ls.map (canonL o) = F) := hF.symm
        have HSZ : Hid (F.length = ls.length) := by show _ = _; rw [hF, List.length_map]
        have hFl : F.length ≤ 1099511627776 := by rw [hF, List.length_map]; exact hln
        obtain ⟨n, hn⟩ : ∃ n, lookN F f = n := ⟨_, rfl⟩
        obtain ⟨q, hq⟩ : ∃ q, lookB F f = q := ⟨_, rfl⟩
        have HLK : Hid (lookN F f = n ∧ lookB F f = q) := ⟨hn, hq⟩
        obtain ⟨m, hm⟩ : ∃ m, num F f = m := ⟨_, rfl⟩
        have HM : Hid (num F f = m) := hm
        have HM2 : Hid (num (ls.map (canonL o)) f = m) := by rw [HFL.out]; exact hm
        obtain ⟨F', hF'⟩ : ∃ F', add F f = F' := ⟨_, rfl⟩
        have HA : Hid (add F f = F') := hF'
        obtain ⟨ls', hls'⟩ : ∃ ls', radd o ls la[k] = ls' := ⟨_, rfl⟩
        have HR : Hid (radd o ls la[k] = ls') := hls'
        have HFL2 : Hid (ls'.map (canonL o) = F') := by show _ = _; rw [← hls', radd_map, HFL.out, hf]; exact hF'
        have HSZ2 : Hid (F'.length = ls'.length) := by show _ = _; rw [← HFL2.out, List.length_map]
        have hls2 : Hid (∀ a ∈ ls', a.length ≤ 137438953472) := by
          intro a h
          rw [← hls'] at h
          rcases radd_mem h with h | h
          · exact hls.out a h
          · rw [h]; exact hkl
        have hln2 : ls'.length ≤ k + 1 := by rw [← hls']; omega
        rw [← hF] at hbo
        clear hF hf hn hq hm hF' hls' hrl ha
        by_cases hkb : k < bs.length
        · obtain ⟨b2, off2, c2', hav2, hbl2, hc2⟩ := hk.at (by rw [bcells_length]; omega)
          rw [bcells_length] at hav2
          cases hav2
          have hcell2 : w.cell? ⟨b2, off2 + k, none⟩ = some (.bool bs[k]) := by rw [hc2 k (by rw [bcells_length]; omega)]; simp [bcells]
          have d9 := hbo.cell hbl2 hcell2
          have i3 : (k : Int) < (bs.length : Int) := by omega
          clear hc2 hcell2 hk
          cases hbk : bs[k]
          · rw [hbk] at d9
            clear hbk
            go_wp2_with fail
            go_region_held3 (fun w' => w'.cell? ⟨b, off + k, none⟩ = some (.string ⟨la[k].toArray⟩)) (go_keep)
              (first
                | (go_at_call 15; refine (ClassBoth la[k] f m o F F' ls t B r w _ hkl HF HM HA hFl (by first | assumption | (rw [both_drew]; assumption))).mono ?_; rintro e w' ⟨rfl, hb1⟩; have c1 := hb1.cell hbl hcell)
                | (go_at_call 15; refine (ClassBoth la[k] f m o F F' ls' t B r w _ hkl HF HM HA hFl (by first | assumption | (rw [both_drew]; assumption))).mono ?_; rintro e w' ⟨rfl, hb2⟩; have c2 := hb2.cell hbl hcell)
                | (go_at_call 16; refine (rClassTo la[k] f m o F ls ls' t B r w _ hkl HF HM2 HR hls hln (by first | assumption | (rw [both_drew]; assumption))).mono ?_; rintro e w' ⟨rfl, hb1⟩; have c1 := hb1.cell hbl hcell)
                | (go_at_call 16; refine (rClassTo la[k] f m o F' ls ls' t B r w _ hkl HF HM2 HR hls hln (by first | assumption | (rw [both_drew]; assumption))).mono ?_; rintro e w' ⟨rfl, hb2⟩; have c2 := hb2.cell hbl hcell))
            all_goals
              clear d1 hb1 hbo c1 c2
              obtain ⟨lo, lc, d6⟩ := hb2.list
              go_wp2_with fail
              go_region_held3 (fun w' => w'.cell? ⟨r, 6, none⟩ = some (.slice lo ls'.length lc) ∧ Both o F' ls' t B r w w') (go_keep)
                (first | (go_at_call 12; refine (SizeBoth ls'.length o F' ls' t B r w _ HSZ2 (by first | assumption | (rw [both_drew]; assumption))).mono ?_; rintro e w' ⟨rfl, rfl⟩))
              go_wp2
              go_roundw
              case rel => exact ⟨k + 1, ls', by omega, by go_num, ⟨by rw [HFL2.out]; simpa using hb2, hls2.out, by omega⟩⟩
              case measure => simp [intOf]; omega
          · rw [hbk] at d9
            clear hbk
            go_wp2_with fail
            refine (LookBoth la[k] f n q o F ls t B r w wr hkl HF HLK hbo).mono ?_
            rintro e w2 ⟨rfl, hb1⟩
            have d2 := hb1.cell hbl hcell
            go_wp2_with fail
            refine (rLookBoth la[k] f n q o F ls t B r w w2 hkl HF (by rw [HFL.out]; exact HLK) hls hln hb1).mono ?_
            rintro e w3 ⟨rfl, hb2⟩
            clear d1 d2 hb1 hbo
            obtain ⟨lo, lc, d6⟩ := hb2.list
            go_wp2_with fail
            go_region_held3 (fun w' => w'.cell? ⟨r, 6, none⟩ = some (.slice lo ls.length lc) ∧ Both o F ls t B r w w') (go_keep)
              (first | (go_at_call 12; refine (SizeBoth ls.length o F ls t B r w _ HSZ (by first | assumption | (rw [both_drew]; assumption))).mono ?_; rintro e w' ⟨rfl, rfl⟩))
            go_wp2
            go_roundw
            case rel => exact ⟨k + 1, ls, by omega, by go_num, ⟨by rw [HFL.out]; simpa using hb2, hls.out, by omega⟩⟩
            case measure => simp [intOf]; omega
        · have i3 : ¬ ((k : Int) < (bs.length : Int)) := by omega
          go_wp2_with fail
          go_region_held3 (fun w' => w'.cell? ⟨b, off + k, none⟩ = some (.string ⟨la[k].toArray⟩)) (go_keep)
            (first
              | (go_at_call 15; refine (ClassBoth la[k] f m o F F' ls t B r w _ hkl HF HM HA hFl (by first | assumption | (rw [both_drew]; assumption))).mono ?_; rintro e w' ⟨rfl, hb1⟩; have c1 := hb1.cell hbl hcell)
              | (go_at_call 15; refine (ClassBoth la[k] f m o F F' ls' t B r w _ hkl HF HM HA hFl (by first | assumption | (rw [both_drew]; assumption))).mono ?_; rintro e w' ⟨rfl, hb2⟩; have c2 := hb2.cell hbl hcell)
              | (go_at_call 16; refine (rClassTo la[k] f m o F ls ls' t B r w _ hkl HF HM2 HR hls hln (by first | assumption | (rw [both_drew]; assumption))).mono ?_; rintro e w' ⟨rfl, hb1⟩; have c1 := hb1.cell hbl hcell)
              | (go_at_call 16; refine (rClassTo la[k] f m o F' ls ls' t B r w _ hkl HF HM2 HR hls hln (by first | assumption | (rw [both_drew]; assumption))).mono ?_; rintro e w' ⟨rfl, hb2⟩; have c2 := hb2.cell hbl hcell))
          all_goals
            clear d1 hb1 hbo c1 c2
            obtain ⟨lo, lc, d6⟩ := hb2.list
            go_wp2_with fail
            go_region_held3 (fun w' => w'.cell? ⟨r, 6, none⟩ = some (.slice lo ls'.length lc) ∧ Both o F' ls' t B r w w') (go_keep)
              (first | (go_at_call 12; refine (SizeBoth ls'.length o F' ls' t B r w _ HSZ2 (by first | assumption | (rw [both_drew]; assumption))).mono ?_; rintro e w' ⟨rfl, rfl⟩))
            go_wp2
            go_roundw
            case rel => exact ⟨k + 1, ls', by omega, by go_num, ⟨by rw [HFL2.out]; simpa using hb2, hls2.out, by omega⟩⟩
            case measure => simp [intOf]; omega
      · go_wp2
        go_ret
        exact ⟨rfl, hbo.low⟩

theorem contract (H : Type) (enc : TypeId × Value → H) (W : World) (base : Nat) (args : Array Value) (ds gs : List (DataW H)) (before : List MemPlace)
    (hval : ∀ (j : Nat) t v, Tryd.f4.params[j]? = some t → args[j]? = some v → Value.okWide Tryd.prog W .any base t v)
    (hW : DataW.Whole enc Tryd.prog Tryd.f4.params.toList Rows.internTablesSpec.vars false W args.toList ds gs before) (hk : Rows.uptoSmall H (ds ++ gs) = true) :
    Calls Tryd.prog 4 args W fun e W' => ∃ v, e = .returned v ∧ Rows.internTablesSpec.post enc Tryd.prog Tryd.f4 false true false false W args v W' := by
  have hW' := hW
  obtain ⟨p, q, hA0, hV, rfl, hfz, hnd⟩ := hW
  have hA : DataW.TrodAll enc Tryd.prog W 0 (fun _ => true) true Tryd.f4.params.toList args.toList ds p := hA0
  rw [Tryd.params4] at hA hval
  obtain ⟨v0, vs0, d0, ds0, p0, q0, hargs, rfl, rfl, h0, r0⟩ := trodAll_cons hA
  obtain ⟨v1, vs1, d1, ds1, p1, q1, rfl, rfl, rfl, h1, r1⟩ := trodAll_cons r0
  obtain ⟨v2, vs2, d2, ds2, p2, q2, rfl, rfl, rfl, h2, r2⟩ := trodAll_cons r1
  obtain ⟨rfl, rfl, rfl⟩ := trodAll_nil r2
  obtain rfl : args = #[v0, v1, v2] := by cases args; simp_all
  obtain ⟨rfl, rfl⟩ := trodVars_none hV
  obtain ⟨a0, len0, cap0, rfl⟩ := okWide_slice Tryd.underlying22 (hval 0 22 v0 rfl rfl)
  have k0 := h0
  have lt0 : ∀ x ∈ p0, x.block < W.heap.size := by obtain ⟨m, hm⟩ := k0; exact DataW.trod_lt m _ _ _ hm
  obtain ⟨a1, len1, cap1, rfl⟩ := okWide_slice Tryd.underlying31 (hval 1 31 v1 rfl rfl)
  have k1 := h1
  have lt1 : ∀ x ∈ p1, x.block < W.heap.size := by obtain ⟨m, hm⟩ := k1; exact DataW.trod_lt m _ _ _ hm
  clear hA0
  simp only [List.append_nil] at hk
  have hbk : Rows.uptoBulkAll [d0, d1, d2] ≤ 1048576 := of_decide_eq_true hk
  simp only [Rows.uptoBulkAll] at hbk
  obtain ⟨f0, hf0⟩ := h0
  obtain ⟨ws0, hv0, hwl0⟩ := open_texts (by simpa [Value.cells] using hf0)
  have he0 : ∀ a ∈ ws0, a.length ≤ 137438953472 := fun a ha => by have := each_le a ha; omega
  obtain ⟨f1, hf1⟩ := h1
  obtain ⟨ws1, hv1⟩ := open_flags (by simpa [Value.cells] using hf1)
  obtain ⟨o, rfl, rfl, rfl⟩ := open_ig (hval 2 24 v2 rfl rfl) h2
  have hw := walk ws0 ws1 o (.slice a0 len0 cap0) (.slice a1 len1 cap1) W he0 hv0 hv1
  refine hw.mono fun e W' ⟨he, bel⟩ => ?_
  subst he
  exact ⟨_, rfl, _, _, _, [], _, [], hW', trodAll_mk1 (shut_bool Tryd.underlying4 _), trodAll_cons_mk (Below.trod laidOut (by kernel_rfl) (of_decide_eq_true (by kernel_rfl)) k0 bel lt0) (trodAll_cons_mk (Below.trod laidOut (by kernel_rfl) (of_decide_eq_true (by kernel_rfl)) k1 bel lt1) (trodAll_cons_mk (shut_ig o) trodAll_mk0)), rfl, bel.frame _, fun h => by cases h⟩

theorem laid_met (os : Os) : laidMet Tryd.prog Rows.internTablesUptoRow.laid ((laidOnU (World.holding Tryd.prog os ⟨#[], #[], []⟩)).forCall (fun _ _ => 0) ⟨#[], #[.slice none 0 0, .slice none 0 0, .agg #[.bool false, .bool false, .bool false, .bool false, .bool false, .bool false]], []⟩).memory :=
  laidMet_of_run' 8 (by kernel_rfl) (by kernel_rfl)
theorem reads (os : Os) {H : Type} (enc : TypeId × Value → H) : ∃ places, DataW.whole enc Tryd.prog ((laidOnU (World.holding Tryd.prog os ⟨#[], #[], []⟩)).forCall (fun _ _ => 0) ⟨#[], #[.slice none 0 0, .slice none 0 0, .agg #[.bool false, .bool false, .bool false, .bool false, .bool false, .bool false]], []⟩).memory Tryd.f4.params.toList Rows.internTablesSpec.vars false #[Value.slice none 0 0, Value.slice none 0 0, Value.agg #[.bool false, .bool false, .bool false, .bool false, .bool false, .bool false]].toList 8 = some ([.nil, .nil, .agg [.lit (.bool false), .lit (.bool false), .lit (.bool false), .lit (.bool false), .lit (.bool false), .lit (.bool false)]], [], places) :=
  ⟨[], by kernel_rfl⟩

set_option maxRecDepth 100000 in
theorem lifted (os : Os) (started : os.Started) (H : Type) (enc : TypeId × Value → H) (F : Stop.Interp) :
    ReturnsInHanded {} Tryd.checked os 4 .any ((Rows.OpenSpec.upto Rows.internTablesSpec).preRow enc Tryd.prog Tryd.f4 Rows.internTablesUptoRow.domain false Rows.internTablesUptoRow.laid) (((Rows.OpenSpec.upto Rows.internTablesSpec).at F).post enc Tryd.prog Tryd.f4 false true false false) := by
  obtain ⟨places, hx⟩ := reads os enc
  refine returnsInHanded_of_row (C := Tryd.checked) (s := Rows.OpenSpec.upto Rows.internTablesSpec) own started (by kernel_rfl) Tryd.func4
    (witness_row_at (enc := enc) (C := Tryd.checked) false (laidOnU (World.holding Tryd.prog os ⟨#[], #[], []⟩)) #[.slice none 0 0, .slice none 0 0, .agg #[.bool false, .bool false, .bool false, .bool false, .bool false, .bool false]] rfl (by kernel_rfl) (by kernel_rfl) (by kernel_rfl)
      (OpenSpec.preRow_of_cond 8 hx (by kernel_rfl) (fun k hk => by cases hk; kernel_rfl) (by kernel_rfl) (laid_met os))) ?_
  intro W base args ds gs before hval hW _ hcond _ _ _ _
  exact contract H enc W base args ds gs before hval hW (hcond _ rfl)

theorem said : Rows.InternTablesUptoSaid :=
  OpenClaim.holds_of_cond 4 Tryd.f4 rfl rfl rfl rfl rfl rfl rfl ⟨rfl, rfl, rfl, rfl, rfl⟩ rfl rfl rfl rfl rfl (by kernel_rfl) Tryd.func4 (by kernel_rfl)
    (of_decide_eq_true (by kernel_rfl)) (by unfold Func.isWrapper; first | (rw [if_pos (by decide +kernel)]; kernel_rfl) | (rw [if_neg (by decide +kernel)]; exact ⟨rfl, rfl⟩))
    (fun os started H enc _ F => by rw [OpenClaim.pre_eq_preRow]; exact lifted os started H enc F)

theorem plain (f : FuncId) (fn : Func) (hf : Tryd.pinned.checked.prog.funcNamed "redline/redlinelaw04.InternTables" = some f) (hfn : Tryd.pinned.checked.prog.funcs[f]? = some fn) :
    false = Tryd.pinned.checked.prog.looks [] ∧ ∀ (j : Nat) t, fn.params[j]? = some t → Tryd.pinned.checked.prog.wantsStandIn t = false := by
  obtain rfl : f = 4 := Option.some.inj ((show Tryd.prog.funcNamed "redline/redlinelaw04.InternTables" = some 4 by kernel_rfl).symm.trans hf) |>.symm
  obtain rfl : fn = Tryd.f4 := (Option.some.inj (Tryd.func4.symm.trans hfn)).symm
  refine ⟨by kernel_rfl, fun j t ht => ?_⟩
  rw [Tryd.params4] at ht
  have hm : t = 22 ∨ t = 31 ∨ t = 24 := by simpa using Array.mem_of_getElem? ht
  rcases hm with rfl | rfl | rfl
  · exact (show Tryd.prog.wantsStandIn 22 = false by kernel_rfl)
  · exact (show Tryd.prog.wantsStandIn 31 = false by kernel_rfl)
  · exact (show Tryd.prog.wantsStandIn 24 = false by kernel_rfl)

theorem card : Rows.InternTablesUptoCardSaid :=
  Claim7.holds_tied_plain_at .later [] _ _ _ _ said (fun _ h => by cases h) (by kernel_rfl) (fun _ h => by cases h) internTablesUpto_row_tie rfl ⟨rfl, rfl⟩ (by kernel_rfl) rfl plain (by kernel_rfl)
#print axioms card
end Go.Proofs.YtkaadahcefdiiaaDoor.internTables
