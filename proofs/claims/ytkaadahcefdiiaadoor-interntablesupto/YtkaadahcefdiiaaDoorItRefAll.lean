/-
  The reference's classes of two lists of lines, walked.
-/
import Derived.Test.YtkaadahcefdiiaaDoorItRef
namespace Go.Proofs.YtkaadahcefdiiaaDoor
open Cn It Go.RowKit Go.Maps
attribute [local go_sem] ba_at ByteArray.extract_mk ba_cat

section
variable {o : Ig} {ls : List (List UInt8)} {t N base n : Nat} {v vx : Value} {xs : List Value} {w w' : World}
theorem RT.int_ne (h : RT o ls t v N w) (ho : w.ownsRow base 3 1 vx n xs) {g : Nat} (hg : vx.ownBlock = some g) : g ≠ t ∧ v.ownBlock ≠ some g := by
  rcases ho.2 with ⟨h1, _⟩ | ⟨g', cap, cur, q1, q2, q3, _⟩
  · rw [h1] at hg; cases hg
  · rw [q1] at hg
    cases hg
    refine ⟨h.row_ne q3 (by decide), fun e => ?_⟩
    rcases h.row.2 with ⟨h1, _⟩ | ⟨g2, cap2, cur2, p1, p2, p3, _⟩
    · rw [h1] at e; cases e
    · rw [p1] at e
      simp only [Value.ownBlock, Option.some.injEq] at e
      rw [e, q3] at p3
      simp only [Option.some.injEq, Obj.cells.injEq] at p3
      exact absurd p3.2.1 (by decide)
theorem owns_but {S : Nat → Prop} {e : TypeId} (ho : w.ownsRow base e 1 vx n xs) (hb : But S w w') (hS : ∀ g, vx.ownBlock = some g → ¬ S g) : w'.ownsRow base e 1 vx n xs := by
  refine ⟨ho.1, ?_⟩
  rcases ho.2 with h1 | ⟨g, cap, cur, q1, q2, q3, q4⟩
  · exact .inl h1
  · exact .inr ⟨g, cap, cur, q1, q2, (hb.block g (Array.getElem?_eq_some_iff.1 q3).1 (hS g (by rw [q1]; rfl))).trans q3, q4⟩
theorem RT.int_row (h : RT o ls t v N w) (ho : w.ownsRow base 3 1 vx n xs) (hb : But (fun k => k = t ∨ v.ownBlock = some k) w w') : w'.ownsRow base 3 1 vx n xs :=
  owns_but ho hb (fun g hg e => by
    obtain ⟨h1, h2⟩ := h.int_ne ho hg
    rcases e with e | e
    · exact h1 e
    · exact h2 e)
theorem owns_ge {e : TypeId} (ho : w.ownsRow base e 1 vx n xs) {g : Nat} (hg : vx.ownBlock = some g) : base ≤ g := by
  rcases ho.2 with ⟨h1, _⟩ | ⟨g', cap, cur, q1, q2, _⟩
  · rw [h1] at hg; cases hg
  · rw [q1] at hg; cases hg; exact q2
theorem owns_lt {e : TypeId} (ho : w.ownsRow base e 1 vx n xs) {g : Nat} (hg : vx.ownBlock = some g) : g < w.heap.size := by
  rcases ho.2 with ⟨h1, _⟩ | ⟨g', cap, cur, q1, q2, q3, _⟩
  · rw [h1] at hg; cases hg
  · rw [q1] at hg; cases hg; exact (Array.getElem?_eq_some_iff.1 q3).1
end

/-- the numbers so far, behind k rounds -/
structure RFill (o : Ig) (t N : Nat) (W : World) (fs fl : List (List UInt8)) (base k : Nat) (vx : Value) (w : World) : Prop where
  tbl : ∃ ls v, RT o ls t v N w ∧ ls.map (canonL o) = adds fs (fl.take k) ∧ ∀ a ∈ ls, a.length ≤ 137438953472
  row : w.ownsRow base 3 1 vx k (icells (nums fs (fl.take k)))
  low : Below N W w
  hN : N ≤ base
  ht : N ≤ t
  hb : base ≤ w.heap.size

theorem RFill.step {o : Ig} {t N : Nat} {W : World} {fs fl : List (List UInt8)} {base k : Nat} {vx vx' v v' : Value} {ls : List (List UInt8)} {l : List UInt8} {w w1 w2 : World} {ob : Obj}
    (h : RFill o t N W fs fl base k vx w) (hk : k < fl.length) (hl : l.length ≤ 137438953472) (hcan : canonL o l = fl[k]) (hT : RT o ls t v N w) (hls : ls.map (canonL o) = adds fs (fl.take k)) (hal : ∀ a ∈ ls, a.length ≤ 137438953472)
    (hT1 : RT o (radd o ls l) t v' N w1) (hb1 : But (fun j => j = t ∨ v.ownBlock = some j) w w1)
    (hg : (w1.alloc ob).grownBy w2 vx.ownBlock) (ho : w2.ownsRow base 3 1 vx' (k + 1) (icells (nums fs (fl.take k)) ++ [.int .i64 (num (adds fs (fl.take k)) fl[k])])) :
    RFill o t N W fs fl base (k + 1) vx' w2 ∧ ∀ {n : Nat} {vz : Value} {zs : List Value}, w.ownsRow N 3 1 vz n zs → (∀ g, vz.ownBlock = some g → g < base) → w2.ownsRow N 3 1 vz n zs := by
  have htk : fl.take (k + 1) = fl.take k ++ [fl[k]] := (List.take_append_getElem hk).symm
  have hrow1 := hT.int_row h.row hb1
  have hbg : But (fun j => vx.ownBlock = some j) w1 w2 := .of_grown ((World.grownBy_alloc w1 ob _).trans hg) (fun _ e => e)
  have hlow1 : Below N W w1 := hb1.below h.low (Nat.le_trans h.hN h.hb) (fun j e => by
    rcases e with e | e
    · subst e; exact h.ht
    · exact owns_ge hT.row e)
  refine ⟨⟨⟨radd o ls l, v', hT1.keep hbg (fun e => (hT1.int_ne hrow1 e).1 rfl) (fun g hv e => (hT1.int_ne hrow1 e).2 hv), ?_, fun a ha => ?_⟩, ?_, ?_, h.hN, h.ht, ?_⟩, ?_⟩
  · rw [radd_map, hls, hcan, htk, adds_snoc]
  · rcases radd_mem ha with h1 | rfl
    · exact hal a h1
    · exact hl
  · rw [htk, nums_snoc, icells_append]
    exact ho
  · exact hbg.below hlow1 (Nat.le_trans (Nat.le_trans h.hN h.hb) hb1.size) (fun j e => Nat.le_trans h.hN (owns_ge hrow1 e))
  · exact Nat.le_trans h.hb (Nat.le_trans hb1.size hbg.size)
  · intro n vz zs hz hlt
    refine owns_but (hT.int_row hz hb1) hbg (fun g hg' e => ?_)
    have h1 := hlt g hg'
    have h2 := owns_ge hrow1 e
    omega

theorem RT.made (o : Ig) (w1 : World) (N m : Nat) (hm : w1.heap.size = m) : RT o [] m (.slice none 0 0) N (w1.alloc (.cells #[.bool o.sp, .bool o.wt, .bool o.bl, .bool o.cs, .bool o.tb, .bool o.tr, .slice none 0 0] 36)) := by
  subst hm
  exact ⟨_root_.Go.heap_alloc_new w1 _, World.ownsRow_nil _ _ _ _⟩

set_option maxRecDepth 10000 in
set_option maxHeartbeats 2000000 in
theorem rClasses_f (la lb fa fb : List (List UInt8)) (o : Ig) (va vb : Value) (w : World) (hfa : Hid (fa = la.map (canonL o))) (hfb : Hid (fb = lb.map (canonL o))) (hla : Hid (∀ a ∈ la, a.length ≤ 137438953472)) (hlb : Hid (∀ a ∈ lb, a.length ≤ 137438953472)) (hn : la.length + lb.length ≤ 1099511627776)
    (ha : Holds w va (scells la)) (hb : Holds w vb (scells lb)) :
    Calls Tryd.prog 8 #[va, vb, igV o] w fun e w' => ∃ vx vy, e = .returned (.tuple #[vx, vy, .int .i64 (adds [] (fa ++ fb)).length]) ∧ Holds w' vx (icells (nums [] fa)) ∧ Holds w' vy (icells (nums (adds [] fa) fb)) ∧ Below w.heap.size w w' := by
  obtain ⟨i0, hi, hz0, hz1, hz2⟩ := info_parts infoInt
  have ea : fa.length = la.length := by rw [hfa.out]; simp
  have eb : fb.length = lb.length := by rw [hfb.out]; simp
  have hal := adds_le fa []
  have hR0 : RFill o (w.heap.size + 1) w.heap.size w [] fa w.heap.size 0 (.slice none 0 0) ((w.alloc (.cells #[.bool o.sp, .bool o.wt, .bool o.bl, .bool o.cs, .bool o.tb, .bool o.tr] 24)).alloc (.cells #[.bool o.sp, .bool o.wt, .bool o.bl, .bool o.cs, .bool o.tb, .bool o.tr, .slice none 0 0] 36)) :=
    ⟨⟨[], _, RT.made o _ _ _ (by simp), rfl, fun _ h => by cases h⟩, World.ownsRow_nil _ _ _ _, ((Below.refl _ w).alloc (Nat.le_refl _) _).alloc (by simp) _, Nat.le_refl _, by omega, by simp; omega⟩
  obtain ⟨ao, ca, hva⟩ := ha.form
  obtain ⟨bo, cb, hvb⟩ := hb.form
  rw [scells_length] at hva hvb
  subst hva hvb
  unfold igV
  go_enter Tryd.func8, Tryd.ntmps8
  go_wp2
  generalize (w.alloc (.cells #[.bool o.sp, .bool o.wt, .bool o.bl, .bool o.cs, .bool o.tb, .bool o.tr] 24)).alloc (.cells #[.bool o.sp, .bool o.wt, .bool o.bl, .bool o.cs, .bool o.tb, .bool o.tr, .slice none 0 0] 36) = w0 at hR0 ⊢
  generalize w.heap.size + 1 = t at hR0 ⊢
  go_loopw [10, 12] (fun vx i wr => ∃ (k : Nat) (xo : Option Addr) (n1 xc : Nat), k ≤ la.length ∧ vx = .slice xo n1 xc ∧ i = .int .i64 k ∧ RFill o t w.heap.size w [] fa w.heap.size k (.slice xo n1 xc) wr) (fun _ i _ => la.length - (intOf i).toNat)
  case atStart => exact ⟨0, _, _, _, Nat.zero_le _, rfl, rfl, hR0⟩
  case round =>
    obtain ⟨k, xo, n1, xc, hk, rfl, rfl, hR⟩ := hrel
    by_cases hlt : k < la.length
    · obtain ⟨b, off, c', hav, hbl, hc⟩ := ha.at (by rw [scells_length]; omega)
      rw [scells_length] at hav
      cases hav
      have d1 : wr.cell? ⟨b, off + k, none⟩ = some (.string ⟨la[k].toArray⟩) := by
        rw [hR.low.cell (p := ⟨b, off + k, none⟩) hbl, hc k (by rw [scells_length]; omega)]; simp [scells]
      clear hc
      have i1 : 0 ≤ (k : Int) := by omega
      have i2 : (k : Int) < (la.length : Int) := by omega
      have hkf : k < fa.length := by omega
      have hcan : canonL o la[k] = fa[k] := by simp only [hfa.out, List.getElem_map]
      obtain ⟨ls, v, hT, hls, hll⟩ := hR.tbl
      have hlen : ls.length ≤ 1099511627776 := by
        have h1 := congrArg List.length hls
        have h2 := adds_le (fa.take k) []
        rw [List.length_map] at h1
        rw [List.length_take] at h2
        simp at h2
        omega
      have HLL : Hid (∀ a ∈ ls, a.length ≤ 137438953472) := hll
      have HLS : Hid (ls.map (canonL o) = adds [] (fa.take k)) := hls
      clear hll hls
      go_wp2_with fail
      refine (rClass_any la[k] o ls t v w.heap.size wr (hla.out _ (List.getElem_mem hlt)) HLL hlen hR.low.size hT).mono ?_
      rintro e w1 ⟨rfl, v', hT1, hb1, _⟩
      have hx1 := hT.int_row hR.row hb1
      have hz : w.heap.size ≤ w1.heap.size := Nat.le_trans hR.low.size hb1.size
      rw [HLS.out, hcan]
      generalize hm : num (adds [] (fa.take k)) fa[k] = m
      go_wp2_with (at_builtin; refine wpList_append_own _ rfl _ _ 25 rfl w.heap.size 3 i0 (.int .i64 0) 1 8 Tryd.underlying25 hi hz0 hz1 hz2 rfl (by decide) _ _ _ rfl (hx1.alloc _) ⟨w1.heap.size, 0, none⟩ 1 1 [.int .i64 m] rfl rfl (cell_one_new _ _ _) (by intro u hu; simp at hu; subst hu; rfl) ?c3 ?c4 ?c5 ?_)
      case c3 => unfold maxLen; omega
      case c4 => omega
      case c5 => simp; omega
      intro v2 w2 hown' hgrow _
      obtain ⟨xo2, n2, xc2, rfl⟩ : ∃ a n c, v2 = .slice a n c := by
        obtain ⟨a, c, h⟩ := (holds_of hown').form
        exact ⟨a, _, c, h⟩
      subst hm
      have hR2 := (hR.step hkf (hla.out _ (List.getElem_mem hlt)) hcan hT HLS.out HLL.out hT1 hb1 hgrow hown').1
      clear hown' hgrow hT1 hb1 hT hR hx1 hcan d1
      go_wp2
      go_roundw
      case rel => exact ⟨k + 1, _, _, _, by omega, rfl, by go_num, hR2⟩
      case measure => simp [intOf]; omega
    · obtain rfl : k = la.length := by omega
      have etk : fa.take la.length = fa := List.take_of_length_le (by omega)
      obtain ⟨base, hbase⟩ : ∃ n, n = wr.heap.size := ⟨_, rfl⟩
      have hS0 : RFill o t w.heap.size w (adds [] fa) fb base 0 (.slice none 0 0) wr := by
        obtain ⟨ls, v, hT, hls, hll⟩ := hR.tbl
        refine ⟨⟨ls, v, hT, ?_, hll⟩, World.ownsRow_nil _ _ _ _, hR.low, by rw [hbase]; exact hR.low.size, hR.ht, by rw [hbase]; exact Nat.le_refl _⟩
        rw [hls, etk]
        rfl
      have hX0 : wr.ownsRow w.heap.size 3 1 (.slice xo n1 xc) la.length (icells (nums [] fa)) := by
        have := hR.row
        rw [etk] at this
        exact this
      have HXB : Hid (∀ g, (Value.slice xo n1 xc).ownBlock = some g → g < base) := fun g hg => by rw [hbase]; exact owns_lt hX0 hg
      clear hR hbase etk hk hlt
      go_wp2
      go_loopw [11, 13] (fun vy i wr => ∃ (k : Nat) (yo : Option Addr) (n2 yc : Nat), k ≤ lb.length ∧ vy = .slice yo n2 yc ∧ i = .int .i64 k ∧ RFill o t w.heap.size w (adds [] fa) fb base k (.slice yo n2 yc) wr ∧ wr.ownsRow w.heap.size 3 1 (.slice xo n1 xc) la.length (icells (nums [] fa))) (fun _ i _ => lb.length - (intOf i).toNat)
      case atStart => exact ⟨0, _, _, _, Nat.zero_le _, rfl, rfl, hS0, hX0⟩
      case round =>
        clear hS0 hX0
        obtain ⟨k, yo, n2, yc, hk, rfl, rfl, hR, hX⟩ := hrel
        by_cases hlt : k < lb.length
        · obtain ⟨b, off, c', hav, hbl, hc⟩ := hb.at (by rw [scells_length]; omega)
          rw [scells_length] at hav
          cases hav
          have d1 : wr.cell? ⟨b, off + k, none⟩ = some (.string ⟨lb[k].toArray⟩) := by
            rw [hR.low.cell (p := ⟨b, off + k, none⟩) hbl, hc k (by rw [scells_length]; omega)]; simp [scells]
          clear hc
          have i1 : 0 ≤ (k : Int) := by omega
          have i2 : (k : Int) < (lb.length : Int) := by omega
          have hkf : k < fb.length := by omega
          have hcan : canonL o lb[k] = fb[k] := by simp only [hfb.out, List.getElem_map]
          obtain ⟨ls, v, hT, hls, hll⟩ := hR.tbl
          have hlen : ls.length ≤ 1099511627776 := by
            have h1 := congrArg List.length hls
            have h2 := adds_le (fb.take k) (adds [] fa)
            rw [List.length_map] at h1
            rw [List.length_take] at h2
            simp at hal
            omega
          have HLL : Hid (∀ a ∈ ls, a.length ≤ 137438953472) := hll
          have HLS : Hid (ls.map (canonL o) = adds (adds [] fa) (fb.take k)) := hls
          clear hll hls
          go_wp2_with fail
          refine (rClass_any lb[k] o ls t v w.heap.size wr (hlb.out _ (List.getElem_mem hlt)) HLL hlen hR.low.size hT).mono ?_
          rintro e w1 ⟨rfl, v', hT1, hb1, _⟩
          have hx1 := hT.int_row hR.row hb1
          have hz : base ≤ w1.heap.size := Nat.le_trans hR.hb hb1.size
          rw [HLS.out, hcan]
          generalize hm : num (adds (adds [] fa) (fb.take k)) fb[k] = m
          go_wp2_with (at_builtin; refine wpList_append_own _ rfl _ _ 25 rfl base 3 i0 (.int .i64 0) 1 8 Tryd.underlying25 hi hz0 hz1 hz2 rfl (by decide) _ _ _ rfl (hx1.alloc _) ⟨w1.heap.size, 0, none⟩ 1 1 [.int .i64 m] rfl rfl (cell_one_new _ _ _) (by intro u hu; simp at hu; subst hu; rfl) ?c3 ?c4 ?c5 ?_)
          case c3 => unfold maxLen; omega
          case c4 => omega
          case c5 => simp; omega
          intro v2 w2 hown' hgrow _
          obtain ⟨xo2, n3, xc2, rfl⟩ : ∃ a n c, v2 = .slice a n c := by
            obtain ⟨a, c, h⟩ := (holds_of hown').form
            exact ⟨a, _, c, h⟩
          subst hm
          obtain ⟨hR2, hkeep⟩ := hR.step hkf (hlb.out _ (List.getElem_mem hlt)) hcan hT HLS.out HLL.out hT1 hb1 hgrow hown'
          have hX2 := hkeep hX HXB.out
          clear hown' hgrow hT1 hb1 hT hR hx1 hcan d1 hkeep hX
          go_wp2
          go_roundw
          case rel => exact ⟨k + 1, _, _, _, by omega, rfl, by go_num, hR2, hX2⟩
          case measure => simp [intOf]; omega
        · obtain rfl : k = lb.length := by omega
          have etk : fb.take lb.length = fb := List.take_of_length_le (by omega)
          obtain ⟨ls, v, hT, hls, hll⟩ := hR.tbl
          have HY : Hid (Holds wr (.slice yo n2 yc) (icells (nums (adds [] fa) fb))) := by
            have := holds_of hR.row
            rw [etk] at this
            exact this
          have HX : Hid (Holds wr (.slice xo n1 xc) (icells (nums [] fa))) := holds_of hX
          have HB : Hid (Below w.heap.size w wr) := hR.low
          have HN : Hid (ls.length = (adds [] (fa ++ fb)).length) := by
            show _ = _
            have h1 := congrArg List.length hls
            rw [List.length_map, etk, ← adds_append] at h1
            exact h1
          obtain ⟨d0, d1, d2, d3, d4, d5, d6⟩ := hT.cells
          obtain ⟨lo, lc, hlv⟩ := (holds_of hT.row).form
          rw [scells_length] at hlv
          subst hlv
          clear d0 d1 d2 d3 d4 d5 hll hls hT hR hX etk hk hlt
          go_wp2_with fail
          go_quiet (fail)
          go_wp2
          go_ret3
          rw [← HN.out]
          exact ⟨_, _, rfl, HX.out.keep (fun _ _ => rfl), HY.out.keep (fun _ _ => rfl), HB.out.trans ⟨rfl, rfl, rfl, Nat.le_refl _, fun _ _ => rfl⟩⟩

theorem rClasses_any (la lb : List (List UInt8)) (o : Ig) (va vb : Value) (w : World) (hla : ∀ a ∈ la, a.length ≤ 137438953472) (hlb : ∀ a ∈ lb, a.length ≤ 137438953472) (hn : la.length + lb.length ≤ 1099511627776) (ha : Holds w va (scells la)) (hb : Holds w vb (scells lb)) :
    Calls Tryd.prog 8 #[va, vb, igV o] w fun e w' => ∃ vx vy, e = .returned (.tuple #[vx, vy, .int .i64 (adds [] (la.map (canonL o) ++ lb.map (canonL o))).length]) ∧ Holds w' vx (icells (nums [] (la.map (canonL o)))) ∧ Holds w' vy (icells (nums (adds [] (la.map (canonL o))) (lb.map (canonL o)))) ∧ Below w.heap.size w w' :=
  rClasses_f la lb _ _ o va vb w (show _ = _ from rfl) (show _ = _ from rfl) hla hlb hn ha hb
end Go.Proofs.YtkaadahcefdiiaaDoor
