/-
  Texts that belong together, joined: CrS, CrE, UqC, UpA, UpB, UpC, CrO.
-/
import Derived.Test.YtgcccpmcbjfaaaaDoorPartA9
import Derived.Test.YtgcccpmcbjfaaaaDoorPartA10
import Derived.Test.YtgcccpmcbjfaaaaDoorPartA5
import Derived.Test.YtgcccpmcbjfaaaaDoorPartA4

/- The reference's Same of patches of layer 15, walked. -/
namespace Go.Proofs.YtgcccpmcbjfaaaaDoor
open Go.RowKit

theorem pth_ext {a b c d : List UInt8} {x y : List Hk} : (⟨a, b, x⟩ : Pth) = ⟨c, d, y⟩ ↔ a = c ∧ b = d ∧ x = y := by
  constructor
  · intro h
    injection h with h1 h2 h3
    exact ⟨h1, h2, h3⟩
  · rintro ⟨rfl, rfl, rfl⟩
    rfl
set_option maxHeartbeats 4000000 in
set_option maxRecDepth 10000 in
theorem rSamePt_f (p1 p2 : Pth) (q1 q2 : List (Hk × Value)) (H1 : Hid (q1.map (·.1) = p1.hs)) (H2 : Hid (q2.map (·.1) = p2.hs)) (v1 v2 : Value) (w : World) (hv1 : HHp w v1 q1) (hv2 : HHp w v2 q2) (hok : HOw q1) (r : Bool) (HR : Hid (r = true ↔ p1 = p2)) :
    Calls Tryd.prog 18 #[ptV p1 v1, ptV p2 v2] w fun e w' => e = .returned (.bool r) ∧ Below w.heap.size w w' := by
  obtain ⟨o1, n1, s1⟩ := p1
  obtain ⟨o2, n2, s2⟩ := p2
  dsimp only at H1 H2
  obtain ⟨lo1, lc1, rfl⟩ := Holds.form hv1.row
  obtain ⟨lo2, lc2, rfl⟩ := Holds.form hv2.row
  rw [pth_ext] at HR
  have hBa : Below w.heap.size w (w.alloc (.cells #[.string ⟨o1.toArray⟩, .string ⟨n1.toArray⟩, .slice lo1 q1.length lc1] 24)) := (Below.refl _ w).alloc (Nat.le_refl _) _
  have hBb := hBa.alloc hBa.size (.cells #[.string ⟨o2.toArray⟩, .string ⟨n2.toArray⟩, .slice lo2 q2.length lc2] 24)
  have e1 : ptV ⟨o1, n1, s1⟩ (.slice lo1 q1.length lc1) = .agg #[.string ⟨o1.toArray⟩, .string ⟨n1.toArray⟩, .slice lo1 q1.length lc1] := rfl
  have e2 : ptV ⟨o2, n2, s2⟩ (.slice lo2 q2.length lc2) = .agg #[.string ⟨o2.toArray⟩, .string ⟨n2.toArray⟩, .slice lo2 q2.length lc2] := rfl
  rw [e1, e2]
  clear e1 e2
  by_cases h1 : o1 = o2
  · subst h1
    by_cases h2 : n1 = n2
    · subst h2
      have HRR : Hid (r = true ↔ q1.map (·.1) = q2.map (·.1)) := (by
        show (_ ↔ _)
        rw [H1.out, H2.out]
        have h := HR.out
        simpa using h)
      have hc := rSameHunksG_f q1 q2 _ _ _ (hv1.keep hBb (Nat.le_refl _)) (hv2.keep hBb (Nat.le_refl _)) hok r HRR
      clear HR HRR
      go_enter Tryd.func18, Tryd.ntmps18
      go_wp2_with fail
      refine hc.mono ?_
      rintro e w1 ⟨rfl, hB1⟩
      go_wp2
      go_ret
      exact ⟨rfl, hBb.trans (hB1.mono hBb.size)⟩
    · have HE : Hid (false = r) := (by
        cases r with
        | false => rfl
        | true => exact absurd (HR.out.1 rfl).2.1 h2)
      have j1 : (n1 == n2) = false := beq_eq_false_iff_ne.2 h2
      clear HR h2
      go_enter Tryd.func18, Tryd.ntmps18
      go_wp2
      go_ret
      exact ⟨by rw [← HE.out]; rfl, hBb⟩
  · have HE : Hid (false = r) := (by
      cases r with
      | false => rfl
      | true => exact absurd (HR.out.1 rfl).1 h1)
    have j1 : (o1 == o2) = false := beq_eq_false_iff_ne.2 h1
    clear HR h1
    go_enter Tryd.func18, Tryd.ntmps18
    go_wp2
    go_ret
    exact ⟨by rw [← HE.out]; rfl, hBb⟩
end Go.Proofs.YtgcccpmcbjfaaaaDoor

/- The reference's Copy of patches of layer 15, walked. -/
namespace Go.Proofs.YtgcccpmcbjfaaaaDoor
open Go.RowKit

theorem own_fr {w u : World} {B R : Nat} {e : TypeId} {s : Nat} {v : Value} {n : Nat} {xs : List Value} (h : w.ownsRow B e s v n xs) (hg : w.grownBy u (some R)) (hR : R < B) : u.ownsRow B e s v n xs := by
  refine ⟨h.1, ?_⟩
  rcases h.2 with q | ⟨g, cap, cur, rfl, q2, q3, q4⟩
  · exact .inl q
  · refine .inr ⟨g, cap, cur, rfl, q2, ?_, q4⟩
    rw [hg.block g (Array.getElem?_eq_some_iff.1 q3).1 (fun e => by cases e; omega)]
    exact q3
theorem low_none {w u : World} (hg : w.grownBy u none) : Below w.heap.size w u := ⟨hg.os, hg.tape, hg.output, hg.size, fun k hk => hg.block k hk (by simp)⟩
theorem infoPt : (Tryd.prog.info? 24).map (fun i => (i.zero, i.size, i.bytes)) = some (some (.agg #[.string ⟨#[]⟩, .string ⟨#[]⟩, .slice none 0 0]), 3, 56) := by kernel_rfl
def ptC (p : Pth) (v : Value) : List Value := [.string ⟨p.old.toArray⟩, .string ⟨p.new.toArray⟩, v]
theorem ptC_one (p : Pth) {o : Option Addr} {n c : Nat} : ∀ u ∈ ptC p (.slice o n c), u.oneCell' = true := by
  intro u hu
  simp only [ptC, List.mem_cons, List.not_mem_nil, or_false] at hu
  rcases hu with rfl | rfl | rfl <;> rfl
theorem pt_row (w : World) (p : Pth) (v : Value) : Holds (w.alloc (ptO p v)) (.slice (some ⟨w.heap.size, 0, none⟩) 1 1) 1 (ptC p v) := new_holds w #[.string ⟨p.old.toArray⟩, .string ⟨p.new.toArray⟩, v] 24 1 1 (by decide)
set_option maxHeartbeats 4000000 in
set_option maxRecDepth 10000 in
theorem rCopyPt_f (p : Pth) (q : List (Hk × Value)) (v : Value) (b : Nat) (w : World) (hx : Px w b p v) (hv : HHp w v q) (hok : HOk q) :
    Calls Tryd.prog 8 #[.slice (some ⟨b, 0, none⟩) 1 1] w fun e w' => ∃ g c v' P, e = .returned (.slice (some ⟨g, 0, none⟩) 1 c) ∧ w'.cell? ⟨g, 0, none⟩ = some (.string ⟨p.old.toArray⟩) ∧ w'.cell? ⟨g, 1, none⟩ = some (.string ⟨p.new.toArray⟩) ∧ w'.cell? ⟨g, 2, none⟩ = some v' ∧ HHp w' v' P ∧ P.map (·.1) = q.map (·.1) ∧ Below w.heap.size w w' := by
  obtain ⟨lo, lc, rfl⟩ := Holds.form hv.row
  obtain ⟨old, new, hs⟩ := p
  obtain ⟨d0, d1, d2⟩ := hx.cells
  dsimp only at d0 d1 d2 ⊢
  have hBa : Below w.heap.size w (w.alloc (.cells #[.string ⟨old.toArray⟩, .string ⟨new.toArray⟩, .slice lo q.length lc] 24)) := (Below.refl _ w).alloc (Nat.le_refl _) _
  have hPa : Px (w.alloc (.cells #[.string ⟨old.toArray⟩, .string ⟨new.toArray⟩, .slice lo q.length lc] 24)) w.heap.size ⟨old, new, hs⟩ (.slice lo q.length lc) := heap_alloc_new w _
  have hc := rCopy_f q (.slice lo q.length lc) _ (hv.keep hBa (Nat.le_refl _)) hok
  clear hx
  go_enter Tryd.func8, Tryd.ntmps8
  go_wp2
  refine wp_loop_rounds 2 ?_
  rw [rounds_succ]
  go_wp2_with fail
  refine hc.mono ?_
  generalize w.alloc (.cells #[.string ⟨old.toArray⟩, .string ⟨new.toArray⟩, .slice lo q.length lc] 24) = Wa at hBa hPa ⊢
  rintro e w1 ⟨v', P, rfl, hs1, hPm⟩
  have hP1 := hPa.low hs1.low
  obtain ⟨o', c', rfl⟩ := Holds.form (holds_of hs1.own)
  have hMl : w.heap.size < Wa.heap.size := hPa.lt
  have hz1 := hs1.low.size
  have hg2 := grown_set w1 w.heap.size 2 (.slice o' P.length c')
  have hH2 : HHp (w1.setCell ⟨w.heap.size, 2, none⟩ (.slice o' P.length c')) (.slice o' P.length c') P := ⟨holds_of (own_fr hs1.own hg2 hMl), fun x hx => holds_of (own_fr (hs1.ins x hx) hg2 hMl)⟩
  have hP2 : Px (w1.setCell ⟨w.heap.size, 2, none⟩ (.slice o' P.length c')) w.heap.size ⟨old, new, hs⟩ (.slice o' P.length c') := heap_setCell_same w1 w.heap.size 2 _ _ (.slice o' P.length c') hP1
  have hB2 : Below w.heap.size w (w1.setCell ⟨w.heap.size, 2, none⟩ (.slice o' P.length c')) := (hBa.trans (hs1.low.mono hBa.size)).setCell (Nat.le_refl _) _
  have f2 : w1.frozen? ⟨w.heap.size, 2, none⟩ = false := Lib.frozen_of_heap hP1 2
  obtain ⟨c0, c1, c2⟩ := hP1.cells
  obtain ⟨g0, g1, g2⟩ := hP2.cells
  have hz2 := hB2.size
  clear d0 d1 d2 hP1 hPa hs1 hg2 hBa hc
  have hrow := pt_row (w1.setCell ⟨w.heap.size, 2, none⟩ (.slice o' P.length c')) ⟨old, new, hs⟩ (.slice o' P.length c')
  rw [show (w1.setCell ⟨w.heap.size, 2, none⟩ (.slice o' P.length c')).heap.size = w1.heap.size by simp] at hrow
  have hW : (w1.setCell ⟨w.heap.size, 2, none⟩ (.slice o' P.length c')).alloc (.cells #[.string ⟨old.toArray⟩, .string ⟨new.toArray⟩, .slice o' P.length c'] 24) = (w1.setCell ⟨w.heap.size, 2, none⟩ (.slice o' P.length c')).alloc (ptO ⟨old, new, hs⟩ (.slice o' P.length c')) := rfl
  have hBA := hB2.alloc hB2.size (ptO ⟨old, new, hs⟩ (.slice o' P.length c'))
  have hHA := hH2.keep ((Below.refl _ _).alloc (Nat.le_refl _) (ptO ⟨old, new, hs⟩ (.slice o' P.length c'))) (Nat.le_refl _)
  have hownA : ((w1.setCell ⟨w.heap.size, 2, none⟩ (.slice o' P.length c')).alloc (ptO ⟨old, new, hs⟩ (.slice o' P.length c'))).ownsRow w.heap.size 24 3 (.slice none 0 0) 0 [] := hnil_row _ _ _ _
  have hzA := hBA.size
  go_wp2_with (at_builtin; refine wpList_append_w _ (by kernel_rfl) (.tmp 20) (.tmp 22) 25 24 (.agg #[.string ⟨#[]⟩, .string ⟨#[]⟩, .slice none 0 0]) 3 56 rfl Tryd.underlying25 infoPt rfl (by decide) (by decide) w.heap.size _ _ _ rfl hownA _ 1 (ptC ⟨old, new, hs⟩ (.slice o' P.length c')) rfl hrow rfl (ptC_one _) (by decide) (by omega) ?_)
  intro v3 u3 hown3 hg3 _
  have hB3 := low_none hg3
  have hH3 := hHA.keep hB3 (Nat.le_refl _)
  have hBw := hBA.trans (hB3.mono hBA.size)
  obtain ⟨g, cap, rfl⟩ : ∃ g cap, v3 = .slice (some ⟨g, 0, none⟩) 1 cap := (by
    rcases hown3.2 with ⟨_, h0⟩ | ⟨g, cap, cur, hv, _⟩
    · omega
    · exact ⟨g, cap, hv⟩)
  have k0 := hown3.cells (g := g) rfl 0 (.string ⟨old.toArray⟩) rfl
  have k1 := hown3.cells (g := g) rfl 1 (.string ⟨new.toArray⟩) rfl
  have k2 := hown3.cells (g := g) rfl 2 (.slice o' P.length c') rfl
  rw [add_none] at k0 k1 k2
  clear hrow hW hownA hg3 hown3 hBA hHA hH2 hP2 hB2 hB3 c0 c1 c2 g0 g1 g2
  go_wp2
  rw [rounds_succ]
  go_wp2
  go_ret
  exact ⟨g, cap, _, P, rfl, k0, k1, k2, hH3, hPm, hBw⟩
end Go.Proofs.YtgcccpmcbjfaaaaDoor

/- The reference's Copy and Same of layer 16, walked: those of layer 15. -/
namespace Go.Proofs.YtgcccpmcbjfaaaaDoor
open Go.RowKit

set_option maxHeartbeats 1000000 in
theorem rCopy6_f (p : Pth) (q : List (Hk × Value)) (v : Value) (b : Nat) (w : World) (hx : Px w b p v) (hv : HHp w v q) (hok : HOk q) :
    Calls Tryd.prog 4 #[.slice (some ⟨b, 0, none⟩) 1 1] w fun e w' => ∃ g c v' P, e = .returned (.slice (some ⟨g, 0, none⟩) 1 c) ∧ w'.cell? ⟨g, 0, none⟩ = some (.string ⟨p.old.toArray⟩) ∧ w'.cell? ⟨g, 1, none⟩ = some (.string ⟨p.new.toArray⟩) ∧ w'.cell? ⟨g, 2, none⟩ = some v' ∧ HHp w' v' P ∧ P.map (·.1) = q.map (·.1) ∧ Below w.heap.size w w' := by
  go_enter Tryd.func4, Tryd.ntmps4
  go_wp2_with fail
  refine (rCopyPt_f p q v b w hx hv hok).mono ?_
  rintro e w1 ⟨g, c, v', P, rfl, h⟩
  have HH : Hid (w1.cell? ⟨g, 0, none⟩ = some (.string ⟨p.old.toArray⟩) ∧ w1.cell? ⟨g, 1, none⟩ = some (.string ⟨p.new.toArray⟩) ∧ w1.cell? ⟨g, 2, none⟩ = some v' ∧ HHp w1 v' P ∧ P.map (·.1) = q.map (·.1) ∧ Below w.heap.size w w1) := h
  clear h
  go_wp2
  go_ret
  exact ⟨g, c, v', P, rfl, HH.out⟩
set_option maxHeartbeats 1000000 in
theorem rSameP6_f (p1 p2 : Pth) (q1 q2 : List (Hk × Value)) (H1 : Hid (q1.map (·.1) = p1.hs)) (H2 : Hid (q2.map (·.1) = p2.hs)) (v1 v2 : Value) (w : World) (hv1 : HHp w v1 q1) (hv2 : HHp w v2 q2) (hok : HOw q1) (r : Bool) (HR : Hid (r = true ↔ p1 = p2)) :
    Calls Tryd.prog 7 #[ptV p1 v1, ptV p2 v2] w fun e w' => e = .returned (.bool r) ∧ Below w.heap.size w w' := by
  obtain ⟨lo, lc, rfl⟩ := Holds.form hv1.row
  obtain ⟨mo, mc, rfl⟩ := Holds.form hv2.row
  have hB : Below w.heap.size w ((w.alloc (ptO p1 (.slice lo q1.length lc))).alloc (ptO p2 (.slice mo q2.length mc))) := ((Below.refl _ w).alloc (Nat.le_refl _) _).alloc (by simp) _
  have hc := rSamePt_f p1 p2 q1 q2 H1 H2 (.slice lo q1.length lc) (.slice mo q2.length mc) _ (hv1.keep hB (Nat.le_refl _)) (hv2.keep hB (Nat.le_refl _)) hok r HR
  unfold ptO ptV at hc
  unfold ptV
  unfold ptO at hB
  go_enter Tryd.func7, Tryd.ntmps7
  go_wp2_with fail
  refine hc.mono ?_
  rintro e w1 ⟨rfl, hB1⟩
  go_wp2
  go_ret
  exact ⟨rfl, hB.trans (hB1.mono hB.size)⟩
end Go.Proofs.YtgcccpmcbjfaaaaDoor

/- The code's Print of layer 16, walked: counts, names, the text of a hunk. -/
namespace Go.Proofs.YtgcccpmcbjfaaaaDoor
open Go.RowKit Go.Proofs.YtgcccpmcbjfaaaaDoor

set_option maxHeartbeats 1000000 in
theorem ucount_f (A N : Int) (h0 : 0 ≤ A) (h1 : A ≤ 4611686018427387904) (h2 : 0 ≤ N) (h3 : N ≤ 4611686018427387900) (w : World) (HT : Hid (Tab10 w)) (T : List UInt8) (HR : Hid (ucT A N = T)) :
    Calls Tryd.prog 23 #[.int .i64 A, .int .i64 N] w fun e w' => e = .returned (.string ⟨T.toArray⟩) ∧ Below w.heap.size w w' := by
  have l1 := itoa_short A (by omega) (by omega)
  have l2 := itoa_short N (by omega) (by omega)
  by_cases hN : N = 1
  · have HE1 : Hid (Lib.itoa A = T) := (by have h := HR.out; unfold ucT at h; rw [if_pos hN] at h; exact h)
    have e1 : (N == 1) = true := beq_iff_eq.2 hN
    clear HR hN
    go_enter Tryd.func23, Tryd.ntmps23
    go_wp2_with fail
    refine (nText_f A (by omega) (by omega) _ HT).mono ?_
    rintro e w1 ⟨rfl, hb1⟩
    go_wp2
    go_ret
    exact ⟨by rw [← HE1.out]; rfl, hb1⟩
  · have HE : Hid (Lib.itoa A ++ 44 :: Lib.itoa N = T) := (by have h := HR.out; unfold ucT at h; rw [if_neg hN] at h; exact h)
    have e1 : (N == 1) = false := beq_eq_false_iff_ne.2 hN
    clear HR hN
    have q1 := add_fits (x := Lib.itoa A) (y := [44]) (by unfold Fits; simp only [List.length_cons, List.length_nil]; omega) Tryd.prog
    have q2 := add_fits (x := Lib.itoa A ++ [44]) (y := Lib.itoa N) (by unfold Fits; simp only [List.length_append, List.length_cons, List.length_nil]; omega) Tryd.prog
    go_enter Tryd.func23, Tryd.ntmps23
    go_wp2_with fail
    refine (nText_f A (by omega) (by omega) _ HT).mono ?_
    rintro e w1 ⟨rfl, hb1⟩
    have HT1 : Hid (Tab10 w1) := HT.out.on hb1
    go_wp2_with fail
    refine (nText_f N (by omega) (by omega) _ HT1).mono ?_
    rintro e w2 ⟨rfl, hb2⟩
    go_wp2
    go_ret
    exact ⟨by rw [← HE.out]; rfl, hb1.trans (hb2.mono hb1.size)⟩
set_option maxHeartbeats 1000000 in
theorem uname_f (l : List UInt8) (w : World) (hl : l.length ≤ 1099511627776) (t : List UInt8) (HT : Hid (nameT l = t)) :
    Calls Tryd.prog 11 #[.string ⟨l.toArray⟩] w fun e w' => e = .returned (.string ⟨t.toArray⟩) ∧ Below w.heap.size w w' := by
  go_enter Tryd.func11, Tryd.ntmps11
  go_wp2_with fail
  refine (cname_f l w hl t HT).mono ?_
  rintro e w1 ⟨rfl, hB⟩
  go_wp2
  go_ret
  exact ⟨rfl, hB⟩
/-- a builder that holds a text -/
def Bu (B b : Nat) (v : Value) (acc : List UInt8) (w : World) : Prop := Bld 36 5 B b v (Lib.byteCells acc) w
theorem Bu.low {B b : Nat} {v : Value} {acc : List UInt8} {w w' : World} (h : Bu B b v acc w) (hb : Below w.heap.size w w') : Bu B b v acc w' := Bld.kept h hb.block
theorem Bu.str {B b : Nat} {v : Value} {acc s Z : List UInt8} {w : World} (h : Bu B b v acc w) (hBw : B ≤ w.heap.size) (hZ : acc ++ s = Z) (hl : Z.length ≤ 70368744177664) :
    Calls Tryd.prog 10 #[.pointer (some ⟨b, 0, none⟩), .string ⟨s.toArray⟩] w fun e w' => (∃ z, e = .returned (.tuple #[z, .nilIface])) ∧ ∃ v', Bu B b v' Z w' ∧ Wr B b v v' w w' := by
  have hll : acc.length + s.length ≤ 70368744177664 := by rw [← hZ, List.length_append] at hl; exact hl
  refine (cStr_f lays_b B b v _ s w h (by rw [bcells_len]; omega) hBw).mono ?_
  rintro e w' ⟨rfl, v', q, hw⟩
  exact ⟨⟨_, rfl⟩, v', by unfold Bu; rw [← hZ, Lib.byteCells_append]; exact q, hw⟩
theorem cw_i64 {u : World} {a : Addr} {z : Int} (h : u.cell? a = some (.int .i64 z)) {op : Oper} (x : Operand) (ho : op.op = .load 3 x) {ev : Operand → Value} (hx : ev x = .pointer (some a)) :
    (execOp ev op).run Tryd.prog u = .ok (.value (.int .i64 z)) u := by
  simp only [execOp, ho, hx]
  go_simp
theorem cw_addU {x y z : List UInt8} (h : ∀ u : World, (Op.stringOp .add ⟨x.toArray⟩ ⟨y.toArray⟩).run Tryd.prog u = .ok (.string ⟨z.toArray⟩) u) {u : World} {op : Oper} (a b : Operand) (ho : op.op = .binOp .add 9 a b 9) {ev : Operand → Value} (ha : ev a = .string ⟨x.toArray⟩) (hb : ev b = .string ⟨y.toArray⟩) :
    (execOp ev op).run Tryd.prog u = .ok (.value (.string ⟨z.toArray⟩)) u := by
  simp only [execOp, ho, ha, hb]
  go_simp
theorem um_flat (m : Mk) : (umL m).flatten = UInt8.ofNat m.sg.toNat :: plT m.tx := by
  unfold umL
  rw [pl_lines]
  rfl
end Go.Proofs.YtgcccpmcbjfaaaaDoor

/- The code's writeHunk of layer 16, walked. -/
namespace Go.Proofs.YtgcccpmcbjfaaaaDoor
open Go.RowKit Go.Proofs.YtgcccpmcbjfaaaaDoor

set_option maxHeartbeats 8000000 in
set_option maxRecDepth 100000 in
theorem uwrite_f (B b : Nat) (v : Value) (h : Hk) (y : Value) (acc Z : List UInt8) (w : World) (hP : Bu B b v acc w) (hBw : B ≤ w.heap.size) (hll : h.ls.length ≤ 1099511627776) (HTx : Hid (∀ m ∈ h.ls, m.tx.length ≤ 1099511627776)) (HC : Hid (chkH h = 0))
    (HL : Hid (∀ u, Below B w u → HMk u y h.ls)) (HT : Hid (∀ u, Below B w u → Tab10 u)) (HZ : Hid (acc ++ (uhL h).flatten = Z)) (hZ : Z.length ≤ 70368744177664) :
    Calls Tryd.prog 12 #[.pointer (some ⟨b, 0, none⟩), hkV h y] w fun e w' => e = .returned (.tuple #[]) ∧ ∃ v', Bu B b v' Z w' ∧ Wr B b v v' w w' := by
  obtain ⟨lo, lc, rfl⟩ := HMk.form (HL.out w (Below.refl _ _))
  have HSg : Hid (∀ m ∈ h.ls, okS m.sg = true) := chk_signs HC.out
  have hr := (chk_out HC.out).1
  obtain ⟨r1, r2, r3, r4, r5, r6, rx⟩ := rng_out hr
  clear rx
  obtain ⟨r7, r8⟩ := rng_hi hr
  have s3 := uc_len r1 r2 r3 r7
  have s4 := uc_len r4 r5 r6 r8
  obtain ⟨A, AN, Bn, BN, ls⟩ := h
  dsimp only at hll r1 r2 r3 r4 r5 r6 r7 r8 s3 s4 HTx HSg HL
  obtain ⟨T1, hT1⟩ : ∃ T, ucT A AN = T := ⟨_, rfl⟩
  obtain ⟨T2, hT2⟩ : ∃ T, ucT Bn BN = T := ⟨_, rfl⟩
  rw [hT1] at s3
  rw [hT2] at s4
  obtain ⟨U1, hU1⟩ : ∃ T, [64, 64, 32, 45] ++ T1 = T := ⟨_, rfl⟩
  obtain ⟨U2, hU2⟩ : ∃ T, U1 ++ [32, 43] = T := ⟨_, rfl⟩
  obtain ⟨U3, hU3⟩ : ∃ T, U2 ++ T2 = T := ⟨_, rfl⟩
  obtain ⟨U4, hU4⟩ : ∃ T, U3 ++ [32, 64, 64] = T := ⟨_, rfl⟩
  obtain ⟨U5, hU5⟩ : ∃ T, U4 ++ [10] = T := ⟨_, rfl⟩
  have n1 := congrArg List.length hU1
  have n2 := congrArg List.length hU2
  have n3 := congrArg List.length hU3
  have n4 := congrArg List.length hU4
  have n5 := congrArg List.length hU5
  simp only [List.length_append, List.length_cons, List.length_nil] at n1 n2 n3 n4 n5
  have q1 := add_fits (x := [64, 64, 32, 45]) (y := T1) (by unfold Fits; simp only [List.length_cons, List.length_nil]; omega) Tryd.prog
  have q2 := add_fits (x := U1) (y := [32, 43]) (by unfold Fits; simp only [List.length_cons, List.length_nil]; omega) Tryd.prog
  have q3 := add_fits (x := U2) (y := T2) (by unfold Fits; omega) Tryd.prog
  have q4 := add_fits (x := U3) (y := [32, 64, 64]) (by unfold Fits; simp only [List.length_cons, List.length_nil]; omega) Tryd.prog
  have q5 := add_fits (x := U4) (y := [10]) (by unfold Fits; simp only [List.length_cons, List.length_nil]; omega) Tryd.prog
  rw [hU1] at q1
  rw [hU2] at q2
  rw [hU3] at q3
  rw [hU4] at q4
  rw [hU5] at q5
  obtain ⟨Z1, hZ1⟩ : ∃ T, acc ++ U5 = T := ⟨_, rfl⟩
  have HZ1 : Hid (acc ++ U5 = Z1) := hZ1
  have HE : Hid (Z1 ++ ((ls.drop 0).flatMap umL).flatten = Z) := (by
    show _ = _
    rw [← HZ.out, ← hZ1, ← hU5, ← hU4, ← hU3, ← hU2, ← hU1, ← hT1, ← hT2, List.drop_zero]
    simp [uhL, uhT])
  have hZ1l : Z1.length ≤ 70368744177664 := (by have h := congrArg List.length HE.out; rw [List.length_append] at h; omega)
  have HT1 : Hid (ucT A AN = T1) := hT1
  have HT2 : Hid (ucT Bn BN = T2) := hT2
  clear HZ hZ1 hU1 hU2 hU3 hU4 hU5 hT1 hT2 n1 n2 n3 n4 n5 hr
  have hBm : Below w.heap.size w (w.alloc (hkO ⟨A, AN, Bn, BN, ls⟩ (.slice lo ls.length lc))) := (Below.refl _ w).alloc (Nat.le_refl _) _
  have hMx := Hx.new w ⟨A, AN, Bn, BN, ls⟩ (.slice lo ls.length lc)
  have hPm := hP.low hBm
  have hWm : Wr B b v v w (w.alloc (hkO ⟨A, AN, Bn, BN, ls⟩ (.slice lo ls.length lc))) := Wr.low hBm hBw
  have hOff : Off w.heap.size b v := ⟨by have := Bld.lt hP; omega, fun e => by have := (hP.2.2.1.lt _ e).2; omega⟩
  have e : hkV ⟨A, AN, Bn, BN, ls⟩ (.slice lo ls.length lc) = .agg #[.int .i64 A, .int .i64 AN, .int .i64 Bn, .int .i64 BN, .slice lo ls.length lc] := rfl
  rw [e]
  unfold hkO at hBm hMx hPm hWm
  dsimp only at hBm hMx hPm hWm
  clear e hP
  go_enter Tryd.func12, Tryd.ntmps12
  go_upto_region 1 with fail
  generalize w.alloc (.cells #[.int .i64 A, .int .i64 AN, .int .i64 Bn, .int .i64 BN, .slice lo ls.length lc] 44) = Wm at hBm hMx hPm hWm ⊢
  generalize w.heap.size = M at hMx hOff ⊢
  refine wp_region_noPanic ?_
  have hwd : Below Wm.heap.size Wm Wm.drew := (Below.refl _ Wm).drew
  refine wp_region_held_drew (S := fun u => Hx u M ⟨A, AN, Bn, BN, ls⟩ (.slice lo ls.length lc)) (by kernel_rfl) (hMx.low hwd) (fun hHeld => ?_)
  generalize Wm.drew = wd at hHeld hwd ⊢
  have cellsOf := fun u (hu : Hx u M ⟨A, AN, Bn, BN, ls⟩ (.slice lo ls.length lc)) => hu.cells
  dsimp only at cellsOf
  refine go_take 0 6 _ (.pointer (some ⟨b, 0, none⟩)) rfl (by kernel_rfl) (by kernel_rfl) (by kernel_rfl) (by kernel_rfl) (fun _ _ _ h => h) (Or.inl ⟨by kernel_rfl, fun u hu => by kernel_rfl⟩) hHeld ?_
  simp only [Act.put, List.setIfInBounds_toArray, List.set_cons_zero, List.set_cons_succ]
  refine go_take 1 7 _ (.pointer (some ⟨M, 0, none⟩)) rfl (by kernel_rfl) (by kernel_rfl) (by kernel_rfl) (by kernel_rfl) (fun _ _ _ h => h) (Or.inl ⟨by kernel_rfl, fun u hu => by kernel_rfl⟩) hHeld ?_
  simp only [Act.put, List.setIfInBounds_toArray, List.set_cons_zero, List.set_cons_succ]
  refine go_take 2 8 _ (.int .i64 A) rfl (by kernel_rfl) (by kernel_rfl) (by kernel_rfl) (by kernel_rfl) (fun _ _ _ h => h) (Or.inl ⟨by kernel_rfl, fun u hu => cw_i64 (cellsOf u hu).1 (.tmp 7) (by kernel_rfl) (by kernel_rfl)⟩) hHeld ?_
  simp only [Act.put, List.setIfInBounds_toArray, List.set_cons_zero, List.set_cons_succ]
  refine go_take 3 9 _ (.pointer (some ⟨M, 1, none⟩)) rfl (by kernel_rfl) (by kernel_rfl) (by kernel_rfl) (by kernel_rfl) (fun _ _ _ h => h) (Or.inl ⟨by kernel_rfl, fun u hu => by kernel_rfl⟩) hHeld ?_
  simp only [Act.put, List.setIfInBounds_toArray, List.set_cons_zero, List.set_cons_succ]
  refine go_take 4 10 _ (.int .i64 AN) rfl (by kernel_rfl) (by kernel_rfl) (by kernel_rfl) (by kernel_rfl) (fun _ _ _ h => h) (Or.inl ⟨by kernel_rfl, fun u hu => cw_i64 (cellsOf u hu).2.1 (.tmp 9) (by kernel_rfl) (by kernel_rfl)⟩) hHeld ?_
  simp only [Act.put, List.setIfInBounds_toArray, List.set_cons_zero, List.set_cons_succ]
  refine go_take 8 14 _ (.pointer (some ⟨M, 2, none⟩)) rfl (by kernel_rfl) (by kernel_rfl) (by kernel_rfl) (by kernel_rfl) (fun _ _ _ h => h) (Or.inl ⟨by kernel_rfl, fun u hu => by kernel_rfl⟩) hHeld ?_
  simp only [Act.put, List.setIfInBounds_toArray, List.set_cons_zero, List.set_cons_succ]
  refine go_take 9 15 _ (.int .i64 Bn) rfl (by kernel_rfl) (by kernel_rfl) (by kernel_rfl) (by kernel_rfl) (fun _ _ _ h => h) (Or.inl ⟨by kernel_rfl, fun u hu => cw_i64 (cellsOf u hu).2.2.1 (.tmp 14) (by kernel_rfl) (by kernel_rfl)⟩) hHeld ?_
  simp only [Act.put, List.setIfInBounds_toArray, List.set_cons_zero, List.set_cons_succ]
  refine go_take 10 16 _ (.pointer (some ⟨M, 3, none⟩)) rfl (by kernel_rfl) (by kernel_rfl) (by kernel_rfl) (by kernel_rfl) (fun _ _ _ h => h) (Or.inl ⟨by kernel_rfl, fun u hu => by kernel_rfl⟩) hHeld ?_
  simp only [Act.put, List.setIfInBounds_toArray, List.set_cons_zero, List.set_cons_succ]
  refine go_take 11 17 _ (.int .i64 BN) rfl (by kernel_rfl) (by kernel_rfl) (by kernel_rfl) (by kernel_rfl) (fun _ _ _ h => h) (Or.inl ⟨by kernel_rfl, fun u hu => cw_i64 (cellsOf u hu).2.2.2.1 (.tmp 16) (by kernel_rfl) (by kernel_rfl)⟩) hHeld ?_
  simp only [Act.put, List.setIfInBounds_toArray, List.set_cons_zero, List.set_cons_succ]
  have hBBm : ∀ u, Below Wm.heap.size Wm u → Below B w u := fun u hu => hWm.below.trans (hu.mono (Nat.le_trans hBw hWm.size))
  refine go_callE 5 11 _ rfl (by kernel_rfl) (by kernel_rfl) (by kernel_rfl) 23 (.func 23) #[.tmp 8, .tmp 10] #[3, 3] (by kernel_rfl) #[] (by kernel_rfl) #[.int .i64 A, .int .i64 AN] (by kernel_rfl) (enters_of Tryd.func23 (by kernel_rfl) rfl) (fun v2 u => v2 = .string ⟨T1.toArray⟩ ∧ Below Wm.heap.size Wm u) ?_ ?_
  · refine (ucount_f A AN r1 (by omega) r3 (by omega) wd (HT.out wd (hBBm wd hwd)) T1 HT1).mono ?_
    rintro e u ⟨rfl, hu⟩
    exact ⟨_, rfl, hHeld.low hu, rfl, hwd.trans (hu.mono hwd.size)⟩
  rintro _ w2 hw2 ⟨rfl, hb2⟩
  simp only [Act.put, List.setIfInBounds_toArray, List.set_cons_zero, List.set_cons_succ]
  refine go_take 6 12 _ (.string ⟨U1.toArray⟩) rfl (by kernel_rfl) (by kernel_rfl) (by kernel_rfl) (by kernel_rfl) (fun _ _ _ h => h) (Or.inl ⟨by kernel_rfl, fun u hu => cw_addU q1 (.const (.string ⟨#[64, 64, 32, 45]⟩)) (.tmp 11) (by kernel_rfl) (by kernel_rfl) (by kernel_rfl)⟩) hw2 ?_
  simp only [Act.put, List.setIfInBounds_toArray, List.set_cons_zero, List.set_cons_succ]
  refine go_take 7 13 _ (.string ⟨U2.toArray⟩) rfl (by kernel_rfl) (by kernel_rfl) (by kernel_rfl) (by kernel_rfl) (fun _ _ _ h => h) (Or.inl ⟨by kernel_rfl, fun u hu => cw_addU q2 (.tmp 12) (.const (.string ⟨#[32, 43]⟩)) (by kernel_rfl) (by kernel_rfl) (by kernel_rfl)⟩) hw2 ?_
  simp only [Act.put, List.setIfInBounds_toArray, List.set_cons_zero, List.set_cons_succ]
  refine go_callE 12 18 _ rfl (by kernel_rfl) (by kernel_rfl) (by kernel_rfl) 23 (.func 23) #[.tmp 15, .tmp 17] #[3, 3] (by kernel_rfl) #[] (by kernel_rfl) #[.int .i64 Bn, .int .i64 BN] (by kernel_rfl) (enters_of Tryd.func23 (by kernel_rfl) rfl) (fun v2 u => v2 = .string ⟨T2.toArray⟩ ∧ Below Wm.heap.size Wm u) ?_ ?_
  · refine (ucount_f Bn BN r4 (by omega) r6 (by omega) w2 (HT.out w2 (hBBm w2 hb2)) T2 HT2).mono ?_
    rintro e u ⟨rfl, hu⟩
    exact ⟨_, rfl, hw2.low hu, rfl, hb2.trans (hu.mono hb2.size)⟩
  rintro _ w3 hw3 ⟨rfl, hb3⟩
  simp only [Act.put, List.setIfInBounds_toArray, List.set_cons_zero, List.set_cons_succ]
  refine go_take 13 19 _ (.string ⟨U3.toArray⟩) rfl (by kernel_rfl) (by kernel_rfl) (by kernel_rfl) (by kernel_rfl) (fun _ _ _ h => h) (Or.inl ⟨by kernel_rfl, fun u hu => cw_addU q3 (.tmp 13) (.tmp 18) (by kernel_rfl) (by kernel_rfl) (by kernel_rfl)⟩) hw3 ?_
  simp only [Act.put, List.setIfInBounds_toArray, List.set_cons_zero, List.set_cons_succ]
  refine go_take 14 20 _ (.string ⟨U4.toArray⟩) rfl (by kernel_rfl) (by kernel_rfl) (by kernel_rfl) (by kernel_rfl) (fun _ _ _ h => h) (Or.inl ⟨by kernel_rfl, fun u hu => cw_addU q4 (.tmp 19) (.const (.string ⟨#[32, 64, 64]⟩)) (by kernel_rfl) (by kernel_rfl) (by kernel_rfl)⟩) hw3 ?_
  simp only [Act.put, List.setIfInBounds_toArray, List.set_cons_zero, List.set_cons_succ]
  refine go_take 15 21 _ (.string ⟨U5.toArray⟩) rfl (by kernel_rfl) (by kernel_rfl) (by kernel_rfl) (by kernel_rfl) (fun _ _ _ h => h) (Or.inl ⟨by kernel_rfl, fun u hu => cw_addU q5 (.tmp 20) (.const (.string ⟨#[10]⟩)) (by kernel_rfl) (by kernel_rfl) (by kernel_rfl)⟩) hw3 ?_
  simp only [Act.put, List.setIfInBounds_toArray, List.set_cons_zero, List.set_cons_succ]
  have hP3 := hPm.low hb3
  have hW3 : Wr B b v v w w3 := hWm.trans (Wr.low hb3 (Nat.le_trans hBw hWm.size))
  refine go_callE 16 22 _ rfl (by kernel_rfl) (by kernel_rfl) (by kernel_rfl) 10 (.func 10) #[.tmp 6, .tmp 21] #[33, 9] (by kernel_rfl) #[] (by kernel_rfl) #[.pointer (some ⟨b, 0, none⟩), .string ⟨U5.toArray⟩] (by kernel_rfl) (enters_of Tryd.func10 (by kernel_rfl) rfl) (fun _ w4 => ∃ v', Bu B b v' Z1 w4 ∧ Wr B b v v' w w4) ?_ ?_
  · refine (hP3.str (Nat.le_trans hBw hW3.size) HZ1.out hZ1l).mono ?_
    rintro e w4 ⟨⟨z, rfl⟩, v4, q4', hw4⟩
    exact ⟨_, rfl, (hw3.wr hw4 hOff).1, v4, q4', hW3.trans hw4⟩
  rintro _ w4 hw4 ⟨v4, hP4, hW4⟩
  simp only [Act.put, List.setIfInBounds_toArray, List.set_cons_zero, List.set_cons_succ]
  refine wpAnyH_done (by kernel_rfl) ?_ _
  refine NoPanic.normal ?_
  obtain ⟨d0, d1, d2, d3, d4⟩ := hw4.cells
  clear q1 q2 q3 q4 q5 hHeld hwd cellsOf hb2 hw2 hb3 hP3 hW3 hPm hWm hMx hBm hOff hBBm HZ1 HT1 HT2 HT
  go_wp2
  clear d0 d1 d2 d3 d4
  go_loopw [26] (fun i wr => ∃ (k : Nat) (v1 : Value) (ac : List UInt8), k ≤ ls.length ∧ i = .int .i64 k ∧ Bu B b v1 ac wr ∧ Wr B b v v1 w wr ∧ Hid (ac ++ ((ls.drop k).flatMap umL).flatten = Z)) (fun i _ => ls.length - (intOf i).toNat)
  case atStart => exact ⟨0, v4, Z1, Nat.zero_le _, by go_num, hP4, hW4, HE⟩
  case round =>
  clear HE hP4 hW4 hw4
  obtain ⟨k, v1, ac, hk, rfl, hP, hW, HI⟩ := hrel
  have hacl : ac.length ≤ 70368744177664 := (by
    have h1 := congrArg List.length HI.out
    rw [List.length_append] at h1
    omega)
  by_cases hlt : k < ls.length
  · have hml := HL.out wr hW.below
    obtain ⟨bk, off, rfl, hbk, hcl⟩ := HMk.at hml (by omega)
    obtain ⟨m, hm⟩ : ∃ m, ls[k] = m := ⟨_, rfl⟩
    obtain ⟨c0, c1⟩ := Low.mk (Below.refl _ wr) hml k hlt hm
    clear hcl
    have htx := HTx.out m (by rw [← hm]; exact List.getElem_mem hlt)
    have hsg := sgn_cases (HSg.out m (by rw [← hm]; exact List.getElem_mem hlt))
    have h0 : 0 ≤ m.sg := by omega
    have h1 : m.sg < 256 := by omega
    have i1 : (0 : Int) ≤ (k : Int) := by omega
    have i2 : (k : Int) < (ls.length : Int) := by omega
    obtain ⟨T, hT⟩ : ∃ T, plT m.tx = T := ⟨_, rfl⟩
    have HTT : Hid (plT m.tx = T) := hT
    obtain ⟨A1, hA1⟩ : ∃ Y, ac ++ [UInt8.ofNat m.sg.toNat] = Y := ⟨_, rfl⟩
    obtain ⟨A2, hA2⟩ : ∃ Y, A1 ++ T = Y := ⟨_, rfl⟩
    have HI2 : Hid (A2 ++ ((ls.drop (k + 1)).flatMap umL).flatten = Z) := (by
      show _ = _
      rw [← HI.out, ← hA2, ← hA1, List.drop_eq_getElem_cons hlt, hm, List.flatMap_cons, List.flatten_append, um_flat, hT]
      simp)
    have hA2l : A2.length ≤ 70368744177664 := (by have h := congrArg List.length HI2.out; rw [List.length_append] at h; omega)
    have HA2 : Hid (A1 ++ T = A2) := hA2
    have HA1 : Hid (Lib.byteCells ac ++ [.int .u8 m.sg] = Lib.byteCells A1) := (by
      show _ = _
      rw [← hA1, Lib.byteCells_append, cell_byte h0 h1])
    have hBm : Below wr.heap.size wr (wr.alloc (.cells #[.int .u8 m.sg, .string ⟨m.tx.toArray⟩] 50)) := (Below.refl _ wr).alloc (Nat.le_refl _) _
    have hMb := heap_alloc_new wr (.cells #[.int .u8 m.sg, .string ⟨m.tx.toArray⟩] 50)
    have hOff : Off wr.heap.size b v1 := ⟨by have := Bld.lt hP; omega, fun e => by have := (hP.2.2.1.lt _ e).2; omega⟩
    have hPm := hP.low hBm
    have hWm := hW.trans (Wr.low hBm (Nat.le_trans hBw hW.size))
    have hbl := bcells_len ac
    clear hT hA1 hA2 hm HI hP hW hBm hml
    have hsz : B ≤ (wr.alloc (.cells #[.int .u8 m.sg, .string ⟨m.tx.toArray⟩] 50)).heap.size := Nat.le_trans hBw hWm.size
    have hlen : (Lib.byteCells ac).length + 1 ≤ 140737488355328 := by omega
    have hPb : Bld 36 5 B b v1 (Lib.byteCells ac) (wr.alloc (.cells #[.int .u8 m.sg, .string ⟨m.tx.toArray⟩] 50)) := hPm
    have hcb := cByte_f lays_b B b v1 (Lib.byteCells ac) m.sg _ hPb hlen hsz
    clear hPb hsz hlen
    go_wp2_with fail
    refine hcb.mono ?_
    rintro e w5 ⟨rfl, v5, q5, hw5⟩
    have hP5 : Bu B b v5 A1 w5 := (by unfold Bu; rw [← HA1.out]; exact q5)
    have hW5 := hWm.trans hw5
    obtain ⟨hM5, hO5⟩ := hw5.block hMb hOff
    have m1 : w5.cell? ⟨wr.heap.size, 1, none⟩ = some (.string ⟨m.tx.toArray⟩) := (by rw [Lib.cell_of_heap hM5]; rfl)
    clear q5 hw5 hWm hPm hMb hOff c0 c1 hcb
    go_wp2_with fail
    refine (pline_f m.tx w5 htx T HTT).mono ?_
    rintro e w6 ⟨rfl, rfl⟩
    go_wp2_with fail
    refine (hP5.str (Nat.le_trans hBw hW5.size) HA2.out hA2l).mono ?_
    rintro e w7 ⟨⟨z, rfl⟩, v7, hP7, hw7⟩
    have hW7 := hW5.trans hw7
    clear m1 hP5 hW5 hw7 hM5 hO5
    go_wp2
    exact ⟨⟨k + 1, v7, A2, by omega, by go_num, hP7, hW7, HI2⟩, by simp [intOf]; omega⟩
  · have hend : decide ((k : Int) < (ls.length : Int)) = false := decide_eq_false (by omega)
    have HE : Hid (ac = Z) := (by
      have h := HI.out
      rw [List.drop_of_length_le (by omega)] at h
      show _ = _
      simpa using h)
    clear HI
    go_wp2
    first
      | go_end0
      | refine bodyPost_ret (results_none rfl _ _ _) rfl ?_
      | refine bodyPost_end (results_none rfl _ _ _) rfl ?_
    exact ⟨rfl, v1, by rw [← HE.out]; exact hP, hW⟩
end Go.Proofs.YtgcccpmcbjfaaaaDoor

/- The code's Print of layer 16, walked. -/
namespace Go.Proofs.YtgcccpmcbjfaaaaDoor
open Go.RowKit Go.Proofs.YtgcccpmcbjfaaaaDoor

set_option maxHeartbeats 8000000 in
set_option maxRecDepth 100000 in
theorem uPrint_f (p : Pth) (q : List (Hk × Value)) (HQ : Hid (q.map (·.1) = p.hs)) (v : Value) (w : World) (hv : HHp w v q) (hok : HOk q) (ho : p.old.length ≤ 1099511627776) (hn : p.new.length ≤ 1099511627776) (HT : Hid (Tab10 w)) (Z : List UInt8) (r : Int) (HR : Hid (wrgP p = r)) (HZ : Hid (upT p = Z)) (hZ : Z.length ≤ 70368744177664) :
    Calls Tryd.prog 5 #[ptV p v] w fun e w' => e = .returned (.tuple #[.string ⟨Z.toArray⟩, .int .i64 r]) ∧ Below w.heap.size w w' := by
  obtain ⟨lo, lc, rfl⟩ := Holds.form hv.row
  have HO := fun h => (wrg_out (p := p) h)
  obtain ⟨old, new, hs⟩ := p
  dsimp only at HQ ho hn
  have hql : hs.length = q.length := (by rw [← HQ.out, List.length_map])
  have hZZ := HZ.out
  unfold upT at hZZ
  rw [HR.out] at hZZ
  have hBm : Below w.heap.size w (w.alloc (.cells #[.string ⟨old.toArray⟩, .string ⟨new.toArray⟩, .slice lo q.length lc] 24)) := (Below.refl _ w).alloc (Nat.le_refl _) _
  have hMx : Px (w.alloc (.cells #[.string ⟨old.toArray⟩, .string ⟨new.toArray⟩, .slice lo q.length lc] 24)) w.heap.size ⟨old, new, hs⟩ (.slice lo q.length lc) := heap_alloc_new w _
  have hvm := hv.keep hBm (Nat.le_refl _)
  have hc := ccheckP_f ⟨old, new, hs⟩ q HQ (.slice lo q.length lc) _ hvm hok ho hn r HR
  have e : ptV ⟨old, new, hs⟩ (.slice lo q.length lc) = .agg #[.string ⟨old.toArray⟩, .string ⟨new.toArray⟩, .slice lo q.length lc] := rfl
  rw [e] at hc ⊢
  obtain ⟨d0, d1, d2⟩ := hMx.cells
  clear e hvm
  by_cases hr0 : r = 0
  · subst hr0
    rw [if_pos rfl] at hZZ
    obtain ⟨o1, o2, o3, o4⟩ := HO HR.out
    dsimp only at o1 o2 o3 o4
    have HCh : Hid (∀ x ∈ hs, chkH x = 0) := o4
    clear o4 HO
    by_cases hq0 : q.length = 0
    · have HE : Hid ([] = Z) := (by
        show _ = _
        rw [← hZZ]
        have : hs = [] := List.eq_nil_of_length_eq_zero (by omega)
        rw [this]
        rfl)
      have i1 : ((q.length : Int) == 0) = true := (by rw [hq0]; rfl)
      clear hZZ HZ hq0 hql
      go_enter Tryd.func5, Tryd.ntmps5
      go_wp2_with fail
      refine hc.mono ?_
      rintro e w1 ⟨rfl, hB1⟩
      have hM1 := hMx.low hB1
      clear d0 d1 d2
      obtain ⟨d0, d1, d2⟩ := hM1.cells
      go_wp2
      go_ret2
      exact ⟨by rw [← HE.out]; rfl, hBm.trans (hB1.mono hBm.size)⟩
    · have hne : hs ≠ [] := (by intro e; rw [e] at hql; simp at hql; omega)
      rw [up_lines (p := ⟨old, new, hs⟩) hne] at hZZ
      dsimp only at hZZ
      obtain ⟨N1, hN1⟩ : ∃ Y, nameT old = Y := ⟨_, rfl⟩
      obtain ⟨N2, hN2⟩ : ∃ Y, nameT new = Y := ⟨_, rfl⟩
      obtain ⟨U1, hU1⟩ : ∃ Y, [45, 45, 45, 32] ++ N1 = Y := ⟨_, rfl⟩
      obtain ⟨U2, hU2⟩ : ∃ Y, [43, 43, 43, 32] ++ N2 = Y := ⟨_, rfl⟩
      obtain ⟨V1, hV1⟩ : ∃ Y, U1 ++ [10] = Y := ⟨_, rfl⟩
      obtain ⟨V2, hV2⟩ : ∃ Y, U2 ++ [10] = Y := ⟨_, rfl⟩
      obtain ⟨Z1, hZ1⟩ : ∃ Y, [] ++ V1 = Y := ⟨_, rfl⟩
      obtain ⟨Z2, hZ2⟩ : ∃ Y, Z1 ++ V2 = Y := ⟨_, rfl⟩
      have HE : Hid (Z2 ++ (((q.map (·.1)).drop 0).flatMap uhL).flatten = Z) := (by
        show _ = _
        rw [← hZZ, ← hZ2, ← hZ1, ← hV1, ← hV2, ← hU1, ← hU2, hN1, hN2, HQ.out, List.drop_zero]
        simp)
      have hE := congrArg List.length HE.out
      have l2 := congrArg List.length hZ2
      have l1 := congrArg List.length hZ1
      simp only [List.length_append] at hE l2 l1
      have b2 : Z2.length ≤ 70368744177664 := by omega
      have b1 : Z1.length ≤ 70368744177664 := by omega
      have n1 := name_len old
      have n2 := name_len new
      rw [hN1] at n1
      rw [hN2] at n2
      have q1 := add_fits (x := [45, 45, 45, 32]) (y := N1) (by unfold Fits; simp only [List.length_cons, List.length_nil]; omega) Tryd.prog
      have q2 := add_fits (x := [43, 43, 43, 32]) (y := N2) (by unfold Fits; simp only [List.length_cons, List.length_nil]; omega) Tryd.prog
      rw [hU1] at q1
      rw [hU2] at q2
      have u1 := congrArg List.length hU1
      have u2 := congrArg List.length hU2
      simp only [List.length_append, List.length_cons, List.length_nil] at u1 u2
      have q3 := add_fits (x := U1) (y := [10]) (by unfold Fits; simp only [List.length_cons, List.length_nil]; omega) Tryd.prog
      have q4 := add_fits (x := U2) (y := [10]) (by unfold Fits; simp only [List.length_cons, List.length_nil]; omega) Tryd.prog
      rw [hV1] at q3
      rw [hV2] at q4
      have HN1 : Hid (nameT old = N1) := hN1
      have HN2 : Hid (nameT new = N2) := hN2
      have HZ1 : Hid ([] ++ V1 = Z1) := hZ1
      have HZ2 : Hid (Z1 ++ V2 = Z2) := hZ2
      have HZne : Hid (Z ≠ []) := (by
        intro e
        have h := congrArg List.length e
        have h2 := congrArg List.length hV1
        simp only [List.length_append, List.length_cons, List.length_nil] at h h2
        omega)
      have i1 : ((q.length : Int) == 0) = false := beq_eq_false_iff_ne.2 (by omega)
      have hq4 : q.length ≤ 4096 := by omega
      clear hZZ HZ hq0 hql hE l1 l2 n1 n2 hN1 hN2 hU1 hU2 hV1 hV2 hZ1 hZ2 hne o3 u1 u2
      go_enter Tryd.func5, Tryd.ntmps5
      go_wp2_with fail
      refine hc.mono ?_
      rintro e w1 ⟨rfl, hB1⟩
      have hM1 := hMx.low hB1
      have hBw1 := hBm.trans (hB1.mono hBm.size)
      clear d0 d1 d2 hBm hMx hB1 hc
      have hM2 := hM1.low ((Below.refl _ w1).alloc (Nat.le_refl _) (.cells #[.pointer none, .slice none 0 0] 36))
      have hBw2 := hBw1.alloc hBw1.size (.cells #[.pointer none, .slice none 0 0] 36)
      have hP2 : Bu w.heap.size w1.heap.size (.slice none 0 0) [] (w1.alloc (.cells #[.pointer none, .slice none 0 0] 36)) := ⟨hBw1.size, ⟨_, .inl rfl, heap_alloc_new w1 _⟩, World.ownsRowF_nil _ _ _ _, by simp [Value.ownBlock]⟩
      have hO2 : Off w.heap.size w1.heap.size (.slice none 0 0) := ⟨by have := hM1.lt; omega, by simp [Value.ownBlock]⟩
      obtain ⟨f0, f1, f2⟩ := hM1.cells
      obtain ⟨d0, d1, d2⟩ := hM2.cells
      go_wp2_with fail
      refine (uname_f old _ ho N1 HN1).mono ?_
      generalize w1.alloc (.cells #[.pointer none, .slice none 0 0] 36) = W2 at hM2 hBw2 hP2 d0 d1 d2 ⊢
      generalize w1.heap.size = b at hP2 hO2 ⊢
      rintro e w3 ⟨rfl, hB3⟩
      have hM3 := hM2.low hB3
      have hP3 := hP2.low hB3
      have hBw3 := hBw2.trans (hB3.mono hBw2.size)
      clear d0 d1 d2 f0 f1 f2 hM2 hP2 hBw2 hB3 hM1 hBw1
      go_wp2_with fail
      refine (hP3.str hBw3.size HZ1.out b1).mono ?_
      rintro e w4 ⟨⟨z4, rfl⟩, v4, hP4, hW4⟩
      obtain ⟨hM4, hO4⟩ := hM3.wr hW4 hO2
      have hBw4 := hBw3.trans hW4.below
      obtain ⟨d0, d1, d2⟩ := hM4.cells
      clear hM3 hP3 hBw3 hO2 hW4
      go_wp2_with fail
      refine (uname_f new _ hn N2 HN2).mono ?_
      rintro e w5 ⟨rfl, hB5⟩
      have hM5 := hM4.low hB5
      have hP5 := hP4.low hB5
      have hBw5 := hBw4.trans (hB5.mono hBw4.size)
      clear d0 d1 d2 hM4 hP4 hBw4 hB5
      go_wp2_with fail
      refine (hP5.str hBw5.size HZ2.out b2).mono ?_
      rintro e w6 ⟨⟨z6, rfl⟩, v6, hP6, hW6⟩
      obtain ⟨hM6, hO6⟩ := hM5.wr hW6 hO4
      have hBw6 := hBw5.trans hW6.below
      obtain ⟨d0, d1, d2⟩ := hM6.cells
      clear hM5 hP5 hBw5 hO4 hW6 q1 q2 q3 q4 HZ1 HZ2 HN1 HN2
      go_wp2
      go_loopw [32] (fun i wr => ∃ (k : Nat) (v1 : Value) (ac : List UInt8), k ≤ q.length ∧ i = .int .i64 k ∧ Bu w.heap.size b v1 ac wr ∧ Below w.heap.size w wr ∧ Hid (ac ++ (((q.map (·.1)).drop k).flatMap uhL).flatten = Z)) (fun i _ => q.length - (intOf i).toNat)
      case atStart => exact ⟨0, v6, Z2, Nat.zero_le _, by go_num, hP6, hBw6, HE⟩
      case round =>
      clear HE hP6 hBw6 hM6 hO6 d0 d1 d2
      obtain ⟨k, v1, ac, hk, rfl, hP, hB, HI⟩ := hrel
      by_cases hlt : k < q.length
      · obtain ⟨bk, off, rfl, hbk, _⟩ := hv.at (by omega)
        obtain ⟨h, y, hx⟩ : ∃ h y, q[k] = (h, y) := ⟨_, _, rfl⟩
        obtain ⟨⟨c0, c1, c2, c3, c4⟩, hm⟩ := HHp.take hv hB k hlt hx
        obtain ⟨x1, x2⟩ := hok.2 q[k] (List.getElem_mem hlt)
        have hins := hv.ins q[k] (List.getElem_mem hlt)
        have hch := HCh.out q[k].1 (by rw [← HQ.out]; exact List.mem_map_of_mem (List.getElem_mem hlt))
        rw [hx] at x1 x2 hins hch
        dsimp only at x1 x2 hins hch
        have HI2 := HI.out
        rw [List.drop_eq_getElem_cons (show k < (q.map (·.1)).length by rw [List.length_map]; exact hlt), List.getElem_map, hx, List.flatMap_cons, List.flatten_append, ← List.append_assoc] at HI2
        dsimp only at HI2
        obtain ⟨A2, hA2⟩ : ∃ Y, ac ++ (uhL h).flatten = Y := ⟨_, rfl⟩
        rw [hA2] at HI2
        have HI3 : Hid (A2 ++ (((q.map (·.1)).drop (k + 1)).flatMap uhL).flatten = Z) := HI2
        have hAl : A2.length ≤ 70368744177664 := (by have := congrArg List.length HI2; rw [List.length_append] at this; omega)
        have i4 : (0 : Int) ≤ (k : Int) := by omega
        have i5 : (k : Int) < (q.length : Int) := by omega
        have hBn : Below wr.heap.size wr (wr.alloc (.cells #[.int .i64 h.A, .int .i64 h.AN, .int .i64 h.B, .int .i64 h.BN, y] 44)) := (Below.refl _ wr).alloc (Nat.le_refl _) _
        have hBm := hB.trans (hBn.mono hB.size)
        have hPm := hP.low hBn
        have hc := uwrite_f w.heap.size b v1 h y ac A2 _ hPm hBm.size x1 x2 hch (fun u hu => hins.keep (hBm.trans hu) (Nat.le_refl _)) (fun u hu => HT.out.on (hBm.trans hu)) hA2 hAl
        obtain ⟨yo, yc, rfl⟩ := HMk.form hm
        have e : hkV h (.slice yo h.ls.length yc) = .agg #[.int .i64 h.A, .int .i64 h.AN, .int .i64 h.B, .int .i64 h.BN, .slice yo h.ls.length yc] := rfl
        rw [e] at hc
        clear e HI HI2 hx hm hins hch hA2
        go_wp2_with fail
        refine hc.mono ?_
        rintro e w7 ⟨rfl, v7, hP7, hW7⟩
        go_wp2
        exact ⟨⟨k + 1, v7, A2, by omega, by go_num, hP7, hBm.trans hW7.below, HI3⟩, by simp [intOf]; omega⟩
      · have hend : decide ((k : Int) < (q.length : Int)) = false := decide_eq_false (by omega)
        have hE : ac = Z := (by
          have h := HI.out
          rw [List.drop_of_length_le (by rw [List.length_map]; omega)] at h
          simpa using h)
        subst hE
        clear HI
        go_wp2_with fail
        refine (cString_f w.heap.size b v1 ac HZne.out wr hP).mono ?_
        rintro e w7 ⟨rfl, hB7⟩
        go_wp2
        go_ret2
        exact ⟨rfl, hB.trans hB7⟩
  · rw [if_neg hr0] at hZZ
    have HE : Hid ([] = Z) := hZZ
    have e1 : (r != 0) = true := bne_iff_ne.2 hr0
    clear hZZ HZ HO hr0
    go_enter Tryd.func5, Tryd.ntmps5
    go_wp2_with fail
    refine hc.mono ?_
    rintro e w1 ⟨rfl, hB1⟩
    go_wp2
    go_ret2
    exact ⟨by rw [← HE.out]; rfl, hBm.trans (hB1.mono hBm.size)⟩
end Go.Proofs.YtgcccpmcbjfaaaaDoor

/- A patch as an argument, opened; how long its text is, by what came in. -/
namespace Go.Proofs.YtgcccpmcbjfaaaaDoor
open Go.RowKit

theorem cellsHks : Tryd.prog.cellsOf 22 = 1 := by kernel_rfl
theorem cellsPt : Tryd.prog.cellsOf 24 = 3 := by kernel_rfl
set_option maxRecDepth 10000 in
theorem open_ptc {H : Type} {enc : TypeId × Value → H} {W : World} {fuel : Nat} {cs : List Value} {d : DataW H} {p : List MemPlace}
    (h : DataW.trod enc Tryd.prog W 0 (fun _ => true) true fuel 24 cs = some (d, p)) :
    ∃ (old new : List UInt8) (q : List (Hk × Value)) (y : Value), cs = [.string ⟨old.toArray⟩, .string ⟨new.toArray⟩, y] ∧ HHp W y q ∧ old.length + new.length + hbk (q.map (·.1)) ≤ Rows.uptoBulk d := by
  obtain ⟨xs, k, hk, hxy, hlen, hxl, hf⟩ := DataW.trod_struct Tryd.underlying24 h
  rw [cellsPt] at hlen
  match xs, hxl, cs, hlen with
  | [y0, y1, y2], _, [v0, v1, v2], _ =>
    have g0 := hf 0 _ rfl
    have g1 := hf 1 _ rfl
    have g2 := hf 2 _ rfl
    simp [cellsStr, cellsHks] at g0 g1 g2
    obtain ⟨z0, e0, q0, _⟩ := DataW.trod_string Tryd.underlying9 g0
    obtain ⟨z1, e1, q1, _⟩ := DataW.trod_string Tryd.underlying9 g1
    obtain ⟨y2d, y2p⟩ := y2
    obtain ⟨ao, n, c, rfl⟩ : ∃ ao n c, v2 = .slice ao n c := by
      rcases Go.Deep.open_slice Tryd.underlying22 g2 with ⟨hcs, _⟩ | ⟨a, l, c, m, n, D, Pl, hcs, _⟩
      · simp at hcs
        exact ⟨_, _, _, hcs⟩
      · simp at hcs
        exact ⟨_, _, _, hcs⟩
    obtain ⟨l, hl, hb, _⟩ := open_hks g2
    cases e0
    cases e1
    simp only [Prod.mk.injEq] at hxy
    refine ⟨z0.data.toList, z1.data.toList, l, .slice ao n c, by simp, hl, ?_⟩
    rw [hxy.1, q0, q1]
    simp [Rows.uptoBulk, Rows.uptoBulkAll]
    omega
theorem txS_mb (l : List Mk) : txS l + l.length ≤ mb l := by
  induction l with
  | nil => simp [txS, mb]
  | cons m l ih => simp only [txS, mb, List.length_cons]; omega
theorem hsS_hbk (l : List Hk) : hsS l ≤ 264 * hbk l := by
  induction l with
  | nil => simp [hsS, hbk]
  | cons h l ih =>
    have := txS_mb h.ls
    simp only [hsS, hbk]
    omega
theorem hok_bulk {q : List (Hk × Value)} {n : Nat} (h : hbk (q.map (·.1)) ≤ n) (hn : n ≤ 1099511627776) : HOk q := by
  refine ⟨?_, fun x hx => ⟨?_, fun m hm => ?_⟩⟩
  · have := hb_len (q.map (·.1))
    rw [List.length_map] at this
    omega
  · have h1 := hb_mem (q.map (·.1)) x.1 (List.mem_map_of_mem hx)
    have h2 := mb_len x.1.ls
    omega
  · have h1 := hb_mem (q.map (·.1)) x.1 (List.mem_map_of_mem hx)
    have h2 := mb_mem x.1.ls m hm
    omega
theorem how_ok {q : List (Hk × Value)} (h : HOk q) : HOw q := ⟨h.1, fun x hx => (h.2 x hx).1⟩
theorem sid_bulk {l : List Hk} {n : Nat} (h : hbk l ≤ n) : ∀ x ∈ l, ∀ sg, (sidL sg false false x.ls).flatten.length ≤ 32 * n := by
  intro x hx sg
  have h1 := hb_mem l x hx
  have h2 := sid_len sg x.ls false false
  have h3 := txS_mb x.ls
  omega
end Go.Proofs.YtgcccpmcbjfaaaaDoor
