/-
  Texts that belong together, joined: PcKe, PcKm, PcPz, PcDf, HiFd, HiWk, HiWo, HiRn, MiWm.
-/
import Derived.Test.YtmhanngimmjmoabPart5
import Derived.Deep.CutRange
import Derived.Shelf.RegionOpenPlain

/- The package pieces: KeepEnds, walked. -/
namespace Go.Proofs.Ytmhanngimmjmoab
open Go.RowKit
attribute [local simp] low_drew

/-- how long the slice in a cell is -/
def lenOf : Value → Nat | .slice _ n _ => n | _ => 0
/-- a piece is read as a whole -/
theorem load_pz {u : World} {B : Nat} {v0 v1 v2 v3 : Value} (h : Qbx u B v0 v1 v2 v3) {op : Oper} (x : Operand) (ho : op.op = .load 60 x) {ev : Operand → Value} (hx : ev x = .pointer (some ⟨B, 0, none⟩)) :
    (execOp ev op).run Try.prog u = .ok (.value (.agg #[v0, v1, v2, v3])) u := by
  obtain ⟨d0, d1, d2, d3⟩ := h.cells
  simp only [execOp, ho, hx]
  go_simp
theorem empty_held {u wr : World} {B : Nat} {xo : Option Addr} {nx xc : Nat} {yo : Option Addr} {ny yc c : Nat} {ko : Option Addr} {kc : Nat} {r : Bool} (h : Qbx u B (.slice xo nx xc) (.slice yo ny yc) (.int .i64 c) (.slice ko nx kc) ∧ Low wr u) (hr : Hid (r = decide (nx = 0 ∨ ny = 0)) ∨ False) :
    Calls Try.prog 28 #[.agg #[.slice xo nx xc, .slice yo ny yc, .int .i64 (c : Int), .slice ko nx kc]] u fun e w' => e = .returned (.bool r) ∧ (Qbx w' B (.slice xo nx xc) (.slice yo ny yc) (.int .i64 c) (.slice ko nx kc) ∧ Low wr w') := by
  refine (Empty_f xo nx xc yo ny yc c ko kc u r (hr.resolve_right id)).mono ?_
  rintro e w' ⟨rfl, hb⟩
  exact ⟨rfl, h.1.low hb, Below.trans h.2 (hb.mono (Below.size h.2))⟩
theorem Empty_low (xo : Option Addr) (nx xc : Nat) (yo : Option Addr) (ny yc c : Nat) (ko : Option Addr) (kc : Nat) (u W : World) (r : Bool) (hr : Hid (r = decide (nx = 0 ∨ ny = 0))) (hL : Low W u) :
    Calls Try.prog 28 #[.agg #[.slice xo nx xc, .slice yo ny yc, .int .i64 (c : Int), .slice ko nx kc]] u fun e w' => e = .returned (.bool r) ∧ Low W w' := by
  refine (Empty_f xo nx xc yo ny yc c ko kc u r hr).mono ?_
  rintro e w' ⟨rfl, hb⟩
  exact ⟨rfl, Below.trans hL (hb.mono (Below.size hL))⟩
theorem Keep_00 {W0 : World} {g N : Nat} (K : List Int) (xo : Option Addr) (nx xc : Nat) (yo : Option Addr) (ny yc a c : Nat) (ko : Option Addr) (kc : Nat) (w : World) (hS : Ls W0 g N K w) (hko : 0 < nx → ko = some ⟨g, a, none⟩) (haN : a + nx ≤ N) (hN : N ≤ 1048576) (hin : 1 ≤ nx) (hc : c + 1 ≤ 1048576) :
    Calls Try.prog 30 #[.agg #[.slice xo nx xc, .slice yo ny yc, .int .i64 (c : Int), .slice ko nx kc], .int .i64 0, .int .i64 0, .int .i64 1] w fun e w' => e = .returned (.tuple #[]) ∧ Ls W0 g N (wrk K (fp a c 1)) w' ∧ w.grownBy w' (some g) :=
  Keep_f K xo nx xc yo ny yc a c ko kc w 0 0 1 hS hko haN hN (by omega) (by omega)
theorem Keep_1 {W0 : World} {g N : Nat} (K : List Int) (xo : Option Addr) (nx xc : Nat) (yo : Option Addr) (ny yc a c : Nat) (ko : Option Addr) (kc : Nat) (w : World) (i j : Nat) (hS : Ls W0 g N K w) (hko : 0 < nx → ko = some ⟨g, a, none⟩) (haN : a + nx ≤ N) (hN : N ≤ 1048576) (hin : i + 1 ≤ nx) (hc : c + j + 1 ≤ 1048576) :
    Calls Try.prog 30 #[.agg #[.slice xo nx xc, .slice yo ny yc, .int .i64 (c : Int), .slice ko nx kc], .int .i64 (i : Int), .int .i64 (j : Int), .int .i64 1] w fun e w' => e = .returned (.tuple #[]) ∧ Ls W0 g N (wrk K (fp (a + i) (c + j) 1)) w' ∧ w.grownBy w' (some g) :=
  Keep_f K xo nx xc yo ny yc a c ko kc w i j 1 hS hko haN hN (by omega) (by omega)
theorem From_11 (xo : Option Addr) (nx xc : Nat) (yo : Option Addr) (ny yc c : Nat) (ko : Option Addr) (kc : Nat) (w : World) (hi : 1 ≤ nx) (hj : 1 ≤ ny) (hxc : nx ≤ xc) (hyc : ny ≤ yc) (hkc : nx ≤ kc) (hc : c + 1 ≤ 1048576) :
    Calls Try.prog 32 #[.agg #[.slice xo nx xc, .slice yo ny yc, .int .i64 (c : Int), .slice ko nx kc], .int .i64 1, .int .i64 1] w fun e w' => e = .returned (pzV (slF xo xc 1) (nx - 1) (xc - 1) (slF yo yc 1) (ny - 1) (yc - 1) (c + 1) (slF ko kc 1) (kc - 1)) ∧ Below w.heap.size w w' :=
  From_f xo nx xc yo ny yc c ko kc w 1 1 hi hj hxc hyc hkc hc
/-- the state of the walk -/
structure Ke (W0 w : World) (g : Nat) (x y K : List Int) (a b c d : Nat) (xo : Option Addr) (nx xc : Nat) (yo : Option Addr) (ny yc : Nat) (ko : Option Addr) (kc : Nat) (u : World) : Prop where
  pz : Pz W0 g x y a b c d xo nx xc yo ny yc ko kc
  ls : Ls W0 g x.length K u
  box : Qbx u w.heap.size (.slice xo nx xc) (.slice yo ny yc) (.int .i64 c) (.slice ko nx kc)
  res : Qbx u (w.heap.size + 1) (.slice none 0 0) (.slice none 0 0) (.int .i64 0) (.slice none 0 0)
  gr : w.grownBy u (some g)
section
variable {W0 w : World} {g : Nat} {x y K : List Int} {a b c d : Nat} {xo : Option Addr} {nx xc : Nat} {yo : Option Addr} {ny yc : Nat} {ko : Option Addr} {kc : Nat} {u u' : World}
theorem Ke.low (h : Ke W0 w g x y K a b c d xo nx xc yo ny yc ko kc u) (hb : Below u.heap.size u u') : Ke W0 w g x y K a b c d xo nx xc yo ny yc ko kc u' :=
  ⟨h.pz, h.ls.keep hb, h.box.low hb, h.res.low hb, h.gr.trans (low_grown hb _)⟩
/-- another row of what is kept -/
theorem Ke.kept (h : Ke W0 w g x y K a b c d xo nx xc yo ny yc ko kc u) (hw : g < w.heap.size) {K' : List Int} (hl : Ls W0 g x.length K' u') (hg : u.grownBy u' (some g)) : Ke W0 w g x y K' a b c d xo nx xc yo ny yc ko kc u' :=
  ⟨h.pz, hl, h.box.keep hg (by simp; omega), h.res.keep hg (by simp; omega), h.gr.trans hg⟩
/-- another piece in the box -/
theorem Ke.put (h : Ke W0 w g x y K a b c d xo nx xc yo ny yc ko kc u) (hw : g < w.heap.size) {a' b' c' d' : Nat} {xo' : Option Addr} {nx' xc' : Nat} {yo' : Option Addr} {ny' yc' : Nat} {ko' : Option Addr} {kc' : Nat} (hp : Pz W0 g x y a' b' c' d' xo' nx' xc' yo' ny' yc' ko' kc') :
    Ke W0 w g x y K a' b' c' d' xo' nx' xc' yo' ny' yc' ko' kc' ((((u.setCell ⟨w.heap.size, 0, none⟩ (.slice xo' nx' xc')).setCell ⟨w.heap.size, 1, none⟩ (.slice yo' ny' yc')).setCell ⟨w.heap.size, 2, none⟩ (.int .i64 (c' : Int))).setCell ⟨w.heap.size, 3, none⟩ (.slice ko' nx' kc')) := by
  have hg := h.ls.lt
  have hW := h.ls.low.size
  have hs := h.gr.size
  refine ⟨hp, ?_, h.box.put _ _ _ _, ?_, ?_⟩
  · exact ls_other (ls_other (ls_other (ls_other h.ls (by omega) (by omega) _ _) (by omega) (by omega) _ _) (by omega) (by omega) _ _) (by omega) (by omega) _ _
  · refine (heap_setCell_other _ _ _ _ (by simp)).trans ((heap_setCell_other _ _ _ _ (by simp)).trans ((heap_setCell_other _ _ _ _ (by simp)).trans ((heap_setCell_other _ _ _ _ (by simp)).trans h.res)))
  · exact grown_new (grown_new (grown_new (grown_new h.gr (Nat.le_refl _) _ _) (Nat.le_refl _) _ _) (Nat.le_refl _) _ _) (Nat.le_refl _) _ _
end

set_option maxRecDepth 10000 in
set_option maxHeartbeats 4000000 in
theorem KeepEnds_f (x y : List Int) (W0 w : World) (g : Nat) (K : List Int) (a b c d : Nat) (xo : Option Addr) (nx xc : Nat) (yo : Option Addr) (ny yc : Nat) (ko : Option Addr) (kc : Nat) (hp : Pz W0 g x y a b c d xo nx xc yo ny yc ko kc) (hxl : x.length ≤ 4096) (hyl : y.length ≤ 4096) (hS : Ls W0 g x.length K w) :
    Calls Try.prog 27 #[pzV xo nx xc yo ny yc c ko kc] w fun e w' => ∃ (k m : Nat) (xo' : Option Addr) (nx' xc' : Nat) (yo' : Option Addr) (ny' yc' : Nat) (ko' : Option Addr) (kc' : Nat), k = tf x y a b c d ∧ m = tb x y (a + k) b (c + k) d ∧ e = .returned (pzV xo' nx' xc' yo' ny' yc' (c + k) ko' kc') ∧ Pz W0 g x y (a + k) (b - m) (c + k) (d - m) xo' nx' xc' yo' ny' yc' ko' kc' ∧ Ls W0 g x.length (wrk K (fp a c k ++ bp b d m)) w' ∧ w.grownBy w' (some g) := by
  obtain ⟨k, hk⟩ : ∃ k, tf x y a b c d = k := ⟨_, rfl⟩
  obtain ⟨m, hm⟩ : ∃ m, tb x y (a + k) b (c + k) d = m := ⟨_, rfl⟩
  obtain ⟨KF, hKF⟩ : ∃ KF, wrk K (fp a c k) = KF := ⟨_, rfl⟩
  obtain ⟨A1, hA1⟩ : ∃ A1, a + k = A1 := ⟨_, rfl⟩
  obtain ⟨C1, hC1⟩ : ∃ C1, c + k = C1 := ⟨_, rfl⟩
  have HK : Hid (a + tf x y a b c d = A1 ∧ c + tf x y a b c d = C1 ∧ wrk K (fp a c (tf x y a b c d)) = KF) := ⟨by rw [hk, hA1], by rw [hk, hC1], by rw [hk, hKF]⟩
  have HM : Hid (tb x y A1 b C1 d = m) := (by rw [hA1, hC1] at hm; exact hm)
  have HFin : Hid (k = tf x y a b c d ∧ m = tb x y (a + k) b (c + k) d ∧ A1 = a + k ∧ C1 = c + k ∧ wrk KF (bp b d m) = wrk K (fp a c k ++ bp b d m)) := ⟨hk.symm, hm.symm, hA1.symm, hC1.symm, by rw [wrk_append, hKF]⟩
  have hml : m ≤ b - A1 ∧ m ≤ d - C1 := by rw [← HM.out]; exact tb_le x y A1 b C1 d
  clear hk hm hKF hA1 hC1
  have hgw := hS.lt.2
  have hT0 : Ke W0 w g x y K a b c d xo nx xc yo ny yc ko kc ((w.alloc (.cells #[.slice xo nx xc, .slice yo ny yc, .int .i64 c, .slice ko nx kc] 60)).alloc (.cells #[.slice none 0 0, .slice none 0 0, .int .i64 0, .slice none 0 0] 60)) :=
    ⟨hp, hS.keep (((Below.refl _ w).alloc (Nat.le_refl _) _).alloc (by simp) _), (Below.heap_alloc _ _ _ (by simp)).trans (_root_.Go.heap_alloc_new w _), alloc_second w _ _, low_grown (((Below.refl _ w).alloc (Nat.le_refl _) _).alloc (by simp) _) _⟩
  unfold pzV
  go_enter Try.func27, Try.ntmps27
  go_wp2
  go_loopw [] (fun wr => ∃ (a' c' : Nat) (K' : List Int) (xo : Option Addr) (nx xc : Nat) (yo : Option Addr) (ny yc : Nat) (ko : Option Addr) (kc : Nat), Ke W0 w g x y K' a' b c' d xo nx xc yo ny yc ko kc wr ∧ Hid (a' + tf x y a' b c' d = A1 ∧ c' + tf x y a' b c' d = C1 ∧ wrk K' (fp a' c' (tf x y a' b c' d)) = KF)) (fun wr => lenOf ((wr.cell? ⟨w.heap.size, 0, none⟩).getD undef))
  case atStart => exact ⟨a, c, K, xo, nx, xc, yo, ny, yc, ko, kc, hT0, HK⟩
  case round =>
    clear hT0 HK hS hp
    obtain ⟨a', c', K', xo, nx, xc, yo, ny, yc, ko, kc, hT, HV⟩ := hrel
    have hQ := hT.box
    obtain ⟨c0, c1, c2, c3⟩ := hQ.cells
    have hb := hT.pz.eb
    have hd := hT.pz.ed
    have hbx := hT.pz.bx
    have hdy := hT.pz.dy
    obtain ⟨r, hr⟩ : ∃ r, decide (a' < b ∧ c' < d ∧ x[a']? = y[c']?) = r := ⟨_, rfl⟩
    have HRr : Hid (decide (a' < b ∧ c' < d ∧ x[a']? = y[c']?) = r) := hr
    clear hr
    have hlow := hT.ls.low
    go_wp2_with fail
    go_cut [18] from 5 to 22 (fun z wz => z = .bool r ∧ Low wr wz)
    case first =>
      by_cases he : nx = 0 ∨ ny = 0
      · obtain rfl : r = false := by rw [← HRr.out]; simp; intro h1 h2; omega
        have HE : Hid (true = decide (nx = 0 ∨ ny = 0)) := (decide_eq_true he).symm
        clear HRr
        refine wp_region_noPanic ?_
        refine wp_region_held_drew (S := fun u => Qbx u w.heap.size (.slice xo nx xc) (.slice yo ny yc) (.int .i64 (c' : Int)) (.slice ko nx kc) ∧ Low wr u) (by kernel_rfl) ⟨hQ.drewN 1, Below.dN (Below.refl _ wr) 1⟩ (fun hHeld => ?_)
        refine go_take 0 5 _ (.agg #[.slice xo nx xc, .slice yo ny yc, .int .i64 (c' : Int), .slice ko nx kc]) rfl (by kernel_rfl) (by kernel_rfl) (by kernel_rfl) (by kernel_rfl) (fun _ _ _ h => h) (Or.inl ⟨by kernel_rfl, fun u hu => load_pz hu.1 (.tmp 1) (by kernel_rfl) (by kernel_rfl)⟩) hHeld ?_
        simp only [Act.put, List.setIfInBounds_toArray, List.set_cons_zero, List.set_cons_succ]
        refine go_callH 1 6 _ rfl (by kernel_rfl) (by kernel_rfl) (by kernel_rfl) 28 #[.tmp 5] #[60] (by kernel_rfl) #[.agg #[.slice xo nx xc, .slice yo ny yc, .int .i64 (c' : Int), .slice ko nx kc]] (by kernel_rfl) (enters_of Try.func28 (by kernel_rfl) rfl) (.bool true) (empty_held hHeld (.inl HE)) (fun u hHeld => ?_)
        simp only [Act.put, List.setIfInBounds_toArray, List.set_cons_zero, List.set_cons_succ]
        refine go_take 2 7 _ (.bool false) rfl (by kernel_rfl) (by kernel_rfl) (by kernel_rfl) (by kernel_rfl) (fun _ _ _ h => h) (Or.inl ⟨by kernel_rfl, fun u hu => by kernel_rfl⟩) hHeld ?_
        simp only [Act.put, List.setIfInBounds_toArray, List.set_cons_zero, List.set_cons_succ]
        refine go_take 3 8 _ (.bool false) rfl (by kernel_rfl) (by kernel_rfl) (by kernel_rfl) (by kernel_rfl) (fun _ _ _ h => h) (Or.inl ⟨by kernel_rfl, fun u hu => by kernel_rfl⟩) hHeld ?_
        simp only [Act.put, List.setIfInBounds_toArray, List.set_cons_zero, List.set_cons_succ]
        refine go_take 4 9 _ undef rfl (by kernel_rfl) (by kernel_rfl) (by kernel_rfl) (by kernel_rfl) (fun _ _ _ h => h) (Or.inr ⟨by kernel_rfl, rfl⟩) hHeld ?_
        simp only [Act.put, List.setIfInBounds_toArray, List.set_cons_zero, List.set_cons_succ]
        refine go_take 5 10 _ undef rfl (by kernel_rfl) (by kernel_rfl) (by kernel_rfl) (by kernel_rfl) (fun _ _ _ h => h) (Or.inr ⟨by kernel_rfl, rfl⟩) hHeld ?_
        simp only [Act.put, List.setIfInBounds_toArray, List.set_cons_zero, List.set_cons_succ]
        refine go_take 6 11 _ undef rfl (by kernel_rfl) (by kernel_rfl) (by kernel_rfl) (by kernel_rfl) (fun _ _ _ h => h) (Or.inr ⟨by kernel_rfl, rfl⟩) hHeld ?_
        simp only [Act.put, List.setIfInBounds_toArray, List.set_cons_zero, List.set_cons_succ]
        refine go_take 7 12 _ undef rfl (by kernel_rfl) (by kernel_rfl) (by kernel_rfl) (by kernel_rfl) (fun _ _ _ h => h) (Or.inr ⟨by kernel_rfl, rfl⟩) hHeld ?_
        simp only [Act.put, List.setIfInBounds_toArray, List.set_cons_zero, List.set_cons_succ]
        refine go_take 8 13 _ undef rfl (by kernel_rfl) (by kernel_rfl) (by kernel_rfl) (by kernel_rfl) (fun _ _ _ h => h) (Or.inr ⟨by kernel_rfl, rfl⟩) hHeld ?_
        simp only [Act.put, List.setIfInBounds_toArray, List.set_cons_zero, List.set_cons_succ]
        refine go_take 9 14 _ undef rfl (by kernel_rfl) (by kernel_rfl) (by kernel_rfl) (by kernel_rfl) (fun _ _ _ h => h) (Or.inr ⟨by kernel_rfl, rfl⟩) hHeld ?_
        simp only [Act.put, List.setIfInBounds_toArray, List.set_cons_zero, List.set_cons_succ]
        refine go_take 10 15 _ undef rfl (by kernel_rfl) (by kernel_rfl) (by kernel_rfl) (by kernel_rfl) (fun _ _ _ h => h) (Or.inr ⟨by kernel_rfl, rfl⟩) hHeld ?_
        simp only [Act.put, List.setIfInBounds_toArray, List.set_cons_zero, List.set_cons_succ]
        refine go_take 11 16 _ undef rfl (by kernel_rfl) (by kernel_rfl) (by kernel_rfl) (by kernel_rfl) (fun _ _ _ h => h) (Or.inr ⟨by kernel_rfl, rfl⟩) hHeld ?_
        simp only [Act.put, List.setIfInBounds_toArray, List.set_cons_zero, List.set_cons_succ]
        refine go_take 12 17 _ undef rfl (by kernel_rfl) (by kernel_rfl) (by kernel_rfl) (by kernel_rfl) (fun _ _ _ h => h) (Or.inr ⟨by kernel_rfl, rfl⟩) hHeld ?_
        simp only [Act.put, List.setIfInBounds_toArray, List.set_cons_zero, List.set_cons_succ]
        refine go_take 13 18 _ (.bool false) rfl (by kernel_rfl) (by kernel_rfl) (by kernel_rfl) (by kernel_rfl) (fun _ _ _ h => h) (Or.inl ⟨by kernel_rfl, fun u hu => by kernel_rfl⟩) hHeld ?_
        simp only [Act.put, List.setIfInBounds_toArray, List.set_cons_zero, List.set_cons_succ]
        refine wpAnyH_done (by kernel_rfl) ?_ _
        refine NoPanic.normal ?_
        go_wp2_with fail
        go_meet
        case rel => exact ⟨rfl, hHeld.2⟩
      · have h1 : 0 < nx := by omega
        have h2 : 0 < ny := by omega
        obtain ⟨xb, xf, xcc, hxe, hxb, hcx⟩ := Holds.at (Holds.keep hT.pz.hx (fun q hq => hlow.block q hq)) (by rw [icells_length, sub_length x a' b hbx]; omega)
        obtain ⟨yb, yf, ycc, hye, hyb, hcy⟩ := Holds.at (Holds.keep hT.pz.hy (fun q hq => hlow.block q hq)) (by rw [icells_length, sub_length y c' d hdy]; omega)
        cases hxe
        cases hye
        have x0 := hcx 0 (by rw [icells_length, sub_length x a' b hbx]; omega)
        have y0 := hcy 0 (by rw [icells_length, sub_length y c' d hdy]; omega)
        obtain ⟨zx, hzx⟩ : ∃ z, (sub x a' b)[0]? = some z := ⟨_, List.getElem?_eq_getElem (by rw [sub_length x a' b hbx]; omega)⟩
        obtain ⟨zy, hzy⟩ : ∃ z, (sub y c' d)[0]? = some z := ⟨_, List.getElem?_eq_getElem (by rw [sub_length y c' d hdy]; omega)⟩
        have x1 : wr.cell? ⟨xb, xf, none⟩ = some (.int .i64 zx) := by
          rw [Nat.add_zero] at x0
          rw [x0]
          have := hzx
          rw [List.getElem?_eq_getElem (by rw [sub_length x a' b hbx]; omega)] at this
          simp [icells, Option.some.inj this]
        have y1 : wr.cell? ⟨yb, yf, none⟩ = some (.int .i64 zy) := by
          rw [Nat.add_zero] at y0
          rw [y0]
          have := hzy
          rw [List.getElem?_eq_getElem (by rw [sub_length y c' d hdy]; omega)] at this
          simp [icells, Option.some.inj this]
        have e3 : (zx == zy) = r := by
          rw [← HRr.out, show x[a']? = some zx from (sub_some hzx).2, show y[c']? = some zy from (sub_some hzy).2]
          have q1 : a' < b := by omega
          have q2 : c' < d := by omega
          by_cases q : zx = zy <;> simp [q1, q2, q]
        have HE : Hid (false = decide (nx = 0 ∨ ny = 0)) := (decide_eq_false he).symm
        have i1 : (0 : Int) < (nx : Int) := by omega
        have i2 : (0 : Int) < (ny : Int) := by omega
        have hcs : ∀ u : World, Low wr u → u.cell? ⟨w.heap.size, 0, none⟩ = some (.slice (some ⟨xb, xf, none⟩) nx xc) ∧ u.cell? ⟨w.heap.size, 1, none⟩ = some (.slice (some ⟨yb, yf, none⟩) ny yc) ∧ u.cell? ⟨w.heap.size, 2, none⟩ = some (.int .i64 (c' : Int)) ∧ u.cell? ⟨w.heap.size, 3, none⟩ = some (.slice ko nx kc) ∧ u.cell? ⟨xb, xf, none⟩ = some (.int .i64 zx) ∧ u.cell? ⟨yb, yf, none⟩ = some (.int .i64 zy) := fun u hu => by
          obtain ⟨d0, d1, d2, d3⟩ := (hQ.low hu).cells
          exact ⟨d0, d1, d2, d3, cell_low hu x1, cell_low hu y1⟩
        have hLw : Low wr wr := Below.refl _ _
        clear x0 y0 hcx hcy hzx hzy HRr hxb hyb
        go_region_held3 (fun u => u.cell? ⟨w.heap.size, 0, none⟩ = some (.slice (some ⟨xb, xf, none⟩) nx xc) ∧ u.cell? ⟨w.heap.size, 1, none⟩ = some (.slice (some ⟨yb, yf, none⟩) ny yc) ∧ u.cell? ⟨w.heap.size, 2, none⟩ = some (.int .i64 (c' : Int)) ∧ u.cell? ⟨w.heap.size, 3, none⟩ = some (.slice ko nx kc) ∧ u.cell? ⟨xb, xf, none⟩ = some (.int .i64 zx) ∧ u.cell? ⟨yb, yf, none⟩ = some (.int .i64 zy) ∧ Low wr u) (go_keep)
          (first | (go_at_call 28; refine (Empty_low (some ⟨xb, xf, none⟩) nx xc (some ⟨yb, yf, none⟩) ny yc c' ko kc _ wr false HE (by first | assumption | (simp [*]; done))).mono ?_; rintro e wd ⟨rfl, hlw⟩; obtain ⟨g0, g1, g2, g3, g4, g5⟩ := hcs wd hlw))
        go_wp2
        go_meet
        case rel => exact ⟨rfl, by first | assumption | (simp [*]; done)⟩
    case rest =>
      obtain ⟨rfl, hLz⟩ := hcut
      have hTz := hT.low hLz
      have cw := c0
      clear c0 c1 c2 c3 hT hlow hQ hLz
      generalize wc = u0 at hTz ⊢
      obtain ⟨c0, c1, c2, c3⟩ := hTz.box.cells
      cases r with
      | true =>
        have hh := of_decide_eq_true HRr.out
        obtain ⟨h1, h2, h3⟩ := hh
        have HV2 : Hid (a' + 1 + tf x y (a' + 1) b (c' + 1) d = A1 ∧ c' + 1 + tf x y (a' + 1) b (c' + 1) d = C1 ∧ wrk (wrk K' (fp a' c' 1)) (fp (a' + 1) (c' + 1) (tf x y (a' + 1) b (c' + 1) d)) = KF) := (by
          have := HV.out
          rw [tf, if_pos ⟨h1, h2, h3⟩] at this
          obtain ⟨q1, q2, q3⟩ := this
          refine ⟨by omega, by omega, ?_⟩
          rw [← q3, ← wrk_append]
          rfl)
        clear HV HRr h3
        have hkk := hTz.pz.hk
        have hxk := hold_cap hTz.pz.hx
        have hyk := hold_cap hTz.pz.hy
        go_wp2_with fail
        refine (Keep_00 K' xo nx xc yo ny yc a' c' ko kc u0 hTz.ls hTz.pz.at' (by omega) (by omega) (by omega) (by omega)).mono ?_
        rintro e u1 ⟨rfl, hS1, hG1⟩
        have hT1 := hTz.kept hgw hS1 hG1
        clear hTz c0 c1 c2 c3 hS1 hG1
        obtain ⟨c0, c1, c2, c3⟩ := hT1.box.cells
        go_wp2_with fail
        refine (From_11 xo nx xc yo ny yc c' ko kc u1 (by omega) (by omega) hxk hyk hkk (by omega)).mono ?_
        rintro e u2 ⟨rfl, hB2⟩
        have hT2 := hT1.low hB2
        clear hT1 c0 c1 c2 c3 hB2
        obtain ⟨c0, c1, c2, c3⟩ := hT2.box.cells
        have f0 := hT2.box.frozen
        have hT3 := hT2.put hgw (hT2.pz.from (i := 1) (j := 1) (by omega) (by omega))
        unfold pzV
        go_wp2
        go_roundw
        case rel => exact ⟨a' + 1, c' + 1, _, _, _, _, _, _, _, _, _, hT3, HV2⟩
        case measure =>
          refine Nat.lt_of_le_of_lt (Nat.le_of_eq (congrArg (fun o => lenOf (Option.getD o undef)) hT3.box.cells.1)) ?_
          rw [cw]
          simp [lenOf]
          omega
      | false =>
        have hh := of_decide_eq_false HRr.out
        have hz : tf x y a' b c' d = 0 := by rw [tf, if_neg hh]
        obtain ⟨q1, q2, q3⟩ := HV.out
        rw [hz] at q1 q2 q3
        obtain rfl : A1 = a' := by omega
        obtain rfl : C1 = c' := by omega
        have q4 : KF = K' := q3.symm
        subst q4
        clear hh hz q1 q2 q3 HV HRr cw c0 c1 c2 c3 hb hd hbx hdy
        have HM0 : Hid (b - tb x y A1 b C1 d = b - m ∧ d - tb x y A1 b C1 d = d - m ∧ wrk KF (bp b d (tb x y A1 b C1 d)) = wrk KF (bp b d m)) := (by rw [HM.out]; exact ⟨rfl, rfl, rfl⟩)
        go_wp2
        go_loopw [] (fun wr => ∃ (b' d' : Nat) (K2 : List Int) (xo : Option Addr) (nx xc : Nat) (yo : Option Addr) (ny yc : Nat) (ko : Option Addr) (kc : Nat), Ke W0 w g x y K2 A1 b' C1 d' xo nx xc yo ny yc ko kc wr ∧ Hid (b' - tb x y A1 b' C1 d' = b - m ∧ d' - tb x y A1 b' C1 d' = d - m ∧ wrk K2 (bp b' d' (tb x y A1 b' C1 d')) = wrk KF (bp b d m))) (fun wr => lenOf ((wr.cell? ⟨w.heap.size, 0, none⟩).getD undef))
        case atStart => exact ⟨b, d, KF, xo, nx, xc, yo, ny, yc, ko, kc, hTz, HM0⟩
        case round =>
          clear hTz HM0
          obtain ⟨b', d', K2, xo, nx, xc, yo, ny, yc, ko, kc, hT, HV⟩ := hrel
          have hQ := hT.box
          obtain ⟨c0, c1, c2, c3⟩ := hQ.cells
          have hb := hT.pz.eb
          have hd := hT.pz.ed
          have hbx := hT.pz.bx
          have hdy := hT.pz.dy
          obtain ⟨r, hr⟩ : ∃ r, decide (A1 < b' ∧ C1 < d' ∧ x[b' - 1]? = y[d' - 1]?) = r := ⟨_, rfl⟩
          have HRr : Hid (decide (A1 < b' ∧ C1 < d' ∧ x[b' - 1]? = y[d' - 1]?) = r) := hr
          clear hr
          have hlow := hT.ls.low
          go_wp2_with fail
          go_cut [44] from 23 to 60 (fun z wz => z = .bool r ∧ Low wr wz)
          case first =>
            by_cases he : nx = 0 ∨ ny = 0
            · obtain rfl : r = false := by rw [← HRr.out]; simp; intro h1 h2; omega
              have HE : Hid (true = decide (nx = 0 ∨ ny = 0)) := (decide_eq_true he).symm
              clear HRr
              refine wp_region_noPanic ?_
              refine wp_region_held_drew (S := fun u => Qbx u w.heap.size (.slice xo nx xc) (.slice yo ny yc) (.int .i64 (C1 : Int)) (.slice ko nx kc) ∧ Low wr u) (by kernel_rfl) ⟨hQ.drewN 1, Below.dN (Below.refl _ wr) 1⟩ (fun hHeld => ?_)
              refine go_take 0 23 _ (.agg #[.slice xo nx xc, .slice yo ny yc, .int .i64 (C1 : Int), .slice ko nx kc]) rfl (by kernel_rfl) (by kernel_rfl) (by kernel_rfl) (by kernel_rfl) (fun _ _ _ h => h) (Or.inl ⟨by kernel_rfl, fun u hu => load_pz hu.1 (.tmp 1) (by kernel_rfl) (by kernel_rfl)⟩) hHeld ?_
              simp only [Act.put, List.setIfInBounds_toArray, List.set_cons_zero, List.set_cons_succ]
              refine go_callH 1 24 _ rfl (by kernel_rfl) (by kernel_rfl) (by kernel_rfl) 28 #[.tmp 23] #[60] (by kernel_rfl) #[.agg #[.slice xo nx xc, .slice yo ny yc, .int .i64 (C1 : Int), .slice ko nx kc]] (by kernel_rfl) (enters_of Try.func28 (by kernel_rfl) rfl) (.bool true) (empty_held hHeld (.inl HE)) (fun u hHeld => ?_)
              simp only [Act.put, List.setIfInBounds_toArray, List.set_cons_zero, List.set_cons_succ]
              refine go_take 2 25 _ (.bool false) rfl (by kernel_rfl) (by kernel_rfl) (by kernel_rfl) (by kernel_rfl) (fun _ _ _ h => h) (Or.inl ⟨by kernel_rfl, fun u hu => by kernel_rfl⟩) hHeld ?_
              simp only [Act.put, List.setIfInBounds_toArray, List.set_cons_zero, List.set_cons_succ]
              refine go_take 3 26 _ (.bool false) rfl (by kernel_rfl) (by kernel_rfl) (by kernel_rfl) (by kernel_rfl) (fun _ _ _ h => h) (Or.inl ⟨by kernel_rfl, fun u hu => by kernel_rfl⟩) hHeld ?_
              simp only [Act.put, List.setIfInBounds_toArray, List.set_cons_zero, List.set_cons_succ]
              refine go_take 4 27 _ undef rfl (by kernel_rfl) (by kernel_rfl) (by kernel_rfl) (by kernel_rfl) (fun _ _ _ h => h) (Or.inr ⟨by kernel_rfl, rfl⟩) hHeld ?_
              simp only [Act.put, List.setIfInBounds_toArray, List.set_cons_zero, List.set_cons_succ]
              refine go_take 5 28 _ undef rfl (by kernel_rfl) (by kernel_rfl) (by kernel_rfl) (by kernel_rfl) (fun _ _ _ h => h) (Or.inr ⟨by kernel_rfl, rfl⟩) hHeld ?_
              simp only [Act.put, List.setIfInBounds_toArray, List.set_cons_zero, List.set_cons_succ]
              refine go_take 6 29 _ undef rfl (by kernel_rfl) (by kernel_rfl) (by kernel_rfl) (by kernel_rfl) (fun _ _ _ h => h) (Or.inr ⟨by kernel_rfl, rfl⟩) hHeld ?_
              simp only [Act.put, List.setIfInBounds_toArray, List.set_cons_zero, List.set_cons_succ]
              refine go_take 7 30 _ undef rfl (by kernel_rfl) (by kernel_rfl) (by kernel_rfl) (by kernel_rfl) (fun _ _ _ h => h) (Or.inr ⟨by kernel_rfl, rfl⟩) hHeld ?_
              simp only [Act.put, List.setIfInBounds_toArray, List.set_cons_zero, List.set_cons_succ]
              refine go_take 8 31 _ undef rfl (by kernel_rfl) (by kernel_rfl) (by kernel_rfl) (by kernel_rfl) (fun _ _ _ h => h) (Or.inr ⟨by kernel_rfl, rfl⟩) hHeld ?_
              simp only [Act.put, List.setIfInBounds_toArray, List.set_cons_zero, List.set_cons_succ]
              refine go_take 9 32 _ undef rfl (by kernel_rfl) (by kernel_rfl) (by kernel_rfl) (by kernel_rfl) (fun _ _ _ h => h) (Or.inr ⟨by kernel_rfl, rfl⟩) hHeld ?_
              simp only [Act.put, List.setIfInBounds_toArray, List.set_cons_zero, List.set_cons_succ]
              refine go_take 10 33 _ undef rfl (by kernel_rfl) (by kernel_rfl) (by kernel_rfl) (by kernel_rfl) (fun _ _ _ h => h) (Or.inr ⟨by kernel_rfl, rfl⟩) hHeld ?_
              simp only [Act.put, List.setIfInBounds_toArray, List.set_cons_zero, List.set_cons_succ]
              refine go_take 11 34 _ undef rfl (by kernel_rfl) (by kernel_rfl) (by kernel_rfl) (by kernel_rfl) (fun _ _ _ h => h) (Or.inr ⟨by kernel_rfl, rfl⟩) hHeld ?_
              simp only [Act.put, List.setIfInBounds_toArray, List.set_cons_zero, List.set_cons_succ]
              refine go_take 12 35 _ undef rfl (by kernel_rfl) (by kernel_rfl) (by kernel_rfl) (by kernel_rfl) (fun _ _ _ h => h) (Or.inr ⟨by kernel_rfl, rfl⟩) hHeld ?_
              simp only [Act.put, List.setIfInBounds_toArray, List.set_cons_zero, List.set_cons_succ]
              refine go_take 13 36 _ undef rfl (by kernel_rfl) (by kernel_rfl) (by kernel_rfl) (by kernel_rfl) (fun _ _ _ h => h) (Or.inr ⟨by kernel_rfl, rfl⟩) hHeld ?_
              simp only [Act.put, List.setIfInBounds_toArray, List.set_cons_zero, List.set_cons_succ]
              refine go_take 14 37 _ undef rfl (by kernel_rfl) (by kernel_rfl) (by kernel_rfl) (by kernel_rfl) (fun _ _ _ h => h) (Or.inr ⟨by kernel_rfl, rfl⟩) hHeld ?_
              simp only [Act.put, List.setIfInBounds_toArray, List.set_cons_zero, List.set_cons_succ]
              refine go_take 15 38 _ undef rfl (by kernel_rfl) (by kernel_rfl) (by kernel_rfl) (by kernel_rfl) (fun _ _ _ h => h) (Or.inr ⟨by kernel_rfl, rfl⟩) hHeld ?_
              simp only [Act.put, List.setIfInBounds_toArray, List.set_cons_zero, List.set_cons_succ]
              refine go_take 16 39 _ undef rfl (by kernel_rfl) (by kernel_rfl) (by kernel_rfl) (by kernel_rfl) (fun _ _ _ h => h) (Or.inr ⟨by kernel_rfl, rfl⟩) hHeld ?_
              simp only [Act.put, List.setIfInBounds_toArray, List.set_cons_zero, List.set_cons_succ]
              refine go_take 17 40 _ undef rfl (by kernel_rfl) (by kernel_rfl) (by kernel_rfl) (by kernel_rfl) (fun _ _ _ h => h) (Or.inr ⟨by kernel_rfl, rfl⟩) hHeld ?_
              simp only [Act.put, List.setIfInBounds_toArray, List.set_cons_zero, List.set_cons_succ]
              refine go_take 18 41 _ undef rfl (by kernel_rfl) (by kernel_rfl) (by kernel_rfl) (by kernel_rfl) (fun _ _ _ h => h) (Or.inr ⟨by kernel_rfl, rfl⟩) hHeld ?_
              simp only [Act.put, List.setIfInBounds_toArray, List.set_cons_zero, List.set_cons_succ]
              refine go_take 19 42 _ undef rfl (by kernel_rfl) (by kernel_rfl) (by kernel_rfl) (by kernel_rfl) (fun _ _ _ h => h) (Or.inr ⟨by kernel_rfl, rfl⟩) hHeld ?_
              simp only [Act.put, List.setIfInBounds_toArray, List.set_cons_zero, List.set_cons_succ]
              refine go_take 20 43 _ undef rfl (by kernel_rfl) (by kernel_rfl) (by kernel_rfl) (by kernel_rfl) (fun _ _ _ h => h) (Or.inr ⟨by kernel_rfl, rfl⟩) hHeld ?_
              simp only [Act.put, List.setIfInBounds_toArray, List.set_cons_zero, List.set_cons_succ]
              refine go_take 21 44 _ (.bool false) rfl (by kernel_rfl) (by kernel_rfl) (by kernel_rfl) (by kernel_rfl) (fun _ _ _ h => h) (Or.inl ⟨by kernel_rfl, fun u hu => by kernel_rfl⟩) hHeld ?_
              simp only [Act.put, List.setIfInBounds_toArray, List.set_cons_zero, List.set_cons_succ]
              refine wpAnyH_done (by kernel_rfl) ?_ _
              refine NoPanic.normal ?_
              go_wp2_with fail
              go_meet
              case rel => exact ⟨rfl, hHeld.2⟩
            · obtain ⟨px, rfl⟩ : ∃ q, nx = q + 1 := ⟨nx - 1, by omega⟩
              obtain ⟨py, rfl⟩ : ∃ q, ny = q + 1 := ⟨ny - 1, by omega⟩
              obtain ⟨xb, xf, xcc, hxe, hxb, hcx⟩ := Holds.at (Holds.keep hT.pz.hx (fun q hq => hlow.block q hq)) (by rw [icells_length, sub_length x A1 b' hbx]; omega)
              obtain ⟨yb, yf, ycc, hye, hyb, hcy⟩ := Holds.at (Holds.keep hT.pz.hy (fun q hq => hlow.block q hq)) (by rw [icells_length, sub_length y C1 d' hdy]; omega)
              cases hxe
              cases hye
              have x0 := hcx px (by rw [icells_length, sub_length x A1 b' hbx]; omega)
              have y0 := hcy py (by rw [icells_length, sub_length y C1 d' hdy]; omega)
              obtain ⟨zx, hzx⟩ : ∃ z, (sub x A1 b')[px]? = some z := ⟨_, List.getElem?_eq_getElem (by rw [sub_length x A1 b' hbx]; omega)⟩
              obtain ⟨zy, hzy⟩ : ∃ z, (sub y C1 d')[py]? = some z := ⟨_, List.getElem?_eq_getElem (by rw [sub_length y C1 d' hdy]; omega)⟩
              have x1 : wr.cell? ⟨xb, xf + px, none⟩ = some (.int .i64 zx) := by
                rw [x0]
                have := hzx
                rw [List.getElem?_eq_getElem (by rw [sub_length x A1 b' hbx]; omega)] at this
                simp [icells, Option.some.inj this]
              have y1 : wr.cell? ⟨yb, yf + py, none⟩ = some (.int .i64 zy) := by
                rw [y0]
                have := hzy
                rw [List.getElem?_eq_getElem (by rw [sub_length y C1 d' hdy]; omega)] at this
                simp [icells, Option.some.inj this]
              have e3 : (zx == zy) = r := by
                have q3 := (sub_some hzx).2
                have q4 := (sub_some hzy).2
                rw [← HRr.out, show b' - 1 = A1 + px by omega, show d' - 1 = C1 + py by omega, q3, q4]
                have q1 : A1 < b' := by omega
                have q2 : C1 < d' := by omega
                by_cases q : zx = zy <;> simp [q1, q2, q]
              have HE : Hid (false = decide (px + 1 = 0 ∨ py + 1 = 0)) := (decide_eq_false (by omega)).symm
              have i1 : (px : Int) < ((px + 1 : Nat) : Int) := by omega
              have i2 : (py : Int) < ((py + 1 : Nat) : Int) := by omega
              have i1' : (px : Int) < (px : Int) + 1 := by omega
              have i2' : (py : Int) < (py : Int) + 1 := by omega
              have i3 : 0 ≤ (px : Int) := by omega
              have i4 : 0 ≤ (py : Int) := by omega
              have n1 : IntKind.i64.wrap ((px : Int) + 1 - 1) = (px : Int) := by rw [IntKind.wrap_i64]; omega
              have n2 : IntKind.i64.wrap ((py : Int) + 1 - 1) = (py : Int) := by rw [IntKind.wrap_i64]; omega
              have n3 : IntKind.i64.wrap (px : Int) = (px : Int) := by rw [IntKind.wrap_i64]; omega
              have n4 : IntKind.i64.wrap (py : Int) = (py : Int) := by rw [IntKind.wrap_i64]; omega
              have n5 : (px : Int) + 1 - 1 = (px : Int) := by omega
              have n6 : (py : Int) + 1 - 1 = (py : Int) := by omega
              have hcs : ∀ u : World, Low wr u → u.cell? ⟨w.heap.size, 0, none⟩ = some (.slice (some ⟨xb, xf, none⟩) (px + 1) xc) ∧ u.cell? ⟨w.heap.size, 1, none⟩ = some (.slice (some ⟨yb, yf, none⟩) (py + 1) yc) ∧ u.cell? ⟨w.heap.size, 2, none⟩ = some (.int .i64 (C1 : Int)) ∧ u.cell? ⟨w.heap.size, 3, none⟩ = some (.slice ko (px + 1) kc) ∧ u.cell? ⟨xb, xf + px, none⟩ = some (.int .i64 zx) ∧ u.cell? ⟨yb, yf + py, none⟩ = some (.int .i64 zy) := fun u hu => by
                obtain ⟨d0, d1, d2, d3⟩ := (hQ.low hu).cells
                exact ⟨d0, d1, d2, d3, cell_low hu x1, cell_low hu y1⟩
              have hLw : Low wr wr := Below.refl _ _
              clear x0 y0 hcx hcy hzx hzy HRr hxb hyb
              go_region_held3 (fun u => u.cell? ⟨w.heap.size, 0, none⟩ = some (.slice (some ⟨xb, xf, none⟩) (px + 1) xc) ∧ u.cell? ⟨w.heap.size, 1, none⟩ = some (.slice (some ⟨yb, yf, none⟩) (py + 1) yc) ∧ u.cell? ⟨w.heap.size, 2, none⟩ = some (.int .i64 (C1 : Int)) ∧ u.cell? ⟨w.heap.size, 3, none⟩ = some (.slice ko (px + 1) kc) ∧ u.cell? ⟨xb, xf + px, none⟩ = some (.int .i64 zx) ∧ u.cell? ⟨yb, yf + py, none⟩ = some (.int .i64 zy) ∧ Low wr u) (go_keep)
                (first | (go_at_call 28; refine (Empty_low (some ⟨xb, xf, none⟩) (px + 1) xc (some ⟨yb, yf, none⟩) (py + 1) yc C1 ko kc _ wr false HE (by first | assumption | (simp [*]; done))).mono ?_; rintro e wd ⟨rfl, hlw⟩; obtain ⟨g0, g1, g2, g3, g4, g5⟩ := hcs wd hlw))
              go_wp2
              go_meet
              case rel => exact ⟨rfl, by first | assumption | (simp [*]; done)⟩
          case rest =>
            obtain ⟨rfl, hLz⟩ := hcut
            have hTz := hT.low hLz
            have cw := c0
            clear c0 c1 c2 c3 hT hlow hQ hLz
            generalize wc = u0 at hTz ⊢
            obtain ⟨c0, c1, c2, c3⟩ := hTz.box.cells
            cases r with
            | true =>
              have hh := of_decide_eq_true HRr.out
              obtain ⟨h1, h2, h3⟩ := hh
              obtain ⟨px, rfl⟩ : ∃ q, nx = q + 1 := ⟨nx - 1, by omega⟩
              obtain ⟨py, rfl⟩ : ∃ q, ny = q + 1 := ⟨ny - 1, by omega⟩
              have HV2 : Hid (A1 + px - tb x y A1 (A1 + px) C1 (C1 + py) = b - m ∧ C1 + py - tb x y A1 (A1 + px) C1 (C1 + py) = d - m ∧ wrk (wrk K2 (fp (A1 + px) (C1 + py) 1)) (bp (A1 + px) (C1 + py) (tb x y A1 (A1 + px) C1 (C1 + py))) = wrk KF (bp b d m)) := (by
                have := HV.out
                rw [tb, if_pos ⟨h1, h2, h3⟩, show b' - 1 = A1 + px by omega, show d' - 1 = C1 + py by omega] at this
                obtain ⟨q1, q2, q3⟩ := this
                refine ⟨by omega, by omega, ?_⟩
                rw [← q3, ← wrk_append, bp, show b' - 1 = A1 + px by omega, show d' - 1 = C1 + py by omega]
                rfl)
              clear HV HRr h3
              have hkk := hTz.pz.hk
              have hxk := hold_cap hTz.pz.hx
              have hyk := hold_cap hTz.pz.hy
              have n1 : IntKind.i64.wrap ((px : Int) + 1 - 1) = (px : Int) := by rw [IntKind.wrap_i64]; omega
              have n2 : IntKind.i64.wrap ((py : Int) + 1 - 1) = (py : Int) := by rw [IntKind.wrap_i64]; omega
              have n3 : IntKind.i64.wrap (px : Int) = (px : Int) := by rw [IntKind.wrap_i64]; omega
              have n4 : IntKind.i64.wrap (py : Int) = (py : Int) := by rw [IntKind.wrap_i64]; omega
              have n5 : (px : Int) + 1 - 1 = (px : Int) := by omega
              have n6 : (py : Int) + 1 - 1 = (py : Int) := by omega
              go_wp2_with fail
              go_big_quiet (fail)
              have hTq := hTz.low (Below.dN (Below.refl _ u0) nq)
              clear hTz c0 c1 c2 c3
              generalize u0.drewN nq = uq at hTq ⊢
              obtain ⟨c0, c1, c2, c3⟩ := hTq.box.cells
              go_wp2_with fail
              refine (Keep_1 K2 xo (px + 1) xc yo (py + 1) yc A1 C1 ko kc uq px py hTq.ls hTq.pz.at' (by omega) (by omega) (by omega) (by omega)).mono ?_
              rintro e u1 ⟨rfl, hS1, hG1⟩
              have hT1 := hTq.kept hgw hS1 hG1
              clear hTq c0 c1 c2 c3 hS1 hG1
              obtain ⟨c0, c1, c2, c3⟩ := hT1.box.cells
              go_wp2_with fail
              refine (UpTo_f xo (px + 1) xc yo (py + 1) yc C1 ko kc u1 px py (by omega) (by omega) hxk hyk hkk).mono ?_
              rintro e u2 ⟨rfl, hB2⟩
              have hT2 := hT1.low hB2
              clear hT1 c0 c1 c2 c3 hB2
              obtain ⟨c0, c1, c2, c3⟩ := hT2.box.cells
              have f0 := hT2.box.frozen
              have hT3 := hT2.put hgw (hT2.pz.to (i := px) (j := py) (by omega) (by omega))
              unfold pzV
              go_wp2
              go_roundw
              case rel => exact ⟨A1 + px, C1 + py, _, _, _, _, _, _, _, _, _, hT3, HV2⟩
              case measure =>
                refine Nat.lt_of_le_of_lt (Nat.le_of_eq (congrArg (fun o => lenOf (Option.getD o undef)) hT3.box.cells.1)) ?_
                rw [cw]
                simp [lenOf]
            | false =>
              have hh := of_decide_eq_false HRr.out
              have hz : tb x y A1 b' C1 d' = 0 := by rw [tb, if_neg hh]
              obtain ⟨q1, q2, q3⟩ := HV.out
              rw [hz] at q1 q2 q3
              have HQ : Hid (K2 = wrk KF (bp b d m) ∧ b' = b - m ∧ d' = d - m) := ⟨q3, by omega, by omega⟩
              clear hh hz q1 q2 q3 HV HRr cw
              have f1 := hTz.res.frozen
              obtain ⟨e0, e1, e2, e3⟩ := hTz.res.cells
              have s4 := hTz.res.put (.slice xo nx xc) (.slice yo ny yc) (.int .i64 (C1 : Int)) (.slice ko nx kc)
              have hg1 := hTz.ls.lt
              have hl1 := hTz.ls.low.size
              have hs1 := hTz.gr.size
              have hlt := hTz.res.lt
              have hL4 := ls_other (ls_other (ls_other (ls_other hTz.ls (g := w.heap.size + 1) (by omega) (by omega) 0 (.slice xo nx xc)) (g := w.heap.size + 1) (by omega) (by omega) 1 (.slice yo ny yc)) (g := w.heap.size + 1) (by omega) (by omega) 2 (.int .i64 (C1 : Int))) (g := w.heap.size + 1) (by omega) (by omega) 3 (.slice ko nx kc)
              have hG4 := grown_new (grown_new (grown_new (grown_new hTz.gr (B := w.heap.size + 1) (by omega) 0 (.slice xo nx xc)) (B := w.heap.size + 1) (by omega) 1 (.slice yo ny yc)) (B := w.heap.size + 1) (by omega) 2 (.int .i64 (C1 : Int))) (B := w.heap.size + 1) (by omega) 3 (.slice ko nx kc)
              have hpz := hTz.pz
              go_wp2
              refine bodyPost_ret (v := .agg #[.slice xo nx xc, .slice yo ny yc, .int .i64 (C1 : Int), .slice ko nx kc]) (results_cell_row rfl _ _ (w.heap.size + 1) 60 #[.slice xo nx xc, .slice yo ny yc, .int .i64 (C1 : Int), .slice ko nx kc] (0, 0) _ rfl s4 Try.underlying60 rfl (by kernel_rfl)) rfl ⟨k, m, xo, nx, xc, yo, ny, yc, ko, kc, HFin.out.1, HFin.out.2.1, ?_, ?_, ?_, hG4⟩
              · rw [← HFin.out.2.2.2.1]
              · rw [← HFin.out.2.2.1, ← HFin.out.2.2.2.1, ← HQ.out.2.1, ← HQ.out.2.2]
                exact hpz
              · rw [← HFin.out.2.2.2.2, ← HQ.out.1]
                exact hL4
end Go.Proofs.Ytmhanngimmjmoab

/- The package pieces: KeepMost, walked. -/
namespace Go.Proofs.Ytmhanngimmjmoab
open Go.RowKit

theorem lp_drop (a c : Nat) (K : List Int) (i : Nat) (hi : i < K.length) : lp (a + i) c (K.drop i) = (if K[i] = -1 then [] else [⟨(a : Int) + i, c + K[i]⟩]) ++ lp (a + i + 1) c (K.drop (i + 1)) := by
  rw [List.drop_eq_getElem_cons hi, lp]

set_option maxRecDepth 10000 in
set_option maxHeartbeats 4000000 in
theorem KeepMost_f (x y : List Int) (W0 w : World) (g : Nat) (K : List Int) (a b c d : Nat) (xo : Option Addr) (nx xc : Nat) (yo : Option Addr) (ny yc : Nat) (ko : Option Addr) (kc : Nat) (hp : Pz W0 g x y a b c d xo nx xc yo ny yc ko kc) (hxl : x.length ≤ 4096) (hyl : y.length ≤ 4096) (hS : Ls W0 g x.length K w) (KF : List Int) (hKF : Hid (wrk K (lp a c (kp 0 (sub x a b) (sub y c d))) = KF)) :
    Calls Try.prog 29 #[.agg #[.slice xo nx xc, .slice yo ny yc, .int .i64 (c : Int), .slice ko nx kc]] w fun e w' => e = .returned (.tuple #[]) ∧ Ls W0 g x.length KF w' ∧ w.grownBy w' (some g) := by
  have hgw := hS.lt.2
  have hlow := hS.low
  obtain ⟨X, hX⟩ : ∃ X, sub x a b = X := ⟨_, rfl⟩
  obtain ⟨Y, hY⟩ : ∃ Y, sub y c d = Y := ⟨_, rfl⟩
  obtain ⟨e1, e2, e3, e4, hx, hy, hk, hat⟩ := hp
  have hXl : X.length = nx := by rw [← hX, sub_length x a b e3]; omega
  have hYl : Y.length = ny := by rw [← hY, sub_length y c d e4]; omega
  rw [hX] at hx hKF
  rw [hY] at hy hKF
  obtain ⟨Z, hZ⟩ : ∃ Z, kp 0 X Y = Z := ⟨_, rfl⟩
  have hZl : Z.length = nx := by rw [← hZ, kp_length, hXl]
  have hV : Vk 0 Y.length Z := by
    have := kp_vk 0 X Y (Int.le_refl _)
    rw [hZ, Int.zero_add] at this
    exact this
  obtain ⟨S, hS0⟩ : ∃ S, mkL Z Y.length = S := ⟨_, rfl⟩
  obtain ⟨hSc, hkm, hlen⟩ := keep_mk hV (by omega) (by omega) (by omega)
  rw [hS0] at hSc hkm hlen
  have HS0 : Hid (mkL (kp 0 X Y) Y.length = S) := (by show _ = _; rw [hZ, hS0])
  rw [hZl, hYl] at hSc hkm hlen
  rw [hYl] at hV
  rw [hZ] at hKF
  have HKM : Hid (keepL S nx ny = Z) := hkm
  have hSl : S.length ≤ 1048576 := by omega
  have HZL : Hid (Z.length = nx) := hZl
  have HV : Hid (Vk 0 ny Z) := hV
  have HE : Hid (b = a + nx ∧ d = c + ny ∧ b ≤ x.length ∧ d ≤ y.length ∧ X.length = nx ∧ Y.length = ny) := ⟨e1, e2, e3, e4, hXl, hYl⟩
  have hnx : a + nx ≤ x.length := by omega
  have hny : c + ny ≤ y.length := by omega
  have hx0 : HI (w.alloc (.cells #[.slice xo nx xc, .slice yo ny yc, .int .i64 c, .slice ko nx kc] 60)) (.slice xo nx xc) X := (by
    unfold HI
    rw [hXl]
    exact Holds.keep hx (fun q hq => ((hlow.alloc hlow.size _).block q hq)))
  have hy0 : HI (w.alloc (.cells #[.slice xo nx xc, .slice yo ny yc, .int .i64 c, .slice ko nx kc] 60)) (.slice yo ny yc) Y := (by
    unfold HI
    rw [hYl]
    exact Holds.keep hy (fun q hq => ((hlow.alloc hlow.size _).block q hq)))
  have hQ0 := Qbx.new w (.slice xo nx xc) (.slice yo ny yc) (.int .i64 c) (.slice ko nx kc)
  have hB0 := (Below.refl w.heap.size w).alloc (Nat.le_refl _) (.cells #[.slice xo nx xc, .slice yo ny yc, .int .i64 c, .slice ko nx kc] 60)
  clear hX hY hZ hS0 hkm hlen hZl hV hXl hYl e1 e2 hlow
  go_enter Try.func29, Try.ntmps29
  go_wp2_with fail
  refine (Diff_f X Y _ _ _ hx0 hy0 (by have := HE.out; omega) (by have := HE.out; omega) S HS0).mono ?_
  rintro e w1 ⟨v1, rfl, hv1, hB1⟩
  obtain ⟨so, sc, rfl⟩ := Holds.form hv1
  have hQ1 := hQ0.low hB1
  obtain ⟨c0, c1, c2, c3⟩ := hQ1.cells
  have hBw1 : Below w.heap.size w w1 := hB0.trans (hB1.mono (by simp))
  clear hQ0 hB1 hB0 hx0 hy0
  go_wp2_with fail
  refine (Keep_own S nx ny _ w1 hv1 hSc (by omega) (by omega) hSl).mono ?_
  rintro e W1 ⟨v2, B, rfl, hBB, hO, hB2⟩
  rw [HKM.out] at hO
  obtain ⟨zo, zc, rfl⟩ := (holds_of hO).form
  rw [HZL.out]
  rw [HZL.out] at hO
  have hQ2 := hQ1.low hB2
  have hBW : Below w.heap.size w W1 := hBw1.trans (hB2.mono hBw1.size)
  have hS2 := hS.keep hBW
  have hG2 := low_grown hBW (some g)
  have hgB : g < B := by have := hBw1.size; omega
  clear c0 c1 c2 c3 hQ1 hBw1 hB2 hBW hBB hS hv1 hSc hSl
  go_wp2
  go_loopw [29] (fun iv wr => ∃ (i : Nat) (K2 : List Int), i ≤ nx ∧ iv = .int .i64 i ∧ Ls W0 g x.length K2 wr ∧ w.grownBy wr (some g) ∧ Qbx wr w.heap.size (.slice xo nx xc) (.slice yo ny yc) (.int .i64 c) (.slice ko nx kc) ∧ wr.ownsRow B 3 1 (.slice zo nx zc) nx (icells Z) ∧ Hid (wrk K2 (lp ((a : Int) + i) c (Z.drop i)) = KF)) (fun iv _ => nx - (intOf iv).toNat)
  case atStart => exact ⟨0, K, Nat.zero_le _, rfl, hS2, hG2, hQ2, hO, by simpa using hKF⟩
  case round =>
    clear hS2 hG2 hQ2 hO hKF
    obtain ⟨i, K2, hi, rfl, hS, hG, hQ, hO, HW⟩ := hrel
    by_cases hlt : i < nx
    · have hiZ : i < Z.length := by have := HZL.out; omega
      obtain ⟨zb, zf, zcc, hze, _, hcz⟩ := Holds.at (holds_of hO) (by rw [icells_length]; omega)
      cases hze
      have z0 := hcz i (by rw [icells_length]; omega)
      obtain ⟨j, hj⟩ : ∃ j, Z[i] = j := ⟨_, rfl⟩
      have z1 : wr.cell? ⟨zb, zf + i, none⟩ = some (.int .i64 j) := by rw [z0]; simp [icells, hj]
      have hjv := (HV.out.each (Int.le_refl _)) j (by rw [← hj]; exact List.getElem_mem _)
      have hjl := HV.out.lt j (by rw [← hj]; exact List.getElem_mem _)
      have HW2 : Hid (wrk K2 ((if j = -1 then [] else [⟨(a : Int) + i, c + j⟩]) ++ lp ((a : Int) + i + 1) c (Z.drop (i + 1))) = KF) := (by
        show _ = _
        have := HW.out
        rw [List.drop_eq_getElem_cons hiZ, lp, hj] at this
        exact this)
      clear z0 hcz hj HW
      have i1 : 0 ≤ (i : Int) := by omega
      have i2 : (i : Int) < (nx : Int) := by omega
      by_cases hj1 : j = -1
      · have e1 : (j != -1) = false := by simp [hj1]
        have HW3 : Hid (wrk K2 (lp ((a : Int) + ((i + 1 : Nat) : Int)) c (Z.drop (i + 1))) = KF) := (by
          show _ = _
          rw [← HW2.out, if_pos hj1, List.nil_append, show (a : Int) + ((i + 1 : Nat) : Int) = (a : Int) + i + 1 by omega])
        clear HW2 hj1 hjv hjl
        go_wp2
        go_roundw
        case rel => exact ⟨i + 1, K2, by omega, by go_num, hS, hG, hQ, hO, HW3⟩
        case measure => simp [intOf]; omega
      · have e1 : (j != -1) = true := by simp [hj1]
        obtain ⟨q, rfl⟩ : ∃ q : Nat, j = q := ⟨j.toNat, by omega⟩
        have hqn : q < ny := by omega
        have HW3 : Hid (wrk (wrk K2 (fp (a + i) (c + q) 1)) (lp ((a : Int) + ((i + 1 : Nat) : Int)) c (Z.drop (i + 1))) = KF) := (by
          show _ = _
          rw [← HW2.out, if_neg hj1, ← wrk_append, show (a : Int) + ((i + 1 : Nat) : Int) = (a : Int) + i + 1 by omega]
          rfl)
        clear HW2 hj1 hjv hjl
        obtain ⟨c0, c1, c2, c3⟩ := hQ.cells
        go_wp2_with fail
        refine (Keep_1 K2 xo nx xc yo ny yc a c ko kc wr i q hS hat hnx (by omega) (by omega) (by omega)).mono ?_
        rintro e u1 ⟨rfl, hS1, hG1⟩
        have hQ1 := hQ.keep hG1 (by simp; omega)
        have hO1 := holds_grown hO hG1 hgB
        have hG2 := hG.trans hG1
        clear c0 c1 c2 c3 hS hG hQ hO hG1
        go_wp2
        go_roundw
        case rel => exact ⟨i + 1, _, by omega, by go_num, hS1, hG2, hQ1, hO1, HW3⟩
        case measure => simp [intOf]; omega
    · obtain rfl : i = nx := by omega
      have e : K2 = KF := by
        have := HW.out
        rw [List.drop_of_length_le (by have := HZL.out; omega)] at this
        exact this
      subst e
      go_wp2
      go_end0
      exact ⟨rfl, hS, hG⟩
end Go.Proofs.Ytmhanngimmjmoab

/- The package pieces: the calls as steps that hand a piece on. -/
namespace Go.Proofs.Ytmhanngimmjmoab
open Go.RowKit
section
variable {W0 : World} {g : Nat} {x y : List Int} {a b c d : Nat} {xo : Option Addr} {nx xc : Nat} {yo : Option Addr} {ny yc : Nat} {ko : Option Addr} {kc : Nat}
theorem UpTo_p (hp : Pz W0 g x y a b c d xo nx xc yo ny yc ko kc) (i j b2 d2 : Nat) (hi : i ≤ nx) (hj : j ≤ ny) (hb : a + i = b2) (hd : c + j = d2) (W u : World) (hL : Low W u) :
    Calls Try.prog 31 #[.agg #[.slice xo nx xc, .slice yo ny yc, .int .i64 (c : Int), .slice ko nx kc], .int .i64 (i : Int), .int .i64 (j : Int)] u fun e w' => ∃ xo' nx' xc' yo' ny' yc' ko' kc', e = .returned (.agg #[.slice xo' nx' xc', .slice yo' ny' yc', .int .i64 (c : Int), .slice ko' nx' kc']) ∧ Pz W0 g x y a b2 c d2 xo' nx' xc' yo' ny' yc' ko' kc' ∧ Low W w' := by
  refine (UpTo_f xo nx xc yo ny yc c ko kc u i j hi hj (hold_cap hp.hx) (hold_cap hp.hy) hp.hk).mono ?_
  rintro e w' ⟨rfl, hB⟩
  subst hb hd
  exact ⟨_, _, _, _, _, _, _, _, rfl, hp.to hi hj, Below.trans hL (hB.mono (Below.size hL))⟩
theorem From_p (hp : Pz W0 g x y a b c d xo nx xc yo ny yc ko kc) (hyl : y.length ≤ 4096) (i j a2 c2 : Nat) (hi : a2 ≤ b) (hj : c2 ≤ d) (ha : a + i = a2) (hc : c + j = c2) (W u : World) (hL : Low W u) :
    Calls Try.prog 32 #[.agg #[.slice xo nx xc, .slice yo ny yc, .int .i64 (c : Int), .slice ko nx kc], .int .i64 (i : Int), .int .i64 (j : Int)] u fun e w' => ∃ xo' nx' xc' yo' ny' yc' ko' kc', e = .returned (.agg #[.slice xo' nx' xc', .slice yo' ny' yc', .int .i64 (c2 : Int), .slice ko' nx' kc']) ∧ Pz W0 g x y a2 b c2 d xo' nx' xc' yo' ny' yc' ko' kc' ∧ Low W w' := by
  have e1 := hp.eb
  have e2 := hp.ed
  have e3 := hp.dy
  refine (From_f xo nx xc yo ny yc c ko kc u i j (by omega) (by omega) (hold_cap hp.hx) (hold_cap hp.hy) hp.hk (by omega)).mono ?_
  rintro e w' ⟨rfl, hB⟩
  subst ha hc
  exact ⟨_, _, _, _, _, _, _, _, rfl, hp.from (by omega) (by omega), Below.trans hL (hB.mono (Below.size hL))⟩
theorem upTo_held (hp : Pz W0 g x y a b c d xo nx xc yo ny yc ko kc) (i j b2 d2 : Nat) (hi : i ≤ nx) (hj : j ≤ ny) (hb : a + i = b2) (hd : c + j = d2) (W u : World) (hL : Low W u) :
    Calls Try.prog 31 (#[.agg #[.slice xo nx xc, .slice yo ny yc, .int .i64 (c : Int), .slice ko nx kc], .int .i64 (i : Int), .int .i64 (j : Int)] ++ #[]) u fun e w' => ∃ v, e = .returned v ∧ W.grownBy w' (some g) ∧ ∃ xo' nx' xc' yo' ny' yc' ko' kc', v = .agg #[.slice xo' nx' xc', .slice yo' ny' yc', .int .i64 (c : Int), .slice ko' nx' kc'] ∧ Pz W0 g x y a b2 c d2 xo' nx' xc' yo' ny' yc' ko' kc' ∧ Low W w' := by
  refine (UpTo_p hp i j b2 d2 hi hj hb hd W u hL).mono ?_
  rintro e w' ⟨x1, x2, x3, x4, x5, x6, x7, x8, rfl, h1, h2⟩
  exact ⟨_, rfl, low_grown h2 _, x1, x2, x3, x4, x5, x6, x7, x8, rfl, h1, h2⟩
theorem from_held (hp : Pz W0 g x y a b c d xo nx xc yo ny yc ko kc) (hyl : y.length ≤ 4096) (i j a2 c2 : Nat) (hi : a2 ≤ b) (hj : c2 ≤ d) (ha : a + i = a2) (hc : c + j = c2) (W u : World) (hL : Low W u) :
    Calls Try.prog 32 (#[.agg #[.slice xo nx xc, .slice yo ny yc, .int .i64 (c : Int), .slice ko nx kc], .int .i64 (i : Int), .int .i64 (j : Int)] ++ #[]) u fun e w' => ∃ v, e = .returned v ∧ W.grownBy w' (some g) ∧ ∃ xo' nx' xc' yo' ny' yc' ko' kc', v = .agg #[.slice xo' nx' xc', .slice yo' ny' yc', .int .i64 (c2 : Int), .slice ko' nx' kc'] ∧ Pz W0 g x y a2 b c2 d xo' nx' xc' yo' ny' yc' ko' kc' ∧ Low W w' := by
  refine (From_p hp hyl i j a2 c2 hi hj ha hc W u hL).mono ?_
  rintro e w' ⟨x1, x2, x3, x4, x5, x6, x7, x8, rfl, h1, h2⟩
  exact ⟨_, rfl, low_grown h2 _, x1, x2, x3, x4, x5, x6, x7, x8, rfl, h1, h2⟩
theorem call_held {P : Program} {F : Nat} {args : Array Value} {W u : World} {K : List Int} {N : Nat} (hL : Low W u) (h : Calls P F args u fun e w' => e = .returned (.tuple #[]) ∧ Ls W0 g N K w' ∧ u.grownBy w' (some g)) :
    Calls P F args u fun e w' => ∃ v, e = .returned v ∧ W.grownBy w' (some g) ∧ (v = .tuple #[] ∧ Ls W0 g N K w') := by
  refine h.mono ?_
  rintro e w' ⟨rfl, h1, h2⟩
  exact ⟨_, rfl, (low_grown hL (some g)).trans h2, rfl, h1⟩
end
end Go.Proofs.Ytmhanngimmjmoab

/- The package pieces: Diff with whatever function finds what is kept, walked. -/
namespace Go.Proofs.Ytmhanngimmjmoab
open Go.RowKit

theorem betw_many (a b : Int) (l : List Rn) : (betw a b l).length ≤ l.length := by
  induction l generalizing a b with
  | nil => simp [betw]
  | cons r l ih =>
    rw [betw]
    have := ih (r.a + r.n) (r.b + r.n)
    split <;> simp <;> omega
theorem mk_many (K : List Int) (m : Int) : (mkL K m).length ≤ K.length + 1 := by
  unfold mkL
  have h1 := betw_many 0 0 (keptR 0 K ++ [⟨(K.length : Int), m, 0⟩])
  have h2 := kept_len 0 K
  rw [List.length_append, List.length_singleton] at h1
  omega

set_option maxRecDepth 10000 in
set_option maxHeartbeats 2000000 in
theorem pDiff_f (x y : List Int) (vx vy : Value) (w : World) (hx : HI w vx x) (hy : HI w vy y) (hxl : x.length ≤ 4096) (hyl : y.length ≤ 4096) (F : Nat) (cap : Array Value) (eF : ∀ args w, (callFunc F args).run Try.prog w = .ok (.enter F args) w) (KF : List Int) (hK : Hid (Kpt x y KF))
    (hf : Hid (∀ (u : World) (g : Nat) (xo : Option Addr) (xc : Nat) (yo : Option Addr) (yc : Nat), Ls w g x.length (List.replicate x.length (-1)) u → Pz w g x y 0 x.length 0 y.length xo x.length xc yo y.length yc (some ⟨g, 0, none⟩) x.length → Calls Try.prog F (#[.agg #[.slice xo x.length xc, .slice yo y.length yc, .int .i64 0, .slice (some ⟨g, 0, none⟩) x.length x.length]] ++ cap) u fun e w' => e = .returned (.tuple #[]) ∧ Ls w g x.length KF w' ∧ u.grownBy w' (some g))) (L : List Ch) (hL : Hid (mkL KF y.length = L)) :
    Calls Try.prog 12 #[vx, vy, .func (.func F) #[] cap] w fun e w' => ∃ v', e = .returned (.tuple #[v', .int .i64 0]) ∧ HCh w' v' L ∧ Below w.heap.size w w' := by
  obtain ⟨xo, xc, rfl⟩ := Holds.form hx
  obtain ⟨yo, yc, rfl⟩ := Holds.form hy
  have e1 : decide ((4096 : Int) < (x.length : Int)) = false := decide_eq_false (by omega)
  have e2 : decide ((4096 : Int) < (y.length : Int)) = false := decide_eq_false (by omega)
  go_enter Try.func12, Try.ntmps12
  go_wp2_with fail
  have hB0 : Below w.heap.size w (w.alloc (Obj.cells #[Value.int IntKind.i64 (-1)] 3)) := (Below.refl _ w).alloc (Nat.le_refl _) _
  refine (Repeat_f x.length (by omega) _ _ (show HI _ _ [-1] from new_holds w _ _ _ _ (by decide))).mono ?_
  rintro e w1 ⟨g, rfl, hO1, hB1⟩
  have hB01 := hB0.trans (hB1.mono hB0.size)
  have hO1' : w1.ownsRow w.heap.size 3 1 (.slice (some ⟨g, 0, none⟩) x.length x.length) x.length (icells (List.replicate x.length (-1))) := by
    refine ⟨hO1.1, ?_⟩
    rcases hO1.2 with h | ⟨g', cap, cur, q1, q2, q3⟩
    · exact .inl h
    · exact .inr ⟨g', cap, cur, q1, Nat.le_trans (by simp) q2, q3⟩
  have hp : Pz w g x y 0 x.length 0 y.length xo x.length xc yo y.length yc (some ⟨g, 0, none⟩) x.length := ⟨by omega, by omega, Nat.le_refl _, Nat.le_refl _, by rw [sub_all]; exact hx, by rw [sub_all]; exact hy, Nat.le_refl _, fun _ => rfl⟩
  have hc := hf.out w1 g xo xc yo yc ⟨hB01, hO1'⟩ hp
  clear hB0 hB1 hO1 hO1'
  go_wp2_with (first | (go_at_fn F; refine hc.mono ?_; rintro e w2 ⟨rfl, hS2, hG2⟩) | fail)
  have hKl := hK.out.len
  have hv2 : HI w2 (.slice (some ⟨g, 0, none⟩) x.length x.length) KF := by
    unfold HI
    rw [hKl]
    exact holds_of hS2.own
  refine (Make_f KF y.length L _ w2 hv2 (by omega) hK.out.vk (by omega) (by omega) hL).mono ?_
  rintro e w3 ⟨v3, rfl, hv3, hB3⟩
  have hB := hS2.low.trans (hB3.mono hS2.low.size)
  clear hc hKl hv2
  go_wp2
  go_ret2
  exact ⟨_, rfl, hv3, hB⟩
set_option maxHeartbeats 2000000 in
theorem pDiff_long (x y : List Int) (vx vy vf : Value) (w : World) (hx : HI w vx x) (hy : HI w vy y) (hl : 4096 < x.length ∨ 4096 < y.length) :
    Calls Try.prog 12 #[vx, vy, vf] w fun e w' => e = .returned (.tuple #[.slice none 0 0, .int .i64 9]) ∧ w = w' := by
  obtain ⟨xo, xc, rfl⟩ := Holds.form hx
  obtain ⟨yo, yc, rfl⟩ := Holds.form hy
  go_enter Try.func12, Try.ntmps12
  have HL : Hid (4096 < x.length ∨ 4096 < y.length) := hl
  clear hl
  by_cases h1 : 4096 < x.length
  · have e1 : decide ((4096 : Int) < (x.length : Int)) = true := decide_eq_true (by omega)
    go_wp2
    go_ret2
    exact ⟨rfl, rfl⟩
  · have e1 : decide ((4096 : Int) < (x.length : Int)) = false := decide_eq_false (by omega)
    have h2 : 4096 < y.length := by have := HL.out; omega
    have e2 : decide ((4096 : Int) < (y.length : Int)) = true := decide_eq_true (by omega)
    go_wp2
    go_ret2
    exact ⟨rfl, rfl⟩
end Go.Proofs.Ytmhanngimmjmoab

/- histogram.find and histogram.Diff, walked. -/
namespace Go.Proofs.Ytmhanngimmjmoab
open Go.RowKit

theorem Best_f (x y : List Int) (vx vy : Value) (w : World) (hx : HI w vx x) (hy : HI w vy y) (hxl : x.length ≤ 1048576) (hyl : y.length ≤ 1048576) (hwx : ∀ c ∈ x, w64 c) (hwy : ∀ c ∈ y, w64 c) (o : Option Hr) (ho : Hid (best x y = o)) :
    Calls Try.prog 10 #[vx, vy] w fun e w' => e = .returned (.tuple #[hrV (o.getD ⟨0, 0, 0, 0⟩), .bool o.isSome]) ∧ Below w.heap.size w w' := by
  rcases Nat.eq_zero_or_pos (rs x 0 y) with h | h
  · have e : o = none := by
      rw [← ho.out]
      cases hb : best x y with
      | none => rfl
      | some r => exact absurd (best_some hb).1 (rs_zero h r)
    subst e
    exact Best_none x y vx vy w hx hy hxl hyl hwx hwy h
  · have e : o = some (pickL btC ⟨0, 0, 0, 0⟩ (cands x y (rs x 0 y))) := by rw [← ho.out]; exact best_of (code_best (rs_rst rfl h))
    subst e
    exact Best_some x y vx vy w hx hy hxl hyl hwx hwy _ rfl h _ rfl

set_option maxRecDepth 10000 in
set_option maxHeartbeats 8000000 in
theorem hfind_f (x y : List Int) (W0 : World) (g : Nat) (hxl : x.length ≤ 4096) (hyl : y.length ≤ 4096) (hwx : ∀ c ∈ x, w64 c) (hwy : ∀ c ∈ y, w64 c) (f : Nat) : ∀ (w : World) (K : List Int) (_ : Ls W0 g x.length K w) (a b c d : Nat) (xo : Option Addr) (nx xc : Nat) (yo : Option Addr) (ny yc : Nat) (ko : Option Addr) (kc : Nat) (_ : Pz W0 g x y a b c d xo nx xc yo ny yc ko kc) (_ : b - a < f) (KF : List Int) (_ : Hid (wrk K (pcs (hmid x y) x y f a b c d) = KF)),
    Calls Try.prog 13 #[.agg #[.slice xo nx xc, .slice yo ny yc, .int .i64 (c : Int), .slice ko nx kc]] w fun e w' => e = .returned (.tuple #[]) ∧ Ls W0 g x.length KF w' ∧ w.grownBy w' (some g) := by
  induction f with
  | zero => intro w K hS a b c d xo nx xc yo ny yc ko kc hp hf; omega
  | succ f ih =>
    intro w K hS a b c d xo nx xc yo ny yc ko kc hp hf KF hKF
    have hg := hS.lt
    have HKF : Hid (∀ k m, k = tf x y a b c d → m = tb x y (a + k) b (c + k) d → wrk (wrk K (fp a c k ++ bp b d m)) (if a + k < b - m ∧ c + k < d - m then hmid x y (pcs (hmid x y) x y f) (a + k) (b - m) (c + k) (d - m) else []) = KF) := (by
      intro k m hk hm
      rw [← hKF.out, pcs, ends, ← hk, ← hm, wrk_append, wrk_append, wrk_append])
    have hQ0 := Qbx.new w (.slice xo nx xc) (.slice yo ny yc) (.int .i64 c) (.slice ko nx kc)
    have hB0 := (Below.refl w.heap.size w).alloc (Nat.le_refl _) (.cells #[.slice xo nx xc, .slice yo ny yc, .int .i64 c, .slice ko nx kc] 60)
    clear hKF
    go_enter Try.func13, Try.ntmps13
    go_wp2_with fail
    refine (KeepEnds_f x y W0 _ g K a b c d xo nx xc yo ny yc ko kc hp hxl hyl (hS.keep hB0)).mono ?_
    rintro e w1 ⟨k, m, xo1, nx1, xc1, yo1, ny1, yc1, ko1, kc1, hk, hm, rfl, hp1, hS1, hG1⟩
    have HK2 := HKF.out k m hk hm
    have hkl := tf_le x y a b c d
    have hml := tb_le x y (a + k) b (c + k) d
    rw [← hk] at hkl
    rw [← hm] at hml
    have hQ1 := hQ0.keep hG1 (by simp; omega)
    have hG1' : w.grownBy w1 (some g) := (low_grown hB0 _).trans hG1
    have hb0 := hp.eb
    have hf' := hp.bx
    clear hk hm HKF hS hB0 hQ0 hG1 hp
    obtain ⟨A, hA⟩ : ∃ A, a + k = A := ⟨_, rfl⟩
    obtain ⟨C, hC⟩ : ∃ C, c + k = C := ⟨_, rfl⟩
    obtain ⟨b1, hb1⟩ : ∃ B, b - m = B := ⟨_, rfl⟩
    obtain ⟨d1, hd1⟩ : ∃ D, d - m = D := ⟨_, rfl⟩
    obtain ⟨K1, hK1⟩ : ∃ K1, wrk K (fp a c k ++ bp b d m) = K1 := ⟨_, rfl⟩
    rw [hK1] at hS1 HK2
    rw [hA, hC, hb1, hd1] at HK2 hp1
    rw [hC]
    have HK3 : Hid (wrk K1 (if A < b1 ∧ C < d1 then hmid x y (pcs (hmid x y) x y f) A b1 C d1 else []) = KF) := HK2
    have hf1 : b1 - A ≤ f := by omega
    clear hA hC hb1 hd1 hK1 hkl hml hf HK2 hb0 hf'
    obtain ⟨c0, c1, c2, c3⟩ := hQ1.cells
    have f0 := hQ1.frozen
    have hQ2 := hQ1.put (.slice xo1 nx1 xc1) (.slice yo1 ny1 yc1) (.int .i64 (C : Int)) (.slice ko1 nx1 kc1)
    have hgw := hS1.low.size
    have hS2 := ls_other (ls_other (ls_other (ls_other hS1 (g := w.heap.size) (by omega) (by omega) 0 (.slice xo1 nx1 xc1)) (g := w.heap.size) (by omega) (by omega) 1 (.slice yo1 ny1 yc1)) (g := w.heap.size) (by omega) (by omega) 2 (.int .i64 (C : Int))) (g := w.heap.size) (by omega) (by omega) 3 (.slice ko1 nx1 kc1)
    have hG2 := grown_new (grown_new (grown_new (grown_new hG1' (B := w.heap.size) (by omega) 0 (.slice xo1 nx1 xc1)) (B := w.heap.size) (by omega) 1 (.slice yo1 ny1 yc1)) (B := w.heap.size) (by omega) 2 (.int .i64 (C : Int))) (B := w.heap.size) (by omega) 3 (.slice ko1 nx1 kc1)
    obtain ⟨W2, hW2⟩ : ∃ W2, (((w1.setCell ⟨w.heap.size, 0, none⟩ (.slice xo1 nx1 xc1)).setCell ⟨w.heap.size, 1, none⟩ (.slice yo1 ny1 yc1)).setCell ⟨w.heap.size, 2, none⟩ (.int .i64 (C : Int))).setCell ⟨w.heap.size, 3, none⟩ (.slice ko1 nx1 kc1) = W2 := ⟨_, rfl⟩
    rw [hW2] at hQ2 hS2 hG2
    unfold pzV
    have hAb := hp1.eb
    have hCd := hp1.ed
    obtain ⟨r, hr⟩ : ∃ r, r = decide (nx1 = 0 ∨ ny1 = 0) := ⟨_, rfl⟩
    have HR : Hid (r = decide (nx1 = 0 ∨ ny1 = 0)) := hr
    obtain ⟨q0, q1, q2, q3⟩ := hQ2.cells
    clear hr
    go_wp2_with fail
    refine (Empty_f xo1 nx1 xc1 yo1 ny1 yc1 C ko1 kc1 W2 r HR).mono ?_
    rintro e w3 ⟨rfl, hB3⟩
    clear q0 q1 q2 q3 c0 c1 c2 c3 f0 hW2 hQ1 hS1 hG1'
    have hQ3 := hQ2.low hB3
    have hS3 := hS2.keep hB3
    have hG3 := hG2.trans (low_grown hB3 (some g))
    clear hQ2 hS2 hG2 hB3
    cases r with
    | true =>
      have e : K1 = KF := by
        have h1 := of_decide_eq_true HR.out.symm
        have := HK3.out
        rw [if_neg (by omega)] at this
        exact this
      subst e
      go_wp2
      (try simp only [Exit.inBlock, Exit.then])
      refine bodyPost_ret (results_none rfl _ _ _) rfl ?_
      exact ⟨rfl, hS3, hG3⟩
    | false =>
      have h1 := of_decide_eq_false HR.out.symm
      have hm0 : A < b1 ∧ C < d1 := by omega
      have HK2 : Hid (wrk K1 (hmid x y (pcs (hmid x y) x y f) A b1 C d1) = KF) := (by
        show _ = _
        have := HK3.out
        rw [if_pos hm0] at this
        exact this)
      clear HK3 HR
      have hbx := hp1.bx
      have hdy := hp1.dy
      obtain ⟨X, hX⟩ : ∃ X, sub x A b1 = X := ⟨_, rfl⟩
      obtain ⟨Y, hY⟩ : ∃ Y, sub y C d1 = Y := ⟨_, rfl⟩
      have hXl : X.length = nx1 := by rw [← hX, sub_length x A b1 hbx]; omega
      have hYl : Y.length = ny1 := by rw [← hY, sub_length y C d1 hdy]; omega
      have hx3 : HI w3 (.slice xo1 nx1 xc1) X := by
        unfold HI
        rw [hXl, ← hX]
        exact Holds.keep hp1.hx (fun q hq => hS3.low.block q hq)
      have hy3 : HI w3 (.slice yo1 ny1 yc1) Y := by
        unfold HI
        rw [hYl, ← hY]
        exact Holds.keep hp1.hy (fun q hq => hS3.low.block q hq)
      have HW : Hid ((∀ c ∈ X, w64 c) ∧ (∀ c ∈ Y, w64 c)) := (by
        refine ⟨fun c hc => hwx c ?_, fun c hc => hwy c ?_⟩
        · rw [← hX] at hc
          exact List.mem_of_mem_drop (List.mem_of_mem_take hc)
        · rw [← hY] at hc
          exact List.mem_of_mem_drop (List.mem_of_mem_take hc))
      have HX : Hid (X.length ≤ 1048576 ∧ Y.length ≤ 1048576) := (by refine ⟨?_, ?_⟩ <;> omega)
      obtain ⟨o, ho⟩ : ∃ o, best X Y = o := ⟨_, rfl⟩
      have HO : Hid (best X Y = o) := ho
      have HK4 : Hid (wrk K1 (hsel x y (pcs (hmid x y) x y f) A b1 C d1 o) = KF) := (by
        show _ = _
        have := HK2.out
        rw [hmid, hX, hY, ho] at this
        exact this)
      have HIn : Hid (∀ r, o = some r → 0 < r.N ∧ A + r.X + r.N ≤ b1 ∧ C + r.Y + r.N ≤ d1 ∧ r.R ≤ 4096) := (by
        intro r hr
        have hrun := (best_some (ho.trans hr)).1
        have h2 := run_in (x := x) (y := y) (a := A) (b := b1) (c := C) (d := d1) hbx hdy (by rw [hX, hY]; exact hrun)
        have h3 : r.R ≤ X.length := by
          rw [hrun.r]
          have : ∀ n, rar X r.X n ≤ X.length := by
            intro n
            induction n with
            | zero => exact Nat.le_refl _
            | succ n ih => rw [rar]; omega
          exact this _
        exact ⟨h2.1, h2.2.1, h2.2.2.1, by omega⟩)
      clear hX hY hXl hYl HK2 ho
      obtain ⟨q0, q1, q2, q3⟩ := hQ3.cells
      go_wp2_with fail
      refine (Best_f X Y _ _ w3 hx3 hy3 HX.out.1 HX.out.2 HW.out.1 HW.out.2 o HO).mono ?_
      rintro e w4 ⟨rfl, hB4⟩
      have hQ4 := hQ3.low hB4
      have hS4 := hS3.keep hB4
      have hG4 := hG3.trans (low_grown hB4 (some g))
      clear q0 q1 q2 q3 hx3 hy3 HW HX HO hQ3 hS3 hG3 hB4
      have hs4 := hS4.low.size
      have hl4 := hS4.lt
      have hg4 := hG4.size
      have hq4 := hQ4.lt
      cases o with
      | none =>
        have e : K1 = KF := HK4.out
        subst e
        have hLn : Below w4.heap.size w4 (w4.alloc (.cells #[.int .i64 ((0 : Nat) : Int), .int .i64 ((0 : Nat) : Int), .int .i64 ((0 : Nat) : Int), .int .i64 ((0 : Nat) : Int)] 34)) := (Below.refl _ w4).alloc (Nat.le_refl _) _
        have hS5 := hS4.keep hLn
        have hG5 := hG4.trans (low_grown hLn (some g))
        simp only [Option.getD_none, Option.isSome_none, hrV]
        go_wp2
        (try simp only [Exit.inBlock, Exit.then])
        refine bodyPost_ret (results_none rfl _ _ _) rfl ?_
        exact ⟨rfl, hS5, hG5⟩
      | some r =>
        obtain ⟨hr1, hr2, hr3, hr4⟩ := HIn.out r rfl
        obtain ⟨rX, rY, rN, rR⟩ := r
        simp only at hr1 hr2 hr3 hr4
        have HK4 : Hid (wrk K1 (if 64 < rR then lp A C (kp 0 (sub x A b1) (sub y C d1)) else fp (A + rX) (C + rY) rN ++ (pcs (hmid x y) x y f A (A + rX) C (C + rY) ++ pcs (hmid x y) x y f (A + rX + rN) b1 (C + rY + rN) d1)) = KF) := HK4
        simp only [Option.getD_some, Option.isSome_some, hrV]
        have hHb := Hbx.new w4 ⟨rX, rY, rN, rR⟩
        have hLn : Below w4.heap.size w4 (w4.alloc (.cells #[.int .i64 (rX : Int), .int .i64 (rY : Int), .int .i64 (rN : Int), .int .i64 (rR : Int)] 34)) := (Below.refl _ w4).alloc (Nat.le_refl _) _
        have hQ5 := hQ4.low hLn
        have hS5 := hS4.keep hLn
        have hG5 := hG4.trans (low_grown hLn (some g))
        obtain ⟨W5, hW5⟩ : ∃ W5, w4.alloc (.cells #[.int .i64 (rX : Int), .int .i64 (rY : Int), .int .i64 (rN : Int), .int .i64 (rR : Int)] 34) = W5 := ⟨_, rfl⟩
        have hgB : g ≠ w4.heap.size := by omega
        obtain ⟨B5, hB5⟩ : ∃ B, w4.heap.size = B := ⟨_, rfl⟩
        rw [hW5] at hHb hQ5 hS5 hG5
        rw [hB5] at hHb hgB
        clear hQ4 hS4 hG4 hLn HIn
        obtain ⟨q0, q1, q2, q3⟩ := hQ5.cells
        obtain ⟨t0, t1, t2, t3⟩ := hHb.cells
        by_cases h64 : 64 < rR
        · have e64 : decide ((64 : Int) < (rR : Int)) = true := decide_eq_true (by omega)
          have HK5 : Hid (wrk K1 (lp A C (kp 0 (sub x A b1) (sub y C d1))) = KF) := (by
            show _ = _
            have := HK4.out
            rw [if_pos h64] at this
            exact this)
          clear HK4
          go_wp2_with fail
          clear hW5 hB5
          refine (KeepMost_f x y W0 W5 g K1 A b1 C d1 xo1 nx1 xc1 yo1 ny1 yc1 ko1 kc1 hp1 hxl hyl hS5 KF HK5).mono ?_
          rintro e w6 ⟨rfl, hS6, hG6⟩
          have hG7 := hG5.trans hG6
          go_wp2
          (try simp only [Exit.inBlock, Exit.then])
          refine bodyPost_ret (results_none rfl _ _ _) rfl ?_
          exact ⟨rfl, hS6, hG7⟩
        · have e64 : decide ((64 : Int) < (rR : Int)) = false := decide_eq_false (by omega)
          have e64' : decide (64 < rR) = false := decide_eq_false h64
          obtain ⟨K6, hK6⟩ : ∃ K6, wrk K1 (fp (A + rX) (C + rY) rN) = K6 := ⟨_, rfl⟩
          obtain ⟨u2, hu⟩ : ∃ u, A + rX = u := ⟨_, rfl⟩
          obtain ⟨v2, hv⟩ : ∃ v, C + rY = v := ⟨_, rfl⟩
          obtain ⟨K7, hK7⟩ : ∃ K7, wrk K6 (pcs (hmid x y) x y f A u2 C v2) = K7 := ⟨_, rfl⟩
          have HK7 : Hid (wrk K6 (pcs (hmid x y) x y f A u2 C v2) = K7) := hK7
          obtain ⟨p2, hp2⟩ : ∃ p, rX + rN = p := ⟨_, rfl⟩
          obtain ⟨p3, hp3⟩ : ∃ p, rY + rN = p := ⟨_, rfl⟩
          obtain ⟨u3, hu3⟩ : ∃ u, A + p2 = u := ⟨_, rfl⟩
          obtain ⟨v3, hv3⟩ : ∃ v, C + p3 = v := ⟨_, rfl⟩
          have HK8 : Hid (wrk K7 (pcs (hmid x y) x y f u3 b1 v3 d1) = KF) := (by
            show _ = _
            have := HK4.out
            rw [if_neg h64, wrk_append, wrk_append, hK6, hu, hv, hK7, show u2 + rN = u3 by omega, show v2 + rN = v3 by omega] at this
            exact this)
          clear HK4 hK7
          go_wp2_with fail
          clear hW5 hB5
          refine (Keep_f K1 xo1 nx1 xc1 yo1 ny1 yc1 A C ko1 kc1 W5 rX rY rN hS5 hp1.at' (by omega) (by omega) (by omega) (by omega)).mono ?_
          rintro e w6 ⟨rfl, hS6, hG6⟩
          rw [hK6] at hS6
          have hQ6 := hQ5.keep hG6 (by simp; omega)
          have hH6 := hHb.keep hG6 (by simp; omega)
          have hG6' := hG5.trans hG6
          clear hK6 hQ5 hHb hS5 hG5 hG6 q0 q1 q2 q3 t0 t1 t2 t3
          obtain ⟨q0, q1, q2, q3⟩ := hQ6.cells
          obtain ⟨t0, t1, t2, t3⟩ := hH6.cells
          go_wp2_with fail
          refine (UpTo_p hp1 rX rY u2 v2 (by omega) (by omega) hu hv w6 w6 (Below.refl _ _)).mono ?_
          rintro e w7 ⟨xo2, nx2, xc2, yo2, ny2, yc2, ko2, kc2, rfl, hpa, hL7⟩
          have hS7 := hS6.keep hL7
          have hQ7 := hQ6.low hL7
          have hH7 := hH6.low hL7
          have hG7 := hG6'.trans (low_grown hL7 (some g))
          clear hQ6 hH6 hS6 hG6' hL7 q0 q1 q2 q3 t0 t1 t2 t3
          go_wp2_with fail
          refine (ih w7 K6 hS7 A u2 C v2 xo2 nx2 xc2 yo2 ny2 yc2 ko2 kc2 hpa (by omega) K7 HK7).mono ?_
          rintro e w8 ⟨rfl, hS8, hG8⟩
          have hQ8 := hQ7.keep hG8 (by simp; omega)
          have hH8 := hH7.keep hG8 (by simp; omega)
          have hG8' := hG7.trans hG8
          clear hQ7 hH7 hS7 hG7 hG8 hpa
          obtain ⟨q0, q1, q2, q3⟩ := hQ8.cells
          obtain ⟨t0, t1, t2, t3⟩ := hH8.cells
          have n1 : (rX : Int) + (rN : Int) = (p2 : Int) := by omega
          have n2 : (rY : Int) + (rN : Int) = (p3 : Int) := by omega
          go_wp2_with fail
          refine (From_p hp1 hyl p2 p3 u3 v3 (by omega) (by omega) hu3 hv3 w8 w8 (Below.refl _ _)).mono ?_
          rintro e w9 ⟨xo3, nx3, xc3, yo3, ny3, yc3, ko3, kc3, rfl, hpb, hL9⟩
          have hS9 := hS8.keep hL9
          have hG9 := hG8'.trans (low_grown hL9 (some g))
          clear hQ8 hH8 hS8 hG8' hL9 q0 q1 q2 q3 t0 t1 t2 t3
          go_wp2_with fail
          refine (ih w9 K7 hS9 u3 b1 v3 d1 xo3 nx3 xc3 yo3 ny3 yc3 ko3 kc3 hpb (by omega) KF HK8).mono ?_
          rintro e w10 ⟨rfl, hS10, hG10⟩
          have hG11 := hG9.trans hG10
          go_wp2
          go_end0
          exact ⟨rfl, hS10, hG11⟩

set_option maxRecDepth 10000 in
set_option maxHeartbeats 2000000 in
theorem hiDiff_f (x y : List Int) (vx vy : Value) (w : World) (hx : HI w vx x) (hy : HI w vy y) (hxl : x.length ≤ 4096) (hyl : y.length ≤ 4096) (hwx : ∀ c ∈ x, w64 c) (hwy : ∀ c ∈ y, w64 c) (L : List Ch) (hL : Hid (mkL (hKeep x y) y.length = L)) :
    Calls Try.prog 6 #[vx, vy] w fun e w' => ∃ v', e = .returned (.tuple #[v', .int .i64 0]) ∧ HCh w' v' L ∧ Below w.heap.size w w' := by
  obtain ⟨xo, xc, rfl⟩ := Holds.form hx
  obtain ⟨yo, yc, rfl⟩ := Holds.form hy
  obtain ⟨KF, hKF⟩ : ∃ KF, hKeep x y = KF := ⟨_, rfl⟩
  have HK : Hid (Kpt x y KF) := (by rw [← hKF]; exact hKeep_kpt x y)
  have HF : Hid (wrk (List.replicate x.length (-1)) (pcs (hmid x y) x y (x.length + 1) 0 x.length 0 y.length) = KF) := hKF
  rw [hKF] at hL
  have HWX : Hid (∀ c ∈ x, w64 c) := hwx
  have HWY : Hid (∀ c ∈ y, w64 c) := hwy
  clear hKF hwx hwy
  go_enter Try.func6, Try.ntmps6
  go_wp2_with fail
  refine (pDiff_f x y _ _ w hx hy hxl hyl 13 #[] (enters_of Try.func13 (by kernel_rfl) rfl) KF HK (fun u g xo xc yo yc hS hp => hfind_f x y _ g hxl hyl HWX.out HWY.out (x.length + 1) u _ hS 0 x.length 0 y.length _ _ _ _ _ _ _ _ hp (by omega) KF HF) L hL).mono ?_
  rintro e w2 ⟨v2, rfl, hv2, hB2⟩
  go_wp2
  go_ret2
  exact ⟨_, rfl, hv2, hB2⟩
set_option maxHeartbeats 2000000 in
theorem hiDiff_long (x y : List Int) (vx vy : Value) (w : World) (hx : HI w vx x) (hy : HI w vy y) (hl : 4096 < x.length ∨ 4096 < y.length) :
    Calls Try.prog 6 #[vx, vy] w fun e w' => e = .returned (.tuple #[.slice none 0 0, .int .i64 9]) ∧ Below w.heap.size w w' := by
  obtain ⟨xo, xc, rfl⟩ := Holds.form hx
  obtain ⟨yo, yc, rfl⟩ := Holds.form hy
  have HL : Hid (4096 < x.length ∨ 4096 < y.length) := hl
  clear hl
  go_enter Try.func6, Try.ntmps6
  go_wp2_with fail
  refine (pDiff_long x y _ _ _ w hx hy HL.out).mono ?_
  rintro e w2 ⟨rfl, rfl⟩
  go_wp2
  go_ret2
  exact ⟨rfl, Below.refl _ _⟩
end Go.Proofs.Ytmhanngimmjmoab

/- The worked example of the layer histogram: plain. -/
namespace Go.Proofs.Ytmhanngimmjmoab

theorem ex_best : best [1, 2, 1, 3] [1, 3, 1, 2] = some ⟨0, 2, 2, 1⟩ := by
  have a : tl [1, 2, 1, 3] [1, 3, 1, 2] 0 0 = 1 := by rw [tl_step, tl_step]; simp
  have b : tl [1, 2, 1, 3] [1, 3, 1, 2] 0 2 = 2 := by rw [tl_step, tl_step, tl_step]; simp
  have c : tl [1, 2, 1, 3] [1, 3, 1, 2] 2 0 = 2 := by rw [tl_step, tl_step, tl_step]; simp
  have d : tl [1, 2, 1, 3] [1, 3, 1, 2] 2 2 = 1 := by rw [tl_step, tl_step]; simp
  have e : runs [1, 2, 1, 3] [1, 3, 1, 2] = [⟨0, 0, 1, 2⟩, ⟨0, 2, 2, 1⟩, ⟨2, 0, 2, 1⟩, ⟨2, 2, 1, 2⟩] := by
    simp [runs, rowR, rj, List.range', a, b, c, d, rar, cnt]
  unfold best
  rw [e]
  rfl
theorem ex_best2 : best [2, 1, 3] [3, 1, 2] = some ⟨0, 2, 1, 1⟩ := by
  have a : tl [2, 1, 3] [3, 1, 2] 0 2 = 1 := by rw [tl_step, tl_step]; simp
  have b : tl [2, 1, 3] [3, 1, 2] 1 1 = 1 := by rw [tl_step, tl_step]; simp
  have c : tl [2, 1, 3] [3, 1, 2] 2 0 = 1 := by rw [tl_step, tl_step]; simp
  have e : runs [2, 1, 3] [3, 1, 2] = [⟨0, 2, 1, 1⟩, ⟨1, 1, 1, 1⟩, ⟨2, 0, 1, 1⟩] := by
    simp [runs, rowR, rj, List.range', a, b, c, rar, cnt]
  unfold best
  rw [e]
  rfl
theorem ex_hi : pcs (hmid [1, 2, 1, 3] [1, 3, 1, 2]) [1, 2, 1, 3] [1, 3, 1, 2] 5 0 4 0 4 = [⟨0, 0⟩, ⟨1, 3⟩] := by
  have t1 : tf [1, 2, 1, 3] [1, 3, 1, 2] 0 4 0 4 = 1 := by rw [tf, tf]; simp
  have t2 : tb [1, 2, 1, 3] [1, 3, 1, 2] 1 4 1 4 = 0 := by rw [tb]; simp
  have t3 : tf [1, 2, 1, 3] [1, 3, 1, 2] 1 1 1 3 = 0 := by rw [tf]; simp
  have t4 : tb [1, 2, 1, 3] [1, 3, 1, 2] 1 1 1 3 = 0 := by rw [tb]; simp
  have t5 : tf [1, 2, 1, 3] [1, 3, 1, 2] 2 4 4 4 = 0 := by rw [tf]; simp
  have t6 : tb [1, 2, 1, 3] [1, 3, 1, 2] 2 4 4 4 = 0 := by rw [tb]; simp
  have u1 : best (sub [1, 2, 1, 3] 1 4) (sub [1, 3, 1, 2] 1 4) = some ⟨0, 2, 1, 1⟩ := ex_best2
  have p2 : pcs (hmid [1, 2, 1, 3] [1, 3, 1, 2]) [1, 2, 1, 3] [1, 3, 1, 2] 4 1 1 1 3 = [] := by
    rw [pcs, ends, t3, t4]
    simp [fp, bp]
  have p3 : pcs (hmid [1, 2, 1, 3] [1, 3, 1, 2]) [1, 2, 1, 3] [1, 3, 1, 2] 4 2 4 4 4 = [] := by
    rw [pcs, ends, t5, t6]
    simp [fp, bp]
  rw [pcs, ends, t1, t2]
  simp [fp, bp, hmid, u1, hsel, p2, p3]
theorem ex_hkeep : hKeep [1, 2, 1, 3] [1, 3, 1, 2] = [0, 3, -1, -1] := by
  unfold hKeep
  show wrk _ (pcs (hmid [1, 2, 1, 3] [1, 3, 1, 2]) [1, 2, 1, 3] [1, 3, 1, 2] 5 0 4 0 4) = _
  rw [ex_hi]
  rfl
theorem ex_hmk : mkL (hKeep [1, 2, 1, 3] [1, 3, 1, 2]) (([1, 3, 1, 2] : List Int).length : Int) = [⟨1, 0, 1, 2⟩, ⟨2, 2, 4, 0⟩] := by rw [ex_hkeep]; decide
end Go.Proofs.Ytmhanngimmjmoab

/- The law's own test works, of the layer histogram, walked. -/
namespace Go.Proofs.Ytmhanngimmjmoab
open Go.RowKit

theorem w64h (l : List Int) (h : l.all (fun z => decide (-1000 ≤ z ∧ z ≤ 1000)) = true) : ∀ c ∈ l, w64 c := by
  intro c hc
  have := of_decide_eq_true (List.all_eq_true.1 h c hc)
  exact ⟨by omega, by omega⟩
set_option maxRecDepth 10000 in
set_option maxHeartbeats 2000000 in
theorem hiWorks_any (w : World) : Calls Try.prog 5 #[] w fun e w' => e = .returned (.bool true) ∧ Below w.heap.size w w' := by
  go_enter Try.func5, Try.ntmps5
  obtain ⟨hX, hY, hB0⟩ := two_rows w #[.int .i64 1, .int .i64 2, .int .i64 1, .int .i64 3] #[.int .i64 1, .int .i64 3, .int .i64 1, .int .i64 2] 4 4 (w.heap.size + 1) rfl [1, 2, 1, 3] [1, 3, 1, 2] rfl rfl rfl rfl
  go_wp2_with fail
  refine (hiDiff_f [1, 2, 1, 3] [1, 3, 1, 2] _ _ _ hX hY (by decide) (by decide) (w64h _ (by decide)) (w64h _ (by decide)) _ ex_hmk).mono ?_
  rintro e w1 ⟨v1, rfl, hv1, hB1⟩
  obtain ⟨o1, c1, rfl⟩ := Holds.form hv1
  have hB01 := hB0.trans (hB1.mono hB0.size)
  clear hX hY hB0 hB1
  obtain ⟨hX, hY, hB2⟩ := two_rows w1 #[.int .i64 1, .int .i64 2, .int .i64 1, .int .i64 3] #[.int .i64 1, .int .i64 3, .int .i64 1, .int .i64 2] 4 4 (w1.heap.size + 1) rfl [1, 2, 1, 3] [1, 3, 1, 2] rfl rfl rfl rfl
  go_wp2_with fail
  refine (Best_f [1, 2, 1, 3] [1, 3, 1, 2] _ _ _ hX hY (by decide) (by decide) (w64h _ (by decide)) (w64h _ (by decide)) _ ex_best).mono ?_
  rintro e w3 ⟨rfl, hB3⟩
  have hB13 := hB2.trans (hB3.mono hB2.size)
  have hB03 := hB01.trans (hB13.mono hB01.size)
  have hv3 := HCh.keep hv1 hB13 (Nat.le_refl _)
  clear hX hY hB2 hB3 hB13 hB01 hv1
  unfold hrV
  have hH3 : Hbx (w3.alloc (.cells #[.int .i64 0, .int .i64 2, .int .i64 2, .int .i64 1] 34)) w3.heap.size ⟨0, 2, 2, 1⟩ := Hbx.new w3 ⟨0, 2, 2, 1⟩
  have hBa := hB03.alloc hB03.size (.cells #[.int .i64 0, .int .i64 2, .int .i64 2, .int .i64 1] 34)
  have hv4 := HCh.keep hv3 ((Below.refl _ w3).alloc (Nat.le_refl _) (.cells #[.int .i64 0, .int .i64 2, .int .i64 2, .int .i64 1] 34)) (Nat.le_refl _)
  have hv5 := HCh.keep hv4 ((Below.refl _ (w3.alloc (.cells #[.int .i64 0, .int .i64 2, .int .i64 2, .int .i64 1] 34))).alloc (Nat.le_refl _) (.cells #[.int .i64 1, .int .i64 0, .int .i64 1, .int .i64 2, .int .i64 2, .int .i64 2, .int .i64 4, .int .i64 0] 39)) (Nat.le_refl _)
  have hH4 := hH3.low ((Below.refl _ (w3.alloc (.cells #[.int .i64 0, .int .i64 2, .int .i64 2, .int .i64 1] 34))).alloc (Nat.le_refl _) (.cells #[.int .i64 1, .int .i64 0, .int .i64 1, .int .i64 2, .int .i64 2, .int .i64 2, .int .i64 4, .int .i64 0] 39))
  have hBb := hBa.alloc hBa.size (.cells #[.int .i64 1, .int .i64 0, .int .i64 1, .int .i64 2, .int .i64 2, .int .i64 2, .int .i64 4, .int .i64 0] 39)
  have hnew : HCh ((w3.alloc (.cells #[.int .i64 0, .int .i64 2, .int .i64 2, .int .i64 1] 34)).alloc (.cells #[.int .i64 1, .int .i64 0, .int .i64 1, .int .i64 2, .int .i64 2, .int .i64 2, .int .i64 4, .int .i64 0] 39)) (.slice (some ⟨w3.heap.size + 1, 0, none⟩) 2 2) [⟨1, 0, 1, 2⟩, ⟨2, 2, 4, 0⟩] := by
    have h := new_holds (w3.alloc (.cells #[.int .i64 0, .int .i64 2, .int .i64 2, .int .i64 1] 34)) #[.int .i64 1, .int .i64 0, .int .i64 1, .int .i64 2, .int .i64 2, .int .i64 2, .int .i64 4, .int .i64 0] 39 2 2 (by decide)
    rw [show (w3.alloc (.cells #[.int .i64 0, .int .i64 2, .int .i64 2, .int .i64 1] 34)).heap.size = w3.heap.size + 1 by simp] at h
    exact h
  clear hv3 hH3 hBa hv4 hB03
  go_wp2_with fail
  refine (SameC_any _ _ [⟨1, 0, 1, 2⟩, ⟨2, 2, 4, 0⟩] _ (by decide) hv5 hnew).mono ?_
  rintro e w5 ⟨rfl, hB5⟩
  have hH5 := hH4.low hB5
  have hB05 := hBb.trans (hB5.mono hBb.size)
  clear hv5 hnew hH4 hBb hB5
  obtain ⟨c0, c1, c2, c3⟩ := hH5.cells
  simp only [Int.cast_ofNat_Int] at c0 c1 c2 c3
  go_wp2
  go_ret
  exact ⟨ret_bool (by simp), hB05⟩
end Go.Proofs.Ytmhanngimmjmoab

/- What the law HistogramRun counts: plain. -/
namespace Go.Proofs.Ytmhanngimmjmoab

/-- does the second row have the class that stands at i of the first -/
def thr (x y : List Int) (i : Nat) : Bool := y.any fun c => decide (x[i]? = some c)
/-- how often the rarest such class stands, of the first members -/
def lst (x y : List Int) : Nat → Nat
  | 0 => x.length + 1
  | i + 1 => if thr x y i = true then min (lst x y i) (cnt x i) else lst x y i
theorem thr_at {x y : List Int} {i : Nat} (h : thr x y i = true) : ∃ j, i < x.length ∧ j < y.length ∧ x[i]? = y[j]? := by
  obtain ⟨c, hc, h2⟩ := List.any_eq_true.1 h
  have h3 := of_decide_eq_true h2
  obtain ⟨j, hj, ej⟩ := List.getElem_of_mem hc
  refine ⟨j, (List.getElem?_eq_some_iff.1 h3).1, hj, ?_⟩
  rw [h3, List.getElem?_eq_getElem hj, ej]
theorem thr_of {x y : List Int} {i j : Nat} (hj : j < y.length) (h : x[i]? = y[j]?) : thr x y i = true := by
  refine List.any_eq_true.2 ⟨y[j], List.getElem_mem hj, decide_eq_true ?_⟩
  rw [h, List.getElem?_eq_getElem hj]
theorem lst_le (x y : List Int) (k : Nat) : ∀ i, i < k → thr x y i = true → lst x y k ≤ cnt x i := by
  induction k with
  | zero => intro i hi; omega
  | succ k ih =>
    intro i hi h
    rw [lst]
    by_cases e : i = k
    · subst e
      rw [if_pos h]
      exact Nat.min_le_right _ _
    · have := ih i (by omega) h
      split
      · exact Nat.le_trans (Nat.min_le_left _ _) this
      · exact this
theorem lst_at (x y : List Int) (k : Nat) : lst x y k = x.length + 1 ∨ ∃ i, i < k ∧ thr x y i = true ∧ lst x y k = cnt x i := by
  induction k with
  | zero => exact .inl rfl
  | succ k ih =>
    rw [lst]
    split
    · rename_i h
      rcases Nat.le_total (lst x y k) (cnt x k) with h2 | h2
      · rw [Nat.min_eq_left h2]
        rcases ih with h3 | ⟨i, h3, h4, h5⟩
        · exact .inl h3
        · exact .inr ⟨i, by omega, h4, h5⟩
      · rw [Nat.min_eq_right h2]
        exact .inr ⟨k, by omega, h, rfl⟩
    · rcases ih with h3 | ⟨i, h3, h4, h5⟩
      · exact .inl h3
      · exact .inr ⟨i, by omega, h4, h5⟩
theorem lst_rst {x y : List Int} {R : Nat} (h : Rst x y R) : lst x y x.length = R := by
  obtain ⟨i, j, hi, hj, he, hc⟩ := h.ex
  have h1 := lst_le x y x.length i hi (thr_of hj he)
  have h2 := cnt_le x i
  rcases lst_at x y x.length with h3 | ⟨i2, h3, h4, h5⟩
  · omega
  · obtain ⟨j2, _, hj2, he2⟩ := thr_at h4
    have := h.le i2 j2 h3 hj2 he2
    omega
theorem lst_none {x y : List Int} (h : best x y = none) : lst x y x.length = x.length + 1 := by
  rcases Nat.eq_zero_or_pos (rs x 0 y) with h0 | h0
  · rcases lst_at x y x.length with h3 | ⟨i, h3, h4, h5⟩
    · exact h3
    · obtain ⟨j, hi, hj, he⟩ := thr_at h4
      have h2 := (rs_spec x y 0).2.1 (y[j]'hj) (List.getElem_mem hj) (by
        rw [List.getElem?_eq_getElem hi, List.getElem?_eq_getElem hj] at he
        rw [← Option.some.inj he]
        exact List.count_pos_iff.2 (List.getElem_mem hi))
      omega
  · rw [best_of (code_best (rs_rst rfl h0))] at h
    cases h
theorem lst_some {x y : List Int} {r : Hr} (h : best x y = some r) : lst x y x.length = r.R := by
  have hb := best_some h
  rcases Nat.eq_zero_or_pos (rs x 0 y) with h0 | h0
  · exact absurd hb.1 (rs_zero h0 r)
  · have hr := rs_rst rfl h0
    rw [lst_rst hr]
    obtain ⟨i, j, hi, hj, he, hc⟩ := hr.ex
    have h1 := run_ge hr hb.1
    have h2 := runAt_run hr hi hj he hc
    rcases hb.2 _ h2 with h3 | h3
    · rw [← h3]; rfl
    · unfold hlt at h3
      have h4 : (runAt x y i j (rs x 0 y)).R = rs x 0 y := rfl
      omega
/-- what is told of the run -/
structure Told (x y : List Int) (r : Hr) : Prop where
  pos : 1 ≤ r.N
  xl : r.X + r.N ≤ x.length
  yl : r.Y + r.N ≤ y.length
  eq : sub x r.X (r.X + r.N) = sub y r.Y (r.Y + r.N)
  fst : ¬ (0 < r.X ∧ 0 < r.Y ∧ x[r.X - 1]? = y[r.Y - 1]?)
  lst : ¬ (r.X + r.N < x.length ∧ r.Y + r.N < y.length ∧ x[r.X + r.N]? = y[r.Y + r.N]?)
theorem told {x y : List Int} {r : Hr} (h : best x y = some r) : Told x y r := by
  have hb := (best_some h).1
  have h1 := tl_le x y r.X r.Y
  have h2 := hb.n
  have h3 := hb.hx
  have h4 := hb.hy
  have hx : r.X + r.N ≤ x.length := by omega
  have hy : r.Y + r.N ≤ y.length := by omega
  refine ⟨hb.pos, hx, hy, ?_, hb.fst, ?_⟩
  · apply List.ext_getElem?
    intro i
    by_cases hi : i < r.N
    · have := tl_same x y r.X r.Y i (by omega)
      simpa [sub, List.getElem?_take, List.getElem?_drop, hi] using this
    · rw [List.getElem?_eq_none (by rw [sub_length x _ _ hx]; omega), List.getElem?_eq_none (by rw [sub_length y _ _ hy]; omega)]
  · rw [h2]
    exact tl_end x y r.X r.Y
end Go.Proofs.Ytmhanngimmjmoab

/- Which rows are the same, told by the script; SameInts of any two rows, walked. -/
namespace Go.Proofs.Ytmhanngimmjmoab
open Go.RowKit

theorem kp_self (b : Int) (x : List Int) : kp b x x = (List.range x.length).map fun (j : Nat) => b + (j : Int) := by
  induction x generalizing b with
  | nil => rw [kp_nil]; rfl
  | cons a x ih =>
    rw [kp_cons, if_pos rfl, ih, List.length_cons, List.range_succ_eq_map, List.map_cons, List.map_map]
    simp
    intro j _
    omega
theorem mk_nil (x y : List Int) (hx : x.length ≤ 4096) (hy : y.length ≤ 4096) : mkL (kp 0 x y) y.length = [] ↔ x = y := by
  constructor
  · intro h
    have hv : Vk 0 (y.length : Int) (kp 0 x y) := by
      have := kp_vk 0 x y (Int.le_refl _)
      rwa [Int.zero_add] at this
    have hl := kp_length 0 x y
    obtain ⟨⟨_, _, hS⟩, hU⟩ := mk_script hv (by omega) (by omega) (by rw [hl]; omega)
    rw [h] at hS hU
    rw [U_nil] at hU
    have hnm : x.length = y.length := by
      have h1 := hS.2.2
      rw [hl] at h1
      omega
    apply List.ext_getElem hnm
    intro i h1 h2
    have hm : (⟨(i : Int), (i : Int), 1⟩ : Rn) ∈ keptR 0 (kp 0 x y) := by
      rw [← hU, mem_un]
      rw [hl]
      refine ⟨rfl, ?_, ?_, ?_⟩ <;> dsimp only <;> omega
    rw [mem_keptR] at hm
    obtain ⟨_, _, h3, _⟩ := hm
    dsimp only at h3
    rw [show ((i : Int) - 0).toNat = i by omega] at h3
    obtain ⟨_, c, h4, h5⟩ := kp_same 0 x y (Int.le_refl _) i i h3 (by omega)
    rw [show ((i : Int) - 0).toNat = i by omega] at h5
    rw [List.getElem?_eq_getElem h1] at h4
    rw [List.getElem?_eq_getElem h2] at h5
    rw [Option.some.inj h4, Option.some.inj h5]
  · rintro rfl
    unfold mkL
    rw [kp_self, keptR_run 0 0 (Int.le_refl _), betw_un]
    simp [betw]
theorem gr_step (x y : List Int) (j i : Nat) (hj : j < x.length) (hi : i < y.length) : gr (x.drop j) (y.drop i) = if x[j] = y[i] then gr (x.drop (j + 1)) (y.drop (i + 1)) + 1 else gr (x.drop j) (y.drop (i + 1)) := by
  rw [List.drop_eq_getElem_cons hj, List.drop_eq_getElem_cons hi, gr]
theorem gr_end (x y : List Int) (j i : Nat) (h : x.length ≤ j ∨ y.length ≤ i) : gr (x.drop j) (y.drop i) = 0 := by
  rcases h with h | h
  · rw [List.drop_of_length_le h]; cases y.drop i <;> rfl
  · rw [List.drop_of_length_le h]; cases x.drop j <;> rfl

set_option maxHeartbeats 1000000 in
theorem SameI_dec (va vb : Value) (a b : List Int) (w : World) (ha : HI w va a) (hb : HI w vb b) (ha' : a.length ≤ 1048576) (r : Bool) (hr : Hid (r = decide (a = b))) :
    Calls Try.prog 9 #[va, vb] w fun e w' => e = .returned (.bool r) ∧ Below w.heap.size w w' := by
  obtain ⟨ao, ca, rfl⟩ := Holds.form ha
  obtain ⟨bo, cb, rfl⟩ := Holds.form hb
  by_cases hl : a.length = b.length
  · have HB : Hid (HI w (.slice bo b.length cb) b) := hb
    rw [← hl] at hb
    have HL : Hid (a.length = b.length) := hl
    go_enter Try.func9, Try.ntmps9
    rw [← hl]
    clear hl
    go_wp2
    go_loopw [5] (fun i wr => ∃ k m : Nat, k ≤ a.length ∧ i = .int .i64 k ∧ wr = w.drewN m ∧ Hid (a.take k = b.take k)) (fun i _ => a.length - (intOf i).toNat)
    case atStart => exact ⟨0, 0, Nat.zero_le _, rfl, rfl, (by show _ = _; simp)⟩
    case round =>
      obtain ⟨k, m, hk, rfl, rfl, hT⟩ := hrel
      by_cases hlt : k < a.length
      · have hlt' : k < b.length := by have := HL.out; omega
        obtain ⟨b1, o1, rfl, _, hc1⟩ := HI.at ha (by omega)
        obtain ⟨b2, o2, rfl, _, hc2⟩ := HI.at (n := a.length) hb (by omega)
        have d1 := hc1 k hlt
        have d2 := hc2 k hlt'
        have HT : Hid (a.take (k + 1) = a.take k ++ [a[k]] ∧ b.take (k + 1) = b.take k ++ [b[k]]) := ⟨List.take_succ_eq_append_getElem hlt, List.take_succ_eq_append_getElem hlt'⟩
        have HNE : Hid (a[k] ≠ b[k] → a ≠ b) := (by
          show _ → _
          intro h e
          subst e
          exact h rfl)
        obtain ⟨xk, hxk⟩ : ∃ z, a[k] = z := ⟨_, rfl⟩
        obtain ⟨yk, hyk⟩ : ∃ z, b[k] = z := ⟨_, rfl⟩
        rw [hxk] at d1 HT HNE
        rw [hyk] at d2 HT HNE
        clear hc1 hc2 hxk hyk
        have i1 : 0 ≤ (k : Int) := by omega
        have i2 : (k : Int) < (a.length : Int) := by omega
        by_cases hxy : xk = yk
        · have HT2 : Hid (a.take (k + 1) = b.take (k + 1)) := (by show _ = _; rw [HT.out.1, HT.out.2, hT.out, hxy])
          go_wp2_with fail
          go_quiet (fail)
          go_wp2
          go_roundw
          case rel => exact ⟨k + 1, _, by omega, by go_num, rfl, HT2⟩
          case measure => simp [intOf]; omega
        · have hxy' : decide (xk = yk) = false := decide_eq_false hxy
          obtain rfl : r = false := by rw [hr.out]; exact decide_eq_false (HNE.out hxy)
          go_wp2_with fail
          go_quiet (fail)
          go_wp2
          go_ret
          exact ⟨rfl, Below.dN (Below.dN (Below.refl _ w) _) _⟩
      · obtain rfl : r = true := by
          rw [hr.out]
          apply decide_eq_true
          have h := hT.out
          rw [List.take_of_length_le (by omega), List.take_of_length_le (by have := HL.out; omega)] at h
          exact h
        go_wp2
        go_ret
        exact ⟨rfl, Below.dN (Below.refl _ w) _⟩
  · obtain rfl : r = false := by
      rw [hr.out]
      exact decide_eq_false (fun e => hl (by rw [e]))
    have hl' : ¬ (a.length : Int) = (b.length : Int) := by omega
    have hl2 : decide ((a.length : Int) = (b.length : Int)) = false := decide_eq_false hl'
    go_enter Try.func9, Try.ntmps9
    go_wp2
    go_ret
    exact ⟨rfl, Below.refl _ _⟩
end Go.Proofs.Ytmhanngimmjmoab
