/-
  Texts that belong together, joined: PcKe, PcKm, PcPz, PcDf, PaUq, PaPc, PaPg, PaIn.
-/
import Derived.Test.YtgiojkhmkeocfaaGreatDoorPartB5
import Derived.Test.YtgiojkhmkeocfaaGreatDoorPartA4
import Derived.Deep.CutRange
import Derived.Shelf.RegionOpenPlain
import Derived.Test.YtgiojkhmkeocfaaGreatDoorPartA5

/- The package pieces: KeepEnds, walked. -/
set_option maxRecDepth 20000
namespace Go.Proofs.YtgiojkhmkeocfaaGreatDoor
open Go.RowKit
attribute [local simp] low_drew

/-- how long the slice in a cell is -/
def lenOf : Value → Nat | .slice _ n _ => n | _ => 0
/-- a piece is read as a whole -/
theorem load_pz {u : World} {B : Nat} {v0 v1 v2 v3 : Value} (h : Qbx u B v0 v1 v2 v3) {op : Oper} (x : Operand) (ho : op.op = .load 243 x) {ev : Operand → Value} (hx : ev x = .pointer (some ⟨B, 0, none⟩)) :
    (execOp ev op).run Tryz.prog u = .ok (.value (.agg #[v0, v1, v2, v3])) u := by
  obtain ⟨d0, d1, d2, d3⟩ := h.cells
  simp only [execOp, ho, hx]
  go_simp
theorem empty_held {u wr : World} {B : Nat} {xo : Option Addr} {nx xc : Nat} {yo : Option Addr} {ny yc c : Nat} {ko : Option Addr} {kc : Nat} {r : Bool} (h : Qbx u B (.slice xo nx xc) (.slice yo ny yc) (.int .i64 c) (.slice ko nx kc) ∧ Low wr u) (hr : Hid (r = decide (nx = 0 ∨ ny = 0)) ∨ False) :
    Calls Tryz.prog 183 #[.agg #[.slice xo nx xc, .slice yo ny yc, .int .i64 (c : Int), .slice ko nx kc]] u fun e w' => e = .returned (.bool r) ∧ (Qbx w' B (.slice xo nx xc) (.slice yo ny yc) (.int .i64 c) (.slice ko nx kc) ∧ Low wr w') := by
  refine (Empty_f xo nx xc yo ny yc c ko kc u r (hr.resolve_right id)).mono ?_
  rintro e w' ⟨rfl, hb⟩
  exact ⟨rfl, h.1.low hb, Below.trans h.2 (hb.mono (Below.size h.2))⟩
theorem Empty_low (xo : Option Addr) (nx xc : Nat) (yo : Option Addr) (ny yc c : Nat) (ko : Option Addr) (kc : Nat) (u W : World) (r : Bool) (hr : Hid (r = decide (nx = 0 ∨ ny = 0))) (hL : Low W u) :
    Calls Tryz.prog 183 #[.agg #[.slice xo nx xc, .slice yo ny yc, .int .i64 (c : Int), .slice ko nx kc]] u fun e w' => e = .returned (.bool r) ∧ Low W w' := by
  refine (Empty_f xo nx xc yo ny yc c ko kc u r hr).mono ?_
  rintro e w' ⟨rfl, hb⟩
  exact ⟨rfl, Below.trans hL (hb.mono (Below.size hL))⟩
theorem Keep_00 {W0 : World} {g N : Nat} (K : List Int) (xo : Option Addr) (nx xc : Nat) (yo : Option Addr) (ny yc a c : Nat) (ko : Option Addr) (kc : Nat) (w : World) (hS : Ls W0 g N K w) (hko : 0 < nx → ko = some ⟨g, a, none⟩) (haN : a + nx ≤ N) (hN : N ≤ 1048576) (hin : 1 ≤ nx) (hc : c + 1 ≤ 1048576) :
    Calls Tryz.prog 189 #[.agg #[.slice xo nx xc, .slice yo ny yc, .int .i64 (c : Int), .slice ko nx kc], .int .i64 0, .int .i64 0, .int .i64 1] w fun e w' => e = .returned (.tuple #[]) ∧ Ls W0 g N (wrk K (fp a c 1)) w' ∧ w.grownBy w' (some g) :=
  Keep_f K xo nx xc yo ny yc a c ko kc w 0 0 1 hS hko haN hN (by omega) (by omega)
theorem Keep_1 {W0 : World} {g N : Nat} (K : List Int) (xo : Option Addr) (nx xc : Nat) (yo : Option Addr) (ny yc a c : Nat) (ko : Option Addr) (kc : Nat) (w : World) (i j : Nat) (hS : Ls W0 g N K w) (hko : 0 < nx → ko = some ⟨g, a, none⟩) (haN : a + nx ≤ N) (hN : N ≤ 1048576) (hin : i + 1 ≤ nx) (hc : c + j + 1 ≤ 1048576) :
    Calls Tryz.prog 189 #[.agg #[.slice xo nx xc, .slice yo ny yc, .int .i64 (c : Int), .slice ko nx kc], .int .i64 (i : Int), .int .i64 (j : Int), .int .i64 1] w fun e w' => e = .returned (.tuple #[]) ∧ Ls W0 g N (wrk K (fp (a + i) (c + j) 1)) w' ∧ w.grownBy w' (some g) :=
  Keep_f K xo nx xc yo ny yc a c ko kc w i j 1 hS hko haN hN (by omega) (by omega)
theorem From_11 (xo : Option Addr) (nx xc : Nat) (yo : Option Addr) (ny yc c : Nat) (ko : Option Addr) (kc : Nat) (w : World) (hi : 1 ≤ nx) (hj : 1 ≤ ny) (hxc : nx ≤ xc) (hyc : ny ≤ yc) (hkc : nx ≤ kc) (hc : c + 1 ≤ 1048576) :
    Calls Tryz.prog 188 #[.agg #[.slice xo nx xc, .slice yo ny yc, .int .i64 (c : Int), .slice ko nx kc], .int .i64 1, .int .i64 1] w fun e w' => e = .returned (pzV (slF xo xc 1) (nx - 1) (xc - 1) (slF yo yc 1) (ny - 1) (yc - 1) (c + 1) (slF ko kc 1) (kc - 1)) ∧ Below w.heap.size w w' :=
  From_f xo nx xc yo ny yc c ko kc w 1 1 hi hj hxc hyc hkc hc
/-- the state of the walk -/
structure Ke (W0 w : World) (g : Nat) (x y K : List Int) (a b c d : Nat) (xo : Option Addr) (nx xc : Nat) (yo : Option Addr) (ny yc : Nat) (ko : Option Addr) (kc : Nat) (u : World) : Prop where
  pz : Pz W0 g x y a b c d xo nx xc yo ny yc ko kc
  ls : Ls W0 g x.length K u
  box : Qbx u w.heap.size (.slice xo nx xc) (.slice yo ny yc) (.int .i64 c) (.slice ko nx kc)
  res : Qbx u (w.heap.size + 1) (.slice none 0 0) (.slice none 0 0) (.int .i64 0) (.slice none 0 0)
  gr : w.grownBy u (some g)
section
variable {W0 w : World} {g : Nat} {x y K : List Int} {a b c d : Nat} {xo : Option Addr} {nx xc : Nat} {yo : Option Addr} {ny yc : Nat} {ko : Option Addr} {kc : Nat} {u u' : World}
theorem Ke.low (h : Ke W0 w g x y K a b c d xo nx xc yo ny yc ko kc u) (hb : Below u.heap.size u u') : Ke W0 w g x y K a b c d xo nx xc yo ny yc ko kc u' :=
  ⟨h.pz, h.ls.keep hb, h.box.low hb, h.res.low hb, h.gr.trans (low_grown hb _)⟩
/-- another row of what is kept -/
theorem Ke.kept (h : Ke W0 w g x y K a b c d xo nx xc yo ny yc ko kc u) (hw : g < w.heap.size) {K' : List Int} (hl : Ls W0 g x.length K' u') (hg : u.grownBy u' (some g)) : Ke W0 w g x y K' a b c d xo nx xc yo ny yc ko kc u' :=
  ⟨h.pz, hl, h.box.keep hg (by simp; omega), h.res.keep hg (by simp; omega), h.gr.trans hg⟩
/-- another piece in the box -/
theorem Ke.put (h : Ke W0 w g x y K a b c d xo nx xc yo ny yc ko kc u) (hw : g < w.heap.size) {a' b' c' d' : Nat} {xo' : Option Addr} {nx' xc' : Nat} {yo' : Option Addr} {ny' yc' : Nat} {ko' : Option Addr} {kc' : Nat} (hp : Pz W0 g x y a' b' c' d' xo' nx' xc' yo' ny' yc' ko' kc') :
    Ke W0 w g x y K a' b' c' d' xo' nx' xc' yo' ny' yc' ko' kc' ((((u.setCell ⟨w.heap.size, 0, none⟩ (.slice xo' nx' xc')).setCell ⟨w.heap.size, 1, none⟩ (.slice yo' ny' yc')).setCell ⟨w.heap.size, 2, none⟩ (.int .i64 (c' : Int))).setCell ⟨w.heap.size, 3, none⟩ (.slice ko' nx' kc')) := by
  have hg := h.ls.lt
  have hW := h.ls.low.size
  have hs := h.gr.size
  refine ⟨hp, ?_, h.box.put _ _ _ _, ?_, ?_⟩
  · exact ls_other (ls_other (ls_other (ls_other h.ls (by omega) (by omega) _ _) (by omega) (by omega) _ _) (by omega) (by omega) _ _) (by omega) (by omega) _ _
  · refine (heap_setCell_other _ _ _ _ (by simp)).trans ((heap_setCell_other _ _ _ _ (by simp)).trans ((heap_setCell_other _ _ _ _ (by simp)).trans ((heap_setCell_other _ _ _ _ (by simp)).trans h.res)))
  · exact grown_new (grown_new (grown_new (grown_new h.gr (Nat.le_refl _) _ _) (Nat.le_refl _) _ _) (Nat.le_refl _) _ _) (Nat.le_refl _) _ _
end

set_option maxRecDepth 10000 in
set_option maxHeartbeats 4000000 in
theorem KeepEnds_f (x y : List Int) (W0 w : World) (g : Nat) (K : List Int) (a b c d : Nat) (xo : Option Addr) (nx xc : Nat) (yo : Option Addr) (ny yc : Nat) (ko : Option Addr) (kc : Nat) (hp : Pz W0 g x y a b c d xo nx xc yo ny yc ko kc) (hxl : x.length ≤ 4096) (hyl : y.length ≤ 4096) (hS : Ls W0 g x.length K w) :
    Calls Tryz.prog 182 #[pzV xo nx xc yo ny yc c ko kc] w fun e w' => ∃ (k m : Nat) (xo' : Option Addr) (nx' xc' : Nat) (yo' : Option Addr) (ny' yc' : Nat) (ko' : Option Addr) (kc' : Nat), k = tf x y a b c d ∧ m = tb x y (a + k) b (c + k) d ∧ e = .returned (pzV xo' nx' xc' yo' ny' yc' (c + k) ko' kc') ∧ Pz W0 g x y (a + k) (b - m) (c + k) (d - m) xo' nx' xc' yo' ny' yc' ko' kc' ∧ Ls W0 g x.length (wrk K (fp a c k ++ bp b d m)) w' ∧ w.grownBy w' (some g) := by
  obtain ⟨k, hk⟩ : ∃ k, tf x y a b c d = k := ⟨_, rfl⟩
  obtain ⟨m, hm⟩ : ∃ m, tb x y (a + k) b (c + k) d = m := ⟨_, rfl⟩
  obtain ⟨KF, hKF⟩ : ∃ KF, wrk K (fp a c k) = KF := ⟨_, rfl⟩
  obtain ⟨A1, hA1⟩ : ∃ A1, a + k = A1 := ⟨_, rfl⟩
  obtain ⟨C1, hC1⟩ : ∃ C1, c + k = C1 := ⟨_, rfl⟩
  have HK : Hid (a + tf x y a b c d = A1 ∧ c + tf x y a b c d = C1 ∧ wrk K (fp a c (tf x y a b c d)) = KF) := ⟨by rw [hk, hA1], by rw [hk, hC1], by rw [hk, hKF]⟩
  have HM : Hid (tb x y A1 b C1 d = m) := (by rw [hA1, hC1] at hm; exact hm)
  have HFin : Hid (k = tf x y a b c d ∧ m = tb x y (a + k) b (c + k) d ∧ A1 = a + k ∧ C1 = c + k ∧ wrk KF (bp b d m) = wrk K (fp a c k ++ bp b d m)) := ⟨hk.symm, hm.symm, hA1.symm, hC1.symm, by rw [wrk_append, hKF]⟩
  have hml : m ≤ b - A1 ∧ m ≤ d - C1 := by rw [← HM.out]; exact tb_le x y A1 b C1 d
  clear hk hm hKF hA1 hC1
  have hgw := hS.lt.2
  have hT0 : Ke W0 w g x y K a b c d xo nx xc yo ny yc ko kc ((w.alloc (.cells #[.slice xo nx xc, .slice yo ny yc, .int .i64 c, .slice ko nx kc] 243)).alloc (.cells #[.slice none 0 0, .slice none 0 0, .int .i64 0, .slice none 0 0] 243)) :=
    ⟨hp, hS.keep (((Below.refl _ w).alloc (Nat.le_refl _) _).alloc (by simp) _), (Below.heap_alloc _ _ _ (by simp)).trans (_root_.Go.heap_alloc_new w _), alloc_second w _ _, low_grown (((Below.refl _ w).alloc (Nat.le_refl _) _).alloc (by simp) _) _⟩
  unfold pzV
  go_enter Tryz.func182, Tryz.ntmps182
  go_wp2
  go_loopw [] (fun wr => ∃ (a' c' : Nat) (K' : List Int) (xo : Option Addr) (nx xc : Nat) (yo : Option Addr) (ny yc : Nat) (ko : Option Addr) (kc : Nat), Ke W0 w g x y K' a' b c' d xo nx xc yo ny yc ko kc wr ∧ Hid (a' + tf x y a' b c' d = A1 ∧ c' + tf x y a' b c' d = C1 ∧ wrk K' (fp a' c' (tf x y a' b c' d)) = KF)) (fun wr => lenOf ((wr.cell? ⟨w.heap.size, 0, none⟩).getD undef))
  case atStart => exact ⟨a, c, K, xo, nx, xc, yo, ny, yc, ko, kc, hT0, HK⟩
  case round =>
    clear hT0 HK hS hp
    obtain ⟨a', c', K', xo, nx, xc, yo, ny, yc, ko, kc, hT, HV⟩ := hrel
    have hQ := hT.box
    obtain ⟨c0, c1, c2, c3⟩ := hQ.cells
    have hb := hT.pz.eb
    have hd := hT.pz.ed
    have hbx := hT.pz.bx
    have hdy := hT.pz.dy
    obtain ⟨r, hr⟩ : ∃ r, decide (a' < b ∧ c' < d ∧ x[a']? = y[c']?) = r := ⟨_, rfl⟩
    have HRr : Hid (decide (a' < b ∧ c' < d ∧ x[a']? = y[c']?) = r) := hr
    clear hr
    have hlow := hT.ls.low
    go_wp2_with fail
    go_cut [18] from 5 to 22 (fun z wz => z = .bool r ∧ Low wr wz)
    case first =>
      by_cases he : nx = 0 ∨ ny = 0
      · obtain rfl : r = false := by rw [← HRr.out]; simp; intro h1 h2; omega
        have HE : Hid (true = decide (nx = 0 ∨ ny = 0)) := (decide_eq_true he).symm
        clear HRr
        refine wp_region_noPanic ?_
        refine wp_region_held_drew (S := fun u => Qbx u w.heap.size (.slice xo nx xc) (.slice yo ny yc) (.int .i64 (c' : Int)) (.slice ko nx kc) ∧ Low wr u) (by kernel_rfl) ⟨hQ.drewN 1, Below.dN (Below.refl _ wr) 1⟩ (fun hHeld => ?_)
        refine go_take 0 5 _ (.agg #[.slice xo nx xc, .slice yo ny yc, .int .i64 (c' : Int), .slice ko nx kc]) rfl (by kernel_rfl) (by kernel_rfl) (by kernel_rfl) (by kernel_rfl) (fun _ _ _ h => h) (Or.inl ⟨by kernel_rfl, fun u hu => load_pz hu.1 (.tmp 1) (by kernel_rfl) (by kernel_rfl)⟩) hHeld ?_
        simp only [Act.put, List.setIfInBounds_toArray, List.set_cons_zero, List.set_cons_succ]
        refine go_callH 1 6 _ rfl (by kernel_rfl) (by kernel_rfl) (by kernel_rfl) 183 #[.tmp 5] #[243] (by kernel_rfl) #[.agg #[.slice xo nx xc, .slice yo ny yc, .int .i64 (c' : Int), .slice ko nx kc]] (by kernel_rfl) (enters_of Tryz.func183 (by kernel_rfl) rfl) (.bool true) (empty_held hHeld (.inl HE)) (fun u hHeld => ?_)
        simp only [Act.put, List.setIfInBounds_toArray, List.set_cons_zero, List.set_cons_succ]
        refine go_take 2 7 _ (.bool false) rfl (by kernel_rfl) (by kernel_rfl) (by kernel_rfl) (by kernel_rfl) (fun _ _ _ h => h) (Or.inl ⟨by kernel_rfl, fun u hu => by kernel_rfl⟩) hHeld ?_
        simp only [Act.put, List.setIfInBounds_toArray, List.set_cons_zero, List.set_cons_succ]
        refine go_take 3 8 _ (.bool false) rfl (by kernel_rfl) (by kernel_rfl) (by kernel_rfl) (by kernel_rfl) (fun _ _ _ h => h) (Or.inl ⟨by kernel_rfl, fun u hu => by kernel_rfl⟩) hHeld ?_
        simp only [Act.put, List.setIfInBounds_toArray, List.set_cons_zero, List.set_cons_succ]
        refine go_take 4 9 _ undef rfl (by kernel_rfl) (by kernel_rfl) (by kernel_rfl) (by kernel_rfl) (fun _ _ _ h => h) (Or.inr ⟨by kernel_rfl, rfl⟩) hHeld ?_
        simp only [Act.put, List.setIfInBounds_toArray, List.set_cons_zero, List.set_cons_succ]
        refine go_take 5 10 _ undef rfl (by kernel_rfl) (by kernel_rfl) (by kernel_rfl) (by kernel_rfl) (fun _ _ _ h => h) (Or.inr ⟨by kernel_rfl, rfl⟩) hHeld ?_
        simp only [Act.put, List.setIfInBounds_toArray, List.set_cons_zero, List.set_cons_succ]
        refine go_take 6 11 _ undef rfl (by kernel_rfl) (by kernel_rfl) (by kernel_rfl) (by kernel_rfl) (fun _ _ _ h => h) (Or.inr ⟨by kernel_rfl, rfl⟩) hHeld ?_
        simp only [Act.put, List.setIfInBounds_toArray, List.set_cons_zero, List.set_cons_succ]
        refine go_take 7 12 _ undef rfl (by kernel_rfl) (by kernel_rfl) (by kernel_rfl) (by kernel_rfl) (fun _ _ _ h => h) (Or.inr ⟨by kernel_rfl, rfl⟩) hHeld ?_
        simp only [Act.put, List.setIfInBounds_toArray, List.set_cons_zero, List.set_cons_succ]
        refine go_take 8 13 _ undef rfl (by kernel_rfl) (by kernel_rfl) (by kernel_rfl) (by kernel_rfl) (fun _ _ _ h => h) (Or.inr ⟨by kernel_rfl, rfl⟩) hHeld ?_
        simp only [Act.put, List.setIfInBounds_toArray, List.set_cons_zero, List.set_cons_succ]
        refine go_take 9 14 _ undef rfl (by kernel_rfl) (by kernel_rfl) (by kernel_rfl) (by kernel_rfl) (fun _ _ _ h => h) (Or.inr ⟨by kernel_rfl, rfl⟩) hHeld ?_
        simp only [Act.put, List.setIfInBounds_toArray, List.set_cons_zero, List.set_cons_succ]
        refine go_take 10 15 _ undef rfl (by kernel_rfl) (by kernel_rfl) (by kernel_rfl) (by kernel_rfl) (fun _ _ _ h => h) (Or.inr ⟨by kernel_rfl, rfl⟩) hHeld ?_
        simp only [Act.put, List.setIfInBounds_toArray, List.set_cons_zero, List.set_cons_succ]
        refine go_take 11 16 _ undef rfl (by kernel_rfl) (by kernel_rfl) (by kernel_rfl) (by kernel_rfl) (fun _ _ _ h => h) (Or.inr ⟨by kernel_rfl, rfl⟩) hHeld ?_
        simp only [Act.put, List.setIfInBounds_toArray, List.set_cons_zero, List.set_cons_succ]
        refine go_take 12 17 _ undef rfl (by kernel_rfl) (by kernel_rfl) (by kernel_rfl) (by kernel_rfl) (fun _ _ _ h => h) (Or.inr ⟨by kernel_rfl, rfl⟩) hHeld ?_
        simp only [Act.put, List.setIfInBounds_toArray, List.set_cons_zero, List.set_cons_succ]
        refine go_take 13 18 _ (.bool false) rfl (by kernel_rfl) (by kernel_rfl) (by kernel_rfl) (by kernel_rfl) (fun _ _ _ h => h) (Or.inl ⟨by kernel_rfl, fun u hu => by kernel_rfl⟩) hHeld ?_
        simp only [Act.put, List.setIfInBounds_toArray, List.set_cons_zero, List.set_cons_succ]
        refine wpAnyH_done (by kernel_rfl) ?_ _
        refine NoPanic.normal ?_
        go_wp2_with fail
        go_meet
        case rel => exact ⟨rfl, hHeld.2⟩
      · have h1 : 0 < nx := by omega
        have h2 : 0 < ny := by omega
        obtain ⟨xb, xf, xcc, hxe, hxb, hcx⟩ := Holds.at (Holds.keep hT.pz.hx (fun q hq => hlow.block q hq)) (by rw [icells_length, sub_length x a' b hbx]; omega)
        obtain ⟨yb, yf, ycc, hye, hyb, hcy⟩ := Holds.at (Holds.keep hT.pz.hy (fun q hq => hlow.block q hq)) (by rw [icells_length, sub_length y c' d hdy]; omega)
        cases hxe
        cases hye
        have x0 := hcx 0 (by rw [icells_length, sub_length x a' b hbx]; omega)
        have y0 := hcy 0 (by rw [icells_length, sub_length y c' d hdy]; omega)
        obtain ⟨zx, hzx⟩ : ∃ z, (sub x a' b)[0]? = some z := ⟨_, List.getElem?_eq_getElem (by rw [sub_length x a' b hbx]; omega)⟩
        obtain ⟨zy, hzy⟩ : ∃ z, (sub y c' d)[0]? = some z := ⟨_, List.getElem?_eq_getElem (by rw [sub_length y c' d hdy]; omega)⟩
        have x1 : wr.cell? ⟨xb, xf, none⟩ = some (.int .i64 zx) := by
          rw [Nat.add_zero] at x0
          rw [x0]
          have := hzx
          rw [List.getElem?_eq_getElem (by rw [sub_length x a' b hbx]; omega)] at this
          simp [icells, Option.some.inj this]
        have y1 : wr.cell? ⟨yb, yf, none⟩ = some (.int .i64 zy) := by
          rw [Nat.add_zero] at y0
          rw [y0]
          have := hzy
          rw [List.getElem?_eq_getElem (by rw [sub_length y c' d hdy]; omega)] at this
          simp [icells, Option.some.inj this]
        have e3 : (zx == zy) = r := by
          rw [← HRr.out, show x[a']? = some zx from (sub_some hzx).2, show y[c']? = some zy from (sub_some hzy).2]
          have q1 : a' < b := by omega
          have q2 : c' < d := by omega
          by_cases q : zx = zy <;> simp [q1, q2, q]
        have HE : Hid (false = decide (nx = 0 ∨ ny = 0)) := (decide_eq_false he).symm
        have i1 : (0 : Int) < (nx : Int) := by omega
        have i2 : (0 : Int) < (ny : Int) := by omega
        have hcs : ∀ u : World, Low wr u → u.cell? ⟨w.heap.size, 0, none⟩ = some (.slice (some ⟨xb, xf, none⟩) nx xc) ∧ u.cell? ⟨w.heap.size, 1, none⟩ = some (.slice (some ⟨yb, yf, none⟩) ny yc) ∧ u.cell? ⟨w.heap.size, 2, none⟩ = some (.int .i64 (c' : Int)) ∧ u.cell? ⟨w.heap.size, 3, none⟩ = some (.slice ko nx kc) ∧ u.cell? ⟨xb, xf, none⟩ = some (.int .i64 zx) ∧ u.cell? ⟨yb, yf, none⟩ = some (.int .i64 zy) := fun u hu => by
          obtain ⟨d0, d1, d2, d3⟩ := (hQ.low hu).cells
          exact ⟨d0, d1, d2, d3, cell_low hu x1, cell_low hu y1⟩
        have hLw : Low wr wr := Below.refl _ _
        clear x0 y0 hcx hcy hzx hzy HRr hxb hyb
        go_region_held3 (fun u => u.cell? ⟨w.heap.size, 0, none⟩ = some (.slice (some ⟨xb, xf, none⟩) nx xc) ∧ u.cell? ⟨w.heap.size, 1, none⟩ = some (.slice (some ⟨yb, yf, none⟩) ny yc) ∧ u.cell? ⟨w.heap.size, 2, none⟩ = some (.int .i64 (c' : Int)) ∧ u.cell? ⟨w.heap.size, 3, none⟩ = some (.slice ko nx kc) ∧ u.cell? ⟨xb, xf, none⟩ = some (.int .i64 zx) ∧ u.cell? ⟨yb, yf, none⟩ = some (.int .i64 zy) ∧ Low wr u) (go_keep)
          (first | (go_at_call 183; refine (Empty_low (some ⟨xb, xf, none⟩) nx xc (some ⟨yb, yf, none⟩) ny yc c' ko kc _ wr false HE (by first | assumption | (simp [*]; done))).mono ?_; rintro e wd ⟨rfl, hlw⟩; obtain ⟨g0, g1, g2, g3, g4, g5⟩ := hcs wd hlw))
        go_wp2
        go_meet
        case rel => exact ⟨rfl, by first | assumption | (simp [*]; done)⟩
    case rest =>
      obtain ⟨rfl, hLz⟩ := hcut
      have hTz := hT.low hLz
      have cw := c0
      clear c0 c1 c2 c3 hT hlow hQ hLz
      generalize wc = u0 at hTz ⊢
      obtain ⟨c0, c1, c2, c3⟩ := hTz.box.cells
      cases r with
      | true =>
        have hh := of_decide_eq_true HRr.out
        obtain ⟨h1, h2, h3⟩ := hh
        have HV2 : Hid (a' + 1 + tf x y (a' + 1) b (c' + 1) d = A1 ∧ c' + 1 + tf x y (a' + 1) b (c' + 1) d = C1 ∧ wrk (wrk K' (fp a' c' 1)) (fp (a' + 1) (c' + 1) (tf x y (a' + 1) b (c' + 1) d)) = KF) := (by
          have := HV.out
          rw [tf_eq, if_pos ⟨h1, h2, h3⟩] at this
          obtain ⟨q1, q2, q3⟩ := this
          refine ⟨by omega, by omega, ?_⟩
          rw [← q3, ← wrk_append]
          rfl)
        clear HV HRr h3
        have hkk := hTz.pz.hk
        have hxk := hold_cap hTz.pz.hx
        have hyk := hold_cap hTz.pz.hy
        go_wp2_with fail
        refine (Keep_00 K' xo nx xc yo ny yc a' c' ko kc u0 hTz.ls hTz.pz.at' (by omega) (by omega) (by omega) (by omega)).mono ?_
        rintro e u1 ⟨rfl, hS1, hG1⟩
        have hT1 := hTz.kept hgw hS1 hG1
        clear hTz c0 c1 c2 c3 hS1 hG1
        obtain ⟨c0, c1, c2, c3⟩ := hT1.box.cells
        go_wp2_with fail
        refine (From_11 xo nx xc yo ny yc c' ko kc u1 (by omega) (by omega) hxk hyk hkk (by omega)).mono ?_
        rintro e u2 ⟨rfl, hB2⟩
        have hT2 := hT1.low hB2
        clear hT1 c0 c1 c2 c3 hB2
        obtain ⟨c0, c1, c2, c3⟩ := hT2.box.cells
        have f0 := hT2.box.frozen
        have hT3 := hT2.put hgw (hT2.pz.from (i := 1) (j := 1) (by omega) (by omega))
        unfold pzV
        go_wp2
        go_roundw
        case rel => exact ⟨a' + 1, c' + 1, _, _, _, _, _, _, _, _, _, hT3, HV2⟩
        case measure =>
          refine Nat.lt_of_le_of_lt (Nat.le_of_eq (congrArg (fun o => lenOf (Option.getD o undef)) hT3.box.cells.1)) ?_
          rw [cw]
          simp [lenOf]
          omega
      | false =>
        have hh := of_decide_eq_false HRr.out
        have hz : tf x y a' b c' d = 0 := by rw [tf_eq, if_neg hh]
        obtain ⟨q1, q2, q3⟩ := HV.out
        rw [hz] at q1 q2 q3
        obtain rfl : A1 = a' := by omega
        obtain rfl : C1 = c' := by omega
        have q4 : KF = K' := q3.symm
        subst q4
        clear hh hz q1 q2 q3 HV HRr cw c0 c1 c2 c3 hb hd hbx hdy
        have HM0 : Hid (b - tb x y A1 b C1 d = b - m ∧ d - tb x y A1 b C1 d = d - m ∧ wrk KF (bp b d (tb x y A1 b C1 d)) = wrk KF (bp b d m)) := (by rw [HM.out]; exact ⟨rfl, rfl, rfl⟩)
        go_wp2
        go_loopw [] (fun wr => ∃ (b' d' : Nat) (K2 : List Int) (xo : Option Addr) (nx xc : Nat) (yo : Option Addr) (ny yc : Nat) (ko : Option Addr) (kc : Nat), Ke W0 w g x y K2 A1 b' C1 d' xo nx xc yo ny yc ko kc wr ∧ Hid (b' - tb x y A1 b' C1 d' = b - m ∧ d' - tb x y A1 b' C1 d' = d - m ∧ wrk K2 (bp b' d' (tb x y A1 b' C1 d')) = wrk KF (bp b d m))) (fun wr => lenOf ((wr.cell? ⟨w.heap.size, 0, none⟩).getD undef))
        case atStart => exact ⟨b, d, KF, xo, nx, xc, yo, ny, yc, ko, kc, hTz, HM0⟩
        case round =>
          clear hTz HM0
          obtain ⟨b', d', K2, xo, nx, xc, yo, ny, yc, ko, kc, hT, HV⟩ := hrel
          have hQ := hT.box
          obtain ⟨c0, c1, c2, c3⟩ := hQ.cells
          have hb := hT.pz.eb
          have hd := hT.pz.ed
          have hbx := hT.pz.bx
          have hdy := hT.pz.dy
          obtain ⟨r, hr⟩ : ∃ r, decide (A1 < b' ∧ C1 < d' ∧ x[b' - 1]? = y[d' - 1]?) = r := ⟨_, rfl⟩
          have HRr : Hid (decide (A1 < b' ∧ C1 < d' ∧ x[b' - 1]? = y[d' - 1]?) = r) := hr
          clear hr
          have hlow := hT.ls.low
          go_wp2_with fail
          go_cut [44] from 23 to 60 (fun z wz => z = .bool r ∧ Low wr wz)
          case first =>
            by_cases he : nx = 0 ∨ ny = 0
            · obtain rfl : r = false := by rw [← HRr.out]; simp; intro h1 h2; omega
              have HE : Hid (true = decide (nx = 0 ∨ ny = 0)) := (decide_eq_true he).symm
              clear HRr
              refine wp_region_noPanic ?_
              refine wp_region_held_drew (S := fun u => Qbx u w.heap.size (.slice xo nx xc) (.slice yo ny yc) (.int .i64 (C1 : Int)) (.slice ko nx kc) ∧ Low wr u) (by kernel_rfl) ⟨hQ.drewN 1, Below.dN (Below.refl _ wr) 1⟩ (fun hHeld => ?_)
              refine go_take 0 23 _ (.agg #[.slice xo nx xc, .slice yo ny yc, .int .i64 (C1 : Int), .slice ko nx kc]) rfl (by kernel_rfl) (by kernel_rfl) (by kernel_rfl) (by kernel_rfl) (fun _ _ _ h => h) (Or.inl ⟨by kernel_rfl, fun u hu => load_pz hu.1 (.tmp 1) (by kernel_rfl) (by kernel_rfl)⟩) hHeld ?_
              simp only [Act.put, List.setIfInBounds_toArray, List.set_cons_zero, List.set_cons_succ]
              refine go_callH 1 24 _ rfl (by kernel_rfl) (by kernel_rfl) (by kernel_rfl) 183 #[.tmp 23] #[243] (by kernel_rfl) #[.agg #[.slice xo nx xc, .slice yo ny yc, .int .i64 (C1 : Int), .slice ko nx kc]] (by kernel_rfl) (enters_of Tryz.func183 (by kernel_rfl) rfl) (.bool true) (empty_held hHeld (.inl HE)) (fun u hHeld => ?_)
              simp only [Act.put, List.setIfInBounds_toArray, List.set_cons_zero, List.set_cons_succ]
              refine go_take 2 25 _ (.bool false) rfl (by kernel_rfl) (by kernel_rfl) (by kernel_rfl) (by kernel_rfl) (fun _ _ _ h => h) (Or.inl ⟨by kernel_rfl, fun u hu => by kernel_rfl⟩) hHeld ?_
              simp only [Act.put, List.setIfInBounds_toArray, List.set_cons_zero, List.set_cons_succ]
              refine go_take 3 26 _ (.bool false) rfl (by kernel_rfl) (by kernel_rfl) (by kernel_rfl) (by kernel_rfl) (fun _ _ _ h => h) (Or.inl ⟨by kernel_rfl, fun u hu => by kernel_rfl⟩) hHeld ?_
              simp only [Act.put, List.setIfInBounds_toArray, List.set_cons_zero, List.set_cons_succ]
              refine go_take 4 27 _ undef rfl (by kernel_rfl) (by kernel_rfl) (by kernel_rfl) (by kernel_rfl) (fun _ _ _ h => h) (Or.inr ⟨by kernel_rfl, rfl⟩) hHeld ?_
              simp only [Act.put, List.setIfInBounds_toArray, List.set_cons_zero, List.set_cons_succ]
              refine go_take 5 28 _ undef rfl (by kernel_rfl) (by kernel_rfl) (by kernel_rfl) (by kernel_rfl) (fun _ _ _ h => h) (Or.inr ⟨by kernel_rfl, rfl⟩) hHeld ?_
              simp only [Act.put, List.setIfInBounds_toArray, List.set_cons_zero, List.set_cons_succ]
              refine go_take 6 29 _ undef rfl (by kernel_rfl) (by kernel_rfl) (by kernel_rfl) (by kernel_rfl) (fun _ _ _ h => h) (Or.inr ⟨by kernel_rfl, rfl⟩) hHeld ?_
              simp only [Act.put, List.setIfInBounds_toArray, List.set_cons_zero, List.set_cons_succ]
              refine go_take 7 30 _ undef rfl (by kernel_rfl) (by kernel_rfl) (by kernel_rfl) (by kernel_rfl) (fun _ _ _ h => h) (Or.inr ⟨by kernel_rfl, rfl⟩) hHeld ?_
              simp only [Act.put, List.setIfInBounds_toArray, List.set_cons_zero, List.set_cons_succ]
              refine go_take 8 31 _ undef rfl (by kernel_rfl) (by kernel_rfl) (by kernel_rfl) (by kernel_rfl) (fun _ _ _ h => h) (Or.inr ⟨by kernel_rfl, rfl⟩) hHeld ?_
              simp only [Act.put, List.setIfInBounds_toArray, List.set_cons_zero, List.set_cons_succ]
              refine go_take 9 32 _ undef rfl (by kernel_rfl) (by kernel_rfl) (by kernel_rfl) (by kernel_rfl) (fun _ _ _ h => h) (Or.inr ⟨by kernel_rfl, rfl⟩) hHeld ?_
              simp only [Act.put, List.setIfInBounds_toArray, List.set_cons_zero, List.set_cons_succ]
              refine go_take 10 33 _ undef rfl (by kernel_rfl) (by kernel_rfl) (by kernel_rfl) (by kernel_rfl) (fun _ _ _ h => h) (Or.inr ⟨by kernel_rfl, rfl⟩) hHeld ?_
              simp only [Act.put, List.setIfInBounds_toArray, List.set_cons_zero, List.set_cons_succ]
              refine go_take 11 34 _ undef rfl (by kernel_rfl) (by kernel_rfl) (by kernel_rfl) (by kernel_rfl) (fun _ _ _ h => h) (Or.inr ⟨by kernel_rfl, rfl⟩) hHeld ?_
              simp only [Act.put, List.setIfInBounds_toArray, List.set_cons_zero, List.set_cons_succ]
              refine go_take 12 35 _ undef rfl (by kernel_rfl) (by kernel_rfl) (by kernel_rfl) (by kernel_rfl) (fun _ _ _ h => h) (Or.inr ⟨by kernel_rfl, rfl⟩) hHeld ?_
              simp only [Act.put, List.setIfInBounds_toArray, List.set_cons_zero, List.set_cons_succ]
              refine go_take 13 36 _ undef rfl (by kernel_rfl) (by kernel_rfl) (by kernel_rfl) (by kernel_rfl) (fun _ _ _ h => h) (Or.inr ⟨by kernel_rfl, rfl⟩) hHeld ?_
              simp only [Act.put, List.setIfInBounds_toArray, List.set_cons_zero, List.set_cons_succ]
              refine go_take 14 37 _ undef rfl (by kernel_rfl) (by kernel_rfl) (by kernel_rfl) (by kernel_rfl) (fun _ _ _ h => h) (Or.inr ⟨by kernel_rfl, rfl⟩) hHeld ?_
              simp only [Act.put, List.setIfInBounds_toArray, List.set_cons_zero, List.set_cons_succ]
              refine go_take 15 38 _ undef rfl (by kernel_rfl) (by kernel_rfl) (by kernel_rfl) (by kernel_rfl) (fun _ _ _ h => h) (Or.inr ⟨by kernel_rfl, rfl⟩) hHeld ?_
              simp only [Act.put, List.setIfInBounds_toArray, List.set_cons_zero, List.set_cons_succ]
              refine go_take 16 39 _ undef rfl (by kernel_rfl) (by kernel_rfl) (by kernel_rfl) (by kernel_rfl) (fun _ _ _ h => h) (Or.inr ⟨by kernel_rfl, rfl⟩) hHeld ?_
              simp only [Act.put, List.setIfInBounds_toArray, List.set_cons_zero, List.set_cons_succ]
              refine go_take 17 40 _ undef rfl (by kernel_rfl) (by kernel_rfl) (by kernel_rfl) (by kernel_rfl) (fun _ _ _ h => h) (Or.inr ⟨by kernel_rfl, rfl⟩) hHeld ?_
              simp only [Act.put, List.setIfInBounds_toArray, List.set_cons_zero, List.set_cons_succ]
              refine go_take 18 41 _ undef rfl (by kernel_rfl) (by kernel_rfl) (by kernel_rfl) (by kernel_rfl) (fun _ _ _ h => h) (Or.inr ⟨by kernel_rfl, rfl⟩) hHeld ?_
              simp only [Act.put, List.setIfInBounds_toArray, List.set_cons_zero, List.set_cons_succ]
              refine go_take 19 42 _ undef rfl (by kernel_rfl) (by kernel_rfl) (by kernel_rfl) (by kernel_rfl) (fun _ _ _ h => h) (Or.inr ⟨by kernel_rfl, rfl⟩) hHeld ?_
              simp only [Act.put, List.setIfInBounds_toArray, List.set_cons_zero, List.set_cons_succ]
              refine go_take 20 43 _ undef rfl (by kernel_rfl) (by kernel_rfl) (by kernel_rfl) (by kernel_rfl) (fun _ _ _ h => h) (Or.inr ⟨by kernel_rfl, rfl⟩) hHeld ?_
              simp only [Act.put, List.setIfInBounds_toArray, List.set_cons_zero, List.set_cons_succ]
              refine go_take 21 44 _ (.bool false) rfl (by kernel_rfl) (by kernel_rfl) (by kernel_rfl) (by kernel_rfl) (fun _ _ _ h => h) (Or.inl ⟨by kernel_rfl, fun u hu => by kernel_rfl⟩) hHeld ?_
              simp only [Act.put, List.setIfInBounds_toArray, List.set_cons_zero, List.set_cons_succ]
              refine wpAnyH_done (by kernel_rfl) ?_ _
              refine NoPanic.normal ?_
              go_wp2_with fail
              go_meet
              case rel => exact ⟨rfl, hHeld.2⟩
            · obtain ⟨px, rfl⟩ : ∃ q, nx = q + 1 := ⟨nx - 1, by omega⟩
              obtain ⟨py, rfl⟩ : ∃ q, ny = q + 1 := ⟨ny - 1, by omega⟩
              obtain ⟨xb, xf, xcc, hxe, hxb, hcx⟩ := Holds.at (Holds.keep hT.pz.hx (fun q hq => hlow.block q hq)) (by rw [icells_length, sub_length x A1 b' hbx]; omega)
              obtain ⟨yb, yf, ycc, hye, hyb, hcy⟩ := Holds.at (Holds.keep hT.pz.hy (fun q hq => hlow.block q hq)) (by rw [icells_length, sub_length y C1 d' hdy]; omega)
              cases hxe
              cases hye
              have x0 := hcx px (by rw [icells_length, sub_length x A1 b' hbx]; omega)
              have y0 := hcy py (by rw [icells_length, sub_length y C1 d' hdy]; omega)
              obtain ⟨zx, hzx⟩ : ∃ z, (sub x A1 b')[px]? = some z := ⟨_, List.getElem?_eq_getElem (by rw [sub_length x A1 b' hbx]; omega)⟩
              obtain ⟨zy, hzy⟩ : ∃ z, (sub y C1 d')[py]? = some z := ⟨_, List.getElem?_eq_getElem (by rw [sub_length y C1 d' hdy]; omega)⟩
              have x1 : wr.cell? ⟨xb, xf + px, none⟩ = some (.int .i64 zx) := by
                rw [x0]
                have := hzx
                rw [List.getElem?_eq_getElem (by rw [sub_length x A1 b' hbx]; omega)] at this
                simp [icells, Option.some.inj this]
              have y1 : wr.cell? ⟨yb, yf + py, none⟩ = some (.int .i64 zy) := by
                rw [y0]
                have := hzy
                rw [List.getElem?_eq_getElem (by rw [sub_length y C1 d' hdy]; omega)] at this
                simp [icells, Option.some.inj this]
              have e3 : (zx == zy) = r := by
                have q3 := (sub_some hzx).2
                have q4 := (sub_some hzy).2
                rw [← HRr.out, show b' - 1 = A1 + px by omega, show d' - 1 = C1 + py by omega, q3, q4]
                have q1 : A1 < b' := by omega
                have q2 : C1 < d' := by omega
                by_cases q : zx = zy <;> simp [q1, q2, q]
              have HE : Hid (false = decide (px + 1 = 0 ∨ py + 1 = 0)) := (decide_eq_false (by omega)).symm
              have i1 : (px : Int) < ((px + 1 : Nat) : Int) := by omega
              have i2 : (py : Int) < ((py + 1 : Nat) : Int) := by omega
              have i1' : (px : Int) < (px : Int) + 1 := by omega
              have i2' : (py : Int) < (py : Int) + 1 := by omega
              have i3 : 0 ≤ (px : Int) := by omega
              have i4 : 0 ≤ (py : Int) := by omega
              have n1 : IntKind.i64.wrap ((px : Int) + 1 - 1) = (px : Int) := by rw [IntKind.wrap_i64]; omega
              have n2 : IntKind.i64.wrap ((py : Int) + 1 - 1) = (py : Int) := by rw [IntKind.wrap_i64]; omega
              have n3 : IntKind.i64.wrap (px : Int) = (px : Int) := by rw [IntKind.wrap_i64]; omega
              have n4 : IntKind.i64.wrap (py : Int) = (py : Int) := by rw [IntKind.wrap_i64]; omega
              have n5 : (px : Int) + 1 - 1 = (px : Int) := by omega
              have n6 : (py : Int) + 1 - 1 = (py : Int) := by omega
              have hcs : ∀ u : World, Low wr u → u.cell? ⟨w.heap.size, 0, none⟩ = some (.slice (some ⟨xb, xf, none⟩) (px + 1) xc) ∧ u.cell? ⟨w.heap.size, 1, none⟩ = some (.slice (some ⟨yb, yf, none⟩) (py + 1) yc) ∧ u.cell? ⟨w.heap.size, 2, none⟩ = some (.int .i64 (C1 : Int)) ∧ u.cell? ⟨w.heap.size, 3, none⟩ = some (.slice ko (px + 1) kc) ∧ u.cell? ⟨xb, xf + px, none⟩ = some (.int .i64 zx) ∧ u.cell? ⟨yb, yf + py, none⟩ = some (.int .i64 zy) := fun u hu => by
                obtain ⟨d0, d1, d2, d3⟩ := (hQ.low hu).cells
                exact ⟨d0, d1, d2, d3, cell_low hu x1, cell_low hu y1⟩
              have hLw : Low wr wr := Below.refl _ _
              clear x0 y0 hcx hcy hzx hzy HRr hxb hyb
              go_region_held3 (fun u => u.cell? ⟨w.heap.size, 0, none⟩ = some (.slice (some ⟨xb, xf, none⟩) (px + 1) xc) ∧ u.cell? ⟨w.heap.size, 1, none⟩ = some (.slice (some ⟨yb, yf, none⟩) (py + 1) yc) ∧ u.cell? ⟨w.heap.size, 2, none⟩ = some (.int .i64 (C1 : Int)) ∧ u.cell? ⟨w.heap.size, 3, none⟩ = some (.slice ko (px + 1) kc) ∧ u.cell? ⟨xb, xf + px, none⟩ = some (.int .i64 zx) ∧ u.cell? ⟨yb, yf + py, none⟩ = some (.int .i64 zy) ∧ Low wr u) (go_keep)
                (first | (go_at_call 183; refine (Empty_low (some ⟨xb, xf, none⟩) (px + 1) xc (some ⟨yb, yf, none⟩) (py + 1) yc C1 ko kc _ wr false HE (by first | assumption | (simp [*]; done))).mono ?_; rintro e wd ⟨rfl, hlw⟩; obtain ⟨g0, g1, g2, g3, g4, g5⟩ := hcs wd hlw))
              go_wp2
              go_meet
              case rel => exact ⟨rfl, by first | assumption | (simp [*]; done)⟩
          case rest =>
            obtain ⟨rfl, hLz⟩ := hcut
            have hTz := hT.low hLz
            have cw := c0
            clear c0 c1 c2 c3 hT hlow hQ hLz
            generalize wc = u0 at hTz ⊢
            obtain ⟨c0, c1, c2, c3⟩ := hTz.box.cells
            cases r with
            | true =>
              have hh := of_decide_eq_true HRr.out
              obtain ⟨h1, h2, h3⟩ := hh
              obtain ⟨px, rfl⟩ : ∃ q, nx = q + 1 := ⟨nx - 1, by omega⟩
              obtain ⟨py, rfl⟩ : ∃ q, ny = q + 1 := ⟨ny - 1, by omega⟩
              have HV2 : Hid (A1 + px - tb x y A1 (A1 + px) C1 (C1 + py) = b - m ∧ C1 + py - tb x y A1 (A1 + px) C1 (C1 + py) = d - m ∧ wrk (wrk K2 (fp (A1 + px) (C1 + py) 1)) (bp (A1 + px) (C1 + py) (tb x y A1 (A1 + px) C1 (C1 + py))) = wrk KF (bp b d m)) := (by
                have := HV.out
                rw [tb, if_pos ⟨h1, h2, h3⟩, show b' - 1 = A1 + px by omega, show d' - 1 = C1 + py by omega] at this
                obtain ⟨q1, q2, q3⟩ := this
                refine ⟨by omega, by omega, ?_⟩
                rw [← q3, ← wrk_append, bp, show b' - 1 = A1 + px by omega, show d' - 1 = C1 + py by omega]
                rfl)
              clear HV HRr h3
              have hkk := hTz.pz.hk
              have hxk := hold_cap hTz.pz.hx
              have hyk := hold_cap hTz.pz.hy
              have n1 : IntKind.i64.wrap ((px : Int) + 1 - 1) = (px : Int) := by rw [IntKind.wrap_i64]; omega
              have n2 : IntKind.i64.wrap ((py : Int) + 1 - 1) = (py : Int) := by rw [IntKind.wrap_i64]; omega
              have n3 : IntKind.i64.wrap (px : Int) = (px : Int) := by rw [IntKind.wrap_i64]; omega
              have n4 : IntKind.i64.wrap (py : Int) = (py : Int) := by rw [IntKind.wrap_i64]; omega
              have n5 : (px : Int) + 1 - 1 = (px : Int) := by omega
              have n6 : (py : Int) + 1 - 1 = (py : Int) := by omega
              go_wp2_with fail
              go_big_quiet (fail)
              have hTq := hTz.low (Below.dN (Below.refl _ u0) nq)
              clear hTz c0 c1 c2 c3
              generalize u0.drewN nq = uq at hTq ⊢
              obtain ⟨c0, c1, c2, c3⟩ := hTq.box.cells
              go_wp2_with fail
              refine (Keep_1 K2 xo (px + 1) xc yo (py + 1) yc A1 C1 ko kc uq px py hTq.ls hTq.pz.at' (by omega) (by omega) (by omega) (by omega)).mono ?_
              rintro e u1 ⟨rfl, hS1, hG1⟩
              have hT1 := hTq.kept hgw hS1 hG1
              clear hTq c0 c1 c2 c3 hS1 hG1
              obtain ⟨c0, c1, c2, c3⟩ := hT1.box.cells
              go_wp2_with fail
              refine (UpTo_f xo (px + 1) xc yo (py + 1) yc C1 ko kc u1 px py (by omega) (by omega) hxk hyk hkk).mono ?_
              rintro e u2 ⟨rfl, hB2⟩
              have hT2 := hT1.low hB2
              clear hT1 c0 c1 c2 c3 hB2
              obtain ⟨c0, c1, c2, c3⟩ := hT2.box.cells
              have f0 := hT2.box.frozen
              have hT3 := hT2.put hgw (hT2.pz.to (i := px) (j := py) (by omega) (by omega))
              unfold pzV
              go_wp2
              go_roundw
              case rel => exact ⟨A1 + px, C1 + py, _, _, _, _, _, _, _, _, _, hT3, HV2⟩
              case measure =>
                refine Nat.lt_of_le_of_lt (Nat.le_of_eq (congrArg (fun o => lenOf (Option.getD o undef)) hT3.box.cells.1)) ?_
                rw [cw]
                simp [lenOf]
            | false =>
              have hh := of_decide_eq_false HRr.out
              have hz : tb x y A1 b' C1 d' = 0 := by rw [tb, if_neg hh]
              obtain ⟨q1, q2, q3⟩ := HV.out
              rw [hz] at q1 q2 q3
              have HQ : Hid (K2 = wrk KF (bp b d m) ∧ b' = b - m ∧ d' = d - m) := ⟨q3, by omega, by omega⟩
              clear hh hz q1 q2 q3 HV HRr cw
              have f1 := hTz.res.frozen
              obtain ⟨e0, e1, e2, e3⟩ := hTz.res.cells
              have s4 := hTz.res.put (.slice xo nx xc) (.slice yo ny yc) (.int .i64 (C1 : Int)) (.slice ko nx kc)
              have hg1 := hTz.ls.lt
              have hl1 := hTz.ls.low.size
              have hs1 := hTz.gr.size
              have hlt := hTz.res.lt
              have hL4 := ls_other (ls_other (ls_other (ls_other hTz.ls (g := w.heap.size + 1) (by omega) (by omega) 0 (.slice xo nx xc)) (g := w.heap.size + 1) (by omega) (by omega) 1 (.slice yo ny yc)) (g := w.heap.size + 1) (by omega) (by omega) 2 (.int .i64 (C1 : Int))) (g := w.heap.size + 1) (by omega) (by omega) 3 (.slice ko nx kc)
              have hG4 := grown_new (grown_new (grown_new (grown_new hTz.gr (B := w.heap.size + 1) (by omega) 0 (.slice xo nx xc)) (B := w.heap.size + 1) (by omega) 1 (.slice yo ny yc)) (B := w.heap.size + 1) (by omega) 2 (.int .i64 (C1 : Int))) (B := w.heap.size + 1) (by omega) 3 (.slice ko nx kc)
              have hpz := hTz.pz
              go_wp2
              refine bodyPost_ret (v := .agg #[.slice xo nx xc, .slice yo ny yc, .int .i64 (C1 : Int), .slice ko nx kc]) (results_cell_row rfl _ _ (w.heap.size + 1) 243 #[.slice xo nx xc, .slice yo ny yc, .int .i64 (C1 : Int), .slice ko nx kc] (0, 0) _ rfl s4 Tryz.underlying243 rfl (by kernel_rfl)) rfl ⟨k, m, xo, nx, xc, yo, ny, yc, ko, kc, HFin.out.1, HFin.out.2.1, ?_, ?_, ?_, hG4⟩
              · rw [← HFin.out.2.2.2.1]
              · rw [← HFin.out.2.2.1, ← HFin.out.2.2.2.1, ← HQ.out.2.1, ← HQ.out.2.2]
                exact hpz
              · rw [← HFin.out.2.2.2.2, ← HQ.out.1]
                exact hL4
end Go.Proofs.YtgiojkhmkeocfaaGreatDoor

/- The package pieces: KeepAt and KeepMost, walked. -/
set_option maxRecDepth 20000
namespace Go.Proofs.YtgiojkhmkeocfaaGreatDoor
open Go.RowKit

theorem lp_drop (a c : Nat) (K : List Int) (i : Nat) (hi : i < K.length) : lp (a + i) c (K.drop i) = (if K[i] = -1 then [] else [⟨(a : Int) + i, c + K[i]⟩]) ++ lp (a + i + 1) c (K.drop (i + 1)) := by
  rw [List.drop_eq_getElem_cons hi, lp]

set_option maxRecDepth 10000 in
set_option maxHeartbeats 4000000 in
theorem KeepAt_f (x : List Int) (W0 w : World) (g B : Nat) (K Z : List Int) (a c : Nat) (xo : Option Addr) (nx xc : Nat) (yo : Option Addr) (ny yc : Nat) (ko : Option Addr) (kc : Nat) (hat : 0 < nx → ko = some ⟨g, a, none⟩) (hnx : a + nx ≤ x.length) (hny : c + ny ≤ 4096) (hxl : x.length ≤ 4096) (zo : Option Addr) (zc : Nat) (hZl : Z.length = nx) (hO0 : w.ownsRow B 3 1 (.slice zo nx zc) nx (icells Z)) (hgB : g < B) (hV : Vk 0 ny Z) (hS : Ls W0 g x.length K w) (KF : List Int) (hKF : Hid (wrk K (lp a c Z) = KF)) :
    Calls Tryz.prog 193 #[.agg #[.slice xo nx xc, .slice yo ny yc, .int .i64 (c : Int), .slice ko nx kc], .slice zo nx zc] w fun e w' => e = .returned (.tuple #[]) ∧ Ls W0 g x.length KF w' ∧ w.grownBy w' (some g) := by
  have hgw := hS.lt.2
  have HZL : Hid (Z.length = nx) := hZl
  have HV : Hid (Vk 0 ny Z) := hV
  have hB0 := (Below.refl w.heap.size w).alloc (Nat.le_refl _) (.cells #[.slice xo nx xc, .slice yo ny yc, .int .i64 c, .slice ko nx kc] 243)
  have hQ2 := Qbx.new w (.slice xo nx xc) (.slice yo ny yc) (.int .i64 c) (.slice ko nx kc)
  have hS2 := hS.keep hB0
  have hG2 := low_grown hB0 (some g)
  have hO := owns_keep hO0 hB0
  clear hS hB0 hO0 hZl hV
  go_enter Tryz.func193, Tryz.ntmps193
  go_wp2
  go_loopw [8] (fun iv wr => ∃ (i : Nat) (K2 : List Int), i ≤ nx ∧ iv = .int .i64 i ∧ Ls W0 g x.length K2 wr ∧ w.grownBy wr (some g) ∧ Qbx wr w.heap.size (.slice xo nx xc) (.slice yo ny yc) (.int .i64 c) (.slice ko nx kc) ∧ wr.ownsRow B 3 1 (.slice zo nx zc) nx (icells Z) ∧ Hid (wrk K2 (lp ((a : Int) + i) c (Z.drop i)) = KF)) (fun iv _ => nx - (intOf iv).toNat)
  case atStart => exact ⟨0, K, Nat.zero_le _, rfl, hS2, hG2, hQ2, hO, by simpa using hKF⟩
  case round =>
    clear hS2 hG2 hQ2 hO hKF
    obtain ⟨i, K2, hi, rfl, hS, hG, hQ, hO, HW⟩ := hrel
    by_cases hlt : i < nx
    · have hiZ : i < Z.length := by have := HZL.out; omega
      obtain ⟨zb, zf, zcc, hze, _, hcz⟩ := Holds.at (holds_of hO) (by rw [icells_length]; omega)
      cases hze
      have z0 := hcz i (by rw [icells_length]; omega)
      obtain ⟨j, hj⟩ : ∃ j, Z[i] = j := ⟨_, rfl⟩
      have z1 : wr.cell? ⟨zb, zf + i, none⟩ = some (.int .i64 j) := by rw [z0]; simp [icells, hj]
      have hjv := (HV.out.each (Int.le_refl _)) j (by rw [← hj]; exact List.getElem_mem _)
      have hjl := HV.out.lt j (by rw [← hj]; exact List.getElem_mem _)
      have HW2 : Hid (wrk K2 ((if j = -1 then [] else [⟨(a : Int) + i, c + j⟩]) ++ lp ((a : Int) + i + 1) c (Z.drop (i + 1))) = KF) := (by
        show _ = _
        have := HW.out
        rw [List.drop_eq_getElem_cons hiZ, lp, hj] at this
        exact this)
      clear z0 hcz hj HW
      have i1 : 0 ≤ (i : Int) := by omega
      have i2 : (i : Int) < (nx : Int) := by omega
      by_cases hj1 : j = -1
      · have e1 : (j != -1) = false := by simp [hj1]
        have HW3 : Hid (wrk K2 (lp ((a : Int) + ((i + 1 : Nat) : Int)) c (Z.drop (i + 1))) = KF) := (by
          show _ = _
          rw [← HW2.out, if_pos hj1, List.nil_append, show (a : Int) + ((i + 1 : Nat) : Int) = (a : Int) + i + 1 by omega])
        clear HW2 hj1 hjv hjl
        go_wp2
        go_roundw
        case rel => exact ⟨i + 1, K2, by omega, by go_num, hS, hG, hQ, hO, HW3⟩
        case measure => simp [intOf]; omega
      · have e1 : (j != -1) = true := by simp [hj1]
        obtain ⟨q, rfl⟩ : ∃ q : Nat, j = q := ⟨j.toNat, by omega⟩
        have hqn : q < ny := by omega
        have HW3 : Hid (wrk (wrk K2 (fp (a + i) (c + q) 1)) (lp ((a : Int) + ((i + 1 : Nat) : Int)) c (Z.drop (i + 1))) = KF) := (by
          show _ = _
          rw [← HW2.out, if_neg hj1, ← wrk_append, show (a : Int) + ((i + 1 : Nat) : Int) = (a : Int) + i + 1 by omega]
          rfl)
        clear HW2 hj1 hjv hjl
        obtain ⟨c0, c1, c2, c3⟩ := hQ.cells
        go_wp2_with fail
        refine (Keep_1 K2 xo nx xc yo ny yc a c ko kc wr i q hS hat hnx (by omega) (by omega) (by omega)).mono ?_
        rintro e u1 ⟨rfl, hS1, hG1⟩
        have hQ1 := hQ.keep hG1 (by simp; omega)
        have hO1 := holds_grown hO hG1 hgB
        have hG2 := hG.trans hG1
        clear c0 c1 c2 c3 hS hG hQ hO hG1
        go_wp2
        go_roundw
        case rel => exact ⟨i + 1, _, by omega, by go_num, hS1, hG2, hQ1, hO1, HW3⟩
        case measure => simp [intOf]; omega
    · obtain rfl : i = nx := by omega
      have e : K2 = KF := by
        have := HW.out
        rw [List.drop_of_length_le (by have := HZL.out; omega)] at this
        exact this
      subst e
      go_wp2
      go_end0
      exact ⟨rfl, hS, hG⟩

set_option maxRecDepth 10000 in
set_option maxHeartbeats 4000000 in
theorem KeepMost_f (x y : List Int) (W0 w : World) (g : Nat) (K : List Int) (a b c d : Nat) (xo : Option Addr) (nx xc : Nat) (yo : Option Addr) (ny yc : Nat) (ko : Option Addr) (kc : Nat) (hp : Pz W0 g x y a b c d xo nx xc yo ny yc ko kc) (hxl : x.length ≤ 4096) (hyl : y.length ≤ 4096) (hS : Ls W0 g x.length K w) (KF : List Int) (hKF : Hid (wrk K (lp a c (kp 0 (sub x a b) (sub y c d))) = KF)) :
    Calls Tryz.prog 186 #[.agg #[.slice xo nx xc, .slice yo ny yc, .int .i64 (c : Int), .slice ko nx kc]] w fun e w' => e = .returned (.tuple #[]) ∧ Ls W0 g x.length KF w' ∧ w.grownBy w' (some g) := by
  have hgw := hS.lt.2
  have hlow := hS.low
  obtain ⟨X, hX⟩ : ∃ X, sub x a b = X := ⟨_, rfl⟩
  obtain ⟨Y, hY⟩ : ∃ Y, sub y c d = Y := ⟨_, rfl⟩
  obtain ⟨e1, e2, e3, e4, hx, hy, hk, hat⟩ := hp
  have hXl : X.length = nx := by rw [← hX, sub_length x a b e3]; omega
  have hYl : Y.length = ny := by rw [← hY, sub_length y c d e4]; omega
  rw [hX] at hx hKF
  rw [hY] at hy hKF
  obtain ⟨Z, hZ⟩ : ∃ Z, kp 0 X Y = Z := ⟨_, rfl⟩
  have hZl : Z.length = nx := by rw [← hZ, kp_length, hXl]
  have hV : Vk 0 Y.length Z := by
    have := kp_vk 0 X Y (Int.le_refl _)
    rw [hZ, Int.zero_add] at this
    exact this
  obtain ⟨S, hS0⟩ : ∃ S, mkL Z Y.length = S := ⟨_, rfl⟩
  obtain ⟨hSc, hkm, hlen⟩ := keep_mk hV (by omega) (by omega) (by omega)
  rw [hS0] at hSc hkm hlen
  have HS0 : Hid (mkL (kp 0 X Y) Y.length = S) := (by show _ = _; rw [hZ, hS0])
  rw [hZl, hYl] at hSc hkm hlen
  rw [hYl] at hV
  rw [hZ] at hKF
  have HKM : Hid (keepL S nx ny = Z) := hkm
  have hSl : S.length ≤ 1048576 := by omega
  have HZL : Hid (Z.length = nx) := hZl
  have HV : Hid (Vk 0 ny Z) := hV
  have HE : Hid (b = a + nx ∧ d = c + ny ∧ b ≤ x.length ∧ d ≤ y.length ∧ X.length = nx ∧ Y.length = ny) := ⟨e1, e2, e3, e4, hXl, hYl⟩
  have hnx : a + nx ≤ x.length := by omega
  have hny : c + ny ≤ y.length := by omega
  have hx0 : HI (w.alloc (.cells #[.slice xo nx xc, .slice yo ny yc, .int .i64 c, .slice ko nx kc] 243)) (.slice xo nx xc) X := (by
    unfold HI
    rw [hXl]
    exact Holds.keep hx (fun q hq => ((hlow.alloc hlow.size _).block q hq)))
  have hy0 : HI (w.alloc (.cells #[.slice xo nx xc, .slice yo ny yc, .int .i64 c, .slice ko nx kc] 243)) (.slice yo ny yc) Y := (by
    unfold HI
    rw [hYl]
    exact Holds.keep hy (fun q hq => ((hlow.alloc hlow.size _).block q hq)))
  have hQ0 := Qbx.new w (.slice xo nx xc) (.slice yo ny yc) (.int .i64 c) (.slice ko nx kc)
  have hB0 := (Below.refl w.heap.size w).alloc (Nat.le_refl _) (.cells #[.slice xo nx xc, .slice yo ny yc, .int .i64 c, .slice ko nx kc] 243)
  clear hX hY hZ hS0 hkm hlen hZl hV hXl hYl e1 e2 hlow
  go_enter Tryz.func186, Tryz.ntmps186
  go_wp2_with fail
  refine (Diff_f X Y _ _ _ hx0 hy0 (by have := HE.out; omega) (by have := HE.out; omega) S HS0).mono ?_
  rintro e w1 ⟨v1, rfl, hv1, hB1⟩
  obtain ⟨so, sc, rfl⟩ := Holds.form hv1
  have hQ1 := hQ0.low hB1
  obtain ⟨c0, c1, c2, c3⟩ := hQ1.cells
  have hBw1 : Below w.heap.size w w1 := hB0.trans (hB1.mono (by simp))
  clear hQ0 hB1 hB0 hx0 hy0
  go_wp2_with fail
  refine (Keep_own S nx ny _ w1 hv1 hSc (by omega) (by omega) hSl).mono ?_
  rintro e W1 ⟨v2, B, rfl, hBB, hO, hB2⟩
  rw [HKM.out] at hO
  obtain ⟨zo, zc, rfl⟩ := (holds_of hO).form
  rw [HZL.out]
  rw [HZL.out] at hO
  have hQ2 := hQ1.low hB2
  have hBW : Below w.heap.size w W1 := hBw1.trans (hB2.mono hBw1.size)
  have hS2 := hS.keep hBW
  have hG2 := low_grown hBW (some g)
  have hgB : g < B := by have := hBw1.size; omega
  have hnz : c + ny ≤ 4096 := by omega
  obtain ⟨q0, q1, q2, q3⟩ := hQ2.cells
  clear c0 c1 c2 c3 hQ1 hBw1 hB2 hBW hBB hS hv1 hSc hSl
  go_wp2_with fail
  refine (KeepAt_f x W0 W1 g B K Z a c xo nx xc yo ny yc ko kc hat hnx hnz hxl zo zc HZL.out hO hgB HV.out hS2 KF hKF).mono ?_
  rintro e u1 ⟨rfl, hS3, hG3⟩
  have hG4 := hG2.trans hG3
  go_wp2
  go_end0
  exact ⟨rfl, hS3, hG4⟩
end Go.Proofs.YtgiojkhmkeocfaaGreatDoor

/- The package pieces: the calls as steps that hand a piece on. -/
set_option maxRecDepth 20000
namespace Go.Proofs.YtgiojkhmkeocfaaGreatDoor
open Go.RowKit
section
variable {W0 : World} {g : Nat} {x y : List Int} {a b c d : Nat} {xo : Option Addr} {nx xc : Nat} {yo : Option Addr} {ny yc : Nat} {ko : Option Addr} {kc : Nat}
theorem UpTo_p (hp : Pz W0 g x y a b c d xo nx xc yo ny yc ko kc) (i j b2 d2 : Nat) (hi : i ≤ nx) (hj : j ≤ ny) (hb : a + i = b2) (hd : c + j = d2) (W u : World) (hL : Low W u) :
    Calls Tryz.prog 187 #[.agg #[.slice xo nx xc, .slice yo ny yc, .int .i64 (c : Int), .slice ko nx kc], .int .i64 (i : Int), .int .i64 (j : Int)] u fun e w' => ∃ xo' nx' xc' yo' ny' yc' ko' kc', e = .returned (.agg #[.slice xo' nx' xc', .slice yo' ny' yc', .int .i64 (c : Int), .slice ko' nx' kc']) ∧ Pz W0 g x y a b2 c d2 xo' nx' xc' yo' ny' yc' ko' kc' ∧ Low W w' := by
  refine (UpTo_f xo nx xc yo ny yc c ko kc u i j hi hj (hold_cap hp.hx) (hold_cap hp.hy) hp.hk).mono ?_
  rintro e w' ⟨rfl, hB⟩
  subst hb hd
  exact ⟨_, _, _, _, _, _, _, _, rfl, hp.to hi hj, Below.trans hL (hB.mono (Below.size hL))⟩
theorem From_p (hp : Pz W0 g x y a b c d xo nx xc yo ny yc ko kc) (hyl : y.length ≤ 4096) (i j a2 c2 : Nat) (hi : a2 ≤ b) (hj : c2 ≤ d) (ha : a + i = a2) (hc : c + j = c2) (W u : World) (hL : Low W u) :
    Calls Tryz.prog 188 #[.agg #[.slice xo nx xc, .slice yo ny yc, .int .i64 (c : Int), .slice ko nx kc], .int .i64 (i : Int), .int .i64 (j : Int)] u fun e w' => ∃ xo' nx' xc' yo' ny' yc' ko' kc', e = .returned (.agg #[.slice xo' nx' xc', .slice yo' ny' yc', .int .i64 (c2 : Int), .slice ko' nx' kc']) ∧ Pz W0 g x y a2 b c2 d xo' nx' xc' yo' ny' yc' ko' kc' ∧ Low W w' := by
  have e1 := hp.eb
  have e2 := hp.ed
  have e3 := hp.dy
  refine (From_f xo nx xc yo ny yc c ko kc u i j (by omega) (by omega) (hold_cap hp.hx) (hold_cap hp.hy) hp.hk (by omega)).mono ?_
  rintro e w' ⟨rfl, hB⟩
  subst ha hc
  exact ⟨_, _, _, _, _, _, _, _, rfl, hp.from (by omega) (by omega), Below.trans hL (hB.mono (Below.size hL))⟩
theorem upTo_held (hp : Pz W0 g x y a b c d xo nx xc yo ny yc ko kc) (i j b2 d2 : Nat) (hi : i ≤ nx) (hj : j ≤ ny) (hb : a + i = b2) (hd : c + j = d2) (W u : World) (hL : Low W u) :
    Calls Tryz.prog 187 (#[.agg #[.slice xo nx xc, .slice yo ny yc, .int .i64 (c : Int), .slice ko nx kc], .int .i64 (i : Int), .int .i64 (j : Int)] ++ #[]) u fun e w' => ∃ v, e = .returned v ∧ W.grownBy w' (some g) ∧ ∃ xo' nx' xc' yo' ny' yc' ko' kc', v = .agg #[.slice xo' nx' xc', .slice yo' ny' yc', .int .i64 (c : Int), .slice ko' nx' kc'] ∧ Pz W0 g x y a b2 c d2 xo' nx' xc' yo' ny' yc' ko' kc' ∧ Low W w' := by
  refine (UpTo_p hp i j b2 d2 hi hj hb hd W u hL).mono ?_
  rintro e w' ⟨x1, x2, x3, x4, x5, x6, x7, x8, rfl, h1, h2⟩
  exact ⟨_, rfl, low_grown h2 _, x1, x2, x3, x4, x5, x6, x7, x8, rfl, h1, h2⟩
theorem from_held (hp : Pz W0 g x y a b c d xo nx xc yo ny yc ko kc) (hyl : y.length ≤ 4096) (i j a2 c2 : Nat) (hi : a2 ≤ b) (hj : c2 ≤ d) (ha : a + i = a2) (hc : c + j = c2) (W u : World) (hL : Low W u) :
    Calls Tryz.prog 188 (#[.agg #[.slice xo nx xc, .slice yo ny yc, .int .i64 (c : Int), .slice ko nx kc], .int .i64 (i : Int), .int .i64 (j : Int)] ++ #[]) u fun e w' => ∃ v, e = .returned v ∧ W.grownBy w' (some g) ∧ ∃ xo' nx' xc' yo' ny' yc' ko' kc', v = .agg #[.slice xo' nx' xc', .slice yo' ny' yc', .int .i64 (c2 : Int), .slice ko' nx' kc'] ∧ Pz W0 g x y a2 b c2 d xo' nx' xc' yo' ny' yc' ko' kc' ∧ Low W w' := by
  refine (From_p hp hyl i j a2 c2 hi hj ha hc W u hL).mono ?_
  rintro e w' ⟨x1, x2, x3, x4, x5, x6, x7, x8, rfl, h1, h2⟩
  exact ⟨_, rfl, low_grown h2 _, x1, x2, x3, x4, x5, x6, x7, x8, rfl, h1, h2⟩
theorem call_held {P : Program} {F : Nat} {args : Array Value} {W u : World} {K : List Int} {N : Nat} (hL : Low W u) (h : Calls P F args u fun e w' => e = .returned (.tuple #[]) ∧ Ls W0 g N K w' ∧ u.grownBy w' (some g)) :
    Calls P F args u fun e w' => ∃ v, e = .returned v ∧ W.grownBy w' (some g) ∧ (v = .tuple #[] ∧ Ls W0 g N K w') := by
  refine h.mono ?_
  rintro e w' ⟨rfl, h1, h2⟩
  exact ⟨_, rfl, (low_grown hL (some g)).trans h2, rfl, h1⟩
end
end Go.Proofs.YtgiojkhmkeocfaaGreatDoor

/- The package pieces: Diff with whatever function finds what is kept, walked. -/
set_option maxRecDepth 20000
namespace Go.Proofs.YtgiojkhmkeocfaaGreatDoor
open Go.RowKit

theorem betw_many (a b : Int) (l : List Rn) : (betw a b l).length ≤ l.length := by
  induction l generalizing a b with
  | nil => simp [betw]
  | cons r l ih =>
    rw [betw]
    have := ih (r.a + r.n) (r.b + r.n)
    split <;> simp <;> omega
theorem mk_many (K : List Int) (m : Int) : (mkL K m).length ≤ K.length + 1 := by
  unfold mkL
  have h1 := betw_many 0 0 (keptR 0 K ++ [⟨(K.length : Int), m, 0⟩])
  have h2 := kept_len 0 K
  rw [List.length_append, List.length_singleton] at h1
  omega

set_option maxRecDepth 10000 in
set_option maxHeartbeats 2000000 in
theorem pDiff_f (x y : List Int) (vx vy : Value) (w : World) (hx : HI w vx x) (hy : HI w vy y) (hxl : x.length ≤ 4096) (hyl : y.length ≤ 4096) (F : Nat) (cap : Array Value) (eF : ∀ args w, (callFunc F args).run Tryz.prog w = .ok (.enter F args) w) (KF : List Int) (hK : Hid (Kpt x y KF))
    (hf : Hid (∀ (u : World) (g : Nat) (xo : Option Addr) (xc : Nat) (yo : Option Addr) (yc : Nat), Ls w g x.length (List.replicate x.length (-1)) u → Pz w g x y 0 x.length 0 y.length xo x.length xc yo y.length yc (some ⟨g, 0, none⟩) x.length → Calls Tryz.prog F (#[.agg #[.slice xo x.length xc, .slice yo y.length yc, .int .i64 0, .slice (some ⟨g, 0, none⟩) x.length x.length]] ++ cap) u fun e w' => e = .returned (.tuple #[]) ∧ Ls w g x.length KF w' ∧ u.grownBy w' (some g))) (L : List Ch) (hL : Hid (mkL KF y.length = L)) :
    Calls Tryz.prog 190 #[vx, vy, .func (.func F) #[] cap] w fun e w' => ∃ v', e = .returned (.tuple #[v', .int .i64 0]) ∧ HCh w' v' L ∧ Below w.heap.size w w' := by
  obtain ⟨xo, xc, rfl⟩ := Holds.form hx
  obtain ⟨yo, yc, rfl⟩ := Holds.form hy
  have e1 : decide ((4096 : Int) < (x.length : Int)) = false := decide_eq_false (by omega)
  have e2 : decide ((4096 : Int) < (y.length : Int)) = false := decide_eq_false (by omega)
  go_enter Tryz.func190, Tryz.ntmps190
  go_wp2_with fail
  have hB0 : Below w.heap.size w (w.alloc (Obj.cells #[Value.int IntKind.i64 (-1)] 3)) := (Below.refl _ w).alloc (Nat.le_refl _) _
  refine (Repeat_f x.length (by omega) _ _ (show HI _ _ [-1] from new_holds w _ _ _ _ (by decide))).mono ?_
  rintro e w1 ⟨g, rfl, hO1, hB1⟩
  have hB01 := hB0.trans (hB1.mono hB0.size)
  have hO1' : w1.ownsRow w.heap.size 3 1 (.slice (some ⟨g, 0, none⟩) x.length x.length) x.length (icells (List.replicate x.length (-1))) := by
    refine ⟨hO1.1, ?_⟩
    rcases hO1.2 with h | ⟨g', cap, cur, q1, q2, q3⟩
    · exact .inl h
    · exact .inr ⟨g', cap, cur, q1, Nat.le_trans (by simp) q2, q3⟩
  have hp : Pz w g x y 0 x.length 0 y.length xo x.length xc yo y.length yc (some ⟨g, 0, none⟩) x.length := ⟨by omega, by omega, Nat.le_refl _, Nat.le_refl _, by rw [sub_all]; exact hx, by rw [sub_all]; exact hy, Nat.le_refl _, fun _ => rfl⟩
  have hc := hf.out w1 g xo xc yo yc ⟨hB01, hO1'⟩ hp
  clear hB0 hB1 hO1 hO1'
  go_wp2_with (first | (go_at_fn F; refine hc.mono ?_; rintro e w2 ⟨rfl, hS2, hG2⟩) | fail)
  have hKl := hK.out.len
  have hv2 : HI w2 (.slice (some ⟨g, 0, none⟩) x.length x.length) KF := by
    unfold HI
    rw [hKl]
    exact holds_of hS2.own
  refine (Make_f KF y.length L _ w2 hv2 (by omega) hK.out.vk (by omega) (by omega) hL).mono ?_
  rintro e w3 ⟨v3, rfl, hv3, hB3⟩
  have hB := hS2.low.trans (hB3.mono hS2.low.size)
  clear hc hKl hv2
  go_wp2
  go_ret2
  exact ⟨_, rfl, hv3, hB⟩
set_option maxHeartbeats 2000000 in
theorem pDiff_long (x y : List Int) (vx vy vf : Value) (w : World) (hx : HI w vx x) (hy : HI w vy y) (hl : 4096 < x.length ∨ 4096 < y.length) :
    Calls Tryz.prog 190 #[vx, vy, vf] w fun e w' => e = .returned (.tuple #[.slice none 0 0, .int .i64 9]) ∧ w = w' := by
  obtain ⟨xo, xc, rfl⟩ := Holds.form hx
  obtain ⟨yo, yc, rfl⟩ := Holds.form hy
  go_enter Tryz.func190, Tryz.ntmps190
  have HL : Hid (4096 < x.length ∨ 4096 < y.length) := hl
  clear hl
  by_cases h1 : 4096 < x.length
  · have e1 : decide ((4096 : Int) < (x.length : Int)) = true := decide_eq_true (by omega)
    go_wp2
    go_ret2
    exact ⟨rfl, rfl⟩
  · have e1 : decide ((4096 : Int) < (x.length : Int)) = false := decide_eq_false (by omega)
    have h2 : 4096 < y.length := by have := HL.out; omega
    have e2 : decide ((4096 : Int) < (y.length : Int)) = true := decide_eq_true (by omega)
    go_wp2
    go_ret2
    exact ⟨rfl, rfl⟩
end Go.Proofs.YtgiojkhmkeocfaaGreatDoor

/- Lines that are there once: plain; the reference's times and Unique, and the law's same, walked. -/
set_option maxRecDepth 20000
namespace Go.Proofs.YtgiojkhmkeocfaaGreatDoor
open Go.RowKit

/-- how often a class stands in a text -/
def tm (c : Int) : List Int → Nat
  | [] => 0
  | a :: x => (if a = c then 1 else 0) + tm c x
theorem tm_le (c : Int) (x : List Int) : tm c x ≤ x.length := by
  induction x with
  | nil => simp [tm]
  | cons a x ih => rw [tm, List.length_cons]; split <;> omega
/-- the places of a class from place j on, each with i -/
def ps (c i : Int) : Int → List Int → List Pr
  | _, [] => []
  | j, b :: y => (if b = c then [⟨i, j⟩] else []) ++ ps c i (j + 1) y
/-- the pairs of classes that stand once in each, from place i on -/
def uq (x0 y0 : List Int) : Int → List Int → List Pr
  | _, [] => []
  | i, a :: x => (if tm a x0 = 1 ∧ tm a y0 = 1 then ps a i 0 y0 else []) ++ uq x0 y0 (i + 1) x
def unq (x y : List Int) : List Pr := uq x y 0 x
theorem ps_length (c i j : Int) (y : List Int) : (ps c i j y).length = tm c y := by
  induction y generalizing j with
  | nil => rfl
  | cons b y ih =>
    rw [ps, tm, List.length_append, ih]
    split <;> simp
theorem uq_length (x0 y0 : List Int) (i : Int) (x : List Int) : (uq x0 y0 i x).length ≤ x.length := by
  induction x generalizing i with
  | nil => simp [uq]
  | cons a x ih =>
    rw [uq, List.length_append, List.length_cons]
    have := ih (i + 1)
    split
    · rename_i h
      rw [ps_length]
      omega
    · simp; omega

end Go.Proofs.YtgiojkhmkeocfaaGreatDoor

/- What is kept of two pieces, by the layer patience: plain. -/
set_option maxRecDepth 20000
namespace Go.Proofs.YtgiojkhmkeocfaaGreatDoor

theorem pick_mem (left : Nat) (last : Option Pr) (l : List Pr) (ns : List Nat) : ∀ p ∈ pick left last l ns, p ∈ l := by
  induction l generalizing left last ns with
  | nil => intro p hp; simp [pick] at hp
  | cons a l ih =>
    intro p hp
    cases ns with
    | nil => simp [pick] at hp
    | cons n ns =>
      rw [pick] at hp
      split at hp
      · rcases List.mem_cons.1 hp with rfl | hp
        · exact List.mem_cons_self ..
        · exact List.mem_cons_of_mem _ (ih _ _ _ p hp)
      · exact List.mem_cons_of_mem _ (ih _ _ _ p hp)
theorem pick_rise (left : Nat) (last : Option Pr) (l : List Pr) (ns : List Nat) : (pick left last l ns).Pairwise (fun p q => ab q p) ∧ ∀ q, last = some q → ∀ p ∈ pick left last l ns, ab p q := by
  induction l generalizing left last ns with
  | nil => exact ⟨by simp [pick], fun _ _ p hp => by simp [pick] at hp⟩
  | cons a l ih =>
    cases ns with
    | nil => exact ⟨by simp [pick], fun _ _ p hp => by simp [pick] at hp⟩
    | cons n ns =>
      rw [pick]
      split
      · rename_i h
        obtain ⟨h1, h2⟩ := ih (left - 1) (some a) ns
        refine ⟨List.Pairwise.cons (fun q hq => h2 a rfl q hq) h1, fun q hq p hp => ?_⟩
        rcases List.mem_cons.1 hp with rfl | hp
        · exact h.2 q hq
        · exact ab_trans (h2 a rfl p hp) (h.2 q hq)
      · exact ih left last ns
theorem lng_mem (l : List Pr) : ∀ p ∈ lng l, p ∈ l := pick_mem _ _ _ _
theorem lng_rise (l : List Pr) : (lng l).Pairwise (fun p q => ab q p) := (pick_rise _ _ _ _).1
theorem ps_mem {c i : Int} (y : List Int) : ∀ (j : Int) (p : Pr), p ∈ ps c i j y → p.X = i ∧ j ≤ p.Y ∧ p.Y < j + y.length := by
  induction y with
  | nil => intro j p hp; simp [ps] at hp
  | cons b y ih =>
    intro j p hp
    rw [ps, List.mem_append] at hp
    rcases hp with hp | hp
    · split at hp
      · simp at hp
        subst hp
        exact ⟨rfl, Int.le_refl _, by simp; omega⟩
      · simp at hp
    · have := ih (j + 1) p hp
      simp only [List.length_cons]
      omega
theorem uq_mem (x0 y0 : List Int) (x : List Int) : ∀ (i : Int) (p : Pr), p ∈ uq x0 y0 i x → i ≤ p.X ∧ p.X < i + x.length ∧ 0 ≤ p.Y ∧ p.Y < y0.length := by
  induction x with
  | nil => intro i p hp; simp [uq] at hp
  | cons a x ih =>
    intro i p hp
    rw [uq, List.mem_append] at hp
    rcases hp with hp | hp
    · split at hp
      · have := ps_mem y0 0 p hp
        simp only [List.length_cons]
        omega
      · simp at hp
    · have := ih (i + 1) p hp
      simp only [List.length_cons]
      omega
theorem lu_mem (x y : List Int) (p : Pr) (hp : p ∈ lng (unq x y)) : 0 ≤ p.X ∧ p.X < x.length ∧ 0 ≤ p.Y ∧ p.Y < y.length := by
  have := uq_mem x y x 0 p (lng_mem _ p hp)
  omega

/-- what lies between the pairs of a row, and they themselves -/
def gos (rec : Nat → Nat → Nat → Nat → List Pr) (A C b d : Nat) : Nat → Nat → List Pr → List Pr
  | a, c, [] => rec a b c d
  | a, c, p :: L => rec a (A + p.X.toNat) c (C + p.Y.toNat) ++ ⟨(A + p.X.toNat : Nat), (C + p.Y.toNat : Nat)⟩ :: gos rec A C b d (A + p.X.toNat + 1) (C + p.Y.toNat + 1) L
/-- what is kept of a middle -/
def pmid (x y : List Int) (rec : Nat → Nat → Nat → Nat → List Pr) (a b c d : Nat) : List Pr :=
  if lng (unq (sub x a b) (sub y c d)) = [] then lp a c (kp 0 (sub x a b) (sub y c d)) else gos rec a c b d a c (lng (unq (sub x a b) (sub y c d)))
theorem ps_eqs {c i : Int} (y : List Int) : ∀ (j : Nat) (p : Pr), p ∈ ps c i j y → y[p.Y.toNat - j]? = some c := by
  induction y with
  | nil => intro j p hp; simp [ps] at hp
  | cons b y ih =>
    intro j p hp
    rw [ps, List.mem_append] at hp
    rcases hp with hp | hp
    · split at hp
      · rename_i h
        simp at hp
        subst hp
        simp [h]
      · simp at hp
    · have h1 := ih (j + 1) p (by simpa using hp)
      have h2 := ps_mem y (j + 1 : Int) p hp
      rw [show p.Y.toNat - j = (p.Y.toNat - (j + 1)) + 1 by omega]
      simpa using h1
theorem uq_eqs (x0 y0 : List Int) (x : List Int) : ∀ (i : Nat) (p : Pr), p ∈ uq x0 y0 i x → x[p.X.toNat - i]? = y0[p.Y.toNat]? := by
  induction x with
  | nil => intro i p hp; simp [uq] at hp
  | cons a x ih =>
    intro i p hp
    rw [uq, List.mem_append] at hp
    rcases hp with hp | hp
    · split at hp
      · have h1 := ps_eqs y0 0 p (by simpa using hp)
        have h2 := ps_mem y0 0 p hp
        simp at h1
        rw [h1, h2.1]
        simp
      · simp at hp
    · have h1 := ih (i + 1) p (by simpa using hp)
      have h2 := uq_mem x0 y0 x (i + 1 : Int) p hp
      rw [show p.X.toNat - i = (p.X.toNat - (i + 1)) + 1 by omega]
      simpa using h1
/-- the row of a middle lies within it -/
theorem row_in (x y : List Int) (a b c d : Nat) (hb : b ≤ x.length) (hd : d ≤ y.length) (p : Pr) (hp : p ∈ lng (unq (sub x a b) (sub y c d))) : 0 ≤ p.X ∧ 0 ≤ p.Y ∧ a ≤ a + p.X.toNat ∧ a + p.X.toNat < b ∧ c ≤ c + p.Y.toNat ∧ c + p.Y.toNat < d ∧ x[a + p.X.toNat]? = y[c + p.Y.toNat]? := by
  have h := lu_mem _ _ p hp
  have h2 := uq_eqs _ _ _ 0 p (lng_mem _ p hp)
  rw [sub_length x a b hb, sub_length y c d hd] at h
  rw [Nat.sub_zero, sub_at x a b _ (by omega), sub_at y c d _ (by omega)] at h2
  refine ⟨by omega, by omega, by omega, by omega, by omega, by omega, h2⟩
theorem gos_ok (x y : List Int) (rec : Nat → Nat → Nat → Nat → List Pr) (A C b d : Nat) (hrec : ∀ a' b' c' d', a' ≤ b' → b' ≤ b → c' ≤ d' → d' ≤ d → Okp x y a' b' c' d' (rec a' b' c' d')) (L : List Pr) :
    ∀ a c, a ≤ b → c ≤ d → (∀ p ∈ L, 0 ≤ p.X ∧ 0 ≤ p.Y ∧ a ≤ A + p.X.toNat ∧ A + p.X.toNat < b ∧ c ≤ C + p.Y.toNat ∧ C + p.Y.toNat < d ∧ x[A + p.X.toNat]? = y[C + p.Y.toNat]?) → L.Pairwise (fun p q => ab q p) → Okp x y a b c d (gos rec A C b d a c L) := by
  induction L with
  | nil => intro a c ha hc _ _; exact hrec a b c d ha (Nat.le_refl _) hc (Nat.le_refl _)
  | cons p L ih =>
    intro a c ha hc hL hR
    rw [gos]
    have hp := hL p (List.mem_cons_self ..)
    have hR' := List.pairwise_cons.1 hR
    have h1 := hrec a (A + p.X.toNat) c (C + p.Y.toNat) (by omega) (by omega) (by omega) (by omega)
    have h2 := Okp.one hp.2.2.2.2.2.2
    have h3 := ih (A + p.X.toNat + 1) (C + p.Y.toNat + 1) (by omega) (by omega) (fun q hq => by
      have e1 := hL q (List.mem_cons_of_mem _ hq)
      have e2 := hR'.1 q hq
      unfold ab at e2
      refine ⟨by omega, by omega, by omega, by omega, by omega, by omega, e1.2.2.2.2.2.2⟩) hR'.2
    exact h1.cat (h2.cat h3 (.inl ⟨by omega, by omega⟩) (A := A + p.X.toNat) (B := b) (C := C + p.Y.toNat) (D := d) ⟨by omega, by omega⟩ ⟨by omega, by omega⟩ ⟨by omega, by omega⟩ ⟨by omega, by omega⟩) (.inl ⟨by omega, by omega⟩) ⟨by omega, by omega⟩ ⟨by omega, by omega⟩ ⟨by omega, by omega⟩ ⟨by omega, by omega⟩
theorem pmid_ok (x y : List Int) : MOk (pmid x y) x y := by
  intro rec a b c d hab hb hcd hd hrec
  unfold pmid
  split
  · exact least_ok x y a b c d (by omega) hb (by omega) hd
  · exact gos_ok x y rec a c b d (fun a' b' c' d' h1 h2 h3 h4 => hrec a' b' c' d' h1 (by omega) h3 (by omega)) _ a c (by omega) (by omega) (fun p hp => row_in x y a b c d hb hd p hp) (lng_rise _)
end Go.Proofs.YtgiojkhmkeocfaaGreatDoor

/- Going through the pairs of a row, piece by piece: plain. -/
set_option maxRecDepth 20000
namespace Go.Proofs.YtgiojkhmkeocfaaGreatDoor

/-- what is still to be done: the pairs L, from a and c on -/
structure Gs (rec : Nat → Nat → Nat → Nat → List Pr) (A C b d : Nat) (L : List Pr) (a c : Nat) (K KF : List Int) : Prop where
  ab' : a ≤ b
  cd : c ≤ d
  Aa : A ≤ a
  Cc : C ≤ c
  all : ∀ p ∈ L, 0 ≤ p.X ∧ 0 ≤ p.Y ∧ a ≤ A + p.X.toNat ∧ A + p.X.toNat < b ∧ c ≤ C + p.Y.toNat ∧ C + p.Y.toNat < d
  up : L.Pairwise (fun p q => ab q p)
  fin : wrk K (gos rec A C b d a c L) = KF
theorem Gs.start {rec : Nat → Nat → Nat → Nat → List Pr} {x y : List Int} {a b c d : Nat} (hab : a ≤ b) (hb : b ≤ x.length) (hcd : c ≤ d) (hd : d ≤ y.length) {K KF : List Int} (h : wrk K (gos rec a c b d a c (lng (unq (sub x a b) (sub y c d)))) = KF) : Gs rec a c b d (lng (unq (sub x a b) (sub y c d))) a c K KF :=
  ⟨hab, hcd, Nat.le_refl _, Nat.le_refl _, fun p hp => by have := row_in x y a b c d hb hd p hp; omega, lng_rise _, h⟩
section
variable {rec : Nat → Nat → Nat → Nat → List Pr} {A C b d : Nat} {p : Pr} {L : List Pr} {a c : Nat} {K KF : List Int}
theorem Gs.head (h : Gs rec A C b d (p :: L) a c K KF) : ∃ u v : Nat, p.X = u ∧ p.Y = v ∧ a ≤ A + u ∧ A + u < b ∧ c ≤ C + v ∧ C + v < d := by
  have := h.all p (List.mem_cons_self ..)
  exact ⟨p.X.toNat, p.Y.toNat, by omega, by omega, by omega, by omega, by omega, by omega⟩
theorem Gs.step (h : Gs rec A C b d (p :: L) a c K KF) {u v : Nat} (hu : p.X = u) (hv : p.Y = v) : Gs rec A C b d L (A + u + 1) (C + v + 1) (wrk (wrk K (rec a (A + u) c (C + v))) (fp (A + u) (C + v) 1)) KF := by
  have h0 := h.all p (List.mem_cons_self ..)
  have h1 := List.pairwise_cons.1 h.up
  have e1 : p.X.toNat = u := by omega
  have e2 : p.Y.toNat = v := by omega
  refine ⟨by omega, by omega, by have := h.Aa; omega, by have := h.Cc; omega, fun q hq => ?_, h1.2, ?_⟩
  · have h2 := h.all q (List.mem_cons_of_mem _ hq)
    have h3 := h1.1 q hq
    unfold ab at h3
    omega
  · rw [← h.fin, gos, e1, e2, ← wrk_append, ← wrk_append]
    rfl
theorem Gs.end' (h : Gs rec A C b d [] a c K KF) : wrk K (rec a b c d) = KF := h.fin
end
end Go.Proofs.YtgiojkhmkeocfaaGreatDoor

/- slices.Insert of one pair into a row of pairs, walked. -/
set_option maxRecDepth 20000
namespace Go.Proofs.YtgiojkhmkeocfaaGreatDoor
open Go.RowKit

abbrev tH : TypeId := 311
abbrev tP : TypeId := 249
theorem undH : Tryz.prog.underlying 311 = some (.slice 249) := by kernel_rfl
theorem undP : Tryz.prog.underlying 245 = some (.slice 249) := by kernel_rfl
theorem elemH : Tryz.prog.elem 311 = 249 := by kernel_rfl
theorem row_blk {w : World} {base : Nat} {v : Value} {n : Nat} {xs : List Value} (hO : w.ownsRow base 249 2 v n xs) (h0 : 0 < n) : ∃ g cap cur, v = .slice (some ⟨g, 0, none⟩) n cap ∧ base ≤ g ∧ Blk w g cur ∧ n ≤ cap ∧ cap ≤ maxLen ∧ cur.length = cap * 2 ∧ cur.take (n * 2) = xs := by
  rcases hO.2 with ⟨_, h1, _⟩ | ⟨g, cap, cur, q1, q2, q3, q4, q5, q6, q7⟩
  · omega
  · exact ⟨g, cap, cur.toList, q1, q2, by unfold Blk; simpa using q3, q4, q5, by simpa using q6, q7⟩
theorem blk_row {w : World} {base g n cap : Nat} {cur xs : List Value} (hg : Blk w g cur) (hb : base ≤ g) (hn : n ≤ cap) (hc : cap ≤ maxLen) (hl : cur.length = cap * 2) (ht : cur.take (n * 2) = xs) : w.ownsRow base 249 2 (.slice (some ⟨g, 0, none⟩) n cap) n xs := by
  refine ⟨?_, .inr ⟨g, cap, cur.toArray, rfl, hb, hg, hn, hc, by simpa using hl, by simpa using ht⟩⟩
  rw [← ht, List.length_take]
  omega
theorem pr_src {w : World} {gp : Nat} {p : Pr} (h : Blk w gp (prC p)) : ∀ j v, (prC p)[j]? = some v → w.cell? ((⟨gp, 0, none⟩ : Addr).add j) = some v := fun j v hj => by
  rw [add_none, Nat.zero_add, h.cell j]
  exact hj
theorem prC_one (p : Pr) : ∀ u ∈ prC p, u.oneCell' = true := by intro u hu; simp [prC] at hu; rcases hu with rfl | rfl <;> rfl
/-- what a row of one's own becomes -/
def Grows (base : Nat) (w : World) (v : Value) (v' : Value) (l : List Pr) (w' : World) : Prop :=
  w'.ownsRow base 249 2 v' l.length (prcells l) ∧ w.grownBy w' v.ownBlock ∧ (v'.ownBlock = v.ownBlock ∨ ∃ g, v'.ownBlock = some g ∧ w.heap.size ≤ g)

theorem drew_grown (w : World) (r : Option Nat) : w.grownBy w.drew r := ⟨rfl, rfl, rfl, Nat.le_refl _, fun _ _ _ => rfl⟩

set_option maxRecDepth 10000 in
set_option maxHeartbeats 2000000 in
theorem Insert_end (h : List Pr) (p : Pr) (v : Value) (gp base : Nat) (w : World) (hO : w.ownsRow base 249 2 v h.length (prcells h)) (hb : base ≤ w.heap.size) (hp : Blk w gp (prC p)) (hl : h.length ≤ 1048576) :
    Calls Tryz.prog 295 #[v, .int .i64 (h.length : Int), .slice (some ⟨gp, 0, none⟩) 1 1] w fun e w' => ∃ v', e = .returned v' ∧ Grows base w v v' (h ++ [p]) w' := by
  obtain ⟨ao, c, rfl⟩ := (holds_of hO).form
  have hh : Holds w (.slice (some ⟨gp, 0, none⟩) 1 1) 1 (prC p) := .inr ⟨_, 1, rfl, Nat.le_refl _, pr_src hp⟩
  obtain ⟨v', w', hr, h2, h3, h4⟩ := run_append_h w 311 249 311 (.agg #[.int .i64 0, .int .i64 0]) 2 16 undH infoPr rfl (by decide) (by decide) base (.slice ao h.length c) h.length (prcells h) hO (.slice (some ⟨gp, 0, none⟩) 1 1) 1 (prC p) hh rfl (prC_one p) (by omega) hb
  have hr' : ∀ ty, (Builtin.append_ #[311, 245] ty #[.slice ao h.length c, .slice (some ⟨gp, 0, none⟩) 1 1]).run Tryz.prog w = .ok v' w' := fun ty => (run_append_types undH undP ty _ _ _ _ _ _ w).trans hr
  obtain ⟨ao', c', rfl⟩ := (holds_of h2).form
  obtain ⟨x0, x1, x2, s0⟩ : ∃ x0 x1 x2, ∀ u : World, (Instr.slice 311 (.slice ao h.length c) (some (.int .i64 (h.length : Int))) none none).run Tryz.prog u = .ok (.slice x0 x1 x2) u := ⟨_, _, _, fun u => by
    rw [run_slice_l (P := Tryz.prog) u 311 ao h.length c (by rw [undH, ← elemH]) .i64 h.length (by omega) (by omega), elemH, size_of_pr]
    rfl⟩
  go_enter Tryz.func295, Tryz.ntmps295
  go_wp2_with (at_builtin; refine wpList_ap _ (by kernel_rfl) (.tmp 23) (.tmp 24) 311 245 rfl _ _ rfl rfl _ _ (hr' _) ?_)
  go_wp2
  go_ret
  refine ⟨_, rfl, ?_, h3, ?_⟩
  · rw [List.length_append, prcells_append]
    exact h2
  · rcases h4 with h4 | h4
    · exact .inl h4
    · exact .inr ⟨_, h4, Nat.le_refl _⟩

set_option maxRecDepth 10000 in
set_option maxHeartbeats 2000000 in
theorem Insert_room (h : List Pr) (p : Pr) (n i g cap gp base : Nat) (HN : Hid (h.length = n)) (cur : List Value) (w : World) (hg : Blk w g cur) (hgb : base ≤ g) (hi : i < n) (hroom : n + 1 ≤ cap) (hcm : cap ≤ maxLen) (hcl : Hid (cur.length = cap * 2)) (hct : Hid (cur.take (n * 2) = prcells h)) (hp : Blk w gp (prC p)) (hne : gp ≠ g) (hl : n ≤ 1048576) :
    Calls Tryz.prog 295 #[.slice (some ⟨g, 0, none⟩) n cap, .int .i64 (i : Int), .slice (some ⟨gp, 0, none⟩) 1 1] w fun e w' => ∃ v', e = .returned v' ∧ Grows base w (.slice (some ⟨g, 0, none⟩) n cap) v' (h.take i ++ p :: h.drop i) w' := by
  have s0 := sl_from undH elemH g n cap i (by omega) (by omega)
  have s1 := sl_to undH elemH g n cap (n + 1) hroom
  have s2 := sl_from undH elemH g (n + 1) cap (i + 1) (by omega) (by omega)
  have s3 := sl_from undH elemH g (n + 1) cap i (by omega) (by omega)
  rw [show ((n + 1 : Nat) : Int) = (n : Int) + 1 by simp] at s1
  rw [show ((i + 1 : Nat) : Int) = (i : Int) + 1 by simp] at s2
  have hw1 : IntKind.i64.wrap ((i : Int) + 1) = (i : Int) + 1 := by rw [IntKind.wrap_i64]; omega
  have hne1 : ((i : Int) == (n : Int)) = false := by simp; omega
  have hcap : decide ((cap : Int) < (n : Int) + 1) = false := decide_eq_false (by omega)
  have hcs1 : ((prcells h).drop (i * 2)).length = (n - i) * 2 := by rw [List.length_drop, prcells_length, HN.out]; omega
  have hcp1 : ∀ (u : World) (ty : TypeId), u.heap = w.heap → (Builtin.copy_ #[311, 311] ty #[.slice (some ⟨g, (i + 1) * 2, none⟩) (n - i) (cap - (i + 1)), .slice (some ⟨g, i * 2, none⟩) (n + 1 - i) (cap - i)]).run Tryz.prog u = .ok (goInt (n - i : Nat)) (u.setRow g (spl cur ((i + 1) * 2) ((prcells h).drop (i * 2))).toArray) := fun u ty hu => by
    have hgu : Blk u g cur := by unfold Blk; rw [hu]; exact hg
    refine run_copy_pr undH u ty g _ _ _ ⟨g, i * 2, none⟩ _ _ cur _ (n - i) hgu (by simp only [Nat.min_def]; split <;> omega) hcs1 (fun j v hj => ?_) (by rw [hcs1, hcl.out]; omega) (fun v hv => prcells_one h v (List.mem_of_mem_drop hv))
    rw [add_none, hgu.cell, ← hj, List.getElem?_drop, ← hct.out, List.getElem?_take, if_pos]
    have := (List.getElem?_eq_some_iff.1 hj).1
    rw [hcs1] at this
    omega
  have hov : (callFunc 296 #[.slice (some ⟨gp, 0, none⟩) 1 1, .slice (some ⟨g, (i + 1) * 2, none⟩) (n - i) (cap - (i + 1))]).run Tryz.prog w = .ok (.value (.bool false)) w := by
    rw [run_callFunc_extern Tryz.func296 (by kernel_rfl) (by kernel_rfl) (by kernel_rfl) (e := Extern.SlicesOverlaps.overlaps #[245, 245] #[4]) (by kernel_rfl), Lib.run_overlaps_apart w 245 4 249 undP 2 size_of_pr ⟨gp, 0, none⟩ ⟨g, (i + 1) * 2, none⟩ 1 1 _ _ hne 249 249 2 cur.length (by unfold Blk at hp; simp [World.shape?, hp, prC]) (by unfold Blk at hg; simp [World.shape?, hg]) (by have := hcl.out; omega) (by unfold Blk at hp; simp [World.frozen?, hp]) (by unfold Blk at hp; simp [World.frozen?, hp])]
    rfl
  go_enter Tryz.func295, Tryz.ntmps295
  go_wp2_with (simp only [hov])
  go_region_held3 (fun _ => True) (trivial) (first | (refine step_cp _ rfl (.tmp 73) (.tmp 76) 311 311 rfl _ _ rfl rfl _ _ (hcp1 _ _ (by first | rfl | trivial)) ?_))
  obtain ⟨cur1, hcur1⟩ : ∃ c, spl cur ((i + 1) * 2) ((prcells h).drop (i * 2)) = c := ⟨_, rfl⟩
  obtain ⟨W1, hW1⟩ : ∃ u, w.drew.setRow g cur1.toArray = u := ⟨_, rfl⟩
  have hG1 : w.grownBy W1 (some g) := by rw [← hW1]; exact (drew_grown w (some g)).trans (setRow_grown w.drew g _)
  have hB1 : Blk W1 g cur1 := by rw [← hW1]; exact setRow_heap w.drew g _ _ _ _ hg
  have hP1 : Blk W1 gp (prC p) := (hG1.block gp (Array.getElem?_eq_some_iff.1 hp).1 (fun e => hne (Option.some.inj e))).trans hp
  have hl1 : cur1.length = cap * 2 := by rw [← hcur1, spl_length (by rw [hcs1, hcl.out]; omega), hcl.out]
  have HC1 : Hid (cur1 = spl cur ((i + 1) * 2) ((prcells h).drop (i * 2))) := hcur1.symm
  rw [hcur1, hW1]
  clear hcur1 hW1 hcp1 hov
  have hcp2 : ∀ ty, (Builtin.copy_ #[311, 245] ty #[.slice (some ⟨g, i * 2, none⟩) (n + 1 - i) (cap - i), .slice (some ⟨gp, 0, none⟩) 1 1]).run Tryz.prog W1 = .ok (goInt (1 : Nat)) (W1.setRow g (spl cur1 (i * 2) (prC p)).toArray) := fun ty =>
    run_copy_pr undH W1 ty g _ _ _ ⟨gp, 0, none⟩ _ _ cur1 _ 1 hB1 (by simp only [Nat.min_def]; split <;> omega) rfl (pr_src hP1) (by rw [hl1]; simp [prC]; omega) (prC_one p)
  go_wp2_with (at_builtin; refine wpList_cp _ (by kernel_rfl) (.tmp 80) (.tmp 81) 311 245 rfl _ _ rfl rfl _ _ (hcp2 _) ?_)
  have hG2 := hG1.trans (setRow_grown W1 g (spl cur1 (i * 2) (prC p)).toArray)
  have hB2 : Blk (W1.setRow g (spl cur1 (i * 2) (prC p)).toArray) g (spl cur1 (i * 2) (prC p)) := setRow_heap W1 g _ _ _ _ hB1
  generalize W1.setRow g (spl cur1 (i * 2) (prC p)).toArray = W2 at hG2 hB2 ⊢
  go_wp2
  go_ret
  refine ⟨_, rfl, ?_, hG2, .inl rfl⟩
  have hcp : (prC p).length = 2 := rfl
  have hlen : (h.take i ++ p :: h.drop i).length = n + 1 := by
    have := HN.out
    rw [List.length_append, List.length_cons, List.length_take, List.length_drop]
    omega
  rw [hlen]
  refine blk_row hB2 hgb hroom hcm (by rw [spl_length (by rw [hcp, hl1]; omega), hl1]) ?_
  have e1 : cur1.take (i * 2) = prcells (h.take i) := by
    rw [HC1.out, spl, List.append_assoc, List.take_append_of_le_length (by rw [List.length_take, hcl.out]; omega), List.take_take, prcells_take, ← hct.out, List.take_take]
    congr 1
    omega
  have e2 : (cur1.drop (i * 2 + 2)).take ((n - i) * 2) = prcells (h.drop i) := by
    rw [HC1.out, spl, List.append_assoc, List.drop_append_of_le_length (by rw [List.length_take, hcl.out]; omega), List.drop_of_length_le (by rw [List.length_take, hcl.out]; omega), List.nil_append, List.take_left' hcs1, prcells_drop, Nat.mul_comm 2 i]
  unfold spl
  rw [hcp, e1]
  have e3 : prcells (h.take i ++ p :: h.drop i) = prcells (h.take i) ++ prC p ++ prcells (h.drop i) := by
    rw [prcells_append, List.append_assoc]
    rfl
  have e4 : (prcells (h.take i) ++ prC p).length = i * 2 + 2 := by
    have := HN.out
    rw [List.length_append, prcells_length, List.length_take, hcp]
    omega
  rw [e3, ← e2, List.take_append, e4, List.take_of_length_le (by rw [e4]; omega)]
  congr 2
  omega

set_option maxRecDepth 10000 in
set_option maxHeartbeats 2000000 in
theorem Insert_grow (h : List Pr) (p : Pr) (n i g gp base : Nat) (HN : Hid (h.length = n)) (cur : List Value) (w : World) (hg : Blk w g cur) (hbw : base ≤ w.heap.size) (hi : i < n) (_hcl : Hid (cur.length = n * 2)) (hct : Hid (cur.take (n * 2) = prcells h)) (hp : Blk w gp (prC p)) (hl : n ≤ 1048576) :
    Calls Tryz.prog 295 #[.slice (some ⟨g, 0, none⟩) n n, .int .i64 (i : Int), .slice (some ⟨gp, 0, none⟩) 1 1] w fun e w' => ∃ v', e = .returned v' ∧ Grows base w (.slice (some ⟨g, 0, none⟩) n n) v' (h.take i ++ p :: h.drop i) w' := by
  obtain ⟨i0, hi0, hz0, hzs, hzb⟩ := info_parts infoPr
  have hpre : (prcells (h.take i)).length = i * 2 := by have := HN.out; rw [prcells_length, List.length_take]; omega
  have hold : (Builtin.firstCells i0.size i (.slice (some ⟨g, 0, none⟩) i n)).run Tryz.prog w.drew = .ok (prcells (h.take i)).toArray w.drew := by
    have hgd : Blk w.drew g cur := hg
    have := run_loadCells_list (P := Tryz.prog) w.drew ⟨g, 0, none⟩ (prcells (h.take i)) (fun j v hj => by
      have hlt := (List.getElem?_eq_some_iff.1 hj).1
      rw [hpre] at hlt
      rw [add_none, Nat.zero_add, hgd.cell, ← hj, prcells_take, ← hct.out, List.getElem?_take, if_pos (by omega), List.getElem?_take, if_pos (by omega)])
    rw [hpre] at this
    simp only [Builtin.firstCells, hzs]
    exact this
  obtain ⟨G, hG⟩ : ∃ G, grownCap w (n + 1) n 249 = G := ⟨_, rfl⟩
  have hGge : n + 1 ≤ G := by rw [← hG]; exact grownCap_ge _ _ _ _
  have hGle : G ≤ maxLen := by rw [← hG]; exact grownCap_le_maxLen _ _ _ _ (by unfold maxLen; omega)
  obtain ⟨row, hrow⟩ : ∃ row : List Value, ((prcells (h.take i)).toArray ++ Builtin.zeroCells (Value.agg #[.int .i64 0, .int .i64 0]).cells (n + 1 - i) ++ Builtin.zeroCells (Value.agg #[.int .i64 0, .int .i64 0]).cells (G - (n + 1))).toList = row := ⟨_, rfl⟩
  have hrl : row.length = G * 2 := by
    rw [← hrow]
    simp [Builtin.zeroCells, Value.cells, hpre]
    omega
  have hrt : row.take (i * 2) = prcells (h.take i) := by
    rw [← hrow]
    simp only [Array.toList_append, List.append_assoc]
    rw [List.take_left' hpre]
  obtain ⟨W0, hW0⟩ : ∃ W0, w.drew.alloc (.cells row.toArray 249) = W0 := ⟨_, rfl⟩
  have hkk : (n : Int) + 1 - (i : Int) = ((n + 1 - i : Nat) : Int) := by omega
  have hrz : ∀ ty, (Builtin.append_ #[311, 3] ty #[.slice (some ⟨g, 0, none⟩) i n, .int .i64 ((n : Int) + 1 - (i : Int))]).run Tryz.prog w = .ok (.slice (some ⟨w.heap.size, 0, none⟩) (n + 1) G) W0 := fun ty => by
    have h := Lib.run_append_grow_zeros (P := Tryz.prog) w 311 3 ty 249 i0 _ .i64 .i64 undH (by kernel_rfl) hi0 hz0 (some ⟨g, 0, none⟩) i n (prcells (h.take i)) hold (n + 1 - i) (by omega) (by omega) (by omega) (by omega) (by rw [hzb]; omega) (by
      rw [hzb, show i + (n + 1 - i) = n + 1 by omega]
      exact growslice_fits (by omega) (by omega))
    rw [show i + (n + 1 - i) = n + 1 by omega, hG] at h
    rw [hkk, h, ← hW0, ← hrow]
  have hs0 : W0.heap.size = w.heap.size + 1 := by rw [← hW0]; simp
  have hB0 : Blk W0 w.heap.size row := by rw [← hW0]; exact _root_.Go.heap_alloc_new w.drew _
  have hG0 : w.grownBy W0 none := by rw [← hW0]; exact (drew_grown w none).trans (World.grownBy_alloc _ _ _)
  have hP0 : Blk W0 gp (prC p) := (hG0.block gp (Array.getElem?_eq_some_iff.1 hp).1 (by simp)).trans hp
  have hg0 : Blk W0 g cur := (hG0.block g (Array.getElem?_eq_some_iff.1 hg).1 (by simp)).trans hg
  have hne : gp ≠ w.heap.size := Nat.ne_of_lt (Array.getElem?_eq_some_iff.1 hp).1
  have hne2 : g ≠ w.heap.size := Nat.ne_of_lt (Array.getElem?_eq_some_iff.1 hg).1
  have hcp : (prC p).length = 2 := rfl
  have hcp1 : ∀ ty, (Builtin.copy_ #[311, 245] ty #[.slice (some ⟨w.heap.size, i * 2, none⟩) (n + 1 - i) (G - i), .slice (some ⟨gp, 0, none⟩) 1 1]).run Tryz.prog W0 = .ok (goInt (1 : Nat)) (W0.setRow w.heap.size (spl row (i * 2) (prC p)).toArray) := fun ty =>
    run_copy_pr undH W0 ty _ _ _ _ ⟨gp, 0, none⟩ _ _ row _ 1 hB0 (by simp only [Nat.min_def]; split <;> omega) rfl (pr_src hP0) (by rw [hrl, hcp]; omega) (prC_one p)
  obtain ⟨W1, hW1⟩ : ∃ u, W0.setRow w.heap.size (spl row (i * 2) (prC p)).toArray = u := ⟨_, rfl⟩
  have hB1 : Blk W1 w.heap.size (spl row (i * 2) (prC p)) := by rw [← hW1]; exact setRow_heap W0 _ _ _ _ _ hB0
  have hG1 : W0.grownBy W1 (some w.heap.size) := by rw [← hW1]; exact setRow_grown _ _ _
  have hg1 : Blk W1 g cur := (hG1.block g (Array.getElem?_eq_some_iff.1 hg0).1 (fun e => hne2 (Option.some.inj e))).trans hg0
  rw [hW1] at hcp1
  have hl1 : (spl row (i * 2) (prC p)).length = G * 2 := by rw [spl_length (by rw [hrl, hcp]; omega), hrl]
  have ht1 : (spl row (i * 2) (prC p)).take (i * 2 + 2) = prcells (h.take i) ++ prC p := by rw [spl_take (cur := row) (o := i * 2) (cs := prC p) (by rw [hrl, hcp]; omega) (i * 2 + 2) rfl, hrt]
  generalize spl row (i * 2) (prC p) = cur1 at hB1 hl1 ht1
  have hcs1 : ((prcells h).drop (i * 2)).length = (n - i) * 2 := by rw [List.length_drop, prcells_length, HN.out]; omega
  have hcp2 : ∀ (u : World) (ty : TypeId), u.heap = W1.heap → (Builtin.copy_ #[311, 311] ty #[.slice (some ⟨w.heap.size, (i + 1) * 2, none⟩) (n - i) (G - (i + 1)), .slice (some ⟨g, i * 2, none⟩) (n - i) (n - i)]).run Tryz.prog u = .ok (goInt (n - i : Nat)) (u.setRow w.heap.size (spl cur1 ((i + 1) * 2) ((prcells h).drop (i * 2))).toArray) := fun u ty hu => by
    have hgu : Blk u w.heap.size cur1 := by unfold Blk; rw [hu]; exact hB1
    have hgs : Blk u g cur := by unfold Blk; rw [hu]; exact hg1
    refine run_copy_pr undH u ty _ _ _ _ ⟨g, i * 2, none⟩ _ _ cur1 _ (n - i) hgu (by simp only [Nat.min_def]; split <;> omega) hcs1 (fun j v hj => ?_) (by rw [hcs1, hl1]; omega) (fun v hv => prcells_one h v (List.mem_of_mem_drop hv))
    rw [add_none, hgs.cell, ← hj, List.getElem?_drop, ← hct.out, List.getElem?_take, if_pos]
    have := (List.getElem?_eq_some_iff.1 hj).1
    rw [hcs1] at this
    omega
  have s0 := sl_from undH elemH g n n i (by omega) (by omega)
  have s1 := sl_to undH elemH g n n i (by omega)
  have s2 := sl_from undH elemH w.heap.size (n + 1) G i (by omega) (by omega)
  have s3 := sl_from undH elemH w.heap.size (n + 1) G (i + 1) (by omega) (by omega)
  rw [show ((i + 1 : Nat) : Int) = (i : Int) + 1 by simp] at s3
  have hw1 : IntKind.i64.wrap ((i : Int) + 1) = (i : Int) + 1 := by rw [IntKind.wrap_i64]; omega
  have hne1 : ((i : Int) == (n : Int)) = false := by simp; omega
  have hcap : decide ((n : Int) < (n : Int) + 1) = true := decide_eq_true (by omega)
  have hGW : w.grownBy W1 none := ⟨hG1.os.trans hG0.os, hG1.tape.trans hG0.tape, hG1.output.trans hG0.output, Nat.le_trans hG0.size hG1.size, fun k hk _ => (hG1.block k (by rw [hs0]; omega) (fun e => by have := Option.some.inj e; omega)).trans (hG0.block k hk (by simp))⟩
  clear hW0 hW1 hold hi0 hz0 hzs hzb hrow hrl hrt hkk hg0 hP0 hB0 hG1
  go_enter Tryz.func295, Tryz.ntmps295
  go_wp2_with (at_builtin; refine wpList_ap _ (by kernel_rfl) (.tmp 34) (.tmp 39) 311 3 rfl _ _ rfl rfl _ _ (hrz _) ?_)
  go_wp2_with (at_builtin; refine wpList_cp _ (by kernel_rfl) (.tmp 43) (.tmp 44) 311 245 rfl _ _ rfl rfl _ _ (hcp1 _) ?_)
  go_wp2_with fail
  go_region_held3 (fun _ => True) (trivial) (first | (refine step_cp _ rfl (.tmp 50) (.tmp 53) 311 311 rfl _ _ rfl rfl _ _ (hcp2 _ _ (by first | rfl | trivial)) ?_))
  have hGF : w.grownBy (W1.drew.setRow w.heap.size (spl cur1 ((i + 1) * 2) ((prcells h).drop (i * 2))).toArray) none := ⟨hGW.os, hGW.tape, hGW.output, by simpa [World.setRow] using hGW.size, fun k hk _ => (setRow_other W1.drew _ k _ (by omega)).trans (hGW.block k hk (by simp))⟩
  have hBF : Blk (W1.drew.setRow w.heap.size (spl cur1 ((i + 1) * 2) ((prcells h).drop (i * 2))).toArray) w.heap.size (spl cur1 ((i + 1) * 2) ((prcells h).drop (i * 2))) := setRow_heap W1.drew _ _ _ _ _ hB1
  generalize W1.drew.setRow w.heap.size (spl cur1 ((i + 1) * 2) ((prcells h).drop (i * 2))).toArray = WF at hGF hBF ⊢
  go_wp2
  go_ret
  have hlen : (h.take i ++ p :: h.drop i).length = n + 1 := by
    have := HN.out
    rw [List.length_append, List.length_cons, List.length_take, List.length_drop]
    omega
  refine ⟨_, rfl, ?_, ⟨hGF.os, hGF.tape, hGF.output, hGF.size, fun k hk _ => hGF.block k hk (by simp)⟩, .inr ⟨_, rfl, Nat.le_refl _⟩⟩
  rw [hlen]
  refine blk_row hBF hbw hGge hGle (by rw [spl_length (by rw [hcs1, hl1]; omega), hl1]) ?_
  have e3 : prcells (h.take i ++ p :: h.drop i) = prcells (h.take i) ++ prC p ++ prcells (h.drop i) := by
    rw [prcells_append, List.append_assoc]
    rfl
  rw [spl_take (by rw [hcs1, hl1]; omega) _ (by rw [hcs1]; omega), show (i + 1) * 2 = i * 2 + 2 by omega, ht1, e3, prcells_drop, Nat.mul_comm 2 i]
end Go.Proofs.YtgiojkhmkeocfaaGreatDoor
