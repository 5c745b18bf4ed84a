/-
  Lines that are there once: plain; the reference's times and Unique, and the law's same, walked.
-/
import Derived.Test.YtppdcjjkkckokaaPaRow
namespace Go.Proofs.Ytppdcjjkkckokaa
open Go.RowKit

/-- how often a class stands in a text -/
def tm (c : Int) : List Int → Nat
  | [] => 0
  | a :: x => (if a = c then 1 else 0) + tm c x
theorem tm_le (c : Int) (x : List Int) : tm c x ≤ x.length := by
  induction x with
  | nil => simp [tm]
  | cons a x ih => rw [tm, List.length_cons]; split <;> omega
/-- the places of a class from place j on, each with i -/
def ps (c i : Int) : Int → List Int → List Pr
  | _, [] => []
  | j, b :: y => (if b = c then [⟨i, j⟩] else []) ++ ps c i (j + 1) y
/-- the pairs of classes that stand once in each, from place i on -/
def uq (x0 y0 : List Int) : Int → List Int → List Pr
  | _, [] => []
  | i, a :: x => (if tm a x0 = 1 ∧ tm a y0 = 1 then ps a i 0 y0 else []) ++ uq x0 y0 (i + 1) x
def unq (x y : List Int) : List Pr := uq x y 0 x
theorem ps_length (c i j : Int) (y : List Int) : (ps c i j y).length = tm c y := by
  induction y generalizing j with
  | nil => rfl
  | cons b y ih =>
    rw [ps, tm, List.length_append, ih]
    split <;> simp
theorem uq_length (x0 y0 : List Int) (i : Int) (x : List Int) : (uq x0 y0 i x).length ≤ x.length := by
  induction x generalizing i with
  | nil => simp [uq]
  | cons a x ih =>
    rw [uq, List.length_append, List.length_cons]
    have := ih (i + 1)
    split
    · rename_i h
      rw [ps_length]
      omega
    · simp; omega

set_option maxRecDepth 10000 in
theorem times_f (x : List Int) (c : Int) (r : Nat) (v : Value) (w : World) (hx : HI w v x) (hxl : x.length ≤ 1048576) (hr : Hid (tm c x = r)) :
    Calls Try.prog 48 #[v, .int .i64 c] w fun e w' => e = .returned (.int .i64 (r : Int)) ∧ w = w' := by
  obtain ⟨xo, xc, rfl⟩ := Holds.form hx
  go_enter Try.func48, Try.ntmps48
  go_wp2
  go_loopw [5, 6] (fun nv iv wr => ∃ (i n : Nat), i ≤ x.length ∧ n ≤ i ∧ nv = .int .i64 n ∧ iv = .int .i64 i ∧ wr = w ∧ Hid (n + tm c (x.drop i) = r)) (fun _ iv _ => x.length - (intOf iv).toNat)
  case atStart => exact ⟨0, 0, Nat.zero_le _, Nat.le_refl _, rfl, rfl, rfl, (by show _ = _; rw [← hr.out]; simp)⟩
  case round =>
    obtain ⟨i, n, hi, hni, rfl, rfl, rfl, hN⟩ := hrel
    by_cases hil : i < x.length
    · obtain ⟨b, off, rfl, _, hc⟩ := HI.at hx (by omega)
      have c0 := hc i hil
      obtain ⟨z, hz⟩ : ∃ z, x[i] = z := ⟨_, rfl⟩
      rw [hz] at c0
      have hN2 : n + ((if z = c then 1 else 0) + tm c (x.drop (i + 1))) = r := by
        have := hN.out
        rw [List.drop_eq_getElem_cons hil, tm, hz] at this
        exact this
      have HN : Hid (n + ((if z = c then 1 else 0) + tm c (x.drop (i + 1))) = r) := hN2
      clear hc hz hN hN2
      have i1 : 0 ≤ (i : Int) := by omega
      have i2 : (i : Int) < (x.length : Int) := by omega
      by_cases hzc : z = c
      · have HN3 : Hid (n + 1 + tm c (x.drop (i + 1)) = r) := (by
          show _ = _
          have := HN.out
          rw [if_pos hzc] at this
          omega)
        clear HN
        subst hzc
        go_wp2
        go_roundw
        case rel => exact ⟨i + 1, n + 1, by omega, by omega, by go_num, by go_num, trivial, HN3⟩
        case measure => simp [intOf]; omega
      · have HN3 : Hid (n + tm c (x.drop (i + 1)) = r) := (by
          show _ = _
          have := HN.out
          rw [if_neg hzc] at this
          omega)
        clear HN
        go_wp2
        go_roundw
        case rel => exact ⟨i + 1, n, by omega, by omega, rfl, by go_num, trivial, HN3⟩
        case measure => simp [intOf]; omega
    · obtain rfl : i = x.length := by omega
      have : n = r := by
        have := hN.out
        simpa [tm] using this
      subst this
      go_wp2
      go_ret
      exact ⟨rfl, rfl⟩

set_option maxRecDepth 10000 in
set_option maxHeartbeats 4000000 in
theorem rUnique_f (x y : List Int) (vx vy : Value) (w : World) (hx : HI w vx x) (hy : HI w vy y) (hxl : x.length ≤ 4096) (hyl : y.length ≤ 4096) (L : List Pr) (hL : Hid (unq x y = L)) :
    Calls Try.prog 26 #[vx, vy] w fun e w' => ∃ v', e = .returned v' ∧ HPr w' v' L ∧ Below w.heap.size w w' := by
  obtain ⟨xo, xc, rfl⟩ := Holds.form hx
  obtain ⟨yo, yc, rfl⟩ := Holds.form hy
  have hLl : L.length ≤ 4096 := by rw [← hL.out]; exact Nat.le_trans (uq_length x y 0 x) hxl
  go_enter Try.func26, Try.ntmps26
  go_wp2
  go_loopw [5, 6] (fun lv iv wr => ∃ (i : Nat) (Z : List Pr) (zo : Option Addr) (zc : Nat), i ≤ x.length ∧ iv = .int .i64 i ∧ lv = .slice zo Z.length zc ∧ Z.length ≤ L.length ∧ wr.ownsRow w.heap.size 43 2 (.slice zo Z.length zc) Z.length (prcells Z) ∧ Below w.heap.size w wr ∧ Hid (Z ++ uq x y i (x.drop i) = L)) (fun _ iv _ => x.length - (intOf iv).toNat)
  case atStart => exact ⟨0, [], none, 0, Nat.zero_le _, rfl, rfl, Nat.zero_le _, World.ownsRow_nil _ _ _ _, Below.refl _ _, hL⟩
  case round =>
    obtain ⟨i, Z, zo, zc, hi, rfl, rfl, hZl, hO, hB, HZ⟩ := hrel
    have hs := hB.size
    by_cases hil : i < x.length
    · have hxr := HI.keep hx hB (Nat.le_refl _)
      have hyr := HI.keep hy hB (Nat.le_refl _)
      obtain ⟨b, off, rfl, _, hc⟩ := HI.at hxr (by omega)
      have c0 := hc i hil
      obtain ⟨z, hz⟩ : ∃ z, x[i] = z := ⟨_, rfl⟩
      rw [hz] at c0
      have hcx : ∀ u : World, Below w.heap.size w u → u.cell? ⟨b, off + i, none⟩ = some (.int .i64 z) := fun u hu => by
        obtain ⟨b', off', e', _, hc'⟩ := HI.at (HI.keep hx hu (Nat.le_refl _)) (by omega)
        cases e'
        rw [hc' i hil, hz]
      have HZ2 : Hid (Z ++ ((if tm z x = 1 ∧ tm z y = 1 then ps z i 0 y else []) ++ uq x y (i + 1) (x.drop (i + 1))) = L) := (by
        show _ = _
        have := HZ.out
        rw [List.drop_eq_getElem_cons hil, uq, hz] at this
        exact this)
      clear hc hz HZ
      have i1 : 0 ≤ (i : Int) := by omega
      have i2 : (i : Int) < (x.length : Int) := by omega
      obtain ⟨a, ha⟩ : ∃ a, tm z x = a := ⟨_, rfl⟩
      obtain ⟨a', ha'⟩ : ∃ a, tm z y = a := ⟨_, rfl⟩
      rw [ha, ha'] at HZ2
      have Ha : Hid (tm z x = a) := ha
      have Ha' : Hid (tm z y = a') := ha'
      have hab := tm_le z x
      have hab' := tm_le z y
      rw [ha] at hab
      rw [ha'] at hab'
      clear ha ha'
      by_cases h1 : a = 1
      · have q1 : ((a : Int) != 1) = false := by simp; omega
        by_cases h2 : a' = 1
        · have q2 : ((a' : Int) != 1) = false := by simp; omega
          have HZ3 : Hid (Z ++ (ps z i 0 y ++ uq x y (i + 1) (x.drop (i + 1))) = L) := (by
            show _ = _
            rw [← HZ2.out, if_pos ⟨h1, h2⟩])
          clear HZ2
          go_wp2_with fail
          refine (times_f x z a _ wr hxr (by omega) Ha).mono ?_
          rintro e w1 ⟨rfl, rfl⟩
          go_wp2_with fail
          refine (times_f y z a' _ wr hyr (by omega) Ha').mono ?_
          rintro e w1 ⟨rfl, rfl⟩
          go_wp2
          go_loopw [5, 7] (fun lv jv wi => ∃ (j : Nat) (Z' : List Pr) (zo : Option Addr) (zc : Nat), j ≤ y.length ∧ jv = .int .i64 j ∧ lv = .slice zo Z'.length zc ∧ Z'.length ≤ L.length ∧ wi.ownsRow w.heap.size 43 2 (.slice zo Z'.length zc) Z'.length (prcells Z') ∧ Below w.heap.size w wi ∧ Hid (Z' ++ (ps z i j (y.drop j) ++ uq x y (i + 1) (x.drop (i + 1))) = L)) (fun _ jv _ => y.length - (intOf jv).toNat)
          case atStart => exact ⟨0, Z, zo, zc, Nat.zero_le _, rfl, rfl, hZl, hO, hB, HZ3⟩
          case round =>
            clear hO hB hs HZ3 c0 hxr hyr
            obtain ⟨j, Z', zo', zc', hj, rfl, rfl, hZl', hO, hB, HZ⟩ := hrel
            have hs := hB.size
            by_cases hjl : j < y.length
            · have c0 := hcx wr hB
              obtain ⟨b', off', rfl, _, hc⟩ := HI.at (HI.keep hy hB (Nat.le_refl _)) (by omega)
              have c1 := hc j hjl
              obtain ⟨t, ht⟩ : ∃ t, y[j] = t := ⟨_, rfl⟩
              rw [ht] at c1
              have HZ2 : Hid (Z' ++ ((if t = z then [⟨i, j⟩] else []) ++ ps z i (j + 1) (y.drop (j + 1)) ++ uq x y (i + 1) (x.drop (i + 1))) = L) := (by
                show _ = _
                have := HZ.out
                rw [List.drop_eq_getElem_cons hjl, ps, ht] at this
                exact this)
              clear hc ht HZ
              have j1 : 0 ≤ (j : Int) := by omega
              have j2 : (j : Int) < (y.length : Int) := by omega
              by_cases htz : t = z
              · have HZ3 : Hid ((Z' ++ [⟨i, j⟩]) ++ (ps z i ((j + 1 : Nat) : Int) (y.drop (j + 1)) ++ uq x y (i + 1) (x.drop (i + 1))) = L) := (by
                  show _ = _
                  rw [← HZ2.out, if_pos htz]
                  simp)
                clear HZ2
                have hZl2 : Z'.length + 1 ≤ L.length := by rw [← HZ3.out]; simp
                subst htz
                go_wp2_with fail
                go_quiet (fail)
                have hOd : (wr.drewN nq).ownsRow w.heap.size 43 2 (.slice zo' Z'.length zc') Z'.length (prcells Z') := hO
                have hBd : Below w.heap.size w (wr.drewN nq) := Below.dN hB nq
                generalize wr.drewN nq = wd at hOd hBd ⊢
                have hsd := hBd.size
                go_wp2_with (at_builtin; refine wpList_append_h _ (by kernel_rfl) (.tmp 45) (.tmp 49) 40 43 (.agg #[.int .i64 0, .int .i64 0]) 2 16 rfl Try.underlying40 infoQr rfl (by decide) (by decide) w.heap.size (.slice zo' Z'.length zc') Z'.length (prcells Z') (by kernel_rfl) (hOd.alloc _) (.slice (some ⟨wd.heap.size, 0, none⟩) 1 1) 1 (prcells [⟨i, j⟩]) (by kernel_rfl) (new_holds wd _ _ 1 1 (by decide)) rfl (prcells_one _) (by omega) (by simp; omega) ?_)
                intro v3 w3 hown3 hgrow3
                have hB3 : Below w.heap.size w w3 := (hBd.alloc (by omega) _).grown hgrow3 (by simp; omega) (fun _ hj => owns_ge hO hj)
                rw [← prcells_append] at hown3
                obtain ⟨zo3, zc3, rfl⟩ := (holds_of hown3).form
                clear hgrow3
                go_wp2
                go_roundw
                case rel => exact ⟨j + 1, Z' ++ [⟨i, j⟩], zo3, zc3, by omega, by go_num, by rw [List.length_append]; rfl, by simp; omega, by rw [List.length_append]; exact hown3, hB3, HZ3⟩
                case measure => simp [intOf]; omega
              · have HZ3 : Hid (Z' ++ (ps z i ((j + 1 : Nat) : Int) (y.drop (j + 1)) ++ uq x y (i + 1) (x.drop (i + 1))) = L) := (by
                  show _ = _
                  rw [← HZ2.out, if_neg htz]
                  simp)
                clear HZ2
                have htz' : (t == z) = false := by simp [htz]
                go_wp2_with fail
                go_quiet (fail)
                go_wp2
                go_roundw
                case rel => exact ⟨j + 1, Z', zo', zc', by omega, by go_num, rfl, hZl', hO, Below.dN hB _, HZ3⟩
                case measure => simp [intOf]; omega
            · obtain rfl : j = y.length := by omega
              have HZ3 : Hid (Z' ++ uq x y ((i + 1 : Nat) : Int) (x.drop (i + 1)) = L) := (by
                show _ = _
                rw [← HZ.out]
                simp [ps])
              go_wp2
              go_roundw
              case rel => exact ⟨i + 1, Z', zo', zc', by omega, by go_num, rfl, hZl', hO, hB, HZ3⟩
              case measure => simp [intOf]; omega
        · have q2 : ((a' : Int) != 1) = true := by simp; omega
          have HZ3 : Hid (Z ++ uq x y ((i + 1 : Nat) : Int) (x.drop (i + 1)) = L) := (by
            show _ = _
            rw [← HZ2.out, if_neg (fun h => h2 h.2)]
            simp)
          clear HZ2
          go_wp2_with fail
          refine (times_f x z a _ wr hxr (by omega) Ha).mono ?_
          rintro e w1 ⟨rfl, rfl⟩
          go_wp2_with fail
          refine (times_f y z a' _ wr hyr (by omega) Ha').mono ?_
          rintro e w1 ⟨rfl, rfl⟩
          go_wp2
          go_roundw
          case rel => exact ⟨i + 1, Z, zo, zc, hil, by go_num, rfl, hZl, hO, hB, HZ3⟩
          case measure => simp [intOf]; omega
      · have q1 : ((a : Int) != 1) = true := by simp; omega
        have HZ3 : Hid (Z ++ uq x y ((i + 1 : Nat) : Int) (x.drop (i + 1)) = L) := (by
          show _ = _
          rw [← HZ2.out, if_neg (fun h => h1 h.1)]
          simp)
        clear HZ2
        go_wp2_with fail
        refine (times_f x z a _ wr hxr (by omega) Ha).mono ?_
        rintro e w1 ⟨rfl, rfl⟩
        go_wp2
        go_roundw
        case rel => exact ⟨i + 1, Z, zo, zc, hil, by go_num, rfl, hZl, hO, hB, HZ3⟩
        case measure => simp [intOf]; omega
    · obtain rfl : i = x.length := by omega
      have hZL : Z = L := by
        have := HZ.out
        simpa [uq] using this
      subst hZL
      go_wp2
      go_ret
      exact ⟨_, rfl, holds_of hO, hB⟩

set_option maxRecDepth 10000 in
set_option maxHeartbeats 2000000 in
theorem same_any (va vb : Value) (l : List Pr) (w : World) (hlen : l.length ≤ 1048576) (ha : HPr w va l) (hb : HPr w vb l) :
    Calls Try.prog 24 #[va, vb] w fun e w' => e = .returned (.bool true) ∧ Below w.heap.size w w' := by
  obtain ⟨ao, ac, rfl⟩ := Holds.form ha
  obtain ⟨bo, bc, rfl⟩ := Holds.form hb
  go_enter Try.func24, Try.ntmps24
  go_wp2
  go_loopw [5] (fun iv wr => ∃ i : Nat, i ≤ l.length ∧ iv = .int .i64 i ∧ Below w.heap.size w wr) (fun iv _ => l.length - (intOf iv).toNat)
  case atStart => exact ⟨0, Nat.zero_le _, rfl, Below.refl _ _⟩
  case round =>
    obtain ⟨i, hi, rfl, hB⟩ := hrel
    by_cases hil : i < l.length
    · obtain ⟨b1, f1, rfl, _, hc1⟩ := HPr.at (HPr.keep ha hB (Nat.le_refl _)) (by omega)
      obtain ⟨b2, f2, rfl, _, hc2⟩ := HPr.at (HPr.keep hb hB (Nat.le_refl _)) (by omega)
      obtain ⟨c0, c1⟩ := hc1 i hil
      obtain ⟨d0, d1⟩ := hc2 i hil
      obtain ⟨X, hX⟩ : ∃ X, l[i].X = X := ⟨_, rfl⟩
      obtain ⟨Y, hY⟩ : ∃ Y, l[i].Y = Y := ⟨_, rfl⟩
      rw [hX] at c0 d0
      rw [hY] at c1 d1
      clear hc1 hc2 hX hY
      have i1 : 0 ≤ (i : Int) := by omega
      have i2 : (i : Int) < (l.length : Int) := by omega
      have e1 : (X != X) = false := by simp
      have e2 : (Y != Y) = false := by simp
      go_wp2_with fail
      go_big_quiet (fail)
      go_wp2
      go_roundw
      case rel => exact ⟨i + 1, hil, by go_num, Below.dN hB _⟩
      case measure => simp [intOf]; omega
    · obtain rfl : i = l.length := by omega
      go_wp2
      go_ret
      exact ⟨rfl, hB⟩
end Go.Proofs.Ytppdcjjkkckokaa
