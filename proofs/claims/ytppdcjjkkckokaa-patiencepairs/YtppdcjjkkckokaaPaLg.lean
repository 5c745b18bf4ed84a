/-
  The longest rising row: Longest of the code, walked.
-/
import Derived.Test.YtppdcjjkkckokaaPaRf
namespace Go.Proofs.Ytppdcjjkkckokaa
open Go.RowKit
attribute [local simp] low_drew low_alloc

theorem owns_base {W : World} {b b' n : Nat} {e : TypeId} {s : Nat} {v : Value} {xs : List Value} (h : W.ownsRow b' e s v n xs) (hb : b ≤ b') : W.ownsRow b e s v n xs :=
  ⟨h.1, h.2.imp id (fun ⟨g, cap, cur, q1, q2, q⟩ => ⟨g, cap, cur, q1, Nat.le_trans hb q2, q⟩)⟩
theorem above_low (p q : Pr) (r : Bool) (W u : World) (hr : Hid (decide (ab p q) = r)) (hL : Low W u) :
    Calls Try.prog 46 #[prV p, prV q] u fun e w' => e = .returned (.bool r) ∧ Low W w' := by
  refine (above_f p q r u hr).mono ?_
  rintro e w' ⟨rfl, h⟩
  exact ⟨rfl, Below.trans hL (h.mono (Below.size hL))⟩

set_option maxRecDepth 10000 in
set_option maxHeartbeats 4000000 in
theorem Longest_f (l : List Pr) (v : Value) (w : World) (hl : HPr w v l) (hll : l.length ≤ 1048576) (L : List Pr) (hL : Hid (lng l = L)) :
    Calls Try.prog 23 #[v] w fun e w' => ∃ v', e = .returned v' ∧ w'.ownsRow w.heap.size 44 2 v' L.length (prcells L) ∧ Below w.heap.size w w' := by
  obtain ⟨lo, lc, rfl⟩ := Holds.form hl
  obtain ⟨R, hR⟩ : ∃ R, rl l = R := ⟨_, rfl⟩
  have hRl : R.length = l.length := by rw [← hR]; exact rl_length l
  have hLl : L.length ≤ l.length := by rw [← hL.out]; exact pick_length _ _ _ _
  have HR : Hid (R.length = l.length ∧ (∀ n ∈ R, 0 < n ∧ n ≤ l.length)) := ⟨hRl, fun n hn => by rw [← hR] at hn; exact ⟨rl_pos l n hn, rl_le l n hn⟩⟩
  have HLR : Hid (pick (mxn R) none l R = L) := (by show _ = _; rw [← hL.out, ← hR]; rfl)
  have hrf := rising_f l _ w hl hll
  rw [hR] at hrf
  clear hR hRl hL
  go_enter Try.func23, Try.ntmps23
  go_wp2_with fail
  refine hrf.mono ?_
  rintro e W1 ⟨v', rfl, hO1, hB1⟩
  have hI : HI W1 v' (R.map (fun (n : Nat) => (n : Int))) := (by
    have := holds_of hO1
    unfold HI
    rw [List.length_map, HR.out.1]
    exact this)
  obtain ⟨go, gc, rfl⟩ := (holds_of hO1).form
  clear hrf hO1
  go_wp2
  go_loopw [4, 14] (fun mv kv wr => ∃ (k m : Nat), k ≤ l.length ∧ m ≤ l.length ∧ mv = .int .i64 m ∧ kv = .int .i64 k ∧ wr = W1 ∧ Hid (max m (mxn (R.drop k)) = mxn R)) (fun _ kv _ => l.length - (intOf kv).toNat)
  case atStart => exact ⟨0, 0, Nat.zero_le _, Nat.zero_le _, rfl, rfl, rfl, by show _ = _; simp⟩
  case round =>
    obtain ⟨k, m, hk, hm, rfl, rfl, rfl, HM⟩ := hrel
    by_cases hkl : k < l.length
    · obtain ⟨b, off, rfl, hbl, hc⟩ := HI.at hI (by rw [List.length_map]; have := HR.out.1; omega)
      have hkR : k < R.length := by have := HR.out.1; omega
      have c0 := hc k (by rw [List.length_map]; exact hkR)
      rw [List.getElem_map] at c0
      obtain ⟨rk, hrk⟩ : ∃ r, R[k] = r := ⟨_, rfl⟩
      have hrb := (HR.out.2 _ (List.getElem_mem hkR)).2
      have HM2 : Hid (max (max m rk) (mxn (R.drop (k + 1))) = mxn R) := (by
        show _ = _
        have := HM.out
        rw [List.drop_eq_getElem_cons hkR, mxn, hrk] at this
        omega)
      rw [hrk] at c0 hrb
      clear hc hrk HM
      have k1 : 0 ≤ (k : Int) := by omega
      have k2 : (k : Int) < (l.length : Int) := by omega
      go_wp2
      go_roundw
      case rel => exact ⟨k + 1, max m rk, by omega, by omega, by congr 1; split <;> omega, by go_num, by first | trivial | rfl, HM2⟩
      case measure => simp [intOf]; omega
    · obtain rfl : k = l.length := by omega
      have HPK : Hid (pick m none l R = L) := (by
        show _ = _
        have := HM.out
        rw [← HR.out.1, List.drop_length, mxn, Nat.max_zero] at this
        rw [← HLR.out, this])
      clear HM HLR hk
      obtain ⟨W1, rfl⟩ : ∃ W1, W1 = wr := ⟨wr, rfl⟩
      go_wp2
      go_loopw [4, 7, 24] (fun mv ov iv wi => ∃ (i m : Nat) (X : List Pr) (oo : Option Addr) (oc : Nat), i ≤ l.length ∧ m ≤ l.length ∧ mv = .int .i64 m ∧ ov = .slice oo X.length oc ∧ iv = .int .i64 i ∧ Low W1 wi ∧ X.length ≤ L.length ∧ wi.ownsRow W1.heap.size 44 2 (.slice oo X.length oc) X.length (prcells X) ∧ Hid (X ++ pick m X.getLast? (l.drop i) (R.drop i) = L)) (fun _ _ iv _ => l.length - (intOf iv).toNat)
      case atStart => exact ⟨0, m, [], none, 0, Nat.zero_le _, hm, rfl, rfl, rfl, Below.refl _ _, Nat.zero_le _, World.ownsRow_nil _ _ _ _, HPK⟩
      case round =>
        obtain ⟨i, m, X, oo, oc, hi, hm, rfl, rfl, rfl, hLow, hXl, hO, HX⟩ := hrel
        by_cases hil : i < l.length
        · have hiR : i < R.length := by have := HR.out.1; omega
          obtain ⟨p, hp⟩ : ∃ p, l[i] = p := ⟨_, rfl⟩
          obtain ⟨ri, hri⟩ : ∃ r, R[i] = r := ⟨_, rfl⟩
          have hrb := HR.out.2 _ (List.getElem_mem hiR)
          rw [hri] at hrb
          have HXP : Hid (X ++ (if ri = m ∧ (∀ q, X.getLast? = some q → ab p q) then p :: pick (m - 1) (some p) (l.drop (i + 1)) (R.drop (i + 1)) else pick m X.getLast? (l.drop (i + 1)) (R.drop (i + 1))) = L) := (by
            have := HX.out
            rw [pick_step _ _ l R i hil hiR, hp, hri] at this
            exact this)
          have hBi : Below w.heap.size w wr := hB1.trans (Below.mono hLow hB1.size)
          obtain ⟨b, off, rfl, hbl, hc⟩ := HPr.at (HPr.keep hl hBi (Nat.le_refl _)) (by omega)
          obtain ⟨c0, c1⟩ := hc i hil
          rw [hp] at c0 c1
          obtain ⟨gb, gf, rfl, hgb, hgc⟩ := HI.at (HI.keep hI hLow (Nat.le_refl _)) (by rw [List.length_map]; omega)
          have y00 := hgc i (by rw [List.length_map]; exact hiR)
          rw [List.getElem_map, hri] at y00
          obtain ⟨W2, hW2⟩ : ∃ W2, wr.alloc (Obj.cells #[.int .i64 p.X, .int .i64 p.Y] 44) = W2 := ⟨_, rfl⟩
          have hb2 : Low wr W2 := by rw [← hW2]; exact (Below.refl _ wr).alloc (Nat.le_refl _) _
          have hsz2 : W2.heap.size = wr.heap.size + 1 := by rw [← hW2]; simp
          have k2 : W2.heap[wr.heap.size]? = some (Obj.cells #[.int .i64 p.X, .int .i64 p.Y] 44 (0, 0)) := by rw [← hW2]; exact _root_.Go.heap_alloc_new wr _
          have a0 : W2.cell? ⟨wr.heap.size, 0, none⟩ = some (.int .i64 p.X) := by rw [Lib.cell_of_heap k2]; rfl
          have a1 : W2.cell? ⟨wr.heap.size, 1, none⟩ = some (.int .i64 p.Y) := by rw [Lib.cell_of_heap k2]; rfl
          have y0 := cell_keep hb2 hgb y00
          have hLow2 : Low W1 W2 := Below.trans hLow (Below.mono hb2 (Below.size hLow))
          have hO2 := owns_keep hO hb2
          have i1 : 0 ≤ (i : Int) := by omega
          have i2 : (i : Int) < (l.length : Int) := by omega
          have hs0 := Below.size hLow2
          have hLb : X.length ≤ 1048576 := by omega
          clear hc hgc hp hri HX y00 k2 hO
          by_cases hrm : ri = m
          · subst hrm
            have e1 : ((ri : Int) == (ri : Int)) = true := by simp
            by_cases hXe : X = []
            · subst hXe
              have HX2 : Hid (([] ++ [p]) ++ pick (ri - 1) (some p) (l.drop (i + 1)) (R.drop (i + 1)) = L) := (by
                show _ = _
                rw [← HXP.out, if_pos ⟨rfl, by simp⟩]
                rfl)
              have hXl2 : 1 ≤ L.length := by rw [← HX2.out]; simp
              clear HXP
              go_wp2_with fail
              go_big_quiet (fail)
              have hOd : (W2.drewN nq).ownsRow W1.heap.size 44 2 (.slice oo 0 oc) 0 [] := hO2
              have hLd : Low W1 (W2.drewN nq) := Below.dN hLow2 nq
              have c0' : (W2.drewN nq).cell? ⟨wr.heap.size, 0, none⟩ = some (.int .i64 p.X) := a0
              have c1' : (W2.drewN nq).cell? ⟨wr.heap.size, 1, none⟩ = some (.int .i64 p.Y) := a1
              generalize W2.drewN nq = wd at hOd hLd c0' c1' ⊢
              have hsd := Below.size hLd
              clear c0 c1 y0 a0 a1 hW2
              go_wp2_with (at_builtin; refine wpList_append_h _ (by kernel_rfl) (.tmp 50) (.tmp 52) 41 44 (.agg #[.int .i64 0, .int .i64 0]) 2 16 rfl Try.underlying41 infoPr rfl (by decide) (by decide) W1.heap.size (.slice oo 0 oc) 0 [] (by kernel_rfl) (hOd.alloc _) (.slice (some ⟨wd.heap.size, 0, none⟩) 1 1) 1 (prcells [p]) (by kernel_rfl) (new_holds wd _ _ 1 1 (by decide)) rfl (prcells_one _) (by omega) (by simp; omega) ?_)
              intro v3 w3 hown3 hgrow3
              have hB3 : Low W1 w3 := (Below.alloc hLd (Below.size hLd) _).grown hgrow3 (by simp; omega) (fun _ hj => owns_ge hOd hj)
              obtain ⟨oo3, oc3, rfl⟩ := (holds_of hown3).form
              clear hgrow3
              go_wp2
              go_roundw
              case rel => exact ⟨i + 1, ri - 1, [p], oo3, oc3, by omega, by omega, by rw [show ((ri - 1 : Nat) : Int) = (ri : Int) - 1 by omega], rfl, by go_num, hB3, by simp; omega, by simpa using hown3, HX2⟩
              case measure => simp [intOf]; omega
            · have hXp : 0 < X.length := List.length_pos_iff.2 hXe
              obtain ⟨N1, hN1⟩ : ∃ N1, X.length = N1 + 1 := ⟨X.length - 1, by omega⟩
              obtain ⟨bo, fo, rfl, hbo, hco⟩ := HPr.at (holds_of hO2) hXp
              obtain ⟨q, hq⟩ : ∃ q, X[N1] = q := ⟨_, rfl⟩
              obtain ⟨o0, o1⟩ := hco N1 (by omega)
              rw [hq] at o0 o1
              have hlast : X.getLast? = some q := by rw [List.getLast?_eq_getElem?, hN1, Nat.add_sub_cancel, List.getElem?_eq_getElem (by omega), hq]
              have HXQ : Hid (X ++ (if ab p q then p :: pick (ri - 1) (some p) (l.drop (i + 1)) (R.drop (i + 1)) else pick ri X.getLast? (l.drop (i + 1)) (R.drop (i + 1))) = L) := (by
                show _ = _
                rw [← HXP.out]
                congr 1
                by_cases hpq : ab p q
                · rw [if_pos hpq, if_pos ⟨rfl, fun q' h => by rw [hlast] at h; cases h; exact hpq⟩]
                · rw [if_neg hpq, if_neg (fun h => hpq (h.2 q hlast))])
              have HN1 : Hid (X.length = N1 + 1) := hN1
              rw [hN1] at hO2 hXl hLb ⊢
              have hcs : ∀ u : World, Low W2 u → u.cell? ⟨wr.heap.size, 0, none⟩ = some (.int .i64 p.X) ∧ u.cell? ⟨wr.heap.size, 1, none⟩ = some (.int .i64 p.Y) ∧ u.cell? ⟨bo, fo + N1 * 2, none⟩ = some (.int .i64 q.X) ∧ u.cell? ⟨bo, fo + N1 * 2 + 1, none⟩ = some (.int .i64 q.Y) ∧ u.cell? ⟨gb, gf + i, none⟩ = some (.int .i64 ri) := fun u hu => ⟨cell_keep hu (by omega) a0, cell_keep hu (by omega) a1, cell_keep hu hbo o0, cell_keep hu hbo o1, cell_keep hu (by omega) y0⟩
              have n1 : 0 ≤ (N1 : Int) := by omega
              have n2 : (N1 : Int) < (N1 : Int) + 1 := by omega
              have n3 : ((N1 : Int) + 1 == 0) = false := by simp; omega
              have n4 : IntKind.i64.wrap ((N1 : Int) + 1 - 1) = (N1 : Int) := by rw [IntKind.wrap_i64]; omega
              have n5 : IntKind.i64.wrap (N1 : Int) = (N1 : Int) := by rw [IntKind.wrap_i64]; omega
              have n6 : (N1 : Int) + 1 - 1 = (N1 : Int) := by omega
              have n7 : (N1 : Int) < ((N1 + 1 : Nat) : Int) := by omega
              have hLw : Low W2 W2 := Below.refl _ _
              clear HXP hXe hXp hN1 hco hq hlast
              by_cases hab : ab p q
              · have HAB : Hid (decide (ab p q) = true) := decide_eq_true hab
                have HX2 : Hid ((X ++ [p]) ++ pick (ri - 1) (some p) (l.drop (i + 1)) (R.drop (i + 1)) = L) := (by
                  show _ = _
                  rw [← HXQ.out, if_pos hab]
                  simp)
                have hXl2 : N1 + 1 + 1 ≤ L.length := by rw [← HX2.out, ← HN1.out]; simp
                clear HXQ hab
                go_wp2_with fail
                go_region_held3 (fun w' => w'.cell? ⟨wr.heap.size, 0, none⟩ = some (.int .i64 p.X) ∧ w'.cell? ⟨wr.heap.size, 1, none⟩ = some (.int .i64 p.Y) ∧ w'.cell? ⟨bo, fo + N1 * 2, none⟩ = some (.int .i64 q.X) ∧ w'.cell? ⟨bo, fo + N1 * 2 + 1, none⟩ = some (.int .i64 q.Y) ∧ w'.cell? ⟨gb, gf + i, none⟩ = some (.int .i64 ri) ∧ Low W2 w') (go_keep)
                  (first | (go_at_call 46; refine (above_low p q true W2 _ HAB (by first | assumption | (simp [*]; done))).mono ?_; rintro e wd ⟨rfl, hlow⟩; obtain ⟨g0, g1, g2, g3, g4⟩ := hcs wd hlow))
                have hOd : wd.ownsRow W1.heap.size 44 2 (.slice (some ⟨bo, fo, none⟩) (N1 + 1) oc) (N1 + 1) (prcells X) := owns_keep hO2 hlow
                have hLd : Low W1 wd := Below.trans hLow2 (Below.mono hlow (Below.size hLow2))
                have hsd := Below.size hLd
                clear c0 c1 o0 o1 y0 a0 a1 hcs g2 g3 g4 n1 n2 n3 n4 n5 n6 n7 hW2
                go_wp2_with (at_builtin; refine wpList_append_h _ (by kernel_rfl) (.tmp 50) (.tmp 52) 41 44 (.agg #[.int .i64 0, .int .i64 0]) 2 16 rfl Try.underlying41 infoPr rfl (by decide) (by decide) W1.heap.size (.slice (some ⟨bo, fo, none⟩) (N1 + 1) oc) (N1 + 1) (prcells X) (by kernel_rfl) (hOd.alloc _) (.slice (some ⟨wd.heap.size, 0, none⟩) 1 1) 1 (prcells [p]) (by kernel_rfl) (new_holds wd _ _ 1 1 (by decide)) rfl (prcells_one _) (by omega) (by simp; omega) ?_)
                intro v3 w3 hown3 hgrow3
                have hB3 : Low W1 w3 := (Below.alloc hLd (Below.size hLd) _).grown hgrow3 (by simp; omega) (fun _ hj => owns_ge hOd hj)
                rw [← prcells_append] at hown3
                obtain ⟨oo3, oc3, rfl⟩ := (holds_of hown3).form
                clear hgrow3
                go_wp2
                go_roundw
                case rel => exact ⟨i + 1, ri - 1, X ++ [p], oo3, oc3, by omega, by omega, by rw [show ((ri - 1 : Nat) : Int) = (ri : Int) - 1 by omega], by rw [List.length_append, HN1.out]; rfl, by go_num, hB3, by rw [List.length_append, HN1.out]; simp; omega, by rw [List.length_append, HN1.out]; exact hown3, by rw [List.getLast?_concat]; exact HX2⟩
                case measure => simp [intOf]; omega
              · have HAB : Hid (decide (ab p q) = false) := decide_eq_false hab
                have HX2 : Hid (X ++ pick ri X.getLast? (l.drop (i + 1)) (R.drop (i + 1)) = L) := (by
                  show _ = _
                  rw [← HXQ.out, if_neg hab])
                clear HXQ hab
                go_wp2_with fail
                go_region_held3 (fun w' => w'.cell? ⟨wr.heap.size, 0, none⟩ = some (.int .i64 p.X) ∧ w'.cell? ⟨wr.heap.size, 1, none⟩ = some (.int .i64 p.Y) ∧ w'.cell? ⟨bo, fo + N1 * 2, none⟩ = some (.int .i64 q.X) ∧ w'.cell? ⟨bo, fo + N1 * 2 + 1, none⟩ = some (.int .i64 q.Y) ∧ w'.cell? ⟨gb, gf + i, none⟩ = some (.int .i64 ri) ∧ Low W2 w') (go_keep)
                  (first | (go_at_call 46; refine (above_low p q false W2 _ HAB (by first | assumption | (simp [*]; done))).mono ?_; rintro e wd ⟨rfl, hlow⟩; obtain ⟨g0, g1, g2, g3, g4⟩ := hcs wd hlow))
                have hOd : wd.ownsRow W1.heap.size 44 2 (.slice (some ⟨bo, fo, none⟩) (N1 + 1) oc) (N1 + 1) (prcells X) := owns_keep hO2 hlow
                have hLd : Low W1 wd := Below.trans hLow2 (Below.mono hlow (Below.size hLow2))
                clear c0 c1 o0 o1 y0 a0 a1 hcs g0 g1 g2 g3 g4 hW2
                go_wp2
                go_roundw
                case rel => exact ⟨i + 1, ri, X, _, _, by omega, hm, rfl, by rw [HN1.out], by go_num, hLd, by rw [HN1.out]; exact hXl, by rw [HN1.out]; exact hOd, HX2⟩
                case measure => simp [intOf]; omega
          · have e1 : ((ri : Int) == (m : Int)) = false := by simp; omega
            have HX2 : Hid (X ++ pick m X.getLast? (l.drop (i + 1)) (R.drop (i + 1)) = L) := (by
              show _ = _
              rw [← HXP.out, if_neg (fun h => hrm h.1)])
            clear HXP
            go_wp2_with fail
            go_big_quiet (fail)
            go_wp2
            go_roundw
            case rel => exact ⟨i + 1, m, X, oo, oc, by omega, hm, rfl, rfl, by go_num, Below.dN hLow2 _, hXl, hO2, HX2⟩
            case measure => simp [intOf]; omega
        · have e : X = L := by
            have := HX.out
            rw [show l.drop i = [] by rw [List.drop_eq_nil_iff]; omega] at this
            simpa [pick] using this
          subst e
          go_wp2
          go_ret
          exact ⟨_, rfl, owns_base hO hB1.size, hB1.trans (Below.mono hLow hB1.size)⟩
end Go.Proofs.Ytppdcjjkkckokaa
