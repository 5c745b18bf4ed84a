/-
  Texts that belong together, joined: NcP.
-/
import Derived.Test.YtgiojkhmkeocfaaDoorNoPriA4
import Derived.Test.YtgiojkhmkeocfaaDoorNoPriA3

/- The code's Print of the normal form, walked. -/
namespace Go.Proofs.YtgiojkhmkeocfaaDoor
open Go.RowKit

theorem exec_addS {u : World} {x y : List UInt8} (h : Fits x y) {op : Oper} (p q : Operand) (ho : op.op = .binOp .add 9 p q 9) {ev : Operand → Value} (hx : ev p = .string ⟨x.toArray⟩) (hy : ev q = .string ⟨y.toArray⟩) :
    (execOp ev op).run Tryd.prog u = .ok (.value (.string ⟨(x ++ y).toArray⟩)) u := by
  have h1 := add_fits h Tryd.prog u
  simp only [execOp, ho, hx, hy]
  go_simp
theorem others_low {e : TypeId} {b : Option Nat} {w u : World} (h : Below w.heap.size w u) : Lib.OthersKept e b w u := fun k _ hk _ _ => (h.block k (Array.getElem?_eq_some_iff.1 hk).1).trans hk
theorem rgx_rng {p n : Int} (h : 1 ≤ n) : rgx (p + 1) n = rngT p n := by
  unfold rgx rngT
  by_cases h1 : n = 1
  · rw [if_pos (by omega), if_pos h1]
  · rw [if_neg (by omega), if_neg h1]
    have e : p + 1 + n - 1 = p + n := by omega
    rw [e]
theorem cmd_code {c : Ch} (hn : numB c = true) : rgx (noA c.A c.AN) c.AN ++ ltrT c.AN c.BN ++ rgx (noA c.B c.BN) c.BN = cmdT c := by
  have h := (numB_iff c).1 hn
  unfold ltrT cmdT noA
  by_cases h1 : c.AN = 0
  · have e1 : rgx c.A c.AN = Lib.itoa c.A := by unfold rgx; rw [if_pos (by omega)]
    rw [if_pos h1, if_pos h1, if_neg (by omega), if_pos (by omega), rgx_rng (by omega), e1]
    simp
  · rw [if_neg h1, if_neg h1, if_pos (by omega), rgx_rng (by omega)]
    by_cases h2 : c.BN = 0
    · have e1 : rgx c.B c.BN = Lib.itoa c.B := by unfold rgx; rw [if_pos (by omega)]
      rw [if_pos h2, if_pos h2, if_neg (by omega), e1]
      simp
    · rw [if_neg h2, if_neg h2, if_pos (by omega), rgx_rng (by omega)]
      simp
theorem zero_old (X Y : List (List UInt8)) : pkL 43 (mks 45 X ++ mks 43 Y) = X := by
  rw [pkL_append, npk_mks, npk_mks, if_pos (by decide), if_neg (by decide)]
  simp
theorem zero_new (X Y : List (List UInt8)) : pkL 45 (mks 45 X ++ mks 43 Y) = Y := by
  rw [pkL_append, npk_mks, npk_mks, if_neg (by decide), if_pos (by decide)]
  simp
theorem grpE_zero (l : List Ch) (n m : Int) : grpE l n m 0 = chk l n m := by
  unfold grpE
  split
  · rfl
  · rename_i h
    rw [if_neg (by omega)]
    omega
theorem chg_flat (a b : List (List UInt8)) (c : Ch) : (chgL a b c).flatten = cmdT c ++ [10] ++ ((cut a c.A c.AN).flatMap (lnL [60, 32])).flatten ++ (sepL c).flatten ++ ((cut b c.B c.BN).flatMap (lnL [62, 32])).flatten := by
  unfold chgL
  simp only [List.flatten_cons, List.flatten_append, List.append_assoc]
theorem ws_held {b : Nat} {acc s : List UInt8} {W w1 u : World} (hB : Lib.IsBuilderF 61 5 b b (Lib.byteCells acc) u) (hl : acc.length + s.length ≤ 140737488355328) (hz : b ≤ u.heap.size) (hS : Lib.OthersKept 5 (some b) W u ∧ Below b w1 u) :
    Calls Tryd.prog 28 (#[.pointer (some ⟨b, 0, none⟩), .string ⟨s.toArray⟩] ++ #[]) u fun e w' => ∃ v, e = .returned v ∧ (Lib.OthersKept 5 (some b) W w' ∧ Below b w1 w') ∧ (Lib.IsBuilderF 61 5 b b (Lib.byteCells (acc ++ s)) w' ∧ ∃ z, v = .tuple #[z, .nilIface]) := by
  refine (Tryd.WriteString_h b b _ ⟨s.toArray⟩ u hB (by rw [bcells_len]; exact hl) hz).mono ?_
  rintro e w' ⟨rfl, h1, h2, h3⟩
  exact ⟨_, rfl, ⟨hS.1.trans h3, hS.2.trans h2⟩, .inr (by rw [Lib.byteCells_append]; exact h1), _, rfl⟩
set_option maxHeartbeats 16000000 in
set_option maxRecDepth 10000 in
theorem nPrint_f (l : List Ch) (vl va vb : Value) (a b : List (List UInt8)) (w : World) (hl : HCh w vl l) (ha : HS w va a) (hb : HS w vb b) (hll : l.length ≤ 1099511627776) (hla : a.length ≤ 137438953472) (hlb : b.length ≤ 137438953472) (hta : ∀ s ∈ a, s.length ≤ 1099511627776) (htb : ∀ s ∈ b, s.length ≤ 1099511627776) (HTb : Hid (Tab10 w))
    (r : Int) (HR : Hid (chk l a.length b.length = r)) (T : List UInt8) (HT : Hid ((if r = 0 then prtT l a b else []) = T)) (hT : T.length ≤ 70368744177664) :
    Calls Tryd.prog 8 #[vl, va, vb] w fun e w' => e = .returned (.tuple #[.string ⟨T.toArray⟩, .int .i64 r]) ∧ Below w.heap.size w w' := by
  obtain ⟨lo, lc, rfl⟩ := Holds.form hl
  obtain ⟨ao, ca, rfl⟩ := Holds.form ha
  obtain ⟨bo, cb, rfl⟩ := Holds.form hb
  have HZ0 : Hid (grpE l a.length b.length 0 = r) := (by show _ = _; rw [grpE_zero]; exact HR.out)
  obtain ⟨M, hM⟩ : ∃ M, mkR l a b 0 = M := ⟨_, rfl⟩
  have HM : Hid (mkR l a b 0 = M) := hM
  have HTA : Hid (∀ s ∈ a, s.length ≤ 1099511627776) := hta
  have HTB : Hid (∀ s ∈ b, s.length ≤ 1099511627776) := htb
  clear hM hta htb
  go_enter Tryd.func8, Tryd.ntmps8
  go_wp2_with fail
  refine (hMake_f l a b 0 _ _ _ w hl ha hb (by omega) (by omega) (by omega) r HZ0 M HM).mono ?_
  rintro e w1 ⟨v1, P, rfl, hHs, hPM⟩
  have HPM : Hid (P.map (·.1) = M) := hPM
  clear hPM hl ha hb
  have hlow := hHs.low
  have hH := hHs.holds
  obtain ⟨po, pc, rfl⟩ := hH.1.form
  clear hHs
  by_cases hr : r = 0
  · subst hr
    have hTT := HT.out
    rw [if_pos rfl] at hTT
    have hs : Script l a.length b.length := (by
      by_cases h : Script l a.length b.length
      · exact h
      · have := chk_no h
        rw [HR.out] at this
        cases this)
    have hMP : P.map (·.1) = l.map fun c => oneH a b 0 [c] := (by rw [HPM.out, ← HM.out]; exact mk_zero hs)
    have HMP : Hid (P.map (·.1) = l.map fun c => oneH a b 0 [c]) := hMP
    have HPl : Hid (P.length = l.length) := (by show P.length = l.length; have := congrArg List.length hMP; simpa using this)
    have HMH : Hid (∀ c ∈ l, numB c = true ∧ c.A + c.AN ≤ (a.length : Int) ∧ c.B + c.BN ≤ (b.length : Int)) := right_mem hs.2.2
    have HT1 : Hid (Tab10 w1) := HTb.out.on hlow
    have HTT : Hid (prtT l a b = T) := hTT
    clear hs hMP HT HR HZ0 HPM HM hTT HTb
    have HTb := HT1
    clear HT1
    have hF0 := isF_fresh w1
    have hBw : Below w1.heap.size w1 (w1.alloc (.cells #[.pointer none, .slice none 0 0] 61)) := (Below.refl _ w1).alloc (Nat.le_refl _) _
    have HPl2 := HPl.out
    have hPl : P.length ≤ 1099511627776 := by omega
    clear HPl2
    go_wp2
    go_loopw [25] (fun i wr => ∃ (k : Nat) (acc : List UInt8), k ≤ P.length ∧ i = .int .i64 (k : Int) ∧ Lib.IsBuilderF 61 5 w1.heap.size w1.heap.size (Lib.byteCells acc) wr ∧ Below w1.heap.size w1 wr ∧ Hid (acc ++ prtT (l.drop k) a b = T)) (fun i _ => P.length - (intOf i).toNat)
    case atStart => exact ⟨0, [], Nat.zero_le _, by go_num, hF0, hBw, HTT⟩
    case round =>
    clear hF0 hBw HTT
    obtain ⟨k, acc, hk, rfl, hBr, hbr, HI⟩ := hrel
    by_cases hlt : k < P.length
    · have hkl : k < l.length := (by have := HPl.out; omega)
      obtain ⟨⟨x, y⟩, hxy⟩ : ∃ q, P[k] = q := ⟨_, rfl⟩
      obtain ⟨c, hc⟩ : ∃ c, l[k] = c := ⟨_, rfl⟩
      have hx : x = oneH a b 0 [c] := (by
        have h1 : (P.map (·.1))[k]? = (l.map fun c => oneH a b 0 [c])[k]? := by rw [HMP.out]
        rw [List.getElem?_map, List.getElem?_map, List.getElem?_eq_getElem hlt, List.getElem?_eq_getElem hkl, hxy, hc] at h1
        simpa using h1)
      have hm := HMH.out l[k] (List.getElem_mem hkl)
      rw [hc] at hm
      rw [one_zero hm.1 hm.2.1 hm.2.2] at hx
      have hn := (numB_iff c).1 hm.1
      obtain ⟨bk, off, rfl, hbk, _⟩ := HHp.at hH (by omega)
      obtain ⟨⟨c0, c1, c2, c3, c4⟩, hml2⟩ := HHp.take hH hbr k hlt hxy
      have hml : HMk w1 y x.ls := (by
        have h := hH.2 P[k] (List.getElem_mem hlt)
        rw [hxy] at h
        exact h)
      obtain ⟨yo, yc, rfl⟩ := HMk.form hml
      obtain ⟨RA, hRA⟩ : ∃ R, cut a c.A c.AN = R := ⟨_, rfl⟩
      obtain ⟨RB, hRB⟩ : ∃ R, cut b c.B c.BN = R := ⟨_, rfl⟩
      have HOl : Hid (oldL x = RA) := (by show _ = _; rw [hx, ← hRA]; exact zero_old _ _)
      have HNw : Hid (newL x = RB) := (by show _ = _; rw [hx, ← hRB]; exact zero_new _ _)
      have hA0 : 0 ≤ x.A ∧ x.A ≤ 2147483648 ∧ 0 ≤ x.AN ∧ x.AN ≤ 2147483648 ∧ 0 ≤ x.B ∧ x.B ≤ 2147483648 ∧ 0 ≤ x.BN ∧ x.BN ≤ 2147483648 := (by
        rw [hx]
        unfold noA
        dsimp only
        refine ⟨?_, ?_, by omega, by omega, ?_, ?_, by omega, by omega⟩ <;> split <;> omega)
      have hRAl : RA.length ≤ a.length := (by rw [← hRA]; unfold cut; simp only [List.length_take, List.length_drop]; omega)
      have hRBl : RB.length ≤ b.length := (by rw [← hRB]; unfold cut; simp only [List.length_take, List.length_drop]; omega)
      have hxl : x.ls.length ≤ 1099511627776 := (by rw [hx]; dsimp only; rw [List.length_append]; unfold mks; rw [List.length_map, List.length_map, hRA, hRB]; omega)
      have HRAt : Hid (∀ s ∈ RA, s.length ≤ 1099511627776) := (by intro s hs; rw [← hRA] at hs; exact HTA.out s (mem_cut hs))
      have HRBt : Hid (∀ s ∈ RB, s.length ≤ 1099511627776) := (by intro s hs; rw [← hRB] at hs; exact HTB.out s (mem_cut hs))
      obtain ⟨T1, HT1⟩ : ∃ T1, Hid (rgx x.A x.AN = T1) := ⟨_, rfl⟩
      obtain ⟨T2, HT2⟩ : ∃ T1, Hid (ltrT x.AN x.BN = T1) := ⟨_, rfl⟩
      obtain ⟨T3, HT3⟩ : ∃ T1, Hid (rgx x.B x.BN = T1) := ⟨_, rfl⟩
      have l1 : T1.length ≤ 43 := (by rw [← HT1.out]; exact rgx_len (by omega) (by omega) (by omega) (by omega))
      have l2 : T2.length = 1 := (by rw [← HT2.out]; exact ltr_len _ _)
      have l3 : T3.length ≤ 43 := (by rw [← HT3.out]; exact rgx_len (by omega) (by omega) (by omega) (by omega))
      have hF1 : Fits T1 T2 := by unfold Fits; omega
      have hF2 : Fits (T1 ++ T2) T3 := by unfold Fits; rw [List.length_append]; omega
      have hF3 : Fits (T1 ++ T2 ++ T3) [10] := by unfold Fits; simp only [List.length_append, List.length_cons, List.length_nil]; omega
      have hlC : (T1 ++ T2 ++ T3 ++ [10]).length ≤ 100 := by simp only [List.length_append, List.length_cons, List.length_nil]; omega
      obtain ⟨dv, HDV⟩ : ∃ dv, Hid ((decide (0 < x.AN) && decide (0 < x.BN)) = dv) := ⟨_, rfl⟩
      obtain ⟨ac2, hA2⟩ : ∃ z, acc ++ (T1 ++ T2 ++ T3 ++ [10]) ++ (RA.flatMap (lnL [60, 32])).flatten = z := ⟨_, rfl⟩
      have HA2 : Hid (acc ++ (T1 ++ T2 ++ T3 ++ [10]) ++ (RA.flatMap (lnL [60, 32])).flatten = ac2) := hA2
      clear hA2
      obtain ⟨ac4, hA4⟩ : ∃ z, ac2 ++ (if dv = true then [45, 45, 45, 10] else []) ++ (RB.flatMap (lnL [62, 32])).flatten = z := ⟨_, rfl⟩
      have HA4 : Hid (ac2 ++ (if dv = true then [45, 45, 45, 10] else []) ++ (RB.flatMap (lnL [62, 32])).flatten = ac4) := hA4
      clear hA4
      have HEnd : Hid (ac4 ++ prtT (l.drop (k + 1)) a b = T) := (by
        show _ = _
        have e1 : prtT (l.drop k) a b = (chgL a b c).flatten ++ prtT (l.drop (k + 1)) a b := (by
          rw [List.drop_eq_getElem_cons hkl, hc]
          unfold prtT prtL
          rw [List.flatMap_cons, List.flatten_append])
        have e2 : (sepL c).flatten = (if dv = true then [45, 45, 45, 10] else []) := (by
          rw [← HDV.out, hx]
          unfold sepL
          dsimp only
          by_cases hb1 : 0 < c.AN
          · by_cases hb2 : 0 < c.BN
            · rw [if_pos ⟨hb1, hb2⟩, if_pos (by simp [hb1, hb2])]
              rfl
            · rw [if_neg (fun h => hb2 h.2), if_neg (by simp [hb2])]
              rfl
          · rw [if_neg (fun h => hb1 h.1), if_neg (by simp [hb1])]
            rfl)
        have e3 : T1 ++ T2 ++ T3 = cmdT c := (by
          rw [← HT1.out, ← HT2.out, ← HT3.out, hx]
          exact cmd_code hm.1)
        rw [← HI.out, e1, chg_flat, ← HA4.out, ← HA2.out, e2, e3, hRA, hRB]
        simp only [List.append_assoc])
      have hal4 : ac4.length ≤ 70368744177664 := (by
        have h := congrArg List.length HEnd.out
        rw [List.length_append] at h
        omega)
      have hal2 : ac2.length + (if dv = true then [45, 45, 45, 10] else ([] : List UInt8)).length ≤ 70368744177664 := (by
        have h := congrArg List.length HA4.out
        rw [List.length_append, List.length_append] at h
        omega)
      have hal0 : acc.length ≤ 70368744177664 := (by
        have h := congrArg List.length HA2.out
        rw [List.length_append, List.length_append] at h
        omega)
      have i1 : 0 ≤ (k : Int) := by omega
      have i2 : (k : Int) < (P.length : Int) := by omega
      have hx2 := Hx.new wr x (.slice yo x.ls.length yc)
      have hb2 : Below w1.heap.size w1 (wr.alloc (hkO x (.slice yo x.ls.length yc))) := hbr.alloc hbr.size _
      have hB2 := isF_low hBr ((Below.refl _ wr).alloc (Nat.le_refl _) (hkO x (.slice yo x.ls.length yc)))
      have hHb : w1.heap.size < wr.heap.size := (by
        rcases hBr with ⟨_, _, h, _⟩ | ⟨_, _, h, _⟩ <;> exact (Array.getElem?_eq_some_iff.1 h).1)
      have hW : wr.alloc (Obj.cells #[.int .i64 x.A, .int .i64 x.AN, .int .i64 x.B, .int .i64 x.BN, .slice yo x.ls.length yc] 43) = wr.alloc (hkO x (.slice yo x.ls.length yc)) := rfl
      clear hx hxy hc hm hn hRA hRB HI hml2 HMP HMH HTA HTB hkl HPl
      go_upto_region 8 with fail
      generalize wr.alloc (hkO x (.slice yo x.ls.length yc)) = W2 at *
      clear hW c0 c1 c2 c3 c4 hBr
      have hS2 : Lib.OthersKept 5 (some w1.heap.size) W2 W2.drew ∧ Below w1.heap.size w1 W2.drew := ⟨Lib.OthersKept.refl _ _ _, hb2.drew⟩
      have hxu : ∀ u, Lib.OthersKept 5 (some w1.heap.size) W2 u → Hx u wr.heap.size x (.slice yo x.ls.length yc) := fun u hu => hx_others hx2 hu (by omega)
      have hBd : Lib.IsBuilderF 61 5 w1.heap.size w1.heap.size (Lib.byteCells acc) W2.drew := hB2
      refine wp_region_noPanic ?_
      refine wp_region_held_drew (S := fun u => Lib.OthersKept 5 (some w1.heap.size) W2 u ∧ Below w1.heap.size w1 u) (by kernel_rfl) hS2 (fun hHeld => ?_)
      clear hS2
      generalize W2.drew = wd at hHeld hBd ⊢
      refine go_take 0 29 _ (.pointer (some ⟨wr.heap.size, 0, none⟩)) rfl (by kernel_rfl) (by kernel_rfl) (by kernel_rfl) (by kernel_rfl) (fun _ _ _ h => h) (Or.inl ⟨by kernel_rfl, fun u hu => by kernel_rfl⟩) hHeld ?_
      simp only [Act.put, List.setIfInBounds_toArray, List.set_cons_zero, List.set_cons_succ]
      refine go_take 1 30 _ (.int .i64 x.A) rfl (by kernel_rfl) (by kernel_rfl) (by kernel_rfl) (by kernel_rfl) (fun _ _ _ h => h) (Or.inl ⟨by kernel_rfl, fun u hu => load_int (hxu u hu.1).cells.1 (.tmp 29) (by kernel_rfl) (by kernel_rfl)⟩) hHeld ?_
      simp only [Act.put, List.setIfInBounds_toArray, List.set_cons_zero, List.set_cons_succ]
      refine go_take 2 31 _ (.pointer (some ⟨wr.heap.size, 1, none⟩)) rfl (by kernel_rfl) (by kernel_rfl) (by kernel_rfl) (by kernel_rfl) (fun _ _ _ h => h) (Or.inl ⟨by kernel_rfl, fun u hu => by kernel_rfl⟩) hHeld ?_
      simp only [Act.put, List.setIfInBounds_toArray, List.set_cons_zero, List.set_cons_succ]
      refine go_take 3 32 _ (.int .i64 x.AN) rfl (by kernel_rfl) (by kernel_rfl) (by kernel_rfl) (by kernel_rfl) (fun _ _ _ h => h) (Or.inl ⟨by kernel_rfl, fun u hu => load_int (hxu u hu.1).cells.2.1 (.tmp 31) (by kernel_rfl) (by kernel_rfl)⟩) hHeld ?_
      simp only [Act.put, List.setIfInBounds_toArray, List.set_cons_zero, List.set_cons_succ]
      refine go_take 5 34 _ (hkV x (.slice yo x.ls.length yc)) rfl (by kernel_rfl) (by kernel_rfl) (by kernel_rfl) (by kernel_rfl) (fun _ _ _ h => h) (Or.inl ⟨by kernel_rfl, fun u hu => load_hk (hxu u hu.1) (.tmp 12) (by kernel_rfl) (by kernel_rfl)⟩) hHeld ?_
      simp only [Act.put, List.setIfInBounds_toArray, List.set_cons_zero, List.set_cons_succ]
      refine go_take 8 37 _ (.pointer (some ⟨wr.heap.size, 2, none⟩)) rfl (by kernel_rfl) (by kernel_rfl) (by kernel_rfl) (by kernel_rfl) (fun _ _ _ h => h) (Or.inl ⟨by kernel_rfl, fun u hu => by kernel_rfl⟩) hHeld ?_
      simp only [Act.put, List.setIfInBounds_toArray, List.set_cons_zero, List.set_cons_succ]
      refine go_take 9 38 _ (.int .i64 x.B) rfl (by kernel_rfl) (by kernel_rfl) (by kernel_rfl) (by kernel_rfl) (fun _ _ _ h => h) (Or.inl ⟨by kernel_rfl, fun u hu => load_int (hxu u hu.1).cells.2.2.1 (.tmp 37) (by kernel_rfl) (by kernel_rfl)⟩) hHeld ?_
      simp only [Act.put, List.setIfInBounds_toArray, List.set_cons_zero, List.set_cons_succ]
      refine go_take 10 39 _ (.pointer (some ⟨wr.heap.size, 3, none⟩)) rfl (by kernel_rfl) (by kernel_rfl) (by kernel_rfl) (by kernel_rfl) (fun _ _ _ h => h) (Or.inl ⟨by kernel_rfl, fun u hu => by kernel_rfl⟩) hHeld ?_
      simp only [Act.put, List.setIfInBounds_toArray, List.set_cons_zero, List.set_cons_succ]
      refine go_take 11 40 _ (.int .i64 x.BN) rfl (by kernel_rfl) (by kernel_rfl) (by kernel_rfl) (by kernel_rfl) (fun _ _ _ h => h) (Or.inl ⟨by kernel_rfl, fun u hu => load_int (hxu u hu.1).cells.2.2.2.1 (.tmp 39) (by kernel_rfl) (by kernel_rfl)⟩) hHeld ?_
      simp only [Act.put, List.setIfInBounds_toArray, List.set_cons_zero, List.set_cons_succ]
      refine go_callE 4 33 _ rfl (by kernel_rfl) (by kernel_rfl) (by kernel_rfl) 29 (.func 29) #[.tmp 30, .tmp 32] #[3, 3] (by kernel_rfl) #[] (by kernel_rfl) #[.int .i64 x.A, .int .i64 x.AN] (by kernel_rfl) (enters_of Tryd.func29 (by kernel_rfl) rfl) (fun v u => v = .string ⟨T1.toArray⟩ ∧ Below wd.heap.size wd u) ((nrange_f x.A x.AN (by omega) (by omega) (by omega) (by omega) wd (HTb.out.on hHeld.2) T1 HT1).mono (fun _ q hq => ⟨_, hq.1, ⟨hHeld.1.trans (others_low hq.2), hHeld.2.trans (hq.2.mono hHeld.2.size)⟩, rfl, hq.2⟩)) ?_
      rintro _ u1 hH1 ⟨rfl, hL1⟩
      simp only [Act.put, List.setIfInBounds_toArray, List.set_cons_zero, List.set_cons_succ]
      refine go_callE 6 35 _ rfl (by kernel_rfl) (by kernel_rfl) (by kernel_rfl) 30 (.func 30) #[.tmp 34] #[43] (by kernel_rfl) #[] (by kernel_rfl) #[hkV x (.slice yo x.ls.length yc)] (by kernel_rfl) (enters_of Tryd.func30 (by kernel_rfl) rfl) (fun v u => v = .string ⟨T2.toArray⟩ ∧ Below u1.heap.size u1 u) ((nletter_f x _ u1 (HMk.keep hml hH1.2 (Nat.le_refl _)) T2 HT2).mono (fun _ q hq => ⟨_, hq.1, ⟨hH1.1.trans (others_low hq.2), hH1.2.trans (hq.2.mono hH1.2.size)⟩, rfl, hq.2⟩)) ?_
      rintro _ u2 hH2 ⟨rfl, hL2⟩
      simp only [Act.put, List.setIfInBounds_toArray, List.set_cons_zero, List.set_cons_succ]
      refine go_take 7 36 _ (.string ⟨(T1 ++ T2).toArray⟩) rfl (by kernel_rfl) (by kernel_rfl) (by kernel_rfl) (by kernel_rfl) (fun _ _ _ h => h) (Or.inl ⟨by kernel_rfl, fun u hu => exec_addS hF1 (.tmp 33) (.tmp 35) (by kernel_rfl) (by kernel_rfl) (by kernel_rfl)⟩) hH2 ?_
      simp only [Act.put, List.setIfInBounds_toArray, List.set_cons_zero, List.set_cons_succ]
      refine go_callE 12 41 _ rfl (by kernel_rfl) (by kernel_rfl) (by kernel_rfl) 29 (.func 29) #[.tmp 38, .tmp 40] #[3, 3] (by kernel_rfl) #[] (by kernel_rfl) #[.int .i64 x.B, .int .i64 x.BN] (by kernel_rfl) (enters_of Tryd.func29 (by kernel_rfl) rfl) (fun v u => v = .string ⟨T3.toArray⟩ ∧ Below u2.heap.size u2 u) ((nrange_f x.B x.BN (by omega) (by omega) (by omega) (by omega) u2 (HTb.out.on hH2.2) T3 HT3).mono (fun _ q hq => ⟨_, hq.1, ⟨hH2.1.trans (others_low hq.2), hH2.2.trans (hq.2.mono hH2.2.size)⟩, rfl, hq.2⟩)) ?_
      rintro _ u3 hH3 ⟨rfl, hL3⟩
      simp only [Act.put, List.setIfInBounds_toArray, List.set_cons_zero, List.set_cons_succ]
      refine go_take 13 42 _ (.string ⟨(T1 ++ T2 ++ T3).toArray⟩) rfl (by kernel_rfl) (by kernel_rfl) (by kernel_rfl) (by kernel_rfl) (fun _ _ _ h => h) (Or.inl ⟨by kernel_rfl, fun u hu => exec_addS hF2 (.tmp 36) (.tmp 41) (by kernel_rfl) (by kernel_rfl) (by kernel_rfl)⟩) hH3 ?_
      simp only [Act.put, List.setIfInBounds_toArray, List.set_cons_zero, List.set_cons_succ]
      refine go_take 14 43 _ (.string ⟨(T1 ++ T2 ++ T3 ++ [10]).toArray⟩) rfl (by kernel_rfl) (by kernel_rfl) (by kernel_rfl) (by kernel_rfl) (fun _ _ _ h => h) (Or.inl ⟨by kernel_rfl, fun u hu => exec_addS hF3 (.tmp 42) (.const (.string ⟨#[10]⟩)) (by kernel_rfl) (by kernel_rfl) (by kernel_rfl)⟩) hH3 ?_
      simp only [Act.put, List.setIfInBounds_toArray, List.set_cons_zero, List.set_cons_succ]
      have hbS : Below wd.heap.size wd u3 := hL1.trans ((hL2.trans (hL3.mono hL2.size)).mono hL1.size)
      have hB3 := isF_low hBd hbS
      have hz3 : w1.heap.size ≤ u3.heap.size := hH3.2.size
      have hws := ws_held (s := T1 ++ T2 ++ T3 ++ [10]) hB3 (by omega) hz3 hH3
      refine go_callE 15 44 _ rfl (by kernel_rfl) (by kernel_rfl) (by kernel_rfl) 28 (.func 28) #[.tmp 10, .tmp 43] #[61, 9] (by kernel_rfl) #[] (by kernel_rfl) #[.pointer (some ⟨w1.heap.size, 0, none⟩), .string ⟨(T1 ++ T2 ++ T3 ++ [10]).toArray⟩] (by kernel_rfl) (enters_of Tryd.func28 (by kernel_rfl) rfl) (fun v u => Lib.IsBuilderF 61 5 w1.heap.size w1.heap.size (Lib.byteCells (acc ++ (T1 ++ T2 ++ T3 ++ [10]))) u ∧ ∃ z, v = .tuple #[z, .nilIface]) (?_) ?_
      · exact hws
      clear hws
      rintro _ u4 hH4 ⟨hB4, z4, rfl⟩
      simp only [Act.put, List.setIfInBounds_toArray, List.set_cons_zero, List.set_cons_succ]
      refine wpAnyH_done (by kernel_rfl) ?_ _
      refine NoPanic.normal ?_
      have hx4 := hxu u4 hH4.1
      obtain ⟨d0, d1, d2, d3, d4⟩ := hx4.cells
      clear hHeld hH1 hH2 hH3 hL1 hL2 hL3 hB3 hz3 hbS hBd hB2
      go_wp2_with fail
      refine (hOld_o x (.slice yo x.ls.length yc) u4 (HMk.keep hml hH4.2 (Nat.le_refl _)) hxl RA HOl).mono ?_
      rintro e u5 ⟨vo, rfl, hown5, hL5⟩
      have hform5 : ∃ vo1 vc1, vo = .slice vo1 RA.length vc1 := Holds.form (holds_of hown5)
      have hz4 : w1.heap.size < u4.heap.size := Nat.lt_trans hHb hx4.lt
      have HV5 : Hid (∀ u, Lib.OthersKept 5 (some w1.heap.size) u5 u → HS u vo RA) := fun u hu => holds_of (owns_others hown5 hu (fun g hg => by have := owns_ge hown5 hg; omega))
      have hb5 := hH4.2.trans (hL5.mono hH4.2.size)
      have hB5 := isF_low hB4 hL5
      have hx5 := hx4.low hL5
      clear hown5 d0 d1 d2 d3 d4
      go_wp2_with fail
      refine (nlines_f w1.heap.size w1.heap.size _ [60, 32] RA vo u5 hB5 hb5.size hform5 HV5 (by omega) HRAt (by decide) ac2 HA2 (by omega)).mono ?_
      rintro e u6 ⟨rfl, hB6, hb6', ho6⟩
      have hx6 := hx_others hx5 ho6 (by omega)
      have hb6 := hb5.trans hb6'
      clear hB5 hb5 hx5 HV5 hform5 hb6' ho6 hx4 hB4 hH4 HA2
      obtain ⟨d0, d1, d2, d3, d4⟩ := hx6.cells
      go_wp2_with fail
      refine (ndivided_f x (.slice yo x.ls.length yc) u6 ⟨_, _, _, rfl⟩ dv HDV).mono ?_
      rintro e u7 ⟨rfl, hL7⟩
      have hx7 := hx6.low hL7
      have hb7 := hb6.trans (hL7.mono hb6.size)
      have hB7 := isF_low hB6 hL7
      clear d0 d1 d2 d3 d4 hx6 hb6 hB6 hL7 HDV
      cases dv with
      | false =>
        rw [if_neg (by decide), List.append_nil] at HA4
        obtain ⟨d0, d1, d2, d3, d4⟩ := hx7.cells
        go_wp2_with fail
        refine (hNew_o x (.slice yo x.ls.length yc) u7 (HMk.keep hml hb7 (Nat.le_refl _)) hxl RB HNw).mono ?_
        rintro e u8 ⟨vn, rfl, hown8, hL8⟩
        have hform8 : ∃ vo vc, vn = .slice vo RB.length vc := Holds.form (holds_of hown8)
        have hz7 : w1.heap.size < u7.heap.size := Nat.lt_of_lt_of_le hHb (Nat.le_of_lt hx7.lt)
        have HV8 : Hid (∀ u, Lib.OthersKept 5 (some w1.heap.size) u8 u → HS u vn RB) := fun u hu => holds_of (owns_others hown8 hu (fun g hg => by have := owns_ge hown8 hg; omega))
        have hb8 := hb7.trans (hL8.mono hb7.size)
        have hB8 := isF_low hB7 hL8
        clear hown8 d0 d1 d2 d3 d4
        go_wp2_with fail
        refine (nlines_f w1.heap.size w1.heap.size _ [62, 32] RB vn u8 hB8 hb8.size hform8 HV8 (by omega) HRBt (by decide) ac4 HA4 hal4).mono ?_
        rintro e u9 ⟨rfl, hB9, hb9, ho9⟩
        go_wp2
        exact ⟨⟨k + 1, ac4, by omega, by go_num, hB9, hb8.trans hb9, HEnd⟩, by simp [intOf]; omega⟩
      | true =>
        rw [if_pos rfl] at HA4 hal2
        have hz7b : w1.heap.size ≤ u7.heap.size := hb7.size
        go_wp2_with fail
        refine (Tryd.WriteString_h w1.heap.size w1.heap.size _ _ u7 hB7 (by rw [bcells_len]; show ac2.length + 4 ≤ _; simp only [List.length_cons, List.length_nil] at hal2; omega) hz7b).mono ?_
        rintro e u71 ⟨rfl, hB71, hb71, ho71⟩
        have hB72 : Lib.IsBuilderF 61 5 w1.heap.size w1.heap.size (Lib.byteCells (ac2 ++ [45, 45, 45, 10])) u71 := .inr (by rw [Lib.byteCells_append]; exact hB71)
        have hx72 := hx_others hx7 ho71 (by omega)
        have hb72 := hb7.trans hb71
        clear hB71 hb71 ho71 hB7 hx7 hb7 hz7b
        have hB7 := hB72
        have hx7 := hx72
        have hb7 := hb72
        clear hB72 hx72 hb72
        generalize u71 = u7 at *
        obtain ⟨d0, d1, d2, d3, d4⟩ := hx7.cells
        go_wp2_with fail
        refine (hNew_o x (.slice yo x.ls.length yc) u7 (HMk.keep hml hb7 (Nat.le_refl _)) hxl RB HNw).mono ?_
        rintro e u8 ⟨vn, rfl, hown8, hL8⟩
        have hform8 : ∃ vo vc, vn = .slice vo RB.length vc := Holds.form (holds_of hown8)
        have hz7 : w1.heap.size < u7.heap.size := Nat.lt_of_lt_of_le hHb (Nat.le_of_lt hx7.lt)
        have HV8 : Hid (∀ u, Lib.OthersKept 5 (some w1.heap.size) u8 u → HS u vn RB) := fun u hu => holds_of (owns_others hown8 hu (fun g hg => by have := owns_ge hown8 hg; omega))
        have hb8 := hb7.trans (hL8.mono hb7.size)
        have hB8 := isF_low hB7 hL8
        clear hown8 d0 d1 d2 d3 d4
        go_wp2_with fail
        refine (nlines_f w1.heap.size w1.heap.size _ [62, 32] RB vn u8 hB8 hb8.size hform8 HV8 (by omega) HRBt (by decide) ac4 HA4 hal4).mono ?_
        rintro e u9 ⟨rfl, hB9, hb9, ho9⟩
        go_wp2
        exact ⟨⟨k + 1, ac4, by omega, by go_num, hB9, hb8.trans hb9, HEnd⟩, by simp [intOf]; omega⟩
    · have HE : Hid (acc = T) := (by
        have h := HI.out
        rw [List.drop_of_length_le (by have := HPl.out; omega)] at h
        show acc = T
        simpa [prtT, prtL] using h)
      have hend : decide ((k : Int) < (P.length : Int)) = false := decide_eq_false (by omega)
      have hz := hbr.size
      clear HI
      go_wp2_with fail
      refine (Tryd.Builder_String_any_k w1.heap.size w1.heap.size acc wr hBr hz).mono ?_
      rintro e w2 ⟨rfl, -, hb2, -⟩
      go_wp2
      go_ret2
      exact ⟨by rw [HE.out]; rfl, hlow.trans ((hbr.trans hb2).mono hlow.size)⟩
  · have hrb : (r != 0) = true := bne_iff_ne.2 hr
    have hTT := HT.out
    rw [if_neg hr] at hTT
    subst hTT
    go_wp2
    go_ret2
    exact ⟨rfl, hlow⟩
end Go.Proofs.YtgiojkhmkeocfaaDoor
