/-
  Texts that belong together, joined: NcP, NpI, NoLs, NoCm, NpD.
-/
import Derived.Test.YtgiojkhmkeocfaaGreatDoorPartA7
import Derived.Test.YtgiojkhmkeocfaaGreatDoorPartB4
import Derived.Test.YtgiojkhmkeocfaaGreatDoorPartA8
import Derived.Test.YtgiojkhmkeocfaaGreatDoorPartA4
import Derived.Deep.CutBlock
import Derived.Test.YtgiojkhmkeocfaaGreatDoorPartA5

/- The code's Print of the normal form, walked. -/
set_option maxRecDepth 20000
namespace Go.Proofs.YtgiojkhmkeocfaaGreatDoor
open Go.RowKit

theorem exec_addS {u : World} {x y : List UInt8} (h : Fits x y) {op : Oper} (p q : Operand) (ho : op.op = .binOp .add 9 p q 9) {ev : Operand → Value} (hx : ev p = .string ⟨x.toArray⟩) (hy : ev q = .string ⟨y.toArray⟩) :
    (execOp ev op).run Tryz.prog u = .ok (.value (.string ⟨(x ++ y).toArray⟩)) u := by
  have h1 := add_fits h Tryz.prog u
  simp only [execOp, ho, hx, hy]
  go_simp
theorem others_low {e : TypeId} {b : Option Nat} {w u : World} (h : Below w.heap.size w u) : Lib.OthersKept e b w u := fun k _ hk _ _ => (h.block k (Array.getElem?_eq_some_iff.1 hk).1).trans hk
theorem rgx_rng {p n : Int} (h : 1 ≤ n) : rgx (p + 1) n = rngT p n := by
  unfold rgx rngT
  by_cases h1 : n = 1
  · rw [if_pos (by omega), if_pos h1]
  · rw [if_neg (by omega), if_neg h1]
    have e : p + 1 + n - 1 = p + n := by omega
    rw [e]
theorem cmd_code {c : Ch} (hn : numB c = true) : rgx (noA c.A c.AN) c.AN ++ ltrT c.AN c.BN ++ rgx (noA c.B c.BN) c.BN = cmdT c := by
  have h := (numB_iff c).1 hn
  unfold ltrT cmdT noA
  by_cases h1 : c.AN = 0
  · have e1 : rgx c.A c.AN = Lib.itoa c.A := by unfold rgx; rw [if_pos (by omega)]
    rw [if_pos h1, if_pos h1, if_neg (by omega), if_pos (by omega), rgx_rng (by omega), e1]
    simp
  · rw [if_neg h1, if_neg h1, if_pos (by omega), rgx_rng (by omega)]
    by_cases h2 : c.BN = 0
    · have e1 : rgx c.B c.BN = Lib.itoa c.B := by unfold rgx; rw [if_pos (by omega)]
      rw [if_pos h2, if_pos h2, if_neg (by omega), e1]
      simp
    · rw [if_neg h2, if_neg h2, if_pos (by omega), rgx_rng (by omega)]
      simp
theorem zero_old (X Y : List (List UInt8)) : pkL 43 (mks 45 X ++ mks 43 Y) = X := by
  rw [pkL_append, npk_mks, npk_mks, if_pos (by decide), if_neg (by decide)]
  simp
theorem zero_new (X Y : List (List UInt8)) : pkL 45 (mks 45 X ++ mks 43 Y) = Y := by
  rw [pkL_append, npk_mks, npk_mks, if_neg (by decide), if_pos (by decide)]
  simp
theorem grpE_zero (l : List Ch) (n m : Int) : grpE l n m 0 = chk l n m := by
  unfold grpE
  split
  · rfl
  · rename_i h
    rw [if_neg (by omega)]
    omega
theorem chg_flat (a b : List (List UInt8)) (c : Ch) : (chgL a b c).flatten = cmdT c ++ [10] ++ ((cut a c.A c.AN).flatMap (lnL [60, 32])).flatten ++ (sepL c).flatten ++ ((cut b c.B c.BN).flatMap (lnL [62, 32])).flatten := by
  unfold chgL
  simp only [List.flatten_cons, List.flatten_append, List.append_assoc]
theorem ws_held {b : Nat} {acc s : List UInt8} {W w1 u : World} (hB : Lib.IsBuilderF 77 5 b b (Lib.byteCells acc) u) (hl : acc.length + s.length ≤ 140737488355328) (hz : b ≤ u.heap.size) (hS : Lib.OthersKept 5 (some b) W u ∧ Below b w1 u) :
    Calls Tryz.prog 34 (#[.pointer (some ⟨b, 0, none⟩), .string ⟨s.toArray⟩] ++ #[]) u fun e w' => ∃ v, e = .returned v ∧ (Lib.OthersKept 5 (some b) W w' ∧ Below b w1 w') ∧ (Lib.IsBuilderF 77 5 b b (Lib.byteCells (acc ++ s)) w' ∧ ∃ z, v = .tuple #[z, .nilIface]) := by
  refine (Tryz.WriteString_h b b _ ⟨s.toArray⟩ u hB (by rw [bcells_len]; exact hl) hz).mono ?_
  rintro e w' ⟨rfl, h1, h2, h3⟩
  exact ⟨_, rfl, ⟨hS.1.trans h3, hS.2.trans h2⟩, .inr (by rw [Lib.byteCells_append]; exact h1), _, rfl⟩
set_option maxHeartbeats 16000000 in
set_option maxRecDepth 10000 in
theorem nPrint_f (l : List Ch) (vl va vb : Value) (a b : List (List UInt8)) (w : World) (hl : HCh w vl l) (ha : HS w va a) (hb : HS w vb b) (hll : l.length ≤ 1099511627776) (hla : a.length ≤ 137438953472) (hlb : b.length ≤ 137438953472) (hta : ∀ s ∈ a, s.length ≤ 1099511627776) (htb : ∀ s ∈ b, s.length ≤ 1099511627776) (HTb : Hid (Tab10 w))
    (r : Int) (HR : Hid (chk l a.length b.length = r)) (T : List UInt8) (HT : Hid ((if r = 0 then prtT l a b else []) = T)) (hT : T.length ≤ 70368744177664) :
    Calls Tryz.prog 14 #[vl, va, vb] w fun e w' => e = .returned (.tuple #[.string ⟨T.toArray⟩, .int .i64 r]) ∧ Below w.heap.size w w' := by
  obtain ⟨lo, lc, rfl⟩ := Holds.form hl
  obtain ⟨ao, ca, rfl⟩ := Holds.form ha
  obtain ⟨bo, cb, rfl⟩ := Holds.form hb
  have HZ0 : Hid (grpE l a.length b.length 0 = r) := (by show _ = _; rw [grpE_zero]; exact HR.out)
  obtain ⟨M, hM⟩ : ∃ M, mkR l a b 0 = M := ⟨_, rfl⟩
  have HM : Hid (mkR l a b 0 = M) := hM
  have HTA : Hid (∀ s ∈ a, s.length ≤ 1099511627776) := hta
  have HTB : Hid (∀ s ∈ b, s.length ≤ 1099511627776) := htb
  clear hM hta htb
  go_enter Tryz.func14, Tryz.ntmps14
  go_wp2_with fail
  refine (hMake_f l a b 0 _ _ _ w hl ha hb (by omega) (by omega) (by omega) r HZ0 M HM).mono ?_
  rintro e w1 ⟨v1, P, rfl, hHs, hPM⟩
  have HPM : Hid (P.map (·.1) = M) := hPM
  clear hPM hl ha hb
  have hlow := hHs.low
  have hH := hHs.holds
  obtain ⟨po, pc, rfl⟩ := hH.1.form
  clear hHs
  by_cases hr : r = 0
  · subst hr
    have hTT := HT.out
    rw [if_pos rfl] at hTT
    have hs : Script l a.length b.length := (by
      by_cases h : Script l a.length b.length
      · exact h
      · have := chk_no h
        rw [HR.out] at this
        cases this)
    have hMP : P.map (·.1) = l.map fun c => oneH a b 0 [c] := (by rw [HPM.out, ← HM.out]; exact mk_zero hs)
    have HMP : Hid (P.map (·.1) = l.map fun c => oneH a b 0 [c]) := hMP
    have HPl : Hid (P.length = l.length) := (by show P.length = l.length; have := congrArg List.length hMP; simpa using this)
    have HMH : Hid (∀ c ∈ l, numB c = true ∧ c.A + c.AN ≤ (a.length : Int) ∧ c.B + c.BN ≤ (b.length : Int)) := right_mem hs.2.2
    have HT1 : Hid (Tab10 w1) := HTb.out.on hlow
    have HTT : Hid (prtT l a b = T) := hTT
    clear hs hMP HT HR HZ0 HPM HM hTT HTb
    have HTb := HT1
    clear HT1
    have hF0 := isF_fresh w1
    have hBw : Below w1.heap.size w1 (w1.alloc (.cells #[.pointer none, .slice none 0 0] 77)) := (Below.refl _ w1).alloc (Nat.le_refl _) _
    have HPl2 := HPl.out
    have hPl : P.length ≤ 1099511627776 := by omega
    clear HPl2
    go_wp2
    go_loopw [25] (fun i wr => ∃ (k : Nat) (acc : List UInt8), k ≤ P.length ∧ i = .int .i64 (k : Int) ∧ Lib.IsBuilderF 77 5 w1.heap.size w1.heap.size (Lib.byteCells acc) wr ∧ Below w1.heap.size w1 wr ∧ Hid (acc ++ prtT (l.drop k) a b = T)) (fun i _ => P.length - (intOf i).toNat)
    case atStart => exact ⟨0, [], Nat.zero_le _, by go_num, hF0, hBw, HTT⟩
    case round =>
    clear hF0 hBw HTT
    obtain ⟨k, acc, hk, rfl, hBr, hbr, HI⟩ := hrel
    by_cases hlt : k < P.length
    · have hkl : k < l.length := (by have := HPl.out; omega)
      obtain ⟨⟨x, y⟩, hxy⟩ : ∃ q, P[k] = q := ⟨_, rfl⟩
      obtain ⟨c, hc⟩ : ∃ c, l[k] = c := ⟨_, rfl⟩
      have hx : x = oneH a b 0 [c] := (by
        have h1 : (P.map (·.1))[k]? = (l.map fun c => oneH a b 0 [c])[k]? := by rw [HMP.out]
        rw [List.getElem?_map, List.getElem?_map, List.getElem?_eq_getElem hlt, List.getElem?_eq_getElem hkl, hxy, hc] at h1
        simpa using h1)
      have hm := HMH.out l[k] (List.getElem_mem hkl)
      rw [hc] at hm
      rw [one_zero hm.1 hm.2.1 hm.2.2] at hx
      have hn := (numB_iff c).1 hm.1
      obtain ⟨bk, off, rfl, hbk, _⟩ := HHp.at hH (by omega)
      obtain ⟨⟨c0, c1, c2, c3, c4⟩, hml2⟩ := HHp.take hH hbr k hlt hxy
      have hml : HMk w1 y x.ls := (by
        have h := hH.2 P[k] (List.getElem_mem hlt)
        rw [hxy] at h
        exact h)
      obtain ⟨yo, yc, rfl⟩ := HMk.form hml
      obtain ⟨RA, hRA⟩ : ∃ R, cut a c.A c.AN = R := ⟨_, rfl⟩
      obtain ⟨RB, hRB⟩ : ∃ R, cut b c.B c.BN = R := ⟨_, rfl⟩
      have HOl : Hid (oldL x = RA) := (by show _ = _; rw [hx, ← hRA]; exact zero_old _ _)
      have HNw : Hid (newL x = RB) := (by show _ = _; rw [hx, ← hRB]; exact zero_new _ _)
      have hA0 : 0 ≤ x.A ∧ x.A ≤ 2147483648 ∧ 0 ≤ x.AN ∧ x.AN ≤ 2147483648 ∧ 0 ≤ x.B ∧ x.B ≤ 2147483648 ∧ 0 ≤ x.BN ∧ x.BN ≤ 2147483648 := (by
        rw [hx]
        unfold noA
        dsimp only
        refine ⟨?_, ?_, by omega, by omega, ?_, ?_, by omega, by omega⟩ <;> split <;> omega)
      have hRAl : RA.length ≤ a.length := (by rw [← hRA]; unfold cut; simp only [List.length_take, List.length_drop]; omega)
      have hRBl : RB.length ≤ b.length := (by rw [← hRB]; unfold cut; simp only [List.length_take, List.length_drop]; omega)
      have hxl : x.ls.length ≤ 1099511627776 := (by rw [hx]; dsimp only; rw [List.length_append]; unfold mks; rw [List.length_map, List.length_map, hRA, hRB]; omega)
      have HRAt : Hid (∀ s ∈ RA, s.length ≤ 1099511627776) := (by intro s hs; rw [← hRA] at hs; exact HTA.out s (mem_cut hs))
      have HRBt : Hid (∀ s ∈ RB, s.length ≤ 1099511627776) := (by intro s hs; rw [← hRB] at hs; exact HTB.out s (mem_cut hs))
      obtain ⟨T1, HT1⟩ : ∃ T1, Hid (rgx x.A x.AN = T1) := ⟨_, rfl⟩
      obtain ⟨T2, HT2⟩ : ∃ T1, Hid (ltrT x.AN x.BN = T1) := ⟨_, rfl⟩
      obtain ⟨T3, HT3⟩ : ∃ T1, Hid (rgx x.B x.BN = T1) := ⟨_, rfl⟩
      have l1 : T1.length ≤ 43 := (by rw [← HT1.out]; exact rgx_len (by omega) (by omega) (by omega) (by omega))
      have l2 : T2.length = 1 := (by rw [← HT2.out]; exact ltr_len _ _)
      have l3 : T3.length ≤ 43 := (by rw [← HT3.out]; exact rgx_len (by omega) (by omega) (by omega) (by omega))
      have hF1 : Fits T1 T2 := by unfold Fits; omega
      have hF2 : Fits (T1 ++ T2) T3 := by unfold Fits; rw [List.length_append]; omega
      have hF3 : Fits (T1 ++ T2 ++ T3) [10] := by unfold Fits; simp only [List.length_append, List.length_cons, List.length_nil]; omega
      have hlC : (T1 ++ T2 ++ T3 ++ [10]).length ≤ 100 := by simp only [List.length_append, List.length_cons, List.length_nil]; omega
      obtain ⟨dv, HDV⟩ : ∃ dv, Hid ((decide (0 < x.AN) && decide (0 < x.BN)) = dv) := ⟨_, rfl⟩
      obtain ⟨ac2, hA2⟩ : ∃ z, acc ++ (T1 ++ T2 ++ T3 ++ [10]) ++ (RA.flatMap (lnL [60, 32])).flatten = z := ⟨_, rfl⟩
      have HA2 : Hid (acc ++ (T1 ++ T2 ++ T3 ++ [10]) ++ (RA.flatMap (lnL [60, 32])).flatten = ac2) := hA2
      clear hA2
      obtain ⟨ac4, hA4⟩ : ∃ z, ac2 ++ (if dv = true then [45, 45, 45, 10] else []) ++ (RB.flatMap (lnL [62, 32])).flatten = z := ⟨_, rfl⟩
      have HA4 : Hid (ac2 ++ (if dv = true then [45, 45, 45, 10] else []) ++ (RB.flatMap (lnL [62, 32])).flatten = ac4) := hA4
      clear hA4
      have HEnd : Hid (ac4 ++ prtT (l.drop (k + 1)) a b = T) := (by
        show _ = _
        have e1 : prtT (l.drop k) a b = (chgL a b c).flatten ++ prtT (l.drop (k + 1)) a b := (by
          rw [List.drop_eq_getElem_cons hkl, hc]
          unfold prtT prtL
          rw [List.flatMap_cons, List.flatten_append])
        have e2 : (sepL c).flatten = (if dv = true then [45, 45, 45, 10] else []) := (by
          rw [← HDV.out, hx]
          unfold sepL
          dsimp only
          by_cases hb1 : 0 < c.AN
          · by_cases hb2 : 0 < c.BN
            · rw [if_pos ⟨hb1, hb2⟩, if_pos (by simp [hb1, hb2])]
              rfl
            · rw [if_neg (fun h => hb2 h.2), if_neg (by simp [hb2])]
              rfl
          · rw [if_neg (fun h => hb1 h.1), if_neg (by simp [hb1])]
            rfl)
        have e3 : T1 ++ T2 ++ T3 = cmdT c := (by
          rw [← HT1.out, ← HT2.out, ← HT3.out, hx]
          exact cmd_code hm.1)
        rw [← HI.out, e1, chg_flat, ← HA4.out, ← HA2.out, e2, e3, hRA, hRB]
        simp only [List.append_assoc])
      have hal4 : ac4.length ≤ 70368744177664 := (by
        have h := congrArg List.length HEnd.out
        rw [List.length_append] at h
        omega)
      have hal2 : ac2.length + (if dv = true then [45, 45, 45, 10] else ([] : List UInt8)).length ≤ 70368744177664 := (by
        have h := congrArg List.length HA4.out
        rw [List.length_append, List.length_append] at h
        omega)
      have hal0 : acc.length ≤ 70368744177664 := (by
        have h := congrArg List.length HA2.out
        rw [List.length_append, List.length_append] at h
        omega)
      have i1 : 0 ≤ (k : Int) := by omega
      have i2 : (k : Int) < (P.length : Int) := by omega
      have hx2 := Hx.new wr x (.slice yo x.ls.length yc)
      have hb2 : Below w1.heap.size w1 (wr.alloc (hkO x (.slice yo x.ls.length yc))) := hbr.alloc hbr.size _
      have hB2 := isF_low hBr ((Below.refl _ wr).alloc (Nat.le_refl _) (hkO x (.slice yo x.ls.length yc)))
      have hHb : w1.heap.size < wr.heap.size := (by
        rcases hBr with ⟨_, _, h, _⟩ | ⟨_, _, h, _⟩ <;> exact (Array.getElem?_eq_some_iff.1 h).1)
      have hW : wr.alloc (Obj.cells #[.int .i64 x.A, .int .i64 x.AN, .int .i64 x.B, .int .i64 x.BN, .slice yo x.ls.length yc] 59) = wr.alloc (hkO x (.slice yo x.ls.length yc)) := rfl
      clear hx hxy hc hm hn hRA hRB HI hml2 HMP HMH HTA HTB hkl HPl
      go_upto_region 8 with fail
      generalize wr.alloc (hkO x (.slice yo x.ls.length yc)) = W2 at *
      clear hW c0 c1 c2 c3 c4 hBr
      have hS2 : Lib.OthersKept 5 (some w1.heap.size) W2 W2.drew ∧ Below w1.heap.size w1 W2.drew := ⟨Lib.OthersKept.refl _ _ _, hb2.drew⟩
      have hxu : ∀ u, Lib.OthersKept 5 (some w1.heap.size) W2 u → Hx u wr.heap.size x (.slice yo x.ls.length yc) := fun u hu => hx_others hx2 hu (by omega)
      have hBd : Lib.IsBuilderF 77 5 w1.heap.size w1.heap.size (Lib.byteCells acc) W2.drew := hB2
      refine wp_region_noPanic ?_
      refine wp_region_held_drew (S := fun u => Lib.OthersKept 5 (some w1.heap.size) W2 u ∧ Below w1.heap.size w1 u) (by kernel_rfl) hS2 (fun hHeld => ?_)
      clear hS2
      generalize W2.drew = wd at hHeld hBd ⊢
      refine go_take 0 29 _ (.pointer (some ⟨wr.heap.size, 0, none⟩)) rfl (by kernel_rfl) (by kernel_rfl) (by kernel_rfl) (by kernel_rfl) (fun _ _ _ h => h) (Or.inl ⟨by kernel_rfl, fun u hu => by kernel_rfl⟩) hHeld ?_
      simp only [Act.put, List.setIfInBounds_toArray, List.set_cons_zero, List.set_cons_succ]
      refine go_take 1 30 _ (.int .i64 x.A) rfl (by kernel_rfl) (by kernel_rfl) (by kernel_rfl) (by kernel_rfl) (fun _ _ _ h => h) (Or.inl ⟨by kernel_rfl, fun u hu => load_int (hxu u hu.1).cells.1 (.tmp 29) (by kernel_rfl) (by kernel_rfl)⟩) hHeld ?_
      simp only [Act.put, List.setIfInBounds_toArray, List.set_cons_zero, List.set_cons_succ]
      refine go_take 2 31 _ (.pointer (some ⟨wr.heap.size, 1, none⟩)) rfl (by kernel_rfl) (by kernel_rfl) (by kernel_rfl) (by kernel_rfl) (fun _ _ _ h => h) (Or.inl ⟨by kernel_rfl, fun u hu => by kernel_rfl⟩) hHeld ?_
      simp only [Act.put, List.setIfInBounds_toArray, List.set_cons_zero, List.set_cons_succ]
      refine go_take 3 32 _ (.int .i64 x.AN) rfl (by kernel_rfl) (by kernel_rfl) (by kernel_rfl) (by kernel_rfl) (fun _ _ _ h => h) (Or.inl ⟨by kernel_rfl, fun u hu => load_int (hxu u hu.1).cells.2.1 (.tmp 31) (by kernel_rfl) (by kernel_rfl)⟩) hHeld ?_
      simp only [Act.put, List.setIfInBounds_toArray, List.set_cons_zero, List.set_cons_succ]
      refine go_take 5 34 _ (hkV x (.slice yo x.ls.length yc)) rfl (by kernel_rfl) (by kernel_rfl) (by kernel_rfl) (by kernel_rfl) (fun _ _ _ h => h) (Or.inl ⟨by kernel_rfl, fun u hu => load_hk (hxu u hu.1) (.tmp 12) (by kernel_rfl) (by kernel_rfl)⟩) hHeld ?_
      simp only [Act.put, List.setIfInBounds_toArray, List.set_cons_zero, List.set_cons_succ]
      refine go_take 8 37 _ (.pointer (some ⟨wr.heap.size, 2, none⟩)) rfl (by kernel_rfl) (by kernel_rfl) (by kernel_rfl) (by kernel_rfl) (fun _ _ _ h => h) (Or.inl ⟨by kernel_rfl, fun u hu => by kernel_rfl⟩) hHeld ?_
      simp only [Act.put, List.setIfInBounds_toArray, List.set_cons_zero, List.set_cons_succ]
      refine go_take 9 38 _ (.int .i64 x.B) rfl (by kernel_rfl) (by kernel_rfl) (by kernel_rfl) (by kernel_rfl) (fun _ _ _ h => h) (Or.inl ⟨by kernel_rfl, fun u hu => load_int (hxu u hu.1).cells.2.2.1 (.tmp 37) (by kernel_rfl) (by kernel_rfl)⟩) hHeld ?_
      simp only [Act.put, List.setIfInBounds_toArray, List.set_cons_zero, List.set_cons_succ]
      refine go_take 10 39 _ (.pointer (some ⟨wr.heap.size, 3, none⟩)) rfl (by kernel_rfl) (by kernel_rfl) (by kernel_rfl) (by kernel_rfl) (fun _ _ _ h => h) (Or.inl ⟨by kernel_rfl, fun u hu => by kernel_rfl⟩) hHeld ?_
      simp only [Act.put, List.setIfInBounds_toArray, List.set_cons_zero, List.set_cons_succ]
      refine go_take 11 40 _ (.int .i64 x.BN) rfl (by kernel_rfl) (by kernel_rfl) (by kernel_rfl) (by kernel_rfl) (fun _ _ _ h => h) (Or.inl ⟨by kernel_rfl, fun u hu => load_int (hxu u hu.1).cells.2.2.2.1 (.tmp 39) (by kernel_rfl) (by kernel_rfl)⟩) hHeld ?_
      simp only [Act.put, List.setIfInBounds_toArray, List.set_cons_zero, List.set_cons_succ]
      refine go_callE 4 33 _ rfl (by kernel_rfl) (by kernel_rfl) (by kernel_rfl) 35 (.func 35) #[.tmp 30, .tmp 32] #[3, 3] (by kernel_rfl) #[] (by kernel_rfl) #[.int .i64 x.A, .int .i64 x.AN] (by kernel_rfl) (enters_of Tryz.func35 (by kernel_rfl) rfl) (fun v u => v = .string ⟨T1.toArray⟩ ∧ Below wd.heap.size wd u) ((nrange_f x.A x.AN (by omega) (by omega) (by omega) (by omega) wd (HTb.out.on hHeld.2) T1 HT1).mono (fun _ q hq => ⟨_, hq.1, ⟨hHeld.1.trans (others_low hq.2), hHeld.2.trans (hq.2.mono hHeld.2.size)⟩, rfl, hq.2⟩)) ?_
      rintro _ u1 hH1 ⟨rfl, hL1⟩
      simp only [Act.put, List.setIfInBounds_toArray, List.set_cons_zero, List.set_cons_succ]
      refine go_callE 6 35 _ rfl (by kernel_rfl) (by kernel_rfl) (by kernel_rfl) 36 (.func 36) #[.tmp 34] #[59] (by kernel_rfl) #[] (by kernel_rfl) #[hkV x (.slice yo x.ls.length yc)] (by kernel_rfl) (enters_of Tryz.func36 (by kernel_rfl) rfl) (fun v u => v = .string ⟨T2.toArray⟩ ∧ Below u1.heap.size u1 u) ((nletter_f x _ u1 (HMk.keep hml hH1.2 (Nat.le_refl _)) T2 HT2).mono (fun _ q hq => ⟨_, hq.1, ⟨hH1.1.trans (others_low hq.2), hH1.2.trans (hq.2.mono hH1.2.size)⟩, rfl, hq.2⟩)) ?_
      rintro _ u2 hH2 ⟨rfl, hL2⟩
      simp only [Act.put, List.setIfInBounds_toArray, List.set_cons_zero, List.set_cons_succ]
      refine go_take 7 36 _ (.string ⟨(T1 ++ T2).toArray⟩) rfl (by kernel_rfl) (by kernel_rfl) (by kernel_rfl) (by kernel_rfl) (fun _ _ _ h => h) (Or.inl ⟨by kernel_rfl, fun u hu => exec_addS hF1 (.tmp 33) (.tmp 35) (by kernel_rfl) (by kernel_rfl) (by kernel_rfl)⟩) hH2 ?_
      simp only [Act.put, List.setIfInBounds_toArray, List.set_cons_zero, List.set_cons_succ]
      refine go_callE 12 41 _ rfl (by kernel_rfl) (by kernel_rfl) (by kernel_rfl) 35 (.func 35) #[.tmp 38, .tmp 40] #[3, 3] (by kernel_rfl) #[] (by kernel_rfl) #[.int .i64 x.B, .int .i64 x.BN] (by kernel_rfl) (enters_of Tryz.func35 (by kernel_rfl) rfl) (fun v u => v = .string ⟨T3.toArray⟩ ∧ Below u2.heap.size u2 u) ((nrange_f x.B x.BN (by omega) (by omega) (by omega) (by omega) u2 (HTb.out.on hH2.2) T3 HT3).mono (fun _ q hq => ⟨_, hq.1, ⟨hH2.1.trans (others_low hq.2), hH2.2.trans (hq.2.mono hH2.2.size)⟩, rfl, hq.2⟩)) ?_
      rintro _ u3 hH3 ⟨rfl, hL3⟩
      simp only [Act.put, List.setIfInBounds_toArray, List.set_cons_zero, List.set_cons_succ]
      refine go_take 13 42 _ (.string ⟨(T1 ++ T2 ++ T3).toArray⟩) rfl (by kernel_rfl) (by kernel_rfl) (by kernel_rfl) (by kernel_rfl) (fun _ _ _ h => h) (Or.inl ⟨by kernel_rfl, fun u hu => exec_addS hF2 (.tmp 36) (.tmp 41) (by kernel_rfl) (by kernel_rfl) (by kernel_rfl)⟩) hH3 ?_
      simp only [Act.put, List.setIfInBounds_toArray, List.set_cons_zero, List.set_cons_succ]
      refine go_take 14 43 _ (.string ⟨(T1 ++ T2 ++ T3 ++ [10]).toArray⟩) rfl (by kernel_rfl) (by kernel_rfl) (by kernel_rfl) (by kernel_rfl) (fun _ _ _ h => h) (Or.inl ⟨by kernel_rfl, fun u hu => exec_addS hF3 (.tmp 42) (.const (.string ⟨#[10]⟩)) (by kernel_rfl) (by kernel_rfl) (by kernel_rfl)⟩) hH3 ?_
      simp only [Act.put, List.setIfInBounds_toArray, List.set_cons_zero, List.set_cons_succ]
      have hbS : Below wd.heap.size wd u3 := hL1.trans ((hL2.trans (hL3.mono hL2.size)).mono hL1.size)
      have hB3 := isF_low hBd hbS
      have hz3 : w1.heap.size ≤ u3.heap.size := hH3.2.size
      have hws := ws_held (s := T1 ++ T2 ++ T3 ++ [10]) hB3 (by omega) hz3 hH3
      refine go_callE 15 44 _ rfl (by kernel_rfl) (by kernel_rfl) (by kernel_rfl) 34 (.func 34) #[.tmp 10, .tmp 43] #[77, 9] (by kernel_rfl) #[] (by kernel_rfl) #[.pointer (some ⟨w1.heap.size, 0, none⟩), .string ⟨(T1 ++ T2 ++ T3 ++ [10]).toArray⟩] (by kernel_rfl) (enters_of Tryz.func34 (by kernel_rfl) rfl) (fun v u => Lib.IsBuilderF 77 5 w1.heap.size w1.heap.size (Lib.byteCells (acc ++ (T1 ++ T2 ++ T3 ++ [10]))) u ∧ ∃ z, v = .tuple #[z, .nilIface]) (?_) ?_
      · exact hws
      clear hws
      rintro _ u4 hH4 ⟨hB4, z4, rfl⟩
      simp only [Act.put, List.setIfInBounds_toArray, List.set_cons_zero, List.set_cons_succ]
      refine wpAnyH_done (by kernel_rfl) ?_ _
      refine NoPanic.normal ?_
      have hx4 := hxu u4 hH4.1
      obtain ⟨d0, d1, d2, d3, d4⟩ := hx4.cells
      clear hHeld hH1 hH2 hH3 hL1 hL2 hL3 hB3 hz3 hbS hBd hB2
      go_wp2_with fail
      refine (hOld_o x (.slice yo x.ls.length yc) u4 (HMk.keep hml hH4.2 (Nat.le_refl _)) hxl RA HOl).mono ?_
      rintro e u5 ⟨vo, rfl, hown5, hL5⟩
      have hform5 : ∃ vo1 vc1, vo = .slice vo1 RA.length vc1 := Holds.form (holds_of hown5)
      have hz4 : w1.heap.size < u4.heap.size := Nat.lt_trans hHb hx4.lt
      have HV5 : Hid (∀ u, Lib.OthersKept 5 (some w1.heap.size) u5 u → HS u vo RA) := fun u hu => holds_of (owns_others hown5 hu (fun g hg => by have := owns_ge hown5 hg; omega))
      have hb5 := hH4.2.trans (hL5.mono hH4.2.size)
      have hB5 := isF_low hB4 hL5
      have hx5 := hx4.low hL5
      clear hown5 d0 d1 d2 d3 d4
      go_wp2_with fail
      refine (nlines_f w1.heap.size w1.heap.size _ [60, 32] RA vo u5 hB5 hb5.size hform5 HV5 (by omega) HRAt (by decide) ac2 HA2 (by omega)).mono ?_
      rintro e u6 ⟨rfl, hB6, hb6', ho6⟩
      have hx6 := hx_others hx5 ho6 (by omega)
      have hb6 := hb5.trans hb6'
      clear hB5 hb5 hx5 HV5 hform5 hb6' ho6 hx4 hB4 hH4 HA2
      obtain ⟨d0, d1, d2, d3, d4⟩ := hx6.cells
      go_wp2_with fail
      refine (ndivided_f x (.slice yo x.ls.length yc) u6 ⟨_, _, _, rfl⟩ dv HDV).mono ?_
      rintro e u7 ⟨rfl, hL7⟩
      have hx7 := hx6.low hL7
      have hb7 := hb6.trans (hL7.mono hb6.size)
      have hB7 := isF_low hB6 hL7
      clear d0 d1 d2 d3 d4 hx6 hb6 hB6 hL7 HDV
      cases dv with
      | false =>
        rw [if_neg (by decide), List.append_nil] at HA4
        obtain ⟨d0, d1, d2, d3, d4⟩ := hx7.cells
        go_wp2_with fail
        refine (hNew_o x (.slice yo x.ls.length yc) u7 (HMk.keep hml hb7 (Nat.le_refl _)) hxl RB HNw).mono ?_
        rintro e u8 ⟨vn, rfl, hown8, hL8⟩
        have hform8 : ∃ vo vc, vn = .slice vo RB.length vc := Holds.form (holds_of hown8)
        have hz7 : w1.heap.size < u7.heap.size := Nat.lt_of_lt_of_le hHb (Nat.le_of_lt hx7.lt)
        have HV8 : Hid (∀ u, Lib.OthersKept 5 (some w1.heap.size) u8 u → HS u vn RB) := fun u hu => holds_of (owns_others hown8 hu (fun g hg => by have := owns_ge hown8 hg; omega))
        have hb8 := hb7.trans (hL8.mono hb7.size)
        have hB8 := isF_low hB7 hL8
        clear hown8 d0 d1 d2 d3 d4
        go_wp2_with fail
        refine (nlines_f w1.heap.size w1.heap.size _ [62, 32] RB vn u8 hB8 hb8.size hform8 HV8 (by omega) HRBt (by decide) ac4 HA4 hal4).mono ?_
        rintro e u9 ⟨rfl, hB9, hb9, ho9⟩
        go_wp2
        exact ⟨⟨k + 1, ac4, by omega, by go_num, hB9, hb8.trans hb9, HEnd⟩, by simp [intOf]; omega⟩
      | true =>
        rw [if_pos rfl] at HA4 hal2
        have hz7b : w1.heap.size ≤ u7.heap.size := hb7.size
        go_wp2_with fail
        refine (Tryz.WriteString_h w1.heap.size w1.heap.size _ _ u7 hB7 (by rw [bcells_len]; show ac2.length + 4 ≤ _; simp only [List.length_cons, List.length_nil] at hal2; omega) hz7b).mono ?_
        rintro e u71 ⟨rfl, hB71, hb71, ho71⟩
        have hB72 : Lib.IsBuilderF 77 5 w1.heap.size w1.heap.size (Lib.byteCells (ac2 ++ [45, 45, 45, 10])) u71 := .inr (by rw [Lib.byteCells_append]; exact hB71)
        have hx72 := hx_others hx7 ho71 (by omega)
        have hb72 := hb7.trans hb71
        clear hB71 hb71 ho71 hB7 hx7 hb7 hz7b
        have hB7 := hB72
        have hx7 := hx72
        have hb7 := hb72
        clear hB72 hx72 hb72
        generalize u71 = u7 at *
        obtain ⟨d0, d1, d2, d3, d4⟩ := hx7.cells
        go_wp2_with fail
        refine (hNew_o x (.slice yo x.ls.length yc) u7 (HMk.keep hml hb7 (Nat.le_refl _)) hxl RB HNw).mono ?_
        rintro e u8 ⟨vn, rfl, hown8, hL8⟩
        have hform8 : ∃ vo vc, vn = .slice vo RB.length vc := Holds.form (holds_of hown8)
        have hz7 : w1.heap.size < u7.heap.size := Nat.lt_of_lt_of_le hHb (Nat.le_of_lt hx7.lt)
        have HV8 : Hid (∀ u, Lib.OthersKept 5 (some w1.heap.size) u8 u → HS u vn RB) := fun u hu => holds_of (owns_others hown8 hu (fun g hg => by have := owns_ge hown8 hg; omega))
        have hb8 := hb7.trans (hL8.mono hb7.size)
        have hB8 := isF_low hB7 hL8
        clear hown8 d0 d1 d2 d3 d4
        go_wp2_with fail
        refine (nlines_f w1.heap.size w1.heap.size _ [62, 32] RB vn u8 hB8 hb8.size hform8 HV8 (by omega) HRBt (by decide) ac4 HA4 hal4).mono ?_
        rintro e u9 ⟨rfl, hB9, hb9, ho9⟩
        go_wp2
        exact ⟨⟨k + 1, ac4, by omega, by go_num, hB9, hb8.trans hb9, HEnd⟩, by simp [intOf]; omega⟩
    · have HE : Hid (acc = T) := (by
        have h := HI.out
        rw [List.drop_of_length_le (by have := HPl.out; omega)] at h
        show acc = T
        simpa [prtT, prtL] using h)
      have hend : decide ((k : Int) < (P.length : Int)) = false := decide_eq_false (by omega)
      have hz := hbr.size
      clear HI
      go_wp2_with fail
      refine (Tryz.Builder_String_any_k w1.heap.size w1.heap.size acc wr hBr hz).mono ?_
      rintro e w2 ⟨rfl, -, hb2, -⟩
      go_wp2
      go_ret2
      exact ⟨by rw [HE.out]; rfl, hlow.trans ((hbr.trans hb2).mono hlow.size)⟩
  · have hrb : (r != 0) = true := bne_iff_ne.2 hr
    have hTT := HT.out
    rw [if_neg hr] at hTT
    subst hTT
    go_wp2
    go_ret2
    exact ⟨rfl, hlow⟩
end Go.Proofs.YtgiojkhmkeocfaaGreatDoor

/- The code's reader, walked: a side of a hunk. -/
set_option maxRecDepth 20000
namespace Go.Proofs.YtgiojkhmkeocfaaGreatDoor
open Go.RowKit
attribute [local go_sem] ByteArray.extract_mk no_at

/-- texts with their line feeds, none too long -/
def Fd (m : List Mk) : Prop := ∀ x ∈ m, fdB x.tx = true ∧ x.tx.length ≤ 1099511627776
theorem sdC_err {sg : List UInt8} {S : Int} {n p : Nat} {ls : List (List UInt8)} {e : Nat × Int} (h : rdL sg S n p ls = .error e) : sdC sg S n p ls = .error e := by
  unfold sdC
  rw [h]
set_option maxHeartbeats 8000000 in
set_option maxRecDepth 4000 in
theorem nside_f {B R : Nat} {L : List (List UInt8)} {lo : Option Addr} {lc : Nat} {p : Nat} (w : World) (q : Ry w R (.slice lo L.length lc) p) (HL : Hid (∀ u, Fr B R w u → HS u (.slice lo L.length lc) L)) (HPl : Hid (Plain L)) (hp : p ≤ L.length) (hLl : L.length ≤ 2199023255552) (HSl : Hid (∀ s ∈ L, s.length ≤ 1099511627776))
    (hB : B ≤ w.heap.size) (hRB : R < B) (sg : List UInt8) (HSG : Hid (∀ c ∈ sg, c ≠ 10)) (S : Int) (n : Nat) (hn : n ≤ 2147483647) (v : Value) (m0 : List Mk) (hm0 : m0.length ≤ 1099511627776) (hv : w.ownsRow B 103 2 v m0.length (mkcells m0))
    (X : Except (Nat × Int) (List Mk × Nat × List (List UInt8))) (HX : Hid (sdC sg S n p (L.drop p) = X)) :
    Calls Tryz.prog 140 #[.pointer (some ⟨R, 0, none⟩), v, .int .i64 (n : Int), .string ⟨sg.toArray⟩, .int .u8 S] w fun x w' => SdQ B R (.slice lo L.length lc) m0 X w x w' := by
  obtain ⟨vo, vc, rfl⟩ := (holds_of hv).form
  obtain ⟨Y, hY⟩ : ∃ Y, rdL sg S n p (L.drop p) = Y := ⟨_, rfl⟩
  have HY : Hid (thenL [] (rdL sg S (n - 0) p (L.drop p)) = Y) := (by show _ = _; rw [thenL_nil]; exact hY)
  have HXE : Hid (∀ e, Y = .error e → X = .error e) := (by
    intro e he
    rw [← HX.out]
    exact sdC_err (hY.trans he))
  have HXO : Hid (∀ l p1 r, Y = .ok (l, p1, r) → X = if (decide (0 < n) && endK l r) = true then .ok (cutL l, p1 + 1, r.tail) else .ok (l, p1, r)) := (by
    intro l p1 r he
    rw [← HX.out]
    unfold sdC
    rw [hY.trans he])
  have hv0 : w.ownsRow B 103 2 (.slice vo m0.length vc) m0.length (mkcells (m0 ++ [])) := (by rw [List.append_nil]; exact hv)
  have HF0 : Hid (Fd [] ∧ ([] : List Mk).length = 0 ∧ (m0 ++ []).length = m0.length) := ⟨(fun x hx => by cases hx), rfl, by rw [List.append_nil]⟩
  clear hY HX hv
  go_enter Tryz.func140, Tryz.ntmps140
  go_wp2
  go_loopw [1, 14] (fun mv i wr => ∃ (k : Nat) (m : List Mk) (p' N : Nat), k ≤ n ∧ i = .int .i64 (k : Int) ∧ N ≤ 1099511627776 + k ∧ (∃ o c, mv = .slice o N c) ∧ wr.ownsRow B 103 2 mv N (mkcells (m0 ++ m)) ∧ Ry wr R (.slice lo L.length lc) (p' : Int) ∧ Fr B R w wr ∧ p' ≤ L.length ∧ Hid (Fd m ∧ m.length = k ∧ (m0 ++ m).length = N) ∧ Hid (thenL m (rdL sg S (n - k) p' (L.drop p')) = Y)) (fun _ i _ => n - (intOf i).toNat)
  case atStart => exact ⟨0, [], p, m0.length, Nat.zero_le _, by go_num, by omega, ⟨vo, vc, rfl⟩, hv0, q, Fr.refl _ _ _, hp, HF0, HY⟩
  case round =>
  obtain ⟨k, m, p1, N, hk, rfl, hNk, ⟨o, c, rfl⟩, hown, q1, hF, hp1, HF, HI⟩ := hrel
  have hsz := hF.size
  have hLr := HL.out wr hF
  by_cases hlt : k < n
  · obtain ⟨Z, hZ⟩ : ∃ Z, nxt p1 (L.drop p1) = Z := ⟨_, rfl⟩
    have hl := nline_f wr q1 hLr hp1 hLl HSl.out Z hZ
    have hnk : n - k = (n - (k + 1)) + 1 := by omega
    cases Z with
    | error z =>
      obtain ⟨a, e⟩ := z
      have hXe : X = .error (a, e) := (by
        apply HXE.out
        rw [← HI.out, hnk]
        unfold thenL rdL
        rw [hZ])
      subst hXe
      have HDone : Hid (∀ u, wr.grownBy u (some R) → Fr B R w u) := fun u hu => hF.trans (Fr.of hu (Nat.le_trans hB hsz))
      clear HXE HXO HI hZ hown hnk
      go_wp2_with fail
      refine hl.mono ?_
      rintro x w1 ⟨⟨g, rfl, hg⟩, hgr⟩
      go_wp2
      exact ⟨rfl, ⟨_, rfl, hg⟩, HDone.out _ hgr⟩
    | ok z =>
      obtain ⟨s, r⟩ := z
      obtain ⟨hr, hpl, _, hLp⟩ := nxt_rest hZ
      have hsl := HSl.out L[p1] (List.getElem_mem hpl)
      rw [hLp, List.length_append] at hsl
      have hst := rdL_succ (sg := sg) (S := S) (n := n - (k + 1)) hZ m
      rw [← hnk, HI.out] at hst
      obtain ⟨T, hT⟩ : ∃ T, s ++ [10] = T := ⟨_, rfl⟩
      obtain ⟨U, hU⟩ : ∃ U, s.drop sg.length ++ [10] = U := ⟨_, rfl⟩
      have hUl : U.length ≤ 1099511627776 := (by rw [← hU, List.length_append, List.length_drop]; simp only [List.length_cons, List.length_nil] at hsl ⊢; omega)
      have hUf : fdB U = true := (by rw [← hU]; exact fd_snoc _)
      have hl2 : Calls Tryz.prog 138 #[.pointer (some ⟨R, 0, none⟩)] wr fun x w' => x = .returned (.string ⟨T.toArray⟩) ∧ ∃ n, w' = wr.drewN n := (by
        refine hl.mono ?_
        rintro x w' ⟨h1, h2⟩
        rw [hT] at h1
        exact ⟨h1, h2⟩)
      have hc := fun u => Tryz.strings_CutPrefix ⟨T.toArray⟩ ⟨sg.toArray⟩ u
      have hpf : Lib.hasPrefix (⟨T.toArray⟩ : ByteArray).data.toList (⟨sg.toArray⟩ : ByteArray).data.toList = sg.isPrefixOf s := (by
        show Lib.hasPrefix T sg = _
        rw [← hT]
        exact pre_feed HSG.out)
      rw [hpf] at hc
      by_cases hpre : sg.isPrefixOf s = true
      · rw [if_pos hpre, hU, hr] at hst
        have htr : Lib.trimPrefix (⟨T.toArray⟩ : ByteArray).data.toList (⟨sg.toArray⟩ : ByteArray).data.toList = U := (by
          show Lib.trimPrefix T sg = _
          rw [← hT, ← hU]
          exact trim_feed HSG.out hpre)
        rw [htr, hpre] at hc
        have HI2 : Hid (thenL (m ++ [⟨S, U⟩]) (rdL sg S (n - (k + 1)) (p1 + 1) (L.drop (p1 + 1))) = Y) := hst.symm
        have HF2 : Hid (Fd (m ++ [⟨S, U⟩]) ∧ (m ++ [(⟨S, U⟩ : Mk)]).length = k + 1 ∧ (m0 ++ (m ++ [(⟨S, U⟩ : Mk)])).length = N + 1) := ⟨(by
          intro x hx
          rcases List.mem_append.1 hx with hx | hx
          · exact HF.out.1 x hx
          · rw [List.mem_singleton.1 hx]
            exact ⟨hUf, hUl⟩), (by have := HF.out.2.1; simp [this]), (by have := HF.out.2.2; rw [← List.append_assoc, List.length_append, this]; rfl)⟩
        clear hst hpf htr hpre hZ hl hLp hsl hUf hr HI HXE HXO hT hU HF hnk
        go_wp2_with fail
        refine hl2.mono ?_
        rintro x w1 ⟨rfl, nn, rfl⟩
        have q2 := q1.dN nn
        have hown2 : (wr.drewN nn).ownsRow B 103 2 (.slice o N c) N (mkcells (m0 ++ m)) := hown
        have hF2 : Fr B R w (wr.drewN nn) := hF.trans ⟨rfl, rfl, rfl, Nat.le_refl _, fun _ _ _ => rfl⟩
        clear q1 hown hF hLr hl2
        generalize wr.drewN nn = W1 at q2 hown2 hF2 ⊢
        go_wp2_with fail
        refine (hc W1).mono ?_
        rintro x w2 ⟨rfl, rfl⟩
        have hsz2 := hF2.size
        have hrow := mk_row w2 ⟨S, U⟩
        have hownA := hown2.alloc (mkO ⟨S, U⟩)
        have qA : Ry (w2.alloc (mkO ⟨S, U⟩)) R (.slice lo L.length lc) (p1 : Int) := q2.low ((Below.refl _ w2).alloc (Nat.le_refl _) _)
        have hFA : Fr B R w (w2.alloc (mkO ⟨S, U⟩)) := hF2.trans (Fr.of (World.grownBy_alloc w2 _ _) (Nat.le_trans hB hsz2))
        have HS2 : Hid ((w2.alloc (mkO ⟨S, U⟩)).heap.size = w2.heap.size + 1) := (by show _ = _; simp)
        have hW : w2.alloc (Obj.cells #[Value.int IntKind.u8 S, Value.string ⟨U.toArray⟩] 103) = w2.alloc (mkO ⟨S, U⟩) := rfl
        have hxk : N + 1 ≤ 2199023255552 := by omega
        clear hown2 q2 hF2 hc
        go_wp2_with (at_builtin; refine wpList_append_w _ (by kernel_rfl) (.tmp 27) (.tmp 31) 57 103 (.agg #[.int .u8 0, .string ⟨#[]⟩]) 2 24 rfl Tryz.underlying57 infoMk rfl (by decide) (by decide) B _ _ _ rfl hownA _ 1 (mkcells [⟨S, U⟩]) rfl hrow (mkcells_length _) (mkcells_one _) hxk (by have := HS2.out; omega) ?_)
        intro v3 u3 hown3 hg3 _
        rw [← mkcells_append, List.append_assoc] at hown3
        have hne3 : (some R : Option Nat) ≠ (Value.slice o N c).ownBlock := (by
          intro e
          have := owns_ge hownA e.symm
          omega)
        have q3 := qA.keep hg3 hne3
        have hF3 := hFA.trans (Fr.own (R := R) hg3 (by have := HS2.out; omega) (fun j hj => owns_ge hownA hj))
        obtain ⟨o3, c3, rfl⟩ := (holds_of hown3).form
        obtain ⟨d0, d1⟩ := q3.cells
        have f1 := q3.frozen 1
        have q4 := q3.at ((p1 : Int) + 1)
        have hg4 := grown_set u3 R 1 (.int .i64 ((p1 : Int) + 1))
        have hown4 := owns_fr hown3 hg4 hRB
        have hsz3 := hF3.size
        have hF4 := hF3.trans (Fr.of hg4 (Nat.le_trans hB hsz3))
        clear hW hg3 hownA hown3 hrow qA hFA q3 hF3 hg4 HS2
        go_wp2
        refine ⟨⟨k + 1, m ++ [⟨S, U⟩], p1 + 1, N + 1, by omega, by go_num, by omega, ⟨o3, c3, rfl⟩, hown4, by simpa using q4, hF4, by omega, HF2, HI2⟩, by simp [intOf]; omega⟩
      · have hXe : X = .error (p1 + 1, 3) := (by
          apply HXE.out
          rw [hst, if_neg hpre])
        have hpr2 : sg.isPrefixOf s = false := Bool.eq_false_iff.2 hpre
        rw [hpr2] at hc
        subst hXe
        have HDone : Hid (∀ u, wr.grownBy u (some R) → Fr B R w u) := fun u hu => hF.trans (Fr.of hu (Nat.le_trans hB hsz))
        have q2 := fun nn => q1.dN nn
        clear HXE HXO HI hZ hown hnk hst hpf hpre hpr2 hl hLp hsl hr hT hU
        generalize Lib.trimPrefix (⟨T.toArray⟩ : ByteArray).data.toList (⟨sg.toArray⟩ : ByteArray).data.toList = U2 at hc
        go_wp2_with fail
        refine hl2.mono ?_
        rintro x w1 ⟨rfl, nn, rfl⟩
        go_wp2_with fail
        refine (hc _).mono ?_
        rintro x w2 ⟨rfl, rfl⟩
        go_wp2_with fail
        refine (nthrow_f 3 _ (q2 nn) (by omega)).mono ?_
        rintro e w3 ⟨⟨g, rfl, hg⟩, hgr⟩
        go_wp2
        exact ⟨rfl, ⟨_, rfl, by simpa using hg⟩, HDone.out _ (grown_two (grown_drewN (low_grown (Below.refl wr.heap.size wr) (some R)) nn) hgr)⟩
  · have hkn : k = n := by omega
    subst hkn
    have hYv : Y = .ok (m, p1, L.drop p1) := (by
      rw [← HI.out, Nat.sub_self]
      simp [thenL, rdL])
    have hXv := HXO.out m p1 (L.drop p1) hYv
    have hend : decide ((k : Int) < (k : Int)) = false := decide_eq_false (by omega)
    clear HXE HXO HI hYv HL
    by_cases h0 : 0 < k
    · have h0d : decide (0 < k) = true := decide_eq_true h0
      rw [h0d, Bool.true_and] at hXv
      obtain ⟨m1, mk, hmm⟩ : ∃ m1 mk, m = m1 ++ [mk] := (by
        have hne : m ≠ [] := (by
          rintro rfl
          have := HF.out.2.1
          simp at this
          omega)
        exact ⟨m.dropLast, m.getLast hne, (List.dropLast_concat_getLast hne).symm⟩)
      subst hmm
      have hfd := HF.out.1 mk (by simp)
      obtain ⟨N1, hN1⟩ : ∃ N1, (m0 ++ m1).length = N1 := ⟨_, rfl⟩
      have hNN : N = N1 + 1 := (by have := HF.out.2.2; rw [← this, ← hN1]; simp; omega)
      subst hNN
      have hown' := hown
      rw [← hN1, ← List.append_assoc] at hown'
      obtain ⟨g, cap, hvv, hBg, hgs, d1, df, hset⟩ := owns_last hown'
      rw [hN1] at d1 df hset hvv
      injection hvv with hv1 hv2 hv3
      subst hv1 hv3
      have hgR : R ≠ g := by omega
      unfold endK at hXv
      rw [lastT_snoc, cutL_snoc] at hXv
      have HNn : Hid (∀ x : Mk, (m0 ++ (m1 ++ [x])).length = N1 + 1) := (by intro x; rw [← hN1]; simp; omega)
      clear hown' hN1 HF
      have j0 : (0 : Int) < (k : Int) := by omega
      have j1 : (0 : Int) ≤ (N1 : Int) := by omega
      have j2 : (N1 : Int) < (N1 : Int) + 1 := by omega
      have j3 : (N1 : Int) + 1 - 1 = (N1 : Int) := by omega
      have j4 : IntKind.i64.wrap (N1 : Int) = (N1 : Int) := wrap_s (by omega) (by omega)
      cases hb : (mk.tx != [10] && pkM (L.drop p1)) with
      | false =>
        rw [hb, if_neg (by decide)] at hXv
        subst hXv
        have he := nend_no (g := g) (o := N1 * 2) wr q1 hLr HPl.out hp1 hLl mk.tx d1 hb
        clear hb hset df hfd
        go_wp2_with fail
        refine he.mono ?_
        rintro x w1 ⟨rfl, nn, rfl⟩
        go_wp2
        go_ret
        exact ⟨_, rfl, by rw [HNn.out]; exact hown, q1, hF.trans ⟨rfl, rfl, rfl, Nat.le_refl _, fun _ _ _ => rfl⟩⟩
      | true =>
        rw [hb, if_pos rfl] at hXv
        subst hXv
        have HTt : Hid (mk.tx = mk.tx.dropLast ++ [10]) := fd_form hfd.1
        have he := nend_yes (g := g) (o := N1 * 2) wr q1 hLr HPl.out hLl hgR mk.tx mk.tx.dropLast HTt hfd.2 d1 df hb
        have hs2 := fun nn => hset (wr.drewN nn) mk.tx.dropLast rfl
        clear hb hset df hfd
        go_wp2_with fail
        refine he.mono ?_
        rintro x w1 ⟨rfl, nn, rfl⟩
        have hg1 := grown_set (wr.drewN nn) g (N1 * 2 + 1) (.string ⟨mk.tx.dropLast.toArray⟩)
        have q2 := ((q1.dN nn).keep hg1 (fun e => hgR (Option.some.inj e))).at ((p1 : Int) + 1)
        have hg2 := grown_set ((wr.drewN nn).setCell ⟨g, N1 * 2 + 1, none⟩ (.string ⟨mk.tx.dropLast.toArray⟩)) R 1 (.int .i64 ((p1 : Int) + 1))
        have hown2 := owns_fr (hs2 nn) hg2 hRB
        have hF1 : Fr B R w (wr.drewN nn) := hF.trans ⟨rfl, rfl, rfl, Nat.le_refl _, fun _ _ _ => rfl⟩
        have hF2 := hF1.trans (Fr.own (R := R) hg1 (Nat.le_trans hB hsz) (fun j hj => by cases hj; exact hBg))
        have hF3 := hF2.trans (Fr.of hg2 (Nat.le_trans hB hF2.size))
        go_wp2
        go_ret
        refine ⟨_, rfl, ?_, by simpa using q2, hF3⟩
        rw [HNn.out, ← List.append_assoc]
        exact hown2
    · have h0d : decide (0 < k) = false := decide_eq_false h0
      rw [h0d, Bool.false_and, if_neg (by decide)] at hXv
      subst hXv
      have j0 : ¬ (0 : Int) < (k : Int) := by omega
      go_wp2
      go_ret
      exact ⟨_, rfl, by rw [HF.out.2.2]; exact hown, q1, hF⟩
end Go.Proofs.YtgiojkhmkeocfaaGreatDoor

/- The reference's range of lines, walked. -/
set_option maxRecDepth 20000
namespace Go.Proofs.YtgiojkhmkeocfaaGreatDoor
open Go.RowKit
attribute [local go_sem] ByteArray.extract_mk no_at

theorem spB_at {q : UInt8 → Bool} : ∀ (s : List UInt8) (i : Nat) (hi : i < s.length), q s[i] = true → (∀ j (hj : j < i), q (s[j]'(by omega)) = false) → spB q s = some (s.take i, s[i], s.drop (i + 1))
  | [], _, hi, _, _ => by simp at hi
  | c :: t, 0, _, hq, _ => by
    simp only [List.getElem_cons_zero] at hq
    simp [spB, hq]
  | c :: t, i + 1, hi, hq, h => by
    have h0 := h 0 (by omega)
    simp only [List.getElem_cons_zero] at h0
    have ih := spB_at t i (by simpa using hi) (by simpa using hq) (fun j hj => by have := h (j + 1) (by omega); simpa using this)
    simp [spB, h0, ih]
theorem spB_off {q : UInt8 → Bool} : ∀ (s : List UInt8), (∀ j (hj : j < s.length), q s[j] = false) → spB q s = none
  | [], _ => rfl
  | c :: t, h => by
    have h0 := h 0 (by simp)
    simp only [List.getElem_cons_zero] at h0
    have ih := spB_off t (fun j hj => by have := h (j + 1) (by simp; omega); simpa using this)
    simp [spB, h0, ih]
/-- what a range of lines is read as -/
def LnsP (s : List UInt8) (x : Ending) : Prop :=
  match lnsP s with
  | some (A, N) => x = .returned (.tuple #[.int .i64 A, .int .i64 N, .bool true])
  | none => ∃ A N, x = .returned (.tuple #[.int .i64 A, .int .i64 N, .bool false])
theorem LnsP.mk1 {s : List UInt8} {k : Nat} (hk : k < s.length) (h1 : isK s[k] = true) (h2 : ∀ j (hj : j < k), isK (s[j]'(by omega)) = false) {x y : List UInt8} (hx : s.take k = x) (hy : s.drop (k + 1) = y) {b : Bool} (hb : (decide (Pn.parseE x = 0) && (decide (Pn.parseE y = 0) && (decide (1 ≤ Pn.parseV x) && decide (Pn.parseV x < Pn.parseV y)))) = b) :
    LnsP s (.returned (.tuple #[.int .i64 (Pn.parseV x), .int .i64 (Pn.parseV y - Pn.parseV x + 1), .bool b])) := by
  unfold LnsP lnsP
  rw [spB_at s k hk h1 h2]
  dsimp only
  rw [hx, hy]
  cases b with
  | true =>
    simp only [Bool.and_eq_true, decide_eq_true_eq] at hb
    rw [if_pos hb]
  | false =>
    rw [if_neg (by intro hq; simp [hq] at hb)]
    exact ⟨_, _, rfl⟩
theorem LnsP.mk0 {s : List UInt8} (h2 : ∀ j (hj : j < s.length), isK s[j] = false) {b : Bool} (hb : (decide (Pn.parseE s = 0) && decide (1 ≤ Pn.parseV s)) = b) :
    LnsP s (.returned (.tuple #[.int .i64 (Pn.parseV s), .int .i64 1, .bool b])) := by
  unfold LnsP lnsP
  rw [spB_off s h2]
  dsimp only
  cases b with
  | true =>
    simp only [Bool.and_eq_true, decide_eq_true_eq] at hb
    rw [if_pos hb]
  | false =>
    rw [if_neg (by intro hq; simp [hq] at hb)]
    exact ⟨_, _, rfl⟩
set_option maxHeartbeats 4000000 in
theorem rLines_f (s : List UInt8) (hs : s.length ≤ 1099511627776) (w : World) :
    Calls Tryz.prog 160 #[.string ⟨s.toArray⟩] w fun x w' => LnsP s x ∧ Below w.heap.size w w' := by
  go_enter Tryz.func160, Tryz.ntmps160
  go_wp2
  go_loopw [5] (fun i wr => ∃ k : Nat, k ≤ s.length ∧ i = .int .i64 (k : Int) ∧ Hid (∀ j (_ : j < k) (hj : j < s.length), isK s[j] = false) ∧ wr = w) (fun i _ => s.length - (intOf i).toNat)
  case atStart => exact ⟨0, Nat.zero_le _, rfl, fun j hj => by omega, rfl⟩
  case round =>
    obtain ⟨k, hk, rfl, HK, rfl⟩ := hrel
    by_cases hlt : k < s.length
    · have i1 : 0 ≤ (k : Int) := by omega
      have i2 : (k : Int) < (s.length : Int) := by omega
      by_cases hc : s[k] = 44
      · have hb : ((s[k].toNat : Int) == 44) = true := by rw [hc]; rfl
        have HE : Hid (isK s[k] = true) := (by show _ = _; unfold isK; rw [hc]; rfl)
        obtain ⟨x, hx⟩ : ∃ x, s.take k = x := ⟨_, rfl⟩
        obtain ⟨y, hy⟩ : ∃ y, s.drop (k + 1) = y := ⟨_, rfl⟩
        have hxl : x.length ≤ 1099511627776 := (by rw [← hx, List.length_take]; omega)
        have hy3 : y.take (s.length - (k + 1)) = y := List.take_of_length_le (by rw [← hy, List.length_drop]; omega)
        have i3 : (k : Int) + 1 ≤ (s.length : Int) := by omega
        have i4 : ((k : Int) + 1).toNat = k + 1 := by omega
        have hyl : y.length ≤ 1099511627776 := (by rw [← hy, List.length_drop]; omega)
        have hm : ∀ b : Bool, _ = b → LnsP s _ := fun b hb => LnsP.mk1 hlt HE.out (fun j hj => HK.out j hj (by omega)) hx hy (b := b) hb
        obtain ⟨v1, hv1⟩ : ∃ v, Pn.parseV x = v := ⟨_, rfl⟩
        obtain ⟨e1, he1⟩ : ∃ e, Pn.parseE x = e := ⟨_, rfl⟩
        obtain ⟨v2, hv2⟩ : ∃ v, Pn.parseV y = v := ⟨_, rfl⟩
        obtain ⟨e2, he2⟩ : ∃ e, Pn.parseE y = e := ⟨_, rfl⟩
        have b1 := @prs_num x
        have b2 := @prs_num y
        rw [hv1] at b1
        rw [hv2] at b2
        rw [hv1, he1, hv2, he2] at hm
        have hrx := rParse_f x
        have hry := rParse_f y
        rw [hv1, he1] at hrx
        rw [hv2, he2] at hry
        have HM : Hid (∀ b : Bool, (decide (e1 = 0) && (decide (e2 = 0) && (decide (1 ≤ v1) && decide (v1 < v2)))) = b → LnsP s (.returned (.tuple #[.int .i64 v1, .int .i64 (v2 - v1 + 1), .bool b]))) := hm
        clear hm HK HE hc hv1 he1 hv2 he2
        go_wp2_with fail
        refine (hrx _ (by unfold maxLen; omega)).mono ?_
        rintro e' w1 ⟨rfl, hb1⟩
        go_wp2_with fail
        refine (hry _ (by unfold maxLen; omega)).mono ?_
        rintro e' w2 ⟨rfl, hb2⟩
        have hB := hb1.trans (hb2.mono hb1.size)
        by_cases h1 : e1 = 0
        · have g1 : (e1 == 0) = true := by rw [h1]; rfl
          by_cases h2 : e2 = 0
          · have g2 : (e2 == 0) = true := by rw [h2]; rfl
            by_cases h3 : 1 ≤ v1
            · by_cases h4 : v1 < v2
              · go_wp2
                go_ret3
                exact ⟨HM.out _ (by simp [h1, h2, h3, h4]), hB⟩
              · go_wp2
                go_ret3
                exact ⟨HM.out _ (by simp [h1, h2, h3]), hB⟩
            · have g3 : decide (1 ≤ v1) = false := decide_eq_false h3
              have G3 : Hid (decide (1 ≤ v1) = false) := g3
              go_wp2
              go_ret3
              exact ⟨HM.out _ (by rw [G3.out]; simp), hB⟩
          · have g2 : (e2 == 0) = false := beq_eq_false_iff_ne.2 h2
            go_wp2
            go_ret3
            exact ⟨HM.out _ (by simp [h1, h2]), hB⟩
        · have g1 : (e1 == 0) = false := beq_eq_false_iff_ne.2 h1
          go_wp2
          go_ret3
          exact ⟨HM.out _ (by simp [h1]), hB⟩
      · have hb : ((s[k].toNat : Int) == 44) = false := beq_eq_false_iff_ne.2 (fun h => hc (UInt8.toNat_inj.1 (by show _ = 44; omega)))
        have HE : Hid (isK s[k] = false) := (by show _ = _; unfold isK; simpa using hc)
        go_wp2
        go_roundw
        case rel => exact ⟨k + 1, by omega, by go_num, fun j hj hj2 => (by
            rcases Nat.lt_or_ge j k with h | h
            · exact HK.out j h hj2
            · have : j = k := by omega
              subst this
              exact HE.out), trivial⟩
        case measure => simp [intOf]; omega
    · have ek : k = s.length := by omega
      subst ek
      obtain ⟨v, hv⟩ : ∃ v, Pn.parseV s = v := ⟨_, rfl⟩
      obtain ⟨e, he⟩ : ∃ e, Pn.parseE s = e := ⟨_, rfl⟩
      go_wp2_with fail
      refine (rParse_f s _ (by unfold maxLen; omega)).mono ?_
      rintro e' w1 ⟨rfl, hb1⟩
      have hm : ∀ b : Bool, _ = b → LnsP s _ := fun b hb => LnsP.mk0 (s := s) (fun j hj => HK.out j hj hj) (b := b) hb
      rw [hv, he] at hm ⊢
      by_cases h1 : e = 0
      · have g1 : (e == 0) = true := by rw [h1]; rfl
        by_cases h2 : 1 ≤ v
        · go_wp2
          go_ret3
          exact ⟨hm _ (by simp [h1, h2]), hb1⟩
        · have G3 : Hid (decide (1 ≤ v) = false) := decide_eq_false h2
          go_wp2
          go_ret3
          exact ⟨hm _ (by rw [G3.out]; simp), hb1⟩
      · have g1 : (e == 0) = false := beq_eq_false_iff_ne.2 h1
        go_wp2
        go_ret3
        exact ⟨hm _ (by simp [h1]), hb1⟩
end Go.Proofs.YtgiojkhmkeocfaaGreatDoor

/- The reference's line that says a change, walked. -/
set_option maxRecDepth 20000
namespace Go.Proofs.YtgiojkhmkeocfaaGreatDoor
open Go.RowKit
attribute [local go_sem] ByteArray.extract_mk no_at

theorem LnsP.out {s : List UInt8} {x : Ending} (h : LnsP s x) : ∃ A N b, x = .returned (.tuple #[.int .i64 A, .int .i64 N, .bool b]) ∧ lnsP s = if b = true then some (A, N) else none := by
  unfold LnsP at h
  cases hl : lnsP s with
  | none =>
    rw [hl] at h
    obtain ⟨A, N, rfl⟩ := h
    exact ⟨A, N, false, rfl, rfl⟩
  | some z =>
    obtain ⟨A, N⟩ := z
    rw [hl] at h
    exact ⟨A, N, true, h, rfl⟩
/-- what a line that says a change is read as -/
def CmdP (s : List UInt8) (x : Ending) : Prop :=
  match cmdP s with
  | some (A, AN, B, BN) => x = .returned (.tuple #[hkV ⟨A, AN, B, BN, []⟩ (.slice none 0 0), .bool true])
  | none => ∃ A AN B BN, x = .returned (.tuple #[hkV ⟨A, AN, B, BN, []⟩ (.slice none 0 0), .bool false])
theorem CmdP.off {s : List UInt8} (h : ∀ j (hj : j < s.length), isC s[j] = false) : CmdP s (.returned (.tuple #[hkV ⟨0, 0, 0, 0, []⟩ (.slice none 0 0), .bool false])) := by
  unfold CmdP cmdP
  rw [spB_off s h]
  exact ⟨0, 0, 0, 0, rfl⟩
section
variable {u : World} {b : Nat} {h : Hk} {v : Value}
theorem Hx.putH5 (q : Hx u b h v) (A AN B BN : Int) (l : List Mk) (z : Value) : Hx (((((u.setCell ⟨b, 0, none⟩ (.int .i64 A)).setCell ⟨b, 1, none⟩ (.int .i64 AN)).setCell ⟨b, 2, none⟩ (.int .i64 B)).setCell ⟨b, 3, none⟩ (.int .i64 BN)).setCell ⟨b, 4, none⟩ z) b ⟨A, AN, B, BN, l⟩ z := by
  have s1 := heap_setCell_same u b 0 _ _ (.int .i64 A) q
  have s2 := heap_setCell_same _ b 1 _ _ (.int .i64 AN) s1
  have s3 := heap_setCell_same _ b 2 _ _ (.int .i64 B) s2
  have s4 := heap_setCell_same _ b 3 _ _ (.int .i64 BN) s3
  exact heap_setCell_same _ b 4 _ _ z s4
theorem Hx.put0 (q : Hx u b h v) (A : Int) : Hx (u.setCell ⟨b, 0, none⟩ (.int .i64 A)) b ⟨A, h.AN, h.B, h.BN, h.ls⟩ v := heap_setCell_same u b 0 _ _ (.int .i64 A) q
theorem Hx.put1 (q : Hx u b h v) (A : Int) : Hx (u.setCell ⟨b, 1, none⟩ (.int .i64 A)) b ⟨h.A, A, h.B, h.BN, h.ls⟩ v := heap_setCell_same u b 1 _ _ (.int .i64 A) q
theorem Hx.put2 (q : Hx u b h v) (A : Int) : Hx (u.setCell ⟨b, 2, none⟩ (.int .i64 A)) b ⟨h.A, h.AN, A, h.BN, h.ls⟩ v := heap_setCell_same u b 2 _ _ (.int .i64 A) q
theorem Hx.put3 (q : Hx u b h v) (A : Int) : Hx (u.setCell ⟨b, 3, none⟩ (.int .i64 A)) b ⟨h.A, h.AN, h.B, A, h.ls⟩ v := heap_setCell_same u b 3 _ _ (.int .i64 A) q
theorem Hx.off (q : Hx u b h v) {c j : Nat} (hc : b ≠ c) (z : Value) : Hx (u.setCell ⟨c, j, none⟩ z) b h v := (Below.heap_setCell _ _ _ b hc).trans q
end
theorem cm_low {w u : World} (h : Below w.heap.size w u) (z0 z1 z2 z3 z4 : Value) : Below w.heap.size w (((((u.setCell ⟨w.heap.size, 0, none⟩ z0).setCell ⟨w.heap.size, 1, none⟩ z1).setCell ⟨w.heap.size, 2, none⟩ z2).setCell ⟨w.heap.size, 3, none⟩ z3).setCell ⟨w.heap.size, 4, none⟩ z4) :=
  ((((h.setCell (Nat.le_refl _) _).setCell (Nat.le_refl _) _).setCell (Nat.le_refl _) _).setCell (Nat.le_refl _) _).setCell (Nat.le_refl _) _
theorem CmdP.mk {s : List UInt8} {k : Nat} {c : UInt8} (hk : k < s.length) (hc : s[k] = c) (h1 : isC c = true) (h2 : ∀ j (hj : j < k), isC (s[j]'(by omega)) = false) {x y : List UInt8} (hx : s.take k = x) (hy : s.drop (k + 1) = y)
    {A AN B BN : Int} {b1 b2 b : Bool} (hA : (if c = 97 then oneP x else lnsP x) = if b1 = true then some (A, AN) else none) (hB : (if c = 100 then oneP y else lnsP y) = if b2 = true then some (B, BN) else none) (hb : (b1 && b2) = b) :
    CmdP s (.returned (.tuple #[hkV ⟨A, AN, B, BN, []⟩ (.slice none 0 0), .bool b])) := by
  unfold CmdP cmdP
  rw [spB_at s k hk (by rw [hc]; exact h1) h2]
  dsimp only
  rw [hx, hy, hc, hA, hB]
  cases b1 <;> cases b2 <;> cases hb
  · exact ⟨_, _, _, _, rfl⟩
  · exact ⟨_, _, _, _, rfl⟩
  · exact ⟨_, _, _, _, rfl⟩
  · rfl
theorem one_if {x : List UInt8} {v e : Int} (hv : Pn.parseV x = v) (he : Pn.parseE x = e) : oneP x = if decide (e = 0) = true then some (v, 0) else none := by
  unfold oneP
  rw [hv, he]
  by_cases h : e = 0 <;> simp [h]
end Go.Proofs.YtgiojkhmkeocfaaGreatDoor

/- The code's change of layer 12, walked: a line that says a change. -/
set_option maxRecDepth 20000
namespace Go.Proofs.YtgiojkhmkeocfaaGreatDoor
open Go.RowKit
attribute [local go_sem] ByteArray.extract_mk no_at

theorem low_drw {W u : World} (h : Low W u) : Low W u.drew := Below.drew h
theorem exec_slTo {u : World} {s x : List UInt8} {k : Nat} (hk : k ≤ s.length) (hx : s.take k = x) {op : Oper} (p q : Operand) (ho : op.op = .slice 9 p none (some q) none) {ev : Operand → Value} (h1 : ev p = .string ⟨s.toArray⟩) (h2 : ev q = .int .i64 (k : Int)) :
    (execOp ev op).run Tryz.prog u = .ok (.value (.string ⟨x.toArray⟩)) u := by
  have i1 : (0 : Int) ≤ (k : Int) := by omega
  have i2 : (k : Int) ≤ (s.length : Int) := by omega
  subst hx
  simp only [execOp, ho, h1, h2, Option.map]
  go_simp
theorem exec_slFrom {u : World} {s y : List UInt8} {k : Nat} (hk : k < s.length) (hy : s.drop (k + 1) = y) {op : Oper} (p q : Operand) (ho : op.op = .slice 9 p (some q) none none) {ev : Operand → Value} (h1 : ev p = .string ⟨s.toArray⟩) (h2 : ev q = .int .i64 ((k : Int) + 1)) :
    (execOp ev op).run Tryz.prog u = .ok (.value (.string ⟨y.toArray⟩)) u := by
  have i1 : (0 : Int) ≤ (k : Int) + 1 := by omega
  have i2 : (k : Int) + 1 ≤ (s.length : Int) := by omega
  have i3 : ((k : Int) + 1).toNat = k + 1 := by omega
  subst hy
  have k5 : (s.drop (k + 1)).take (s.length - (k + 1)) = s.drop (k + 1) := List.take_of_length_le (by simp)
  simp only [execOp, ho, h1, h2, Option.map]
  go_simp
theorem exec_ixS {u : World} {s : List UInt8} {k : Nat} {c : UInt8} (hk : k < s.length) (hc : s[k] = c) {op : Oper} (p q : Operand) (ho : op.op = .index 9 p q) {ev : Operand → Value} (h1 : ev p = .string ⟨s.toArray⟩) (h2 : ev q = .int .i64 (k : Int)) :
    (execOp ev op).run Tryz.prog u = .ok (.value (.int .u8 (c.toNat : Int))) u := by
  have i1 : (0 : Int) ≤ (k : Int) := by omega
  have i2 : (k : Int) < (s.length : Int) := by omega
  subst hc
  simp only [execOp, ho, h1, h2]
  go_simp
theorem u8_eq (c d : UInt8) : ((c.toNat : Int) == (d.toNat : Int)) = (c == d) := by
  rw [Bool.eq_iff_iff, beq_iff_eq, beq_iff_eq, ← UInt8.toNat_inj]
  omega
theorem exec_eq8 {u : World} {a b : Int} {r : Bool} {op : Oper} (p q : Operand) (ho : op.op = .binOp .eql 5 p q 5) {ev : Operand → Value} (h1 : ev p = .int .u8 a) (h2 : ev q = .int .u8 b) (hr : (a == b) = r) :
    (execOp ev op).run Tryz.prog u = .ok (.value (.bool r)) u := by
  simp only [execOp, ho, h1, h2]
  go_simp
theorem exec_addI {u : World} {p q : Int} (h : IntKind.i64.wrap (p + q) = p + q) {op : Oper} (x y : Operand) (ho : op.op = .binOp .add 3 x y 3) {ev : Operand → Value} (hx : ev x = .int .i64 p) (hy : ev y = .int .i64 q) :
    (execOp ev op).run Tryz.prog u = .ok (.value (.int .i64 (p + q))) u := by
  simp only [execOp, ho, hx, hy]
  go_simp
theorem num_held {W u : World} {s : List UInt8} {no : Bool} (hL : Low W u) (hl : s.length ≤ 1099511627776) : Calls Tryz.prog 199 (#[.string ⟨s.toArray⟩, .bool no] ++ #[]) u fun e w' => ∃ v, e = .returned v ∧ Low W w' ∧ ∃ A AN b1, v = .tuple #[.int .i64 A, .int .i64 AN, .bool b1] ∧ nmP no s = (if b1 = true then some (A, AN) else none) := by
  refine (nnumbers_f s no u hl).mono ?_
  rintro e w' ⟨x, n, r, rfl, h1, h2⟩
  exact ⟨_, rfl, Below.trans hL (h2.mono (Below.size hL)), x, n, r, rfl, h1⟩
theorem nm_ret (tmps : Array Value) (u : World) (B : Nat) (g : Hk) (v : Value) (h : Hx u B g v) {b : Value} (h2 : tmps.getD 2 undef = .pointer (some ⟨B, 0, none⟩)) (h3 : tmps.getD 3 undef = b) :
    (results Tryz.f136 tmps).run Tryz.prog u = .ok (.tuple #[hkV g v, b]) u := by
  rw [_root_.Go.results_cell_tmp rfl, h2, h3]
  have hL : (loadVar 59 ⟨B, 0, none⟩).run Tryz.prog u = .ok (hkV g v) u := run_loadVar_row u B _ _ _ _ _ h Tryz.underlying59 rfl (by kernel_rfl)
  simp [asAddr, hL, Result.andThen]
set_option maxHeartbeats 4000000 in
theorem nchange_f (s : List UInt8) (hs : s.length < 4294967281) (w : World) :
    Calls Tryz.prog 136 #[.string ⟨s.toArray⟩] w fun x w' => CmdP s x ∧ Below w.heap.size w w' := by
  have hx0 := Hx.new w ⟨0, 0, 0, 0, []⟩ (.slice none 0 0)
  have hB0 : Below w.heap.size w (w.alloc (hkO ⟨0, 0, 0, 0, []⟩ (.slice none 0 0))) := (Below.refl _ w).alloc (Nat.le_refl _) _
  unfold hkO at hx0 hB0
  dsimp only at hx0 hB0
  have hIx := fun u => IndexAny_any s hs u
  rcases wend_sp s with ⟨h1, h2⟩ | ⟨k, hlt, h1, h2, h3⟩
  · have HC : Hid (∀ A AN B BN, CmdP s (.returned (.tuple #[hkV ⟨A, AN, B, BN, []⟩ (.slice none 0 0), .bool false]))) := (by
      intro A AN B BN
      unfold CmdP cmdP
      rw [h1]
      exact ⟨_, _, _, _, rfl⟩)
    rw [h2] at hIx
    clear h1 h2
    go_enter Tryz.func136, Tryz.ntmps136
    go_wp2_with fail
    generalize w.alloc (.cells #[.int .i64 0, .int .i64 0, .int .i64 0, .int .i64 0, .slice none 0 0] 59) = W at hx0 hB0 ⊢
    refine (hIx _).mono ?_
    rintro e w1 ⟨rfl, hb1⟩
    have hx1 := hx0.low hb1
    have hB1 := hB0.trans (hb1.mono hB0.size)
    obtain ⟨c0, c1, c2, c3, c4⟩ := hx1.cells
    have f0 := hx1.frozen 0
    have f1 := hx1.frozen 1
    have f2 := hx1.frozen 2
    have f3 := hx1.frozen 3
    have f4 := hx1.frozen 4
    have hP := hx1.putH5 0 0 0 0 [] (.slice none 0 0)
    have hBP := cm_low hB1 (.int .i64 0) (.int .i64 0) (.int .i64 0) (.int .i64 0) (.slice none 0 0)
    go_wp2
    refine bodyPost_ret (nm_ret _ _ _ _ _ hP rfl rfl) rfl ⟨HC.out _ _ _ _, hBP⟩
  · obtain ⟨c, hcd⟩ : ∃ c, s[k] = c := ⟨_, rfl⟩
    obtain ⟨x, hx⟩ : ∃ x, s.take k = x := ⟨_, rfl⟩
    obtain ⟨y, hy⟩ : ∃ y, s.drop (k + 1) = y := ⟨_, rfl⟩
    have hxl : x.length ≤ 1099511627776 := (by rw [← hx, List.length_take]; omega)
    have hyl : y.length ≤ 1099511627776 := (by rw [← hy, List.length_drop]; omega)
    have hkl : k ≤ s.length := by omega
    have HC : Hid (∀ A AN B BN b1 b2, nmP (c == 97) x = (if b1 = true then some (A, AN) else none) → nmP (c == 100) y = (if b2 = true then some (B, BN) else none) → CmdP s (.returned (.tuple #[hkV ⟨A, AN, B, BN, []⟩ (.slice none 0 0), .bool (b1 && b2)]))) := (by
      intro A AN B BN b1 b2 hA hB
      unfold CmdP cmdP
      rw [h2, hcd, hx, hy]
      dsimp only
      have e1 : (if c = 97 then oneP x else lnsP x) = nmP (c == 97) x := (by
        unfold nmP
        by_cases h : c = 97 <;> simp [h])
      have e2 : (if c = 100 then oneP y else lnsP y) = nmP (c == 100) y := (by
        unfold nmP
        by_cases h : c = 100 <;> simp [h])
      rw [e1, e2, hA, hB]
      cases b1 <;> cases b2
      · exact ⟨_, _, _, _, rfl⟩
      · exact ⟨_, _, _, _, rfl⟩
      · exact ⟨_, _, _, _, rfl⟩
      · rfl)
    rw [h1] at hIx
    clear h1 h2 h3
    go_enter Tryz.func136, Tryz.ntmps136
    go_wp2_with fail
    generalize w.alloc (.cells #[.int .i64 0, .int .i64 0, .int .i64 0, .int .i64 0, .slice none 0 0] 59) = W0 at hx0 hB0 ⊢
    refine (hIx _).mono ?_
    rintro e W ⟨rfl, hb1⟩
    have hx1 := hx0.low hb1
    have hB1 := hB0.trans (hb1.mono hB0.size)
    clear hx0 hB0 hb1
    have hlow : Low W W.drew := Below.drew (Below.refl _ _)
    have i0 : ¬ ((k : Int) < 0) := by omega
    go_upto_region 4 with fail
    refine wp_region_noPanic ?_
    refine wp_region_held_drew (S := fun u => Low W u) (by kernel_rfl) hlow (fun hHeld => ?_)
    generalize W.drew = wd at hHeld ⊢
    refine go_take 0 17 _ (.string ⟨s.toArray⟩) rfl (by kernel_rfl) (by kernel_rfl) (by kernel_rfl) (by kernel_rfl) (fun _ _ _ h => h) (Or.inl ⟨by kernel_rfl, fun u hu => by kernel_rfl⟩) hHeld ?_
    simp only [Act.put, List.setIfInBounds_toArray, List.set_cons_zero, List.set_cons_succ]
    refine go_take 1 18 _ (.int .i64 (k : Int)) rfl (by kernel_rfl) (by kernel_rfl) (by kernel_rfl) (by kernel_rfl) (fun _ _ _ h => h) (Or.inl ⟨by kernel_rfl, fun u hu => by kernel_rfl⟩) hHeld ?_
    simp only [Act.put, List.setIfInBounds_toArray, List.set_cons_zero, List.set_cons_succ]
    refine go_take 2 19 _ (.string ⟨x.toArray⟩) rfl (by kernel_rfl) (by kernel_rfl) (by kernel_rfl) (by kernel_rfl) (fun _ _ _ h => h) (Or.inl ⟨by kernel_rfl, fun u hu => exec_slTo hkl hx (.tmp 17) (.tmp 18) (by kernel_rfl) (by kernel_rfl) (by kernel_rfl)⟩) hHeld ?_
    simp only [Act.put, List.setIfInBounds_toArray, List.set_cons_zero, List.set_cons_succ]
    refine go_take 3 20 _ (.string ⟨s.toArray⟩) rfl (by kernel_rfl) (by kernel_rfl) (by kernel_rfl) (by kernel_rfl) (fun _ _ _ h => h) (Or.inl ⟨by kernel_rfl, fun u hu => by kernel_rfl⟩) hHeld ?_
    simp only [Act.put, List.setIfInBounds_toArray, List.set_cons_zero, List.set_cons_succ]
    refine go_take 4 21 _ (.int .i64 (k : Int)) rfl (by kernel_rfl) (by kernel_rfl) (by kernel_rfl) (by kernel_rfl) (fun _ _ _ h => h) (Or.inl ⟨by kernel_rfl, fun u hu => by kernel_rfl⟩) hHeld ?_
    simp only [Act.put, List.setIfInBounds_toArray, List.set_cons_zero, List.set_cons_succ]
    refine go_take 5 22 _ (.int .u8 (c.toNat : Int)) rfl (by kernel_rfl) (by kernel_rfl) (by kernel_rfl) (by kernel_rfl) (fun _ _ _ h => h) (Or.inl ⟨by kernel_rfl, fun u hu => exec_ixS hlt hcd (.tmp 20) (.tmp 21) (by kernel_rfl) (by kernel_rfl) (by kernel_rfl)⟩) hHeld ?_
    simp only [Act.put, List.setIfInBounds_toArray, List.set_cons_zero, List.set_cons_succ]
    refine go_take 6 23 _ (.bool (c == 97)) rfl (by kernel_rfl) (by kernel_rfl) (by kernel_rfl) (by kernel_rfl) (fun _ _ _ h => h) (Or.inl ⟨by kernel_rfl, fun u hu => exec_eq8 (.tmp 22) (.const (.int .u8 97)) (by kernel_rfl) (by kernel_rfl) (by kernel_rfl) (u8_eq c 97)⟩) hHeld ?_
    simp only [Act.put, List.setIfInBounds_toArray, List.set_cons_zero, List.set_cons_succ]
    refine go_callE 7 24 _ rfl (by kernel_rfl) (by kernel_rfl) (by kernel_rfl) 199 (.func 199) #[.tmp 19, .tmp 23] #[9, 4] (by kernel_rfl) #[] (by kernel_rfl) #[.string ⟨x.toArray⟩, .bool (c == 97)] (by kernel_rfl) (enters_of Tryz.func199 (by kernel_rfl) rfl) (fun v u => ∃ A AN b1, v = .tuple #[.int .i64 A, .int .i64 AN, .bool b1] ∧ nmP (c == 97) x = (if b1 = true then some (A, AN) else none)) ?_ ?_
    · exact num_held hHeld hxl
    rintro _ u1 hH1 ⟨A, AN, b1, rfl, hA⟩
    simp only [Act.put, List.setIfInBounds_toArray, List.set_cons_zero, List.set_cons_succ]
    refine go_take 8 16 _ (.tuple #[.int .i64 A, .int .i64 AN, .bool b1]) rfl (by kernel_rfl) (by kernel_rfl) (by kernel_rfl) (by kernel_rfl) (fun _ _ _ h => h) (Or.inl ⟨by kernel_rfl, fun u hu => by kernel_rfl⟩) hH1 ?_
    simp only [Act.put, List.setIfInBounds_toArray, List.set_cons_zero, List.set_cons_succ]
    refine go_take 9 25 _ (.int .i64 A) rfl (by kernel_rfl) (by kernel_rfl) (by kernel_rfl) (by kernel_rfl) (fun _ _ _ h => h) (Or.inl ⟨by kernel_rfl, fun u hu => by kernel_rfl⟩) hH1 ?_
    simp only [Act.put, List.setIfInBounds_toArray, List.set_cons_zero, List.set_cons_succ]
    refine go_take 10 26 _ (.int .i64 AN) rfl (by kernel_rfl) (by kernel_rfl) (by kernel_rfl) (by kernel_rfl) (fun _ _ _ h => h) (Or.inl ⟨by kernel_rfl, fun u hu => by kernel_rfl⟩) hH1 ?_
    simp only [Act.put, List.setIfInBounds_toArray, List.set_cons_zero, List.set_cons_succ]
    refine go_take 11 27 _ (.bool b1) rfl (by kernel_rfl) (by kernel_rfl) (by kernel_rfl) (by kernel_rfl) (fun _ _ _ h => h) (Or.inl ⟨by kernel_rfl, fun u hu => by kernel_rfl⟩) hH1 ?_
    simp only [Act.put, List.setIfInBounds_toArray, List.set_cons_zero, List.set_cons_succ]
    refine go_take 12 5 _ (.int .i64 A) rfl (by kernel_rfl) (by kernel_rfl) (by kernel_rfl) (by kernel_rfl) (fun _ _ _ h => h) (Or.inl ⟨by kernel_rfl, fun u hu => by kernel_rfl⟩) hH1 ?_
    simp only [Act.put, List.setIfInBounds_toArray, List.set_cons_zero, List.set_cons_succ]
    refine go_take 13 6 _ (.int .i64 AN) rfl (by kernel_rfl) (by kernel_rfl) (by kernel_rfl) (by kernel_rfl) (fun _ _ _ h => h) (Or.inl ⟨by kernel_rfl, fun u hu => by kernel_rfl⟩) hH1 ?_
    simp only [Act.put, List.setIfInBounds_toArray, List.set_cons_zero, List.set_cons_succ]
    refine go_take 14 7 _ (.bool b1) rfl (by kernel_rfl) (by kernel_rfl) (by kernel_rfl) (by kernel_rfl) (fun _ _ _ h => h) (Or.inl ⟨by kernel_rfl, fun u hu => by kernel_rfl⟩) hH1 ?_
    simp only [Act.put, List.setIfInBounds_toArray, List.set_cons_zero, List.set_cons_succ]
    refine wpAnyH_done (by kernel_rfl) ?_ _
    refine NoPanic.normal ?_
    go_upto_region 5 with fail
    refine wp_region_noPanic ?_
    refine wp_region_held_drew (S := fun u => Low W u) (by kernel_rfl) (low_drw hH1) (fun hHeld => ?_)
    generalize u1.drew = wd2 at hHeld ⊢
    refine go_take 0 29 _ (.string ⟨s.toArray⟩) rfl (by kernel_rfl) (by kernel_rfl) (by kernel_rfl) (by kernel_rfl) (fun _ _ _ h => h) (Or.inl ⟨by kernel_rfl, fun u hu => by kernel_rfl⟩) hHeld ?_
    simp only [Act.put, List.setIfInBounds_toArray, List.set_cons_zero, List.set_cons_succ]
    refine go_take 1 30 _ (.int .i64 (k : Int)) rfl (by kernel_rfl) (by kernel_rfl) (by kernel_rfl) (by kernel_rfl) (fun _ _ _ h => h) (Or.inl ⟨by kernel_rfl, fun u hu => by kernel_rfl⟩) hHeld ?_
    simp only [Act.put, List.setIfInBounds_toArray, List.set_cons_zero, List.set_cons_succ]
    refine go_take 2 31 _ (.int .i64 ((k : Int) + 1)) rfl (by kernel_rfl) (by kernel_rfl) (by kernel_rfl) (by kernel_rfl) (fun _ _ _ h => h) (Or.inl ⟨by kernel_rfl, fun u hu => exec_addI (p := (k : Int)) (q := 1) (wrap_s (by omega) (by omega)) (.tmp 30) (.const (.int .i64 1)) (by kernel_rfl) (by kernel_rfl) (by kernel_rfl)⟩) hHeld ?_
    simp only [Act.put, List.setIfInBounds_toArray, List.set_cons_zero, List.set_cons_succ]
    refine go_take 3 32 _ (.string ⟨y.toArray⟩) rfl (by kernel_rfl) (by kernel_rfl) (by kernel_rfl) (by kernel_rfl) (fun _ _ _ h => h) (Or.inl ⟨by kernel_rfl, fun u hu => exec_slFrom hlt hy (.tmp 29) (.tmp 31) (by kernel_rfl) (by kernel_rfl) (by kernel_rfl)⟩) hHeld ?_
    simp only [Act.put, List.setIfInBounds_toArray, List.set_cons_zero, List.set_cons_succ]
    refine go_take 4 33 _ (.string ⟨s.toArray⟩) rfl (by kernel_rfl) (by kernel_rfl) (by kernel_rfl) (by kernel_rfl) (fun _ _ _ h => h) (Or.inl ⟨by kernel_rfl, fun u hu => by kernel_rfl⟩) hHeld ?_
    simp only [Act.put, List.setIfInBounds_toArray, List.set_cons_zero, List.set_cons_succ]
    refine go_take 5 34 _ (.int .i64 (k : Int)) rfl (by kernel_rfl) (by kernel_rfl) (by kernel_rfl) (by kernel_rfl) (fun _ _ _ h => h) (Or.inl ⟨by kernel_rfl, fun u hu => by kernel_rfl⟩) hHeld ?_
    simp only [Act.put, List.setIfInBounds_toArray, List.set_cons_zero, List.set_cons_succ]
    refine go_take 6 35 _ (.int .u8 (c.toNat : Int)) rfl (by kernel_rfl) (by kernel_rfl) (by kernel_rfl) (by kernel_rfl) (fun _ _ _ h => h) (Or.inl ⟨by kernel_rfl, fun u hu => exec_ixS hlt hcd (.tmp 33) (.tmp 34) (by kernel_rfl) (by kernel_rfl) (by kernel_rfl)⟩) hHeld ?_
    simp only [Act.put, List.setIfInBounds_toArray, List.set_cons_zero, List.set_cons_succ]
    refine go_take 7 36 _ (.bool (c == 100)) rfl (by kernel_rfl) (by kernel_rfl) (by kernel_rfl) (by kernel_rfl) (fun _ _ _ h => h) (Or.inl ⟨by kernel_rfl, fun u hu => exec_eq8 (.tmp 35) (.const (.int .u8 100)) (by kernel_rfl) (by kernel_rfl) (by kernel_rfl) (u8_eq c 100)⟩) hHeld ?_
    simp only [Act.put, List.setIfInBounds_toArray, List.set_cons_zero, List.set_cons_succ]
    refine go_callE 8 37 _ rfl (by kernel_rfl) (by kernel_rfl) (by kernel_rfl) 199 (.func 199) #[.tmp 32, .tmp 36] #[9, 4] (by kernel_rfl) #[] (by kernel_rfl) #[.string ⟨y.toArray⟩, .bool (c == 100)] (by kernel_rfl) (enters_of Tryz.func199 (by kernel_rfl) rfl) (fun v u => ∃ A AN b1, v = .tuple #[.int .i64 A, .int .i64 AN, .bool b1] ∧ nmP (c == 100) y = (if b1 = true then some (A, AN) else none)) ?_ ?_
    · exact num_held hHeld hyl
    rintro _ u2 hH2 ⟨B, BN, b2, rfl, hB⟩
    simp only [Act.put, List.setIfInBounds_toArray, List.set_cons_zero, List.set_cons_succ]
    refine go_take 9 28 _ (.tuple #[.int .i64 B, .int .i64 BN, .bool b2]) rfl (by kernel_rfl) (by kernel_rfl) (by kernel_rfl) (by kernel_rfl) (fun _ _ _ h => h) (Or.inl ⟨by kernel_rfl, fun u hu => by kernel_rfl⟩) hH2 ?_
    simp only [Act.put, List.setIfInBounds_toArray, List.set_cons_zero, List.set_cons_succ]
    refine go_take 10 38 _ (.int .i64 B) rfl (by kernel_rfl) (by kernel_rfl) (by kernel_rfl) (by kernel_rfl) (fun _ _ _ h => h) (Or.inl ⟨by kernel_rfl, fun u hu => by kernel_rfl⟩) hH2 ?_
    simp only [Act.put, List.setIfInBounds_toArray, List.set_cons_zero, List.set_cons_succ]
    refine go_take 11 39 _ (.int .i64 BN) rfl (by kernel_rfl) (by kernel_rfl) (by kernel_rfl) (by kernel_rfl) (fun _ _ _ h => h) (Or.inl ⟨by kernel_rfl, fun u hu => by kernel_rfl⟩) hH2 ?_
    simp only [Act.put, List.setIfInBounds_toArray, List.set_cons_zero, List.set_cons_succ]
    refine go_take 12 40 _ (.bool b2) rfl (by kernel_rfl) (by kernel_rfl) (by kernel_rfl) (by kernel_rfl) (fun _ _ _ h => h) (Or.inl ⟨by kernel_rfl, fun u hu => by kernel_rfl⟩) hH2 ?_
    simp only [Act.put, List.setIfInBounds_toArray, List.set_cons_zero, List.set_cons_succ]
    refine go_take 13 8 _ (.int .i64 B) rfl (by kernel_rfl) (by kernel_rfl) (by kernel_rfl) (by kernel_rfl) (fun _ _ _ h => h) (Or.inl ⟨by kernel_rfl, fun u hu => by kernel_rfl⟩) hH2 ?_
    simp only [Act.put, List.setIfInBounds_toArray, List.set_cons_zero, List.set_cons_succ]
    refine go_take 14 9 _ (.int .i64 BN) rfl (by kernel_rfl) (by kernel_rfl) (by kernel_rfl) (by kernel_rfl) (fun _ _ _ h => h) (Or.inl ⟨by kernel_rfl, fun u hu => by kernel_rfl⟩) hH2 ?_
    simp only [Act.put, List.setIfInBounds_toArray, List.set_cons_zero, List.set_cons_succ]
    refine go_take 15 10 _ (.bool b2) rfl (by kernel_rfl) (by kernel_rfl) (by kernel_rfl) (by kernel_rfl) (fun _ _ _ h => h) (Or.inl ⟨by kernel_rfl, fun u hu => by kernel_rfl⟩) hH2 ?_
    simp only [Act.put, List.setIfInBounds_toArray, List.set_cons_zero, List.set_cons_succ]
    refine wpAnyH_done (by kernel_rfl) ?_ _
    refine NoPanic.normal ?_
    have hx2 := hx1.low hH2
    have hB2 := hB1.trans (Below.mono hH2 hB1.size)
    obtain ⟨c0, c1, c2, c3, c4⟩ := hx2.cells
    have f0 := hx2.frozen 0
    have f1 := hx2.frozen 1
    have f2 := hx2.frozen 2
    have f3 := hx2.frozen 3
    have f4 := hx2.frozen 4
    have hP := hx2.putH5 A AN B BN [] (.slice none 0 0)
    have hBP := cm_low hB2 (.int .i64 A) (.int .i64 AN) (.int .i64 B) (.int .i64 BN) (.slice none 0 0)
    have HD := HC.out A AN B BN b1 b2 hA hB
    clear HC hA hB hx hy hcd
    cases b1 with
    | true =>
      go_wp2
      refine bodyPost_ret (nm_ret _ _ _ _ _ hP rfl rfl) rfl ⟨?_, hBP⟩
      simpa using HD
    | false =>
      go_wp2
      refine bodyPost_ret (nm_ret _ _ _ _ _ hP rfl rfl) rfl ⟨?_, hBP⟩
      simpa using HD
end Go.Proofs.YtgiojkhmkeocfaaGreatDoor
