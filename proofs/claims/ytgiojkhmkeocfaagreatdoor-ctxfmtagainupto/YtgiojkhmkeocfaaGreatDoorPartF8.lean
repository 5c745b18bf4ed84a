/-
  Texts that belong together, joined: CwG, CwH, CwI, CrS, CpQ, CpW, CpX, CpY.
-/
import Derived.Test.YtgiojkhmkeocfaaGreatDoorPartF4
import Derived.Test.YtgiojkhmkeocfaaGreatDoorPartA9
import Derived.Test.YtgiojkhmkeocfaaGreatDoorPartA4
import Derived.Test.YtgiojkhmkeocfaaGreatDoorPartC1
import Derived.Test.YtgiojkhmkeocfaaGreatDoorPartA5
import Derived.Test.YtgiojkhmkeocfaaGreatDoorPartF7
import Derived.Test.YtgiojkhmkeocfaaGreatDoorPartF1

/- The code's side of a page of layer 15, walked. -/
set_option maxRecDepth 20000
namespace Go.Proofs.YtgiojkhmkeocfaaGreatDoor
open Go.RowKit Go.Proofs.YtgiojkhmkeocfaaGreatDoor.Tx

theorem cw_u8 {u : World} {a : Addr} {z : Int} (h : u.cell? a = some (.int .u8 z)) {op : Oper} (x : Operand) (ho : op.op = .load 5 x) {ev : Operand → Value} (hx : ev x = .pointer (some a)) :
    (execOp ev op).run Tryz.prog u = .ok (.value (.int .u8 z)) u := by
  simp only [execOp, ho, hx]
  go_simp
theorem cw_str {u : World} {a : Addr} {s : ByteArray} (h : u.cell? a = some (.string s)) {op : Oper} (x : Operand) (ho : op.op = .load 9 x) {ev : Operand → Value} (hx : ev x = .pointer (some a)) :
    (execOp ev op).run Tryz.prog u = .ok (.value (.string s)) u := by
  simp only [execOp, ho, hx]
  go_simp
theorem cw_ix {u : World} {b off n c i : Nat} (hi : i < n) {op : Oper} (x y : Operand) (ho : op.op = .indexAddr 75 x y) {ev : Operand → Value} (hx : ev x = .slice (some ⟨b, off, none⟩) n c) (hy : ev y = .int .i64 (i : Int)) :
    (execOp ev op).run Tryz.prog u = .ok (.value (.pointer (some ⟨b, off + i, none⟩))) u := by
  have i1 : 0 ≤ (i : Int) := by omega
  have i2 : (i : Int) < (n : Int) := by omega
  simp only [execOp, ho, hx, hy]
  go_simp
/-- what a slice of bytes holds, place by place -/
theorem hu_at {w : World} {ao : Option Addr} {n c : Nat} {l : List Int} (h : Holds w (.slice ao n c) n (ucells l)) (hl : l.length = n) (h0 : 0 < n) : ∃ b off, ao = some ⟨b, off, none⟩ ∧ ∀ k (hk : k < l.length), w.cell? ⟨b, off + k, none⟩ = some (.int .u8 l[k]) := by
  rcases h with ⟨_, h1, _⟩ | ⟨ad, c', h, _, hc⟩
  · omega
  · cases h
    have h1 := hc 0 _ (List.getElem?_eq_getElem (by rw [ucells_length]; omega))
    obtain ⟨b, off, rfl⟩ := addr_of h1
    refine ⟨b, off, rfl, fun k hk => ?_⟩
    have := hc k (.int .u8 l[k]) (by simp [ucells, hk])
    rw [add_none] at this
    exact this
theorem sidZ_drop (sg : Int) (l : List Mk) (sh : List Int) (k : Nat) (h : l.length = sh.length) (hk : k < l.length) : sidZ sg (l.drop k) (sh.drop k) = (if l[k].sg = 32 ∨ l[k].sg = sg then lnL [UInt8.ofNat (sh[k]'(by omega)).toNat, 32] l[k].tx else []) ++ sidZ sg (l.drop (k + 1)) (sh.drop (k + 1)) := by
  rw [List.drop_eq_getElem_cons hk, List.drop_eq_getElem_cons (show k < sh.length by omega)]
  rfl
set_option maxHeartbeats 8000000 in
set_option maxRecDepth 10000 in
theorem cside_f (B b : Nat) (v : Value) (sg : Int) (l : List Mk) (sh : List Int) (lv sv : Value) (acc Z : List UInt8) (w : World) (h : Pg B b v acc w) (hBw : B ≤ w.heap.size) (hll : l.length ≤ 1099511627776) (HSl : Hid (l.length = sh.length)) (HSh : Hid (∀ x ∈ sh, 0 ≤ x ∧ x < 256)) (HTx : Hid (∀ m ∈ l, m.tx.length ≤ 1099511627776))
    (hlv : HMk w lv l) (HL : Hid (∀ v' u, Wr B b v v' w u → HMk u lv l)) (HS : Hid (∀ v' u, Wr B b v v' w u → Holds u sv sh.length (ucells sh)))
    (HZ : Hid (acc ++ (if hasM sg l = true then sidZ sg l sh else []).flatten = Z)) (hZ : Z.length ≤ 70368744177664) :
    Calls Tryz.prog 113 #[.pointer (some ⟨b, 0, none⟩), lv, sv, .int .u8 sg] w fun e w' => e = .returned (.tuple #[]) ∧ ∃ v', Pg B b v' Z w' ∧ Wr B b v v' w w' := by
  obtain ⟨lo, lc, rfl⟩ := HMk.form hlv
  obtain ⟨so, sc, rfl⟩ : ∃ so sc, sv = .slice so sh.length sc := (HS.out v w (Wr.refl _ _ _ _)).form
  cases hh : hasM sg l with
  | false =>
    have HE : Hid (acc = Z) := (by show _ = _; have h := HZ.out; rw [hh, if_neg (by decide)] at h; simpa using h)
    have hc := chas_f sg l _ w hlv hll false hh
    clear HZ hh HL HS
    go_enter Tryz.func113, Tryz.ntmps113
    go_wp2_with fail
    refine hc.mono ?_
    rintro e w1 ⟨rfl, hB1⟩
    go_wp2
    first
      | go_end0
      | refine bodyPost_ret (results_none rfl _ _ _) rfl ?_
      | refine bodyPost_end (results_none rfl _ _ _) rfl ?_
    exact ⟨rfl, v, by rw [← HE.out]; exact h.low hB1, Wr.low hB1 hBw⟩
  | true =>
    have HZ0 : Hid (acc ++ (sidZ sg (l.drop 0) (sh.drop 0)).flatten = Z) := (by have h := HZ.out; rw [hh, if_pos rfl] at h; exact h)
    have hc := chas_f sg l _ w hlv hll true hh
    clear HZ hh
    rw [← HSl.out] at HS
    rw [← HSl.out]
    go_enter Tryz.func113, Tryz.ntmps113
    go_wp2_with fail
    refine hc.mono ?_
    rintro e w1 ⟨rfl, hB1⟩
    have hP1 := h.low hB1
    have hW1 : Wr B b v v w w1 := Wr.low hB1 hBw
    clear hc hB1 h
    go_wp2
    go_loopw [16] (fun i wr => ∃ (k : Nat) (v1 : Value) (ac : List UInt8), k ≤ l.length ∧ i = .int .i64 k ∧ Pg B b v1 ac wr ∧ Wr B b v v1 w wr ∧ Hid (ac ++ (sidZ sg (l.drop k) (sh.drop k)).flatten = Z)) (fun i _ => l.length - (intOf i).toNat)
    case atStart => exact ⟨0, v, acc, Nat.zero_le _, by go_num, hP1, hW1, HZ0⟩
    case round =>
    clear HZ0 hP1 hW1
    obtain ⟨k, v1, ac, hk, rfl, hP, hW, HI⟩ := hrel
    have hsz := hW.size
    by_cases hlt : k < l.length
    · obtain ⟨bk, off, rfl, hbk, hcl⟩ := HMk.at (HL.out v1 wr hW) (by omega)
      obtain ⟨sb, soff, rfl, hscl⟩ := hu_at (HS.out v1 wr hW) HSl.out.symm (by omega)
      obtain ⟨c0, c1⟩ := hcl k hlt
      have s0 := hscl k (by have := HSl.out; omega)
      have HI2 := HI.out
      rw [sidZ_drop sg l sh k HSl.out hlt] at HI2
      have hx := HSh.out (sh[k]'(by have := HSl.out; omega)) (List.getElem_mem _)
      have htx := HTx.out l[k] (List.getElem_mem _)
      obtain ⟨m, hm⟩ : ∃ m, l[k] = m := ⟨_, rfl⟩
      obtain ⟨x, hxx⟩ : ∃ x, sh[k]'(by have := HSl.out; omega) = x := ⟨_, rfl⟩
      rw [hm] at c0 c1 HI2 htx
      rw [hxx] at s0 HI2 hx
      have HX : Hid (sh[k]'(by have := HSl.out; omega) = x) := hxx
      clear hcl hscl HI hm hxx
      have i1 : (0 : Int) ≤ (k : Int) := by omega
      have i2 : (k : Int) < (l.length : Int) := by omega
      obtain ⟨q, hq⟩ : ∃ q : Bool, decide (m.sg = 32 ∨ m.sg = sg) = q := ⟨_, rfl⟩
      have HQ : Hid (decide (m.sg = 32 ∨ m.sg = sg) = q) := hq
      clear hq
      go_upto_region 4 with fail
      go_cut [29] from 17 to 38 (fun cv wz => cv = .bool q ∧ wz = wr.alloc (.cells #[.int .u8 m.sg, .string ⟨m.tx.toArray⟩] 103))
      case first =>
        by_cases h1 : m.sg = 32
        · have e1 : (m.sg == 32) = true := beq_iff_eq.2 h1
          have HE : Hid (true = q) := (by show _ = _; rw [← HQ.out]; simp [h1])
          clear h1
          go_wp2
          go_meet
          case rel => exact ⟨by rw [← HE.out], rfl⟩
        · have e1 : (m.sg == 32) = false := beq_eq_false_iff_ne.2 h1
          have HE : Hid ((m.sg == sg) = q) := (by show _ = _; rw [← HQ.out]; simp only [h1, false_or]; rfl)
          clear h1
          go_wp2
          go_meet
          case rel => exact ⟨by rw [← HE.out], rfl⟩
      case rest =>
      obtain ⟨rfl, rfl⟩ := hcut
      have hBm : Below wr.heap.size wr (wr.alloc (.cells #[.int .u8 m.sg, .string ⟨m.tx.toArray⟩] 103)) := (Below.refl _ wr).alloc (Nat.le_refl _) _
      have hPm := hP.low hBm
      have hWm := hW.trans (Wr.low hBm (Nat.le_trans hBw hsz))
      have hMb : (wr.alloc (.cells #[.int .u8 m.sg, .string ⟨m.tx.toArray⟩] 103)).heap[wr.heap.size]? = some (.cells #[.int .u8 m.sg, .string ⟨m.tx.toArray⟩] 103) := heap_alloc_new wr _
      have hOff : Off wr.heap.size b v1 := ⟨by have := Bld.lt hP; omega, fun e => by have := (hP.2.2.1.lt _ e).2; omega⟩
      have hsm : wr.heap.size ≤ (wr.alloc (.cells #[.int .u8 m.sg, .string ⟨m.tx.toArray⟩] 103)).heap.size := by simp
      clear c0 c1 s0
      generalize wr.alloc (.cells #[.int .u8 m.sg, .string ⟨m.tx.toArray⟩] 103) = Wm at hPm hWm hMb hsm hBm ⊢
      generalize wr.heap.size = M at hMb hOff hsm
      cases q with
      | true =>
        have hq1 : m.sg = 32 ∨ m.sg = sg := of_decide_eq_true HQ.out
        rw [if_pos hq1, List.flatten_append, ← List.append_assoc] at HI2
        obtain ⟨A2, hA2⟩ : ∃ A2, ac ++ (lnL [UInt8.ofNat x.toNat, 32] m.tx).flatten = A2 := ⟨_, rfl⟩
        rw [hA2] at HI2
        have HI3 : Hid (A2 ++ (sidZ sg (l.drop (k + 1)) (sh.drop (k + 1))).flatten = Z) := HI2
        have hAl : A2.length ≤ 70368744177664 := (by
          have := congrArg List.length HI2
          rw [List.length_append] at this
          omega)
        have hcl : ∀ (v' : Value) (u : World), Wr B b v v' w u → u.cell? ⟨sb, soff + k, none⟩ = some (.int .u8 x) := (by
          intro v' u hu
          obtain ⟨sb', soff', he, hsc⟩ := hu_at (HS.out v' u hu) HSl.out.symm (by omega)
          cases he
          rw [hsc k (by have := HSl.out; omega)]
          rw [HX.out])
        have d0 : Wm.drew.cell? ⟨sb, soff + k, none⟩ = some (.int .u8 x) := hcl _ _ (hWm.trans (Wr.low ((Below.refl _ Wm).drew) (by have := hWm.size; omega)))
        have d1 : Wm.drew.cell? ⟨M, 1, none⟩ = some (.string ⟨m.tx.toArray⟩) := (by rw [Lib.cell_of_heap (w := Wm.drew) hMb]; rfl)
        have hPd : Pg B b v1 ac Wm.drew := hPm.low ((Below.refl _ Wm).drew)
        have hWd : Wr B b v v1 w Wm.drew := hWm.trans (Wr.low ((Below.refl _ Wm).drew) (by have := hWm.size; omega))
        have HC : Hid (Calls Tryz.prog 166 (#[.pointer (some ⟨b, 0, none⟩), .int .u8 x, .string ⟨m.tx.toArray⟩] ++ #[]) Wm.drew fun e w2 => ∃ v2, e = .returned v2 ∧ (w2.cell? ⟨sb, soff + k, none⟩ = some (.int .u8 x) ∧ w2.cell? ⟨M, 1, none⟩ = some (.string ⟨m.tx.toArray⟩)) ∧ v2 = .tuple #[] ∧ ∃ v', Pg B b v' A2 w2 ∧ Wr B b v v' w w2) := (by
          refine (cline_f B b v1 x hx.1 hx.2 ac m.tx A2 Wm.drew hPd (Nat.le_trans hBw hWd.size) hA2 hAl htx).mono ?_
          rintro e w2 ⟨rfl, v2, h1, h2⟩
          have h3 := hWd.trans h2
          obtain ⟨h4, _⟩ := h2.block (k := M) hMb hOff
          exact ⟨_, rfl, ⟨hcl _ _ h3, by rw [Lib.cell_of_heap h4]; rfl⟩, rfl, v2, h1, h3⟩)
        clear HI2 hA2 HQ hcl hPd hWd hPm hWm hP hW hMb hOff HL HS
        go_upto_region 5 with fail
        refine wp_region_noPanic ?_
        refine wp_region_held_drew (S := fun u => u.cell? ⟨sb, soff + k, none⟩ = some (.int .u8 x) ∧ u.cell? ⟨M, 1, none⟩ = some (.string ⟨m.tx.toArray⟩)) (by kernel_rfl) ⟨d0, d1⟩ (fun hHeld => ?_)
        generalize Wm.drew = wd at hHeld HC ⊢
        refine go_take 0 30 _ (.pointer (some ⟨b, 0, none⟩)) rfl (by kernel_rfl) (by kernel_rfl) (by kernel_rfl) (by kernel_rfl) (fun _ _ _ h => h) (Or.inl ⟨by kernel_rfl, fun u hu => by kernel_rfl⟩) hHeld ?_
        simp only [Act.put, List.setIfInBounds_toArray, List.set_cons_zero, List.set_cons_succ]
        refine go_take 1 31 _ (.slice (some ⟨sb, soff, none⟩) l.length sc) rfl (by kernel_rfl) (by kernel_rfl) (by kernel_rfl) (by kernel_rfl) (fun _ _ _ h => h) (Or.inl ⟨by kernel_rfl, fun u hu => by kernel_rfl⟩) hHeld ?_
        simp only [Act.put, List.setIfInBounds_toArray, List.set_cons_zero, List.set_cons_succ]
        refine go_take 2 32 _ (.int .i64 (k : Int)) rfl (by kernel_rfl) (by kernel_rfl) (by kernel_rfl) (by kernel_rfl) (fun _ _ _ h => h) (Or.inl ⟨by kernel_rfl, fun u hu => by kernel_rfl⟩) hHeld ?_
        simp only [Act.put, List.setIfInBounds_toArray, List.set_cons_zero, List.set_cons_succ]
        refine go_take 3 33 _ (.pointer (some ⟨sb, soff + k, none⟩)) rfl (by kernel_rfl) (by kernel_rfl) (by kernel_rfl) (by kernel_rfl) (fun _ _ _ h => h) (Or.inl ⟨by kernel_rfl, fun u hu => cw_ix (c := sc) hlt (.tmp 31) (.tmp 32) (by kernel_rfl) (by kernel_rfl) (by kernel_rfl)⟩) hHeld ?_
        simp only [Act.put, List.setIfInBounds_toArray, List.set_cons_zero, List.set_cons_succ]
        refine go_take 4 34 _ (.int .u8 x) rfl (by kernel_rfl) (by kernel_rfl) (by kernel_rfl) (by kernel_rfl) (fun _ _ _ h => h) (Or.inl ⟨by kernel_rfl, fun u hu => cw_u8 hu.1 (.tmp 33) (by kernel_rfl) (by kernel_rfl)⟩) hHeld ?_
        simp only [Act.put, List.setIfInBounds_toArray, List.set_cons_zero, List.set_cons_succ]
        refine go_take 5 35 _ (.pointer (some ⟨M, 1, none⟩)) rfl (by kernel_rfl) (by kernel_rfl) (by kernel_rfl) (by kernel_rfl) (fun _ _ _ h => h) (Or.inl ⟨by kernel_rfl, fun u hu => by kernel_rfl⟩) hHeld ?_
        simp only [Act.put, List.setIfInBounds_toArray, List.set_cons_zero, List.set_cons_succ]
        refine go_take 6 36 _ (.string ⟨m.tx.toArray⟩) rfl (by kernel_rfl) (by kernel_rfl) (by kernel_rfl) (by kernel_rfl) (fun _ _ _ h => h) (Or.inl ⟨by kernel_rfl, fun u hu => cw_str hu.2 (.tmp 35) (by kernel_rfl) (by kernel_rfl)⟩) hHeld ?_
        simp only [Act.put, List.setIfInBounds_toArray, List.set_cons_zero, List.set_cons_succ]
        refine go_callE 7 37 _ rfl (by kernel_rfl) (by kernel_rfl) (by kernel_rfl) 166 (.func 166) #[.tmp 30, .tmp 34, .tmp 36] #[167, 5, 9] (by kernel_rfl) #[] (by kernel_rfl) #[.pointer (some ⟨b, 0, none⟩), .int .u8 x, .string ⟨m.tx.toArray⟩] (by kernel_rfl) (enters_of Tryz.func166 (by kernel_rfl) rfl) (fun v2 w2 => v2 = .tuple #[] ∧ ∃ v', Pg B b v' A2 w2 ∧ Wr B b v v' w w2) ?_ ?_
        · exact HC.out
        rintro _ w2 _ ⟨rfl, v2, hP2, hW2⟩
        simp only [Act.put, List.setIfInBounds_toArray, List.set_cons_zero, List.set_cons_succ]
        refine wpAnyH_done (by kernel_rfl) ?_ _
        refine NoPanic.normal ?_
        
        clear HC hHeld
        go_wp2
        exact ⟨⟨k + 1, v2, A2, by omega, by go_num, hP2, hW2, HI3⟩, by simp [intOf]; omega⟩
      | false =>
        have hq1 : ¬ (m.sg = 32 ∨ m.sg = sg) := of_decide_eq_false HQ.out
        rw [if_neg hq1, List.nil_append] at HI2
        have HI3 : Hid (ac ++ (sidZ sg (l.drop (k + 1)) (sh.drop (k + 1))).flatten = Z) := HI2
        clear HI2 HQ
        go_wp2
        exact ⟨⟨k + 1, v1, ac, by omega, by go_num, hPm, hWm, HI3⟩, by simp [intOf]; omega⟩
    · have hend : decide ((k : Int) < (l.length : Int)) = false := decide_eq_false (by omega)
      have HE : Hid (ac = Z) := (by
        have h := HI.out
        rw [List.drop_of_length_le (by omega)] at h
        show _ = _
        simpa [sidZ] using h)
      clear HI
      go_wp2
      first
        | go_end0
        | refine bodyPost_ret (results_none rfl _ _ _) rfl ?_
        | refine bodyPost_end (results_none rfl _ _ _) rfl ?_
      exact ⟨rfl, v1, by rw [← HE.out]; exact hP, hW⟩
end Go.Proofs.YtgiojkhmkeocfaaGreatDoor

/- The code's text of a hunk, check and Print of layer 15, walked. -/
set_option maxRecDepth 20000
namespace Go.Proofs.YtgiojkhmkeocfaaGreatDoor
open Go.RowKit Go.Proofs.YtgiojkhmkeocfaaGreatDoor.Tx

theorem Hx.wr {B b : Nat} {v v' : Value} {w w' : World} {M : Nat} {h : Hk} {y : Value} (q : Hx w M h y) (hw : Wr B b v v' w w') (ho : Off M b v) : Hx w' M h y ∧ Off M b v' := hw.block q ho
theorem shown_keep {B b base : Nat} {v : Value} {w : World} {sv : Value} {n : Nat} {xs : List Value} (h : w.ownsRow base 5 1 sv n xs) (hb : b < base) (hv : ∀ g, v.ownBlock = some g → g < base) : ∀ (v' : Value) (u : World), Wr B b v v' w u → Holds u sv n xs := by
  intro v' u hw
  rcases h.2 with ⟨rfl, h0⟩ | ⟨g, cap, cur, rfl, hg, hgb, hnc, _⟩
  · exact .inl ⟨rfl, h0, List.eq_nil_of_length_eq_zero (by rw [h.1, h0, Nat.zero_mul])⟩
  · refine .inr ⟨⟨g, 0, none⟩, cap, rfl, hnc, fun j x hj => ?_⟩
    have h1 := h.cells (g := g) rfl j x hj
    obtain ⟨h2, _⟩ := hw.block hgb ⟨by omega, fun e => by have := hv g e; omega⟩
    rw [add_none] at h1 ⊢
    rw [World.cell?_of_block (w := w) (by show u.heap[g]? = w.heap[g]?; rw [h2, hgb])]
    exact h1
theorem shw_signs (l : List Mk) (h : ∀ m ∈ l, okS m.sg = true) : ∀ r a, ∀ x ∈ shwL r a l, 0 ≤ x ∧ x < 256 := by
  induction l with
  | nil => intro r a x hx; cases hx
  | cons m l ih =>
    intro r a x hx
    have hi := ih fun y hy => h y (by simp [hy])
    have hm := h m (by simp)
    have hc : m.sg = 32 ∨ m.sg = 45 ∨ m.sg = 43 := by simp [okS] at hm; omega
    simp only [shwL] at hx
    split at hx
    · rcases List.mem_cons.1 hx with rfl | hx
      · omega
      · exact hi _ _ x hx
    · rcases List.mem_cons.1 hx with rfl | hx
      · split <;> omega
      · exact hi _ _ x hx
theorem side_code0 (sg : Int) (l : List Mk) : (if hasM sg l = true then sidZ sg l (shwL false false l) else []) = sideL sg l := by
  unfold sideL
  rw [sid_shw]
  rfl
theorem chk_signs {h : Hk} (hc : chkH h = 0) : ∀ m ∈ h.ls, okS m.sg = true := by
  obtain ⟨_, hf, _⟩ := chk_out hc
  exact fun m hm => (((fld_iff _).1 hf).1 m hm).2
theorem row_len (e : UInt8) (T : List UInt8) : ([e, e, e, 32] ++ T ++ [32, e, e, e, e]).length = T.length + 9 := by simp
set_option maxHeartbeats 8000000 in
set_option maxRecDepth 100000 in
theorem chunk_f (B b : Nat) (v : Value) (h : Hk) (y : Value) (acc Z : List UInt8) (w : World) (hP : Pg B b v acc w) (hBw : B ≤ w.heap.size) (hll : h.ls.length ≤ 1099511627776) (HTx : Hid (∀ m ∈ h.ls, m.tx.length ≤ 1099511627776)) (HC : Hid (chkH h = 0))
    (HL : Hid (∀ u, Below B w u → HMk u y h.ls)) (HT : Hid (∀ u, Below B w u → Tab10 u)) (HZ : Hid (acc ++ (hkL h).flatten = Z)) (hZ : Z.length ≤ 70368744177664) :
    Calls Tryz.prog 67 #[.pointer (some ⟨b, 0, none⟩), hkV h y] w fun e w' => e = .returned (.tuple #[]) ∧ ∃ v', Pg B b v' Z w' ∧ Wr B b v v' w w' := by
  obtain ⟨lo, lc, rfl⟩ := HMk.form (HL.out w (Below.refl _ _))
  have HSg : Hid (∀ x ∈ shwL false false h.ls, 0 ≤ x ∧ x < 256) := shw_signs _ (chk_signs HC.out) _ _
  have hr := (chk_out HC.out).1
  obtain ⟨r1, r2, r3, r4, r5, r6, rx⟩ := rng_out hr
  clear rx
  obtain ⟨r7, r8⟩ := chk_hi hr
  have hSl := shw_len h.ls false false
  have HS45 := side_code0 45 h.ls
  have HS43 := side_code0 43 h.ls
  obtain ⟨A, AN, Bn, BN, ls⟩ := h
  dsimp only at hll r1 r2 r3 r4 r5 r6 r7 r8 hSl HS45 HS43
  obtain ⟨R, hR⟩ : ∃ R, shwL false false ls = R := ⟨_, rfl⟩
  obtain ⟨T1, hT1⟩ : ∃ T, spanT A AN = T := ⟨_, rfl⟩
  obtain ⟨T2, hT2⟩ : ∃ T, spanT Bn BN = T := ⟨_, rfl⟩
  have t1 := span_len (p := A) (n := AN) r1 r2 r7
  have t2 := span_len (p := Bn) (n := BN) r4 r5 r8
  rw [hT1] at t1
  rw [hT2] at t2
  obtain ⟨X1, hX1⟩ : ∃ X, (if hasM 45 ls = true then sidZ 45 ls R else []).flatten = X := ⟨_, rfl⟩
  obtain ⟨X2, hX2⟩ : ∃ X, (if hasM 43 ls = true then sidZ 43 ls R else []).flatten = X := ⟨_, rfl⟩
  obtain ⟨Z1, hZ1⟩ : ∃ Y, acc ++ starsT ++ [10] = Y := ⟨_, rfl⟩
  obtain ⟨U1, hU1⟩ : ∃ Y, [42, 42, 42, 32] ++ T1 = Y := ⟨_, rfl⟩
  obtain ⟨U2, hU2⟩ : ∃ Y, [45, 45, 45, 32] ++ T2 = Y := ⟨_, rfl⟩
  obtain ⟨V1, hV1⟩ : ∃ Y, U1 ++ [32, 42, 42, 42, 42] = Y := ⟨_, rfl⟩
  obtain ⟨V2, hV2⟩ : ∃ Y, U2 ++ [32, 45, 45, 45, 45] = Y := ⟨_, rfl⟩
  obtain ⟨Z2, hZ2⟩ : ∃ Y, Z1 ++ V1 ++ [10] = Y := ⟨_, rfl⟩
  obtain ⟨Z3, hZ3⟩ : ∃ Y, Z2 ++ X1 = Y := ⟨_, rfl⟩
  obtain ⟨Z4, hZ4⟩ : ∃ Y, Z3 ++ V2 ++ [10] = Y := ⟨_, rfl⟩
  have HE : Hid (Z4 ++ X2 = Z) := (by
    show _ = _
    rw [← HZ.out, ← hZ4, ← hZ3, ← hZ2, ← hZ1, ← hV1, ← hV2, ← hU1, ← hU2, ← hX1, ← hX2, ← hR, HS45, HS43, ← hT1, ← hT2]
    simp [hkL, rlT])
  have hE := congrArg List.length HE.out
  have l4 := congrArg List.length hZ4
  have l3 := congrArg List.length hZ3
  have l2 := congrArg List.length hZ2
  have l1 := congrArg List.length hZ1
  simp only [List.length_append] at hE l4 l3 l2 l1
  have b4 : Z4.length ≤ 70368744177664 := by omega
  have b3 : Z3.length ≤ 70368744177664 := by omega
  have b2 : Z2.length ≤ 70368744177664 := by omega
  have b1 : Z1.length ≤ 70368744177664 := by omega
  have u1 := congrArg List.length hU1
  have u2 := congrArg List.length hU2
  simp only [List.length_append, List.length_cons, List.length_nil] at u1 u2
  have q1 := add_fits (x := [42, 42, 42, 32]) (y := T1) (by unfold Fits; simp only [List.length_cons, List.length_nil]; omega) Tryz.prog
  have q2 := add_fits (x := U1) (y := [32, 42, 42, 42, 42]) (by unfold Fits; simp only [List.length_cons, List.length_nil]; omega) Tryz.prog
  have q3 := add_fits (x := [45, 45, 45, 32]) (y := T2) (by unfold Fits; simp only [List.length_cons, List.length_nil]; omega) Tryz.prog
  have q4 := add_fits (x := U2) (y := [32, 45, 45, 45, 45]) (by unfold Fits; simp only [List.length_cons, List.length_nil]; omega) Tryz.prog
  rw [hU1] at q1
  rw [hU2] at q3
  rw [hV1] at q2
  rw [hV2] at q4
  have HRl : Hid (ls.length = R.length) := (by show _ = _; rw [← hR, hSl])
  rw [hR] at HSg
  have HR : Hid (shwL false false ls = R) := hR
  have HT1 : Hid (spanT A AN = T1) := hT1
  have HT2 : Hid (spanT Bn BN = T2) := hT2
  have HX1 : Hid (Z2 ++ (if hasM 45 ls = true then sidZ 45 ls R else []).flatten = Z3) := (by show _ = _; rw [hX1]; exact hZ3)
  have HX2 : Hid (Z4 ++ (if hasM 43 ls = true then sidZ 43 ls R else []).flatten = Z) := (by show _ = _; rw [hX2]; exact HE.out)
  have HZ1 : Hid (acc ++ starsT ++ [10] = Z1) := hZ1
  have HZ2 : Hid (Z1 ++ V1 ++ [10] = Z2) := hZ2
  have HZ4 : Hid (Z3 ++ V2 ++ [10] = Z4) := hZ4
  have hBm : Below w.heap.size w (w.alloc (.cells #[.int .i64 A, .int .i64 AN, .int .i64 Bn, .int .i64 BN, .slice lo ls.length lc] 59)) := (Below.refl _ w).alloc (Nat.le_refl _) _
  have hMx : Hx (w.alloc (.cells #[.int .i64 A, .int .i64 AN, .int .i64 Bn, .int .i64 BN, .slice lo ls.length lc] 59)) w.heap.size ⟨A, AN, Bn, BN, ls⟩ (.slice lo ls.length lc) := heap_alloc_new w _
  have hOff : Off w.heap.size b v := ⟨by have := Bld.lt hP; omega, fun e => by have := (hP.2.2.1.lt _ e).2; omega⟩
  have hvl : Hid (∀ g, v.ownBlock = some g → g < w.heap.size) := fun g e => (hP.2.2.1.lt _ e).2
  have hbl := Bld.lt hP
  have hsm : Hid (w.heap.size < (w.alloc (.cells #[.int .i64 A, .int .i64 AN, .int .i64 Bn, .int .i64 BN, .slice lo ls.length lc] 59)).heap.size) := (by show _ < _; simp)
  have hPm := hP.low hBm
  have hWm : Wr B b v v w (w.alloc (.cells #[.int .i64 A, .int .i64 AN, .int .i64 Bn, .int .i64 BN, .slice lo ls.length lc] 59)) := Wr.low hBm hBw
  clear hE l1 l2 l3 l4 hX1 hX2 hZ1 hZ2 hZ3 hZ4 hT1 hT2 hR hV1 hV2 hU1 hU2 u1 u2 HS45 HS43 HZ HE hSl hr hP
  have e : hkV ⟨A, AN, Bn, BN, ls⟩ (.slice lo ls.length lc) = .agg #[.int .i64 A, .int .i64 AN, .int .i64 Bn, .int .i64 BN, .slice lo ls.length lc] := rfl
  rw [e]
  clear e
  go_enter Tryz.func67, Tryz.ntmps67
  go_wp2_with fail
  refine (cshown_f ls (.slice lo ls.length lc) _ (HL.out _ hWm.below) hll R HR).mono ?_
  generalize w.alloc (.cells #[.int .i64 A, .int .i64 AN, .int .i64 Bn, .int .i64 BN, .slice lo ls.length lc] 59) = Wm at hPm hWm hMx hsm hBm ⊢
  rintro e w1 ⟨sv, rfl, hown, hB1⟩
  have hW1 := hWm.trans (Wr.low hB1 (by have := hWm.size; omega))
  have hP1 := hPm.low hB1
  have hM1 := hMx.low hB1
  have hSK : ∀ (v' : Value) (u : World), Wr B b v v' w1 u → Holds u sv R.length (ucells R) := shown_keep hown (by have := hsm.out; omega) (fun g e => by have := hvl.out g e; have := hsm.out; omega)
  obtain ⟨so, sc, rfl⟩ := (holds_of hown).form
  clear hBm hPm hWm hMx hB1 hown hvl hbl hsm
  generalize w.heap.size = M at hM1 hOff
  obtain ⟨c0, c1, c2, c3, c4⟩ := hM1.cells
  have hz1 := hW1.size
  go_wp2_with fail
  refine (crow_f B b v acc starsT Z1 w1 hP1 (by omega) HZ1 b1).mono ?_
  rintro e w2 ⟨rfl, v2, hP2, hW2⟩
  obtain ⟨hM2, hO2⟩ := hM1.wr hW2 hOff
  have hW12 := hW1.trans hW2
  have hz2 := hW12.size
  clear c0 c1 c2 c3 c4
  obtain ⟨c0, c1, c2, c3, c4⟩ := hM2.cells
  go_wp2_with fail
  refine (crange_f A AN r1 (by omega) r3 (by omega) w2 (HT.out w2 hW12.below) T1 HT1).mono ?_
  rintro e w3 ⟨rfl, hB3⟩
  have hM3 := hM2.low hB3
  have hP3 := hP2.low hB3
  have hW13 := hW12.trans (Wr.low hB3 (by omega))
  have hW23 : Wr B b v2 v2 w2 w3 := Wr.low hB3 (by omega)
  have hz3 := hW13.size
  clear c0 c1 c2 c3 c4
  go_wp2_with fail
  refine (crow_f B b v2 Z1 V1 Z2 w3 hP3 (by omega) HZ2 b2).mono ?_
  rintro e w4 ⟨rfl, v4, hP4, hW4⟩
  obtain ⟨hM4, hO4⟩ := hM3.wr hW4 hO2
  have hW14 := hW13.trans hW4
  have hWs4 := (hW2.trans hW23).trans hW4
  have hz4 := hW14.size
  obtain ⟨c0, c1, c2, c3, c4⟩ := hM4.cells
  go_wp2_with fail
  refine (cside_f B b v4 45 ls R (.slice lo ls.length lc) (.slice so R.length sc) Z2 Z3 w4 hP4 (by omega) hll HRl HSg HTx (HL.out _ hW14.below) (fun v' u hu => HL.out u (hW14.trans hu).below) (fun v' u hu => hSK v' u (hWs4.trans hu)) HX1 b3).mono ?_
  rintro e w5 ⟨rfl, v5, hP5, hW5⟩
  obtain ⟨hM5, hO5⟩ := hM4.wr hW5 hO4
  have hW15 := hW14.trans hW5
  have hWs5 := hWs4.trans hW5
  have hz5 := hW15.size
  clear c0 c1 c2 c3 c4
  obtain ⟨c0, c1, c2, c3, c4⟩ := hM5.cells
  go_wp2_with fail
  refine (crange_f Bn BN r4 (by omega) r6 (by omega) w5 (HT.out w5 hW15.below) T2 HT2).mono ?_
  rintro e w6 ⟨rfl, hB6⟩
  have hM6 := hM5.low hB6
  have hP6 := hP5.low hB6
  have hW56 : Wr B b v5 v5 w5 w6 := Wr.low hB6 (by omega)
  have hW16 := hW15.trans hW56
  have hz6 := hW16.size
  clear c0 c1 c2 c3 c4
  go_wp2_with fail
  refine (crow_f B b v5 Z3 V2 Z4 w6 hP6 (by omega) HZ4 b4).mono ?_
  rintro e w7 ⟨rfl, v7, hP7, hW7⟩
  obtain ⟨hM7, hO7⟩ := hM6.wr hW7 hO5
  have hW17 := hW16.trans hW7
  have hWs7 := (hWs5.trans hW56).trans hW7
  have hz7 := hW17.size
  obtain ⟨c0, c1, c2, c3, c4⟩ := hM7.cells
  go_wp2_with fail
  refine (cside_f B b v7 43 ls R (.slice lo ls.length lc) (.slice so R.length sc) Z4 Z w7 hP7 (by omega) hll HRl HSg HTx (HL.out _ hW17.below) (fun v' u hu => HL.out u (hW17.trans hu).below) (fun v' u hu => hSK v' u (hWs7.trans hu)) HX2 hZ).mono ?_
  rintro e w8 ⟨rfl, v8, hP8, hW8⟩
  go_wp2
  first
    | go_end0
    | refine bodyPost_ret (results_none rfl _ _ _) rfl ?_
    | refine bodyPost_end (results_none rfl _ _ _) rfl ?_
  exact ⟨rfl, v8, hP8, hW17.trans hW8⟩
end Go.Proofs.YtgiojkhmkeocfaaGreatDoor

/- The code's check and Print of layer 15, walked. -/
set_option maxRecDepth 20000
namespace Go.Proofs.YtgiojkhmkeocfaaGreatDoor
open Go.RowKit Go.Proofs.YtgiojkhmkeocfaaGreatDoor.Tx

/-- a patch as a value, as a variable -/
def ptV (p : Pth) (v : Value) : Value := .agg #[.string ⟨p.old.toArray⟩, .string ⟨p.new.toArray⟩, v]
def ptO (p : Pth) (v : Value) : Obj := .cells #[.string ⟨p.old.toArray⟩, .string ⟨p.new.toArray⟩, v] 55
def Px (u : World) (b : Nat) (p : Pth) (v : Value) : Prop := u.heap[b]? = some (ptO p v)
theorem Px.cells {u : World} {b : Nat} {p : Pth} {v : Value} (q : Px u b p v) : u.cell? ⟨b, 0, none⟩ = some (.string ⟨p.old.toArray⟩) ∧ u.cell? ⟨b, 1, none⟩ = some (.string ⟨p.new.toArray⟩) ∧ u.cell? ⟨b, 2, none⟩ = some v := by
  unfold Px ptO at q
  refine ⟨?_, ?_, ?_⟩ <;> rw [Lib.cell_of_heap q] <;> rfl
theorem Px.lt {u : World} {b : Nat} {p : Pth} {v : Value} (q : Px u b p v) : b < u.heap.size := (Array.getElem?_eq_some_iff.1 q).1
theorem Px.low {u u' : World} {b : Nat} {p : Pth} {v : Value} (q : Px u b p v) (hg : Below u.heap.size u u') : Px u' b p v := (hg.block b q.lt).trans q
theorem Px.wr {B b : Nat} {v v' : Value} {w w' : World} {M : Nat} {p : Pth} {y : Value} (q : Px w M p y) (hw : Wr B b v v' w w') (ho : Off M b v) : Px w' M p y ∧ Off M b v' := hw.block q ho
set_option maxHeartbeats 8000000 in
set_option maxRecDepth 10000 in
theorem ccheckP_f (p : Pth) (q : List (Hk × Value)) (HQ : Hid (q.map (·.1) = p.hs)) (v : Value) (w : World) (hv : HHp w v q) (hok : HOk q) (ho : p.old.length ≤ 1099511627776) (hn : p.new.length ≤ 1099511627776) (r : Int) (HR : Hid (wrgP p = r)) :
    Calls Tryz.prog 64 #[ptV p v] w fun e w' => e = .returned (.int .i64 r) ∧ Below w.heap.size w w' := by
  obtain ⟨lo, lc, rfl⟩ := Holds.form hv.row
  obtain ⟨old, new, hs⟩ := p
  dsimp only at HQ ho hn
  have hql : hs.length = q.length := (by rw [← HQ.out, List.length_map])
  have HRR := HR.out
  unfold wrgP at HRR
  dsimp only at HRR
  have hBm : Below w.heap.size w (w.alloc (.cells #[.string ⟨old.toArray⟩, .string ⟨new.toArray⟩, .slice lo q.length lc] 55)) := (Below.refl _ w).alloc (Nat.le_refl _) _
  have e : ptV ⟨old, new, hs⟩ (.slice lo q.length lc) = .agg #[.string ⟨old.toArray⟩, .string ⟨new.toArray⟩, .slice lo q.length lc] := rfl
  rw [e]
  clear e HR
  by_cases h1 : 64 < old.length ∨ 64 < new.length
  · rw [if_pos h1] at HRR
    have HE : Hid (253 = r) := HRR
    clear HRR hql
    by_cases h2 : 64 < old.length
    · have i1 : (64 : Int) < (old.length : Int) := by omega
      go_enter Tryz.func64, Tryz.ntmps64
      go_wp2
      go_ret
      exact ⟨by rw [← HE.out]; rfl, hBm⟩
    · have i1 : ¬ (64 : Int) < (old.length : Int) := by omega
      have i2 : (64 : Int) < (new.length : Int) := by omega
      go_enter Tryz.func64, Tryz.ntmps64
      go_wp2
      go_ret
      exact ⟨by rw [← HE.out]; rfl, hBm⟩
  · rw [if_neg h1] at HRR
    have i1 : ¬ (64 : Int) < (old.length : Int) := by omega
    have i2 : ¬ (64 : Int) < (new.length : Int) := by omega
    by_cases h2 : 4096 < hs.length
    · rw [if_pos h2] at HRR
      have HE : Hid (9 = r) := HRR
      have i3 : (4096 : Int) < (q.length : Int) := by omega
      clear HRR hql
      go_enter Tryz.func64, Tryz.ntmps64
      go_wp2
      go_ret
      exact ⟨by rw [← HE.out]; rfl, hBm⟩
    · rw [if_neg h2] at HRR
      have HE : Hid (errs ((q.map (·.1)).drop 0) = r) := (by show _ = _; rw [HQ.out, List.drop_zero]; exact HRR)
      have i3 : ¬ (4096 : Int) < (q.length : Int) := by omega
      have hq4 : q.length ≤ 4096 := by omega
      clear HRR hql h1 h2
      go_enter Tryz.func64, Tryz.ntmps64
      go_wp2
      go_loopw [23] (fun i wr => ∃ k : Nat, k ≤ q.length ∧ i = .int .i64 k ∧ Below w.heap.size w wr ∧ Hid (errs ((q.map (·.1)).drop k) = r)) (fun i _ => q.length - (intOf i).toNat)
      case atStart => exact ⟨0, Nat.zero_le _, by go_num, hBm, HE⟩
      case round =>
      clear HE hBm
      obtain ⟨k, hk, rfl, hB, HI⟩ := hrel
      by_cases hlt : k < q.length
      · obtain ⟨bk, off, rfl, hbk, _⟩ := hv.at (by omega)
        obtain ⟨h, y, hx⟩ : ∃ h y, q[k] = (h, y) := ⟨_, _, rfl⟩
        obtain ⟨⟨c0, c1, c2, c3, c4⟩, hm⟩ := HHp.take hv hB k hlt hx
        obtain ⟨o1, o2⟩ := hok.2 q[k] (List.getElem_mem hlt)
        rw [hx] at o1 o2
        dsimp only at o1 o2
        have HI2 := HI.out
        rw [errs_drop (by rw [List.length_map]; exact hlt), List.getElem_map, hx] at HI2
        dsimp only at HI2
        have i4 : (0 : Int) ≤ (k : Int) := by omega
        have i5 : (k : Int) < (q.length : Int) := by omega
        obtain ⟨z, hz⟩ : ∃ z, chkH h = z := ⟨_, rfl⟩
        rw [hz] at HI2
        have hBm := hB.alloc hB.size (.cells #[.int .i64 h.A, .int .i64 h.AN, .int .i64 h.B, .int .i64 h.BN, y] 59)
        have hmm := hm.keep ((Below.refl _ wr).alloc (Nat.le_refl _) (.cells #[.int .i64 h.A, .int .i64 h.AN, .int .i64 h.B, .int .i64 h.BN, y] 59)) (Nat.le_refl _)
        have hc := hCheck_f h y _ hmm o1 o2 z hz
        obtain ⟨yo, yc, rfl⟩ := HMk.form hm
        have e : hkV h (.slice yo h.ls.length yc) = .agg #[.int .i64 h.A, .int .i64 h.AN, .int .i64 h.B, .int .i64 h.BN, .slice yo h.ls.length yc] := rfl
        rw [e] at hc
        clear e hz HI hx hm hmm
        by_cases hz0 : z = 0
        · subst hz0
          rw [if_neg (by decide)] at HI2
          have HI3 : Hid (errs ((q.map (·.1)).drop (k + 1)) = r) := HI2
          clear HI2
          go_wp2_with fail
          refine hc.mono ?_
          rintro e w1 ⟨rfl, hB1⟩
          go_wp2
          exact ⟨⟨k + 1, by omega, by go_num, hBm.trans (hB1.mono hBm.size), HI3⟩, by simp [intOf]; omega⟩
        · rw [if_pos hz0] at HI2
          have HI3 : Hid (z = r) := HI2
          have e1 : (z != 0) = true := bne_iff_ne.2 hz0
          clear HI2 hz0
          go_wp2_with fail
          refine hc.mono ?_
          rintro e w1 ⟨rfl, hB1⟩
          go_wp2
          go_ret
          exact ⟨by rw [← HI3.out]; rfl, hBm.trans (hB1.mono hBm.size)⟩
      · have hend : decide ((k : Int) < (q.length : Int)) = false := decide_eq_false (by omega)
        have HE : Hid (0 = r) := (by
          have h := HI.out
          rw [List.drop_of_length_le (by rw [List.length_map]; omega)] at h
          exact h)
        clear HI
        go_wp2
        go_ret
        exact ⟨by rw [← HE.out]; rfl, hB⟩
set_option maxHeartbeats 8000000 in
set_option maxRecDepth 100000 in
theorem cPrint_f (p : Pth) (q : List (Hk × Value)) (HQ : Hid (q.map (·.1) = p.hs)) (v : Value) (w : World) (hv : HHp w v q) (hok : HOk q) (ho : p.old.length ≤ 1099511627776) (hn : p.new.length ≤ 1099511627776) (HT : Hid (Tab10 w)) (Z : List UInt8) (r : Int) (HR : Hid (wrgP p = r)) (HZ : Hid (ptT p = Z)) (hZ : Z.length ≤ 70368744177664) :
    Calls Tryz.prog 25 #[ptV p v] w fun e w' => e = .returned (.tuple #[.string ⟨Z.toArray⟩, .int .i64 r]) ∧ Below w.heap.size w w' := by
  obtain ⟨lo, lc, rfl⟩ := Holds.form hv.row
  have HO := fun h => (wrg_out (p := p) h)
  obtain ⟨old, new, hs⟩ := p
  dsimp only at HQ ho hn
  have hql : hs.length = q.length := (by rw [← HQ.out, List.length_map])
  have hZZ := HZ.out
  unfold ptT at hZZ
  rw [HR.out] at hZZ
  have hBm : Below w.heap.size w (w.alloc (.cells #[.string ⟨old.toArray⟩, .string ⟨new.toArray⟩, .slice lo q.length lc] 55)) := (Below.refl _ w).alloc (Nat.le_refl _) _
  have hMx : Px (w.alloc (.cells #[.string ⟨old.toArray⟩, .string ⟨new.toArray⟩, .slice lo q.length lc] 55)) w.heap.size ⟨old, new, hs⟩ (.slice lo q.length lc) := heap_alloc_new w _
  have hvm := hv.keep hBm (Nat.le_refl _)
  have hc := ccheckP_f ⟨old, new, hs⟩ q HQ (.slice lo q.length lc) _ hvm hok ho hn r HR
  have e : ptV ⟨old, new, hs⟩ (.slice lo q.length lc) = .agg #[.string ⟨old.toArray⟩, .string ⟨new.toArray⟩, .slice lo q.length lc] := rfl
  rw [e] at hc ⊢
  obtain ⟨d0, d1, d2⟩ := hMx.cells
  clear e hvm
  by_cases hr0 : r = 0
  · subst hr0
    rw [if_pos rfl] at hZZ
    obtain ⟨o1, o2, o3, o4⟩ := HO HR.out
    dsimp only at o1 o2 o3 o4
    have HCh : Hid (∀ x ∈ hs, chkH x = 0) := o4
    clear o4 HO
    by_cases hq0 : q.length = 0
    · have HE : Hid ([] = Z) := (by
        show _ = _
        rw [← hZZ]
        have : hs = [] := List.eq_nil_of_length_eq_zero (by omega)
        rw [this]
        rfl)
      have i1 : ((q.length : Int) == 0) = true := (by rw [hq0]; rfl)
      clear hZZ HZ hq0 hql
      go_enter Tryz.func25, Tryz.ntmps25
      go_wp2_with fail
      refine hc.mono ?_
      rintro e w1 ⟨rfl, hB1⟩
      have hM1 := hMx.low hB1
      clear d0 d1 d2
      obtain ⟨d0, d1, d2⟩ := hM1.cells
      go_wp2
      go_ret2
      exact ⟨by rw [← HE.out]; rfl, hBm.trans (hB1.mono hBm.size)⟩
    · have hne : hs ≠ [] := (by intro e; rw [e] at hql; simp at hql; omega)
      rw [pt_lines (p := ⟨old, new, hs⟩) hne] at hZZ
      dsimp only at hZZ
      obtain ⟨N1, hN1⟩ : ∃ Y, nameT old = Y := ⟨_, rfl⟩
      obtain ⟨N2, hN2⟩ : ∃ Y, nameT new = Y := ⟨_, rfl⟩
      obtain ⟨U1, hU1⟩ : ∃ Y, [42, 42, 42, 32] ++ N1 = Y := ⟨_, rfl⟩
      obtain ⟨U2, hU2⟩ : ∃ Y, [45, 45, 45, 32] ++ N2 = Y := ⟨_, rfl⟩
      obtain ⟨Z1, hZ1⟩ : ∃ Y, [] ++ U1 ++ [10] = Y := ⟨_, rfl⟩
      obtain ⟨Z2, hZ2⟩ : ∃ Y, Z1 ++ U2 ++ [10] = Y := ⟨_, rfl⟩
      have HE : Hid (Z2 ++ (((q.map (·.1)).drop 0).flatMap hkL).flatten = Z) := (by
        show _ = _
        rw [← hZZ, ← hZ2, ← hZ1, ← hU1, ← hU2, hN1, hN2, HQ.out, List.drop_zero]
        simp)
      have hE := congrArg List.length HE.out
      have l2 := congrArg List.length hZ2
      have l1 := congrArg List.length hZ1
      simp only [List.length_append] at hE l2 l1
      have b2 : Z2.length ≤ 70368744177664 := by omega
      have b1 : Z1.length ≤ 70368744177664 := by omega
      have n1 := name_len old
      have n2 := name_len new
      rw [hN1] at n1
      rw [hN2] at n2
      have q1 := add_fits (x := [42, 42, 42, 32]) (y := N1) (by unfold Fits; simp only [List.length_cons, List.length_nil]; omega) Tryz.prog
      have q2 := add_fits (x := [45, 45, 45, 32]) (y := N2) (by unfold Fits; simp only [List.length_cons, List.length_nil]; omega) Tryz.prog
      rw [hU1] at q1
      rw [hU2] at q2
      have HN1 : Hid (nameT old = N1) := hN1
      have HN2 : Hid (nameT new = N2) := hN2
      have HZ1 : Hid ([] ++ U1 ++ [10] = Z1) := hZ1
      have HZ2 : Hid (Z1 ++ U2 ++ [10] = Z2) := hZ2
      have HZne : Hid (Z ≠ []) := (by
        intro e
        have h := congrArg List.length e
        have h2 := congrArg List.length hU1
        simp only [List.length_append, List.length_cons, List.length_nil] at h h2
        omega)
      have i1 : ((q.length : Int) == 0) = false := beq_eq_false_iff_ne.2 (by omega)
      have hq4 : q.length ≤ 4096 := by omega
      clear hZZ HZ hq0 hql hE l1 l2 n1 n2 hN1 hN2 hU1 hU2 hZ1 hZ2 hne o3
      go_enter Tryz.func25, Tryz.ntmps25
      go_wp2_with fail
      refine hc.mono ?_
      rintro e w1 ⟨rfl, hB1⟩
      have hM1 := hMx.low hB1
      have hBw1 := hBm.trans (hB1.mono hBm.size)
      clear d0 d1 d2 hBm hMx hB1 hc
      have hM2 := hM1.low ((Below.refl _ w1).alloc (Nat.le_refl _) (.cells #[.pointer none, .slice none 0 0] 121))
      have hBw2 := hBw1.alloc hBw1.size (.cells #[.pointer none, .slice none 0 0] 121)
      have hP2 : Pg w.heap.size w1.heap.size (.slice none 0 0) [] (w1.alloc (.cells #[.pointer none, .slice none 0 0] 121)) := ⟨hBw1.size, ⟨_, .inl rfl, heap_alloc_new w1 _⟩, World.ownsRowF_nil _ _ _ _, by simp [Value.ownBlock]⟩
      have hO2 : Off w.heap.size w1.heap.size (.slice none 0 0) := ⟨by have := hM1.lt; omega, by simp [Value.ownBlock]⟩
      obtain ⟨f0, f1, f2⟩ := hM1.cells
      obtain ⟨d0, d1, d2⟩ := hM2.cells
      go_wp2_with fail
      refine (cname_f old _ ho N1 HN1).mono ?_
      generalize w1.alloc (.cells #[.pointer none, .slice none 0 0] 121) = W2 at hM2 hBw2 hP2 d0 d1 d2 ⊢
      generalize w1.heap.size = b at hP2 hO2 ⊢
      rintro e w3 ⟨rfl, hB3⟩
      have hM3 := hM2.low hB3
      have hP3 := hP2.low hB3
      have hBw3 := hBw2.trans (hB3.mono hBw2.size)
      clear d0 d1 d2 f0 f1 f2 hM2 hP2 hBw2 hB3 hM1 hBw1
      go_wp2_with fail
      refine (crow_f w.heap.size b (.slice none 0 0) [] U1 Z1 w3 hP3 hBw3.size HZ1 b1).mono ?_
      rintro e w4 ⟨rfl, v4, hP4, hW4⟩
      obtain ⟨hM4, hO4⟩ := hM3.wr hW4 hO2
      have hBw4 := hBw3.trans hW4.below
      obtain ⟨d0, d1, d2⟩ := hM4.cells
      clear hM3 hP3 hBw3 hO2 hW4
      go_wp2_with fail
      refine (cname_f new _ hn N2 HN2).mono ?_
      rintro e w5 ⟨rfl, hB5⟩
      have hM5 := hM4.low hB5
      have hP5 := hP4.low hB5
      have hBw5 := hBw4.trans (hB5.mono hBw4.size)
      clear d0 d1 d2 hM4 hP4 hBw4 hB5
      go_wp2_with fail
      refine (crow_f w.heap.size b v4 Z1 U2 Z2 w5 hP5 hBw5.size HZ2 b2).mono ?_
      rintro e w6 ⟨rfl, v6, hP6, hW6⟩
      obtain ⟨hM6, hO6⟩ := hM5.wr hW6 hO4
      have hBw6 := hBw5.trans hW6.below
      obtain ⟨d0, d1, d2⟩ := hM6.cells
      clear hM5 hP5 hBw5 hO4 hW6 q1 q2 HZ1 HZ2 HN1 HN2
      go_wp2
      go_loopw [30] (fun i wr => ∃ (k : Nat) (v1 : Value) (ac : List UInt8), k ≤ q.length ∧ i = .int .i64 k ∧ Pg w.heap.size b v1 ac wr ∧ Below w.heap.size w wr ∧ Hid (ac ++ (((q.map (·.1)).drop k).flatMap hkL).flatten = Z)) (fun i _ => q.length - (intOf i).toNat)
      case atStart => exact ⟨0, v6, Z2, Nat.zero_le _, by go_num, hP6, hBw6, HE⟩
      case round =>
      clear HE hP6 hBw6 hM6 hO6 d0 d1 d2
      obtain ⟨k, v1, ac, hk, rfl, hP, hB, HI⟩ := hrel
      by_cases hlt : k < q.length
      · obtain ⟨bk, off, rfl, hbk, _⟩ := hv.at (by omega)
        obtain ⟨h, y, hx⟩ : ∃ h y, q[k] = (h, y) := ⟨_, _, rfl⟩
        obtain ⟨⟨c0, c1, c2, c3, c4⟩, hm⟩ := HHp.take hv hB k hlt hx
        obtain ⟨x1, x2⟩ := hok.2 q[k] (List.getElem_mem hlt)
        have hins := hv.ins q[k] (List.getElem_mem hlt)
        have hch := HCh.out q[k].1 (by rw [← HQ.out]; exact List.mem_map_of_mem (List.getElem_mem hlt))
        rw [hx] at x1 x2 hins hch
        dsimp only at x1 x2 hins hch
        have HI2 := HI.out
        rw [List.drop_eq_getElem_cons (show k < (q.map (·.1)).length by rw [List.length_map]; exact hlt), List.getElem_map, hx, List.flatMap_cons, List.flatten_append, ← List.append_assoc] at HI2
        dsimp only at HI2
        obtain ⟨A2, hA2⟩ : ∃ Y, ac ++ (hkL h).flatten = Y := ⟨_, rfl⟩
        rw [hA2] at HI2
        have HI3 : Hid (A2 ++ (((q.map (·.1)).drop (k + 1)).flatMap hkL).flatten = Z) := HI2
        have hAl : A2.length ≤ 70368744177664 := (by have := congrArg List.length HI2; rw [List.length_append] at this; omega)
        have i4 : (0 : Int) ≤ (k : Int) := by omega
        have i5 : (k : Int) < (q.length : Int) := by omega
        have hBn : Below wr.heap.size wr (wr.alloc (.cells #[.int .i64 h.A, .int .i64 h.AN, .int .i64 h.B, .int .i64 h.BN, y] 59)) := (Below.refl _ wr).alloc (Nat.le_refl _) _
        have hBm := hB.trans (hBn.mono hB.size)
        have hPm := hP.low hBn
        have hc := chunk_f w.heap.size b v1 h y ac A2 _ hPm hBm.size x1 x2 hch (fun u hu => hins.keep (hBm.trans hu) (Nat.le_refl _)) (fun u hu => HT.out.on (hBm.trans hu)) hA2 hAl
        obtain ⟨yo, yc, rfl⟩ := HMk.form hm
        have e : hkV h (.slice yo h.ls.length yc) = .agg #[.int .i64 h.A, .int .i64 h.AN, .int .i64 h.B, .int .i64 h.BN, .slice yo h.ls.length yc] := rfl
        rw [e] at hc
        clear e HI HI2 hx hm hins hch hA2
        go_wp2_with fail
        refine hc.mono ?_
        rintro e w7 ⟨rfl, v7, hP7, hW7⟩
        go_wp2
        exact ⟨⟨k + 1, v7, A2, by omega, by go_num, hP7, hBm.trans hW7.below, HI3⟩, by simp [intOf]; omega⟩
      · have hend : decide ((k : Int) < (q.length : Int)) = false := decide_eq_false (by omega)
        have hE : ac = Z := (by
          have h := HI.out
          rw [List.drop_of_length_le (by rw [List.length_map]; omega)] at h
          simpa using h)
        subst hE
        clear HI
        go_wp2_with fail
        refine (cString_f w.heap.size b v1 ac HZne.out wr hP).mono ?_
        rintro e w7 ⟨rfl, hB7⟩
        go_wp2
        go_ret2
        exact ⟨rfl, hB.trans hB7⟩
  · rw [if_neg hr0] at hZZ
    have HE : Hid ([] = Z) := hZZ
    have e1 : (r != 0) = true := bne_iff_ne.2 hr0
    clear hZZ HZ HO hr0
    go_enter Tryz.func25, Tryz.ntmps25
    go_wp2_with fail
    refine hc.mono ?_
    rintro e w1 ⟨rfl, hB1⟩
    go_wp2
    go_ret2
    exact ⟨by rw [← HE.out]; rfl, hBm.trans (hB1.mono hBm.size)⟩
end Go.Proofs.YtgiojkhmkeocfaaGreatDoor

/- The reference's Same of patches of layer 15, walked. -/
set_option maxRecDepth 20000
namespace Go.Proofs.YtgiojkhmkeocfaaGreatDoor
open Go.RowKit

theorem pth_ext {a b c d : List UInt8} {x y : List Hk} : (⟨a, b, x⟩ : Pth) = ⟨c, d, y⟩ ↔ a = c ∧ b = d ∧ x = y := by
  constructor
  · intro h
    injection h with h1 h2 h3
    exact ⟨h1, h2, h3⟩
  · rintro ⟨rfl, rfl, rfl⟩
    rfl
set_option maxHeartbeats 4000000 in
set_option maxRecDepth 10000 in
theorem rSamePt_f (p1 p2 : Pth) (q1 q2 : List (Hk × Value)) (H1 : Hid (q1.map (·.1) = p1.hs)) (H2 : Hid (q2.map (·.1) = p2.hs)) (v1 v2 : Value) (w : World) (hv1 : HHp w v1 q1) (hv2 : HHp w v2 q2) (hok : HOw q1) (r : Bool) (HR : Hid (r = true ↔ p1 = p2)) :
    Calls Tryz.prog 58 #[ptV p1 v1, ptV p2 v2] w fun e w' => e = .returned (.bool r) ∧ Below w.heap.size w w' := by
  obtain ⟨o1, n1, s1⟩ := p1
  obtain ⟨o2, n2, s2⟩ := p2
  dsimp only at H1 H2
  obtain ⟨lo1, lc1, rfl⟩ := Holds.form hv1.row
  obtain ⟨lo2, lc2, rfl⟩ := Holds.form hv2.row
  rw [pth_ext] at HR
  have hBa : Below w.heap.size w (w.alloc (.cells #[.string ⟨o1.toArray⟩, .string ⟨n1.toArray⟩, .slice lo1 q1.length lc1] 55)) := (Below.refl _ w).alloc (Nat.le_refl _) _
  have hBb := hBa.alloc hBa.size (.cells #[.string ⟨o2.toArray⟩, .string ⟨n2.toArray⟩, .slice lo2 q2.length lc2] 55)
  have e1 : ptV ⟨o1, n1, s1⟩ (.slice lo1 q1.length lc1) = .agg #[.string ⟨o1.toArray⟩, .string ⟨n1.toArray⟩, .slice lo1 q1.length lc1] := rfl
  have e2 : ptV ⟨o2, n2, s2⟩ (.slice lo2 q2.length lc2) = .agg #[.string ⟨o2.toArray⟩, .string ⟨n2.toArray⟩, .slice lo2 q2.length lc2] := rfl
  rw [e1, e2]
  clear e1 e2
  by_cases h1 : o1 = o2
  · subst h1
    by_cases h2 : n1 = n2
    · subst h2
      have HRR : Hid (r = true ↔ q1.map (·.1) = q2.map (·.1)) := (by
        show (_ ↔ _)
        rw [H1.out, H2.out]
        have h := HR.out
        simpa using h)
      have hc := rSameHunksG_f q1 q2 _ _ _ (hv1.keep hBb (Nat.le_refl _)) (hv2.keep hBb (Nat.le_refl _)) hok r HRR
      clear HR HRR
      go_enter Tryz.func58, Tryz.ntmps58
      go_wp2_with fail
      refine hc.mono ?_
      rintro e w1 ⟨rfl, hB1⟩
      go_wp2
      go_ret
      exact ⟨rfl, hBb.trans (hB1.mono hBb.size)⟩
    · have HE : Hid (false = r) := (by
        cases r with
        | false => rfl
        | true => exact absurd (HR.out.1 rfl).2.1 h2)
      have j1 : (n1 == n2) = false := beq_eq_false_iff_ne.2 h2
      clear HR h2
      go_enter Tryz.func58, Tryz.ntmps58
      go_wp2
      go_ret
      exact ⟨by rw [← HE.out]; rfl, hBb⟩
  · have HE : Hid (false = r) := (by
      cases r with
      | false => rfl
      | true => exact absurd (HR.out.1 rfl).1 h1)
    have j1 : (o1 == o2) = false := beq_eq_false_iff_ne.2 h1
    clear HR h1
    go_enter Tryz.func58, Tryz.ntmps58
    go_wp2
    go_ret
    exact ⟨by rw [← HE.out]; rfl, hBb⟩
end Go.Proofs.YtgiojkhmkeocfaaGreatDoor

/- Rows of patches; the reference's SameAll of layer 15, walked for rows that are the same. -/
set_option maxRecDepth 20000
namespace Go.Proofs.YtgiojkhmkeocfaaGreatDoor
open Go.RowKit

/-- a row of patches -/
structure HPp (w : World) (v : Value) (F : List Pfd) : Prop where
  row : Holds w v F.length (pxcells F)
  ins : ∀ f ∈ F, f.hs.map (·.1) = f.x.hs ∧ HHp w f.v f.hs
theorem Pw.holds {w u : World} {v : Value} {F : List Pfd} (h : Pw w v F u) : HPp u v F := ⟨holds_of h.own, fun f hf => ⟨(h.ins f hf).eq.symm, holds_of (h.ins f hf).own, fun y hy => holds_of ((h.ins f hf).ins y hy)⟩⟩
theorem HPp.keep {w u : World} {v : Value} {F : List Pfd} (h : HPp w v F) (hb : Below w.heap.size w u) : HPp u v F := ⟨Holds.keep h.row fun k hk => hb.block k hk, fun f hf => ⟨(h.ins f hf).1, (h.ins f hf).2.keep hb (Nat.le_refl _)⟩⟩
theorem pxcells_length (F : List Pfd) : (pxcells F).length = F.length * 3 := by
  induction F with
  | nil => rfl
  | cons f F ih =>
    simp only [pxcells, List.flatMap_cons, List.length_append, List.length_cons] at ih ⊢
    rw [ih]
    simp [pxC]
    omega
theorem pxcells_at (F : List Pfd) : ∀ (k : Nat) (hk : k < F.length), (pxcells F)[k * 3]? = some (.string ⟨F[k].x.old.toArray⟩) ∧ (pxcells F)[k * 3 + 1]? = some (.string ⟨F[k].x.new.toArray⟩) ∧ (pxcells F)[k * 3 + 2]? = some F[k].v := by
  induction F with
  | nil => intro k hk; cases hk
  | cons f F ih =>
    intro k hk
    have e : pxcells (f :: F) = pxC f ++ pxcells F := by simp [pxcells]
    rw [e]
    cases k with
    | zero => exact ⟨rfl, rfl, rfl⟩
    | succ k =>
      obtain ⟨h1, h2, h3⟩ := ih k (by simpa using hk)
      have e0 : (k + 1) * 3 = 3 + k * 3 := by omega
      have l3 : (pxC f).length = 3 := rfl
      refine ⟨?_, ?_, ?_⟩
      · rw [e0, List.getElem?_append_right (by rw [l3]; omega), l3, show 3 + k * 3 - 3 = k * 3 by omega]; exact h1
      · rw [e0, List.getElem?_append_right (by rw [l3]; omega), l3, show 3 + k * 3 + 1 - 3 = k * 3 + 1 by omega]; exact h2
      · rw [e0, List.getElem?_append_right (by rw [l3]; omega), l3, show 3 + k * 3 + 2 - 3 = k * 3 + 2 by omega]; exact h3
theorem HPp.at {w : World} {ao : Option Addr} {n c : Nat} {F : List Pfd} (h : HPp w (.slice ao n c) F) (h0 : 0 < F.length) : ∃ b off, ao = some ⟨b, off, none⟩ ∧ b < w.heap.size ∧
    ∀ k (hk : k < F.length), w.cell? ⟨b, off + k * 3, none⟩ = some (.string ⟨F[k].x.old.toArray⟩) ∧ w.cell? ⟨b, off + k * 3 + 1, none⟩ = some (.string ⟨F[k].x.new.toArray⟩) ∧ w.cell? ⟨b, off + k * 3 + 2, none⟩ = some F[k].v := by
  obtain ⟨b, off, c', hv, hb, hc⟩ := Holds.at h.row (by rw [pxcells_length]; omega)
  cases hv
  refine ⟨b, off, rfl, hb, fun k hk => ?_⟩
  obtain ⟨h1, h2, h3⟩ := pxcells_at F k hk
  have hcc : ∀ j u, (pxcells F)[j]? = some u → w.cell? ⟨b, off + j, none⟩ = some u := fun j u hj => by
    obtain ⟨hj1, hj2⟩ := List.getElem?_eq_some_iff.1 hj
    rw [hc j hj1, hj2]
  exact ⟨hcc _ _ h1, by rw [Nat.add_assoc]; exact hcc _ _ h2, by rw [Nat.add_assoc]; exact hcc _ _ h3⟩
set_option maxHeartbeats 4000000 in
theorem rSameAll_t (F G : List Pfd) (va vb : Value) (w : World) (ha : HPp w va F) (hb : HPp w vb G) (HE : Hid (F.map (·.x) = G.map (·.x))) (HO : Hid (∀ f ∈ F, HOw f.hs)) (hl : F.length ≤ 1099511627776) :
    Calls Tryz.prog 22 #[va, vb] w fun e w' => e = .returned (.bool true) ∧ Below w.heap.size w w' := by
  obtain ⟨ao, ac, rfl⟩ := Holds.form ha.row
  obtain ⟨bo, bc, rfl⟩ := Holds.form hb.row
  have hlen : F.length = G.length := (by have := congrArg List.length HE.out; simpa using this)
  have hne : ((F.length : Int) != (G.length : Int)) = false := (by rw [hlen]; simp)
  go_enter Tryz.func22, Tryz.ntmps22
  go_wp2
  go_loopw [5] (fun i wr => ∃ k : Nat, k ≤ F.length ∧ i = .int .i64 k ∧ Below w.heap.size w wr) (fun i _ => F.length - (intOf i).toNat)
  case atStart => exact ⟨0, Nat.zero_le _, by go_num, Below.refl _ _⟩
  case round =>
  obtain ⟨k, hk, rfl, hB⟩ := hrel
  by_cases hlt : k < F.length
  · have hak := ha.keep hB
    have hbk := hb.keep hB
    obtain ⟨b1, o1, rfl, hb1, hc1⟩ := HPp.at hak (by omega)
    obtain ⟨b2, o2, rfl, hb2, hc2⟩ := HPp.at hbk (by omega)
    obtain ⟨x0, x1, x2⟩ := hc1 k hlt
    obtain ⟨y0, y1, y2⟩ := hc2 k (by omega)
    have i1 : (0 : Int) ≤ (k : Int) := by omega
    have i2 : (k : Int) < (F.length : Int) := by omega
    have i3 : (k : Int) < (G.length : Int) := by omega
    have i4 : (k : Int).toNat = k := by omega
    obtain ⟨f, hf⟩ : ∃ f, F[k] = f := ⟨_, rfl⟩
    obtain ⟨g, hg⟩ : ∃ g, G[k]'(by omega) = g := ⟨_, rfl⟩
    have hfm : f ∈ F := (by rw [← hf]; exact List.getElem_mem _)
    have hgm : g ∈ G := (by rw [← hg]; exact List.getElem_mem _)
    have hxe : f.x = g.x := (by
      have h1 : (F.map (·.x))[k]? = (G.map (·.x))[k]? := by rw [HE.out]
      rw [List.getElem?_map, List.getElem?_map, List.getElem?_eq_getElem hlt, List.getElem?_eq_getElem (by omega), hf, hg] at h1
      simpa using h1)
    rw [hf] at x0 x1 x2
    rw [hg] at y0 y1 y2
    have hcall := fun u (hu : Below w.heap.size w u) => rSamePt_f f.x g.x f.hs g.hs (ha.ins f hfm).1 (hb.ins g hgm).1 f.v g.v u ((ha.ins f hfm).2.keep hu (Nat.le_refl _)) ((hb.ins g hgm).2.keep hu (Nat.le_refl _)) (HO.out f hfm) true (show Hid (true = true ↔ f.x = g.x) from ⟨fun _ => hxe, fun _ => rfl⟩)
    obtain ⟨fo, fc, hfv⟩ := Holds.form ((ha.ins f hfm).2).row
    obtain ⟨go, gc, hgv⟩ := Holds.form ((hb.ins g hgm).2).row
    unfold ptV at hcall
    rw [hfv] at x2 hcall
    rw [hgv] at y2 hcall
    clear hc1 hc2 hak hbk hxe hf hg hfm hgm hfv hgv
    go_wp2_with fail
    go_region_with (go_at_call 58; refine (hcall _ hB.drew).mono ?_; rintro e w2 ⟨rfl, hB2⟩)
    all_goals (
      have hB3 := hB.drew.trans (hB2.mono hB.drew.size)
      first
      | exact ⟨⟨k + 1, by omega, by go_num, hB3⟩, by simp [intOf]; omega⟩
      | (go_wp2; exact ⟨⟨k + 1, by omega, by go_num, hB3⟩, by simp [intOf]; omega⟩))
  · have hend : decide ((k : Int) < (F.length : Int)) = false := decide_eq_false (by omega)
    go_wp2
    go_ret
    exact ⟨rfl, hB⟩
end Go.Proofs.YtgiojkhmkeocfaaGreatDoor

/- What works() of redlinelaw15 prints and reads; plain. -/
set_option maxRecDepth 20000
namespace Go.Proofs.YtgiojkhmkeocfaaGreatDoor
open Ln

def wkP : Pth := ⟨[97], [98], [⟨1, 3, 1, 3, [⟨32, [49, 10]⟩, ⟨45, [50, 10]⟩, ⟨43, [120, 10]⟩, ⟨32, [51, 10]⟩]⟩]⟩
def wkT : List UInt8 := [42, 42, 42, 32, 97, 10, 45, 45, 45, 32, 98, 10, 42, 42, 42, 42, 42, 42, 42, 42, 42, 42, 42, 42, 42, 42, 42, 10, 42, 42, 42, 32, 49, 44, 51, 32, 42, 42, 42, 42, 10, 32, 32, 49, 10, 33, 32, 50, 10, 32, 32, 51, 10, 45, 45, 45, 32, 49, 44, 51, 32, 45, 45, 45, 45, 10, 32, 32, 49, 10, 33, 32, 120, 10, 32, 32, 51, 10]
theorem wk_wrg : wrgP wkP = 0 := by decide
theorem wk_it1 : Lib.itoa 1 = [49] := by
  simp [Lib.itoa]
  rw [Lib.decDigits]
  simp
theorem wk_it3 : Lib.itoa 3 = [51] := by
  simp [Lib.itoa]
  rw [Lib.decDigits]
  simp
theorem wk_text : ptT wkP = wkT := by
  have h : spanT 1 3 = [49, 44, 51] := by
    unfold spanT
    rw [if_neg (by decide), show (1 + 3 - 1 : Int) = 3 by decide, wk_it1, wk_it3]
    rfl
  unfold ptT
  rw [if_pos wk_wrg]
  unfold ptL
  rw [if_neg (by decide)]
  have hn : ∀ c : UInt8, c = 97 ∨ c = 98 → nameT [c] = [c] := by
    rintro c (rfl | rfl) <;> decide
  have hk : ∀ h : Hk, hkL h = (starsT ++ [10]) :: rlT 42 h.A h.AN :: (sideL 45 h.ls ++ rlT 45 h.B h.BN :: sideL 43 h.ls) := fun _ => rfl
  have hr : ∀ e : UInt8, rlT e 1 3 = [e, e, e, 32] ++ [49, 44, 51] ++ [32, e, e, e, e, 10] := by
    intro e
    unfold rlT
    rw [h]
  show List.flatten (([42, 42, 42, 32] ++ nameT [97] ++ [10]) :: ([45, 45, 45, 32] ++ nameT [98] ++ [10]) :: (hkL ⟨1, 3, 1, 3, [⟨32, [49, 10]⟩, ⟨45, [50, 10]⟩, ⟨43, [120, 10]⟩, ⟨32, [51, 10]⟩]⟩ ++ [])) = wkT
  rw [hn 97 (.inl rfl), hn 98 (.inr rfl), hk]
  dsimp only
  rw [hr, hr]
  decide
/-- what works reads of it -/
theorem wk_read (hg : Gp wkP) : cxT wkT = .ok [wkP] := by
  have hl : [wkP].flatMap ptT = wkT := by
    show ptT wkP ++ [] = wkT
    rw [List.append_nil, wk_text]
  have h1 : ∀ q ∈ [wkP], Gp q := fun q hq => by rw [List.mem_singleton.1 hq]; exact hg
  rw [pts_text h1] at hl
  have := cx_back h1 (by simp) (by rw [hl]; decide)
  rw [hl] at this
  exact this
theorem wk_gp : Gp wkP := by
  refine ⟨by decide, by decide, by decide, by decide, ?_⟩
  intro h hh
  rw [List.mem_singleton.1 hh]
  exact ⟨by decide, by simp [Nf], by decide, by decide⟩
end Go.Proofs.YtgiojkhmkeocfaaGreatDoor

/- How large what is read of a text in the context form is; plain mathematics. -/
set_option maxRecDepth 20000
namespace Go.Proofs.YtgiojkhmkeocfaaGreatDoor
open Ln

/-- the bytes of lines, and one a line -/
def szL : List (List UInt8) → Nat
  | [] => 0
  | s :: r => s.length + 1 + szL r
theorem szl_tail (l : List (List UInt8)) : szL l.tail ≤ szL l := by
  cases l with
  | nil => exact Nat.le_refl _
  | cons s r => simp only [List.tail_cons, szL]; omega
theorem szl_len (l : List (List UInt8)) : szL l = l.flatten.length + l.length := by
  induction l with
  | nil => rfl
  | cons s r ih =>
    simp only [szL, List.flatten_cons, List.length_append, List.length_cons, ih]
    omega
def szS (x : Sde) : Nat := szL (x.map (·.2))
theorem szs_cons (y : UInt8 × List UInt8) (x : Sde) : szS (y :: x) = y.2.length + 1 + szS x := rfl
theorem szs_kept (x : Sde) : szS (keptS x) ≤ szS x := by
  induction x with
  | nil => exact Nat.le_refl _
  | cons y x ih =>
    unfold keptS at ih ⊢
    rw [List.filter_cons]
    split
    · rw [szs_cons, szs_cons]
      omega
    · rw [szs_cons]
      omega
theorem rd_sz {sg : UInt8} (ls : List (List UInt8)) : ∀ {p p1 : Nat} {r : List (List UInt8)} {x : Sde}, rdS sg p ls = .ok (x, p1, r) → szS x + szL r ≤ szL ls := by
  induction ls with
  | nil =>
    intro p p1 r x h
    simp only [rdS] at h
    cases h
    exact Nat.le_refl _
  | cons s ls ih =>
    intro p p1 r x h
    simp only [rdS] at h
    split at h
    · split at h
      · split at h
        · cases h
          have := szl_tail ls
          rw [szs_cons]
          simp only [szL, szS, List.map_nil, List.length_dropLast, List.length_drop]
          omega
        · split at h
          · cases h
          · rename_i hr
            have := ih hr
            cases h
            rw [szs_cons]
            simp only [szL, List.length_drop]
            omega
      · cases h
    · cases h
      show 0 + _ ≤ _
      omega
theorem nxt_sz {p : Nat} {ls r : List (List UInt8)} {s : List UInt8} (h : nxt p ls = .ok (s, r)) : szL r + 1 ≤ szL ls := by
  cases ls with
  | nil => cases h
  | cons t l =>
    simp only [nxt] at h
    split at h
    · cases h
      simp only [szL]
      omega
    · cases h
theorem rng_sz {e : UInt8} {p : Nat} {ls r : List (List UInt8)} {q : Int × Int} (h : rngP e p ls = .ok (q, r)) : szL r + 1 ≤ szL ls := by
  unfold rngP at h
  split at h
  · cases h
  · rename_i hn
    split at h
    · cases h
    · split at h
      · cases h
      · cases h
        exact nxt_sz hn
theorem mk_sz {l : List Mk} (h : ∀ m ∈ l, okS m.sg = true) : l.length + txS l ≤ szL (pkL 43 l) + szL (pkL 45 l) := by
  induction l with
  | nil => exact Nat.le_refl _
  | cons m l ih =>
    have h1 := ih fun x hx => h x (by simp [hx])
    have h2 := h m (by simp)
    simp only [pkL, txS, List.length_cons]
    by_cases h3 : m.sg = 43
    · rw [if_neg (by simp [h3]), if_pos ⟨by rw [h3]; decide, h2⟩]
      simp only [szL]
      omega
    · rw [if_pos ⟨h3, h2⟩]
      split
      · simp only [szL]
        omega
      · simp only [szL]
        omega
theorem fin_sz {a0 a1 a2 : Nat} {po no pw nw : Int} {o w : Sde} {h : Hk} (hf : finH a0 a1 a2 po no pw nw o w = .ok h) : h.ls.length + txS h.ls ≤ 2 * (szS o + szS w) := by
  unfold finH at hf
  split at hf
  · cases hf
  split at hf
  · cases hf
  split at hf
  · cases hf
  split at hf
  · cases hf
  split at hf
  · cases hf
  split at hf
  · cases hf
  · rename_i l hj
    cases hf
    obtain ⟨_, b, c, d, _⟩ := jn_ok _ hj
    have := mk_sz b
    rw [c, d] at this
    have e1 : szL ((oldF o w).map (·.2)) ≤ szS o + szS w := by
      show szS (oldF o w) ≤ _
      unfold oldF
      split
      · have := szs_kept w
        omega
      · omega
    have e2 : szL ((newF o w).map (·.2)) ≤ szS o + szS w := by
      show szS (newF o w) ≤ _
      unfold newF
      split
      · have := szs_kept o
        omega
      · omega
    dsimp only
    omega
theorem cxh_sz {k p p1 : Nat} {ls r : List (List UInt8)} {h : Hk} (hh : cxH k p ls = .ok (h, p1, r)) : h.ls.length + txS h.ls + 2 * szL r + 6 ≤ 2 * szL ls := by
  unfold cxH at hh
  split at hh
  · cases hh
  · rename_i s r0 hn
    have a1 := nxt_sz hn
    split at hh
    · split at hh
      · cases hh
      · split at hh
        · cases hh
        · rename_i po no r1 h1
          have b1 := rng_sz h1
          split at hh
          · cases hh
          · rename_i o p2 r2 h2
            have c1 := rd_sz _ h2
            split at hh
            · cases hh
            · rename_i pw nw r3 h3
              have d1 := rng_sz h3
              split at hh
              · cases hh
              · rename_i w p4 r4 h4
                have e1 := rd_sz _ h4
                split at hh
                · cases hh
                · rename_i h5 hf
                  cases hh
                  have := fin_sz hf
                  omega
    · cases hh
theorem cxhs_sz (f : Nat) : ∀ {k p p1 : Nat} {ls r : List (List UInt8)} {hs : List Hk}, cxHs f k p ls = .ok (hs, p1, r) → hsS hs + 208 * szL r ≤ 208 * szL ls := by
  induction f with
  | zero => intro k p p1 ls r hs h; cases h
  | succ f ih =>
    intro k p p1 ls r hs h
    simp only [cxHs] at h
    split at h
    · cases h
    · rename_i h0 q1 r1 h1
      have a := cxh_sz h1
      split at h
      · split at h
        · cases h
        · rename_i l q2 r2 h2
          have b := ih h2
          cases h
          simp only [hsS]
          omega
      · cases h
        simp only [hsS]
        omega
/-- the size of patches -/
def ptM : List Pth → Nat
  | [] => 0
  | p :: L => 416 + hsS p.hs + ptM L
theorem nam_sz {ah n : List UInt8} {p : Nat} {ls r : List (List UInt8)} (h : namP ah p ls = .ok (n, r)) : szL r + 1 ≤ szL ls := by
  unfold namP at h
  split at h
  · cases h
  · rename_i s r0 hn
    have := nxt_sz hn
    split at h
    · split at h
      · cases h
      · cases h
        exact this
    · cases h
theorem cxps_sz (f : Nat) : ∀ {k p : Nat} {ls : List (List UInt8)} {L : List Pth}, cxPs f k p ls = .ok L → ptM L ≤ 208 * szL ls := by
  induction f with
  | zero =>
    intro k p ls L h
    simp only [cxPs] at h
    cases h
    exact Nat.zero_le _
  | succ f ih =>
    intro k p ls L h
    simp only [cxPs] at h
    split at h
    · cases h
      exact Nat.zero_le _
    · split at h
      · cases h
      · rename_i n1 r1 h1
        have a1 := nam_sz h1
        split at h
        · cases h
        · split at h
          · cases h
          · rename_i n2 r2 h2
            have b1 := nam_sz h2
            split at h
            · cases h
            · rename_i hs p3 r3 h3
              have c1 := cxhs_sz _ h3
              split at h
              · cases h
              · rename_i l h4
                have d1 := ih h4
                cases h
                simp only [ptM]
                omega
theorem cx_size {t : List UInt8} {L : List Pth} (h : cxT t = .ok L) : ptM L ≤ 436207616 := by
  unfold cxT at h
  split at h
  · cases h
  · rename_i hl
    have := cxps_sz _ h
    rw [szl_len, split_join] at this
    have h2 := split_len t
    omega
theorem pts_len (L : List Pth) : (L.flatMap ptT).length ≤ ptM L := by
  induction L with
  | nil => exact Nat.le_refl _
  | cons p L ih =>
    rw [List.flatMap_cons, List.length_append, ptM]
    have := pt_len p
    omega
theorem ptM_mem {L : List Pth} {p : Pth} (h : p ∈ L) : 416 + hsS p.hs ≤ ptM L := by
  induction L with
  | nil => cases h
  | cons q L ih =>
    simp only [ptM]
    rcases List.mem_cons.1 h with rfl | h
    · omega
    · have := ih h
      omega
theorem hsS_mem {l : List Hk} {x : Hk} (h : x ∈ l) : x.ls.length + txS x.ls ≤ hsS l := by
  induction l with
  | nil => cases h
  | cons q l ih =>
    simp only [hsS]
    rcases List.mem_cons.1 h with rfl | h
    · omega
    · have := ih h
      omega
theorem hsS_len (l : List Hk) : l.length ≤ hsS l := by
  induction l with
  | nil => exact Nat.le_refl _
  | cons q l ih =>
    simp only [hsS, List.length_cons]
    omega
theorem txS_mem {l : List Mk} {m : Mk} (h : m ∈ l) : m.tx.length ≤ txS l := by
  induction l with
  | nil => cases h
  | cons q l ih =>
    simp only [txS]
    rcases List.mem_cons.1 h with rfl | h
    · omega
    · have := ih h
      omega
theorem hok_size {p : List (Hk × Value)} (h : hsS (p.map (·.1)) ≤ 436207616) : HOk p := by
  refine ⟨?_, fun x hx => ?_⟩
  · have := hsS_len (p.map (·.1))
    rw [List.length_map] at this
    omega
  · have := hsS_mem (List.mem_map_of_mem (f := (·.1)) hx)
    refine ⟨by omega, fun m hm => ?_⟩
    have := txS_mem hm
    omega
end Go.Proofs.YtgiojkhmkeocfaaGreatDoor

/- The laws' own works of layer 15, walked. -/
set_option maxRecDepth 20000
namespace Go.Proofs.YtgiojkhmkeocfaaGreatDoor
open Go.RowKit

def wkM : Obj := .cells #[.int .u8 32, .string ⟨#[49, 10]⟩, .int .u8 45, .string ⟨#[50, 10]⟩, .int .u8 43, .string ⟨#[120, 10]⟩, .int .u8 32, .string ⟨#[51, 10]⟩] 103
def wkH (b : Nat) : Obj := .cells #[.int .i64 1, .int .i64 3, .int .i64 1, .int .i64 3, .slice (some ⟨b, 0, none⟩) 4 4] 59
def wkK : Hk := ⟨1, 3, 1, 3, [⟨32, [49, 10]⟩, ⟨45, [50, 10]⟩, ⟨43, [120, 10]⟩, ⟨32, [51, 10]⟩]⟩
theorem wk_hh (w : World) (n m : Nat) (hn : w.heap.size = n) (hm : n + 1 = m) : HHp ((w.alloc wkM).alloc (wkH n)) (.slice (some ⟨m, 0, none⟩) 1 1) [(wkK, .slice (some ⟨n, 0, none⟩) 4 4)] := by
  have hz : (w.alloc wkM).heap.size = m := by rw [← hm, ← hn]; simp
  refine ⟨?_, ?_⟩
  · exact new_holds_at (w.alloc wkM) m hz #[.int .i64 1, .int .i64 3, .int .i64 1, .int .i64 3, .slice (some ⟨n, 0, none⟩) 4 4] 59 1 1 (by simp)
  · intro y hy
    rw [List.mem_singleton.1 hy]
    have h := new_holds_at w n hn #[.int .u8 32, .string ⟨#[49, 10]⟩, .int .u8 45, .string ⟨#[50, 10]⟩, .int .u8 43, .string ⟨#[120, 10]⟩, .int .u8 32, .string ⟨#[51, 10]⟩] 103 4 4 (by decide)
    have h2 : HMk (w.alloc wkM) (.slice (some ⟨n, 0, none⟩) 4 4) wkK.ls := h
    exact h2.keep ((Below.refl _ _).alloc (Nat.le_refl _) _) (Nat.le_refl _)
theorem wk_one {F : List Pfd} {p0 : Pth} (h : F.map (·.x) = [p0]) : ∃ f, F = [f] ∧ f.x = p0 := by
  match F, h with
  | [f], h =>
    simp at h
    exact ⟨f, rfl, h⟩
theorem wk_hok (v : Value) : HOk [(wkK, v)] := by
  refine ⟨show 1 ≤ _ by decide, fun x hx => ?_⟩
  rw [List.mem_singleton.1 hx]
  exact ⟨show wkK.ls.length ≤ _ by decide, show ∀ m ∈ wkK.ls, m.tx.length ≤ 1099511627776 by decide⟩
theorem load_ptc {u : World} {b f : Nat} {a0 a1 : ByteArray} {o : Option Addr} {n c : Nat} (h0 : u.cell? ⟨b, f, none⟩ = some (.string a0)) (h1 : u.cell? ⟨b, f + 1, none⟩ = some (.string a1)) (h2 : u.cell? ⟨b, f + 2, none⟩ = some (.slice o n c)) {op : Oper} (x : Operand) (ho : op.op = .load 55 x) {ev : Operand → Value} (hx : ev x = .pointer (some ⟨b, f, none⟩)) :
    (execOp ev op).run Tryz.prog u = .ok (.value (.agg #[.string a0, .string a1, .slice o n c])) u := by
  simp only [execOp, ho, hx]
  go_simp
set_option maxRecDepth 20000 in
set_option maxHeartbeats 8000000 in
theorem cworks_f (w : World) (HTb : Hid (Tab10 w)) : Calls Tryz.prog 24 #[] w fun e w' => e = .returned (.bool true) ∧ Below w.heap.size w w' := by
  have hh := wk_hh w w.heap.size (w.heap.size + 1) rfl rfl
  have hB1 : Below w.heap.size w ((w.alloc wkM).alloc (wkH w.heap.size)) := ((Below.refl _ w).alloc (Nat.le_refl _) _).alloc (by simp) _
  have hz1 : ((w.alloc wkM).alloc (wkH w.heap.size)).heap.size = w.heap.size + 1 + 1 := by simp
  have hW : (w.alloc (.cells #[.int .u8 32, .string ⟨#[49, 10]⟩, .int .u8 45, .string ⟨#[50, 10]⟩, .int .u8 43, .string ⟨#[120, 10]⟩, .int .u8 32, .string ⟨#[51, 10]⟩] 103)).alloc (.cells #[.int .i64 1, .int .i64 3, .int .i64 1, .int .i64 3, .slice (some ⟨w.heap.size, 0, none⟩) 4 4] 59) = (w.alloc wkM).alloc (wkH w.heap.size) := rfl
  go_enter Tryz.func24, Tryz.ntmps24
  go_wp2_with fail
  have hA : Below ((w.alloc wkM).alloc (wkH w.heap.size)).heap.size ((w.alloc wkM).alloc (wkH w.heap.size)) (((w.alloc wkM).alloc (wkH w.heap.size)).alloc (.cells #[.string ⟨#[97]⟩, .string ⟨#[98]⟩, .slice (some ⟨w.heap.size + 1, 0, none⟩) 1 1] 55)) := (Below.refl _ _).alloc (Nat.le_refl _) _
  have hx2 : (((w.alloc wkM).alloc (wkH w.heap.size)).alloc (.cells #[.string ⟨#[97]⟩, .string ⟨#[98]⟩, .slice (some ⟨w.heap.size + 1, 0, none⟩) 1 1] 55)).heap[w.heap.size + 1 + 1]? = some (.cells #[.string ⟨#[97]⟩, .string ⟨#[98]⟩, .slice (some ⟨w.heap.size + 1, 0, none⟩) 1 1] 55) := (by rw [← hz1]; exact heap_alloc_new _ _)
  have hh2 := hh.keep hA (Nat.le_refl _)
  have hB2 := hB1.trans (hA.mono hB1.size)
  clear hh hB1 hz1 hW hA
  generalize ((w.alloc wkM).alloc (wkH w.heap.size)).alloc (.cells #[.string ⟨#[97]⟩, .string ⟨#[98]⟩, .slice (some ⟨w.heap.size + 1, 0, none⟩) 1 1] 55) = W2 at hh2 hB2 hx2 ⊢
  have HTb2 : Hid (Tab10 W2) := HTb.out.on hB2
  have hcall := cPrint_f wkP [(wkK, .slice (some ⟨w.heap.size, 0, none⟩) 4 4)] (show Hid _ from rfl) (.slice (some ⟨w.heap.size + 1, 0, none⟩) 1 1) W2 hh2 (wk_hok _) (by decide) (by decide) HTb2 wkT 0 wk_wrg wk_text (by decide)
  refine hcall.mono ?_
  rintro e w3 ⟨rfl, hB3⟩
  have hB03 := hB2.trans (hB3.mono hB2.size)
  have hh3 := hh2.keep hB3 (Nat.le_refl _)
  have hx3 := (hB3.block _ (Array.getElem?_eq_some_iff.1 hx2).1).trans hx2
  have HX : Hid (cxT wkT = .ok [wkP]) := wk_read wk_gp
  have hTl : wkT.length ≤ 1099511627776 := (by decide)
  clear hcall hh2 hx2 hB2 hB3 HTb2 HTb
  go_wp2_with fail
  refine (cParse_f wkT w3 _ HX hTl).mono ?_
  rintro e w4 ⟨v4, F, rfl, hPw, hFm⟩
  obtain ⟨f, rfl, hfx⟩ := wk_one hFm
  have hv4 := hPw.holds
  obtain ⟨o4, c4, rfl⟩ := Holds.form hv4.row
  have hB04 := hB03.trans (hPw.low.mono hB03.size)
  have hh4 := hh3.keep hPw.low (Nat.le_refl _)
  have hx4 := (hPw.low.block _ (Array.getElem?_eq_some_iff.1 hx3).1).trans hx3
  have hp4 := (Array.getElem?_eq_some_iff.1 hx4).1
  obtain ⟨b4, f4, rfl, hb4, hc4⟩ := HPp.at hv4 (by simp)
  obtain ⟨d0, d1, d2⟩ := hc4 0 (by simp)
  obtain ⟨g1, g2⟩ := hv4.ins f (by simp)
  have hov : HOw f.hs := (by
    have h0 : f.hs.map (·.1) = [wkK] := by rw [g1, hfx]; rfl
    refine ⟨?_, fun z hz => ?_⟩
    · have := congrArg List.length h0
      rw [List.length_map] at this
      rw [this]
      decide
    · have h2 : z.1 ∈ [wkK] := by rw [← h0]; exact List.mem_map_of_mem hz
      rw [List.mem_singleton.1 h2]
      decide)
  have hcall := fun u (hu : Below w4.heap.size w4 u) => rSamePt_f f.x wkP f.hs [(wkK, .slice (some ⟨w.heap.size, 0, none⟩) 4 4)] g1 (show Hid _ from rfl) f.v (.slice (some ⟨w.heap.size + 1, 0, none⟩) 1 1) u (g2.keep hu (Nat.le_refl _)) (hh4.keep hu (Nat.le_refl _)) hov true (show Hid (true = true ↔ f.x = wkP) from ⟨fun _ => hfx, fun _ => rfl⟩)
  obtain ⟨fo, fc, hfv⟩ := Holds.form g2.row
  have e0 : w4.cell? ⟨b4, f4, none⟩ = some (.string ⟨f.x.old.toArray⟩) := (by simpa using d0)
  have e4 : w4.cell? ⟨b4, f4 + 1, none⟩ = some (.string ⟨f.x.new.toArray⟩) := (by simpa using d1)
  have e5 : w4.cell? ⟨b4, f4 + 2, none⟩ = some (.slice fo f.hs.length fc) := (by rw [← hfv]; simpa using d2)
  have p0 : w4.cell? ⟨w.heap.size + 1 + 1, 0, none⟩ = some (.string ⟨#[97]⟩) := (by rw [Lib.cell_of_heap hx4]; rfl)
  have p1 : w4.cell? ⟨w.heap.size + 1 + 1, 1, none⟩ = some (.string ⟨#[98]⟩) := (by rw [Lib.cell_of_heap hx4]; rfl)
  have p2 : w4.cell? ⟨w.heap.size + 1 + 1, 2, none⟩ = some (.slice (some ⟨w.heap.size + 1, 0, none⟩) 1 1) := (by rw [Lib.cell_of_heap hx4]; rfl)
  unfold ptV at hcall
  rw [hfv] at hcall
  have hcall2 : ∀ u, Below w4.heap.size w4 u → Calls Tryz.prog 58 #[.agg #[.string ⟨f.x.old.toArray⟩, .string ⟨f.x.new.toArray⟩, .slice fo f.hs.length fc], .agg #[.string ⟨#[97]⟩, .string ⟨#[98]⟩, .slice (some ⟨w.heap.size + 1, 0, none⟩) 1 1]] u fun e w' => e = .returned (.bool true) ∧ Below u.heap.size u w' := hcall
  have hlo := Below.refl w4.heap.size w4
  clear hcall hPw hFm HX hv4 hc4 d0 d1 d2 g1 g2 hfx hfv hh3 hh4 hx3 hx4 hB03 hov hTl
  generalize f.x.old = fold at *
  generalize f.x.new = fnew at *
  have HC : Hid (∀ u, Below w4.heap.size w4 u → u.cell? ⟨b4, f4, none⟩ = some (.string ⟨fold.toArray⟩) ∧ u.cell? ⟨b4, f4 + 1, none⟩ = some (.string ⟨fnew.toArray⟩) ∧ u.cell? ⟨b4, f4 + 2, none⟩ = some (.slice fo f.hs.length fc) ∧ u.cell? ⟨w.heap.size + 1 + 1, 0, none⟩ = some (.string ⟨#[97]⟩) ∧ u.cell? ⟨w.heap.size + 1 + 1, 1, none⟩ = some (.string ⟨#[98]⟩) ∧ u.cell? ⟨w.heap.size + 1 + 1, 2, none⟩ = some (.slice (some ⟨w.heap.size + 1, 0, none⟩) 1 1)) := fun u hu =>
    ⟨(World.cell?_of_block (hu.block b4 hb4)).trans e0, (World.cell?_of_block (hu.block b4 hb4)).trans e4, (World.cell?_of_block (hu.block b4 hb4)).trans e5, (World.cell?_of_block (hu.block _ hp4)).trans p0, (World.cell?_of_block (hu.block _ hp4)).trans p1, (World.cell?_of_block (hu.block _ hp4)).trans p2⟩
  clear e0 e4 e5 p0 p1 p2
  simp only [List.length_cons, List.length_nil, Nat.zero_add]
  go_upto_region 4 with fail
  refine wp_region_noPanic ?_
  refine wp_region_held_drew (S := fun u => Below w4.heap.size w4 u) (by kernel_rfl) (Below.refl _ w4).drew (fun hHeld => ?_)
  generalize w4.drew = wd at hHeld ⊢
  refine go_take 0 24 _ (.int .i64 0) rfl (by kernel_rfl) (by kernel_rfl) (by kernel_rfl) (by kernel_rfl) (fun _ _ _ h => h) (Or.inl ⟨by kernel_rfl, fun u hu => by kernel_rfl⟩) hHeld ?_
  simp only [Act.put, List.setIfInBounds_toArray, List.set_cons_zero, List.set_cons_succ]
  refine go_take 1 25 _ (.bool true) rfl (by kernel_rfl) (by kernel_rfl) (by kernel_rfl) (by kernel_rfl) (fun _ _ _ h => h) (Or.inl ⟨by kernel_rfl, fun u hu => by kernel_rfl⟩) hHeld ?_
  simp only [Act.put, List.setIfInBounds_toArray, List.set_cons_zero, List.set_cons_succ]
  refine go_take 2 26 _ (.bool true) rfl (by kernel_rfl) (by kernel_rfl) (by kernel_rfl) (by kernel_rfl) (fun _ _ _ h => h) (Or.inl ⟨by kernel_rfl, fun u hu => by kernel_rfl⟩) hHeld ?_
  simp only [Act.put, List.setIfInBounds_toArray, List.set_cons_zero, List.set_cons_succ]
  refine go_take 3 27 _ (.string ⟨wkT.toArray⟩) rfl (by kernel_rfl) (by kernel_rfl) (by kernel_rfl) (by kernel_rfl) (fun _ _ _ h => h) (Or.inl ⟨by kernel_rfl, fun u hu => by kernel_rfl⟩) hHeld ?_
  simp only [Act.put, List.setIfInBounds_toArray, List.set_cons_zero, List.set_cons_succ]
  refine go_take 4 28 _ (.bool true) rfl (by kernel_rfl) (by kernel_rfl) (by kernel_rfl) (by kernel_rfl) (fun _ _ _ h => h) (Or.inl ⟨by kernel_rfl, fun u hu => by kernel_rfl⟩) hHeld ?_
  simp only [Act.put, List.setIfInBounds_toArray, List.set_cons_zero, List.set_cons_succ]
  refine go_take 5 29 _ (.bool true) rfl (by kernel_rfl) (by kernel_rfl) (by kernel_rfl) (by kernel_rfl) (fun _ _ _ h => h) (Or.inl ⟨by kernel_rfl, fun u hu => by kernel_rfl⟩) hHeld ?_
  simp only [Act.put, List.setIfInBounds_toArray, List.set_cons_zero, List.set_cons_succ]
  refine go_take 6 30 _ (.bool true) rfl (by kernel_rfl) (by kernel_rfl) (by kernel_rfl) (by kernel_rfl) (fun _ _ _ h => h) (Or.inl ⟨by kernel_rfl, fun u hu => by kernel_rfl⟩) hHeld ?_
  simp only [Act.put, List.setIfInBounds_toArray, List.set_cons_zero, List.set_cons_succ]
  refine go_take 7 31 _ (.nilIface) rfl (by kernel_rfl) (by kernel_rfl) (by kernel_rfl) (by kernel_rfl) (fun _ _ _ h => h) (Or.inl ⟨by kernel_rfl, fun u hu => by kernel_rfl⟩) hHeld ?_
  simp only [Act.put, List.setIfInBounds_toArray, List.set_cons_zero, List.set_cons_succ]
  refine go_take 8 32 _ (.bool true) rfl (by kernel_rfl) (by kernel_rfl) (by kernel_rfl) (by kernel_rfl) (fun _ _ _ h => h) (Or.inl ⟨by kernel_rfl, fun u hu => by kernel_rfl⟩) hHeld ?_
  simp only [Act.put, List.setIfInBounds_toArray, List.set_cons_zero, List.set_cons_succ]
  refine go_take 9 33 _ (.bool true) rfl (by kernel_rfl) (by kernel_rfl) (by kernel_rfl) (by kernel_rfl) (fun _ _ _ h => h) (Or.inl ⟨by kernel_rfl, fun u hu => by kernel_rfl⟩) hHeld ?_
  simp only [Act.put, List.setIfInBounds_toArray, List.set_cons_zero, List.set_cons_succ]
  refine go_take 10 34 _ (.bool true) rfl (by kernel_rfl) (by kernel_rfl) (by kernel_rfl) (by kernel_rfl) (fun _ _ _ h => h) (Or.inl ⟨by kernel_rfl, fun u hu => by kernel_rfl⟩) hHeld ?_
  simp only [Act.put, List.setIfInBounds_toArray, List.set_cons_zero, List.set_cons_succ]
  refine go_take 11 35 _ (.slice (some ⟨b4, f4, none⟩) 1 c4) rfl (by kernel_rfl) (by kernel_rfl) (by kernel_rfl) (by kernel_rfl) (fun _ _ _ h => h) (Or.inl ⟨by kernel_rfl, fun u hu => by kernel_rfl⟩) hHeld ?_
  simp only [Act.put, List.setIfInBounds_toArray, List.set_cons_zero, List.set_cons_succ]
  refine go_take 12 36 _ (.int .i64 1) rfl (by kernel_rfl) (by kernel_rfl) (by kernel_rfl) (by kernel_rfl) (fun _ _ _ h => h) (Or.inl ⟨by kernel_rfl, fun u hu => by kernel_rfl⟩) hHeld ?_
  simp only [Act.put, List.setIfInBounds_toArray, List.set_cons_zero, List.set_cons_succ]
  refine go_take 13 37 _ (.bool true) rfl (by kernel_rfl) (by kernel_rfl) (by kernel_rfl) (by kernel_rfl) (fun _ _ _ h => h) (Or.inl ⟨by kernel_rfl, fun u hu => by kernel_rfl⟩) hHeld ?_
  simp only [Act.put, List.setIfInBounds_toArray, List.set_cons_zero, List.set_cons_succ]
  refine go_take 14 38 _ (.bool true) rfl (by kernel_rfl) (by kernel_rfl) (by kernel_rfl) (by kernel_rfl) (fun _ _ _ h => h) (Or.inl ⟨by kernel_rfl, fun u hu => by kernel_rfl⟩) hHeld ?_
  simp only [Act.put, List.setIfInBounds_toArray, List.set_cons_zero, List.set_cons_succ]
  refine go_take 15 39 _ (.bool true) rfl (by kernel_rfl) (by kernel_rfl) (by kernel_rfl) (by kernel_rfl) (fun _ _ _ h => h) (Or.inl ⟨by kernel_rfl, fun u hu => by kernel_rfl⟩) hHeld ?_
  simp only [Act.put, List.setIfInBounds_toArray, List.set_cons_zero, List.set_cons_succ]
  refine go_take 16 40 _ (.slice (some ⟨b4, f4, none⟩) 1 c4) rfl (by kernel_rfl) (by kernel_rfl) (by kernel_rfl) (by kernel_rfl) (fun _ _ _ h => h) (Or.inl ⟨by kernel_rfl, fun u hu => by kernel_rfl⟩) hHeld ?_
  simp only [Act.put, List.setIfInBounds_toArray, List.set_cons_zero, List.set_cons_succ]
  refine go_take 17 41 _ (.pointer (some ⟨b4, f4, none⟩)) rfl (by kernel_rfl) (by kernel_rfl) (by kernel_rfl) (by kernel_rfl) (fun _ _ _ h => h) (Or.inl ⟨by kernel_rfl, fun u hu => by kernel_rfl⟩) hHeld ?_
  simp only [Act.put, List.setIfInBounds_toArray, List.set_cons_zero, List.set_cons_succ]
  refine go_take 18 42 _ (.agg #[.string ⟨fold.toArray⟩, .string ⟨fnew.toArray⟩, .slice fo f.hs.length fc]) rfl (by kernel_rfl) (by kernel_rfl) (by kernel_rfl) (by kernel_rfl) (fun _ _ _ h => h) (Or.inl ⟨by kernel_rfl, fun u hu => load_ptc (HC.out u hu).1 (HC.out u hu).2.1 (HC.out u hu).2.2.1 (.tmp 41) (by kernel_rfl) (by kernel_rfl)⟩) hHeld ?_
  simp only [Act.put, List.setIfInBounds_toArray, List.set_cons_zero, List.set_cons_succ]
  refine go_take 19 43 _ (.agg #[.string ⟨#[97]⟩, .string ⟨#[98]⟩, .slice (some ⟨w.heap.size + 1, 0, none⟩) 1 1]) rfl (by kernel_rfl) (by kernel_rfl) (by kernel_rfl) (by kernel_rfl) (fun _ _ _ h => h) (Or.inl ⟨by kernel_rfl, fun u hu => load_ptc (HC.out u hu).2.2.2.1 (HC.out u hu).2.2.2.2.1 (HC.out u hu).2.2.2.2.2 (.tmp 1) (by kernel_rfl) (by kernel_rfl)⟩) hHeld ?_
  simp only [Act.put, List.setIfInBounds_toArray, List.set_cons_zero, List.set_cons_succ]
  refine go_callE 20 44 _ rfl (by kernel_rfl) (by kernel_rfl) (by kernel_rfl) 58 (.func 58) #[.tmp 42, .tmp 43] #[55, 55] (by kernel_rfl) #[] (by kernel_rfl) #[.agg #[.string ⟨fold.toArray⟩, .string ⟨fnew.toArray⟩, .slice fo f.hs.length fc], .agg #[.string ⟨#[97]⟩, .string ⟨#[98]⟩, .slice (some ⟨w.heap.size + 1, 0, none⟩) 1 1]] (by kernel_rfl) (enters_of Tryz.func58 (by kernel_rfl) rfl) (fun v _ => v = .bool true) ?_ ?_
  · refine (hcall2 wd hHeld).mono ?_
    rintro e w5 ⟨rfl, hB5⟩
    exact ⟨_, rfl, hHeld.trans (hB5.mono hHeld.size), rfl⟩
  clear hHeld
  rintro v w5 hHeld rfl
  simp only [Act.put, List.setIfInBounds_toArray, List.set_cons_zero, List.set_cons_succ]
  refine go_take 21 45 _ (.bool true) rfl (by kernel_rfl) (by kernel_rfl) (by kernel_rfl) (by kernel_rfl) (fun _ _ _ h => h) (Or.inl ⟨by kernel_rfl, fun u hu => by kernel_rfl⟩) hHeld ?_
  simp only [Act.put, List.setIfInBounds_toArray, List.set_cons_zero, List.set_cons_succ]
  refine go_take 22 0 _ (.bool true) rfl (by kernel_rfl) (by kernel_rfl) (by kernel_rfl) (by kernel_rfl) (fun _ _ _ h => h) (Or.inl ⟨by kernel_rfl, fun u hu => by kernel_rfl⟩) hHeld ?_
  simp only [Act.put, List.setIfInBounds_toArray, List.set_cons_zero]
  refine wpAnyH_done (by kernel_rfl) ?_ _
  refine NoPanic.normal ?_
  have hB6 := hB04.trans (hHeld.mono hB04.size)
  go_wp2
  go_ret
  exact ⟨rfl, hB6⟩
end Go.Proofs.YtgiojkhmkeocfaaGreatDoor
