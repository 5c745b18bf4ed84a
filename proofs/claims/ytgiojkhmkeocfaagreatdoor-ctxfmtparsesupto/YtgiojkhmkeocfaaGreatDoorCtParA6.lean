/-
  Texts that belong together, joined: CwD, NoLen, NoWs, NcW, PtL, NcL, CwE, CwF, CwG, HuC2, CwH, CwI, CrA, CqB, CqU, CqS, CrG, NoPs, NoLs, CrK.
-/
import Derived.Test.YtgiojkhmkeocfaaGreatDoorCtParA5
import Derived.Test.YtgiojkhmkeocfaaGreatDoorCtParA4
import Derived.Lib.IndexAny
import Derived.Laws.RangeAny
import Derived.Shelf.Strings.BuilderK
import Derived.Test.YtgiojkhmkeocfaaGreatDoorProg
import Derived.Test.YtgiojkhmkeocfaaGreatDoorCtParA3
import Derived.Lib.AppendIntMem
import Derived.Lib.FrozenHead2
import Derived.Test.YtgiojkhmkeocfaaGreatDoorCtParA2
import Derived.Deep.QuietTactic
import Derived.BigQuiet

/- Names as the code writes them in a patch (layer 15), walked. -/
set_option maxRecDepth 20000
namespace Go.Proofs.YtgiojkhmkeocfaaGreatDoor
open Go.RowKit
attribute [local go_sem] ByteArray.extract_mk

def oddI (r : Int) : Bool := decide (r < 33) || decide (126 < r) || decide (r = 34)
set_option maxHeartbeats 1000000 in
theorem cisOdd_f (r : Int) (w : World) (q : Bool) (HQ : Hid (oddI r = q)) : Calls Tryz.prog 109 #[.int .i32 r] w fun e w' => e = .returned (.bool q) ∧ w = w' := by
  by_cases h1 : r < 33
  · have HE : Hid (true = q) := (by show _ = _; rw [← HQ.out]; simp [oddI, h1])
    go_enter Tryz.func109, Tryz.ntmps109
    go_wp2
    go_ret
    exact ⟨by rw [← HE.out]; rfl, rfl⟩
  · by_cases h2 : 126 < r
    · have HE : Hid (true = q) := (by show _ = _; rw [← HQ.out]; simp [oddI, h2])
      go_enter Tryz.func109, Tryz.ntmps109
      go_wp2
      go_ret
      exact ⟨by rw [← HE.out]; rfl, rfl⟩
    · have HE : Hid ((r == 34) = q) := (by show _ = _; rw [← HQ.out]; simp only [oddI, h1, h2, decide_false, Bool.false_or]; rfl)
      go_enter Tryz.func109, Tryz.ntmps109
      go_wp2
      go_ret
      exact ⟨by rw [← HE.out]; rfl, rfl⟩
theorem odd_name (c : UInt8) : oddI (c.toNat : Int) = !nameC c := by
  unfold oddI nameC
  rw [Bool.eq_iff_iff]
  simp only [Bool.or_eq_true, decide_eq_true_eq, Bool.not_eq_true', decide_eq_false_iff_not]
  omega
/-- where the first odd byte is, or -1 -/
def oddW : Nat → List UInt8 → Int
  | _, [] => -1
  | k, c :: l => if nameC c = true then oddW (k + 1) l else (k : Int)
theorem oddW_all (l : List UInt8) : ∀ k, decide (0 ≤ oddW k l) = !l.all nameC := by
  induction l with
  | nil => intro k; rfl
  | cons c l ih =>
    intro k
    rw [List.all_cons]
    by_cases h : nameC c = true
    · have e : oddW k (c :: l) = oddW (k + 1) l := if_pos h
      rw [e, ih, h]
      rfl
    · have e : oddW k (c :: l) = (k : Int) := if_neg h
      rw [e, Bool.eq_false_iff.2 h]
      simp
theorem oddW_step {l : List UInt8} {k : Nat} (hk : k < l.length) : oddW k (l.drop k) = if nameC l[k] = true then oddW (k + 1) (l.drop (k + 1)) else (k : Int) := by
  rw [List.drop_eq_getElem_cons hk]
  rfl
set_option maxHeartbeats 4000000 in
set_option maxRecDepth 100000 in
theorem cindexFunc_f (l : List UInt8) (w : World) (_hl : l.length ≤ 1099511627776) (z : Int) (HZ : Hid (oddW 0 l = z)) :
    Calls Tryz.prog 220 #[.string ⟨l.toArray⟩, .func (.func 109) #[] #[], .bool true] w fun e w' => e = .returned (.int .i64 z) ∧ Below w.heap.size w w' := by
  go_enter Tryz.func220, Tryz.ntmps220
  go_wp2
  go_loopw [] (fun wr => ∃ pos : Nat, pos ≤ l.length ∧ wr.heap[w.heap.size]? = some (.stringIter ⟨l.toArray⟩ pos) ∧ Below w.heap.size w wr ∧ Hid (oddW pos (l.drop pos) = z)) (fun wr => l.length - wr.iterPos w.heap.size)
  case atStart => exact ⟨0, Nat.zero_le _, World.iter_heap w _ 0, (Below.refl _ w).alloc (Nat.le_refl _) _, HZ⟩
  case round =>
    obtain ⟨pos, hp, hit, hbr, HA⟩ := hrel
    have hwl : w.heap.size < wr.heap.size := (Array.getElem?_eq_some_iff.1 hit).1
    by_cases hlt : pos < l.length
    · have HS := HA.out
      rw [oddW_step hlt] at HS
      by_cases ha : l[pos].toNat < 128
      · have hnx : ∀ ty, (Instr.next (.pointer (some ⟨w.heap.size, 0, none⟩)) true ty).run Tryz.prog wr = _ := fun ty => Lib.run_next_ascii_at wr w.heap.size ⟨l.toArray⟩ pos ty hit hlt ha
        have hit2 := Lib.iterAt_heap wr w.heap.size ⟨l.toArray⟩ pos (pos + 1) hit
        have hbr2 := Lib.below_iterAt hbr (k := w.heap.size) (Nat.le_refl _) ⟨l.toArray⟩ (pos + 1)
        cases hn : nameC l[pos] with
        | true =>
          have HI : Hid (oddW (pos + 1) (l.drop (pos + 1)) = z) := (by rw [hn, if_pos rfl] at HS; exact HS)
          have hc := fun u => cisOdd_f (l[pos].toNat : Int) u false (by show _ = _; rw [odd_name, hn]; rfl)
          clear HS hn HA
          go_wp2_with fail
          refine (hc _).mono ?_
          rintro e w4 ⟨rfl, rfl⟩
          go_wp2
          go_roundw
          case rel => exact ⟨pos + 1, by omega, hit2, hbr2, HI⟩
          case measure => simp only [World.iterPos, hit, hit2]; omega
        | false =>
          have HE : Hid ((pos : Int) = z) := (by rw [hn, if_neg (by decide)] at HS; exact HS)
          have hc := fun u => cisOdd_f (l[pos].toNat : Int) u true (by show _ = _; rw [odd_name, hn]; rfl)
          clear HS hn HA
          go_wp2_with fail
          refine (hc _).mono ?_
          rintro e w4 ⟨rfl, rfl⟩
          go_wp2
          go_ret
          exact ⟨by rw [HE.out]; rfl, hbr2⟩
      · have hdh := (decode_high ⟨l.toArray⟩ pos hlt (by show 128 ≤ l[pos].toNat; omega))
        have hnx : ∀ ty, (Instr.next (.pointer (some ⟨w.heap.size, 0, none⟩)) true ty).run Tryz.prog wr = _ := fun ty => Lib.run_next_any_at wr w.heap.size ⟨l.toArray⟩ pos ty hit hlt
        have hbr2 := Lib.below_iterAt hbr (k := w.heap.size) (Nat.le_refl _) ⟨l.toArray⟩ (pos + (Utf8.decode ⟨l.toArray⟩ pos).2)
        have hdl := decode_le ⟨l.toArray⟩ pos
        have HE : Hid ((pos : Int) = z) := (by
          have hn : nameC l[pos] = false := (by unfold nameC; exact decide_eq_false (by omega))
          rw [hn, if_neg (by decide)] at HS
          exact HS)
        obtain ⟨hd1, hd2⟩ := hdh
        generalize Utf8.decode ⟨l.toArray⟩ pos = dd at *
        have hc := fun u => cisOdd_f (dd.1 : Int) u true (by
          show _ = _
          unfold oddI
          have : decide (126 < (dd.1 : Int)) = true := decide_eq_true (by omega)
          rw [this]
          simp)
        clear HS HA
        go_wp2_with fail
        refine (hc _).mono ?_
        rintro e w4 ⟨rfl, rfl⟩
        go_wp2
        go_ret
        exact ⟨by rw [HE.out]; rfl, hbr2⟩
    · have hnx : ∀ ty, (Instr.next (.pointer (some ⟨w.heap.size, 0, none⟩)) true ty).run Tryz.prog wr = _ := fun ty => Lib.run_next_end_at wr w.heap.size ⟨l.toArray⟩ pos ty hit hlt
      have HE : Hid (-1 = z) := (by
        have h := HA.out
        rw [List.drop_of_length_le (by omega)] at h
        exact h)
      clear HA
      go_wp2
      go_ret
      exact ⟨by rw [HE.out]; rfl, hbr⟩
set_option maxHeartbeats 1000000 in
theorem cIndexFunc_f (l : List UInt8) (w : World) (hl : l.length ≤ 1099511627776) (z : Int) (HZ : Hid (oddW 0 l = z)) :
    Calls Tryz.prog 162 #[.string ⟨l.toArray⟩, .func (.func 109) #[] #[]] w fun e w' => e = .returned (.int .i64 z) ∧ Below w.heap.size w w' := by
  go_enter Tryz.func162, Tryz.ntmps162
  go_wp2_with fail
  refine (cindexFunc_f l w hl z HZ).mono ?_
  rintro e w1 ⟨rfl, hB⟩
  go_wp2
  go_ret
  exact ⟨rfl, hB⟩
set_option maxHeartbeats 1000000 in
theorem cContainsFunc_f (l : List UInt8) (w : World) (hl : l.length ≤ 1099511627776) (q : Bool) (HQ : Hid ((!l.all nameC) = q)) :
    Calls Tryz.prog 108 #[.string ⟨l.toArray⟩, .func (.func 109) #[] #[]] w fun e w' => e = .returned (.bool q) ∧ Below w.heap.size w w' := by
  obtain ⟨z, hz⟩ : ∃ z, oddW 0 l = z := ⟨_, rfl⟩
  have HC := cIndexFunc_f l w hl z hz
  have HZ : Hid (decide (0 ≤ z) = q) := (by show _ = _; rw [← hz, oddW_all]; exact HQ.out)
  clear hz HQ
  go_enter Tryz.func108, Tryz.ntmps108
  go_wp2_with fail
  refine HC.mono ?_
  rintro e w1 ⟨rfl, hB⟩
  go_wp2
  go_ret
  exact ⟨by rw [HZ.out]; rfl, hB⟩
set_option maxHeartbeats 2000000 in
theorem cname_f (l : List UInt8) (w : World) (hl : l.length ≤ 1099511627776) (t : List UInt8) (HT : Hid (nameT l = t)) :
    Calls Tryz.prog 66 #[.string ⟨l.toArray⟩] w fun e w' => e = .returned (.string ⟨t.toArray⟩) ∧ Below w.heap.size w w' := by
  by_cases h0 : l = []
  · have HE : Hid (devN = t) := (by have h := HT.out; unfold nameT at h; rw [if_pos h0] at h; exact h)
    subst h0
    go_enter Tryz.func66, Tryz.ntmps66
    go_wp2
    go_ret
    exact ⟨by rw [← HE.out]; rfl, Below.refl _ _⟩
  · have e0 : l.isEmpty = false := (by cases l with | nil => exact absurd rfl h0 | cons _ _ => rfl)
    have hq := Quote_any l
    by_cases h1 : l = devN
    · have HE : Hid (Q.quote l = t) := (by have h := HT.out; unfold nameT at h; rw [if_neg h0, if_neg (fun q => q.2 h1)] at h; exact h)
      have e1 : (l == [47, 100, 101, 118, 47, 110, 117, 108, 108]) = true := (by rw [beq_iff_eq]; exact h1)
      clear HT h1
      go_enter Tryz.func66, Tryz.ntmps66
      go_wp2_with fail
      refine (hq _ hl).mono ?_
      rintro e w1 ⟨rfl, hB⟩
      go_wp2
      go_ret
      exact ⟨by rw [← HE.out]; rfl, hB⟩
    · have e1 : (l == [47, 100, 101, 118, 47, 110, 117, 108, 108]) = false := beq_eq_false_iff_ne.2 h1
      cases hn : l.all nameC with
      | true =>
        have HE : Hid (l = t) := (by have h := HT.out; unfold nameT at h; rw [if_neg h0, if_pos ⟨hn, h1⟩] at h; exact h)
        have hc := fun u => cContainsFunc_f l u hl false (by show _ = _; rw [hn]; rfl)
        clear HT h1 hn
        go_enter Tryz.func66, Tryz.ntmps66
        go_wp2_with fail
        refine (hc _).mono ?_
        rintro e w1 ⟨rfl, hB⟩
        go_wp2
        go_ret
        exact ⟨by rw [← HE.out]; rfl, hB⟩
      | false =>
        have HE : Hid (Q.quote l = t) := (by have h := HT.out; unfold nameT at h; rw [if_neg h0, if_neg (fun q => by rw [hn] at q; cases q.1)] at h; exact h)
        have hc := fun u => cContainsFunc_f l u hl true (by show _ = _; rw [hn]; rfl)
        clear HT h1 hn
        go_enter Tryz.func66, Tryz.ntmps66
        go_wp2_with fail
        refine (hc _).mono ?_
        rintro e w1 ⟨rfl, hB⟩
        go_wp2_with fail
        refine (hq _ hl).mono ?_
        rintro e w2 ⟨rfl, hB2⟩
        go_wp2
        go_ret
        exact ⟨by rw [← HE.out]; rfl, hB.trans (hB2.mono hB.size)⟩
end Go.Proofs.YtgiojkhmkeocfaaGreatDoor

/- How long the normal form of a script is; plain mathematics. -/
set_option maxRecDepth 20000
namespace Go.Proofs.YtgiojkhmkeocfaaGreatDoor

end Go.Proofs.YtgiojkhmkeocfaaGreatDoor

/- The library's contracts on a strings.Builder's WriteString and on strings.HasSuffix, TrimSuffix and CutPrefix at this program: the program bears the bodies that they speak of. -/
set_option maxRecDepth 20000
namespace Go.Proofs
open Go.Shelf Go.RowKit
end Go.Proofs

/- The code's small functions of layer 12's Print, walked: numbers, ranges, letters, lines that are written. -/
set_option maxRecDepth 20000
namespace Go.Proofs.YtgiojkhmkeocfaaGreatDoor
open Go.RowKit

/-- the table of powers of ten, in every later world -/
def Tab10 (w : World) : Prop := ∀ u : World, Below w.heap.size w u → Lib.TabIs Tryz.prog u "internal/strconv.uint64pow10" .u64 Lib.pow10Tab
theorem Tab10.on {w u : World} (h : Tab10 w) (hb : Below w.heap.size w u) : Tab10 u := fun v hv => h v (hb.trans (hv.mono hb.size))
end Go.Proofs.YtgiojkhmkeocfaaGreatDoor

/- A line as it stands in a patch (package patchtext), walked. -/
set_option maxRecDepth 20000
namespace Go.Proofs.YtgiojkhmkeocfaaGreatDoor
open Go.RowKit

theorem suf_feed (s : List UInt8) : Lib.hasSuffix s [10] = fdB s := by
  unfold Lib.hasSuffix fdB
  rw [Bool.eq_iff_iff, List.isSuffixOf_iff_suffix, beq_iff_eq]
  constructor
  · rintro ⟨t, rfl⟩
    simp
  · intro h
    obtain ⟨t, rfl⟩ := List.getLast?_eq_some_iff.1 h
    exact ⟨t, rfl⟩
end Go.Proofs.YtgiojkhmkeocfaaGreatDoor

/- The code's writeLines of layer 12, walked: lines behind a sign are written into a builder. -/
set_option maxRecDepth 20000
namespace Go.Proofs.YtgiojkhmkeocfaaGreatDoor
open Go.RowKit

end Go.Proofs.YtgiojkhmkeocfaaGreatDoor

/- The code's page of layer 15, walked: rows, lines, ranges; the signs that are shown. -/
set_option maxRecDepth 20000
namespace Go.Proofs.YtgiojkhmkeocfaaGreatDoor
open Go.RowKit Go.Proofs.YtgiojkhmkeocfaaGreatDoor.Tx

/-- a page that holds a text -/
def Pg (B b : Nat) (v : Value) (acc : List UInt8) (w : World) : Prop := Bld 121 5 B b v (Lib.byteCells acc) w
theorem Pg.low {B b : Nat} {v : Value} {acc : List UInt8} {w w' : World} (h : Pg B b v acc w) (hb : Below w.heap.size w w') : Pg B b v acc w' := Bld.kept h hb.block
end Go.Proofs.YtgiojkhmkeocfaaGreatDoor

/- The code's shownSigns of layer 15, walked. -/
set_option maxRecDepth 20000
namespace Go.Proofs.YtgiojkhmkeocfaaGreatDoor
open Go.RowKit

def lenW : Value → Nat
  | .slice _ n _ => n
  | _ => 0
end Go.Proofs.YtgiojkhmkeocfaaGreatDoor

/- The code's side of a page of layer 15, walked. -/
set_option maxRecDepth 20000
namespace Go.Proofs.YtgiojkhmkeocfaaGreatDoor
open Go.RowKit Go.Proofs.YtgiojkhmkeocfaaGreatDoor.Tx

end Go.Proofs.YtgiojkhmkeocfaaGreatDoor

/- The code's Check of layer 11, walked. -/
set_option maxRecDepth 20000
namespace Go.Proofs.YtgiojkhmkeocfaaGreatDoor
open Ln Go.RowKit

theorem rng_nm (h : Hk) : rngB h = (nmB h.A h.AN && nmB h.B h.BN) := by
  unfold rngB nmB
  cases nat31 h.A <;> cases nat31 h.AN <;> cases nat31 h.B <;> cases nat31 h.BN <;> cases decide (h.A = 0) <;> cases decide (0 < h.AN) <;> cases decide (h.B = 0) <;> cases decide (0 < h.BN) <;> rfl
theorem pk_mem {no : Int} {l : List Mk} {a : List UInt8} (h : a ∈ pkL no l) : ∃ m ∈ l, m.tx = a := by
  induction l with
  | nil => cases h
  | cons m l ih =>
    simp only [pkL] at h
    split at h
    · rcases List.mem_cons.1 h with rfl | h
      · exact ⟨m, by simp, rfl⟩
      · obtain ⟨x, hx, e⟩ := ih h
        exact ⟨x, by simp [hx], e⟩
    · obtain ⟨x, hx, e⟩ := ih h
      exact ⟨x, by simp [hx], e⟩
theorem chk_rng {h : Hk} (hq : rngB h = false) : chkH h = 2 := by
  unfold chkH
  rw [if_pos hq]
theorem chk_fld {h : Hk} (h1 : rngB h = true) (hq : fldB h.ls = false) : chkH h = 6 := by
  unfold chkH
  rw [if_neg (by rw [h1]; decide), if_pos hq]
theorem chk_cnt {h : Hk} (h1 : rngB h = true) (h2 : fldB h.ls = true) (hq : h.AN ≠ (oldL h).length ∨ h.BN ≠ (newL h).length) : chkH h = 120 := by
  unfold chkH
  rw [if_neg (by rw [h1]; decide), if_neg (by rw [h2]; decide), if_pos hq]
theorem all_chg {l : List Mk} (ha : allB l = true) : l.all (fun m => decide (m.sg = 32)) = !l.any chgB := by
  induction l with
  | nil => rfl
  | cons m l ih =>
    simp only [allB, List.all_cons, Bool.and_eq_true] at ha
    simp only [List.all_cons, List.any_cons]
    rw [ih ha.2]
    have hm := ha.1
    simp only [okS, Bool.or_eq_true, decide_eq_true_eq] at hm
    unfold chgB
    rcases hm with (hm | hm) | hm <;> rw [hm] <;> simp
theorem chk_end {h : Hk} (h1 : rngB h = true) (h2 : fldB h.ls = true) (h3 : h.AN = (oldL h).length) (h4 : h.BN = (newL h).length) {q : Bool} (hq : h.ls.any chgB = q) : chkH h = if q = true then 0 else 50 := by
  unfold chkH
  rw [if_neg (by rw [h1]; decide), if_neg (by rw [h2]; decide), if_neg (fun k => by rcases k with k | k <;> contradiction)]
  have ha : allB h.ls = true := by
    have := fld_code h.ls
    rw [h2] at this
    simp only [Bool.true_eq, Bool.and_eq_true] at this
    exact this.1.1
  rw [all_chg ha, hq]
  cases q <;> rfl
theorem any_strange (l : List Mk) : l.any (fun m => !okS m.sg) = !allB l := by
  induction l with
  | nil => rfl
  | cons m l ih =>
    simp only [List.any_cons, allB, List.all_cons, Bool.not_and] at ih ⊢
    rw [ih]
theorem hold_held {h : Hk} {v : Value} {W u : World} (hv : HMk W v h.ls) (hl : h.ls.length ≤ 1099511627776) {R : List (List UInt8)} (HR : Hid (oldL h = R)) (hL : Low W u) : Calls Tryz.prog 38 (#[hkV h v] ++ #[]) u fun e w' => ∃ x, e = .returned x ∧ Low W w' ∧ (HS w' x R ∧ Below u.heap.size u w') := by
  refine (hOld_f h v u (HMk.keep hv hL (Nat.le_refl _)) hl R HR).mono ?_
  rintro e w' ⟨x, rfl, hx, hB⟩
  exact ⟨_, rfl, hL.trans (hB.mono hL.size), hx, hB⟩
theorem hnew_held {h : Hk} {v : Value} {W u : World} (hv : HMk W v h.ls) (hl : h.ls.length ≤ 1099511627776) {R : List (List UInt8)} (HR : Hid (newL h = R)) (hL : Low W u) : Calls Tryz.prog 40 (#[hkV h v] ++ #[]) u fun e w' => ∃ x, e = .returned x ∧ Low W w' ∧ (HS w' x R ∧ Below u.heap.size u w') := by
  refine (hNew_f h v u (HMk.keep hv hL (Nat.le_refl _)) hl R HR).mono ?_
  rintro e w' ⟨x, rfl, hx, hB⟩
  exact ⟨_, rfl, hL.trans (hB.mono hL.size), hx, hB⟩

set_option maxRecDepth 10000 in
set_option maxHeartbeats 4000000 in
theorem hCheck_f (h : Hk) (v : Value) (w : World) (hv : HMk w v h.ls) (hl : h.ls.length ≤ 1099511627776) (htx : ∀ m ∈ h.ls, m.tx.length ≤ 1099511627776) (r : Int) (HR : Hid (chkH h = r)) : Calls Tryz.prog 23 #[hkV h v] w fun e w' => e = .returned (.int .i64 r) ∧ Below w.heap.size w w' := by
  obtain ⟨A, AN, B, BN, ls⟩ := h
  dsimp only at hv hl htx
  obtain ⟨lo, lc, rfl⟩ := HMk.form hv
  have hx := Hx.new w ⟨A, AN, B, BN, ls⟩ (.slice lo ls.length lc)
  have hBl : Below w.heap.size w (w.alloc (hkO ⟨A, AN, B, BN, ls⟩ (.slice lo ls.length lc))) := (Below.refl _ w).alloc (Nat.le_refl _) _
  have hv1 := HMk.keep hv hBl (Nat.le_refl _)
  have HTX : Hid (∀ m ∈ ls, m.tx.length ≤ 1099511627776) := htx
  clear htx hv
  obtain ⟨x0, x1, x2, x3, x4⟩ := hx.cells
  unfold hkV
  dsimp only at x0 x1 x2 x3 x4 ⊢
  have hW0 : w.alloc (hkO ⟨A, AN, B, BN, ls⟩ (.slice lo ls.length lc)) = w.alloc (Obj.cells #[Value.int IntKind.i64 A, Value.int IntKind.i64 AN, Value.int IntKind.i64 B, Value.int IntKind.i64 BN, .slice lo ls.length lc] 59) := rfl
  generalize w.alloc (hkO ⟨A, AN, B, BN, ls⟩ (.slice lo ls.length lc)) = W at *
  have hW := hW0.symm
  clear hW0
  obtain ⟨p1, hp1⟩ : ∃ p, nmB A AN = p := ⟨_, rfl⟩
  obtain ⟨p2, hp2⟩ : ∃ p, nmB B BN = p := ⟨_, rfl⟩
  have HG : Hid (rngB ⟨A, AN, B, BN, ls⟩ = (p1 && p2)) := (by show _ = _; rw [rng_nm, ← hp1, ← hp2])
  have HP1 : Hid (nmB A AN = p1) := hp1
  have HP2 : Hid (nmB B BN = p2) := hp2
  clear hp1 hp2
  go_enter Tryz.func23, Tryz.ntmps23
  go_wp2_with fail
  refine (hnumbered_f A AN W p1 HP1).mono ?_
  rintro e w1 ⟨rfl, rfl⟩
  clear hW HP1
  cases p1 with
  | false =>
    have HE : Hid (2 = r) := (by show _ = _; rw [← HR.out, chk_rng (by rw [HG.out]; rfl)])
    clear HR HG
    go_wp2
    go_ret
    exact ⟨by rw [← HE.out]; rfl, hBl⟩
  | true =>
  go_wp2_with fail
  refine (hnumbered_f B BN w1 p2 HP2).mono ?_
  rintro e W ⟨rfl, rfl⟩
  clear HP2
  cases p2 with
  | false =>
    have HE : Hid (2 = r) := (by show _ = _; rw [← HR.out, chk_rng (by rw [HG.out]; rfl)])
    clear HR HG
    go_wp2
    go_ret
    exact ⟨by rw [← HE.out]; rfl, hBl⟩
  | true =>
    obtain ⟨RO, hRO⟩ : ∃ r, oldL ⟨A, AN, B, BN, ls⟩ = r := ⟨_, rfl⟩
    obtain ⟨RN, hRN⟩ : ∃ r, newL ⟨A, AN, B, BN, ls⟩ = r := ⟨_, rfl⟩
    have HO : Hid (oldL ⟨A, AN, B, BN, ls⟩ = RO) := hRO
    have HN : Hid (newL ⟨A, AN, B, BN, ls⟩ = RN) := hRN
    have HF : Hid (fldB ls = (allB ls && checkB RO && checkB RN)) := (by show _ = _; rw [← hRO, ← hRN]; exact fld_code ls)
    have hROl : RO.length ≤ 1099511627776 := by rw [← hRO]; have := pkL_length 43 ls; simp only [oldL]; omega
    have hRNl : RN.length ≤ 1099511627776 := by rw [← hRN]; have := pkL_length 45 ls; simp only [newL]; omega
    have HROm : Hid (∀ a ∈ RO, a.length ≤ 1099511627776) := (by
      intro a ha
      rw [← hRO] at ha
      obtain ⟨m, hm, rfl⟩ := pk_mem ha
      exact HTX.out m hm)
    have HRNm : Hid (∀ a ∈ RN, a.length ≤ 1099511627776) := (by
      intro a ha
      rw [← hRN] at ha
      obtain ⟨m, hm, rfl⟩ := pk_mem ha
      exact HTX.out m hm)
    clear hRO hRN HTX
    have hxx : ∀ u : World, Low W u → Hx u w.heap.size ⟨A, AN, B, BN, ls⟩ (.slice lo ls.length lc) := fun u hu => hx.low hu
    go_upto_region 3 with fail
    go_cut [3, 4] from 5 to 51 (fun a b wz => ∃ oo oc no nc, a = .slice oo RO.length oc ∧ b = .slice no RN.length nc ∧ HS wz a RO ∧ HS wz b RN ∧ Below W.heap.size W wz)
    case first =>
      have hlow : Low W (W.drewN 1) := Below.dN (Below.refl _ W) 1
      refine wp_region_noPanic ?_
      refine wp_region_held_drew (S := fun u => Low W u) (by kernel_rfl) hlow (fun hHeld => ?_)
      refine go_take 0 19 _ (hkV ⟨A, AN, B, BN, ls⟩ (.slice lo ls.length lc)) rfl (by kernel_rfl) (by kernel_rfl) (by kernel_rfl) (by kernel_rfl) (fun _ _ _ h => h) (Or.inl ⟨by kernel_rfl, fun u hu => load_hk (hxx u hu) (.tmp 1) (by kernel_rfl) (by kernel_rfl)⟩) hHeld ?_
      simp only [Act.put, List.setIfInBounds_toArray, List.set_cons_zero, List.set_cons_succ]
      refine go_take 2 21 _ (hkV ⟨A, AN, B, BN, ls⟩ (.slice lo ls.length lc)) rfl (by kernel_rfl) (by kernel_rfl) (by kernel_rfl) (by kernel_rfl) (fun _ _ _ h => h) (Or.inl ⟨by kernel_rfl, fun u hu => load_hk (hxx u hu) (.tmp 1) (by kernel_rfl) (by kernel_rfl)⟩) hHeld ?_
      simp only [Act.put, List.setIfInBounds_toArray, List.set_cons_zero, List.set_cons_succ]
      refine go_callE 1 20 _ rfl (by kernel_rfl) (by kernel_rfl) (by kernel_rfl) 38 (.func 38) #[.tmp 19] #[59] (by kernel_rfl) #[] (by kernel_rfl) #[hkV ⟨A, AN, B, BN, ls⟩ (.slice lo ls.length lc)] (by kernel_rfl) (enters_of Tryz.func38 (by kernel_rfl) rfl) _ (hold_held hv1 hl HO hHeld) ?_
      rintro vo w1 hHeld1 ⟨hvo, hBo⟩
      obtain ⟨oo, oc, rfl⟩ := Holds.form hvo
      simp only [Act.put, List.setIfInBounds_toArray, List.set_cons_zero, List.set_cons_succ]
      refine go_callE 3 22 _ rfl (by kernel_rfl) (by kernel_rfl) (by kernel_rfl) 40 (.func 40) #[.tmp 21] #[59] (by kernel_rfl) #[] (by kernel_rfl) #[hkV ⟨A, AN, B, BN, ls⟩ (.slice lo ls.length lc)] (by kernel_rfl) (enters_of Tryz.func40 (by kernel_rfl) rfl) _ (hnew_held hv1 hl HN hHeld1) ?_
      rintro vn w2 hHeld ⟨hvn, hBn⟩
      obtain ⟨no, nc, rfl⟩ := Holds.form hvn
      simp only [Act.put, List.setIfInBounds_toArray, List.set_cons_zero, List.set_cons_succ]
      refine go_take 4 3 _ (.slice oo RO.length oc) rfl (by kernel_rfl) (by kernel_rfl) (by kernel_rfl) (by kernel_rfl) (fun _ _ _ h => h) (Or.inl ⟨by kernel_rfl, fun u hu => by kernel_rfl⟩) hHeld ?_
      simp only [Act.put, List.setIfInBounds_toArray, List.set_cons_zero, List.set_cons_succ]
      refine go_take 5 4 _ (.slice no RN.length nc) rfl (by kernel_rfl) (by kernel_rfl) (by kernel_rfl) (by kernel_rfl) (fun _ _ _ h => h) (Or.inl ⟨by kernel_rfl, fun u hu => by kernel_rfl⟩) hHeld ?_
      simp only [Act.put, List.setIfInBounds_toArray, List.set_cons_zero, List.set_cons_succ]
      refine wpAnyH_done (by kernel_rfl) ?_ _
      refine NoPanic.normal ?_
      go_wp2_with fail
      go_meet
      case rel => exact ⟨_, _, _, _, rfl, rfl, HS.keep hvo hBn (Nat.le_refl _), hvn, hHeld⟩
    case rest =>
      obtain ⟨oo, oc, no, nc, rfl, rfl, hvo, hvn, hBz⟩ := hcut
      have hB2 := hBl.trans (hBz.mono hBl.size)
      obtain ⟨y0, y1, y2, y3, y4⟩ := (hxx _ hBz).cells
      dsimp only at y0 y1 y2 y3 y4
      have hv2 := HMk.keep hv1 hBz (Nat.le_refl _)
      generalize wc = w2 at *
      clear x0 x1 x2 x3 x4
      obtain ⟨s, hs⟩ : ∃ s, allB ls = s := ⟨_, rfl⟩
      have HS1 : Hid (ls.any (fun m => !okS m.sg) = !s) := (by show _ = _; rw [any_strange, hs])
      have HF2 : Hid (fldB ls = (s && checkB RO && checkB RN)) := (by have h := HF.out; rw [hs] at h; exact h)
      clear HF hs
      go_wp2_with fail
      refine (hContains_f 61 ls (fun m => !okS m.sg) _ w2 hv2 hl (enters_of Tryz.func61 (by kernel_rfl) rfl) (fun m _ u => hstrange_f m u) (!s) HS1).mono ?_
      rintro e w3 ⟨rfl, hB3⟩
      have hx3 := (hxx _ hBz).low hB3
      have hvo3 := HS.keep hvo hB3 (Nat.le_refl _)
      have hvn3 := HS.keep hvn hB3 (Nat.le_refl _)
      have hv3 := HMk.keep hv2 hB3 (Nat.le_refl _)
      have hB4 := hB2.trans (hB3.mono hB2.size)
      obtain ⟨z0, z1, z2, z3, z4⟩ := hx3.cells
      dsimp only at z0 z1 z2 z3 z4
      clear y0 y1 y2 y3 y4 HS1
      cases s with
      | false =>
        have HE : Hid (6 = r) := (by show _ = _; rw [← HR.out, chk_fld HG.out (by rw [HF2.out]; rfl)])
        clear HR HG HF2
        go_wp2
        go_ret
        exact ⟨by rw [← HE.out]; rfl, hB4⟩
      | true =>
      obtain ⟨q1, hq1⟩ : ∃ q, checkB RO = q := ⟨_, rfl⟩
      obtain ⟨q2, hq2⟩ : ∃ q, checkB RN = q := ⟨_, rfl⟩
      have HQ1 : Hid (checkB RO = q1) := hq1
      have HQ2 : Hid (checkB RN = q2) := hq2
      have HF3 : Hid (fldB ls = (q1 && q2)) := (by have h := HF2.out; rw [hq1, hq2, Bool.true_and] at h; exact h)
      clear HF2 hq1 hq2
      cases q1 with
      | false =>
        have HE : Hid (6 = r) := (by show _ = _; rw [← HR.out, chk_fld HG.out (by rw [HF3.out]; rfl)])
        clear HR HG HF3
        go_wp2_with fail
        refine (hlCheck_f _ RO w3 hROl HROm.out hvo3 false HQ1 6 rfl).mono ?_
        rintro e w4 ⟨rfl, rfl⟩
        go_wp2
        go_ret
        exact ⟨by rw [← HE.out]; rfl, hB4⟩
      | true =>
      go_wp2_with fail
      refine (hlCheck_f _ RO w3 hROl HROm.out hvo3 true HQ1 0 rfl).mono ?_
      rintro e w4 ⟨rfl, rfl⟩
      cases q2 with
      | false =>
        have HE : Hid (6 = r) := (by show _ = _; rw [← HR.out, chk_fld HG.out (by rw [HF3.out]; rfl)])
        clear HR HG HF3
        go_wp2_with fail
        refine (hlCheck_f _ RN w3 hRNl HRNm.out hvn3 false HQ2 6 rfl).mono ?_
        rintro e w4 ⟨rfl, rfl⟩
        go_wp2
        go_ret
        exact ⟨by rw [← HE.out]; rfl, hB4⟩
      | true =>
      go_wp2_with fail
      refine (hlCheck_f _ RN w3 hRNl HRNm.out hvn3 true HQ2 0 rfl).mono ?_
      rintro e w4 ⟨rfl, rfl⟩
      have HFT : Hid (fldB ls = true) := (by have h := HF3.out; exact h)
      clear HF3 HQ1 HQ2
      by_cases ha : (RO.length : Int) = AN
      · have ea : ((RO.length : Int) != AN) = false := by simpa using ha
        by_cases hb : (RN.length : Int) = BN
        · have eb : ((RN.length : Int) != BN) = false := by simpa using hb
          obtain ⟨q, hq⟩ : ∃ q, ls.any chgB = q := ⟨_, rfl⟩
          have HQ : Hid (ls.any chgB = q) := hq
          have HE : Hid ((if q = true then 0 else 50) = r) := (by
            show _ = _
            rw [← HR.out, chk_end (h := ⟨A, AN, B, BN, ls⟩) HG.out HFT.out (by rw [HO.out, ha]) (by rw [HN.out, hb]) hq])
          clear HR HG HFT hq ha hb
          go_wp2_with fail
          refine (hContains_f 63 ls chgB _ w3 hv3 hl (enters_of Tryz.func63 (by kernel_rfl) rfl) (fun m _ u => hchanged_f m u) q HQ).mono ?_
          rintro e w5 ⟨rfl, hB5⟩
          have hB6 := hB4.trans (hB5.mono hB4.size)
          cases q with
          | false =>
            go_wp2
            go_ret
            exact ⟨by rw [← HE.out]; rfl, hB6⟩
          | true =>
            go_wp2
            go_ret
            exact ⟨by rw [← HE.out]; rfl, hB6⟩
        · have eb : ((RN.length : Int) != BN) = true := by simpa using hb
          have HE : Hid (120 = r) := (by
            show _ = _
            rw [← HR.out, chk_cnt (h := ⟨A, AN, B, BN, ls⟩) HG.out HFT.out (.inr (by rw [HN.out]; exact fun k => hb k.symm))])
          clear HR HG HFT ha hb
          go_wp2
          go_ret
          exact ⟨by rw [← HE.out]; rfl, hB4⟩
      · have ea : ((RO.length : Int) != AN) = true := by simpa using ha
        have HE : Hid (120 = r) := (by
          show _ = _
          rw [← HR.out, chk_cnt (h := ⟨A, AN, B, BN, ls⟩) HG.out HFT.out (.inl (by rw [HO.out]; exact fun k => ha k.symm))])
        clear HR HG HFT ha
        go_wp2
        go_ret
        exact ⟨by rw [← HE.out]; rfl, hB4⟩
end Go.Proofs.YtgiojkhmkeocfaaGreatDoor

/- The code's text of a hunk, check and Print of layer 15, walked. -/
set_option maxRecDepth 20000
namespace Go.Proofs.YtgiojkhmkeocfaaGreatDoor
open Go.RowKit Go.Proofs.YtgiojkhmkeocfaaGreatDoor.Tx

theorem Hx.wr {B b : Nat} {v v' : Value} {w w' : World} {M : Nat} {h : Hk} {y : Value} (q : Hx w M h y) (hw : Wr B b v v' w w') (ho : Off M b v) : Hx w' M h y ∧ Off M b v' := hw.block q ho
end Go.Proofs.YtgiojkhmkeocfaaGreatDoor

/- The code's check and Print of layer 15, walked. -/
set_option maxRecDepth 20000
namespace Go.Proofs.YtgiojkhmkeocfaaGreatDoor
open Go.RowKit Go.Proofs.YtgiojkhmkeocfaaGreatDoor.Tx

/-- a patch as a value, as a variable -/
def ptV (p : Pth) (v : Value) : Value := .agg #[.string ⟨p.old.toArray⟩, .string ⟨p.new.toArray⟩, v]
def ptO (p : Pth) (v : Value) : Obj := .cells #[.string ⟨p.old.toArray⟩, .string ⟨p.new.toArray⟩, v] 55
def Px (u : World) (b : Nat) (p : Pth) (v : Value) : Prop := u.heap[b]? = some (ptO p v)
theorem Px.cells {u : World} {b : Nat} {p : Pth} {v : Value} (q : Px u b p v) : u.cell? ⟨b, 0, none⟩ = some (.string ⟨p.old.toArray⟩) ∧ u.cell? ⟨b, 1, none⟩ = some (.string ⟨p.new.toArray⟩) ∧ u.cell? ⟨b, 2, none⟩ = some v := by
  unfold Px ptO at q
  refine ⟨?_, ?_, ?_⟩ <;> rw [Lib.cell_of_heap q] <;> rfl
theorem Px.lt {u : World} {b : Nat} {p : Pth} {v : Value} (q : Px u b p v) : b < u.heap.size := (Array.getElem?_eq_some_iff.1 q).1
theorem Px.low {u u' : World} {b : Nat} {p : Pth} {v : Value} (q : Px u b p v) (hg : Below u.heap.size u u') : Px u' b p v := (hg.block b q.lt).trans q
theorem Px.wr {B b : Nat} {v v' : Value} {w w' : World} {M : Nat} {p : Pth} {y : Value} (q : Px w M p y) (hw : Wr B b v v' w w') (ho : Off M b v) : Px w' M p y ∧ Off M b v' := hw.block q ho
end Go.Proofs.YtgiojkhmkeocfaaGreatDoor

/- The reference's Name, Wrong and span of layer 15, walked. -/
set_option maxRecDepth 20000
namespace Go.Proofs.YtgiojkhmkeocfaaGreatDoor
open Go.RowKit Go.Proofs.YtgiojkhmkeocfaaGreatDoor.Tx
attribute [local go_sem] no_at

theorem all_drop1 {l : List UInt8} {k : Nat} (hk : k < l.length) : (l.drop k).all nameC = (nameC l[k] && (l.drop (k + 1)).all nameC) := by
  rw [List.drop_eq_getElem_cons hk, List.all_cons]
set_option maxHeartbeats 4000000 in
set_option maxRecDepth 10000 in
theorem rName_f (l : List UInt8) (w : World) (hl : l.length ≤ 1099511627776) (t : List UInt8) (HT : Hid (nameT l = t)) :
    Calls Tryz.prog 158 #[.string ⟨l.toArray⟩] w fun e w' => e = .returned (.string ⟨t.toArray⟩) ∧ Below w.heap.size w w' := by
  by_cases h0 : l = []
  · have HE : Hid (devN = t) := (by have h := HT.out; unfold nameT at h; rw [if_pos h0] at h; exact h)
    subst h0
    go_enter Tryz.func158, Tryz.ntmps158
    go_wp2
    go_ret
    exact ⟨by rw [← HE.out]; rfl, Below.refl _ _⟩
  · have e0 : l.isEmpty = false := (by cases l with | nil => exact absurd rfl h0 | cons _ _ => rfl)
    have hq := refQuote_any l
    obtain ⟨q, hq2⟩ : ∃ q, l.all nameC = q := ⟨_, rfl⟩
    have HA0 : Hid ((l.drop 0).all nameC = q) := hq2
    have HQ : Hid (l.all nameC = q) := hq2
    clear hq2
    go_enter Tryz.func158, Tryz.ntmps158
    go_wp2
    go_loopw [3] (fun i wr => ∃ k : Nat, k ≤ l.length ∧ i = .int .i64 k ∧ wr = w ∧ Hid ((l.drop k).all nameC = q)) (fun i _ => l.length - (intOf i).toNat)
    case atStart => exact ⟨0, Nat.zero_le _, by go_num, rfl, HA0⟩
    case round =>
    obtain ⟨k, hk, rfl, rfl, HI⟩ := hrel
    clear HA0
    by_cases hlt : k < l.length
    · have HI2 := HI.out
      rw [all_drop1 hlt] at HI2
      have i1 : (0 : Int) ≤ (k : Int) := by omega
      have i2 : (k : Int) < (l.length : Int) := by omega
      obtain ⟨c, hc⟩ : ∃ c, l[k] = c := ⟨_, rfl⟩
      rw [hc] at HI2
      have hcn := c.toNat_lt
      clear HI
      cases hn : nameC c with
      | true =>
        rw [hn, Bool.true_and] at HI2
        have HI3 : Hid ((l.drop (k + 1)).all nameC = q) := HI2
        have hx := of_decide_eq_true hn
        have j1 : ¬ (c.toNat : Int) < 33 := by omega
        have j2 : ¬ (126 : Int) < (c.toNat : Int) := by omega
        have j3 : ((c.toNat : Int) == 34) = false := beq_eq_false_iff_ne.2 (by omega)
        clear HI2 hn hx
        go_wp2
        exact ⟨⟨k + 1, by omega, by go_num, by first | rfl | trivial, HI3⟩, by simp [intOf]; omega⟩
      | false =>
        rw [hn, Bool.false_and] at HI2
        have HE : Hid (Q.quote l = t) := (by have h := HT.out; unfold nameT at h; rw [if_neg h0, if_neg (fun z => by rw [HQ.out, ← HI2] at z; cases z.1)] at h; exact h)
        have hx := of_decide_eq_false hn
        clear HI2 hn
        by_cases j1 : (c.toNat : Int) < 33
        · clear hx
          go_wp2_with fail
          refine (hq _ hl).mono ?_
          rintro e w1 ⟨rfl, hB⟩
          go_wp2
          go_ret
          exact ⟨by rw [← HE.out]; rfl, hB⟩
        · by_cases j2 : (126 : Int) < (c.toNat : Int)
          · clear hx
            go_wp2_with fail
            refine (hq _ hl).mono ?_
            rintro e w1 ⟨rfl, hB⟩
            go_wp2
            go_ret
            exact ⟨by rw [← HE.out]; rfl, hB⟩
          · have j3 : ((c.toNat : Int) == 34) = true := beq_iff_eq.2 (by omega)
            clear hx
            go_wp2_with fail
            refine (hq _ hl).mono ?_
            rintro e w1 ⟨rfl, hB⟩
            go_wp2
            go_ret
            exact ⟨by rw [← HE.out]; rfl, hB⟩
    · have hqt : q = true := (by
        have h := HI.out
        rw [List.drop_of_length_le (by omega)] at h
        exact h.symm)
      have hend : ¬ (k : Int) < (l.length : Int) := by omega
      clear HI
      by_cases h1 : l = devN
      · have HE : Hid (Q.quote l = t) := (by have h := HT.out; unfold nameT at h; rw [if_neg h0, if_neg (fun z => z.2 h1)] at h; exact h)
        have e1 : (l == [47, 100, 101, 118, 47, 110, 117, 108, 108]) = true := (by rw [beq_iff_eq]; exact h1)
        clear h1
        go_wp2_with fail
        refine (hq _ hl).mono ?_
        rintro e w1 ⟨rfl, hB⟩
        go_wp2
        go_ret
        exact ⟨by rw [← HE.out]; rfl, hB⟩
      · have HE : Hid (l = t) := (by have h := HT.out; unfold nameT at h; rw [if_neg h0, if_pos ⟨by rw [HQ.out, hqt], h1⟩] at h; exact h)
        have e1 : (l == [47, 100, 101, 118, 47, 110, 117, 108, 108]) = false := beq_eq_false_iff_ne.2 h1
        clear h1
        go_wp2
        go_ret
        exact ⟨by rw [← HE.out]; rfl, Below.refl _ _⟩
end Go.Proofs.YtgiojkhmkeocfaaGreatDoor

/- num.quotedByte, walked. -/
set_option maxRecDepth 20000
namespace Go.Proofs.YtgiojkhmkeocfaaGreatDoor
open Q Go.RowKit Go.Proofs.YtgiojkhmkeocfaaGreatDoor.Tx
attribute [local go_sem] ba_at hexl_at


theorem idx_hex (x : UInt8) : Lib.indexByte [48, 49, 50, 51, 52, 53, 54, 55, 56, 57, 97, 98, 99, 100, 101, 102] x = digitI x.toNat := by
  have key : ∀ i : Fin 256, Lib.indexByte [48, 49, 50, 51, 52, 53, 54, 55, 56, 57, 97, 98, 99, 100, 101, 102] (UInt8.ofNat i.val) = digitI (i.val : Int) := by decide +kernel
  have := key ⟨x.toNat, x.toNat_lt⟩
  simpa using this

theorem IndexByte_hex (x : UInt8) (w : World) :
    Calls Tryz.prog 272 #[.string ⟨#[48, 49, 50, 51, 52, 53, 54, 55, 56, 57, 97, 98, 99, 100, 101, 102]⟩, .int .u8 (x.toNat : Int)] w fun e w' => e = .returned (.int .i64 (digitI x.toNat)) ∧ w' = w := by
  have h := Tryz.strings_IndexByte ⟨#[48, 49, 50, 51, 52, 53, 54, 55, 56, 57, 97, 98, 99, 100, 101, 102]⟩ (x.toNat : Int) w
  refine h.mono ?_
  rintro e w' ⟨rfl, rfl⟩
  have e : ((x.toNat : Int).toNat).toUInt8 = x := by simp
  rw [e, ← idx_hex]
  exact ⟨rfl, rfl⟩

theorem or_nib (x y : Int) (h0 : 0 ≤ x) (h1 : x ≤ 15) (h2 : 0 ≤ y) (h3 : y ≤ 15) : bits BinOp.or IntKind.i64 (x * 16) y % 256 = 16 * x + y := by
  have key : ∀ i j : Fin 16, bits BinOp.or IntKind.i64 ((i.val : Int) * 16) (j.val : Int) % 256 = 16 * (i.val : Int) + (j.val : Int) := by decide +kernel
  have := key ⟨x.toNat, by omega⟩ ⟨y.toNat, by omega⟩
  simp only [Int.toNat_of_nonneg h0, Int.toNat_of_nonneg h2] at this
  exact this

set_option maxHeartbeats 1000000 in
theorem quotedByte_two (a b : UInt8) (t : List UInt8) (w : World) :
    Calls Tryz.prog 246 #[.string ⟨((92 : UInt8) :: a :: b :: t).toArray⟩] w fun e w' => e = .returned (.tuple #[.int .u8 (pv a b), .int .i64 (pn a b)]) ∧ ∃ n, w' = w.drewN n := by
  have hp : plainI 92 = false := by decide
  obtain ⟨ha, ha'⟩ := digitI_ge a.toNat
  obtain ⟨hb, hb'⟩ := digitI_ge b.toNat
  go_enter Tryz.func246, Tryz.ntmps246
  go_wp2_with fail
  refine (isPlain_any _ _).mono ?_
  rintro e w' ⟨rfl, rfl⟩
  go_wp2_with fail
  go_quiet ((go_at_call 272; exact Calls.quiet_of_same (IndexByte_hex _ _)))
  by_cases h1 : digitI a.toNat < 0
  · go_wp2
    go_ret2
    exact ⟨ret_two (pv_no (pairOk_lo h1)) (pn_no (pairOk_lo h1)), _, rfl⟩
  · by_cases h2 : digitI b.toNat < 0
    · go_wp2
      go_ret2
      exact ⟨ret_two (pv_no (pairOk_hi h2)) (pn_no (pairOk_hi h2)), _, rfl⟩
    · go_wp2_with fail
      rw [or_nib _ _ (by omega) ha' (by omega) hb']
      refine (isPlain_any _ _).mono ?_
      rintro e w' ⟨rfl, rfl⟩
      have hm := pairOk_mid (a := a) (b := b) (by omega) (by omega)
      have HM : Hid (pairOk a b = !plainI (16 * digitI a.toNat + digitI b.toNat)) := hm
      clear hm
      cases hpl : plainI (16 * digitI a.toNat + digitI b.toNat)
      · go_wp2
        go_ret2
        have hk : pairOk a b = true := by rw [HM.out, hpl]; rfl
        exact ⟨ret_two (pv_yes hk) (pn_yes hk), _, rfl⟩
      · go_wp2
        go_ret2
        have hk : pairOk a b = false := by rw [HM.out, hpl]; rfl
        exact ⟨ret_two (pv_no hk) (pn_no hk), _, rfl⟩

set_option maxHeartbeats 1000000 in
theorem quotedByte_plain (c : UInt8) (t : List UInt8) (w : World) (h : plainI c.toNat = true) :
    Calls Tryz.prog 246 #[.string ⟨(c :: t).toArray⟩] w fun e w' => e = .returned (.tuple #[.int .u8 (c.toNat : Int), .int .i64 1]) ∧ ∃ n, w' = w.drewN n := by
  go_enter Tryz.func246, Tryz.ntmps246
  go_wp2_with fail
  refine (isPlain_any _ _).mono ?_
  rintro e w' ⟨rfl, rfl⟩
  go_wp2
  go_ret2
  exact ⟨rfl, 0, rfl⟩

set_option maxHeartbeats 1000000 in
theorem quotedByte_none (c : UInt8) (t : List UInt8) (w : World) (h : plainI c.toNat = false) (h2 : ¬ (c.toNat = 92 ∧ 2 ≤ t.length)) :
    Calls Tryz.prog 246 #[.string ⟨(c :: t).toArray⟩] w fun e w' => e = .returned (.tuple #[.int .u8 0, .int .i64 0]) ∧ ∃ n, w' = w.drewN n := by
  by_cases h3 : c.toNat = 92
  · have hb : ((c.toNat : Int) != 92) = false := by simp; omega
    have hl : ((t.length : Int) + 1 < 3) := by omega
    clear h2
    go_enter Tryz.func246, Tryz.ntmps246
    go_wp2_with fail
    refine (isPlain_any _ _).mono ?_
    rintro e w' ⟨rfl, rfl⟩
    go_wp2
    go_ret2
    exact ⟨rfl, 0, rfl⟩
  · have hb : ((c.toNat : Int) != 92) = true := by simp; omega
    clear h2
    go_enter Tryz.func246, Tryz.ntmps246
    go_wp2_with fail
    refine (isPlain_any _ _).mono ?_
    rintro e w' ⟨rfl, rfl⟩
    go_wp2
    go_ret2
    exact ⟨rfl, 0, rfl⟩
end Go.Proofs.YtgiojkhmkeocfaaGreatDoor

/- num.Unquote, walked: what it returns is what the plain function unquote says. -/
set_option maxRecDepth 20000
namespace Go.Proofs.YtgiojkhmkeocfaaGreatDoor
open Q Go.RowKit Go.Proofs.YtgiojkhmkeocfaaGreatDoor.Tx
attribute [local go_sem] ba_at ByteArray.extract_mk

def sizeS : Value → Nat
  | .string s => s.data.size
  | _ => 0

theorem ret_uq {l a b : List UInt8} {n : Int} (h : uqa l = a ∧ uqb l = b ∧ uqe l = n) : Ending.returned (.tuple #[.string ⟨a.toArray⟩, .string ⟨b.toArray⟩, .int .i64 n]) = .returned (.tuple #[.string ⟨(uqa l).toArray⟩, .string ⟨(uqb l).toArray⟩, .int .i64 (uqe l)]) := by
  rw [h.1, h.2.1, h.2.2]

set_option maxHeartbeats 2000000 in
set_option maxRecDepth 100000 in
theorem Unquote_body (l : List UInt8) (w : World) (hl : l.length ≤ 1099511627776) :
    Calls Tryz.prog 202 #[.string ⟨((34 : UInt8) :: l).toArray⟩] w fun e w' => e = .returned (.tuple #[.string ⟨(uqa (34 :: l)).toArray⟩, .string ⟨(uqb (34 :: l)).toArray⟩, .int .i64 (uqe (34 :: l))]) ∧ Below w.heap.size w w' := by
  have HU : Hid (unquote (34 :: l) = body l) := by show unquote (34 :: l) = body l; simp [unquote]
  go_enter Tryz.func202, Tryz.ntmps202
  go_wp2
  go_loopw [6] (fun rest wr => ∃ (r acc : List UInt8) (v : Value), rest = .string ⟨r.toArray⟩ ∧ Bld 77 5 w.heap.size w.heap.size v (Lib.byteCells acc) wr ∧ Below w.heap.size w wr ∧ body l = (body r).map (fun p => (acc ++ p.1, p.2)) ∧ acc.length + r.length ≤ l.length) (fun rest _ => sizeS rest)
  case atStart => exact ⟨l, [], _, rfl, Bld.fresh 77 5 w, (Below.refl _ w).alloc (Nat.le_refl _) _, by simp, by simp⟩
  case round =>
    obtain ⟨r, acc, v, rfl, hB, hbr, hbody, hal⟩ := hrel
    have HB : Hid (body l = (body r).map (fun p => (acc ++ p.1, p.2))) := hbody
    clear hbody
    match r, hal, HB with
    | [], hal, HB =>
      go_wp2
      go_ret3
      exact ⟨ret_uq (uq_none (by rw [HU.out, HB.out]; rfl)), hbr⟩
    | c :: t, hal, HB =>
      have hc := c.toNat_lt
      by_cases h34 : c.toNat = 34
      · have hb : ((c.toNat : Int) != 34) = false := by simp; omega
        have HE : Hid (unquote (34 :: l) = some (acc, t)) := by
          show unquote (34 :: l) = some (acc, t)
          rw [HU.out, HB.out, body_end t h34]; simp
        clear h34
        have hI : Lib.IsBuilderF 77 5 w.heap.size w.heap.size (Lib.byteCells acc) wr.drew := hB.isF
        have hsz : w.heap.size ≤ wr.drew.heap.size := hbr.size
        go_wp2_with fail
        go_region_with (go_at_call 41; refine (Tryz.Builder_String_any_k w.heap.size w.heap.size acc _ hI hsz).mono ?_; rintro e w4 ⟨rfl, _, hb4, _⟩)
        all_goals
          go_wp2
          go_ret3
          exact ⟨ret_uq (uq_some HE.out), hbr.drew.trans hb4⟩
      · have hb : ((c.toNat : Int) != 34) = true := by simp; omega
        cases hpl : plainI c.toNat
        · by_cases h92 : c.toNat = 92 ∧ 2 ≤ t.length
          · match t, hal, HB, h92 with
            | a :: b :: t, hal, HB, ⟨h92, _⟩ =>
              obtain rfl : c = 92 := UInt8.toNat_inj.1 h92
              cases hk : pairOk a b
              · have HE : Hid (unquote (34 :: l) = none) := by
                  show unquote (34 :: l) = none
                  rw [HU.out, HB.out, body_pair_no t h92 hk]; rfl
                have h1 : pv a b = 0 := (pv_no hk).symm
                have h2 : pn a b = 0 := (pn_no hk).symm
                go_wp2_with fail
                refine (quotedByte_two a b t _).mono ?_
                rintro e w4 ⟨rfl, nq, rfl⟩
                go_wp2
                go_ret3
                exact ⟨ret_uq (uq_none HE.out), below_drewN hbr nq⟩
              · have HE : Hid (body l = (body t).map (fun p => (acc ++ [UInt8.ofNat (pairI a b).toNat] ++ p.1, p.2))) := by
                  show body l = _
                  rw [HB.out, body_pair t h92 hk]; simp [Function.comp_def]
                have h2 : pn a b = 3 := (pn_yes hk).symm
                have hpb := pairI_byte hk
                have HV : Hid (pv a b = ((UInt8.ofNat (pairI a b).toNat).toNat : Int)) := by
                  show pv a b = _
                  rw [← pv_yes hk]
                  simp only [UInt8.toNat_ofNat']
                  omega
                clear hpb
                go_wp2_with fail
                refine (quotedByte_two a b t _).mono ?_
                rintro e w4 ⟨rfl, nq, rfl⟩
                go_wp2_with fail
                rw [HV.out]
                refine (WriteByte_any w.heap.size w.heap.size v _ _ _ (Bld.drewN hB nq) (by rw [Lib.byteCells_length]; omega) hbr.size).mono ?_
                rintro e w5 ⟨rfl, v5, hB5, _, _, hb5⟩
                go_wp2
                go_roundw
                case rel => exact ⟨t, acc ++ [UInt8.ofNat (pairI a b).toNat], v5, rfl, by rw [byteCells_snoc]; exact hB5, (below_drewN hbr nq).trans hb5, HE.out, by simp at hal ⊢; omega⟩
                case measure => first | (simp [sizeS]; done) | (simp [sizeS]; omega)
          · have HE : Hid (unquote (34 :: l) = none) := by
              show unquote (34 :: l) = none
              rw [HU.out, HB.out, body_none t h34 hpl h92]; rfl
            go_wp2_with fail
            refine (quotedByte_none c t _ hpl h92).mono ?_
            rintro e w4 ⟨rfl, nq, rfl⟩
            go_wp2
            go_ret3
            exact ⟨ret_uq (uq_none HE.out), below_drewN hbr nq⟩
        · have HE : Hid (body l = (body t).map (fun p => (acc ++ [c] ++ p.1, p.2))) := by
            show body l = _
            rw [HB.out, body_plain t hpl]; simp [Function.comp_def]
          go_wp2_with fail
          refine (quotedByte_plain c t _ hpl).mono ?_
          rintro e w4 ⟨rfl, nq, rfl⟩
          go_wp2_with fail
          refine (WriteByte_any w.heap.size w.heap.size v _ _ _ (Bld.drewN hB nq) (by rw [Lib.byteCells_length]; simp at hal; omega) hbr.size).mono ?_
          rintro e w5 ⟨rfl, v5, hB5, _, _, hb5⟩
          go_wp2
          go_roundw
          case rel => exact ⟨t, acc ++ [c], v5, rfl, by rw [byteCells_snoc]; exact hB5, (below_drewN hbr nq).trans hb5, HE.out, by simp at hal ⊢; omega⟩
          case measure => first | (simp [sizeS]; done) | (simp [sizeS]; omega)

set_option maxHeartbeats 1000000 in
theorem Unquote_any (l : List UInt8) (w : World) (hl : l.length ≤ 1099511627776) :
    Calls Tryz.prog 202 #[.string ⟨l.toArray⟩] w fun e w' => e = .returned (.tuple #[.string ⟨(uqa l).toArray⟩, .string ⟨(uqb l).toArray⟩, .int .i64 (uqe l)]) ∧ Below w.heap.size w w' := by
  match l, hl with
  | [], _ =>
    go_enter Tryz.func202, Tryz.ntmps202
    go_wp2
    go_ret3
    exact ⟨ret_uq (uq_none rfl), Below.refl _ _⟩
  | c :: t, hl =>
    by_cases h : c.toNat = 34
    · obtain rfl : c = 34 := UInt8.toNat_inj.1 h
      exact Unquote_body t w (by simp at hl; omega)
    · have hb : ((c.toNat : Int) != 34) = true := by simp; omega
      have HU : Hid (unquote (c :: t) = none) := by show unquote (c :: t) = none; simp [unquote, h]
      clear h
      go_enter Tryz.func202, Tryz.ntmps202
      go_wp2
      go_ret3
      exact ⟨ret_uq (uq_none HU.out), Below.refl _ _⟩
end Go.Proofs.YtgiojkhmkeocfaaGreatDoor

/- The plain Unquote of the reference, walked: what it returns is what the plain function unquote says. -/
set_option maxRecDepth 20000
namespace Go.Proofs.YtgiojkhmkeocfaaGreatDoor
open Q Go.RowKit Go.Proofs.YtgiojkhmkeocfaaGreatDoor.Tx Go.Shelf
attribute [local go_sem] ba_at ByteArray.extract_mk

theorem digit_same (n : Int) (w : World) : Calls Tryz.prog 218 #[.int .u8 n] w fun e w' => e = .returned (.int .i64 (digitI n)) ∧ w' = w := (digit_any n w).mono fun _ _ h => ⟨h.1, h.2.symm⟩
theorem plain_same (n : Int) (w : World) : Calls Tryz.prog 217 #[.int .u8 n] w fun e w' => e = .returned (.bool (plainI n)) ∧ w' = w := (plain_any n w).mono fun _ _ h => ⟨h.1, h.2.symm⟩

set_option maxHeartbeats 4000000 in
set_option maxRecDepth 100000 in
theorem refUnquote_body (L : List UInt8) (w : World) (hl : L.length ≤ 1099511627777) (h0 : 0 < L.length) (h34 : ((L[0].toNat : Int) != 34) = false) (HU : Hid (unquote L = body (L.drop 1))) :
    Calls Tryz.prog 157 #[.string ⟨L.toArray⟩] w fun e w' => e = .returned (.tuple #[.string ⟨(uqa L).toArray⟩, .string ⟨(uqb L).toArray⟩, .int .i64 (uqe L)]) ∧ Below w.heap.size w w' := by
  obtain ⟨i0, hi, hz0, hz1, hz2⟩ := info_parts infoU8
  have hnb : ((L.length : Int) == 0) = false := beq_eq_false_iff_ne.2 (by omega)
  go_enter Tryz.func157, Tryz.ntmps157
  go_wp2
  go_loopw [5, 6] (fun out i wr => ∃ (k : Nat) (acc : List UInt8), 1 ≤ k ∧ k ≤ L.length ∧ i = .int .i64 k ∧ wr.ownsRowF w.heap.size 5 1 out acc.length (Lib.byteCells acc) ∧ Below w.heap.size w wr ∧ body (L.drop 1) = (body (L.drop k)).map (fun p => (acc ++ p.1, p.2)) ∧ acc.length ≤ k) (fun _ i _ => L.length - (intOf i).toNat)
  case atStart => exact ⟨1, [], by omega, by omega, rfl, World.ownsRowF_nil _ _ _ _, Below.refl _ _, by simp, by simp⟩
  case round =>
    obtain ⟨k, acc, hk1, hk, rfl, hown, hbr, hbody, hal⟩ := hrel
    have HB : Hid (body (L.drop 1) = (body (L.drop k)).map (fun p => (acc ++ p.1, p.2))) := hbody
    clear hbody
    by_cases hlt : k < L.length
    · have hdk : L.drop k = L[k] :: L.drop (k + 1) := List.drop_eq_getElem_cons hlt
      have hc := L[k].toNat_lt
      by_cases h34' : L[k].toNat = 34
      · have hb : ((L[k].toNat : Int) == 34) = true := by simp; omega
        have HE : Hid (unquote L = some (acc, L.drop (k + 1))) := by
          show unquote L = _
          rw [HU.out, HB.out, hdk, body_end _ h34']; simp
        clear hdk h34'
        have hcs := fun nq => conv_string (P := Tryz.prog) (wr.drewN nq) 75 9 5 w.heap.size u5 acc Tryz.underlying75 Tryz.underlying5 Tryz.underlying9 hown
        have hcs2 := conv_string (P := Tryz.prog) wr.drew 75 9 5 w.heap.size u5 acc Tryz.underlying75 Tryz.underlying5 Tryz.underlying9 hown
        go_wp2_with fail
        go_region
        go_wp2
        go_ret3
        rw [List.take_of_length_le (by simp)]
        exact ⟨ret_uq (uq_some HE.out), hbr.drew⟩
      · have hb : ((L[k].toNat : Int) == 34) = false := by simp; omega
        cases hpl : plainI L[k].toNat
        · by_cases h92 : L[k].toNat = 92
          · have hb2 : ((L[k].toNat : Int) == 92) = true := by simp; omega
            by_cases hk2 : k + 2 < L.length
            · have hdk' : L.drop (k + 1) = L[k + 1] :: L[k + 2] :: L.drop (k + 3) := by
                rw [List.drop_eq_getElem_cons (by omega), List.drop_eq_getElem_cons (by omega)]
              rw [hdk'] at hdk
              have H1 : Hid (pairOk L[k + 1] L[k + 2] = false → unquote L = none) := by
                intro hno
                rw [HU.out, HB.out, hdk, body_pair_no _ h92 hno]; rfl
              have H2 : Hid (pairOk L[k + 1] L[k + 2] = true → body (L.drop 1) = (body (L.drop (k + 3))).map (fun p => (acc ++ [UInt8.ofNat (pairI L[k + 1] L[k + 2]).toNat] ++ p.1, p.2))) := by
                intro hyes
                rw [HB.out, hdk, body_pair _ h92 hyes]; simp [Function.comp_def]
              clear hdk hdk' h92 h34'
              obtain ⟨ha, ha'⟩ := digitI_ge L[k + 1].toNat
              obtain ⟨hb', hb''⟩ := digitI_ge L[k + 2].toNat
              have g1 : (k : Int) + 2 < (L.length : Int) := by omega
              have g2 : (k : Int) + 1 < (L.length : Int) := by omega
              have x1 := fun u : World => idx_str (P := Tryz.prog) 9 Tryz.underlying9 L ((k : Int) + 1) (k + 1) (by omega) (by omega) u
              have x2 := fun u : World => idx_str (P := Tryz.prog) 9 Tryz.underlying9 L ((k : Int) + 2) (k + 2) (by omega) (by omega) u
              have w1 : IntKind.i64.wrap ((k : Int) + 1) = (k : Int) + 1 := wrap_i64 (by omega) (by omega)
              have w2 : IntKind.i64.wrap ((k : Int) + 2) = (k : Int) + 2 := wrap_i64 (by omega) (by omega)
              by_cases h1 : digitI L[k + 1].toNat < 0
              · have d1 : decide (0 ≤ digitI L[k + 1].toNat) = false := by simp; omega
                go_wp2_with fail
                refine (plain_any _ _).mono ?_
                rintro e w' ⟨rfl, rfl⟩
                go_wp2_with fail
                go_quiet ((first | (go_at_call 218; exact Calls.quiet_of_same (digit_same _ _)) | (go_at_call 217; exact Calls.quiet_of_same (plain_same _ _))))
                go_wp2
                go_ret3
                exact ⟨ret_uq (uq_none (H1.out (pairOk_lo h1))), below_drewN hbr _⟩
              · have d1 : decide (0 ≤ digitI L[k + 1].toNat) = true := by simp; omega
                by_cases h2 : digitI L[k + 2].toNat < 0
                · have d2 : decide (0 ≤ digitI L[k + 2].toNat) = false := by simp; omega
                  go_wp2_with fail
                  refine (plain_any _ _).mono ?_
                  rintro e w' ⟨rfl, rfl⟩
                  go_wp2_with fail
                  go_quiet ((first | (go_at_call 218; exact Calls.quiet_of_same (digit_same _ _)) | (go_at_call 217; exact Calls.quiet_of_same (plain_same _ _))))
                  go_wp2
                  go_ret3
                  exact ⟨ret_uq (uq_none (H1.out (pairOk_hi h2))), below_drewN hbr _⟩
                · have d2 : decide (0 ≤ digitI L[k + 2].toNat) = true := by simp; omega
                  have HM : Hid (pairOk L[k + 1] L[k + 2] = !plainI (16 * digitI L[k + 1].toNat + digitI L[k + 2].toNat)) := pairOk_mid h1 h2
                  have m1 : IntKind.i64.wrap (16 * digitI L[k + 1].toNat) = 16 * digitI L[k + 1].toNat := wrap_i64 (by omega) (by omega)
                  have m2 : IntKind.i64.wrap (16 * digitI L[k + 1].toNat + digitI L[k + 2].toNat) = 16 * digitI L[k + 1].toNat + digitI L[k + 2].toNat := wrap_i64 (by omega) (by omega)
                  have m3 : IntKind.u8.wrap (16 * digitI L[k + 1].toNat + digitI L[k + 2].toNat) = 16 * digitI L[k + 1].toNat + digitI L[k + 2].toNat := wrap_u8 (by omega) (by omega)
                  have m4 : (16 * digitI L[k + 1].toNat + digitI L[k + 2].toNat) % 256 = 16 * digitI L[k + 1].toNat + digitI L[k + 2].toNat := by omega
                  cases hpp : plainI (16 * digitI L[k + 1].toNat + digitI L[k + 2].toNat)
                  · have hyes : pairOk L[k + 1] L[k + 2] = true := by rw [HM.out, hpp]; rfl
                    have H3 := H2.out hyes
                    have HE : Hid (body (L.drop 1) = (body (L.drop (k + 3))).map (fun p => (acc ++ [UInt8.ofNat (pairI L[k + 1] L[k + 2]).toNat] ++ p.1, p.2))) := H3
                    have HV : Hid (((UInt8.ofNat (pairI L[k + 1] L[k + 2]).toNat).toNat : Int) = 16 * digitI L[k + 1].toNat + digitI L[k + 2].toNat) := by
                      have hpb := pairI_byte hyes
                      show ((UInt8.ofNat (pairI L[k + 1] L[k + 2]).toNat).toNat : Int) = pairI L[k + 1] L[k + 2]
                      simp only [UInt8.toNat_ofNat']
                      omega
                    clear H1 H2 H3 HM hyes
                    go_wp2_with fail
                    refine (plain_any _ _).mono ?_
                    rintro e w' ⟨rfl, rfl⟩
                    go_wp2_with fail
                    go_quiet ((first | (go_at_call 218; exact Calls.quiet_of_same (digit_same _ _)) | (go_at_call 217; exact Calls.quiet_of_same (plain_same _ _))))
                    go_wp2_with fail
                    have hown2 : (wr.drewN nq).drew.ownsRowF w.heap.size 5 1 u5 acc.length (Lib.byteCells acc) := hown
                    have hbr2 : Below w.heap.size w (wr.drewN nq).drew := (below_drewN hbr nq).drew
                    generalize wr.drewN nq = wq at hown2 hbr2 ⊢
                    have hbz := hbr2.size
                    go_region_law (first | (refine step_append_ownX rfl (.tmp 88) (.tmp 102) 75 rfl w.heap.size 5 i0 (.int .u8 0) 1 1 Tryz.underlying75 hi hz0 hz1 hz2 rfl (by decide) u5 acc.length (Lib.byteCells acc) rfl (hown2.alloc _) ⟨wq.heap.size, 0, none⟩ 1 1 [.int .u8 (16 * digitI L[k + 1].toNat + digitI L[k + 2].toNat)] rfl rfl (new_cells _ _ _) (one_cell _ _) (by unfold maxLen; omega) (by omega) (by simp at hbz ⊢; omega) ?_; intro v' w2 hown' hgrow hfr) | (refine step_call1 rfl 218 (.tmp 92) #[5] rfl (enters_of Tryz.func218 (by kernel_rfl) rfl) (.int .u8 (L[k + 1].toNat : Int)) _ rfl (digit_same _ _) ?_) | (refine step_call1 rfl 218 (.tmp 98) #[5] rfl (enters_of Tryz.func218 (by kernel_rfl) rfl) (.int .u8 (L[k + 2].toNat : Int)) _ rfl (digit_same _ _) ?_))
                    all_goals
                      go_wp2
                      refine ⟨⟨k + 3, acc ++ [UInt8.ofNat (pairI L[k + 1] L[k + 2]).toNat], by omega, by omega, by go_num, ?_, (hbr2.alloc hbr2.size _).grown hgrow (by simp at hbz ⊢; omega) (fun j hj => (hown2.lt j hj).1), HE.out, by simp; omega⟩, by simp [intOf]; omega⟩
                      rw [byteCells_snoc, HV.out]
                      simpa using hown'
                  · have hno : pairOk L[k + 1] L[k + 2] = false := by rw [HM.out, hpp]; rfl
                    have H3 : Hid (unquote L = none) := H1.out hno
                    clear H1 H2 HM hno
                    go_wp2_with fail
                    refine (plain_any _ _).mono ?_
                    rintro e w' ⟨rfl, rfl⟩
                    go_wp2_with fail
                    go_quiet ((first | (go_at_call 218; exact Calls.quiet_of_same (digit_same _ _)) | (go_at_call 217; exact Calls.quiet_of_same (plain_same _ _))))
                    go_wp2
                    go_ret3
                    exact ⟨ret_uq (uq_none H3.out), below_drewN hbr _⟩
            · have g1 : ¬ (k : Int) + 2 < (L.length : Int) := by omega
              have gd : decide ((k : Int) + 2 < (L.length : Int)) = false := by simp; omega
              have w2 : IntKind.i64.wrap ((k : Int) + 2) = (k : Int) + 2 := wrap_i64 (by omega) (by omega)
              have HE : Hid (unquote L = none) := by
                show unquote L = _
                rw [HU.out, HB.out, hdk, body_none _ h34' hpl (by simp; omega)]; rfl
              clear hdk h92 h34'
              go_wp2_with fail
              refine (plain_any _ _).mono ?_
              rintro e w' ⟨rfl, rfl⟩
              go_wp2_with fail
              go_quiet ((first | (go_at_call 218; exact Calls.quiet_of_same (digit_same _ _)) | (go_at_call 217; exact Calls.quiet_of_same (plain_same _ _))))
              go_wp2
              go_ret3
              exact ⟨ret_uq (uq_none HE.out), below_drewN hbr _⟩
          · have hb2 : ((L[k].toNat : Int) == 92) = false := by simp; omega
            have HE : Hid (unquote L = none) := by
              show unquote L = _
              rw [HU.out, HB.out, hdk, body_none _ h34' hpl (by omega)]; rfl
            clear hdk h92 h34'
            go_wp2_with fail
            refine (plain_any _ _).mono ?_
            rintro e w' ⟨rfl, rfl⟩
            go_wp2_with fail
            go_quiet ((first | (go_at_call 218; exact Calls.quiet_of_same (digit_same _ _)) | (go_at_call 217; exact Calls.quiet_of_same (plain_same _ _))))
            go_wp2
            go_ret3
            exact ⟨ret_uq (uq_none HE.out), below_drewN hbr _⟩
        · have HE : Hid (body (L.drop 1) = (body (L.drop (k + 1))).map (fun p => (acc ++ [L[k]] ++ p.1, p.2))) := by
            show body (L.drop 1) = _
            rw [HB.out, hdk, body_plain _ hpl]; simp [Function.comp_def]
          clear hdk h34'
          go_wp2_with fail
          refine (plain_any _ _).mono ?_
          rintro e w' ⟨rfl, rfl⟩
          go_wp2_with (at_builtin; refine wpList_append_ownX _ rfl _ _ 75 rfl w.heap.size 5 i0 (.int .u8 0) 1 1 Tryz.underlying75 hi hz0 hz1 hz2 rfl (by decide) _ _ _ rfl (hown.alloc _) ⟨wr.heap.size, 0, none⟩ 1 1 [.int .u8 (L[k].toNat : Int)] rfl rfl (new_cells _ _ _) (one_cell _ _) ?c3 ?c4 ?c5 ?_)
          case c3 => unfold maxLen; omega
          case c4 => omega
          case c5 => have := hbr.size; simp; omega
          intro v' w2 hown' hgrow hfr
          go_wp2
          go_roundw
          case rel => exact ⟨k + 1, acc ++ [L[k]], by omega, by omega, by go_num, by rw [byteCells_snoc]; simpa using hown', (hbr.alloc hbr.size _).grown hgrow (by have := hbr.size; simp; omega) (fun j hj => (hown.lt j hj).1), HE.out, by simp; omega⟩
          case measure => simp [intOf]; omega
    · have HE : Hid (unquote L = none) := by
        show unquote L = _
        rw [HU.out, HB.out, List.drop_eq_nil_of_le (by omega)]; rfl
      go_wp2
      go_ret3
      exact ⟨ret_uq (uq_none HE.out), hbr⟩

set_option maxHeartbeats 1000000 in
theorem refUnquote_any (l : List UInt8) (w : World) (hl : l.length ≤ 1099511627776) :
    Calls Tryz.prog 157 #[.string ⟨l.toArray⟩] w fun e w' => e = .returned (.tuple #[.string ⟨(uqa l).toArray⟩, .string ⟨(uqb l).toArray⟩, .int .i64 (uqe l)]) ∧ Below w.heap.size w w' := by
  match l, hl with
  | [], _ =>
    go_enter Tryz.func157, Tryz.ntmps157
    go_wp2
    go_ret3
    exact ⟨ret_uq (uq_none rfl), Below.refl _ _⟩
  | c :: t, hl =>
    by_cases h : c.toNat = 34
    · have hb : ((c.toNat : Int) != 34) = false := by simp; omega
      have HU : Hid (unquote (c :: t) = body ((c :: t).drop 1)) := by show unquote (c :: t) = body t; simp [unquote, h]
      exact refUnquote_body (c :: t) w (by omega) (by simp) hb HU
    · have hb : ((c.toNat : Int) != 34) = true := by simp; omega
      have hb0 : (((t.length : Int) + 1) == 0) = false := beq_eq_false_iff_ne.2 (by omega)
      have HU : Hid (unquote (c :: t) = none) := by show unquote (c :: t) = none; simp [unquote, h]
      clear h
      go_enter Tryz.func157, Tryz.ntmps157
      go_wp2
      go_ret3
      exact ⟨ret_uq (uq_none HU.out), Below.refl _ _⟩
end Go.Proofs.YtgiojkhmkeocfaaGreatDoor

/- The reference's names of layer 15, read: walked. -/
set_option maxRecDepth 20000
namespace Go.Proofs.YtgiojkhmkeocfaaGreatDoor
open Go.RowKit Go.Proofs.YtgiojkhmkeocfaaGreatDoor.Tx
attribute [local go_sem] ByteArray.extract_mk no_at

/-- a fault, unless one stands -/
def flS (e : Int) : Except (Nat × Int) Nat → Except (Nat × Int) Nat
  | .error x => .error x
  | .ok p => .error (p, e)
theorem gFail_f {R : Nat} {vL : Value} {st : Except (Nat × Int) Nat} (e : Int) (he : e ≠ 0) (w : World) (q : RdZ w R vL st) :
    Calls Tryz.prog 55 #[.pointer (some ⟨R, 0, none⟩), .int .i64 e] w fun x w' => x = .returned (.tuple #[]) ∧ RdZ w' R vL (flS e st) ∧ w.grownBy w' (some R) := by
  match st, q with
  | .error (a, z), ⟨⟨p', q⟩, hz⟩ =>
    refine (rFail_no e w q hz).mono ?_
    rintro x w' ⟨rfl, rfl⟩
    exact ⟨rfl, ⟨⟨p', q⟩, hz⟩, ⟨rfl, rfl, rfl, Nat.le_refl _, fun _ _ _ => rfl⟩⟩
  | .ok p, q =>
    refine (rFail_ok e w q).mono ?_
    rintro x w' ⟨rfl, h1, h2⟩
    exact ⟨rfl, ⟨⟨p, h1⟩, he⟩, h2⟩
/-- what a name is read as -/
def nmV (N : Option (List UInt8)) : List UInt8 := N.getD []
def nmE (N : Option (List UInt8)) : Int := if N.isSome = true then 0 else 253
theorem nm_none : nmV none = [] ∧ nmE none = 253 := ⟨rfl, rfl⟩
theorem nm_some (n : List UInt8) : nmV (some n) = n ∧ nmE (some n) = 0 := ⟨rfl, rfl⟩
theorem ret_nm {N : Option (List UInt8)} {v : List UInt8} {e : Int} (h : nmV N = v ∧ nmE N = e) : Ending.returned (.tuple #[.string ⟨v.toArray⟩, .int .i64 e]) = .returned (.tuple #[.string ⟨(nmV N).toArray⟩, .int .i64 (nmE N)]) := by rw [h.1, h.2]
set_option maxHeartbeats 4000000 in
set_option maxRecDepth 10000 in
theorem rNamed_f (s : List UInt8) (hs : s.length ≤ 1099511627776) (w : World) (N : Option (List UInt8)) (HN : Hid (namedP s = N)) :
    Calls Tryz.prog 99 #[.string ⟨s.toArray⟩] w fun e w' => e = .returned (.tuple #[.string ⟨(nmV N).toArray⟩, .int .i64 (nmE N)]) ∧ Below w.heap.size w w' := by
  by_cases h1 : s = devN
  · subst h1
    have hN : N = some [] := (by rw [← HN.out]; rfl)
    subst hN
    have HT : Hid (nameT [] = devN) := rfl
    clear HN
    go_enter Tryz.func99, Tryz.ntmps99
    unfold devN
    go_wp2_with fail
    refine (rName_f [] w (by decide) devN HT).mono ?_
    rintro e w1 ⟨rfl, hB1⟩
    unfold devN
    go_wp2
    go_ret2
    exact ⟨rfl, hB1⟩
  · have e1 : (s == [47, 100, 101, 118, 47, 110, 117, 108, 108]) = false := beq_eq_false_iff_ne.2 h1
    by_cases h0 : s = []
    · subst h0
      have hN : N = none := (by rw [← HN.out]; rfl)
      subst hN
      have HT : Hid (nameT [] = devN) := rfl
      clear HN e1
      go_enter Tryz.func99, Tryz.ntmps99
      go_wp2_with fail
      refine (rName_f [] w (by decide) devN HT).mono ?_
      rintro e w1 ⟨rfl, hB1⟩
      unfold devN
      go_wp2
      go_ret2
      exact ⟨ret_nm nm_none, hB1⟩
    · have hps : 0 < s.length := List.length_pos_iff.2 h0
      have hpos : (0 : Int) < (s.length : Int) := by omega
      have hN := HN.out
      unfold namedP unN at hN
      rw [if_neg h1] at hN
      obtain ⟨c, hc⟩ : ∃ c, s[0] = c := ⟨_, rfl⟩
      have hhd : s.head? = some c := (by rw [← hc, List.head?_eq_getElem?, List.getElem?_eq_getElem hps])
      rw [hhd] at hN
      have e0 : s.isEmpty = false := (by cases s with | nil => exact absurd rfl h0 | cons _ _ => rfl)
      clear HN h1 h0 hhd
      by_cases h2 : c = 34
      · have h5 : ((c.toNat : Int) == 34) = true := (by rw [h2]; rfl)
        rw [if_pos (by rw [h2])] at hN
        clear h2
        have hq := refUnquote_any s w hs
        cases hu : Q.unquote s with
        | none =>
          rw [hu] at hN
          subst hN
          have hu2 := Q.uq_none hu
          rw [hu2.1, hu2.2.1, hu2.2.2] at hq
          clear hu hu2
          go_enter Tryz.func99, Tryz.ntmps99
          go_wp2_with fail
          refine hq.mono ?_
          rintro e w1 ⟨rfl, hB1⟩
          go_wp2
          go_ret2
          exact ⟨ret_nm nm_none, hB1⟩
        | some z =>
          obtain ⟨n, r⟩ := z
          have hu2 := Q.uq_some hu
          rw [hu2.1, hu2.2.1, hu2.2.2] at hq
          rw [hu] at hN
          clear hu hu2
          cases r with
          | cons d r =>
            subst hN
            go_enter Tryz.func99, Tryz.ntmps99
            go_wp2_with fail
            refine hq.mono ?_
            rintro e w1 ⟨rfl, hB1⟩
            go_wp2
            go_ret2
            exact ⟨ret_nm nm_none, hB1⟩
          | nil =>
            dsimp only at hN
            by_cases h3 : n.length ≤ 64
            · obtain ⟨T, hT⟩ : ∃ T, nameT n = T := ⟨_, rfl⟩
              have HT : Hid (nameT n = T) := hT
              rw [hT] at hN
              have j1 : ¬ (64 : Int) < (n.length : Int) := by omega
              clear hT
              by_cases h4 : T = s
              · rw [if_pos ⟨h3, h4⟩] at hN
                subst hN
                have HT2 : Hid (nameT n = s) := (by show _ = _; rw [← h4]; exact HT.out)
                clear h4 HT
                go_enter Tryz.func99, Tryz.ntmps99
                go_wp2_with fail
                refine hq.mono ?_
                rintro e w1 ⟨rfl, hB1⟩
                go_wp2_with fail
                refine (rName_f n w1 (by omega) s HT2).mono ?_
                rintro e w2 ⟨rfl, hB2⟩
                go_wp2
                go_ret2
                exact ⟨ret_nm (nm_some n), hB1.trans (hB2.mono hB1.size)⟩
              · rw [if_neg (fun q => h4 q.2)] at hN
                subst hN
                have j2 : (T == s) = false := beq_eq_false_iff_ne.2 h4
                clear h4
                go_enter Tryz.func99, Tryz.ntmps99
                go_wp2_with fail
                refine hq.mono ?_
                rintro e w1 ⟨rfl, hB1⟩
                go_wp2_with fail
                refine (rName_f n w1 (by omega) T HT).mono ?_
                rintro e w2 ⟨rfl, hB2⟩
                go_wp2
                go_ret2
                exact ⟨ret_nm nm_none, hB1.trans (hB2.mono hB1.size)⟩
            · rw [if_neg (fun q => h3 q.1)] at hN
              subst hN
              have j1 : (64 : Int) < (n.length : Int) := by omega
              go_enter Tryz.func99, Tryz.ntmps99
              go_wp2_with fail
              refine hq.mono ?_
              rintro e w1 ⟨rfl, hB1⟩
              go_wp2
              go_ret2
              exact ⟨ret_nm nm_none, hB1⟩
      · rw [if_neg (fun q => h2 (Option.some.inj q))] at hN
        have h5 : ((c.toNat : Int) == 34) = false := (by
          refine beq_eq_false_iff_ne.2 fun q => h2 ?_
          exact UInt8.toNat_inj.1 (by rw [show (34 : UInt8).toNat = 34 from rfl]; omega))
        clear h2
        dsimp only at hN
        by_cases h3 : s.length ≤ 64
        · obtain ⟨T, hT⟩ : ∃ T, nameT s = T := ⟨_, rfl⟩
          have HT : Hid (nameT s = T) := hT
          rw [hT] at hN
          have j1 : ¬ (64 : Int) < (s.length : Int) := by omega
          clear hT
          by_cases h4 : T = s
          · rw [if_pos ⟨h3, h4⟩] at hN
            subst hN
            have HT2 : Hid (nameT s = s) := (by show _ = _; exact HT.out.trans h4)
            clear h4 HT
            go_enter Tryz.func99, Tryz.ntmps99
            go_wp2_with fail
            refine (rName_f s w hs s HT2).mono ?_
            rintro e w2 ⟨rfl, hB2⟩
            go_wp2
            go_ret2
            exact ⟨ret_nm (nm_some _), hB2⟩
          · rw [if_neg (fun q => h4 q.2)] at hN
            subst hN
            have j2 : (T == s) = false := beq_eq_false_iff_ne.2 h4
            clear h4
            go_enter Tryz.func99, Tryz.ntmps99
            go_wp2_with fail
            refine (rName_f s w hs T HT).mono ?_
            rintro e w2 ⟨rfl, hB2⟩
            go_wp2
            go_ret2
            exact ⟨ret_nm nm_none, hB2⟩
        · rw [if_neg (fun q => h3 q.1)] at hN
          subst hN
          have j1 : (64 : Int) < (s.length : Int) := by omega
          go_enter Tryz.func99, Tryz.ntmps99
          go_wp2
          go_ret2
          exact ⟨ret_nm nm_none, Below.refl _ _⟩
end Go.Proofs.YtgiojkhmkeocfaaGreatDoor

/- The plain Parse of the reference, walked anew over the normal form's texts. -/
set_option maxRecDepth 20000
namespace Go.Proofs.YtgiojkhmkeocfaaGreatDoor
open Pn Go.RowKit
attribute [local go_sem] no_at

theorem ret_pair {k k' : IntKind} {a b a' b' : Int} (h : a = a') (h' : b = b') : Ending.returned (.tuple #[.int k a, .int k' b]) = .returned (.tuple #[.int k a', .int k' b']) := by rw [h, h']
set_option maxHeartbeats 2000000 in
theorem rParse_loop (L : List UInt8) (w : World) (hl : L.length ≤ maxLen) (h0 : 0 < L.length) (hz : ((L.length : Int) ≤ 1) ∨ ((1 < (L.length : Int)) ∧ (((L[0].toNat : Int) == 48) = false)))
    (HY : Hid ((∀ k (hk : k < L.length), 48 ≤ L[k].toNat ∧ L[k].toNat ≤ 57) → isNum L = true)) :
    Calls Tryz.prog 159 #[.string ⟨L.toArray⟩] w fun e w' => e = .returned (.tuple #[.int .i64 (parseV L), .int .i64 (parseE L)]) ∧ Below w.heap.size w w' := by
  unfold maxLen at hl
  have hne : ((L.length : Int) == 0) = false := beq_eq_false_iff_ne.2 (by omega)
  rcases hz with hz | ⟨hz, hz1⟩
  all_goals
    go_enter Tryz.func159, Tryz.ntmps159
    go_wp2
    go_loop [4, 5] (fun n i => ∃ (pos : Nat) (v : Int), pos ≤ L.length ∧ i = .int .i64 pos ∧ n = .int .i64 v ∧ 0 ≤ v ∧ v ≤ 2147483648 ∧ sat v (L.drop pos) = sat 0 L ∧ (∀ k (hk : k < L.length), k < pos → 48 ≤ L[k].toNat ∧ L[k].toNat ≤ 57)) (fun _ i => L.length - (intOf i).toNat)
    case atStart => exact ⟨0, 0, Nat.zero_le _, rfl, rfl, by omega, by omega, rfl, fun k _ h => by omega⟩
    case round =>
      obtain ⟨pos, v, hp, rfl, rfl, hv0, hv1, hsat, hall⟩ := hrel
      have HA : Hid (∀ k (hk : k < L.length), k < pos → 48 ≤ L[k].toNat ∧ L[k].toNat ≤ 57) := hall
      have HS : Hid (sat v (L.drop pos) = sat 0 L) := hsat
      clear hall hsat
      by_cases hlt : pos < L.length
      · have hc := L[pos].toNat_lt
        by_cases hd : 48 ≤ L[pos].toNat ∧ L[pos].toNat ≤ 57
        · obtain ⟨hd1, hd2⟩ := hd
          have HS2 : Hid (sat (min (v * 10 + ((L[pos].toNat : Int) - 48)) 2147483648) (L.drop (pos + 1)) = sat 0 L) := by
            show sat _ _ = _
            rw [← sat_step hlt]; exact HS.out
          have HA2 : Hid (∀ k (hk : k < L.length), k < pos + 1 → 48 ≤ L[k].toNat ∧ L[k].toNat ≤ 57) := by
            intro k hk h
            by_cases e : k = pos
            · subst e; exact ⟨hd1, hd2⟩
            · exact HA.out k hk (by omega)
          go_wp2
          have e : (if 2147483648 < v * 10 + ((L[pos].toNat : Int) - 48) then 2147483648 else v * 10 + ((L[pos].toNat : Int) - 48)) = min (v * 10 + ((L[pos].toNat : Int) - 48)) 2147483648 := by split <;> omega
          try rw [e]
          exact ⟨⟨pos + 1, _, by omega, by go_num, rfl, by omega, by omega, HS2.out, HA2.out⟩, by simp [intOf]; omega⟩
        · have HN : Hid (isNum L = false) := isNum_bad pos hlt hd
          by_cases hd1 : L[pos].toNat < 48
          · clear hd
            go_wp2
            go_ret2
            have h := parse_no HN.out
            exact ⟨ret_pair h.1 h.2, Below.refl _ _⟩
          · have hd2 : 57 < L[pos].toNat := by omega
            clear hd
            go_wp2
            go_ret2
            have h := parse_no HN.out
            exact ⟨ret_pair h.1 h.2, Below.refl _ _⟩
      · have HN : Hid (isNum L = true) := HY.out fun k hk => HA.out k hk (by omega)
        have HF : Hid (sat 0 L = v) := by
          have h := HS.out
          rw [List.drop_eq_nil_of_le (by omega)] at h
          exact h.symm
        by_cases hfar : 2147483647 < v
        · go_wp2
          go_ret2
          have h := parse_far HN.out (by rw [HF.out]; omega)
          exact ⟨ret_pair h.1 h.2, Below.refl _ _⟩
        · go_wp2
          go_ret2
          have h := parse_ok HN.out HF.out (by omega)
          exact ⟨ret_pair h.1 h.2, Below.refl _ _⟩

set_option maxHeartbeats 1000000 in
theorem rParse_f (l : List UInt8) (w : World) (hl : l.length ≤ maxLen) :
    Calls Tryz.prog 159 #[.string ⟨l.toArray⟩] w fun e w' => e = .returned (.tuple #[.int .i64 (parseV l), .int .i64 (parseE l)]) ∧ Below w.heap.size w w' := by
  match l, hl with
  | [], _ =>
    go_enter Tryz.func159, Tryz.ntmps159
    go_wp2
    go_ret2
    exact ⟨rfl, Below.refl _ _⟩
  | [c], hl => exact rParse_loop [c] w hl (by simp) (.inl (by simp)) (isNum_yes (by simp))
  | c :: d :: t, hl =>
    by_cases h : c.toNat = 48
    · have hb : ((c.toNat : Int) == 48) = true := by simp; omega
      have HN : Hid (isNum (c :: d :: t) = false) := isNum_zero h
      have hl2 : (1 : Int) < (t.length : Int) + 1 + 1 := by omega
      have hl3 : (((t.length : Int) + 1 + 1) == 0) = false := beq_eq_false_iff_ne.2 (by omega)
      clear h
      go_enter Tryz.func159, Tryz.ntmps159
      go_wp2
      go_ret2
      have h := parse_no HN.out
      exact ⟨ret_pair h.1 h.2, Below.refl _ _⟩
    · refine rParse_loop (c :: d :: t) w hl (by simp) (.inr ⟨by simp; omega, ?_⟩) (isNum_yes (by simp [h]))
      simp; omega
end Go.Proofs.YtgiojkhmkeocfaaGreatDoor

/- The reference's range of lines, walked. -/
set_option maxRecDepth 20000
namespace Go.Proofs.YtgiojkhmkeocfaaGreatDoor
open Go.RowKit
attribute [local go_sem] ByteArray.extract_mk no_at

theorem spB_at {q : UInt8 → Bool} : ∀ (s : List UInt8) (i : Nat) (hi : i < s.length), q s[i] = true → (∀ j (hj : j < i), q (s[j]'(by omega)) = false) → spB q s = some (s.take i, s[i], s.drop (i + 1))
  | [], _, hi, _, _ => by simp at hi
  | c :: t, 0, _, hq, _ => by
    simp only [List.getElem_cons_zero] at hq
    simp [spB, hq]
  | c :: t, i + 1, hi, hq, h => by
    have h0 := h 0 (by omega)
    simp only [List.getElem_cons_zero] at h0
    have ih := spB_at t i (by simpa using hi) (by simpa using hq) (fun j hj => by have := h (j + 1) (by omega); simpa using this)
    simp [spB, h0, ih]
theorem spB_off {q : UInt8 → Bool} : ∀ (s : List UInt8), (∀ j (hj : j < s.length), q s[j] = false) → spB q s = none
  | [], _ => rfl
  | c :: t, h => by
    have h0 := h 0 (by simp)
    simp only [List.getElem_cons_zero] at h0
    have ih := spB_off t (fun j hj => by have := h (j + 1) (by simp; omega); simpa using this)
    simp [spB, h0, ih]
/-- what a range of lines is read as -/
def LnsP (s : List UInt8) (x : Ending) : Prop :=
  match lnsP s with
  | some (A, N) => x = .returned (.tuple #[.int .i64 A, .int .i64 N, .bool true])
  | none => ∃ A N, x = .returned (.tuple #[.int .i64 A, .int .i64 N, .bool false])
theorem LnsP.mk1 {s : List UInt8} {k : Nat} (hk : k < s.length) (h1 : isK s[k] = true) (h2 : ∀ j (hj : j < k), isK (s[j]'(by omega)) = false) {x y : List UInt8} (hx : s.take k = x) (hy : s.drop (k + 1) = y) {b : Bool} (hb : (decide (Pn.parseE x = 0) && (decide (Pn.parseE y = 0) && (decide (1 ≤ Pn.parseV x) && decide (Pn.parseV x < Pn.parseV y)))) = b) :
    LnsP s (.returned (.tuple #[.int .i64 (Pn.parseV x), .int .i64 (Pn.parseV y - Pn.parseV x + 1), .bool b])) := by
  unfold LnsP lnsP
  rw [spB_at s k hk h1 h2]
  dsimp only
  rw [hx, hy]
  cases b with
  | true =>
    simp only [Bool.and_eq_true, decide_eq_true_eq] at hb
    rw [if_pos hb]
  | false =>
    rw [if_neg (by intro hq; simp [hq] at hb)]
    exact ⟨_, _, rfl⟩
theorem LnsP.mk0 {s : List UInt8} (h2 : ∀ j (hj : j < s.length), isK s[j] = false) {b : Bool} (hb : (decide (Pn.parseE s = 0) && decide (1 ≤ Pn.parseV s)) = b) :
    LnsP s (.returned (.tuple #[.int .i64 (Pn.parseV s), .int .i64 1, .bool b])) := by
  unfold LnsP lnsP
  rw [spB_off s h2]
  dsimp only
  cases b with
  | true =>
    simp only [Bool.and_eq_true, decide_eq_true_eq] at hb
    rw [if_pos hb]
  | false =>
    rw [if_neg (by intro hq; simp [hq] at hb)]
    exact ⟨_, _, rfl⟩
set_option maxHeartbeats 4000000 in
theorem rLines_f (s : List UInt8) (hs : s.length ≤ 1099511627776) (w : World) :
    Calls Tryz.prog 160 #[.string ⟨s.toArray⟩] w fun x w' => LnsP s x ∧ Below w.heap.size w w' := by
  go_enter Tryz.func160, Tryz.ntmps160
  go_wp2
  go_loopw [5] (fun i wr => ∃ k : Nat, k ≤ s.length ∧ i = .int .i64 (k : Int) ∧ Hid (∀ j (_ : j < k) (hj : j < s.length), isK s[j] = false) ∧ wr = w) (fun i _ => s.length - (intOf i).toNat)
  case atStart => exact ⟨0, Nat.zero_le _, rfl, fun j hj => by omega, rfl⟩
  case round =>
    obtain ⟨k, hk, rfl, HK, rfl⟩ := hrel
    by_cases hlt : k < s.length
    · have i1 : 0 ≤ (k : Int) := by omega
      have i2 : (k : Int) < (s.length : Int) := by omega
      by_cases hc : s[k] = 44
      · have hb : ((s[k].toNat : Int) == 44) = true := by rw [hc]; rfl
        have HE : Hid (isK s[k] = true) := (by show _ = _; unfold isK; rw [hc]; rfl)
        obtain ⟨x, hx⟩ : ∃ x, s.take k = x := ⟨_, rfl⟩
        obtain ⟨y, hy⟩ : ∃ y, s.drop (k + 1) = y := ⟨_, rfl⟩
        have hxl : x.length ≤ 1099511627776 := (by rw [← hx, List.length_take]; omega)
        have hy3 : y.take (s.length - (k + 1)) = y := List.take_of_length_le (by rw [← hy, List.length_drop]; omega)
        have i3 : (k : Int) + 1 ≤ (s.length : Int) := by omega
        have i4 : ((k : Int) + 1).toNat = k + 1 := by omega
        have hyl : y.length ≤ 1099511627776 := (by rw [← hy, List.length_drop]; omega)
        have hm : ∀ b : Bool, _ = b → LnsP s _ := fun b hb => LnsP.mk1 hlt HE.out (fun j hj => HK.out j hj (by omega)) hx hy (b := b) hb
        obtain ⟨v1, hv1⟩ : ∃ v, Pn.parseV x = v := ⟨_, rfl⟩
        obtain ⟨e1, he1⟩ : ∃ e, Pn.parseE x = e := ⟨_, rfl⟩
        obtain ⟨v2, hv2⟩ : ∃ v, Pn.parseV y = v := ⟨_, rfl⟩
        obtain ⟨e2, he2⟩ : ∃ e, Pn.parseE y = e := ⟨_, rfl⟩
        have b1 := @prs_num x
        have b2 := @prs_num y
        rw [hv1] at b1
        rw [hv2] at b2
        rw [hv1, he1, hv2, he2] at hm
        have hrx := rParse_f x
        have hry := rParse_f y
        rw [hv1, he1] at hrx
        rw [hv2, he2] at hry
        have HM : Hid (∀ b : Bool, (decide (e1 = 0) && (decide (e2 = 0) && (decide (1 ≤ v1) && decide (v1 < v2)))) = b → LnsP s (.returned (.tuple #[.int .i64 v1, .int .i64 (v2 - v1 + 1), .bool b]))) := hm
        clear hm HK HE hc hv1 he1 hv2 he2
        go_wp2_with fail
        refine (hrx _ (by unfold maxLen; omega)).mono ?_
        rintro e' w1 ⟨rfl, hb1⟩
        go_wp2_with fail
        refine (hry _ (by unfold maxLen; omega)).mono ?_
        rintro e' w2 ⟨rfl, hb2⟩
        have hB := hb1.trans (hb2.mono hb1.size)
        by_cases h1 : e1 = 0
        · have g1 : (e1 == 0) = true := by rw [h1]; rfl
          by_cases h2 : e2 = 0
          · have g2 : (e2 == 0) = true := by rw [h2]; rfl
            by_cases h3 : 1 ≤ v1
            · by_cases h4 : v1 < v2
              · go_wp2
                go_ret3
                exact ⟨HM.out _ (by simp [h1, h2, h3, h4]), hB⟩
              · go_wp2
                go_ret3
                exact ⟨HM.out _ (by simp [h1, h2, h3]), hB⟩
            · have g3 : decide (1 ≤ v1) = false := decide_eq_false h3
              have G3 : Hid (decide (1 ≤ v1) = false) := g3
              go_wp2
              go_ret3
              exact ⟨HM.out _ (by rw [G3.out]; simp), hB⟩
          · have g2 : (e2 == 0) = false := beq_eq_false_iff_ne.2 h2
            go_wp2
            go_ret3
            exact ⟨HM.out _ (by simp [h1, h2]), hB⟩
        · have g1 : (e1 == 0) = false := beq_eq_false_iff_ne.2 h1
          go_wp2
          go_ret3
          exact ⟨HM.out _ (by simp [h1]), hB⟩
      · have hb : ((s[k].toNat : Int) == 44) = false := beq_eq_false_iff_ne.2 (fun h => hc (UInt8.toNat_inj.1 (by show _ = 44; omega)))
        have HE : Hid (isK s[k] = false) := (by show _ = _; unfold isK; simpa using hc)
        go_wp2
        go_roundw
        case rel => exact ⟨k + 1, by omega, by go_num, fun j hj hj2 => (by
            rcases Nat.lt_or_ge j k with h | h
            · exact HK.out j h hj2
            · have : j = k := by omega
              subst this
              exact HE.out), trivial⟩
        case measure => simp [intOf]; omega
    · have ek : k = s.length := by omega
      subst ek
      obtain ⟨v, hv⟩ : ∃ v, Pn.parseV s = v := ⟨_, rfl⟩
      obtain ⟨e, he⟩ : ∃ e, Pn.parseE s = e := ⟨_, rfl⟩
      go_wp2_with fail
      refine (rParse_f s _ (by unfold maxLen; omega)).mono ?_
      rintro e' w1 ⟨rfl, hb1⟩
      have hm : ∀ b : Bool, _ = b → LnsP s _ := fun b hb => LnsP.mk0 (s := s) (fun j hj => HK.out j hj hj) (b := b) hb
      rw [hv, he] at hm ⊢
      by_cases h1 : e = 0
      · have g1 : (e == 0) = true := by rw [h1]; rfl
        by_cases h2 : 1 ≤ v
        · go_wp2
          go_ret3
          exact ⟨hm _ (by simp [h1, h2]), hb1⟩
        · have G3 : Hid (decide (1 ≤ v) = false) := decide_eq_false h2
          go_wp2
          go_ret3
          exact ⟨hm _ (by rw [G3.out]; simp), hb1⟩
      · have g1 : (e == 0) = false := beq_eq_false_iff_ne.2 h1
        go_wp2
        go_ret3
        exact ⟨hm _ (by simp [h1]), hb1⟩
end Go.Proofs.YtgiojkhmkeocfaaGreatDoor

/- The reference's lines with ranges of layer 15, read: walked. -/
set_option maxRecDepth 20000
namespace Go.Proofs.YtgiojkhmkeocfaaGreatDoor
open Go.RowKit
attribute [local go_sem] ByteArray.extract_mk no_at

/-- a side's variable -/
abbrev ptO5 (a p n : Int) (vk vl : Value) : Obj := .cells #[.int .i64 a, .int .i64 p, .int .i64 n, vk, vl] 158
def ptV5 (a p n : Int) (vk vl : Value) : Value := .agg #[.int .i64 a, .int .i64 p, .int .i64 n, vk, vl]
def Bp5 (u : World) (b : Nat) (a p n : Int) (vk vl : Value) : Prop := u.heap[b]? = some (ptO5 a p n vk vl)
section
variable {u u' : World} {b : Nat} {a p n : Int} {vk vl : Value}
theorem Bp5.cells (q : Bp5 u b a p n vk vl) : u.cell? ⟨b, 0, none⟩ = some (.int .i64 a) ∧ u.cell? ⟨b, 1, none⟩ = some (.int .i64 p) ∧ u.cell? ⟨b, 2, none⟩ = some (.int .i64 n) ∧ u.cell? ⟨b, 3, none⟩ = some vk ∧ u.cell? ⟨b, 4, none⟩ = some vl := by
  unfold Bp5 ptO5 at q
  refine ⟨?_, ?_, ?_, ?_, ?_⟩ <;> rw [Lib.cell_of_heap q] <;> rfl
theorem Bp5.frozen (q : Bp5 u b a p n vk vl) (j : Nat) : u.frozen? ⟨b, j, none⟩ = false := Lib.frozen_of_heap q j
theorem Bp5.lt (q : Bp5 u b a p n vk vl) : b < u.heap.size := (Array.getElem?_eq_some_iff.1 q).1
theorem Bp5.off (q : Bp5 u b a p n vk vl) {g : Option Nat} (hg : u.grownBy u' g) (hr : some b ≠ g) : Bp5 u' b a p n vk vl := (hg.block b q.lt hr).trans q
theorem Bp5.low (q : Bp5 u b a p n vk vl) (hb : Below u.heap.size u u') : Bp5 u' b a p n vk vl := (hb.block b q.lt).trans q
end
/-- a line with a range -/
def rgZ (e : UInt8) (L : List (List UInt8)) : Except (Nat × Int) Nat → Except (Nat × Int) ((Int × Int) × Nat)
  | .error x => .error x
  | .ok p => match rngP e p (L.drop p) with
    | .error x => .error x
    | .ok (q, _) => .ok (q, p + 1)
theorem rgZ_nx {e : UInt8} {L : List (List UInt8)} {st : Except (Nat × Int) Nat} : rgZ e L st = match nxZ L st with
    | .error x => .error x
    | .ok (s, p1) => match innR e s with
      | none => .error (p1, 3)
      | some t => match rngI t with
        | none => .error (p1, 3)
        | some q => .ok (q, p1) := by
  cases st with
  | error x => rfl
  | ok p =>
    unfold rgZ nxZ rngP
    dsimp only
    cases nxt p (L.drop p) with
    | error x => rfl
    | ok z =>
      obtain ⟨s, r⟩ := z
      dsimp only
      cases innR e s with
      | none => rfl
      | some t =>
        dsimp only
        cases rngI t <;> rfl
/-- what a range leaves behind -/
def RgR (R : Nat) (vL : Value) (Z : Except (Nat × Int) ((Int × Int) × Nat)) (a p n : Int) (w' : World) : Prop :=
  match Z with
  | .error x => RdZ w' R vL (.error x)
  | .ok (q, p1) => a = (p1 : Int) ∧ p = q.1 ∧ n = q.2 ∧ RdZ w' R vL (.ok p1)
/-- where a reader is: two variables of one's own, and the reader -/
theorem RdZ.at {u : World} {R : Nat} {vL : Value} {st : Except (Nat × Int) Nat} (h : RdZ u R vL st) : ∃ p' : Nat, u.cell? ⟨R, 1, none⟩ = some (.int .i64 (p' : Int)) ∧ ∀ p, st = .ok p → p' = p := by
  match st, h with
  | .ok p, h => exact ⟨p, (Rx.cells h).2.1, fun _ q => by cases q; rfl⟩
  | .error (_, _), ⟨⟨p', h⟩, _⟩ => exact ⟨p', (Rx.cells h).2.1, fun _ q => by cases q⟩
end Go.Proofs.YtgiojkhmkeocfaaGreatDoor
