/-
  Texts that belong together, joined: NoRd, NoPk, NoJn, NoMk, NoWs, NoTx, NoRf, NoCg, NoM2, NoM3.
-/
import Derived.Test.YtgiojkhmkeocfaaDoorPartA8
import Derived.Test.YtgiojkhmkeocfaaDoorPartA4
import Derived.Deep.CutBlock
import Derived.Deep.RegionHeld3
import Derived.Test.YtgiojkhmkeocfaaDoorPartA2
import Derived.Shelf.Strings.BuilderK
import Derived.Test.YtgiojkhmkeocfaaDoorProg
import Derived.Lib.ItoaNum
import Derived.Laws.IdiomStrings
import Derived.Deep.DeepCutAuto

/- The reference's reader of lines, walked: its place, its first fault; the next line. -/
namespace Go.Proofs.YtgiojkhmkeocfaaDoor
open Go.RowKit

/-- a reader: its lines, where it stands, its fault -/
def rdO (vL : Value) (p fa fe : Int) : Obj := .cells #[vL, .int .i64 p, .int .i64 fa, .int .i64 fe] 83
def Rx (u : World) (R : Nat) (vL : Value) (p fa fe : Int) : Prop := u.heap[R]? = some (rdO vL p fa fe)
section
variable {u u' : World} {R : Nat} {vL : Value} {p fa fe : Int}
theorem Rx.cells (q : Rx u R vL p fa fe) : u.cell? ⟨R, 0, none⟩ = some vL ∧ u.cell? ⟨R, 1, none⟩ = some (.int .i64 p) ∧ u.cell? ⟨R, 2, none⟩ = some (.int .i64 fa) ∧ u.cell? ⟨R, 3, none⟩ = some (.int .i64 fe) := by
  unfold Rx rdO at q
  refine ⟨?_, ?_, ?_, ?_⟩ <;> rw [Lib.cell_of_heap q] <;> rfl
theorem Rx.frozen (q : Rx u R vL p fa fe) (j : Nat) : u.frozen? ⟨R, j, none⟩ = false := Lib.frozen_of_heap q j
theorem Rx.lt (q : Rx u R vL p fa fe) : R < u.heap.size := (Array.getElem?_eq_some_iff.1 q).1
theorem Rx.dN (q : Rx u R vL p fa fe) (n : Nat) : Rx (u.drewN n) R vL p fa fe := q
theorem Rx.at (q : Rx u R vL p fa fe) (p' : Int) : Rx (u.setCell ⟨R, 1, none⟩ (.int .i64 p')) R vL p' fa fe := heap_setCell_same u R 1 _ _ (.int .i64 p') q
theorem Rx.fault (q : Rx u R vL p fa fe) (x y : Int) : Rx ((u.setCell ⟨R, 2, none⟩ (.int .i64 x)).setCell ⟨R, 3, none⟩ (.int .i64 y)) R vL p x y := heap_setCell_same _ R 3 _ _ (.int .i64 y) (heap_setCell_same u R 2 _ _ (.int .i64 x) q)
end
theorem grown_two {w u v : World} {r : Option Nat} (h : w.grownBy u r) (h' : u.grownBy v r) : w.grownBy v r :=
  ⟨h'.os.trans h.os, h'.tape.trans h.tape, h'.output.trans h.output, Nat.le_trans h.size h'.size, fun k hk hr => (h'.block k (Nat.lt_of_lt_of_le hk h.size) hr).trans (h.block k hk hr)⟩
set_option maxHeartbeats 1000000 in
theorem rFail_ok {R : Nat} {vL : Value} {p fa : Int} (e : Int) (w : World) (q : Rx w R vL p fa 0) :
    Calls Tryd.prog 83 #[.pointer (some ⟨R, 0, none⟩), .int .i64 e] w fun x w' => x = .returned (.tuple #[]) ∧ Rx w' R vL p p e ∧ w.grownBy w' (some R) := by
  obtain ⟨c0, c1, c2, c3⟩ := q.cells
  have f2 := q.frozen 2
  have f3 := q.frozen 3
  have HQ : Hid (Rx ((w.setCell ⟨R, 2, none⟩ (.int .i64 p)).setCell ⟨R, 3, none⟩ (.int .i64 e)) R vL p p e ∧ w.grownBy ((w.setCell ⟨R, 2, none⟩ (.int .i64 p)).setCell ⟨R, 3, none⟩ (.int .i64 e)) (some R)) := ⟨q.fault p e, grown_two (grown_set w R 2 _) (grown_set _ R 3 _)⟩
  clear q
  go_enter Tryd.func83, Tryd.ntmps83
  go_wp2
  go_end0
  exact ⟨rfl, HQ.out⟩
set_option maxHeartbeats 1000000 in
theorem rFail_no {R : Nat} {vL : Value} {p fa fe : Int} (e : Int) (w : World) (q : Rx w R vL p fa fe) (hf : fe ≠ 0) :
    Calls Tryd.prog 83 #[.pointer (some ⟨R, 0, none⟩), .int .i64 e] w fun x w' => x = .returned (.tuple #[]) ∧ w' = w := by
  obtain ⟨c0, c1, c2, c3⟩ := q.cells
  have h1 : (fe == 0) = false := beq_eq_false_iff_ne.2 hf
  clear q
  go_enter Tryd.func83, Tryd.ntmps83
  go_wp2
  go_end0
  exact ⟨rfl, rfl⟩
set_option maxHeartbeats 1000000 in
theorem rMore_f {R : Nat} {L : List (List UInt8)} {lo : Option Addr} {lc : Nat} {p : Nat} {fa fe : Int} (w : World) (q : Rx w R (.slice lo L.length lc) p fa fe) :
    Calls Tryd.prog 41 #[.pointer (some ⟨R, 0, none⟩)] w fun x w' => x = .returned (.bool (decide (fe = 0) && decide (p < L.length))) ∧ ∃ m, w' = w.drewN m := by
  obtain ⟨c0, c1, c2, c3⟩ := q.cells
  clear q
  by_cases hf : fe = 0
  · have h1 : (fe == 0) = true := by rw [hf]; rfl
    have h2 : decide (fe = 0) = true := decide_eq_true hf
    rw [h2]
    by_cases hp : p < L.length
    · have h3 : decide (p < L.length) = true := decide_eq_true hp
      have h4 : decide ((p : Int) < (L.length : Int)) = true := decide_eq_true (by omega)
      rw [h3]
      clear hf
      go_enter Tryd.func41, Tryd.ntmps41
      go_wp2_with fail
      go_quiet (fail)
      go_wp2
      go_ret
      exact ⟨rfl, _, rfl⟩
    · have h3 : decide (p < L.length) = false := decide_eq_false hp
      have h4 : decide ((p : Int) < (L.length : Int)) = false := decide_eq_false (by omega)
      rw [h3]
      clear hf
      go_enter Tryd.func41, Tryd.ntmps41
      go_wp2_with fail
      go_quiet (fail)
      go_wp2
      go_ret
      exact ⟨rfl, _, rfl⟩
  · have h1 : (fe == 0) = false := beq_eq_false_iff_ne.2 hf
    have h2 : decide (fe = 0) = false := decide_eq_false hf
    rw [h2]
    go_enter Tryd.func41, Tryd.ntmps41
    go_wp2_with fail
    go_quiet (fail)
    go_wp2
    go_ret
    exact ⟨rfl, _, rfl⟩

set_option maxHeartbeats 4000000 in
theorem rNext_no {R : Nat} {vL : Value} {p fa fe : Int} (w : World) (q : Rx w R vL p fa fe) (hf : fe ≠ 0) :
    Calls Tryd.prog 82 #[.pointer (some ⟨R, 0, none⟩)] w fun x w' => x = .returned (.string ⟨#[]⟩) ∧ w' = w := by
  obtain ⟨c0, c1, c2, c3⟩ := q.cells
  have h1 : (fe != 0) = true := bne_iff_ne.2 hf
  clear q
  go_enter Tryd.func82, Tryd.ntmps82
  go_wp2
  go_ret
  exact ⟨rfl, rfl⟩
theorem nxt_drop {L : List (List UInt8)} {p : Nat} (hp : p < L.length) : nxt p (L.drop p) = if fdB L[p] = true then .ok (L[p].dropLast, L.drop (p + 1)) else .error (p + 1, 3) := by
  rw [List.drop_eq_getElem_cons hp]
  rfl
theorem nxt_end {L : List (List UInt8)} {p : Nat} (hp : L.length ≤ p) : nxt p (L.drop p) = .error (p + 1, 1) := by
  rw [List.drop_eq_nil_of_le hp]
  rfl
theorem rBare_same (s : List UInt8) (hf : fdB s = true) (hs : s.length ≤ 1099511627776) (w : World) : Calls Tryd.prog 102 #[.string ⟨s.toArray⟩] w fun e w' => e = .returned (.tuple #[.string ⟨s.dropLast.toArray⟩, .bool true]) ∧ w' = w := by
  have eb : bareT s = s.dropLast := by unfold bareT; rw [if_pos hf]
  refine (rBare_f s w (by omega)).mono ?_
  rintro e w' ⟨rfl, rfl⟩
  rw [eb, hf]
  exact ⟨rfl, rfl⟩
theorem rBare_bad (s : List UInt8) (hf : fdB s = false) (hs : s.length ≤ 1099511627776) (w : World) : Calls Tryd.prog 102 #[.string ⟨s.toArray⟩] w fun e w' => e = .returned (.tuple #[.string ⟨s.toArray⟩, .bool false]) ∧ w' = w := by
  have eb : bareT s = s := by unfold bareT; rw [if_neg (by rw [hf]; decide)]
  refine (rBare_f s w (by omega)).mono ?_
  rintro e w' ⟨rfl, rfl⟩
  rw [eb, hf]
  exact ⟨rfl, rfl⟩
set_option maxHeartbeats 4000000 in
theorem rNext_end {R : Nat} {L : List (List UInt8)} {lo : Option Addr} {lc : Nat} {p : Nat} {fa : Int} (w : World) (q : Rx w R (.slice lo L.length lc) p fa 0) (_hL : HS w (.slice lo L.length lc) L) (_hR : ∀ a, lo = some a → a.block ≠ R) (hp : p ≤ 4398046511104) (hlt : L.length ≤ p) :
    Calls Tryd.prog 82 #[.pointer (some ⟨R, 0, none⟩)] w fun x w' => x = .returned (.string ⟨#[]⟩) ∧ Rx w' R (.slice lo L.length lc) ((p : Int) + 1) ((p : Int) + 1) 1 ∧ w.grownBy w' (some R) := by
  obtain ⟨c0, c1, c2, c3⟩ := q.cells
  have f1 := q.frozen 1
  have q1 := q.at ((p : Int) + 1)
  have g1 := grown_set w R 1 (.int .i64 ((p : Int) + 1))
  clear q
  go_enter Tryd.func82, Tryd.ntmps82
  go_upto_region 4 with fail
  generalize w.setCell ⟨R, 1, none⟩ (.int .i64 ((p : Int) + 1)) = W1 at q1 g1 ⊢
  obtain ⟨d0, d1, d2, d3⟩ := q1.cells
  have i0 : (L.length : Int) < (p : Int) + 1 := by omega
  clear c0 c1 c2 c3
  go_quiet (fail)
  go_wp2_with fail
  refine (rFail_ok 1 _ (q1.dN _)).mono ?_
  rintro e w2 ⟨rfl, q2, g2⟩
  go_wp2
  go_ret
  exact ⟨rfl, q2, grown_two (grown_drewN g1 _) g2⟩
set_option maxHeartbeats 4000000 in
theorem rNext_ok {R : Nat} {L : List (List UInt8)} {lo : Option Addr} {lc : Nat} {p : Nat} {fa : Int} (w : World) (q : Rx w R (.slice lo L.length lc) p fa 0) (hL : HS w (.slice lo L.length lc) L) (hR : ∀ a, lo = some a → a.block ≠ R) (hp : p ≤ 4398046511104) (hlt : p < L.length) {s : List UInt8} (hs : L[p] = s) (hsl : s.length ≤ 1099511627776) (hf : fdB s = true) :
    Calls Tryd.prog 82 #[.pointer (some ⟨R, 0, none⟩)] w fun x w' => x = .returned (.string ⟨s.dropLast.toArray⟩) ∧ Rx w' R (.slice lo L.length lc) ((p : Int) + 1) fa 0 ∧ w.grownBy w' (some R) := by
  obtain ⟨c0, c1, c2, c3⟩ := q.cells
  have f1 := q.frozen 1
  have q1 := q.at ((p : Int) + 1)
  have g1 := grown_set w R 1 (.int .i64 ((p : Int) + 1))
  clear q
  go_enter Tryd.func82, Tryd.ntmps82
  go_upto_region 4 with fail
  generalize w.setCell ⟨R, 1, none⟩ (.int .i64 ((p : Int) + 1)) = W1 at q1 g1 ⊢
  obtain ⟨d0, d1, d2, d3⟩ := q1.cells
  obtain ⟨bk, off, rfl, hbk, hcl⟩ := HS.at hL (by omega)
  have d4 := hcl p hlt
  have hRb : bk ≠ R := hR ⟨bk, off, none⟩ rfl
  have d5 : W1.cell? ⟨bk, off + p, none⟩ = some (.string ⟨L[p].toArray⟩) := (World.cell?_of_block (w := w) (g1.block bk hbk (fun e => hRb (Option.some.inj e)))).trans d4
  clear hcl d4 c0 c1 c2 c3 hL hR
  rw [hs] at d5
  have i0 : ¬ (L.length : Int) < (p : Int) + 1 := by omega
  have e1 : (p : Int) + 1 - 1 = (p : Int) := by omega
  have i1 : 0 ≤ (p : Int) := by omega
  have i2 : (p : Int) < (L.length : Int) := by omega
  have e3 : IntKind.i64.wrap (p : Int) = (p : Int) := (by simp [IntKind.wrap, IntKind.bits, IntKind.signed]; omega)
  have e4 : wrap64 (p : Int) = (p : Int) := by unfold wrap64; omega
  go_quiet (fail)
  go_wp2_with fail
  have q2 := q1.dN nq
  have g2 := grown_drewN g1 nq
  have d6 : (W1.drewN nq).cell? ⟨bk, off + p, none⟩ = some (.string ⟨s.toArray⟩) := d5
  clear q1 g1 d5 d0 d1 d2 d3
  generalize W1.drewN nq = W2 at q2 g2 d6 ⊢
  obtain ⟨d0, d1, d2, d3⟩ := q2.cells
  have j1 : (0 : Int) ≤ (p : Int) := by omega
  have j2 : (p : Int) < (L.length : Int) := by omega
  have j3 : (p : Int).toNat = p := by omega
  go_quiet ((go_at_call 102; exact Calls.quiet_of_same (rBare_same s hf hsl _)))
  go_wp2
  go_ret
  exact ⟨rfl, q2.dN _, grown_drewN g2 _⟩
set_option maxHeartbeats 4000000 in
theorem rNext_bad {R : Nat} {L : List (List UInt8)} {lo : Option Addr} {lc : Nat} {p : Nat} {fa : Int} (w : World) (q : Rx w R (.slice lo L.length lc) p fa 0) (hL : HS w (.slice lo L.length lc) L) (hR : ∀ a, lo = some a → a.block ≠ R) (hp : p ≤ 4398046511104) (hlt : p < L.length) {s : List UInt8} (hs : L[p] = s) (hsl : s.length ≤ 1099511627776) (hf : fdB s = false) :
    Calls Tryd.prog 82 #[.pointer (some ⟨R, 0, none⟩)] w fun x w' => x = .returned (.string ⟨#[]⟩) ∧ Rx w' R (.slice lo L.length lc) ((p : Int) + 1) ((p : Int) + 1) 3 ∧ w.grownBy w' (some R) := by
  obtain ⟨c0, c1, c2, c3⟩ := q.cells
  have f1 := q.frozen 1
  have q1 := q.at ((p : Int) + 1)
  have g1 := grown_set w R 1 (.int .i64 ((p : Int) + 1))
  clear q
  go_enter Tryd.func82, Tryd.ntmps82
  go_upto_region 4 with fail
  generalize w.setCell ⟨R, 1, none⟩ (.int .i64 ((p : Int) + 1)) = W1 at q1 g1 ⊢
  obtain ⟨d0, d1, d2, d3⟩ := q1.cells
  obtain ⟨bk, off, rfl, hbk, hcl⟩ := HS.at hL (by omega)
  have d4 := hcl p hlt
  have hRb : bk ≠ R := hR ⟨bk, off, none⟩ rfl
  have d5 : W1.cell? ⟨bk, off + p, none⟩ = some (.string ⟨L[p].toArray⟩) := (World.cell?_of_block (w := w) (g1.block bk hbk (fun e => hRb (Option.some.inj e)))).trans d4
  clear hcl d4 c0 c1 c2 c3 hL hR
  rw [hs] at d5
  have i0 : ¬ (L.length : Int) < (p : Int) + 1 := by omega
  have e1 : (p : Int) + 1 - 1 = (p : Int) := by omega
  have i1 : 0 ≤ (p : Int) := by omega
  have i2 : (p : Int) < (L.length : Int) := by omega
  have e3 : IntKind.i64.wrap (p : Int) = (p : Int) := (by simp [IntKind.wrap, IntKind.bits, IntKind.signed]; omega)
  have e4 : wrap64 (p : Int) = (p : Int) := by unfold wrap64; omega
  go_quiet (fail)
  go_wp2_with fail
  have q2 := q1.dN nq
  have g2 := grown_drewN g1 nq
  have d6 : (W1.drewN nq).cell? ⟨bk, off + p, none⟩ = some (.string ⟨s.toArray⟩) := d5
  clear q1 g1 d5 d0 d1 d2 d3
  generalize W1.drewN nq = W2 at q2 g2 d6 ⊢
  obtain ⟨d0, d1, d2, d3⟩ := q2.cells
  have j1 : (0 : Int) ≤ (p : Int) := by omega
  have j2 : (p : Int) < (L.length : Int) := by omega
  have j3 : (p : Int).toNat = p := by omega
  go_quiet ((go_at_call 102; exact Calls.quiet_of_same (rBare_bad s hf hsl _)))
  go_wp2_with fail
  refine (rFail_ok 3 _ (q2.dN _)).mono ?_
  rintro e w2 ⟨rfl, q3, g3⟩
  go_wp2
  go_ret
  exact ⟨rfl, q3, grown_two (grown_drewN g2 _) g3⟩
end Go.Proofs.YtgiojkhmkeocfaaDoor

/- The reference's reader, walked: does the next line begin with some bytes? -/
namespace Go.Proofs.YtgiojkhmkeocfaaDoor
open Go.RowKit
attribute [local go_sem] ByteArray.extract_mk no_at

theorem pre_take (sg l : List UInt8) : sg.isPrefixOf l = (decide (sg.length ≤ l.length) && (l.take sg.length == sg)) := by
  rw [Bool.eq_iff_iff, List.isPrefixOf_iff_prefix, Bool.and_eq_true, decide_eq_true_eq, beq_iff_eq]
  constructor
  · rintro ⟨t, rfl⟩
    simp
  · rintro ⟨_, h⟩
    refine ⟨l.drop sg.length, ?_⟩
    have h2 := List.take_append_drop sg.length l
    rw [h] at h2
    exact h2
set_option maxHeartbeats 4000000 in
theorem rPeek_f {R : Nat} {L : List (List UInt8)} {lo : Option Addr} {lc : Nat} {p : Nat} {fa : Int} (w : World) (q : Rx w R (.slice lo L.length lc) p fa 0) (hL : HS w (.slice lo L.length lc) L) (hs : ∀ s ∈ L, s.length ≤ 1099511627776) (b : Bool) (HB : Hid (pkM (L.drop p) = b)) :
    Calls Tryd.prog 123 #[.pointer (some ⟨R, 0, none⟩), .string ⟨markT.toArray⟩] w fun x w' => x = .returned (.bool b) ∧ ∃ m, w' = w.drewN m := by
  by_cases hlt : p < L.length
  · have hd : L.drop p = L[p] :: L.drop (p + 1) := List.drop_eq_getElem_cons hlt
    have hb := HB.out
    rw [hd] at hb
    simp only [pkM] at hb
    obtain ⟨bk, off, rfl, hbk, hcl⟩ := HS.at hL (by omega)
    have d4 := hcl p hlt
    have hsl := hs L[p] (List.getElem_mem _)
    rw [pre_take] at hb
    generalize L[p] = s at d4 hsl hb
    clear hcl hd hs HB hL
    obtain ⟨c0, c1, c2, c3⟩ := q.cells
    go_enter Tryd.func123, Tryd.ntmps123
    go_wp2_with fail
    refine (rMore_f w q).mono ?_
    rintro e w1 ⟨rfl, m, rfl⟩
    have hmr : (decide ((0 : Int) = 0) && decide (p < L.length)) = true := by simp [hlt]
    rw [hmr]
    have f0 : (w.drewN m).cell? ⟨R, 0, none⟩ = _ := c0
    have f1 : (w.drewN m).cell? ⟨R, 1, none⟩ = _ := c1
    have f4 : (w.drewN m).cell? ⟨bk, off + p, none⟩ = _ := d4
    clear c0 c1 c2 c3 d4 q hmr
    have HM : Hid (∀ n, ∃ k, (w.drewN m).drewN n = w.drewN k) := fun n => ⟨_, World.drewN_drewN w m n⟩
    generalize w.drewN m = W1 at f0 f1 f4 HM ⊢
    go_wp2_with fail
    have j1 : (0 : Int) ≤ (p : Int) := by omega
    have j2 : (p : Int) < (L.length : Int) := by omega
    have j3 : (p : Int).toNat = p := by omega
    go_quiet (fail)
    by_cases hlen : 28 ≤ s.length
    · have h1 : (28 : Int) ≤ (s.length : Int) := by omega
      have h2 : (s.take 28 == markT) = b := by rw [← hb]; simp [markT, hlen]
      go_wp2
      go_ret
      refine ⟨?_, HM.out _⟩
      rw [← h2]
      rfl
    · have h1 : ¬ (28 : Int) ≤ (s.length : Int) := by omega
      have h2 : b = false := by rw [← hb]; simp [markT, hlen]
      subst h2
      go_wp2
      go_ret
      exact ⟨rfl, HM.out _⟩
  · have hd : L.drop p = [] := List.drop_eq_nil_of_le (by omega)
    have hb := HB.out
    rw [hd] at hb
    simp only [pkM] at hb
    subst hb
    go_enter Tryd.func123, Tryd.ntmps123
    go_wp2_with fail
    refine (rMore_f w q).mono ?_
    rintro e w1 ⟨rfl, m, rfl⟩
    have hmr : (decide ((0 : Int) = 0) && decide (p < L.length)) = false := by simp [hlt]
    rw [hmr]
    go_wp2
    go_ret
    exact ⟨rfl, m, rfl⟩
end Go.Proofs.YtgiojkhmkeocfaaDoor

/- Two texts joined. -/
namespace Go.Proofs.YtgiojkhmkeocfaaDoor

theorem ba_join (a b : List UInt8) : ((⟨a.toArray⟩ : ByteArray) ++ (⟨b.toArray⟩ : ByteArray)) = ⟨(a ++ b).toArray⟩ := by
  apply ByteArray.ext
  simp
end Go.Proofs.YtgiojkhmkeocfaaDoor

/- The reference's reader, walked: a line with a sign, behind which the mark may stand. -/
namespace Go.Proofs.YtgiojkhmkeocfaaDoor
open Go.RowKit
attribute [local go_sem] ByteArray.extract_mk no_at

theorem HS.away {w w' : World} {R : Nat} {lo : Option Addr} {lc : Nat} {L : List (List UInt8)} (h : HS w (.slice lo L.length lc) L) (hg : w.grownBy w' (some R)) (hR : ∀ a, lo = some a → a.block ≠ R) : HS w' (.slice lo L.length lc) L := by
  rcases h with h | ⟨ad, c, hv, hnc, hc⟩
  · exact .inl h
  · refine .inr ⟨ad, c, hv, hnc, fun j u hj => ?_⟩
    cases hv
    have h1 := hc j u hj
    have hb : (ad.add j).block = ad.block := by unfold Addr.add; split <;> rfl
    have hlt := World.block_lt_of_cell? w _ h1
    rw [World.cell?_of_block (w := w) (hg.block _ hlt (fun e => hR ad rfl (by rw [← hb]; exact Option.some.inj e)))]
    exact h1
/-- what a line with a sign leaves behind -/
def MkP (R : Nat) (vL : Value) (L : List (List UInt8)) (fa : Int) (X : Except (Nat × Int) (List UInt8 × Nat × List (List UInt8))) (x : Ending) (w' : World) : Prop :=
  match X with
  | .error (a, e) => ∃ (t : List UInt8) (p' : Int), x = .returned (.string ⟨t.toArray⟩) ∧ Rx w' R vL p' (a : Int) e ∧ e ≠ 0
  | .ok (t, p1, r) => x = .returned (.string ⟨t.toArray⟩) ∧ Rx w' R vL (p1 : Int) fa 0 ∧ L.drop p1 = r
set_option maxHeartbeats 4000000 in
theorem rMarked_f {R : Nat} {L : List (List UInt8)} {lo : Option Addr} {lc : Nat} {p : Nat} {fa : Int} (w : World) (q : Rx w R (.slice lo L.length lc) p fa 0) (hL : HS w (.slice lo L.length lc) L) (hR : ∀ a, lo = some a → a.block ≠ R) (hp : p ≤ 2199023255552) (hs : ∀ s ∈ L, s.length ≤ 1099511627776)
    (sg : List UInt8) (hsg : sg.length = 2) (last : Bool) (X : Except (Nat × Int) (List UInt8 × Nat × List (List UInt8))) (HX : Hid (mkd sg last p (L.drop p) = X)) :
    Calls Tryd.prog 84 #[.pointer (some ⟨R, 0, none⟩), .string ⟨sg.toArray⟩, .bool last] w fun x w' => MkP R (.slice lo L.length lc) L fa X x w' ∧ w.grownBy w' (some R) := by
  have hX := HX.out
  clear HX
  unfold mkd at hX
  by_cases hlt : p < L.length
  · rw [nxt_drop hlt] at hX
    obtain ⟨s, hsd⟩ : ∃ s, L[p] = s := ⟨_, rfl⟩
    have hsl := hs L[p] (List.getElem_mem _)
    rw [hsd] at hX hsl
    cases hf : fdB s with
    | true =>
      rw [if_pos hf] at hX
      dsimp only at hX
      have hn := rNext_ok w q hL hR (by omega) hlt hsd hsl hf
      obtain ⟨t, ht⟩ : ∃ t, s.dropLast = t := ⟨_, rfl⟩
      have htl : t.length ≤ 1099511627776 := (by rw [← ht, List.length_dropLast]; omega)
      rw [ht] at hX hn
      clear ht hsd hf
      rw [pre_take, hsg] at hX
      by_cases hle : 2 ≤ t.length
      · by_cases htk : t.take 2 = sg
        · have hc : (decide (2 ≤ t.length) && (t.take 2 == sg)) = true := by simp [hle, htk]
          rw [if_pos hc] at hX
          have k1 : ¬ (t.length : Int) < (2 : Int) := by omega
          have k2 : (2 : Int) ≤ (t.length : Int) := by omega
          have k3 : (t.take 2 == sg) = true := by simp [htk]
          obtain ⟨b, hbd⟩ : ∃ b, pkM (L.drop (p + 1)) = b := ⟨_, rfl⟩
          have HB : Hid (pkM (L.drop (p + 1)) = b) := hbd
          rw [hbd] at hX
          have HXX : Hid (_ = X) := hX
          clear hX hc hbd
          have k5 : (t.drop 2).take (t.length - 2) = t.drop 2 := List.take_of_length_le (by simp)
          have hdl : (t.drop 2).length ≤ 1099511627776 := (by rw [List.length_drop]; omega)
          cases last with
          | false =>
            have hX := HXX.out
            rw [if_neg (by simp)] at hX
            clear HXX
            subst hX
            go_enter Tryd.func84, Tryd.ntmps84
            go_wp2_with fail
            refine hn.mono ?_
            rintro e w1 ⟨rfl, q1, g1⟩
            go_wp2
            go_ret
            exact ⟨⟨by simp [ba_join], q1, rfl⟩, g1⟩
          | true =>
            cases b with
            | false =>
              have hX := HXX.out
              rw [if_neg (by simp)] at hX
              clear HXX
              subst hX
              go_enter Tryd.func84, Tryd.ntmps84
              go_wp2_with fail
              refine hn.mono ?_
              rintro e w1 ⟨rfl, q1, g1⟩
              go_wp2_with fail
              refine (rPeek_f (p := p + 1) w1 q1 (hL.away g1 hR) hs _ HB).mono ?_
              rintro e w2 ⟨rfl, m, rfl⟩
              have q2 := q1.dN m
              have g2 := grown_drewN g1 m
              clear q1 g1
              generalize w1.drewN m = W2 at q2 g2 ⊢
              go_wp2
              go_ret
              exact ⟨⟨by simp [ba_join], q2, rfl⟩, g2⟩
            | true =>
              have hX := HXX.out
              rw [if_pos (by simp)] at hX
              clear HXX
              have hdr : L.drop (p + 2) = (L.drop (p + 1)).tail := by simp
              by_cases hem : t.drop 2 = []
              · rw [if_pos hem] at hX
                subst hX
                go_enter Tryd.func84, Tryd.ntmps84
                go_wp2_with fail
                refine hn.mono ?_
                rintro e w1 ⟨rfl, q1, g1⟩
                go_wp2_with fail
                refine (rPeek_f (p := p + 1) w1 q1 (hL.away g1 hR) hs _ HB).mono ?_
                rintro e w2 ⟨rfl, m, rfl⟩
                have q2 := q1.dN m
                have g2 := grown_drewN g1 m
                clear q1 g1
                generalize w1.drewN m = W2 at q2 g2 ⊢
                obtain ⟨c0, c1, c2, c3⟩ := q2.cells
                have f1 := q2.frozen 1
                have q3 := q2.at ((p : Int) + 1 + 1)
                have g3 := grown_two g2 (grown_set W2 R 1 (.int .i64 ((p : Int) + 1 + 1)))
                have hl2 : t.length = 2 := (by
                  have := congrArg List.length hem
                  simp at this
                  omega)
                go_wp2_with fail
                refine (rFail_ok 3 _ q3).mono ?_
                rintro e w3 ⟨rfl, q4, g4⟩
                go_wp2
                go_ret
                exact ⟨⟨[], _, rfl, q4, by decide⟩, grown_two g3 g4⟩
              · rw [if_neg hem] at hX
                subst hX
                go_enter Tryd.func84, Tryd.ntmps84
                go_wp2_with fail
                refine hn.mono ?_
                rintro e w1 ⟨rfl, q1, g1⟩
                go_wp2_with fail
                refine (rPeek_f (p := p + 1) w1 q1 (hL.away g1 hR) hs _ HB).mono ?_
                rintro e w2 ⟨rfl, m, rfl⟩
                have q2 := q1.dN m
                have g2 := grown_drewN g1 m
                clear q1 g1
                generalize w1.drewN m = W2 at q2 g2 ⊢
                obtain ⟨c0, c1, c2, c3⟩ := q2.cells
                have f1 := q2.frozen 1
                have q3 := q2.at ((p : Int) + 1 + 1)
                have g3 := grown_two g2 (grown_set W2 R 1 (.int .i64 ((p : Int) + 1 + 1)))
                have hl2 : 2 < t.length := (by
                  have h0 : 0 < (t.drop 2).length := List.length_pos_iff.2 hem
                  simp at h0
                  omega)
                have hl3 : ((t.length - 2 : Nat) : Int) ≠ 0 := by omega
                go_wp2
                go_ret
                exact ⟨⟨rfl, q3, hdr⟩, g3⟩
        · have hc : ¬ (decide (2 ≤ t.length) && (t.take 2 == sg)) = true := by simp [htk]
          rw [if_neg hc] at hX
          subst hX
          have k1 : ¬ (t.length : Int) < (2 : Int) := by omega
          have k2 : (2 : Int) ≤ (t.length : Int) := by omega
          have k3 : (t.take 2 == sg) = false := by simp [htk]
          clear hc
          go_enter Tryd.func84, Tryd.ntmps84
          go_wp2_with fail
          refine hn.mono ?_
          rintro e w1 ⟨rfl, q1, g1⟩
          go_wp2_with fail
          refine (rFail_ok 3 _ q1).mono ?_
          rintro e w2 ⟨rfl, q2, g2⟩
          go_wp2
          go_ret
          exact ⟨⟨[], _, rfl, q2, by decide⟩, grown_two g1 g2⟩
      · have hc : ¬ (decide (2 ≤ t.length) && (t.take 2 == sg)) = true := by simp [hle]
        rw [if_neg hc] at hX
        subst hX
        have k1 : (t.length : Int) < (2 : Int) := by omega
        clear hc
        go_enter Tryd.func84, Tryd.ntmps84
        go_wp2_with fail
        refine hn.mono ?_
        rintro e w1 ⟨rfl, q1, g1⟩
        go_wp2_with fail
        refine (rFail_ok 3 _ q1).mono ?_
        rintro e w2 ⟨rfl, q2, g2⟩
        go_wp2
        go_ret
        exact ⟨⟨[], _, rfl, q2, by decide⟩, grown_two g1 g2⟩
    | false =>
      rw [if_neg (by rw [hf]; decide)] at hX
      subst hX
      have hn := rNext_bad w q hL hR (by omega) hlt hsd hsl hf
      clear hsd hf hs hsl
      go_enter Tryd.func84, Tryd.ntmps84
      go_wp2_with fail
      refine hn.mono ?_
      rintro e w1 ⟨rfl, q1, g1⟩
      have h2 : (0 : Int) < (sg.length : Int) := by omega
      go_wp2_with fail
      refine (rFail_no 3 _ q1 (by decide)).mono ?_
      rintro e w2 ⟨rfl, rfl⟩
      go_wp2
      go_ret
      exact ⟨⟨[], _, rfl, q1, by decide⟩, g1⟩
  · rw [nxt_end (by omega)] at hX
    dsimp only at hX
    subst hX
    have hn := rNext_end w q hL hR (by omega) (by omega)
    go_enter Tryd.func84, Tryd.ntmps84
    go_wp2_with fail
    refine hn.mono ?_
    rintro e w1 ⟨rfl, q1, g1⟩
    have h2 : (0 : Int) < (sg.length : Int) := by omega
    go_wp2_with fail
    refine (rFail_no 3 _ q1 (by decide)).mono ?_
    rintro e w2 ⟨rfl, rfl⟩
    go_wp2
    go_ret
    exact ⟨⟨[], _, rfl, q1, by decide⟩, g1⟩
end Go.Proofs.YtgiojkhmkeocfaaDoor

/- The library's contracts on a strings.Builder's WriteString and on strings.HasSuffix, TrimSuffix and CutPrefix at this program: the program bears the bodies that they speak of. -/
namespace Go.Proofs
open Go.Shelf Go.RowKit
def Tryd.lays166_ren : Go.Shelf.Ren := ⟨fun | 166 => 28 | 240 => 70 | 276 => 110 | n => n, fun | 0 => 0 | 3 => 3 | 4 => 4 | 5 => 5 | 9 => 9 | 20 => 20 | 37 => 59 | 70 => 58 | 72 => 61 | 75 => 31 | 80 => 69 | 164 => 122 | n => n, fun | n => n⟩
theorem Tryd.lays166 : Go.Proofs.Lays.n166 Tryd.prog Tryd.lays166_ren := {
  mixed := by kernel_rfl
  f166 := Tryd.func28.trans (congrArg some (by kernel_rfl))
  f240 := Tryd.func70.trans (congrArg some (by kernel_rfl))
  f276 := Tryd.func110.trans (congrArg some (by kernel_rfl))
  t0 := Tryd.underlying0
  a0 := Tryd.isAgg0
  z0 := Tryd.sizeOf0
  v0 := Tryd.zeroValue0
  t3 := Tryd.underlying3
  a3 := Tryd.isAgg3
  z3 := Tryd.sizeOf3
  v3 := Tryd.zeroValue3
  t4 := Tryd.underlying4
  a4 := Tryd.isAgg4
  z4 := Tryd.sizeOf4
  v4 := Tryd.zeroValue4
  t9 := Tryd.underlying9
  a9 := Tryd.isAgg9
  z9 := Tryd.sizeOf9
  v9 := Tryd.zeroValue9
  t20 := Tryd.underlying20
  a20 := Tryd.isAgg20
  z20 := Tryd.sizeOf20
  v20 := Tryd.zeroValue20
  t37 := Tryd.underlying59
  a37 := Tryd.isAgg59
  z37 := Tryd.sizeOf59
  v37 := Tryd.zeroValue59
  t70 := Tryd.underlying58
  a70 := Tryd.isAgg58
  z70 := Tryd.sizeOf58
  v70 := Tryd.zeroValue58
  t72 := Tryd.underlying61
  a72 := Tryd.isAgg61
  z72 := Tryd.sizeOf61
  v72 := Tryd.zeroValue61
  t75 := Tryd.underlying31
  a75 := Tryd.isAgg31
  z75 := Tryd.sizeOf31
  v75 := Tryd.zeroValue31
  t164 := Tryd.underlying122
  a164 := Tryd.isAgg122
  z164 := Tryd.sizeOf122
  v164 := Tryd.zeroValue122 }
theorem Tryd.Builder_Extra_166 : Builder.Extra Tryd.prog Tryd.lays166_ren := {
  sizeBuilder := by kernel_rfl
  liesBuilder := by kernel_rfl
  t5 := Tryd.underlying5
  a5 := Tryd.isAgg5
  z5 := Tryd.sizeOf5
  v5 := Tryd.zeroValue5
  infoByte := by kernel_rfl
  cellsByte := by kernel_rfl
  sizeByte := by kernel_rfl
  neB5 := by decide }
theorem Tryd.WriteString_h (B b : Nat) (bs : List Value) (s : ByteArray) (w : World) (h : Lib.IsBuilderF 61 5 B b bs w) (hlen : bs.length + s.size ≤ 140737488355328) (hBw : B ≤ w.heap.size) :
    Calls Tryd.prog 28 #[.pointer (some ⟨b, 0, none⟩), .string s] w fun e w' => e = .returned (.tuple #[.int .i64 s.size, .nilIface]) ∧ (Lib.BuilderAtF 61 5 B b (.pointer (some ⟨b, 0, none⟩)) (bs ++ Lib.strCells s) w' ∧ Below B w w' ∧ Lib.OthersKept 5 (some b) w w') :=
  Any.Builder_WriteString_k Tryd.lays166 Tryd.Builder_Extra_166 B b bs s w h hlen hBw
end Go.Proofs

/- The reference's text of a number, walked: the decimal digits, with a sign ahead of a negative one. -/
namespace Go.Proofs.YtgiojkhmkeocfaaDoor
open Go.RowKit

theorem tx_conv {P : Program} (src dst e : TypeId) (hs : P.underlying src = some (.slice e)) (he : P.underlying e = some (.int .u8)) (hd : P.underlying dst = some .string) (w : World) (x : Int) (h0 : 0 ≤ x) (h1 : x < 256) :
    (convert src dst (.slice (some ⟨w.heap.size, 0, none⟩) 1 1)).run P (w.alloc (.cells #[.int .u8 x] e)) = .ok (.string ⟨#[UInt8.ofNat x.toNat]⟩) (w.alloc (.cells #[.int .u8 x] e)) := by
  have hx : ((UInt8.ofNat x.toNat).toNat : Int) = x := by simp only [UInt8.toNat_ofNat']; omega
  refine run_convert_bytes_back (w.alloc (.cells #[.int .u8 x] e)) src dst e ⟨w.heap.size, 0, none⟩ 1 [UInt8.ofNat x.toNat] hs he hd ?_
  intro j hj
  have ej : j = 0 := by simpa using hj
  subst ej
  have := heap_alloc_new w (.cells #[.int .u8 x] e)
  show (w.alloc (.cells #[.int .u8 x] e)).cell? ⟨w.heap.size, 0 + 0, none⟩ = some (.int .u8 ((UInt8.ofNat x.toNat).toNat : Int))
  rw [hx]
  unfold World.cell?
  dsimp only
  rw [this]
  rfl
/-- the last digit of a number -/
def txc (m : Nat) : UInt8 := UInt8.ofNat (48 + m % 10)
/-- the digits ahead of what is written -/
def txp (m : Nat) : List UInt8 := if m = 0 then [] else Lib.decDigits m
theorem txp_step (m : Nat) (h : 0 < m) : txp m = txp (m / 10) ++ [txc m] := by
  unfold txp
  rw [if_neg (by omega), Lib.decDigits]
  by_cases h10 : m < 10
  · rw [dif_pos h10, if_pos (by omega)]
    have : m % 10 = m := by omega
    simp [txc, this]
  · rw [dif_neg h10, if_neg (by omega)]; rfl
theorem dec_txp (m : Nat) : Lib.decDigits m = txp (m / 10) ++ [txc m] := by
  by_cases h : m = 0
  · subst h; rw [Lib.decDigits]; simp [txp, txc]
  · have := txp_step m (by omega)
    rw [← this]; simp [txp, h]
theorem dec_short : ∀ (n m : Nat), m < 10 ^ (n + 1) → (Lib.decDigits m).length ≤ n + 1
  | 0, m, h => by rw [Lib.decDigits, dif_pos (by simpa using h)]; simp
  | n + 1, m, h => by
    rw [Lib.decDigits]
    split
    · simp
    · have h2 : m / 10 < 10 ^ (n + 1) := by
        rw [Nat.div_lt_iff_lt_mul (by omega), ← Nat.pow_succ]; exact h
      have := dec_short n (m / 10) h2
      simp; omega
theorem itoa_short (n : Int) (h0 : -9223372036854775808 ≤ n) (h1 : n ≤ 9223372036854775807) : (Lib.itoa n).length ≤ 21 := by
  have hal : (Lib.decDigits n.natAbs).length ≤ 20 := dec_short 19 n.natAbs (by omega)
  unfold Lib.itoa
  split
  · simp only [List.length_cons]
    omega
  · have e : n.toNat = n.natAbs := by omega
    rw [e]
    omega
set_option maxHeartbeats 1000000 in
theorem rdigits_f (m : Nat) (hm : m < 18446744073709551616) (w : World) :
    Calls Tryd.prog 113 #[.int .u64 (m : Int)] w fun e w' => e = .returned (.string ⟨(Lib.decDigits m).toArray⟩) ∧ Below w.heap.size w w' := by
  have hcv : ∀ (u : World) (k : Nat), (convert 59 9 (.slice (some ⟨u.heap.size, 0, none⟩) 1 1)).run Tryd.prog (u.alloc (.cells #[.int .u8 (48 + (k : Int) % 10)] 5)) = .ok (.string ⟨([txc k] : List UInt8).toArray⟩) (u.alloc (.cells #[.int .u8 (48 + (k : Int) % 10)] 5)) := fun u k => by
    have h := tx_conv (P := Tryd.prog) 59 9 5 Tryd.underlying59 Tryd.underlying5 Tryd.underlying9 u (48 + (k : Int) % 10) (by omega) (by omega)
    have e : (48 + (k : Int) % 10).toNat = 48 + k % 10 := by omega
    rw [e] at h
    exact h
  have HM : Hid (Lib.decDigits m = txp (m / 10) ++ [txc m]) := dec_txp m
  go_enter Tryd.func113, Tryd.ntmps113
  go_wp2
  go_loopw [0, 3] (fun n s wr => ∃ (k : Nat) (acc : List UInt8), k < 18446744073709551616 ∧ n = .int .u64 k ∧ s = .string ⟨acc.toArray⟩ ∧ Below w.heap.size w wr ∧ txp k ++ acc = Lib.decDigits m) (fun n _ _ => (intOf n).toNat)
  case atStart => exact ⟨m / 10, [txc m], by omega, by go_num, rfl, (Below.refl _ w).alloc (Nat.le_refl _) _, HM.out.symm⟩
  case round =>
    obtain ⟨k, acc, hk, rfl, rfl, hbr, hacc⟩ := hrel
    have HA : Hid (txp k ++ acc = Lib.decDigits m) := hacc
    have hal : acc.length ≤ 20 := by
      have h1 := dec_short 19 m (by omega)
      rw [← hacc, List.length_append] at h1
      omega
    clear hacc
    by_cases h0 : 0 < k
    · have HP : Hid (txp k = txp (k / 10) ++ [txc k]) := txp_step k h0
      go_wp2
      refine ⟨⟨k / 10, [txc k] ++ acc, by omega, by go_num, ?_, hbr.alloc hbr.size _, by rw [← HA.out, HP.out]; simp⟩, by simp [intOf]; omega⟩
      exact congrArg Value.string (ba_join [txc k] acc)
    · have e : k = 0 := by omega
      subst e
      go_wp2
      go_ret
      exact ⟨by have := HA.out; rw [← this]; rfl, hbr⟩
theorem tx_wrap (n : Int) (h : n < 0) (h0 : -9223372036854775808 ≤ n) : IntKind.u64.wrap (-IntKind.u64.wrap n) = (n.natAbs : Int) := by
  simp [IntKind.wrap, IntKind.bits, IntKind.signed]
  omega
set_option maxHeartbeats 1000000 in
theorem rText_f (n : Int) (h0 : -9223372036854775808 ≤ n) (h1 : n ≤ 9223372036854775807) (w : World) :
    Calls Tryd.prog 75 #[.int .i64 n] w fun e w' => e = .returned (.string ⟨(Lib.itoa n).toArray⟩) ∧ Below w.heap.size w w' := by
  by_cases hn : n < 0
  · have HI : Hid (Lib.itoa n = [45] ++ Lib.decDigits n.natAbs) := by show Lib.itoa n = _; simp [Lib.itoa, hn]
    have hal : (Lib.decDigits n.natAbs).length ≤ 20 := dec_short 19 n.natAbs (by omega)
    go_enter Tryd.func75, Tryd.ntmps75
    go_wp2_with fail
    rw [tx_wrap n hn h0]
    refine (rdigits_f n.natAbs (by omega) _).mono ?_
    rintro e w1 ⟨rfl, hb1⟩
    go_wp2
    go_ret
    exact ⟨by rw [HI.out]; exact congrArg (fun s => Ending.returned (Value.string s)) (ba_join [45] _), hb1⟩
  · obtain ⟨m, rfl⟩ := Int.eq_ofNat_of_zero_le (Int.not_lt.1 hn)
    have HI : Hid (Lib.itoa (m : Int) = Lib.decDigits m) := by show Lib.itoa (m : Int) = _; simp [Lib.itoa]
    go_enter Tryd.func75, Tryd.ntmps75
    go_wp2_with fail
    refine (rdigits_f m (by omega) _).mono ?_
    rintro e w1 ⟨rfl, hb1⟩
    go_wp2
    go_ret
    exact ⟨by rw [HI.out]; rfl, hb1⟩
end Go.Proofs.YtgiojkhmkeocfaaDoor

/- The reference's small functions of the normal form's writing, walked: a range of lines, a line behind a sign. -/
namespace Go.Proofs.YtgiojkhmkeocfaaDoor
open Go.RowKit
attribute [local go_sem] ByteArray.extract_mk no_at

set_option maxHeartbeats 1000000 in
theorem rRange_f (p n : Int) (h0 : 0 ≤ p) (h1 : p ≤ 4611686018427387904) (h2 : 0 ≤ n) (h3 : n ≤ 4611686018427387900) (w : World) :
    Calls Tryd.prog 76 #[.int .i64 p, .int .i64 n] w fun e w' => e = .returned (.string ⟨(rngT p n).toArray⟩) ∧ Below w.heap.size w w' := by
  by_cases hn : n = 1
  · have HT : Hid (Lib.itoa (p + 1) = rngT p n) := (by show _ = _; unfold rngT; rw [if_pos hn])
    have e1 : (n == 1) = true := by rw [hn]; rfl
    go_enter Tryd.func76, Tryd.ntmps76
    go_wp2_with fail
    refine (rText_f (p + 1) (by omega) (by omega) _).mono ?_
    rintro e w1 ⟨rfl, hb1⟩
    go_wp2
    go_ret
    exact ⟨by rw [← HT.out]; rfl, hb1⟩
  · have HT : Hid (Lib.itoa (p + 1) ++ 44 :: Lib.itoa (p + n) = rngT p n) := (by show _ = _; unfold rngT; rw [if_neg hn])
    have e1 : (n == 1) = false := beq_eq_false_iff_ne.2 hn
    have l1 := itoa_short (p + 1) (by omega) (by omega)
    have l2 := itoa_short (p + n) (by omega) (by omega)
    go_enter Tryd.func76, Tryd.ntmps76
    go_wp2_with fail
    refine (rText_f (p + 1) (by omega) (by omega) _).mono ?_
    rintro e w1 ⟨rfl, hb1⟩
    generalize Lib.itoa (p + 1) = x at l1 HT ⊢
    go_wp2_with fail
    refine (rText_f (p + n) (by omega) (by omega) _).mono ?_
    rintro e w2 ⟨rfl, hb2⟩
    generalize Lib.itoa (p + n) = y at l2 HT ⊢
    go_wp2
    go_ret
    exact ⟨by rw [← HT.out]; simp [ba_join], hb1.trans (hb2.mono hb1.size)⟩
set_option maxHeartbeats 1000000 in
theorem rLine_f (ah s : List UInt8) (w : World) (h1 : ah.length ≤ 10) (h2 : s.length ≤ 2305843009213693952) :
    Calls Tryd.prog 64 #[.string ⟨ah.toArray⟩, .string ⟨s.toArray⟩] w fun e w' => e = .returned (.string ⟨((lnL ah s).flatten).toArray⟩) ∧ w' = w := by
  go_enter Tryd.func64, Tryd.ntmps64
  go_wp2_with fail
  refine (rBare_f s _ (by omega)).mono ?_
  rintro e w1 ⟨rfl, rfl⟩
  cases hf : fdB s with
  | true =>
    have HT : Hid (ah ++ s = (lnL ah s).flatten) := (by show _ = _; unfold lnL; rw [if_pos hf]; simp)
    go_wp2
    go_ret
    exact ⟨by rw [← HT.out]; simp [ba_join], rfl⟩
  | false =>
    have HT : Hid (ah ++ s ++ [10] ++ markT = (lnL ah s).flatten) := (by show _ = _; unfold lnL; rw [if_neg (by rw [hf]; decide)]; simp)
    go_wp2
    go_ret
    exact ⟨by rw [← HT.out]; simp [ba_join, markT], rfl⟩
end Go.Proofs.YtgiojkhmkeocfaaDoor

/- The reference's change of the normal form, walked. -/
namespace Go.Proofs.YtgiojkhmkeocfaaDoor
open Go.RowKit

/-- two texts can be joined -/
def Fits (x y : List UInt8) : Prop := x.length + y.length ≤ 4611686018427387904
theorem add_fits {x y : List UInt8} (h : Fits x y) (P : Program) (u : World) : (Op.stringOp .add ⟨x.toArray⟩ ⟨y.toArray⟩).run P u = .ok (.string ⟨(x ++ y).toArray⟩) u := by
  unfold Fits at h
  have e : ¬ (((⟨x.toArray⟩ : ByteArray).size + (⟨y.toArray⟩ : ByteArray).size : Nat) : Int) > IntKind.i64.max := by
    have h1 : (⟨x.toArray⟩ : ByteArray).size = x.length := rfl
    have h2 : (⟨y.toArray⟩ : ByteArray).size = y.length := rfl
    have h3 : IntKind.i64.max = 9223372036854775807 := rfl
    rw [h1, h2, h3]
    omega
  unfold Op.stringOp
  dsimp only
  rw [if_neg e, ba_join]
  rfl
/-- a change in a box, and all below it as it was -/
structure Cs (c : Ch) (b : Nat) (W w : World) : Prop where
  c0 : w.cell? ⟨b, 0, none⟩ = some (.int .i64 c.A)
  c1 : w.cell? ⟨b, 1, none⟩ = some (.int .i64 c.AN)
  c2 : w.cell? ⟨b, 2, none⟩ = some (.int .i64 c.B)
  c3 : w.cell? ⟨b, 3, none⟩ = some (.int .i64 c.BN)
  lt : b < w.heap.size
  low : Below W.heap.size W w
theorem Cs.keep {c : Ch} {b : Nat} {W w w' : World} (h : Cs c b W w) (hb : Below w.heap.size w w') : Cs c b W w' := by
  have hk : ∀ o, w'.cell? ⟨b, o, none⟩ = w.cell? ⟨b, o, none⟩ := fun o => by
    unfold World.cell?
    dsimp only
    rw [hb.block b h.lt]
  exact ⟨(hk 0).trans h.c0, (hk 1).trans h.c1, (hk 2).trans h.c2, (hk 3).trans h.c3, Nat.lt_of_lt_of_le h.lt hb.size, h.low.trans (hb.mono h.low.size)⟩
theorem cs_drew (c : Ch) (b : Nat) (W w : World) : Cs c b W w.drew ↔ Cs c b W w := ⟨fun h => ⟨h.c0, h.c1, h.c2, h.c3, h.lt, (h.low.trans ⟨rfl, rfl, rfl, Nat.le_refl _, fun _ _ => rfl⟩ : Below W.heap.size W w)⟩, fun h => ⟨h.c0, h.c1, h.c2, h.c3, h.lt, h.low.drew⟩⟩
attribute [local simp] cs_drew
theorem Cs.fresh (c : Ch) (w : World) : Cs c w.heap.size w (w.alloc (.cells #[.int .i64 c.A, .int .i64 c.AN, .int .i64 c.B, .int .i64 c.BN] 73)) := by
  have h := heap_alloc_new w (.cells #[.int .i64 c.A, .int .i64 c.AN, .int .i64 c.B, .int .i64 c.BN] 73)
  have hk : ∀ o, (w.alloc (.cells #[.int .i64 c.A, .int .i64 c.AN, .int .i64 c.B, .int .i64 c.BN] 73)).cell? ⟨w.heap.size, o, none⟩ = (#[Value.int .i64 c.A, .int .i64 c.AN, .int .i64 c.B, .int .i64 c.BN])[o]? := fun o => by
    unfold World.cell?
    dsimp only
    rw [h]
    rfl
  exact ⟨hk 0, hk 1, hk 2, hk 3, by rw [World.alloc]; simp, (Below.refl _ w).alloc (Nat.le_refl _) _⟩
/-- a call that leaves all below as it was leaves that change, too -/
theorem cs_stay {P : Program} {f : FuncId} {args : Array Value} {v : Value} {w : World} (h : Calls P f args w fun e w' => e = .returned v ∧ Below w.heap.size w w') {c : Ch} {A AN B BN : Int} (hc : Hid (⟨A, AN, B, BN⟩ = c)) (b : Nat) (W : World) (hS : Cs c b W w) :
    Calls P f args w fun e w' => e = .returned v ∧ w'.cell? ⟨b, 0, none⟩ = some (.int .i64 A) ∧ w'.cell? ⟨b, 1, none⟩ = some (.int .i64 AN) ∧ w'.cell? ⟨b, 2, none⟩ = some (.int .i64 B) ∧ w'.cell? ⟨b, 3, none⟩ = some (.int .i64 BN) ∧ Cs c b W w' := by
  have hc2 := hc.out
  subst hc2
  refine h.mono ?_
  rintro e w' ⟨rfl, hb⟩
  have hS' := hS.keep hb
  exact ⟨rfl, hS'.c0, hS'.c1, hS'.c2, hS'.c3, hS'⟩
theorem rng_short (p n : Int) (h0 : 0 ≤ p) (h1 : p ≤ 4611686018427387904) (h2 : 0 ≤ n) (h3 : n ≤ 4611686018427387900) : (rngT p n).length ≤ 43 := by
  have l1 := itoa_short (p + 1) (by omega) (by omega)
  have l2 := itoa_short (p + n) (by omega) (by omega)
  unfold rngT
  split
  · omega
  · simp only [List.length_append, List.length_cons]
    omega
theorem flatM_app {α : Type} (f : α → List (List UInt8)) (x y : List α) : ((x ++ y).flatMap f).flatten = (x.flatMap f).flatten ++ (y.flatMap f).flatten := by simp
/-- one line more -/
theorem cut_more {a : List (List UInt8)} {p n k : Nat} (hk : k < n) (hn : p + n ≤ a.length) : cut a (p : Int) ((k + 1 : Nat) : Int) = cut a p (k : Nat) ++ [a[p + k]'(by omega)] := by
  have h := @cut_cat a (p : Int) (k : Nat) 1 (by omega) (by omega) (by omega)
  have e : cut a ((p : Int) + (k : Nat)) 1 = [a[p + k]'(by omega)] := by
    unfold cut
    have e1 : ((p : Int) + (k : Nat)).toNat = p + k := by omega
    rw [e1, List.drop_eq_getElem_cons (by omega)]
    rfl
  rw [← e, h]
  rfl
theorem cut_pre {a : List (List UInt8)} {p n k : Nat} (hk : k ≤ n) (f : List UInt8 → List (List UInt8)) : ∃ z, ((cut a (p : Int) (n : Nat)).flatMap f).flatten = ((cut a (p : Int) (k : Nat)).flatMap f).flatten ++ z := by
  have h := @cut_cat a (p : Int) (k : Nat) ((n - k : Nat) : Int) (by omega) (by omega) (by omega)
  have e : ((k : Nat) : Int) + ((n - k : Nat) : Int) = (n : Nat) := by omega
  rw [e] at h
  rw [← h, flatM_app]
  exact ⟨_, rfl⟩
set_option maxHeartbeats 4000000 in
set_option maxRecDepth 8000 in
theorem rchange_f (c : Ch) (va vb : Value) (a b : List (List UInt8)) (w : World) (ha : HS w va a) (hb : HS w vb b)
    (hc : 0 ≤ c.A ∧ 0 ≤ c.AN ∧ c.A + c.AN ≤ a.length ∧ 0 ≤ c.B ∧ 0 ≤ c.BN ∧ c.B + c.BN ≤ b.length) (hla : a.length ≤ 1099511627776) (hlb : b.length ≤ 1099511627776) (hta : ∀ s ∈ a, s.length ≤ 1099511627776) (htb : ∀ s ∈ b, s.length ≤ 1099511627776) (T : List UInt8) (HT : Hid ((chgL a b c).flatten = T)) (hT : T.length ≤ 1152921504606846976) :
    Calls Tryd.prog 37 #[chV c, va, vb] w fun e w' => e = .returned (.string ⟨T.toArray⟩) ∧ Below w.heap.size w w' := by
  have hbx := Cs.fresh c w
  obtain ⟨A, AN, B, BN⟩ := c
  dsimp only at hbx hc
  obtain ⟨p1, p2, p3, p4, p5, p6⟩ := hc
  obtain ⟨A, rfl⟩ := Int.eq_ofNat_of_zero_le p1
  obtain ⟨AN, rfl⟩ := Int.eq_ofNat_of_zero_le p2
  obtain ⟨B, rfl⟩ := Int.eq_ofNat_of_zero_le p4
  obtain ⟨BN, rfl⟩ := Int.eq_ofNat_of_zero_le p5
  have r1 := rng_short A AN p1 (by omega) p2 (by omega)
  have r2 := rng_short B BN p4 (by omega) p5 (by omega)
  have r3 := itoa_short A (by omega) (by omega)
  have r4 := itoa_short B (by omega) (by omega)
  obtain ⟨C, hC⟩ : ∃ C, cmdT ⟨A, AN, B, BN⟩ = C := ⟨_, rfl⟩
  have HC : Hid (C = if (AN : Int) = 0 then Lib.itoa A ++ 97 :: rngT B BN else if (BN : Int) = 0 then rngT A AN ++ 100 :: Lib.itoa B else rngT A AN ++ 99 :: rngT B BN) := hC.symm
  have hCl : C.length ≤ 100 := (by
    have h := HC.out
    rw [h]
    split
    · simp only [List.length_append, List.length_cons]; omega
    · split
      · simp only [List.length_append, List.length_cons]; omega
      · simp only [List.length_append, List.length_cons]; omega)
  obtain ⟨ao, ca, rfl⟩ := Holds.form ha
  obtain ⟨bo, cb, rfl⟩ := Holds.form hb
  unfold chV
  go_enter Tryd.func37, Tryd.ntmps37
  go_upto_block 0 with fail
  obtain ⟨c, hc⟩ : ∃ c, (⟨A, AN, B, BN⟩ : Ch) = c := ⟨_, rfl⟩
  have HCC : Hid ((⟨A, AN, B, BN⟩ : Ch) = c) := hc
  have d0 := hbx.c0
  have d1 := hbx.c1
  have d2 := hbx.c2
  have d3 := hbx.c3
  dsimp only at d0 d1 d2 d3
  rw [hc] at hbx
  clear hc
  generalize w.alloc (.cells #[.int .i64 (A : Int), .int .i64 (AN : Int), .int .i64 (B : Int), .int .i64 (BN : Int)] 73) = wb at hbx d0 d1 d2 d3 ⊢
  generalize Value.agg #[.int .i64 (A : Int), .int .i64 (AN : Int), .int .i64 (B : Int), .int .i64 (BN : Int)] = V0
  go_cut [7] (fun z wz => z = .string ⟨C.toArray⟩ ∧ Cs c w.heap.size w wz)
  case first =>
    have hbd := (cs_drew _ _ _ _).2 hbx
    by_cases h1 : AN = 0
    · have e1 : ((AN : Int) == 0) = true := by subst h1; rfl
      have HE : Hid (C = Lib.itoa (A : Int) ++ 97 :: rngT (B : Int) (BN : Int)) := (by have h := HC.out; rw [if_pos (by omega)] at h; exact h)
      clear HC
      have q1 := add_fits (x := Lib.itoa (A : Int)) (y := [97]) (by unfold Fits; simp only [List.length_cons, List.length_nil]; omega) Tryd.prog
      have q2 := add_fits (x := Lib.itoa (A : Int) ++ [97]) (y := rngT (B : Int) (BN : Int)) (by unfold Fits; simp only [List.length_append, List.length_cons, List.length_nil]; omega) Tryd.prog
      go_wp2_with fail
      go_region_held3 (fun w' => w'.cell? ⟨w.heap.size, 0, none⟩ = some (.int .i64 (A : Int)) ∧ w'.cell? ⟨w.heap.size, 1, none⟩ = some (.int .i64 (AN : Int)) ∧ w'.cell? ⟨w.heap.size, 2, none⟩ = some (.int .i64 (B : Int)) ∧ w'.cell? ⟨w.heap.size, 3, none⟩ = some (.int .i64 (BN : Int)) ∧ Cs c w.heap.size w w') (go_keep)
        (first
          | (go_at_call 75; refine (cs_stay (rText_f A (by omega) (by omega) _) HCC w.heap.size w (by first | assumption | (rw [cs_drew]; assumption))).mono ?_; rintro e w' ⟨rfl, e0, e1, e2, e3, hbS⟩)
          | (go_at_call 76; refine (cs_stay (rRange_f _ _ (by omega) (by omega) (by omega) (by omega) _) HCC w.heap.size w (by first | assumption | (rw [cs_drew]; assumption))).mono ?_; rintro e w' ⟨rfl, e0, e1, e2, e3, hbS⟩))
      all_goals go_wp2
      all_goals go_meet
      all_goals exact ⟨by rw [HE.out]; try simp, by assumption⟩
    · have e1 : ((AN : Int) == 0) = false := beq_eq_false_iff_ne.2 (by omega)
      by_cases h2 : BN = 0
      · have e2 : ((BN : Int) == 0) = true := by subst h2; rfl
        have HE : Hid (C = rngT (A : Int) (AN : Int) ++ 100 :: Lib.itoa (B : Int)) := (by have h := HC.out; rw [if_neg (by omega), if_pos (by omega)] at h; exact h)
        clear HC
        have q1 := add_fits (x := rngT (A : Int) (AN : Int)) (y := [100]) (by unfold Fits; simp only [List.length_cons, List.length_nil]; omega) Tryd.prog
        have q2 := add_fits (x := rngT (A : Int) (AN : Int) ++ [100]) (y := Lib.itoa (B : Int)) (by unfold Fits; simp only [List.length_append, List.length_cons, List.length_nil]; omega) Tryd.prog
        go_wp2_with fail
        go_region_held3 (fun w' => w'.cell? ⟨w.heap.size, 0, none⟩ = some (.int .i64 (A : Int)) ∧ w'.cell? ⟨w.heap.size, 1, none⟩ = some (.int .i64 (AN : Int)) ∧ w'.cell? ⟨w.heap.size, 2, none⟩ = some (.int .i64 (B : Int)) ∧ w'.cell? ⟨w.heap.size, 3, none⟩ = some (.int .i64 (BN : Int)) ∧ Cs c w.heap.size w w') (go_keep)
          (first
            | (go_at_call 76; refine (cs_stay (rRange_f _ _ (by omega) (by omega) (by omega) (by omega) _) HCC w.heap.size w (by first | assumption | (rw [cs_drew]; assumption))).mono ?_; rintro e w' ⟨rfl, e0, e1, e2, e3, hbS⟩)
            | (go_at_call 75; refine (cs_stay (rText_f B (by omega) (by omega) _) HCC w.heap.size w (by first | assumption | (rw [cs_drew]; assumption))).mono ?_; rintro e w' ⟨rfl, e0, e1, e2, e3, hbS⟩))
        all_goals go_wp2
        all_goals go_meet
        all_goals exact ⟨by rw [HE.out]; try simp, by assumption⟩
      · have e2 : ((BN : Int) == 0) = false := beq_eq_false_iff_ne.2 (by omega)
        have HE : Hid (C = rngT (A : Int) (AN : Int) ++ 99 :: rngT (B : Int) (BN : Int)) := (by have h := HC.out; rw [if_neg (by omega), if_neg (by omega)] at h; exact h)
        clear HC
        have q1 := add_fits (x := rngT (A : Int) (AN : Int)) (y := [99]) (by unfold Fits; simp only [List.length_cons, List.length_nil]; omega) Tryd.prog
        have q2 := add_fits (x := rngT (A : Int) (AN : Int) ++ [99]) (y := rngT (B : Int) (BN : Int)) (by unfold Fits; simp only [List.length_append, List.length_cons, List.length_nil]; omega) Tryd.prog
        go_wp2_with fail
        go_region_held3 (fun w' => w'.cell? ⟨w.heap.size, 0, none⟩ = some (.int .i64 (A : Int)) ∧ w'.cell? ⟨w.heap.size, 1, none⟩ = some (.int .i64 (AN : Int)) ∧ w'.cell? ⟨w.heap.size, 2, none⟩ = some (.int .i64 (B : Int)) ∧ w'.cell? ⟨w.heap.size, 3, none⟩ = some (.int .i64 (BN : Int)) ∧ Cs c w.heap.size w w') (go_keep)
          (first
            | (go_at_call 76; refine (cs_stay (rRange_f _ _ (by omega) (by omega) (by omega) (by omega) _) HCC w.heap.size w (by first | assumption | (rw [cs_drew]; assumption))).mono ?_; rintro e w' ⟨rfl, e0, e1, e2, e3, hbS⟩))
        all_goals go_wp2
        all_goals go_meet
        all_goals exact ⟨by rw [HE.out]; try simp, by assumption⟩
  case rest =>
    obtain ⟨rfl, hbx⟩ := hcut
    obtain ⟨X, HX⟩ : ∃ X : Nat → List UInt8, Hid (∀ k, X k = C ++ [10] ++ ((cut a (A : Int) (k : Nat)).flatMap (lnL [60, 32])).flatten) := ⟨_, fun _ => rfl⟩
    obtain ⟨S, HSp⟩ : ∃ S : List UInt8, Hid (S = (sepL ⟨A, AN, B, BN⟩).flatten) := ⟨_, rfl⟩
    obtain ⟨Y, HY⟩ : ∃ Y : Nat → List UInt8, Hid (∀ k, Y k = X AN ++ S ++ ((cut b (B : Int) (k : Nat)).flatMap (lnL [62, 32])).flatten) := ⟨_, fun _ => rfl⟩
    have hTY : T = Y BN := (by
      rw [← HT.out, HY.out, HX.out, HSp.out, ← hC]
      simp only [chgL, List.flatten_cons, List.flatten_append, List.append_assoc])
    have x0 : X 0 = C ++ [10] := (by rw [HX.out]; simp [cut])
    have HXs : Hid (∀ k (_ : k < AN) (h2 : A + k < a.length), X (k + 1) = X k ++ (lnL [60, 32] a[A + k]).flatten) := (by
      intro k hk h2
      rw [HX.out, HX.out, cut_more hk (by omega), flatM_app]
      simp)
    have HYs : Hid (∀ k (_ : k < BN) (h2 : B + k < b.length), Y (k + 1) = Y k ++ (lnL [62, 32] b[B + k]).flatten) := (by
      intro k hk h2
      rw [HY.out, HY.out, cut_more hk (by omega), flatM_app]
      simp)
    have HY0 : Hid (Y 0 = X AN ++ S) := (by show _ = _; rw [HY.out]; simp [cut])
    have HYl : Hid (∀ k, k ≤ BN → (Y k).length ≤ 1152921504606846976) := (by
      intro k hk
      obtain ⟨z, hz⟩ := @cut_pre b B BN k hk (lnL [62, 32])
      have h1 := hTY
      rw [HY.out, hz] at h1
      rw [h1] at hT
      rw [HY.out]
      simp only [List.length_append] at hT ⊢
      omega)
    have hXA : (X AN).length + S.length ≤ 1152921504606846976 := (by
      have h1 := HYl.out 0 (by omega)
      rw [HY0.out, List.length_append] at h1
      exact h1)
    have HXl : Hid (∀ k, k ≤ AN → (X k).length ≤ 1152921504606846976) := (by
      intro k hk
      obtain ⟨z, hz⟩ := @cut_pre a A AN k hk (lnL [60, 32])
      have h1 := hXA
      rw [HX.out, hz] at h1
      rw [HX.out]
      simp only [List.length_append] at h1 ⊢
      omega)
    have HL : Hid (∀ (ah s : List UInt8), ah.length ≤ 10 → s.length ≤ 1099511627776 → (lnL ah s).flatten.length ≤ 1099511627876) := (by
      intro ah s h1 h2
      unfold lnL
      split <;> simp [markT] <;> omega)
    have hwc := hbx.low
    have d0 := hbx.c0
    have d1 := hbx.c1
    have d2 := hbx.c2
    have d3 := hbx.c3
    have hcc := HCC.out
    rw [← hcc] at d0 d1 d2 d3
    dsimp only at d0 d1 d2 d3
    have haw : HS wc (.slice ao a.length ca) a := ha.keep hwc (Nat.le_refl _)
    have hbw : HS wc (.slice bo b.length cb) b := hb.keep hwc (Nat.le_refl _)
    clear hcc ha hb hbx HC hC HT hT r1 r2 r3 r4 HX HY
    go_wp2
    go_loopw [8, 7] (fun i s wr => ∃ k : Nat, k ≤ AN ∧ i = .int .i64 ((A + k : Nat) : Int) ∧ s = .string ⟨(X k).toArray⟩ ∧ wr = wc) (fun i _ _ => A + AN - (intOf i).toNat)
    case atStart => exact ⟨0, Nat.zero_le _, rfl, by rw [x0]; simp [ba_join], rfl⟩
    case round =>
      obtain ⟨k, hk, rfl, rfl, rfl⟩ := hrel
      by_cases hlt : k < AN
      · obtain ⟨bk, off, rfl, _, hcl⟩ := HS.at haw (by omega)
        have d := hcl (A + k) (by omega)
        clear hcl
        have hs1 := hta a[A + k] (List.getElem_mem _)
        have hl1 := HXl.out k (by omega)
        have hl2 := HL.out [60, 32] a[A + k] (by decide) hs1
        have hl3 := HXl.out (k + 1) (by omega)
        have HE : Hid (X (k + 1) = X k ++ (lnL [60, 32] a[A + k]).flatten) := HXs.out k hlt (by omega)
        have i1 : 0 ≤ ((A + k : Nat) : Int) := by omega
        have i2 : ((A + k : Nat) : Int) < (a.length : Int) := by omega
        have i3 : ((A + k : Nat) : Int) < (A : Int) + (AN : Int) := by omega
        generalize hak : a[A + k] = s1 at *
        go_wp2_with fail
        refine (rLine_f [60, 32] s1 _ (by decide) (by omega)).mono ?_
        rintro e w1 ⟨rfl, rfl⟩
        generalize (lnL [60, 32] s1).flatten = Z at *
        generalize X k = x1 at *
        go_wp2
        go_roundw
        case rel => exact ⟨k + 1, by omega, by go_num, by rw [HE.out]; simp [ba_join], trivial⟩
        case measure => simp [intOf]; omega
      · have ek : k = AN := by omega
        subst ek
        have i3 : ¬ ((A + k : Nat) : Int) < (A : Int) + (k : Int) := by omega
        have hl1 := hXA
        clear HXs HXl
        obtain ⟨q, hq⟩ : ∃ q, (decide (0 < k) && decide (0 < BN)) = q := ⟨_, rfl⟩
        have HQ : Hid ((decide (0 < k) && decide (0 < BN)) = q) := hq
        clear hq
        go_upto_region 12 with fail
        go_cut [77] (fun z wz => z = .bool q ∧ wz = wr)
        case first =>
          by_cases h1 : 0 < k
          · have g1 : (0 : Int) < (k : Int) := by omega
            by_cases h2 : 0 < BN
            · have g2 : (0 : Int) < (BN : Int) := by omega
              have hq : q = true := (by rw [← HQ.out]; simp [h1, h2])
              subst hq
              go_wp2
              go_meet
              case rel => exact ⟨rfl, rfl⟩
            · have g2 : ¬ (0 : Int) < (BN : Int) := by omega
              have hq : q = false := (by rw [← HQ.out]; simp [h2])
              subst hq
              go_wp2
              go_meet
              case rel => exact ⟨rfl, rfl⟩
          · have g1 : ¬ (0 : Int) < (k : Int) := by omega
            have hq : q = false := (by rw [← HQ.out]; simp [h1])
            subst hq
            go_wp2
            go_meet
            case rel => exact ⟨rfl, rfl⟩
        case rest =>
          obtain ⟨rfl, rfl⟩ := hcut
          go_upto_if 77 with fail
          go_cut [7] (fun z wz => z = .string ⟨(Y 0).toArray⟩ ∧ wz = wc)
          case first =>
            have HE := HY0
            cases q with
            | true =>
              have hS : S = [45, 45, 45, 10] := (by
                have h := HQ.out
                simp only [Bool.and_eq_true, decide_eq_true_eq] at h
                rw [HSp.out]
                unfold sepL
                rw [if_pos (by dsimp only; omega)]
                rfl)
              have hSl : S.length = 4 := by rw [hS]; rfl
              go_wp2
              go_meet
              case rel => exact ⟨by rw [HE.out, hS]; simp [ba_join], rfl⟩
            | false =>
              have hS : S = [] := (by
                have h := HQ.out
                simp only [Bool.and_eq_false_iff, decide_eq_false_iff_not] at h
                rw [HSp.out]
                unfold sepL
                rw [if_neg (by dsimp only; omega)]
                rfl)
              go_wp2
              go_meet
              case rel => exact ⟨by rw [HE.out, hS]; simp, rfl⟩
          case rest =>
            obtain ⟨rfl, rfl⟩ := hcut
            clear HY0 HQ HSp hl1 i3
            generalize Value.int IntKind.i64 ((A + k : Nat) : Int) = V8
            go_wp2
            go_loopw [9, 7] (fun i s wr => ∃ k : Nat, k ≤ BN ∧ i = .int .i64 ((B + k : Nat) : Int) ∧ s = .string ⟨(Y k).toArray⟩ ∧ wr = wc) (fun i _ _ => B + BN - (intOf i).toNat)
            case atStart => exact ⟨0, Nat.zero_le _, rfl, rfl, rfl⟩
            case round =>
              obtain ⟨j, hj, rfl, rfl, rfl⟩ := hrel
              by_cases hlt : j < BN
              · obtain ⟨bk, off, rfl, _, hcl⟩ := HS.at hbw (by omega)
                have d := hcl (B + j) (by omega)
                clear hcl
                have hs1 := htb b[B + j] (List.getElem_mem _)
                have hl1 := HYl.out j (by omega)
                have hl2 := HL.out [62, 32] b[B + j] (by decide) hs1
                have hl3 := HYl.out (j + 1) (by omega)
                have HE : Hid (Y (j + 1) = Y j ++ (lnL [62, 32] b[B + j]).flatten) := HYs.out j hlt (by omega)
                have i1 : 0 ≤ ((B + j : Nat) : Int) := by omega
                have i2 : ((B + j : Nat) : Int) < (b.length : Int) := by omega
                have i3 : ((B + j : Nat) : Int) < (B : Int) + (BN : Int) := by omega
                generalize hak : b[B + j] = s1 at *
                go_wp2_with fail
                refine (rLine_f [62, 32] s1 _ (by decide) (by omega)).mono ?_
                rintro e w1 ⟨rfl, rfl⟩
                generalize (lnL [62, 32] s1).flatten = Z at *
                generalize Y j = x1 at *
                go_wp2
                go_roundw
                case rel => exact ⟨j + 1, by omega, by go_num, by rw [HE.out]; simp [ba_join], trivial⟩
                case measure => simp [intOf]; omega
              · have ej : j = BN := by omega
                subst ej
                have i3 : ¬ ((B + j : Nat) : Int) < (B : Int) + (j : Int) := by omega
                go_wp2
                go_ret
                exact ⟨by first | rfl | (rw [hTY]; rfl), hwc⟩
end Go.Proofs.YtgiojkhmkeocfaaDoor

/- What is written in the normal form is read as the hunks without context; plain mathematics. -/
namespace Go.Proofs.YtgiojkhmkeocfaaDoor
open Ln

/-- bytes of numbers and ranges -/
def numC (c : UInt8) : Bool := Pn.digB c || c == 44
theorem itoa_dig {n : Int} (h : 0 ≤ n) : ∀ c ∈ Lib.itoa n, Pn.digB c = true := by
  intro c hc
  obtain ⟨m, rfl⟩ : ∃ m : Nat, n = m := ⟨n.toNat, by omega⟩
  rw [itoa_nat] at hc
  exact (List.all_eq_true.1 (dec_all m)) c hc
theorem itoa_ne {n : Int} (h : 0 ≤ n) : Lib.itoa n ≠ [] := by
  obtain ⟨m, rfl⟩ : ∃ m : Nat, n = m := ⟨n.toNat, by omega⟩
  rw [itoa_nat]
  exact dec_ne m
theorem rng_num {p n : Int} (hp : 0 ≤ p) (hn : 1 ≤ n) : ∀ c ∈ rngT p n, numC c = true := by
  intro c hc
  unfold rngT at hc
  unfold numC
  split at hc
  · rw [itoa_dig (by omega) c hc]; rfl
  · rcases List.mem_append.1 hc with hc | hc
    · rw [itoa_dig (by omega) c hc]; rfl
    · rcases List.mem_cons.1 hc with rfl | hc
      · simp
      · rw [itoa_dig (by omega) c hc]; rfl
theorem dig_facts {c : UInt8} (h : Pn.digB c = true) : isC c = false ∧ isK c = false ∧ c ≠ 10 ∧ c ≠ 92 := by
  have h1 := Pn.digB_out h
  refine ⟨?_, ?_, ?_, ?_⟩
  · unfold isC
    simp only [Bool.or_eq_false_iff, beq_eq_false_iff_ne]
    refine ⟨⟨?_, ?_⟩, ?_⟩ <;> (rintro rfl; simp at h1)
  · unfold isK
    rw [beq_eq_false_iff_ne]
    rintro rfl
    simp at h1
  · rintro rfl
    simp at h1
  · rintro rfl
    simp at h1
theorem num_facts {c : UInt8} (h : numC c = true) : isC c = false ∧ c ≠ 10 ∧ c ≠ 92 := by
  unfold numC at h
  rcases Bool.or_eq_true_iff.1 h with h | h
  · have := dig_facts h
    exact ⟨this.1, this.2.2.1, this.2.2.2⟩
  · have : c = 44 := by simpa using h
    subst this
    decide
theorem spB_app {q : UInt8 → Bool} {x y : List UInt8} {d : UInt8} (hx : ∀ c ∈ x, q c = false) (hd : q d = true) : spB q (x ++ d :: y) = some (x, d, y) := by
  induction x with
  | nil => simp [spB, hd]
  | cons c x ih =>
    simp only [List.cons_append, spB]
    rw [if_neg (by rw [hx c (by simp)]; decide), ih fun z hz => hx z (by simp [hz])]
theorem spB_none {q : UInt8 → Bool} {x : List UInt8} (hx : ∀ c ∈ x, q c = false) : spB q x = none := by
  induction x with
  | nil => rfl
  | cons c x ih =>
    simp only [spB]
    rw [if_neg (by rw [hx c (by simp)]; decide), ih fun z hz => hx z (by simp [hz])]
theorem lnsP_rng {p n : Int} (hp : 0 ≤ p) (hn : 1 ≤ n) (hb : p + n ≤ 2147483647) : lnsP (rngT p n) = some (p + 1, n) := by
  unfold rngT
  by_cases h1 : n = 1
  · rw [if_pos h1]
    unfold lnsP
    rw [spB_none (fun c hc => (dig_facts (itoa_dig (by omega) c hc)).2.1)]
    obtain ⟨e1, e2⟩ := parse_itoa_ok (n := p + 1) (by omega) (by omega)
    have hc : Pn.parseE (Lib.itoa (p + 1)) = 0 ∧ 1 ≤ Pn.parseV (Lib.itoa (p + 1)) := ⟨e2, by rw [e1]; omega⟩
    simp only
    rw [if_pos hc, e1, h1]
  · rw [if_neg h1]
    unfold lnsP
    rw [spB_app (fun c hc => (dig_facts (itoa_dig (by omega) c hc)).2.1) (by decide)]
    obtain ⟨e1, e2⟩ := parse_itoa_ok (n := p + 1) (by omega) (by omega)
    obtain ⟨e3, e4⟩ := parse_itoa_ok (n := p + n) (by omega) (by omega)
    have hc : Pn.parseE (Lib.itoa (p + 1)) = 0 ∧ Pn.parseE (Lib.itoa (p + n)) = 0 ∧ 1 ≤ Pn.parseV (Lib.itoa (p + 1)) ∧ Pn.parseV (Lib.itoa (p + 1)) < Pn.parseV (Lib.itoa (p + n)) := ⟨e2, e4, by rw [e1]; omega, by rw [e1, e3]; omega⟩
    simp only
    rw [if_pos hc, e1, e3]
    congr 2
    omega
theorem oneP_itoa {n : Int} (h : 0 ≤ n) (hb : n ≤ 2147483647) : oneP (Lib.itoa n) = some (n, 0) := by
  unfold oneP
  obtain ⟨e1, e2⟩ := parse_itoa_ok h hb
  rw [if_pos e2, e1]
/-- the numbers that a hunk without context says -/
def noA (p n : Int) : Int := if 0 < n then p + 1 else p
theorem cmd_back {c : Ch} (hn : numB c = true) (hA : c.A + c.AN ≤ 2147483647) (hB : c.B + c.BN ≤ 2147483647) : cmdP (cmdT c) = some (noA c.A c.AN, c.AN, noA c.B c.BN, c.BN) := by
  have h := (numB_iff c).1 hn
  unfold cmdT cmdP noA
  by_cases h1 : c.AN = 0
  · have hb : 0 < c.BN := by omega
    rw [if_pos h1, spB_app (fun x hx => (dig_facts (itoa_dig (by omega) x hx)).1) (by decide)]
    simp only [if_true]
    rw [if_neg (by decide), oneP_itoa (by omega) (by omega), lnsP_rng (by omega) (by omega) hB, h1, if_pos hb]
    rfl
  · have ha : 0 < c.AN := by omega
    rw [if_neg h1, if_pos ha]
    by_cases h2 : c.BN = 0
    · rw [if_pos h2, spB_app (fun x hx => (num_facts (rng_num (by omega) (by omega) x hx)).1) (by decide)]
      simp only [if_true]
      rw [if_neg (by decide), lnsP_rng (by omega) (by omega) hA, oneP_itoa (by omega) (by omega), h2]
      rfl
    · have hb : 0 < c.BN := by omega
      rw [if_neg h2, spB_app (fun x hx => (num_facts (rng_num (by omega) (by omega) x hx)).1) (by decide)]
      simp only
      rw [if_neg (by decide), if_neg (by decide), lnsP_rng (by omega) (by omega) hA, lnsP_rng (by omega) (by omega) hB, if_pos hb]
theorem cmd_bytes {c : Ch} (hn : numB c = true) : (∀ x ∈ cmdT c, x ≠ 10) ∧ ∃ y t, cmdT c = y :: t ∧ y ≠ 92 := by
  have h := (numB_iff c).1 hn
  have hd : ∀ (n : Int) (t : List UInt8), 0 ≤ n → ∃ y u, Lib.itoa n ++ t = y :: u ∧ y ≠ 92 := by
    intro n t h0
    cases hq : Lib.itoa n with
    | nil => exact absurd hq (itoa_ne h0)
    | cons y u =>
      refine ⟨y, u ++ t, rfl, ?_⟩
      exact (dig_facts (itoa_dig h0 y (by rw [hq]; simp))).2.2.2
  have hr : ∀ (p n : Int) (t : List UInt8), 0 ≤ p → ∃ y u, rngT p n ++ t = y :: u ∧ y ≠ 92 := by
    intro p n t h0
    unfold rngT
    split
    · exact hd _ _ (by omega)
    · rw [List.append_assoc]
      exact hd _ _ (by omega)
  unfold cmdT
  split
  · rename_i h1
    refine ⟨?_, hd _ _ (by omega)⟩
    intro x hx
    rcases List.mem_append.1 hx with hx | hx
    · exact (dig_facts (itoa_dig (by omega) x hx)).2.2.1
    · rcases List.mem_cons.1 hx with rfl | hx
      · decide
      · exact (num_facts (rng_num (by omega) (by omega) x hx)).2.1
  · split
    · refine ⟨?_, hr _ _ _ (by omega)⟩
      intro x hx
      rcases List.mem_append.1 hx with hx | hx
      · exact (num_facts (rng_num (by omega) (by omega) x hx)).2.1
      · rcases List.mem_cons.1 hx with rfl | hx
        · decide
        · exact (dig_facts (itoa_dig (by omega) x hx)).2.2.1
    · refine ⟨?_, hr _ _ _ (by omega)⟩
      intro x hx
      rcases List.mem_append.1 hx with hx | hx
      · exact (num_facts (rng_num (by omega) (by omega) x hx)).2.1
      · rcases List.mem_cons.1 hx with rfl | hx
        · decide
        · exact (num_facts (rng_num (by omega) (by omega) x hx)).2.1
/-- lines that all are lines, and have their line feed but for the last one -/
def Rows : List (List UInt8) → Prop
  | [] => True
  | x :: r => linB x = true ∧ (r ≠ [] → fdB x = true) ∧ Rows r
theorem lin_no {x : List UInt8} (h : linB x = true) : x ≠ [] ∧ ∀ c ∈ x.dropLast, c ≠ 10 := by
  unfold linB at h
  simp only [Bool.and_eq_true] at h
  refine ⟨?_, fun c hc => ?_⟩
  · rintro rfl
    simp at h
  · have := (List.all_eq_true.1 h.2) c hc
    simpa using this
theorem fd_form {x : List UInt8} (h : fdB x = true) : x = x.dropLast ++ [10] := by
  unfold fdB at h
  have h1 : x.getLast? = some 10 := by simpa using h
  obtain ⟨q, rfl⟩ := List.getLast?_eq_some_iff.1 h1
  simp
theorem fd_app {ah x : List UInt8} (h : fdB x = true) : fdB (ah ++ x) = true ∧ (ah ++ x).dropLast = ah ++ x.dropLast := by
  have e := fd_form h
  rw [e, ← List.append_assoc]
  refine ⟨fd_snoc _, ?_⟩
  simp
theorem rd_back (ah : List UInt8) (S : Int) (xs : List (List UInt8)) : ∀ (p : Nat) (rest : List (List UInt8)), Rows xs → pkM rest = false → ∃ p', rdN ah S xs.length p (xs.flatMap (lnL ah) ++ rest) = .ok (mks S xs, p', rest) := by
  induction xs with
  | nil => intro p rest _ _; exact ⟨p, rfl⟩
  | cons x xs ih =>
    intro p rest hR hp
    obtain ⟨h1, h2, h3⟩ := hR
    simp only [List.length_cons, rdN, List.flatMap_cons, List.append_assoc]
    cases hf : fdB x with
    | true =>
      have hl : lnL ah x = [ah ++ x] := by unfold lnL; rw [if_pos hf]
      obtain ⟨e1, e2⟩ := fd_app (ah := ah) hf
      have hm : mkd ah (xs.length == 0) p ([ah ++ x] ++ (xs.flatMap (lnL ah) ++ rest)) = .ok (x, p + 1, xs.flatMap (lnL ah) ++ rest) := by
        unfold mkd
        simp only [List.singleton_append, nxt, e1, if_true, e2]
        rw [if_pos (by simp), if_neg ?_]
        · simp only [List.drop_left]
          rw [← fd_form hf]
        · cases xs with
          | nil => simp [hp]
          | cons y ys => simp
      rw [hl, hm]
      obtain ⟨p', hq⟩ := ih (p + 1) rest h3 hp
      simp only [hq]
      exact ⟨p', rfl⟩
    | false =>
      have hx : xs = [] := by
        cases xs with
        | nil => rfl
        | cons y ys => have := h2 (by simp); rw [hf] at this; cases this
      subst hx
      have hl : lnL ah x = [ah ++ x ++ [10], markT] := by unfold lnL; rw [if_neg (by rw [hf]; decide)]
      have hm : mkd ah (([] : List (List UInt8)).length == 0) p ([ah ++ x ++ [10], markT] ++ (([] : List (List UInt8)).flatMap (lnL ah) ++ rest)) = .ok (x, p + 2, rest) := by
        unfold mkd
        simp only [List.cons_append, List.nil_append, nxt, fd_snoc, if_true, List.dropLast_concat]
        rw [if_pos (by simp), if_pos (by simp [pkM]), if_neg (by simp only [List.drop_left]; exact (lin_no h1).1)]
        simp
      rw [hl, hm]
      exact ⟨p + 2, rfl⟩
/-- behind old lines there is no mark -/
theorem pk_new {ah : List UInt8} {xs rest : List (List UInt8)} (ha : ah.head? = some 62) (hp : pkM rest = false) : pkM (xs.flatMap (lnL ah) ++ rest) = false := by
  cases xs with
  | nil => exact hp
  | cons x xs =>
    cases ah with
    | nil => cases ha
    | cons y ah =>
      simp only [List.head?_cons, Option.some.injEq] at ha
      subst ha
      rw [List.flatMap_cons, lnL]
      split <;> rfl
/-- a change is read as its hunk -/
theorem hk_back {a b : List (List UInt8)} {c : Ch} {k p : Nat} {rest : List (List UInt8)} (hn : numB c = true) (hA : c.A + c.AN ≤ 2147483647) (hB : c.B + c.BN ≤ 2147483647) (hAl : (cut a c.A c.AN).length = c.AN.toNat) (hBl : (cut b c.B c.BN).length = c.BN.toNat) (hRa : Rows (cut a c.A c.AN)) (hRb : Rows (cut b c.B c.BN)) (hk : k < 4096) (hp : pkM rest = false) : ∃ p', hkP k p (chgL a b c ++ rest) = .ok (⟨noA c.A c.AN, c.AN, noA c.B c.BN, c.BN, mks 45 (cut a c.A c.AN) ++ mks 43 (cut b c.B c.BN)⟩, p', rest) := by
  have hb := pk_new (ah := [62, 32]) (xs := cut b c.B c.BN) (rest := rest) (by decide) hp
  have hs : pkM (sepL c ++ ((cut b c.B c.BN).flatMap (lnL [62, 32]) ++ rest)) = false := by
    unfold sepL
    split
    · rfl
    · exact hb
  obtain ⟨p1, h1⟩ := rd_back [60, 32] 45 (cut a c.A c.AN) (p + 1) (sepL c ++ ((cut b c.B c.BN).flatMap (lnL [62, 32]) ++ rest)) hRa hs
  have h2 : ∃ p2, (if 0 < c.AN ∧ 0 < c.BN then sepP p1 (sepL c ++ ((cut b c.B c.BN).flatMap (lnL [62, 32]) ++ rest)) else .ok (p1, sepL c ++ ((cut b c.B c.BN).flatMap (lnL [62, 32]) ++ rest))) = .ok (p2, (cut b c.B c.BN).flatMap (lnL [62, 32]) ++ rest) := by
    unfold sepL
    by_cases hq : 0 < c.AN ∧ 0 < c.BN
    · rw [if_pos hq, if_pos hq]
      refine ⟨p1 + 1, ?_⟩
      unfold sepP
      rfl
    · rw [if_neg hq, if_neg hq]
      exact ⟨p1, rfl⟩
  obtain ⟨p2, h2⟩ := h2
  obtain ⟨p3, h3⟩ := rd_back [62, 32] 43 (cut b c.B c.BN) p2 rest hRb hp
  refine ⟨p3, ?_⟩
  rw [hAl] at h1
  rw [hBl] at h3
  unfold hkP chgL
  simp only [List.cons_append, nxt, fd_snoc, if_true, List.dropLast_concat, cmd_back hn hA hB, List.append_assoc]
  rw [if_neg (by omega)]
  simp only [h1, h2, h3]
end Go.Proofs.YtgiojkhmkeocfaaDoor

/- The normal form of an edit script: read again it is the hunks without context; a part of it is never read as the whole; plain mathematics. -/
namespace Go.Proofs.YtgiojkhmkeocfaaDoor
open Ln

theorem rows_of {a : List (List UInt8)} (h : checkB a = true) : Rows a := by
  induction a with
  | nil => trivial
  | cons s t ih =>
    simp only [checkB, Bool.and_eq_true] at h
    have h1 := h.1
    rw [lineB_eq] at h1
    simp only [Bool.and_eq_true, Bool.or_eq_true] at h1
    refine ⟨h1.1, fun hne => ?_, ih h.2⟩
    rcases h1.2 with h2 | h2
    · cases t with
      | nil => exact absurd rfl hne
      | cons => cases h2
    · exact h2
theorem rows_drop {a : List (List UInt8)} (n : Nat) (h : Rows a) : Rows (a.drop n) := by
  induction n generalizing a with
  | zero => exact h
  | succ n ih =>
    cases a with
    | nil => trivial
    | cons s t => exact ih h.2.2
theorem rows_take {a : List (List UInt8)} (n : Nat) (h : Rows a) : Rows (a.take n) := by
  induction n generalizing a with
  | zero => trivial
  | succ n ih =>
    cases a with
    | nil => trivial
    | cons s t =>
      refine ⟨h.1, fun hne => h.2.1 fun e => ?_, ih h.2.2⟩
      subst e
      simp at hne
theorem rows_cut {a : List (List UInt8)} (h : checkB a = true) (p n : Int) : Rows (cut a p n) := rows_take _ (rows_drop _ (rows_of h))
theorem rows_lin {a : List (List UInt8)} (h : Rows a) : ∀ x ∈ a, linB x = true := by
  induction a with
  | nil => intro x hx; cases hx
  | cons s t ih =>
    intro x hx
    rcases List.mem_cons.1 hx with rfl | hx
    · exact h.1
    · exact ih h.2.2 x hx
theorem npk_mks {no sg : Int} (t : List (List UInt8)) : pkL no (mks sg t) = if sg ≠ no ∧ okS sg = true then t else [] := by
  induction t with
  | nil => simp [mks, pkL]
  | cons s t ih =>
    have e : mks sg (s :: t) = ⟨sg, s⟩ :: mks sg t := rfl
    rw [e, pkL, ih]
    split <;> rfl
/-- the hunk of one change without context -/
theorem one_zero {a b : List (List UInt8)} {c : Ch} (hn : numB c = true) (hA : c.A + c.AN ≤ a.length) (hB : c.B + c.BN ≤ b.length) : oneH a b 0 [c] = ⟨noA c.A c.AN, c.AN, noA c.B c.BN, c.BN, mks 45 (cut a c.A c.AN) ++ mks 43 (cut b c.B c.BN)⟩ := by
  have h := (numB_iff c).1 hn
  have e : bodyH a b (min (a.length : Int) (c.A + c.AN + 0)) (c.A - min 0 c.A) [c] = mks 45 (cut a c.A c.AN) ++ mks 43 (cut b c.B c.BN) := by
    rw [show min (a.length : Int) (c.A + c.AN + 0) = c.A + c.AN by omega, show c.A - min 0 c.A = c.A by omega]
    simp only [bodyH]
    rw [show c.A - c.A = (0 : Int) by omega, show c.A + c.AN - (c.A + c.AN) = (0 : Int) by omega, cut_zero, cut_zero]
    simp [mks]
  have l1 : ((cut a c.A c.AN).length : Int) = c.AN := hcut_length (by omega) (by omega) hA
  have l2 : ((cut b c.B c.BN).length : Int) = c.BN := hcut_length (by omega) (by omega) hB
  have p1 : pkL 43 (mks 45 (cut a c.A c.AN) ++ mks 43 (cut b c.B c.BN)) = cut a c.A c.AN := by
    rw [pkL_append, npk_mks, npk_mks, if_pos (by decide), if_neg (by decide), List.append_nil]
  have p2 : pkL 45 (mks 45 (cut a c.A c.AN) ++ mks 43 (cut b c.B c.BN)) = cut b c.B c.BN := by
    rw [pkL_append, npk_mks, npk_mks, if_neg (by decide), if_pos (by decide), List.nil_append]
  show cntH (c.A - min 0 c.A) (c.B - min 0 c.A) (bodyH a b (min (a.length : Int) (c.A + c.AN + 0)) (c.A - min 0 c.A) [c]) = _
  rw [e]
  unfold cntH noA
  rw [p1, p2, l1, l2, show c.A - min 0 c.A = c.A by omega, show c.B - min 0 c.A = c.B by omega]
  have q1 : (0 < (cut a c.A c.AN).length) = (0 < c.AN) := propext ⟨fun q => by omega, fun q => by omega⟩
  have q2 : (0 < (cut b c.B c.BN).length) = (0 < c.BN) := propext ⟨fun q => by omega, fun q => by omega⟩
  simp only [q1, q2]
theorem right_mem {fl : Bool} {p q n m : Int} {l : List Ch} (h : Right fl p q n m l) : ∀ c ∈ l, numB c = true ∧ c.A + c.AN ≤ n ∧ c.B + c.BN ≤ m := by
  induction l generalizing fl p q with
  | nil => intro c hc; cases hc
  | cons x l ih =>
    intro c hc
    rcases List.mem_cons.1 hc with rfl | hc
    · exact ⟨h.1.1, h.2.le.1, h.2.le.2.1⟩
    · exact ih h.2 c hc
theorem mk_zero {l : List Ch} {a b : List (List UInt8)} (hs : Script l a.length b.length) : mkR l a b 0 = l.map fun c => oneH a b 0 [c] := by
  rw [(mkR_eq hs (by omega)).1, grp_zero l _ _ _ _ _ hs.2.2]
  simp
theorem pk_prt {l : List Ch} {a b : List (List UInt8)} (h : ∀ c ∈ l, numB c = true) : pkM (prtL l a b) = false := by
  cases l with
  | nil => rfl
  | cons c l =>
    obtain ⟨_, y, t, e, hy⟩ := cmd_bytes (h c (by simp))
    unfold prtL
    rw [List.flatMap_cons, chgL, e]
    simp only [List.cons_append, pkM, markT, List.isPrefixOf]
    have : ((92 : UInt8) == y) = false := by rw [beq_eq_false_iff_ne]; exact fun q => hy q.symm
    rw [this]
    rfl
/-- what was written is read again -/
theorem hks_back {a b : List (List UInt8)} (ha : checkB a = true) (hb : checkB b = true) (hal : a.length ≤ 2147483647) (hbl : b.length ≤ 2147483647) (l : List Ch) : ∀ (f k p : Nat), (∀ c ∈ l, numB c = true ∧ c.A + c.AN ≤ a.length ∧ c.B + c.BN ≤ b.length) → k + l.length ≤ 4096 → (prtL l a b).length ≤ f → hksP f k p (prtL l a b) = .ok (l.map fun c => oneH a b 0 [c]) := by
  induction l with
  | nil =>
    intro f k p _ _ _
    cases f <;> rfl
  | cons c l ih =>
    intro f k p h hk hf
    have hc := h c (by simp)
    have hn := (numB_iff c).1 hc.1
    have e : prtL (c :: l) a b = chgL a b c ++ prtL l a b := rfl
    rw [e] at hf ⊢
    have l1 : ((cut a c.A c.AN).length : Int) = c.AN := hcut_length (by omega) (by omega) hc.2.1
    have l2 : ((cut b c.B c.BN).length : Int) = c.BN := hcut_length (by omega) (by omega) hc.2.2
    obtain ⟨p', hh⟩ := hk_back (k := k) (p := p) (rest := prtL l a b) hc.1 (by omega) (by omega) (by omega) (by omega) (rows_cut ha c.A c.AN) (rows_cut hb c.B c.BN) (by simp at hk; omega) (pk_prt fun x hx => (h x (by simp [hx])).1)
    have hlen : 1 ≤ (chgL a b c).length := by simp [chgL]
    rw [List.length_append] at hf
    cases f with
    | zero => omega
    | succ f =>
      have hi := ih f (k + 1) p' (fun x hx => h x (by simp [hx])) (by simp at hk; omega) (by omega)
      simp only [hksP]
      rw [if_neg (by simp [chgL]), hh]
      simp only [hi]
      simp only [List.map_cons]
      rw [one_zero hc.1 hc.2.1 hc.2.2]
/-- all lines that are written have their line feed, at the end alone -/
def Fed (ls : List (List UInt8)) : Prop := ∀ s ∈ ls, ∃ t, s = t ++ [10] ∧ ∀ c ∈ t, c ≠ 10
theorem fed_check {ls : List (List UInt8)} (h : Fed ls) : checkB ls = true := by
  induction ls with
  | nil => rfl
  | cons s r ih =>
    obtain ⟨t, e, ht⟩ := h s (by simp)
    simp only [checkB, Bool.and_eq_true]
    refine ⟨?_, ih fun x hx => h x (by simp [hx])⟩
    rw [e]
    exact lineB_cut ht _
theorem fed_line {ah x : List UInt8} (ha : ∀ c ∈ ah, c ≠ 10) (hx : linB x = true) : Fed (lnL ah x) := by
  obtain ⟨h0, h1⟩ := lin_no hx
  unfold lnL
  split
  · rename_i hf
    intro s hs
    rw [List.mem_singleton.1 hs]
    refine ⟨ah ++ x.dropLast, ?_, ?_⟩
    · rw [List.append_assoc, ← fd_form hf]
    · intro c hc
      rcases List.mem_append.1 hc with hc | hc
      · exact ha c hc
      · exact h1 c hc
  · rename_i hf
    intro s hs
    rcases List.mem_cons.1 hs with rfl | hs
    · refine ⟨ah ++ x, rfl, ?_⟩
      intro c hc
      rcases List.mem_append.1 hc with hc | hc
      · exact ha c hc
      · intro e
        subst e
        rcases List.eq_nil_or_concat x with rfl | ⟨q, y, rfl⟩
        · cases hc
        · rw [List.concat_eq_append] at hc hf h1
          rcases List.mem_append.1 hc with hc | hc
          · exact h1 10 (by simpa using hc) rfl
          · have : y = 10 := (List.mem_singleton.1 hc).symm
            subst this
            exact hf (fd_snoc q)
    · rw [List.mem_singleton.1 hs]
      refine ⟨markT.dropLast, rfl, ?_⟩
      decide
theorem fed_prt {a b : List (List UInt8)} (ha : checkB a = true) (hb : checkB b = true) {l : List Ch} (h : ∀ c ∈ l, numB c = true) : Fed (prtL l a b) := by
  intro s hs
  obtain ⟨c, hc, hs⟩ := List.mem_flatMap.1 hs
  unfold chgL at hs
  rcases List.mem_cons.1 hs with rfl | hs
  · exact ⟨cmdT c, rfl, (cmd_bytes (h c hc)).1⟩
  · rcases List.mem_append.1 hs with hs | hs
    · obtain ⟨x, hx, hs⟩ := List.mem_flatMap.1 hs
      exact fed_line (by decide) (rows_lin (rows_cut ha c.A c.AN) x hx) s hs
    · rcases List.mem_append.1 hs with hs | hs
      · unfold sepL at hs
        split at hs
        · rw [List.mem_singleton.1 hs]
          exact ⟨[45, 45, 45], rfl, by decide⟩
        · cases hs
      · obtain ⟨x, hx, hs⟩ := List.mem_flatMap.1 hs
        exact fed_line (by decide) (rows_lin (rows_cut hb c.B c.BN) x hx) s hs
theorem split_prt {a b : List (List UInt8)} (ha : checkB a = true) (hb : checkB b = true) {l : List Ch} (h : ∀ c ∈ l, numB c = true) : splitL (prtT l a b) = prtL l a b := right_split _ (fed_check (fed_prt ha hb h))
/-- 12.3: what is written of right lines is read as the hunks without context -/
theorem normal_back {l : List Ch} {a b : List (List UInt8)} (hs : Script l a.length b.length) (ha : checkB a = true) (hb : checkB b = true) (hal : a.length ≤ 1000000) (hbl : b.length ≤ 1000000) (hl : l.length ≤ 4096) : prsT (prtT l a b) = if 1048576 < (prtT l a b).length then .error (0, 9) else .ok (mkR l a b 0) := by
  have hm := right_mem hs.2.2
  unfold prsT
  rw [split_prt ha hb fun c hc => (hm c hc).1, hks_back ha hb (by omega) (by omega) l _ 0 0 hm (by omega) (Nat.le_refl _), mk_zero hs]
/-- what was read had its line feeds -/
def Alf (c : List (List UInt8)) : Prop := ∀ s ∈ c, fdB s = true
theorem alf_app {x y : List (List UInt8)} (hx : Alf x) (hy : Alf y) : Alf (x ++ y) := fun s hs => (List.mem_append.1 hs).elim (hx s) (hy s)
theorem mark_fed {s : List UInt8} (hp : ∀ c ∈ s.dropLast, c ≠ 10) (h : markT.isPrefixOf s = true) : fdB s = true := by
  obtain ⟨t, rfl⟩ := List.isPrefixOf_iff_prefix.1 h
  cases t with
  | nil => rfl
  | cons x t =>
    exfalso
    refine hp 10 ?_ rfl
    rw [List.dropLast_append_of_ne_nil (by simp)]
    exact List.mem_append_left _ (by decide)
theorem nxt_fed {p : Nat} {ls r : List (List UInt8)} {s : List UInt8} (h : nxt p ls = .ok (s, r)) : ∃ c, ls = c ++ r ∧ Alf c := by
  refine ⟨[s ++ [10]], nxt_ok h, ?_⟩
  intro x hx
  rw [List.mem_singleton.1 hx]
  exact fd_snoc s
theorem mkd_fed {sg : List UInt8} {last : Bool} {p p1 : Nat} {ls r : List (List UInt8)} {t : List UInt8} (hP : Plain ls) (h : mkd sg last p ls = .ok (t, p1, r)) : ∃ c, ls = c ++ r ∧ Alf c := by
  unfold mkd at h
  split at h
  · cases h
  · rename_i s r0 hn
    obtain ⟨c, e, hc⟩ := nxt_fed hn
    split at h
    · split at h
      · rename_i hl
        split at h
        · cases h
        · cases h
          simp only [Bool.and_eq_true] at hl
          cases r0 with
          | nil => simp [pkM] at hl
          | cons y r0 =>
            refine ⟨c ++ [y], by rw [e]; simp, alf_app hc ?_⟩
            intro x hx
            rw [List.mem_singleton.1 hx]
            exact mark_fed (hP y (by rw [e]; simp)) hl.2
      · cases h
        exact ⟨c, e, hc⟩
    · cases h
theorem rdN_fed {sg : List UInt8} {S : Int} (n : Nat) : ∀ {p p1 : Nat} {ls r : List (List UInt8)} {l : List Mk}, Plain ls → rdN sg S n p ls = .ok (l, p1, r) → ∃ c, ls = c ++ r ∧ Alf c := by
  induction n with
  | zero =>
    intro p p1 ls r l hP h
    simp only [rdN] at h
    cases h
    exact ⟨[], rfl, fun s hs => by cases hs⟩
  | succ n ih =>
    intro p p1 ls r l hP h
    simp only [rdN] at h
    split at h
    · cases h
    · rename_i t q1 r1 hm
      obtain ⟨c1, e1, hc1⟩ := mkd_fed hP hm
      have hP1 := (mkd_ok hP hm).2.2.1
      split at h
      · cases h
      · rename_i l' q2 r2 hr
        obtain ⟨c2, e2, hc2⟩ := ih hP1 hr
        cases h
        exact ⟨c1 ++ c2, by rw [e1, e2]; simp, alf_app hc1 hc2⟩
theorem hkP_fed {k p p1 : Nat} {ls r : List (List UInt8)} {h : Hk} (hP : Plain ls) (hh : hkP k p ls = .ok (h, p1, r)) : ∃ c, ls = c ++ r ∧ Alf c := by
  unfold hkP at hh
  split at hh
  · cases hh
  · rename_i s r0 hn
    obtain ⟨c0, e0, hc0⟩ := nxt_fed hn
    have hP0 := (nxt_len hP hn).2
    split at hh
    · cases hh
    · rename_i A AN B BN hc
      split at hh
      · cases hh
      · split at hh
        · cases hh
        · rename_i l1 q1 r1 h1
          obtain ⟨c1, e1, hc1⟩ := rdN_fed _ hP0 h1
          have hP1 := (rdN_ok _ hP0 h1).2.2.2.1
          split at hh
          · cases hh
          · rename_i q2 r2 h2
            have hs : (∃ c, r1 = c ++ r2 ∧ Alf c) ∧ Plain r2 := (by
              split at h2
              · unfold sepP at h2
                split at h2
                · cases h2
                · rename_i s3 r3 hn3
                  split at h2
                  · cases h2
                    exact ⟨nxt_fed hn3, (nxt_len hP1 hn3).2⟩
                  · cases h2
              · cases h2
                exact ⟨⟨[], rfl, fun s hs => by cases hs⟩, hP1⟩)
            obtain ⟨⟨c2, e2, hc2⟩, hP2⟩ := hs
            split at hh
            · cases hh
            · rename_i l2 q3 r3 h3
              obtain ⟨c3, e3, hc3⟩ := rdN_fed _ hP2 h3
              cases hh
              exact ⟨c0 ++ (c1 ++ (c2 ++ c3)), by rw [e0, e1, e2, e3]; simp, alf_app hc0 (alf_app hc1 (alf_app hc2 hc3))⟩
theorem hksP_fed (f : Nat) : ∀ {k p : Nat} {ls : List (List UInt8)} {l : List Hk}, Plain ls → ls.length ≤ f → hksP f k p ls = .ok l → Alf ls := by
  induction f with
  | zero =>
    intro k p ls l hP hf h
    have : ls = [] := List.eq_nil_of_length_eq_zero (by omega)
    subst this
    intro s hs
    cases hs
  | succ f ih =>
    intro k p ls l hP hf h
    simp only [hksP] at h
    split at h
    · rename_i he
      subst he
      intro s hs
      cases hs
    · split at h
      · cases h
      · rename_i hk q1 r1 h1
        obtain ⟨a1, a2, a3⟩ := hkP_ok hP h1
        obtain ⟨c, e, hc⟩ := hkP_fed hP h1
        have hpos : 0 < hkC1 hk := by unfold hkC1; omega
        split at h
        · cases h
        · rename_i l' h2
          have := ih a3 (by omega) h2
          rw [e]
          exact alf_app hc this
/-- what is read ends with a line feed -/
theorem prs_feed {t : List UInt8} {l : List Hk} (h : prsT t = .ok l) : t = [] ∨ fdB t = true := by
  unfold prsT at h
  split at h
  · cases h
  · have hf := hksP_fed _ (split_plain t) (Nat.le_refl _) h
    have hj := split_join t
    cases hq : splitL t with
    | nil => left; exact split_nil hq
    | cons x r =>
      right
      rw [hq] at hj hf
      have hl : ∀ (x : List UInt8) (r : List (List UInt8)), Alf (x :: r) → fdB (x :: r).flatten = true := by
        intro x r
        induction r generalizing x with
        | nil =>
          intro h1
          have := h1 x (by simp)
          simpa using this
        | cons y r ih =>
          intro h1
          have := ih y fun s hs => h1 s (by simp [hs])
          rw [List.flatten_cons]
          exact (fd_app this).1
      rw [← hj]
      exact hl x r hf
theorem prs_count {t : List UInt8} {l : List Hk} (h : prsT t = .ok l) : hksC l = (splitL t).length := by
  unfold prsT at h
  split at h
  · cases h
  · exact hksP_ok _ (split_plain t) (Nat.le_refl _) h
/-- a part of what is written is never read as the whole -/
theorem normal_cut {s : List UInt8} {l : List Hk} (hw : prsT s = .ok l) {k : Nat} (hk : k < s.length) : prsT (s.take k) ≠ .ok l := by
  intro hp
  have c1 := prs_count hw
  have c2 := prs_count hp
  have f1 := prs_feed hw
  have f2 := prs_feed hp
  have g1 := split_count s
  have g2 := split_count (s.take k)
  have hfb : ∀ x : List UInt8, feedB x = fdB x := fun x => rfl
  have hs : s ≠ [] := by rintro rfl; simp at hk
  have e1 : (feedB s || s.isEmpty) = true := by
    rcases f1 with f1 | f1
    · exact absurd f1 hs
    · rw [hfb, f1]; rfl
  have e2 : (feedB (s.take k) || (s.take k).isEmpty) = true := by
    rcases f2 with f2 | f2
    · rw [f2]; rfl
    · rw [hfb, f2]; rfl
  rw [e1] at g1
  rw [e2] at g2
  simp only [if_true] at g1 g2
  have g3 : s.count 10 = (s.take k).count 10 + (s.drop k).count 10 := by
    rw [← List.count_append, List.take_append_drop]
  have g4 : 0 < (s.drop k).count 10 := by
    rw [List.count_pos_iff]
    rcases f1 with f1 | f1
    · exact absurd f1 hs
    · have h1 : s.getLast? = some 10 := by simpa [fdB] using f1
      have h2 : (s.drop k).getLast? = some 10 := by
        rw [List.getLast?_drop, if_neg (by omega), h1]
      exact List.mem_of_getLast? h2
  omega
end Go.Proofs.YtgiojkhmkeocfaaDoor
