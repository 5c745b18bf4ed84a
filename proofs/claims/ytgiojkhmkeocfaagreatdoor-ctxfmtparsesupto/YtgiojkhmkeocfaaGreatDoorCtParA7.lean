/-
  Texts that belong together, joined: CrM, NoMk, NpE, NpM, NpF, NpG, NpH, NpN, NpX, NpC, CxC, CxC2, CpA, CpB.
-/
import Derived.Test.YtgiojkhmkeocfaaGreatDoorCtParA6
import Derived.Test.YtgiojkhmkeocfaaGreatDoorCtParA4
import Derived.Test.YtgiojkhmkeocfaaGreatDoorCtParA5
import Derived.WalkLawsBesides
import Derived.Test.YtgiojkhmkeocfaaGreatDoorCtParA3
import Derived.Lib.OthersKept
import Derived.Laws.RangeAny
import Derived.Lib.IndexAny
import Derived.Deep.QuietTactic
import Derived.BigQuiet
import Derived.Deep.CutBlock
import Derived.Deep.DeepCutAuto

/- The reference's sides of layer 15: is no line changed, what a range says, runs of changed lines; walked. -/
set_option maxRecDepth 20000
namespace Go.Proofs.YtgiojkhmkeocfaaGreatDoor
open Go.RowKit

/-- a row of bytes -/
def kcells (x : Sde) : List Value := x.map fun y => .int .u8 (y.1.toNat : Int)
def HK (w : World) (v : Value) (x : Sde) : Prop := Holds w v x.length (kcells x)
theorem kcells_length (x : Sde) : (kcells x).length = x.length := by simp [kcells]
theorem HK.at {w : World} {ao : Option Addr} {n c : Nat} {x : Sde} (h : HK w (.slice ao n c) x) (h0 : 0 < x.length) : ∃ b off, ao = some ⟨b, off, none⟩ ∧ b < w.heap.size ∧ ∀ k (hk : k < x.length), w.cell? ⟨b, off + k, none⟩ = some (.int .u8 (x[k].1.toNat : Int)) := by
  obtain ⟨b, off, c', hv, hb, hc⟩ := Holds.at h (by rw [kcells_length]; exact h0)
  cases hv
  refine ⟨b, off, rfl, hb, fun k hk => ?_⟩
  have := hc k (by rw [kcells_length]; exact hk)
  simpa [kcells] using this
theorem HK.keep {w w' : World} {v : Value} {x : Sde} (h : HK w v x) (hb : Below w.heap.size w w') : HK w' v x := Holds.keep h fun k hk => hb.block k hk
/-- a side in memory -/
structure Hsd (w : World) (vk vl : Value) (x : Sde) : Prop where
  k : HK w vk x
  l : HS w vl (x.map (·.2))
theorem Hsd.keep {w w' : World} {vk vl : Value} {x : Sde} (h : Hsd w vk vl x) (hb : Below w.heap.size w w') : Hsd w' vk vl x := ⟨h.k.keep hb, HS.keep h.l hb (Nat.le_refl _)⟩
theorem Hsd.form {w : World} {vk vl : Value} {x : Sde} (h : Hsd w vk vl x) : ∃ ko kc lo lc, vk = .slice ko x.length kc ∧ vl = .slice lo x.length lc := by
  obtain ⟨ko, kc, h1⟩ := Holds.form h.k
  obtain ⟨lo, lc, h2⟩ := Holds.form h.l
  rw [List.length_map] at h2
  exact ⟨ko, kc, lo, lc, h1, h2⟩
set_option maxHeartbeats 4000000 in
theorem psame_f (a p n : Int) (x : Sde) (vk vl : Value) (w : World) (h : Hsd w vk vl x) (hx : x.length ≤ 1099511627776) (r : Bool) (HR : Hid (sameS x = r)) :
    Calls Tryz.prog 102 #[ptV5 a p n vk vl] w fun e w' => e = .returned (.bool r) ∧ Below w.heap.size w w' := by
  obtain ⟨ko, kc, lo, lc, rfl, rfl⟩ := h.form
  have hB : Below w.heap.size w (w.alloc (ptO5 a p n (.slice ko x.length kc) (.slice lo x.length lc))) := (Below.refl _ w).alloc (Nat.le_refl _) _
  have hk := h.k.keep hB
  have bx : Bp5 (w.alloc (ptO5 a p n (.slice ko x.length kc) (.slice lo x.length lc))) w.heap.size a p n (.slice ko x.length kc) (.slice lo x.length lc) := heap_alloc_new w _
  obtain ⟨_, _, _, d3, _⟩ := bx.cells
  have HR0 : Hid (sameS (x.drop 0) = r) := HR
  unfold ptV5
  clear h HR
  go_enter Tryz.func102, Tryz.ntmps102
  go_upto_region 1 with fail
  generalize w.alloc (ptO5 a p n (.slice ko x.length kc) (.slice lo x.length lc)) = W at *
  clear bx
  go_wp2
  go_loopw [3] (fun i wr => ∃ k : Nat, k ≤ x.length ∧ i = .int .i64 k ∧ wr = W ∧ Hid (sameS (x.drop k) = r)) (fun i _ => x.length - (intOf i).toNat)
  case atStart => exact ⟨0, Nat.zero_le _, by go_num, rfl, HR0⟩
  case round =>
  obtain ⟨k, hkl, rfl, rfl, HI⟩ := hrel
  by_cases hlt : k < x.length
  · obtain ⟨b, off, rfl, hb, hc⟩ := hk.at (by omega)
    have ck := hc k hlt
    have i1 : (0 : Int) ≤ (k : Int) := by omega
    have i2 : (k : Int) < (x.length : Int) := by omega
    have i3 : (k : Int).toNat = k := by omega
    have HI2 := HI.out
    rw [List.drop_eq_getElem_cons hlt] at HI2
    unfold sameS at HI2
    rw [List.all_cons] at HI2
    obtain ⟨c, hcc⟩ : ∃ c, x[k].1 = c := ⟨_, rfl⟩
    rw [hcc] at ck HI2
    clear hc HI hcc
    by_cases h3 : c = 32
    · have j1 : ((c.toNat : Int) != 32) = false := (by rw [h3]; rfl)
      have HI3 : Hid (sameS (x.drop (k + 1)) = r) := (by
        rw [h3] at HI2
        show ((x.drop (k + 1)).all fun y => y.1 == 32) = r
        simpa using HI2)
      clear HI2 h3
      go_wp2
      exact ⟨⟨k + 1, by omega, by go_num, by first | rfl | trivial, HI3⟩, by simp [intOf]; omega⟩
    · have j1 : ((c.toNat : Int) != 32) = true := (by
        refine bne_iff_ne.2 fun q => h3 ?_
        exact UInt8.toNat_inj.1 (by rw [show (32 : UInt8).toNat = 32 from rfl]; omega))
      have hr : r = false := (by rw [beq_eq_false_iff_ne.2 h3] at HI2; exact HI2.symm)
      subst hr
      clear HI2 h3
      go_wp2
      go_ret
      exact ⟨rfl, hB⟩
  · have hend : decide ((k : Int) < (x.length : Int)) = false := decide_eq_false (by omega)
    have hr : r = true := (by
      have h := HI.out
      rw [List.drop_of_length_le (by omega)] at h
      exact h.symm)
    subst hr
    go_wp2
    go_ret
    exact ⟨rfl, hB⟩
set_option maxHeartbeats 4000000 in
theorem pcounts_f (a p n : Int) (x : Sde) (vk vl : Value) (w : World) (h : Hsd w vk vl x) (hx : x.length ≤ 1099511627776) (r : Bool) (HR : Hid (cntS n x = r)) :
    Calls Tryz.prog 105 #[ptV5 a p n vk vl] w fun e w' => e = .returned (.int .i64 (if r = true then 120 else 0)) ∧ Below w.heap.size w w' := by
  obtain ⟨ko, kc, lo, lc, rfl, rfl⟩ := h.form
  have hB : Below w.heap.size w (w.alloc (ptO5 a p n (.slice ko x.length kc) (.slice lo x.length lc))) := (Below.refl _ w).alloc (Nat.le_refl _) _
  have bx : Bp5 (w.alloc (ptO5 a p n (.slice ko x.length kc) (.slice lo x.length lc))) w.heap.size a p n (.slice ko x.length kc) (.slice lo x.length lc) := heap_alloc_new w _
  obtain ⟨_, _, d2, _, d4⟩ := bx.cells
  have hr := HR.out
  unfold cntS at hr
  unfold ptV5
  clear h HR
  by_cases h1 : n < 0
  · have i2 : ¬ (0 : Int) ≤ n := by omega
    by_cases h2 : 1 < x.length
    · have i1 : (1 : Int) < (x.length : Int) := by omega
      have hr2 : r = true := (by rw [← hr]; simp [h1, h2])
      subst hr2
      clear hr
      go_enter Tryz.func105, Tryz.ntmps105
      go_upto_region 1 with fail
      generalize w.alloc (ptO5 a p n (.slice ko x.length kc) (.slice lo x.length lc)) = W at *
      go_wp2
      go_ret
      exact ⟨rfl, hB⟩
    · have i1 : ¬ (1 : Int) < (x.length : Int) := by omega
      have hr2 : r = false := (by rw [← hr]; simp [h1, h2, i2])
      subst hr2
      clear hr
      go_enter Tryz.func105, Tryz.ntmps105
      go_upto_region 1 with fail
      generalize w.alloc (ptO5 a p n (.slice ko x.length kc) (.slice lo x.length lc)) = W at *
      go_wp2
      go_ret
      exact ⟨rfl, hB⟩
  · have i2 : (0 : Int) ≤ n := by omega
    by_cases h2 : n = (x.length : Int)
    · have i1 : (n != (x.length : Int)) = false := (by rw [h2]; exact bne_self_eq_false _)
      have hr2 : r = false := (by rw [← hr, h2]; simp; omega)
      subst hr2
      clear hr h2
      go_enter Tryz.func105, Tryz.ntmps105
      go_upto_region 1 with fail
      generalize w.alloc (ptO5 a p n (.slice ko x.length kc) (.slice lo x.length lc)) = W at *
      go_wp2
      go_ret
      exact ⟨rfl, hB⟩
    · have i1 : (n != (x.length : Int)) = true := bne_iff_ne.2 h2
      have hr2 : r = true := (by rw [← hr]; simp [i2, h2])
      subst hr2
      clear hr h2
      go_enter Tryz.func105, Tryz.ntmps105
      go_upto_region 1 with fail
      generalize w.alloc (ptO5 a p n (.slice ko x.length kc) (.slice lo x.length lc)) = W at *
      go_wp2
      go_ret
      exact ⟨rfl, hB⟩
set_option maxHeartbeats 4000000 in
theorem prun_f (a p n : Int) (x : Sde) (at' : Nat) (hat : at' ≤ x.length) (kd : UInt8) (vk vl : Value) (w : World) (h : Hsd w vk vl x) (hx : x.length ≤ 1099511627776) (N : Nat) (r : Bool) (HN : Hid ((chgS (x.drop at')).length = N)) (HR : Hid (allS kd (chgS (x.drop at')) = r)) :
    Calls Tryz.prog 161 #[ptV5 a p n vk vl, .int .i64 (at' : Int), .int .u8 (kd.toNat : Int)] w fun e w' => e = .returned (.tuple #[.int .i64 (N : Int), .bool r]) ∧ Below w.heap.size w w' := by
  obtain ⟨ko, kc, lo, lc, rfl, rfl⟩ := h.form
  have hB : Below w.heap.size w (w.alloc (ptO5 a p n (.slice ko x.length kc) (.slice lo x.length lc))) := (Below.refl _ w).alloc (Nat.le_refl _) _
  have hk := h.k.keep hB
  have bx : Bp5 (w.alloc (ptO5 a p n (.slice ko x.length kc) (.slice lo x.length lc))) w.heap.size a p n (.slice ko x.length kc) (.slice lo x.length lc) := heap_alloc_new w _
  obtain ⟨_, _, _, d3, d4⟩ := bx.cells
  have HNl : Hid (N ≤ x.length - at') := (by
    have h1 := jchg_le (x.drop at')
    rw [List.length_drop, HN.out] at h1
    exact h1)
  have HA0 : Hid (allS kd ((chgS (x.drop at')).take 0) = true) := rfl
  unfold ptV5
  clear h
  go_enter Tryz.func161, Tryz.ntmps161
  go_upto_region 1 with fail
  generalize w.alloc (ptO5 a p n (.slice ko x.length kc) (.slice lo x.length lc)) = W at *
  clear bx
  go_wp2
  go_loopw [8, 9] (fun nv av wr => ∃ (k : Nat) (s : Bool), k ≤ N ∧ nv = .int .i64 k ∧ av = .bool s ∧ wr = W ∧ Hid (allS kd ((chgS (x.drop at')).take k) = s)) (fun nv _ _ => N - (intOf nv).toNat)
  case atStart => exact ⟨0, true, Nat.zero_le _, by go_num, rfl, rfl, HA0⟩
  case round =>
  obtain ⟨k, s, hkl, rfl, rfl, rfl, HI⟩ := hrel
  have hNl := HNl.out
  have hmore := jchg_more x at' k (by rw [HN.out]; exact hkl) hat
  rw [HN.out] at hmore
  by_cases hlt : k < N
  · obtain ⟨hl2, h32⟩ := hmore.1 hlt
    obtain ⟨b, off, rfl, hb, hc⟩ := hk.at (by omega)
    have ck := hc (at' + k) hl2
    have i1 : (0 : Int) ≤ (at' : Int) + (k : Int) := by omega
    have i2 : (at' : Int) + (k : Int) < (x.length : Int) := by omega
    have i3 : ((at' : Int) + (k : Int)).toNat = at' + k := by omega
    obtain ⟨hl3, hgt⟩ := jchg_get x at' k (by rw [HN.out]; exact hlt)
    have HI2 : allS kd ((chgS (x.drop at')).take (k + 1)) = (s && (x[at' + k].1 == kd)) := (by
      rw [List.take_succ_eq_append_getElem (by rw [HN.out]; exact hlt), hgt]
      unfold allS at HI ⊢
      rw [List.all_append, HI.out]
      simp)
    obtain ⟨c, hcc⟩ : ∃ c, x[at' + k].1 = c := ⟨_, rfl⟩
    rw [hcc] at ck HI2 h32
    have j1 : ((c.toNat : Int) != 32) = true := (by
      refine bne_iff_ne.2 fun q => h32 ?_
      exact UInt8.toNat_inj.1 (by rw [show (32 : UInt8).toNat = 32 from rfl]; omega))
    have j2 : ((c.toNat : Int) == (kd.toNat : Int)) = (c == kd) := (by rw [Bool.eq_iff_iff, beq_iff_eq, beq_iff_eq, Int.natCast_inj, UInt8.toNat_inj])
    have HI3 : Hid (allS kd ((chgS (x.drop at')).take (k + 1)) = (s && (c == kd))) := HI2
    clear hc HI hcc HI2 h32 hmore hgt
    cases s with
    | true =>
      go_wp2
      exact ⟨⟨k + 1, c == kd, by omega, by go_num, by first | rfl | simp, by first | rfl | trivial, by show _ = _; simpa using HI3.out⟩, by simp [intOf]; omega⟩
    | false =>
      go_wp2
      exact ⟨⟨k + 1, false, by omega, by go_num, by first | rfl | simp, by first | rfl | trivial, by show _ = _; simpa using HI3.out⟩, by simp [intOf]; omega⟩
  · have hkN : k = N := by omega
    subst hkN
    have hr : s = r := (by
      have h1 := HI.out
      rw [List.take_of_length_le (by rw [HN.out]; omega)] at h1
      rw [← h1]
      exact HR.out)
    subst hr
    by_cases hl2 : at' + k < x.length
    · obtain ⟨b, off, rfl, hb, hc⟩ := hk.at (by omega)
      have ck := hc (at' + k) hl2
      have h32 : x[at' + k].1 = 32 := Classical.byContradiction fun q => hlt (hmore.2 ⟨hl2, q⟩)
      rw [h32] at ck
      have i1 : (0 : Int) ≤ (at' : Int) + (k : Int) := by omega
      have i2 : (at' : Int) + (k : Int) < (x.length : Int) := by omega
      have i3 : ((at' : Int) + (k : Int)).toNat = at' + k := by omega
      have ck2 : wr.cell? ⟨b, off + (at' + k), none⟩ = some (.int .u8 32) := ck
      clear hc ck hmore h32
      go_wp2
      go_ret2
      exact ⟨rfl, hB⟩
    · have i2 : ¬ (at' : Int) + (k : Int) < (x.length : Int) := by omega
      clear hmore
      go_wp2
      go_ret2
      exact ⟨rfl, hB⟩
end Go.Proofs.YtgiojkhmkeocfaaGreatDoor

/- The reference's reader, walked: a line with a sign, behind which the mark may stand. -/
set_option maxRecDepth 20000
namespace Go.Proofs.YtgiojkhmkeocfaaGreatDoor
open Go.RowKit
attribute [local go_sem] ByteArray.extract_mk no_at

end Go.Proofs.YtgiojkhmkeocfaaGreatDoor

/- The code's reader of lines, walked: what is wrong is thrown; the next line; the line between. -/
set_option maxRecDepth 20000
namespace Go.Proofs.YtgiojkhmkeocfaaGreatDoor
open Go.RowKit
attribute [local go_sem] ByteArray.extract_mk no_at

/-- a reader: its lines, how many are read -/
def ryO (vL : Value) (p : Int) : Obj := .cells #[vL, .int .i64 p] 138
def Ry (u : World) (R : Nat) (vL : Value) (p : Int) : Prop := u.heap[R]? = some (ryO vL p)
/-- a fault -/
def fltO (a z : Int) : Obj := .cells #[.int .i64 a, .iface 26 (.int .i64 z)] 88
section
variable {u u' : World} {R : Nat} {vL : Value} {p : Int}
theorem Ry.cells (q : Ry u R vL p) : u.cell? ⟨R, 0, none⟩ = some vL ∧ u.cell? ⟨R, 1, none⟩ = some (.int .i64 p) := by
  unfold Ry ryO at q
  refine ⟨?_, ?_⟩ <;> rw [Lib.cell_of_heap q] <;> rfl
theorem Ry.frozen (q : Ry u R vL p) (j : Nat) : u.frozen? ⟨R, j, none⟩ = false := Lib.frozen_of_heap q j
theorem Ry.lt (q : Ry u R vL p) : R < u.heap.size := (Array.getElem?_eq_some_iff.1 q).1
theorem Ry.dN (q : Ry u R vL p) (n : Nat) : Ry (u.drewN n) R vL p := q
theorem Ry.at (q : Ry u R vL p) (p' : Int) : Ry (u.setCell ⟨R, 1, none⟩ (.int .i64 p')) R vL p' := heap_setCell_same u R 1 _ _ (.int .i64 p') q
theorem Ry.low (q : Ry u R vL p) (hg : Below u.heap.size u u') : Ry u' R vL p := (hg.block R q.lt).trans q
theorem Ry.keep (q : Ry u R vL p) {g : Option Nat} (hg : u.grownBy u' g) (hr : some R ≠ g) : Ry u' R vL p := (hg.block R q.lt hr).trans q
end
/-- what is wrong is thrown -/
def Thr (a z : Int) (x : Ending) (w' : World) : Prop := ∃ g, x = .panicked [{ v := .iface 86 (.pointer (some ⟨g, 0, none⟩)), recovered := false }] ∧ w'.heap[g]? = some (fltO a z)
/-- what a line that is read leaves behind -/
def LnQ (R : Nat) (_vL : Value) (_p : Nat) (X : Except (Nat × Int) (List UInt8 × List (List UInt8))) (w : World) (x : Ending) (w' : World) : Prop :=
  match X with
  | .error (a, e) => Thr (a : Int) e x w' ∧ w.grownBy w' (some R)
  | .ok (s, _) => x = .returned (.string ⟨(s ++ [10]).toArray⟩) ∧ ∃ n, w' = w.drewN n
theorem drop_feed {s : List UInt8} (h : fdB s = true) : s.dropLast ++ [10] = s := (fd_form h).symm
end Go.Proofs.YtgiojkhmkeocfaaGreatDoor

/- The normal form as the code reads it, and that it is read as the plain reader does; plain mathematics. -/
set_option maxRecDepth 20000
namespace Go.Proofs.YtgiojkhmkeocfaaGreatDoor
open Ln

/-- the last text without its line feed -/
def cutL : List Mk → List Mk
  | [] => []
  | [m] => [⟨m.sg, m.tx.dropLast⟩]
  | m :: l => m :: cutL l
def lastT (l : List Mk) : List UInt8 := (l.getLast?.map (·.tx)).getD []
/-- does the last line lose its line feed? -/
def endK (l : List Mk) (r : List (List UInt8)) : Bool := lastT l != [10] && pkM r
theorem mark_eq {s : List UInt8} (hp : ∀ c ∈ s.dropLast, c ≠ 10) (h : markT.isPrefixOf s = true) : s = markT := by
  rw [List.isPrefixOf_iff_prefix] at h
  obtain ⟨t, rfl⟩ := h
  cases t with
  | nil => simp
  | cons c t =>
    exfalso
    have h1 : (10 : UInt8) ∈ (markT ++ c :: t).dropLast := by
      rw [List.dropLast_append_of_ne_nil (by simp)]
      exact List.mem_append_left _ (by decide)
    exact hp 10 h1 rfl
theorem cutL_cons {m : Mk} {l : List Mk} (h : l ≠ []) : cutL (m :: l) = m :: cutL l := by
  cases l with
  | nil => exact absurd rfl h
  | cons y l => rfl
theorem cutL_snoc (l : List Mk) (m : Mk) : cutL (l ++ [m]) = l ++ [⟨m.sg, m.tx.dropLast⟩] := by
  induction l with
  | nil => rfl
  | cons x l ih =>
    rw [List.cons_append, cutL_cons (by simp), ih]
    rfl
theorem lastT_snoc (l : List Mk) (m : Mk) : lastT (l ++ [m]) = m.tx := by simp [lastT]
theorem lastT_cons {m : Mk} {l : List Mk} (h : l ≠ []) : lastT (m :: l) = lastT l := by
  cases l with
  | nil => exact absurd rfl h
  | cons y l => simp [lastT]
end Go.Proofs.YtgiojkhmkeocfaaGreatDoor

/- The code's reader, walked: the line between, the end of a side, a side. -/
set_option maxRecDepth 20000
namespace Go.Proofs.YtgiojkhmkeocfaaGreatDoor
open Go.RowKit
attribute [local go_sem] ByteArray.extract_mk no_at

/-- all below B but the reader's block is as it was -/
structure Fr (B R : Nat) (w w' : World) : Prop where
  os : w'.os = w.os
  tape : w'.tape = w.tape
  output : w'.output = w.output
  size : w.heap.size ≤ w'.heap.size
  block : ∀ k, k < B → k ≠ R → w'.heap[k]? = w.heap[k]?
theorem Fr.refl (B R : Nat) (w : World) : Fr B R w w := ⟨rfl, rfl, rfl, Nat.le_refl _, fun _ _ _ => rfl⟩
theorem Fr.trans {B R : Nat} {w u v : World} (h : Fr B R w u) (h' : Fr B R u v) : Fr B R w v := ⟨h'.os.trans h.os, h'.tape.trans h.tape, h'.output.trans h.output, Nat.le_trans h.size h'.size, fun k h1 h2 => (h'.block k h1 h2).trans (h.block k h1 h2)⟩
theorem Fr.of {B R : Nat} {w u : World} (h : w.grownBy u (some R)) (hB : B ≤ w.heap.size) : Fr B R w u := ⟨h.os, h.tape, h.output, h.size, fun k h1 h2 => h.block k (Nat.lt_of_lt_of_le h1 hB) (fun e => h2 (Option.some.inj e))⟩
theorem Fr.own {B R : Nat} {w u : World} {g : Option Nat} (h : w.grownBy u g) (hB : B ≤ w.heap.size) (hg : ∀ j, g = some j → B ≤ j) : Fr B R w u := ⟨h.os, h.tape, h.output, h.size, fun k h1 _ => h.block k (Nat.lt_of_lt_of_le h1 hB) (fun e => by have := hg k e.symm; omega)⟩
theorem Fr.low {B R : Nat} {w u : World} (h : Below w.heap.size w u) (hB : B ≤ w.heap.size) : Fr B R w u := Fr.of (low_grown h _) hB
theorem Fr.grown {R : Nat} {w u : World} (h : Fr w.heap.size R w u) : w.grownBy u (some R) := ⟨h.os, h.tape, h.output, h.size, fun k h1 h2 => h.block k h1 (fun e => h2 (by rw [e]))⟩
end Go.Proofs.YtgiojkhmkeocfaaGreatDoor

/- The code's reader, walked: the end of a side. -/
set_option maxRecDepth 20000
namespace Go.Proofs.YtgiojkhmkeocfaaGreatDoor
open Go.RowKit
attribute [local go_sem] ByteArray.extract_mk no_at

theorem pkM_at {L : List (List UInt8)} (hP : Plain L) {p : Nat} (h : p < L.length) : pkM (L.drop p) = (L[p] == markT) := by
  rw [List.drop_eq_getElem_cons h]
  unfold pkM
  rw [Bool.eq_iff_iff, beq_iff_eq]
  constructor
  · intro q
    exact mark_eq (hP _ (List.getElem_mem h)) q
  · intro q
    rw [q]
    show markT.isPrefixOf markT = true
    decide
end Go.Proofs.YtgiojkhmkeocfaaGreatDoor

/- The code's reader, walked: a side of a hunk. -/
set_option maxRecDepth 20000
namespace Go.Proofs.YtgiojkhmkeocfaaGreatDoor
open Go.RowKit
attribute [local go_sem] ByteArray.extract_mk no_at

theorem owns_fr {w u : World} {B R : Nat} {e : TypeId} {s : Nat} {v : Value} {n : Nat} {xs : List Value} (h : w.ownsRow B e s v n xs) (hg : w.grownBy u (some R)) (hR : R < B) : u.ownsRow B e s v n xs := by
  refine ⟨h.1, ?_⟩
  rcases h.2 with q | ⟨g, cap, cur, rfl, q2, q3, q4⟩
  · exact .inl q
  · refine .inr ⟨g, cap, cur, rfl, q2, ?_, q4⟩
    rw [hg.block g (Array.getElem?_eq_some_iff.1 q3).1 (fun e => by cases e; omega)]
    exact q3
/-- the last text of a row of one's own can be written -/
theorem owns_last {w : World} {B : Nat} {v : Value} {l : List Mk} {m : Mk} (h : w.ownsRow B 103 2 v (l.length + 1) (mkcells (l ++ [m]))) : ∃ g cap, v = .slice (some ⟨g, 0, none⟩) (l.length + 1) cap ∧ B ≤ g ∧ g < w.heap.size ∧ w.cell? ⟨g, l.length * 2 + 1, none⟩ = some (.string ⟨m.tx.toArray⟩) ∧ w.frozen? ⟨g, l.length * 2 + 1, none⟩ = false ∧
    ∀ (u : World) (t : List UInt8), u.heap[g]? = w.heap[g]? → (u.setCell ⟨g, l.length * 2 + 1, none⟩ (.string ⟨t.toArray⟩)).ownsRow B 103 2 v (l.length + 1) (mkcells (l ++ [⟨m.sg, t⟩])) := by
  rcases h.2 with ⟨_, q⟩ | ⟨g, cap, cur, rfl, q2, q3, q4, q5, q6, q7⟩
  · omega
  · have hmk : ∀ x : Mk, mkcells (l ++ [x]) = mkcells l ++ [.int .u8 x.sg, .string ⟨x.tx.toArray⟩] := fun x => by rw [mkcells_append]; rfl
    have hl := mkcells_length l
    have hcur : cur.toList.take ((l.length + 1) * 2) = mkcells l ++ [.int .u8 m.sg, .string ⟨m.tx.toArray⟩] := by rw [q7, hmk]
    have hcell : cur[l.length * 2 + 1]? = some (.string ⟨m.tx.toArray⟩) := by
      have h1 : (cur.toList.take ((l.length + 1) * 2))[l.length * 2 + 1]? = some (.string ⟨m.tx.toArray⟩) := by
        rw [hcur, List.getElem?_append_right (by omega), hl]
        have : l.length * 2 + 1 - l.length * 2 = 1 := by omega
        rw [this]
        rfl
      rw [List.getElem?_take_of_lt (by omega)] at h1
      simpa using h1
    refine ⟨g, cap, rfl, q2, (Array.getElem?_eq_some_iff.1 q3).1, ?_, Lib.frozen_of_heap q3 _, ?_⟩
    · rw [Lib.cell_of_heap q3]
      exact hcell
    · intro u t hu
      have hs := heap_setCell_same u g (l.length * 2 + 1) cur _ (.string ⟨t.toArray⟩) (hu.trans q3)
      refine ⟨by rw [mkcells_length]; simp, .inr ⟨g, cap, _, rfl, q2, hs, q4, q5, by simpa using q6, ?_⟩⟩
      rw [hmk]
      have e1 : (cur.setIfInBounds (l.length * 2 + 1) (.string ⟨t.toArray⟩)).toList = cur.toList.set (l.length * 2 + 1) (.string ⟨t.toArray⟩) := by simp
      rw [e1, List.take_set, hcur, List.set_append_right _ _ (by omega), hl]
      have : l.length * 2 + 1 - l.length * 2 = 1 := by omega
      rw [this]
      rfl
def thenL (m : List Mk) (X : Except (Nat × Int) (List Mk × Nat × List (List UInt8))) : Except (Nat × Int) (List Mk × Nat × List (List UInt8)) :=
  match X with
  | .error e => .error e
  | .ok (l, p1, r) => .ok (m ++ l, p1, r)
theorem thenL_nil (X : Except (Nat × Int) (List Mk × Nat × List (List UInt8))) : thenL [] X = X := by
  unfold thenL
  rcases X with e | ⟨l, p, r⟩ <;> rfl
theorem nxt_rest {p : Nat} {L r : List (List UInt8)} {s : List UInt8} (h : nxt p (L.drop p) = .ok (s, r)) : r = L.drop (p + 1) ∧ p < L.length ∧ ∃ hp : p < L.length, L[p] = s ++ [10] := by
  have h1 := nxt_ok h
  have hp : p < L.length := by
    by_cases h2 : p < L.length
    · exact h2
    · rw [List.drop_eq_nil_of_le (by omega)] at h1
      cases h1
  have h3 := List.drop_eq_getElem_cons hp
  rw [h3] at h1
  injection h1 with h4 h5
  exact ⟨h5.symm, hp, hp, h4⟩
end Go.Proofs.YtgiojkhmkeocfaaGreatDoor

/- The code's isNumber and Parse of layer 1, walked anew over the normal form's texts: what they return is what the plain functions isNum, parseV and parseE say. -/
set_option maxRecDepth 20000
namespace Go.Proofs.YtgiojkhmkeocfaaGreatDoor
open Pn Go.RowKit
attribute [local go_sem] no_at

set_option maxHeartbeats 2000000 in
theorem nisNumber_loop (L : List UInt8) (w : World) (hl : L.length ≤ maxLen) (h0 : 0 < L.length) (hz : (((L[0].toNat : Int) == 48) = false) ∨ ((((L[0].toNat : Int) == 48) = true) ∧ (L.length : Int) ≤ 1))
    (HY : Hid ((∀ k (hk : k < L.length), 48 ≤ L[k].toNat ∧ L[k].toNat ≤ 57) → isNum L = true)) :
    Calls Tryz.prog 275 #[.string ⟨L.toArray⟩] w fun e w' => e = .returned (.bool (isNum L)) ∧ Below w.heap.size w w' := by
  unfold maxLen at hl
  have hne : L.isEmpty = false := by cases L; simp at h0; rfl
  have hnil : ¬ L = [] := by intro h; rw [h] at h0; simp at h0
  rcases hz with hz | ⟨hz, hz1⟩
  all_goals
    go_enter Tryz.func275, Tryz.ntmps275
    go_wp2
    go_loopw [] (fun wr => ∃ pos : Nat, pos ≤ L.length ∧ wr.heap[w.heap.size]? = some (.stringIter ⟨L.toArray⟩ pos) ∧ Below w.heap.size w wr ∧ (∀ k (hk : k < L.length), k < pos → 48 ≤ L[k].toNat ∧ L[k].toNat ≤ 57)) (fun wr => L.length - wr.iterPos w.heap.size)
    case atStart =>
      refine ⟨0, Nat.zero_le _, World.iter_heap w _ 0, (Below.refl _ w).alloc (Nat.le_refl _) _, fun k _ h => by omega⟩
    case round =>
      obtain ⟨pos, hp, hit, hbr, hall⟩ := hrel
      have HA : Hid (∀ k (hk : k < L.length), k < pos → 48 ≤ L[k].toNat ∧ L[k].toNat ≤ 57) := hall
      clear hall
      have hss : (⟨L.toArray⟩ : ByteArray).size = L.length := rfl
      by_cases hlt : pos < L.length
      · by_cases ha : L[pos].toNat < 128
        · have hnx : ∀ ty, (Instr.next (.pointer (some ⟨w.heap.size, 0, none⟩)) true ty).run Tryz.prog wr = _ := fun ty => Lib.run_next_ascii_at wr w.heap.size ⟨L.toArray⟩ pos ty hit hlt ha
          have hit2 := Lib.iterAt_heap wr w.heap.size ⟨L.toArray⟩ pos (pos + 1) hit
          have hbr2 := Lib.below_iterAt hbr (k := w.heap.size) (Nat.le_refl _) ⟨L.toArray⟩ (pos + 1)
          by_cases hd : 48 ≤ L[pos].toNat ∧ L[pos].toNat ≤ 57
          · obtain ⟨hd1, hd2⟩ := hd
            go_wp2
            go_roundw
            case rel =>
              refine ⟨pos + 1, by omega, hit2, hbr2, fun k hk h => ?_⟩
              by_cases e : k = pos
              · subst e; exact ⟨hd1, hd2⟩
              · exact HA.out k hk (by omega)
            case measure => simp only [World.iterPos, hit, hit2]; omega
          · have HN : Hid (isNum L = false) := isNum_bad pos hlt hd
            by_cases hd1 : L[pos].toNat < 48
            · clear hd
              go_wp2
              go_ret
              exact ⟨ret_bool HN.out.symm, hbr2⟩
            · have hd2 : 57 < L[pos].toNat := by omega
              clear hd
              go_wp2
              go_ret
              exact ⟨ret_bool HN.out.symm, hbr2⟩
        · have HN : Hid (isNum L = false) := isNum_bad pos hlt (by omega)
          have hdh := (decode_high ⟨L.toArray⟩ pos hlt (by show 128 ≤ L[pos].toNat; omega)).1
          have hnx : ∀ ty, (Instr.next (.pointer (some ⟨w.heap.size, 0, none⟩)) true ty).run Tryz.prog wr = _ := fun ty => Lib.run_next_any_at wr w.heap.size ⟨L.toArray⟩ pos ty hit hlt
          have hbr2 := Lib.below_iterAt hbr (k := w.heap.size) (Nat.le_refl _) ⟨L.toArray⟩ (pos + (Utf8.decode ⟨L.toArray⟩ pos).2)
          have hdl := decode_le ⟨L.toArray⟩ pos
          generalize Utf8.decode ⟨L.toArray⟩ pos = dd at *
          have q1 : ¬ ((dd.1 : Int) < 48) := by omega
          have q2 : 57 < (dd.1 : Int) := by omega
          go_wp2
          go_ret
          exact ⟨ret_bool HN.out.symm, hbr2⟩
      · have hnx : ∀ ty, (Instr.next (.pointer (some ⟨w.heap.size, 0, none⟩)) true ty).run Tryz.prog wr = _ := fun ty => Lib.run_next_end_at wr w.heap.size ⟨L.toArray⟩ pos ty hit hlt
        have HN : Hid (isNum L = true) := HY.out fun k hk => HA.out k hk (by omega)
        go_wp2
        go_ret
        exact ⟨ret_bool HN.out.symm, hbr⟩

set_option maxHeartbeats 1000000 in
theorem nisNumber_any (l : List UInt8) (w : World) (hl : l.length ≤ maxLen) :
    Calls Tryz.prog 275 #[.string ⟨l.toArray⟩] w fun e w' => e = .returned (.bool (isNum l)) ∧ Below w.heap.size w w' := by
  match l, hl with
  | [], _ =>
    go_enter Tryz.func275, Tryz.ntmps275
    go_wp2
    go_ret
    exact ⟨rfl, Below.refl _ _⟩
  | [c], hl =>
    refine nisNumber_loop [c] w hl (by simp) ?_ (isNum_yes (by simp))
    cases h : ((([c] : List UInt8)[0].toNat : Int) == 48)
    · exact .inl rfl
    · exact .inr ⟨rfl, by simp⟩
  | c :: d :: t, hl =>
    by_cases h : c.toNat = 48
    · have hb : ((c.toNat : Int) == 48) = true := by simp; omega
      have HN : Hid (isNum (c :: d :: t) = false) := isNum_zero h
      have hl2 : (1 : Int) < (t.length : Int) + 1 + 1 := by omega
      clear h
      go_enter Tryz.func275, Tryz.ntmps275
      go_wp2
      go_ret
      exact ⟨ret_bool HN.out.symm, Below.refl _ _⟩
    · refine nisNumber_loop (c :: d :: t) w hl (by simp) (.inl ?_) (isNum_yes (by simp [h]))
      simp; omega

set_option maxHeartbeats 2000000 in
theorem nParse_any (l : List UInt8) (w : World) (hl : l.length ≤ maxLen) :
    Calls Tryz.prog 245 #[.string ⟨l.toArray⟩] w fun e w' => e = .returned (.tuple #[.int .i64 (parseV l), .int .i64 (parseE l)]) ∧ Below w.heap.size w w' := by
  go_enter Tryz.func245, Tryz.ntmps245
  go_wp2_with fail
  refine (nisNumber_any l _ hl).mono ?_
  rintro e w1 ⟨rfl, hb1⟩
  unfold maxLen at hl
  cases hn : isNum l
  · have HN : Hid (isNum l = false) := hn
    go_wp2
    go_ret2
    have h := parse_no HN.out
    exact ⟨ret_pair h.1 h.2, hb1⟩
  · have HN : Hid (isNum l = true) := hn
    have hal := isNum_all hn
    have HAL : Hid (l.all digB = true) := hal
    clear hal
    go_wp2
    go_loopw [4] (fun n wr => ∃ (pos : Nat) (v : Int), pos ≤ l.length ∧ n = .int .i64 v ∧ 0 ≤ v ∧ v ≤ 2147483647 ∧ wr.heap[w1.heap.size]? = some (.stringIter ⟨l.toArray⟩ pos) ∧ Below w.heap.size w wr ∧ sat v (l.drop pos) = sat 0 l) (fun _ wr => l.length - wr.iterPos w1.heap.size)
    case atStart =>
      refine ⟨0, 0, Nat.zero_le _, rfl, by omega, by omega, World.iter_heap w1 _ 0, hb1.alloc hb1.size _, rfl⟩
    case round =>
      obtain ⟨pos, v, hp, rfl, hv0, hv1, hit, hbr, hsat⟩ := hrel
      have HS : Hid (sat v (l.drop pos) = sat 0 l) := hsat
      clear hsat
      have hss : (⟨l.toArray⟩ : ByteArray).size = l.length := rfl
      have hz1 := hb1.size
      by_cases hlt : pos < l.length
      · have hd := all_at HAL.out pos hlt
        obtain ⟨hd1, hd2⟩ := hd
        have HS2 : Hid (sat (min (v * 10 + ((l[pos].toNat : Int) - 48)) 2147483648) (l.drop (pos + 1)) = sat 0 l) := by
          show sat _ _ = _
          rw [← sat_step hlt]; exact HS.out
        have hnx : ∀ ty, (Instr.next (.pointer (some ⟨w1.heap.size, 0, none⟩)) true ty).run Tryz.prog wr = _ := fun ty => Lib.run_next_ascii_at wr w1.heap.size ⟨l.toArray⟩ pos ty hit hlt (by show l[pos].toNat < 128; omega)
        have hit2 := Lib.iterAt_heap wr w1.heap.size ⟨l.toArray⟩ pos (pos + 1) hit
        have hbr2 := Lib.below_iterAt hbr (k := w1.heap.size) hb1.size ⟨l.toArray⟩ (pos + 1)
        by_cases hfar : (2147483647 - ((l[pos].toNat : Int) - 48)) / 10 < v
        · have HF : Hid (sat 0 l = 2147483648) := by
            have e : min (v * 10 + ((l[pos].toNat : Int) - 48)) 2147483648 = 2147483648 := by omega
            have h := HS2.out
            rw [e, sat_top _ (all_drop HAL.out _)] at h
            exact h.symm
          go_wp2
          go_ret2
          have h := parse_far HN.out HF.out
          exact ⟨ret_pair h.1 h.2, hbr2⟩
        · go_wp2
          go_roundw
          case rel =>
            refine ⟨pos + 1, v * 10 + ((l[pos].toNat : Int) - 48), by omega, rfl, by omega, by omega, hit2, hbr2, ?_⟩
            have e : min (v * 10 + ((l[pos].toNat : Int) - 48)) 2147483648 = v * 10 + ((l[pos].toNat : Int) - 48) := by omega
            rw [← HS2.out, e]
          case measure => simp only [World.iterPos, hit, hit2]; omega
      · have hnx : ∀ ty, (Instr.next (.pointer (some ⟨w1.heap.size, 0, none⟩)) true ty).run Tryz.prog wr = _ := fun ty => Lib.run_next_end_at wr w1.heap.size ⟨l.toArray⟩ pos ty hit hlt
        have HF : Hid (sat 0 l = v) := by
          have h := HS.out
          rw [List.drop_eq_nil_of_le (by omega)] at h
          exact h.symm
        go_wp2
        go_ret2
        have h := parse_ok HN.out HF.out hv1
        exact ⟨ret_pair h.1 h.2, hbr⟩
end Go.Proofs.YtgiojkhmkeocfaaGreatDoor

/- strings.IndexAny at the letters a, c, d, and strings.Cut at a comma, for every text. -/
set_option maxRecDepth 20000
namespace Go.Proofs.YtgiojkhmkeocfaaGreatDoor
open Go.RowKit
attribute [local go_sem] no_at ByteArray.extract_mk

theorem contains_three (c : UInt8) : ([97, 99, 100] : List UInt8).contains c = isC c := by
  rw [Bool.eq_iff_iff]
  simp [isC, or_assoc]
/-- where the first of the three letters is, or -1 -/
def wend (l : List UInt8) : Int := Lib.indexAny l [97, 99, 100]
/-- where the first letter is, as the plain reader says -/
theorem wend_sp (l : List UInt8) : (spB isC l = none ∧ wend l = -1) ∨ (∃ k : Nat, ∃ h : k < l.length, wend l = k ∧ spB isC l = some (l.take k, l[k], l.drop (k + 1)) ∧ isC l[k] = true) := by
  induction l with
  | nil => exact .inl ⟨rfl, rfl⟩
  | cons c l ih =>
    unfold wend Lib.indexAny
    rw [contains_three]
    simp only [spB]
    cases hc : isC c with
    | true =>
      right
      refine ⟨0, by simp, by simp, by simp, by simpa using hc⟩
    | false =>
      rw [if_neg (by decide), if_neg (by decide)]
      rcases ih with ⟨h1, h2⟩ | ⟨k, hk, h1, h2, h3⟩
      · left
        unfold wend at h2
        rw [h1, h2]
        exact ⟨rfl, rfl⟩
      · right
        unfold wend at h1
        refine ⟨k + 1, by simpa using hk, ?_, ?_, by simpa using h3⟩
        · rw [h1, if_neg (by simp)]
          omega
        · rw [h2]
          rfl
/-- where a comma is -/
theorem comma_sp (l : List UInt8) : (spB isK l = none ∧ Lib.indexByte l 44 = -1) ∨ (∃ k : Nat, ∃ h : k < l.length, Lib.indexByte l 44 = k ∧ spB isK l = some (l.take k, l[k], l.drop (k + 1))) := by
  induction l with
  | nil => exact .inl ⟨rfl, rfl⟩
  | cons c l ih =>
    unfold Lib.indexByte
    simp only [spB]
    have e : (c == 44) = isK c := rfl
    rw [e]
    cases hc : isK c with
    | true =>
      right
      exact ⟨0, by simp, by simp, by simp⟩
    | false =>
      rw [if_neg (by decide), if_neg (by decide)]
      rcases ih with ⟨h1, h2⟩ | ⟨k, hk, h1, h2⟩
      · left
        rw [h1, h2]
        exact ⟨rfl, rfl⟩
      · right
        refine ⟨k + 1, by simpa using hk, ?_, ?_⟩
        · rw [h1, if_neg (by simp)]
          omega
        · rw [h2]
          rfl
end Go.Proofs.YtgiojkhmkeocfaaGreatDoor

/- The code's numbers and change of layer 12, walked: a range of lines, a line that says a change. -/
set_option maxRecDepth 20000
namespace Go.Proofs.YtgiojkhmkeocfaaGreatDoor
open Go.RowKit
attribute [local go_sem] ByteArray.extract_mk no_at

/-- what is ahead of the first comma, and behind it -/
def kA (l : List UInt8) : List UInt8 := match spB isK l with | none => l | some (x, _, _) => x
def kB (l : List UInt8) : List UInt8 := match spB isK l with | none => [] | some (_, _, y) => y
def kS (l : List UInt8) : Bool := match spB isK l with | none => false | some _ => true
set_option maxHeartbeats 2000000 in
theorem slCut_f (l : List UInt8) (w : World) (hl : l.length ≤ 1099511627776) :
    Calls Tryz.prog 274 #[.string ⟨l.toArray⟩, .string ⟨#[44]⟩] w fun e w' => e = .returned (.tuple #[.string ⟨(kA l).toArray⟩, .string ⟨(kB l).toArray⟩, .bool (kS l)]) ∧ ∃ n, w' = w.drewN n := by
  rcases comma_sp l with ⟨h1, h2⟩ | ⟨k, hk, h1, h2⟩
  · have HA : Hid (kA l = l ∧ kB l = [] ∧ kS l = false) := (by unfold kA kB kS; rw [h1]; exact ⟨rfl, rfl, rfl⟩)
    have HI : Hid (Lib.indexByte l 44 = -1) := h2
    clear h1 h2
    go_enter Tryz.func274, Tryz.ntmps274
    go_wp2_with fail
    refine (Tryz.stringslite_Index_one ⟨l.toArray⟩ 44 w).mono ?_
    rintro e w1 ⟨rfl, rfl⟩
    have e1 : Lib.indexByte (⟨l.toArray⟩ : ByteArray).data.toList 44 = -1 := HI.out
    rw [e1]
    clear e1
    go_wp2
    go_ret3
    obtain ⟨a1, a2, a3⟩ := HA.out
    rw [a1, a2, a3]
    exact ⟨rfl, 0, rfl⟩
  · have HA : Hid (kA l = l.take k ∧ kB l = l.drop (k + 1) ∧ kS l = true) := (by unfold kA kB kS; rw [h2]; exact ⟨rfl, rfl, rfl⟩)
    have HI : Hid (Lib.indexByte l 44 = (k : Int)) := h1
    clear h1 h2
    go_enter Tryz.func274, Tryz.ntmps274
    go_wp2_with fail
    refine (Tryz.stringslite_Index_one ⟨l.toArray⟩ 44 w).mono ?_
    rintro e w1 ⟨rfl, rfl⟩
    have e1 : Lib.indexByte (⟨l.toArray⟩ : ByteArray).data.toList 44 = (k : Int) := HI.out
    rw [e1]
    clear e1
    have i1 : (0 : Int) ≤ (k : Int) := by omega
    have i2 : (k : Int) ≤ (l.length : Int) := by omega
    have i3 : (k : Int) + 1 ≤ (l.length : Int) := by omega
    have i4 : (0 : Int) ≤ (k : Int) + 1 := by omega
    have i5 : IntKind.i64.wrap ((k : Int) + 1) = (k : Int) + 1 := wrap_s (by omega) (by omega)
    have i6 : ((k : Int) + 1).toNat = k + 1 := by omega
    go_wp2_with fail
    go_quiet (fail)
    go_wp2
    go_ret3
    obtain ⟨a1, a2, a3⟩ := HA.out
    rw [a1, a2, a3]
    have k5 : (l.drop (k + 1)).take (l.length - (k + 1)) = l.drop (k + 1) := List.take_of_length_le (by simp)
    exact ⟨by simp [k5], _, rfl⟩
set_option maxHeartbeats 1000000 in
theorem nCut_f (l : List UInt8) (w : World) (hl : l.length ≤ 1099511627776) :
    Calls Tryz.prog 244 #[.string ⟨l.toArray⟩, .string ⟨#[44]⟩] w fun e w' => e = .returned (.tuple #[.string ⟨(kA l).toArray⟩, .string ⟨(kB l).toArray⟩, .bool (kS l)]) ∧ ∃ n, w' = w.drewN n := by
  go_enter Tryz.func244, Tryz.ntmps244
  go_wp2_with fail
  refine (slCut_f l w hl).mono ?_
  rintro e w1 ⟨rfl, n, rfl⟩
  go_wp2
  go_ret3
  exact ⟨rfl, n, rfl⟩
/-- a text with a comma is no number -/
theorem comma_no {s : List UInt8} (h : kS s = true) : Pn.parseE s ≠ 0 := by
  unfold kS at h
  rcases comma_sp s with ⟨h1, _⟩ | ⟨k, hk, _, h2⟩
  · rw [h1] at h
    cases h
  · have hc : isK s[k] = true := (by
      have : ∀ (l : List UInt8) {a b : List UInt8} {c : UInt8}, spB isK l = some (a, c, b) → isK c = true := (by
        intro l
        induction l with
        | nil => intro a b c h; cases h
        | cons x l ih =>
          intro a b c h
          simp only [spB] at h
          split at h
          · rename_i hx
            cases h
            exact hx
          · split at h
            · cases h
            · rename_i hq
              cases h
              exact ih hq)
      exact this s h2)
    have hn : Pn.isNum s = false := Pn.isNum_bad k hk (by
      unfold isK at hc
      have : s[k] = 44 := by simpa using hc
      rw [this]
      decide)
    have := (Pn.parse_no hn).2
    omega
theorem kA_self {s : List UInt8} (h : kS s = false) : kA s = s ∧ spB isK s = none := by
  unfold kS at h
  unfold kA
  cases hq : spB isK s with
  | none => exact ⟨rfl, rfl⟩
  | some q => rw [hq] at h; cases h
theorem kS_some {s : List UInt8} (h : kS s = true) : ∃ c, spB isK s = some (kA s, c, kB s) := by
  unfold kS at h
  unfold kA kB
  cases hq : spB isK s with
  | none => rw [hq] at h; cases h
  | some q => exact ⟨q.2.1, rfl⟩
theorem kA_le (s : List UInt8) : (kA s).length ≤ s.length ∧ (kB s).length ≤ s.length := by
  unfold kA kB
  rcases comma_sp s with ⟨h1, _⟩ | ⟨k, hk, _, h2⟩
  · rw [h1]; simp
  · rw [h2]; simp only [List.length_take, List.length_drop]; omega
end Go.Proofs.YtgiojkhmkeocfaaGreatDoor

/- The context form: how the code reads a side, a range, a hunk; plain mathematics. -/
set_option maxRecDepth 20000
namespace Go.Proofs.YtgiojkhmkeocfaaGreatDoor
open Ln

/-- a side as rows of lines with their kinds as signs -/
def kM (x : Sde) : List Mk := x.map fun y => ⟨(y.1.toNat : Int), y.2⟩
theorem kM_len (x : Sde) : (kM x).length = x.length := by simp [kM]
theorem kM_cons (y : UInt8 × List UInt8) (x : Sde) : kM (y :: x) = ⟨(y.1.toNat : Int), y.2⟩ :: kM x := rfl
theorem kM_nil {x : Sde} : kM x = [] ↔ x = [] := by simp [kM]
/-- the lines of a side with their line feeds -/
def rdC (sg : UInt8) : Nat → List (List UInt8) → Except (Nat × Int) (List Mk × Nat × List (List UInt8))
  | p, [] => .ok ([], p, [])
  | p, s :: r => if isSd sg s = true then if fdB s = true then match rdC sg (p + 1) r with
      | .error e => .error e
      | .ok (l, p2, r2) => .ok (⟨((s.headD 0).toNat : Int), s.drop 2⟩ :: l, p2, r2)
    else .error (p + 1, 3) else .ok ([], p, s :: r)
/-- a side as the code reads it -/
def sdE (sg : UInt8) (p : Nat) (ls : List (List UInt8)) : Except (Nat × Int) (List Mk × Nat × List (List UInt8)) :=
  match rdC sg p ls with
  | .error e => .error e
  | .ok (l, p1, r) => if (!l.isEmpty && endK l r) = true then .ok (cutL l, p1 + 1, r.tail) else .ok (l, p1, r)
def mapS (X : Except (Nat × Int) (Sde × Nat × List (List UInt8))) : Except (Nat × Int) (List Mk × Nat × List (List UInt8)) :=
  match X with
  | .error e => .error e
  | .ok (x, p, r) => .ok (kM x, p, r)
theorem mark_noSd {sg : UInt8} (h92 : sg ≠ 92) {t : List UInt8} (h : markT.isPrefixOf t = true) : isSd sg t = false := by
  obtain ⟨u, rfl⟩ := List.isPrefixOf_iff_prefix.1 h
  unfold markT
  simp only [List.cons_append, isSd]
  have h1 : ((92 : UInt8) == sg) = false := beq_eq_false_iff_ne.2 (fun e => h92 e.symm)
  rw [h1]
  decide
theorem rdC_mark {sg : UInt8} (h92 : sg ≠ 92) {r : List (List UInt8)} (h : pkM r = true) (p : Nat) : rdC sg p r = .ok ([], p, r) := by
  cases r with
  | nil => cases h
  | cons t r =>
    simp only [rdC]
    rw [if_neg (by rw [mark_noSd h92 h]; decide)]
theorem side_short {sg : UInt8} {s : List UInt8} (h : isSd sg s = true) (hf : fdB s = true) (hl : s.length ≤ 3) : s.drop 2 = [10] := by
  match s, h, hf, hl with
  | [a, b], h, hf, _ =>
    simp only [isSd, Bool.and_eq_true, beq_iff_eq] at h
    obtain ⟨_, rfl⟩ := h
    exact absurd hf (by simp [fdB])
  | [a, b, c], h, hf, _ =>
    have : c = 10 := by simpa [fdB] using hf
    rw [this]
    rfl
theorem side_code {sg : UInt8} (h92 : sg ≠ 92) (ls : List (List UInt8)) : ∀ p, sdE sg p ls = mapS (rdS sg p ls) := by
  induction ls with
  | nil => intro p; rfl
  | cons s r ih =>
    intro p
    by_cases hs : isSd sg s = true
    · by_cases hf : fdB s = true
      · by_cases hm : pkM r = true ∧ 3 < s.length
        · have h1 : rdC sg p (s :: r) = .ok ([⟨((s.headD 0).toNat : Int), s.drop 2⟩], p + 1, r) := by
            simp only [rdC]
            rw [if_pos hs, if_pos hf, rdC_mark h92 hm.1]
          have h2 : endK [⟨((s.headD 0).toNat : Int), s.drop 2⟩] r = true := by
            unfold endK
            rw [hm.1, Bool.and_true]
            have : lastT [(⟨((s.headD 0).toNat : Int), s.drop 2⟩ : Mk)] = s.drop 2 := rfl
            rw [this, bne_iff_ne]
            intro e
            have := congrArg List.length e
            rw [List.length_drop] at this
            simp at this
            omega
          unfold sdE
          rw [h1]
          dsimp only
          rw [if_pos (by rw [h2]; rfl)]
          simp only [rdS]
          rw [if_pos hs, if_pos hf, if_pos hm]
          rfl
        · have hi := ih (p + 1)
          simp only [rdS]
          rw [if_pos hs, if_pos hf, if_neg hm]
          unfold sdE at hi ⊢
          simp only [rdC]
          rw [if_pos hs, if_pos hf]
          cases hc : rdC sg (p + 1) r with
          | error e =>
            rw [hc] at hi
            cases hr : rdS sg (p + 1) r with
            | error e2 =>
              rw [hr] at hi
              simp only [mapS] at hi ⊢
              injection hi with hi
              rw [hi]
            | ok z =>
              obtain ⟨x, p2, r2⟩ := z
              rw [hr] at hi
              simp only [mapS] at hi
              cases hi
          | ok z =>
            obtain ⟨l, p2, r2⟩ := z
            rw [hc] at hi
            dsimp only at hi ⊢
            cases hr : rdS sg (p + 1) r with
            | error e2 =>
              rw [hr] at hi
              simp only [mapS] at hi
              split at hi <;> cases hi
            | ok z =>
              obtain ⟨x, p3, r3⟩ := z
              rw [hr] at hi
              simp only [mapS] at hi ⊢
              by_cases hl : l = []
              · subst hl
                rw [if_neg (by simp)] at hi
                have hi2 : ([] : List Mk) = kM x ∧ p2 = p3 ∧ r2 = r3 := by
                  injection hi with hi
                  injection hi with h1 h2
                  injection h2 with h2 h3
                  exact ⟨h1, h2, h3⟩
                obtain ⟨hx, rfl, rfl⟩ := hi2
                have hx0 : x = [] := kM_nil.1 hx.symm
                subst hx0
                have hr2 : r2 = r := by
                  cases r with
                  | nil => simp only [rdC] at hc; cases hc; rfl
                  | cons t r =>
                    simp only [rdC] at hc
                    split at hc
                    · split at hc
                      · split at hc
                        · cases hc
                        · cases hc
                      · cases hc
                    · cases hc; rfl
                subst hr2
                have he : endK [⟨((s.headD 0).toNat : Int), s.drop 2⟩] r2 = false := by
                  unfold endK
                  have : lastT [(⟨((s.headD 0).toNat : Int), s.drop 2⟩ : Mk)] = s.drop 2 := rfl
                  rw [this]
                  cases hp : pkM r2 with
                  | false => rw [Bool.and_false]
                  | true =>
                    rw [side_short hs hf (Nat.le_of_not_lt fun q => hm ⟨hp, q⟩)]
                    rfl
                rw [if_neg (by rw [he]; simp)]
                rfl
              · have hl1 : l.isEmpty = false := by cases l with | nil => exact absurd rfl hl | cons _ _ => rfl
                have he : endK (⟨((s.headD 0).toNat : Int), s.drop 2⟩ :: l) r2 = endK l r2 := by
                  unfold endK
                  rw [lastT_cons hl]
                rw [he]
                rw [hl1] at hi
                simp only [Bool.not_false, Bool.true_and, List.isEmpty_cons] at hi ⊢
                by_cases hk : endK l r2 = true
                · rw [if_pos hk] at hi ⊢
                  rw [cutL_cons hl]
                  injection hi with hi
                  injection hi with h1 h2
                  rw [h1, h2]
                  rfl
                · rw [if_neg hk] at hi ⊢
                  injection hi with hi
                  injection hi with h1 h2
                  rw [h1, h2]
                  rfl
      · unfold sdE
        simp only [rdC, rdS]
        rw [if_pos hs, if_neg hf, if_pos hs, if_neg hf]
        rfl
    · unfold sdE
      simp only [rdC, rdS]
      rw [if_neg hs, if_neg hs]
      rfl

/- ranges -/
/-- the numbers of a range, as the code tells them: the first one, the last one -/
def nmC (s : List UInt8) : Option (Int × Int) :=
  if Pn.parseE (kA s) = 0 then if kS s = true then if Pn.parseE (kB s) = 0 ∧ 0 < Pn.parseV (kA s) ∧ Pn.parseV (kA s) < Pn.parseV (kB s) then some (Pn.parseV (kA s), Pn.parseV (kB s)) else none else some (Pn.parseV (kA s), Pn.parseV (kA s)) else none
def sayC (x : Int × Int) : Int × Int := (x.1, if x.1 = x.2 then -1 else x.2 - x.1 + 1)
theorem rng_code (s : List UInt8) : rngI s = (nmC s).map sayC := by
  unfold rngI nmC
  cases hk : kS s with
  | false =>
    obtain ⟨h1, h2⟩ := kA_self hk
    rw [h1, if_neg (show ¬ (false = true) by decide)]
    by_cases he : Pn.parseE s = 0
    · rw [if_pos he, if_pos he]
      simp [sayC]
    · rw [if_neg he, if_neg he]
      unfold lnsP
      rw [h2]
      exact if_neg (fun q => he q.1)
  | true =>
    obtain ⟨c, hc⟩ := kS_some hk
    rw [if_neg (comma_no hk), if_pos rfl]
    unfold lnsP
    rw [hc]
    dsimp only
    by_cases h1 : Pn.parseE (kA s) = 0
    · rw [if_pos h1]
      by_cases h2 : Pn.parseE (kB s) = 0 ∧ 0 < Pn.parseV (kA s) ∧ Pn.parseV (kA s) < Pn.parseV (kB s)
      · rw [if_pos ⟨h1, h2.1, by omega, h2.2.2⟩, if_pos h2]
        simp only [Option.map_some, sayC]
        rw [if_neg (by omega)]
      · rw [if_neg (fun q => h2 ⟨q.2.1, by omega, q.2.2.2⟩), if_neg h2]
        rfl
    · rw [if_neg (fun q => h1 q.1), if_neg h1]
      rfl
theorem nmC_ok {s : List UInt8} {a b : Int} (h : nmC s = some (a, b)) : 0 ≤ a ∧ a ≤ b ∧ b ≤ 2147483647 := by
  unfold nmC at h
  have b1 := @prs_num (kA s)
  have b2 := @prs_num (kB s)
  split at h
  · split at h
    · split at h
      · rename_i h3
        cases h
        omega
      · cases h
    · cases h
      omega
  · cases h
/-- a range says as many lines as there are -/
theorem cnt_code {a b : Int} (h : a ≤ b) (x : Sde) : cntS (sayC (a, b)).2 x = !(decide ((x.length : Int) = b - a + 1) || (decide ((x.length : Int) = 0) && decide (b - a + 1 = 1))) := by
  unfold cntS sayC
  dsimp only
  rw [Bool.eq_iff_iff]
  simp only [decide_eq_true_eq, Bool.not_eq_true', Bool.or_eq_false_iff, Bool.and_eq_false_iff, decide_eq_false_iff_not]
  split <;> omega
end Go.Proofs.YtgiojkhmkeocfaaGreatDoor

/- The context form: how the code lays sides together, shows signs, reads names; plain mathematics. -/
set_option maxRecDepth 20000
namespace Go.Proofs.YtgiojkhmkeocfaaGreatDoor
open Ln

/- pieces -/
def allM (k : Int) (l : List Mk) : Bool := l.all fun m => m.sg == k
def keptM (l : List Mk) : List Mk := l.filter fun m => m.sg == 32
theorem kd_ne (a : UInt8) (k : UInt8) : (((a.toNat : Int)) != (k.toNat : Int)) = (a != k) := by
  rw [Bool.eq_iff_iff, bne_iff_ne, bne_iff_ne, ne_eq, ne_eq, Int.natCast_inj, UInt8.toNat_inj]
theorem kd_eq (a : UInt8) (k : UInt8) : (((a.toNat : Int)) == (k.toNat : Int)) = (a == k) := by
  rw [Bool.eq_iff_iff, beq_iff_eq, beq_iff_eq, Int.natCast_inj, UInt8.toNat_inj]
theorem chg_kM (x : Sde) : chgM (kM x) = kM (chgS x) := by
  induction x with
  | nil => rfl
  | cons y x ih =>
    have h := kd_ne y.1 32
    simp only [chgM, kM_cons, chgS, List.takeWhile_cons] at ih ⊢
    have h2 : (((y.1.toNat : Int)) != 32) = (y.1 != 32) := h
    rw [h2]
    split
    · rw [ih]; rfl
    · rfl
theorem rst_kM (x : Sde) : rstM (kM x) = kM (rstS x) := by
  induction x with
  | nil => rfl
  | cons y x ih =>
    have h := kd_ne y.1 32
    simp only [rstM, kM_cons, rstS, List.dropWhile_cons] at ih ⊢
    have h2 : (((y.1.toNat : Int)) != 32) = (y.1 != 32) := h
    rw [h2]
    split
    · rw [ih]
    · rfl
theorem all_kM (k : UInt8) (x : Sde) : allM (k.toNat : Int) (kM x) = allS k x := by
  unfold allM allS kM
  rw [List.all_map]
  refine congrArg (fun f => x.all f) ?_
  funext y
  exact kd_eq y.1 k
theorem kept_kM (x : Sde) : keptM (kM x) = kM (keptS x) := by
  unfold keptM keptS kM
  rw [List.filter_map]
  refine congrArg (List.map _) (congrArg (fun f => x.filter f) ?_)
  funext y
  exact kd_eq y.1 32
/-- a piece as the code looks at it -/
def mtM (g c : List Mk) : Bool := if c = [] then allM 45 g else if g = [] then allM 43 c else allM 33 g && allM 33 c
theorem mt_kM (x y : Sde) : mtM (kM x) (kM y) = okJ x y := by
  unfold mtM okJ
  have a1 : allM 45 (kM x) = allS 45 x := all_kM 45 x
  have a2 : allM 43 (kM y) = allS 43 y := all_kM 43 y
  have a3 : allM 33 (kM x) = allS 33 x := all_kM 33 x
  have a4 : allM 33 (kM y) = allS 33 y := all_kM 33 y
  rw [a1, a2, a3, a4]
  by_cases hy : y = []
  · subst hy
    rw [if_pos (show kM [] = [] from rfl), if_neg (fun q => q.2 rfl)]
    have : allS 43 [] = true := rfl
    rw [this, Bool.and_true]
  · rw [if_neg (fun q => hy (kM_nil.1 q))]
    by_cases hx : x = []
    · subst hx
      rw [if_pos (show kM [] = [] from rfl), if_neg (fun q => q.1 rfl)]
      have : allS 45 [] = true := rfl
      rw [this, Bool.true_and]
    · rw [if_neg (fun q => hx (kM_nil.1 q)), if_pos ⟨hx, hy⟩]
/-- texts with one sign -/
theorem mkS_kM (s : Int) (x : Sde) : mkS s x = (kM x).map fun m => ⟨s, m.tx⟩ := by
  simp [mkS, kM]
theorem same_kM (x : Sde) : allM 32 (kM x) = sameS x := all_kM 32 x
theorem jn_fuel (n : Nat) : ∀ (o w : Sde) (f g : Nat), o.length ≤ n → o.length < f → o.length < g → jnS f o w = jnS g o w := by
  induction n with
  | zero =>
    intro o w f g h hf hg
    obtain ⟨f, rfl⟩ : ∃ f', f = f' + 1 := ⟨f - 1, by omega⟩
    obtain ⟨g, rfl⟩ : ∃ g', g = g' + 1 := ⟨g - 1, by omega⟩
    have ho : o = [] := List.eq_nil_of_length_eq_zero (by omega)
    subst ho
    simp only [jnS]
    have : rstS [] = [] := rfl
    rw [this]
    cases rstS w <;> rfl
  | succ n ih =>
    intro o w f g h hf hg
    obtain ⟨f, rfl⟩ : ∃ f', f = f' + 1 := ⟨f - 1, by omega⟩
    obtain ⟨g, rfl⟩ : ∃ g', g = g' + 1 := ⟨g - 1, by omega⟩
    simp only [jnS]
    split
    · have hl : (rstS o).length ≤ o.length := by
        have := congrArg List.length (chg_rst o)
        rw [List.length_append] at this
        omega
      cases hro : rstS o with
      | nil => cases rstS w <;> rfl
      | cons y o2 =>
        rw [hro] at hl
        cases hrw : rstS w with
        | nil => rfl
        | cons z w2 =>
          dsimp only
          rw [ih o2 w2 f g (by simp at hl; omega) (by simp at hl; omega) (by simp at hl; omega)]
    · rfl
def jnX (o w : Sde) : Option (List Mk) := jnS (o.length + 1) o w
theorem jnX_eq (o w : Sde) : jnX o w = if okJ (chgS o) (chgS w) = true then match rstS o, rstS w with
      | [], [] => some (mkS 45 (chgS o) ++ mkS 43 (chgS w))
      | (_, s) :: o2, (_, t) :: w2 => if s = t then match jnX o2 w2 with
        | none => none
        | some l => some (mkS 45 (chgS o) ++ (mkS 43 (chgS w) ++ ⟨32, s⟩ :: l)) else none
      | _, _ => none
    else none := by
  have hl : (rstS o).length ≤ o.length := by
    have := congrArg List.length (chg_rst o)
    rw [List.length_append] at this
    omega
  have hX : jnX o w = jnS (o.length + 1) o w := rfl
  rw [hX]
  simp only [jnS]
  split
  · cases hro : rstS o with
    | nil => cases rstS w <;> rfl
    | cons y o2 =>
      rw [hro] at hl
      simp only [List.length_cons] at hl
      cases hrw : rstS w with
      | nil => rfl
      | cons z w2 =>
        dsimp only
        rw [jn_fuel o.length o2 w2 o.length (o2.length + 1) (by omega) (by omega) (by omega)]
        rfl
  · rfl

/- names -/
def unC (s : List UInt8) : List UInt8 := if s = devN then [] else if s.head? = some 34 then Q.uqa s else s
theorem un_code {s n : List UInt8} (h : unN s = some n) : unC s = n := by
  unfold unN at h
  unfold unC
  split at h
  · rename_i h1
    rw [if_pos h1]
    cases h
    rfl
  · rename_i h1
    rw [if_neg h1]
    split at h
    · rename_i h2
      rw [if_pos h2]
      unfold Q.uqa
      split at h
      · rename_i h3
        rw [h3]
        cases h
        rfl
      · cases h
    · rename_i h2
      rw [if_neg h2]
      cases h
      rfl
def nokC (s : List UInt8) : Bool := decide ((unC s).length ≤ 64) && (nameT (unC s) == s)
theorem named_code (s : List UInt8) : namedP s = if nokC s = true then some (unC s) else none := by
  by_cases h : nokC s = true
  · rw [if_pos h]
    unfold nokC at h
    rw [Bool.and_eq_true, decide_eq_true_eq, beq_iff_eq] at h
    exact (named_iff s (unC s)).2 ⟨h.2.symm, h.1⟩
  · rw [if_neg h]
    cases hn : namedP s with
    | none => rfl
    | some n =>
      exfalso
      obtain ⟨h1, h2⟩ := (named_iff s n).1 hn
      have h3 : unC s = n := by rw [h1]; exact un_code (name_un n)
      apply h
      unfold nokC
      rw [h3, Bool.and_eq_true, decide_eq_true_eq, beq_iff_eq]
      exact ⟨h2, h1.symm⟩
/-- a line between two heads -/
theorem inn_code (e : UInt8) (s : List UInt8) : innR e s = if [e, e, e, 32].isPrefixOf s = true then if Lib.hasSuffix (s.drop 4) [32, e, e, e, e] = true then some ((s.drop 4).take ((s.drop 4).length - 5)) else none else none := by
  unfold innR
  by_cases h1 : [e, e, e, 32].isPrefixOf s = true
  · rw [if_pos h1]
    obtain ⟨t, rfl⟩ := List.isPrefixOf_iff_prefix.1 h1
    have e1 : ([e, e, e, 32] ++ t).drop 4 = t := rfl
    have e2 : ([e, e, e, 32] ++ t).length = t.length + 4 := by simp
    rw [e1, e2]
    by_cases h2 : Lib.hasSuffix t [32, e, e, e, e] = true
    · rw [if_pos h2]
      unfold Lib.hasSuffix at h2
      obtain ⟨u, rfl⟩ := List.isSuffixOf_iff_suffix.1 h2
      have e3 : (u ++ [32, e, e, e, e]).length = u.length + 5 := by simp
      rw [e3, if_pos]
      · have e4 : u.length + 5 + 4 - 9 = u.length + 5 - 5 := by omega
        rw [e4]
      · refine ⟨by omega, rfl, ?_⟩
        have e5 : u.length + 5 + 4 - 5 = ([e, e, e, 32] ++ u).length := by simp
        rw [e5, ← List.append_assoc, List.drop_left]
    · rw [if_neg h2, if_neg]
      rintro ⟨h3, _, h4⟩
      apply h2
      unfold Lib.hasSuffix
      rw [List.isSuffixOf_iff_suffix]
      have e6 : ([e, e, e, 32] ++ t).drop (t.length + 4 - 5) = t.drop (t.length - 5) := by
        have : t.length + 4 - 5 = 4 + (t.length - 5) := by omega
        rw [this, ← List.drop_drop]
        rfl
      rw [e6] at h4
      exact ⟨t.take (t.length - 5), by rw [← h4, List.take_append_drop]⟩
  · rw [if_neg h1, if_neg]
    rintro ⟨_, h2, _⟩
    apply h1
    rw [List.isPrefixOf_iff_prefix]
    exact ⟨s.drop 4, by rw [← h2, List.take_append_drop]⟩
end Go.Proofs.YtgiojkhmkeocfaaGreatDoor

/- The code's reader of layer 15, walked: what is wrong is thrown; the next line, bare; the end of a side; stars. -/
set_option maxRecDepth 20000
namespace Go.Proofs.YtgiojkhmkeocfaaGreatDoor
open Go.RowKit
attribute [local go_sem] ByteArray.extract_mk no_at

/-- a reader: its lines, how many are read -/
def ckO (vL : Value) (p : Int) : Obj := .cells #[vL, .int .i64 p] 105
def Ck (u : World) (R : Nat) (vL : Value) (p : Int) : Prop := u.heap[R]? = some (ckO vL p)
section
variable {u u' : World} {R : Nat} {vL : Value} {p : Int}
theorem Ck.cells (q : Ck u R vL p) : u.cell? ⟨R, 0, none⟩ = some vL ∧ u.cell? ⟨R, 1, none⟩ = some (.int .i64 p) := by
  unfold Ck ckO at q
  refine ⟨?_, ?_⟩ <;> rw [Lib.cell_of_heap q] <;> rfl
theorem Ck.frozen (q : Ck u R vL p) (j : Nat) : u.frozen? ⟨R, j, none⟩ = false := Lib.frozen_of_heap q j
theorem Ck.lt (q : Ck u R vL p) : R < u.heap.size := (Array.getElem?_eq_some_iff.1 q).1
theorem Ck.dN (q : Ck u R vL p) (n : Nat) : Ck (u.drewN n) R vL p := q
theorem Ck.at (q : Ck u R vL p) (p' : Int) : Ck (u.setCell ⟨R, 1, none⟩ (.int .i64 p')) R vL p' := heap_setCell_same u R 1 _ _ (.int .i64 p') q
theorem Ck.low (q : Ck u R vL p) (hg : Below u.heap.size u u') : Ck u' R vL p := (hg.block R q.lt).trans q
theorem Ck.keep (q : Ck u R vL p) {g : Option Nat} (hg : u.grownBy u' g) (hr : some R ≠ g) : Ck u' R vL p := (hg.block R q.lt hr).trans q
end
set_option maxHeartbeats 1000000 in
theorem cthrow_f (a z : Int) (w : World) :
    Calls Tryz.prog 148 #[.int .i64 a, .int .i64 z] w fun x w' => Thr a z x w' ∧ Below w.heap.size w w' := by
  have HQ : Hid ((w.alloc (fltO a z)).heap[w.heap.size]? = some (fltO a z) ∧ Below w.heap.size w (w.alloc (fltO a z))) := ⟨heap_alloc_new w _, (Below.refl _ w).alloc (Nat.le_refl _) _⟩
  go_enter Tryz.func148, Tryz.ntmps148
  go_wp2
  exact ⟨rfl, ⟨_, rfl, HQ.out.1⟩, HQ.out.2⟩
set_option maxHeartbeats 1000000 in
theorem crefuse_f {R : Nat} {vL : Value} {p : Nat} (z : Int) (w : World) (q : Ck w R vL (p : Int)) (hp : p ≤ 4398046511104) :
    Calls Tryz.prog 94 #[.pointer (some ⟨R, 0, none⟩), .int .i64 z] w fun x w' => Thr ((p : Int) + 1) z x w' ∧ w.grownBy w' (some R) := by
  obtain ⟨c0, c1⟩ := q.cells
  clear q
  go_enter Tryz.func94, Tryz.ntmps94
  go_wp2_with fail
  refine (cthrow_f ((p : Int) + 1) z w).mono ?_
  rintro x w1 ⟨⟨g, rfl, hg⟩, hb⟩
  go_wp2
  exact ⟨rfl, ⟨_, rfl, hg⟩, low_grown hb _⟩
set_option maxHeartbeats 4000000 in
theorem crline_f {R : Nat} {L : List (List UInt8)} {lo : Option Addr} {lc : Nat} {p : Nat} (w : World) (q : Ck w R (.slice lo L.length lc) p) (hL : HS w (.slice lo L.length lc) L) (hp : p ≤ L.length) (hLl : L.length ≤ 2199023255552) (hs : ∀ s ∈ L, s.length ≤ 1099511627776)
    (X : Except (Nat × Int) (List UInt8 × List (List UInt8))) (HX : Hid (nxt p (L.drop p) = X)) :
    Calls Tryz.prog 203 #[.pointer (some ⟨R, 0, none⟩)] w fun x w' => LnQ R (.slice lo L.length lc) p X w x w' := by
  have hX := HX.out
  clear HX
  by_cases hlt : p < L.length
  · rw [nxt_drop hlt] at hX
    obtain ⟨bk, off, rfl, hbk, hcl⟩ := HS.at hL (by omega)
    have d4 := hcl p hlt
    have hsl := hs L[p] (List.getElem_mem _)
    generalize L[p] = s at d4 hsl hX
    clear hcl hs hL
    obtain ⟨c0, c1⟩ := q.cells
    have e0 : ((p : Int) == (L.length : Int)) = false := beq_eq_false_iff_ne.2 (by omega)
    have i1 : (0 : Int) ≤ (p : Int) := by omega
    have i2 : (p : Int) < (L.length : Int) := by omega
    have i3 : (p : Int).toNat = p := by omega
    cases hf : fdB s with
    | true =>
      rw [if_pos hf] at hX
      subst hX
      have HD : Hid (s.dropLast ++ [10] = s) := drop_feed hf
      clear q
      go_enter Tryz.func203, Tryz.ntmps203
      go_wp2_with fail
      go_quiet (fail)
      go_wp2_with fail
      have c0' : (w.drewN nq).cell? ⟨R, 0, none⟩ = _ := c0
      have c1' : (w.drewN nq).cell? ⟨R, 1, none⟩ = _ := c1
      have d4' : (w.drewN nq).cell? ⟨bk, off + p, none⟩ = _ := d4
      have HM : Hid (∀ n, ∃ k, (w.drewN nq).drewN n = w.drewN k) := fun n => ⟨_, World.drewN_drewN w nq n⟩
      clear c0 c1 d4
      generalize w.drewN nq = W1 at c0' c1' d4' HM ⊢
      have j1 : (0 : Int) ≤ (p : Int) := by omega
      have j2 : (p : Int) < (L.length : Int) := by omega
      have j3 : (p : Int).toNat = p := by omega
      go_quiet (fail)
      go_wp2_with fail
      refine (Tryz.strings_HasSuffix ⟨s.toArray⟩ ⟨#[10]⟩ _ (by show s.length ≤ _; omega)).mono ?_
      rintro e w2 ⟨rfl, rfl⟩
      have e1 : Lib.hasSuffix (⟨s.toArray⟩ : ByteArray).data.toList (⟨#[10]⟩ : ByteArray).data.toList = true := (suf_feed s).trans hf
      rw [e1]
      clear e1 hf
      go_wp2
      go_ret
      refine ⟨?_, HM.out _⟩
      rw [HD.out]
      rfl
    | false =>
      rw [if_neg (by rw [hf]; decide)] at hX
      subst hX
      have q0 := q
      clear q
      go_enter Tryz.func203, Tryz.ntmps203
      go_wp2_with fail
      go_quiet (fail)
      go_wp2_with fail
      have c0' : (w.drewN nq).cell? ⟨R, 0, none⟩ = _ := c0
      have c1' : (w.drewN nq).cell? ⟨R, 1, none⟩ = _ := c1
      have d4' : (w.drewN nq).cell? ⟨bk, off + p, none⟩ = _ := d4
      have HM : Hid (∀ n, w.grownBy ((w.drewN nq).drewN n) (some R)) := fun n => grown_drewN (grown_drewN (low_grown (Below.refl _ _) _) nq) n
      have HQ : Hid (∀ n, Ck ((w.drewN nq).drewN n) R (.slice (some ⟨bk, off, none⟩) L.length lc) p) := fun n => (q0.dN nq).dN n
      clear c0 c1 d4 q0
      generalize w.drewN nq = W1 at c0' c1' d4' HM HQ ⊢
      have j1 : (0 : Int) ≤ (p : Int) := by omega
      have j2 : (p : Int) < (L.length : Int) := by omega
      have j3 : (p : Int).toNat = p := by omega
      go_quiet (fail)
      go_wp2_with fail
      refine (Tryz.strings_HasSuffix ⟨s.toArray⟩ ⟨#[10]⟩ _ (by show s.length ≤ _; omega)).mono ?_
      rintro e w2 ⟨rfl, rfl⟩
      have e1 : Lib.hasSuffix (⟨s.toArray⟩ : ByteArray).data.toList (⟨#[10]⟩ : ByteArray).data.toList = false := (suf_feed s).trans hf
      rw [e1]
      clear e1 hf
      go_wp2_with fail
      refine (crefuse_f 3 _ (HQ.out _) (by omega)).mono ?_
      rintro e w3 ⟨⟨g, rfl, hg⟩, hgr⟩
      go_wp2
      exact ⟨rfl, ⟨_, rfl, hg⟩, grown_two (HM.out _) hgr⟩
  · rw [nxt_end (by omega)] at hX
    subst hX
    obtain ⟨c0, c1⟩ := q.cells
    have e0 : ((p : Int) == (L.length : Int)) = true := beq_iff_eq.2 (by omega)
    have HM : Hid (∀ n, w.grownBy (w.drewN n) (some R)) := fun n => grown_drewN (low_grown (Below.refl _ _) _) n
    have HQ : Hid (∀ n, Ck (w.drewN n) R (.slice lo L.length lc) p) := fun n => q.dN n
    clear q hs hL
    go_enter Tryz.func203, Tryz.ntmps203
    go_wp2_with fail
    go_quiet (fail)
    go_wp2_with fail
    refine (crefuse_f 1 _ (HQ.out _) (by omega)).mono ?_
    rintro e w3 ⟨⟨g, rfl, hg⟩, hgr⟩
    go_wp2
    exact ⟨rfl, ⟨_, rfl, hg⟩, grown_two (HM.out _) hgr⟩
set_option maxHeartbeats 4000000 in
theorem crend_no {R g o : Nat} {L : List (List UInt8)} {lo : Option Addr} {lc : Nat} {p : Nat} (w : World) (q : Ck w R (.slice lo L.length lc) p) (hL : HS w (.slice lo L.length lc) L) (hPl : Plain L) (hp : p ≤ L.length) (hLl : L.length ≤ 2199023255552)
    (t : List UInt8) (ct : w.cell? ⟨g, o + 1, none⟩ = some (.string ⟨t.toArray⟩)) (HB : Hid ((t != [10] && pkM (L.drop p)) = false)) :
    Calls Tryz.prog 208 #[.pointer (some ⟨R, 0, none⟩), .pointer (some ⟨g, o, none⟩)] w fun x w' => x = .returned (.tuple #[]) ∧ ∃ n, w' = w.drewN n := by
  obtain ⟨c0, c1⟩ := q.cells
  by_cases ht : t = [10]
  · subst ht
    clear HB hL q
    go_enter Tryz.func208, Tryz.ntmps208
    go_wp2_with fail
    go_quiet (fail)
    go_wp2
    first
      | go_end0
      | refine bodyPost_ret (results_none rfl _ _ _) rfl ?_
      | refine bodyPost_end (results_none rfl _ _ _) rfl ?_
    exact ⟨rfl, _, rfl⟩
  · have e1 : (t == [10]) = false := beq_eq_false_iff_ne.2 ht
    by_cases hlt : p < L.length
    · have hm : (L[p] == markT) = false := (by
        have h := HB.out
        rw [pkM_at hPl hlt] at h
        have : (t != [10]) = true := bne_iff_ne.2 ht
        rw [this, Bool.true_and] at h
        exact h)
      obtain ⟨bk, off, rfl, hbk, hcl⟩ := HS.at hL (by omega)
      have d4 := hcl p hlt
      generalize L[p] = s at d4 hm
      have hm2 : (s == [92, 32, 78, 111, 32, 110, 101, 119, 108, 105, 110, 101, 32, 97, 116, 32, 101, 110, 100, 32, 111, 102, 32, 102, 105, 108, 101, 10]) = false := hm
      have hm3 : (s != [92, 32, 78, 111, 32, 110, 101, 119, 108, 105, 110, 101, 32, 97, 116, 32, 101, 110, 100, 32, 111, 102, 32, 102, 105, 108, 101, 10]) = true := (by unfold bne; rw [hm2]; rfl)
      have e0 : ((p : Int) == (L.length : Int)) = false := beq_eq_false_iff_ne.2 (by omega)
      clear HB hL q hcl hm hPl
      have i1 : (0 : Int) ≤ (p : Int) := by omega
      have i2 : (p : Int) < (L.length : Int) := by omega
      have i3 : (p : Int).toNat = p := by omega
      go_enter Tryz.func208, Tryz.ntmps208
      go_wp2_with fail
      go_quiet (fail)
      go_wp2
      first
        | go_end0
        | refine bodyPost_ret (results_none rfl _ _ _) rfl ?_
        | refine bodyPost_end (results_none rfl _ _ _) rfl ?_
      exact ⟨rfl, _, rfl⟩
    · have e0 : ((p : Int) == (L.length : Int)) = true := beq_iff_eq.2 (by omega)
      clear HB hL q hPl
      go_enter Tryz.func208, Tryz.ntmps208
      go_wp2_with fail
      go_quiet (fail)
      go_wp2
      first
        | go_end0
        | refine bodyPost_ret (results_none rfl _ _ _) rfl ?_
        | refine bodyPost_end (results_none rfl _ _ _) rfl ?_
      exact ⟨rfl, _, rfl⟩
set_option maxRecDepth 20000 in
set_option maxHeartbeats 4000000 in
theorem crend_yes {R g o : Nat} {L : List (List UInt8)} {lo : Option Addr} {lc : Nat} {p : Nat} (w : World) (q : Ck w R (.slice lo L.length lc) p) (hL : HS w (.slice lo L.length lc) L) (hPl : Plain L) (hLl : L.length ≤ 2199023255552) (hgR : R ≠ g)
    (T t : List UInt8) (HTt : Hid (T = t ++ [10])) (htl : T.length ≤ 1099511627776) (ct : w.cell? ⟨g, o + 1, none⟩ = some (.string ⟨T.toArray⟩)) (cf : w.frozen? ⟨g, o + 1, none⟩ = false) (HB : Hid ((T != [10] && pkM (L.drop p)) = true)) :
    Calls Tryz.prog 208 #[.pointer (some ⟨R, 0, none⟩), .pointer (some ⟨g, o, none⟩)] w fun x w' => x = .returned (.tuple #[]) ∧ ∃ n, w' = ((w.drewN n).setCell ⟨g, o + 1, none⟩ (.string ⟨t.toArray⟩)).setCell ⟨R, 1, none⟩ (.int .i64 ((p : Int) + 1)) := by
  obtain ⟨c0, c1⟩ := q.cells
  have hb := HB.out
  rw [Bool.and_eq_true] at hb
  have hlt : p < L.length := (by
    by_cases h : p < L.length
    · exact h
    · have e : L.drop p = [] := List.drop_eq_nil_of_le (by omega)
      rw [e] at hb
      cases hb.2)
  have e1 : (T == [10]) = false := (by
    have := bne_iff_ne.1 hb.1
    exact beq_eq_false_iff_ne.2 this)
  have hm : L[p] = markT := (by
    have h := hb.2
    rw [pkM_at hPl hlt, beq_iff_eq] at h
    exact h)
  obtain ⟨bk, off, rfl, hbk, hcl⟩ := HS.at hL (by omega)
  have d4 := hcl p hlt
  rw [hm] at d4
  have e0 : ((p : Int) == (L.length : Int)) = false := beq_eq_false_iff_ne.2 (by omega)
  have f1 := q.frozen 1
  have HTS : Hid (Lib.trimSuffix T [10] = t) := (by
    show _ = _
    rw [HTt.out]
    unfold Lib.trimSuffix
    rw [suf_feed, if_pos (fd_snoc t)]
    simp)
  unfold markT at d4
  clear HB hL q hcl hm hPl hb
  have i1 : (0 : Int) ≤ (p : Int) := by omega
  have i2 : (p : Int) < (L.length : Int) := by omega
  have i3 : (p : Int).toNat = p := by omega
  go_enter Tryz.func208, Tryz.ntmps208
  go_wp2_with fail
  go_quiet (fail)
  go_wp2_with fail
  have c1' : (w.drewN nq).cell? ⟨R, 1, none⟩ = _ := c1
  have ct' : (w.drewN nq).cell? ⟨g, o + 1, none⟩ = _ := ct
  have cf' : (w.drewN nq).frozen? ⟨g, o + 1, none⟩ = false := cf
  have f1' : (w.drewN nq).frozen? ⟨R, 1, none⟩ = false := f1
  have HM : Hid (∃ k, w.drewN nq = w.drewN k) := ⟨_, rfl⟩
  clear c0 c1 d4 ct cf f1
  generalize w.drewN nq = W1 at c1' ct' cf' f1' HM ⊢
  refine (Tryz.strings_TrimSuffix ⟨T.toArray⟩ ⟨#[10]⟩ W1 (by show T.length ≤ _; omega)).mono ?_
  rintro e w2 ⟨rfl, rfl⟩
  have e2 : Lib.trimSuffix (⟨T.toArray⟩ : ByteArray).data.toList (⟨#[10]⟩ : ByteArray).data.toList = t := HTS.out
  rw [e2]
  clear e2
  have c1'' : (w2.setCell ⟨g, o + 1, none⟩ (.string ⟨t.toArray⟩)).cell? ⟨R, 1, none⟩ = some (.int .i64 (p : Int)) := (by
    have h := (grown_set w2 g (o + 1) (.string ⟨t.toArray⟩)).cell c1' (fun e => hgR (Option.some.inj e))
    exact h)
  have f1'' : (w2.setCell ⟨g, o + 1, none⟩ (.string ⟨t.toArray⟩)).frozen? ⟨R, 1, none⟩ = false := (by
    unfold World.frozen? at f1' ⊢
    dsimp only at f1' ⊢
    rw [Below.heap_setCell _ _ _ R hgR]
    exact f1')
  go_wp2
  first
    | go_end0
    | refine bodyPost_ret (results_none rfl _ _ _) rfl ?_
    | refine bodyPost_end (results_none rfl _ _ _) rfl ?_
  obtain ⟨k, hk⟩ := HM.out
  exact ⟨rfl, k, by rw [← hk]⟩
/-- the next line behind what must stand ahead -/
def barP (hd : List UInt8) (p : Nat) (ls : List (List UInt8)) : Except (Nat × Int) (List UInt8 × List (List UInt8)) :=
  match nxt p ls with
  | .error e => .error e
  | .ok (s, r) => if hd.isPrefixOf s = true then .ok (s.drop hd.length, r) else .error (p + 1, 3)
/-- what a bare line leaves behind -/
def BrQ (R : Nat) (X : Except (Nat × Int) (List UInt8 × List (List UInt8))) (w : World) (x : Ending) (w' : World) : Prop :=
  match X with
  | .error (a, e) => Thr (a : Int) e x w' ∧ w.grownBy w' (some R)
  | .ok (s, _) => x = .returned (.string ⟨s.toArray⟩) ∧ ∃ n, w' = w.drewN n
theorem trim_snoc (s : List UInt8) : Lib.trimSuffix (s ++ [10]) [10] = s := by
  unfold Lib.trimSuffix
  rw [suf_feed, if_pos (fd_snoc s)]
  simp
set_option maxHeartbeats 4000000 in
theorem cbare_f {R : Nat} {L : List (List UInt8)} {lo : Option Addr} {lc : Nat} {p : Nat} (hd : List UInt8) (w : World) (q : Ck w R (.slice lo L.length lc) p) (hL : HS w (.slice lo L.length lc) L) (hp : p ≤ L.length) (hLl : L.length ≤ 2199023255552) (hs : ∀ s ∈ L, s.length ≤ 1099511627776)
    (X : Except (Nat × Int) (List UInt8 × List (List UInt8))) (HX : Hid (barP hd p (L.drop p) = X)) :
    Calls Tryz.prog 147 #[.pointer (some ⟨R, 0, none⟩), .string ⟨hd.toArray⟩] w fun x w' => BrQ R X w x w' := by
  obtain ⟨Y, hY⟩ : ∃ Y, nxt p (L.drop p) = Y := ⟨_, rfl⟩
  have hl := crline_f w q hL hp hLl hs Y hY
  have hX := HX.out
  unfold barP at hX
  rw [hY] at hX
  clear HX
  cases Y with
  | error z =>
    obtain ⟨a, e⟩ := z
    dsimp only at hX
    subst hX
    go_enter Tryz.func147, Tryz.ntmps147
    go_wp2_with fail
    refine hl.mono ?_
    rintro x w1 ⟨⟨g, rfl, hg⟩, hgr⟩
    go_wp2
    exact ⟨rfl, ⟨_, rfl, hg⟩, hgr⟩
  | ok z =>
    obtain ⟨s, r⟩ := z
    obtain ⟨hr, hpl, _, hLp⟩ := nxt_rest hY
    have hsl := hs L[p] (List.getElem_mem hpl)
    rw [hLp, List.length_append] at hsl
    dsimp only at hX
    obtain ⟨T, hT⟩ : ∃ T, s ++ [10] = T := ⟨_, rfl⟩
    have hl2 : Calls Tryz.prog 203 #[.pointer (some ⟨R, 0, none⟩)] w fun x w' => x = .returned (.string ⟨T.toArray⟩) ∧ ∃ n, w' = w.drewN n := (by
      refine hl.mono ?_
      rintro x w' ⟨h1, h2⟩
      rw [hT] at h1
      exact ⟨h1, h2⟩)
    have hTl : T.length ≤ 2199023255552 := (by rw [← hT, List.length_append]; simp at hsl ⊢; omega)
    have htr : ∀ u, Calls Tryz.prog 137 #[.string ⟨T.toArray⟩, .string ⟨#[10]⟩] u fun e w' => e = .returned (.string ⟨s.toArray⟩) ∧ w' = u := (by
      intro u
      refine (Tryz.strings_TrimSuffix ⟨T.toArray⟩ ⟨#[10]⟩ u (by show T.length ≤ _; omega)).mono ?_
      rintro e w' ⟨rfl, rfl⟩
      have e2 : Lib.trimSuffix (⟨T.toArray⟩ : ByteArray).data.toList (⟨#[10]⟩ : ByteArray).data.toList = s := (by
        show Lib.trimSuffix T [10] = s
        rw [← hT]
        exact trim_snoc s)
      rw [e2]
      exact ⟨rfl, rfl⟩)
    have hcp := fun u => Tryz.strings_CutPrefix ⟨s.toArray⟩ ⟨hd.toArray⟩ u
    have hpf : Lib.hasPrefix (⟨s.toArray⟩ : ByteArray).data.toList (⟨hd.toArray⟩ : ByteArray).data.toList = hd.isPrefixOf s := rfl
    rw [hpf] at hcp
    by_cases hpre : hd.isPrefixOf s = true
    · rw [if_pos hpre] at hX
      subst hX
      have htp : Lib.trimPrefix (⟨s.toArray⟩ : ByteArray).data.toList (⟨hd.toArray⟩ : ByteArray).data.toList = s.drop hd.length := (by
        show Lib.trimPrefix s hd = _
        unfold Lib.trimPrefix Lib.hasPrefix
        rw [if_pos hpre])
      rw [htp, hpre] at hcp
      obtain ⟨D, hD⟩ : ∃ D, s.drop hd.length = D := ⟨_, rfl⟩
      rw [hD] at hcp
      have HD : Hid (s.drop hd.length = D) := hD
      clear hpf htp hpre hl hY hLp hsl hr hT hD
      go_enter Tryz.func147, Tryz.ntmps147
      go_wp2_with fail
      refine hl2.mono ?_
      rintro x w1 ⟨rfl, nn, rfl⟩
      go_wp2_with fail
      refine (htr _).mono ?_
      rintro x w2 ⟨rfl, rfl⟩
      go_wp2_with fail
      refine (hcp _).mono ?_
      rintro x w3 ⟨rfl, rfl⟩
      go_wp2
      go_ret
      exact ⟨by rw [HD.out]; rfl, nn, rfl⟩
    · rw [if_neg hpre] at hX
      subst hX
      rw [Bool.eq_false_iff.2 hpre] at hcp
      generalize Lib.trimPrefix (⟨s.toArray⟩ : ByteArray).data.toList (⟨hd.toArray⟩ : ByteArray).data.toList = U2 at hcp
      have q2 := fun nn => q.dN nn
      clear hpf hpre hl hY hLp hsl hr hT
      go_enter Tryz.func147, Tryz.ntmps147
      go_wp2_with fail
      refine hl2.mono ?_
      rintro x w1 ⟨rfl, nn, rfl⟩
      go_wp2_with fail
      refine (htr _).mono ?_
      rintro x w2 ⟨rfl, rfl⟩
      go_wp2_with fail
      refine (hcp _).mono ?_
      rintro x w3 ⟨rfl, rfl⟩
      go_wp2_with fail
      refine (crefuse_f 3 _ (q2 nn) (by omega)).mono ?_
      rintro e w3 ⟨⟨g, rfl, hg⟩, hgr⟩
      go_wp2
      exact ⟨rfl, ⟨_, rfl, by simpa using hg⟩, grown_two (grown_drewN (low_grown (Below.refl w.heap.size w) (some R)) nn) hgr⟩
end Go.Proofs.YtgiojkhmkeocfaaGreatDoor

/- The code's names, numbers, stars and signs of a side (layer 15), walked. -/
set_option maxRecDepth 20000
namespace Go.Proofs.YtgiojkhmkeocfaaGreatDoor
open Go.RowKit Go.Proofs.YtgiojkhmkeocfaaGreatDoor.Tx
attribute [local go_sem] ByteArray.extract_mk no_at

theorem body_len (n : Nat) : ∀ (t a b : List UInt8), t.length ≤ n → Q.body t = some (a, b) → a.length ≤ t.length := by
  induction n with
  | zero =>
    intro t a b h hb
    have : t = [] := List.eq_nil_of_length_eq_zero (by omega)
    subst this
    cases hb
  | succ n ih =>
    intro t a b h hb
    cases t with
    | nil => cases hb
    | cons c t =>
      simp only [List.length_cons] at h ⊢
      rw [Q.body.eq_def] at hb
      simp only at hb
      split at hb
      · cases hb; simp
      · split at hb
        · obtain ⟨p, hp, he⟩ := Option.map_eq_some_iff.1 hb
          cases he
          have := ih t p.1 p.2 (by omega) hp
          simp only [List.length_cons]
          omega
        · split at hb
          · split at hb
            · rename_i x y t'
              simp only [List.length_cons] at h ⊢
              split at hb
              · obtain ⟨p, hp, he⟩ := Option.map_eq_some_iff.1 hb
                cases he
                have := ih t' p.1 p.2 (by omega) hp
                simp only [List.length_cons]
                omega
              · cases hb
            · cases hb
          · cases hb
theorem uqa_len (s : List UInt8) : (Q.uqa s).length ≤ s.length := by
  cases hu : Q.unquote s with
  | none => rw [(Q.uq_none hu).1]; simp
  | some p =>
    obtain ⟨a, b⟩ := p
    rw [(Q.uq_some hu).1]
    cases s with
    | nil => cases hu
    | cons c t =>
      simp only [Q.unquote] at hu
      split at hu
      · have := body_len t.length t a b (Nat.le_refl _) hu
        simp only [List.length_cons]
        omega
      · cases hu
theorem head_pre (s : List UInt8) : Lib.hasPrefix s [34] = (s.head? == some 34) := by
  cases s with
  | nil => rfl
  | cons c t =>
    show ((34 == c) && true) = (some c == some 34)
    rw [Bool.and_true, Bool.eq_iff_iff, beq_iff_eq, beq_iff_eq, Option.some.injEq]
    exact ⟨fun h => h.symm, fun h => h.symm⟩
/-- the name that a text stands for, or why it stands for none -/
def pnV (r : Bool) (n : List UInt8) : Value := if r = true then .tuple #[.string ⟨n.toArray⟩, .int .i64 0] else .tuple #[.string ⟨#[]⟩, .int .i64 253]
set_option maxHeartbeats 4000000 in
set_option maxRecDepth 40000 in
theorem cnamed_f (s : List UInt8) (w : World) (hl : s.length ≤ 1099511627776) (n : List UInt8) (r : Bool) (HN : Hid (unC s = n)) (HR : Hid (nokC s = r)) :
    Calls Tryz.prog 146 #[.string ⟨s.toArray⟩] w fun e w' => e = .returned (pnV r n) ∧ Below w.heap.size w w' := by
  have hnl : n.length ≤ 1099511627776 := (by
    rw [← HN.out]
    unfold unC
    split
    · simp
    · split
      · have := uqa_len s
        omega
      · exact hl)
  obtain ⟨T, hT⟩ : ∃ T, nameT n = T := ⟨_, rfl⟩
  have hnm := fun u => cname_f n u hnl T hT
  have HF : Hid ((decide (n.length ≤ 64) && (T == s)) = r) := (by
    have h := HR.out
    unfold nokC at h
    rw [HN.out, hT] at h
    exact h)
  have hhp : ∀ (b : Bool), (s.head? == some 34) = b → ∀ u, Calls Tryz.prog 149 #[.string ⟨s.toArray⟩, .string ⟨#[34]⟩] u fun e w' => e = .returned (.bool b) ∧ w' = u := (by
    intro b hb u
    refine (Tryz.strings_HasPrefix ⟨s.toArray⟩ ⟨#[34]⟩ u).mono ?_
    rintro e w' ⟨rfl, rfl⟩
    have e1 : Lib.hasPrefix (⟨s.toArray⟩ : ByteArray).data.toList (⟨#[34]⟩ : ByteArray).data.toList = b := (head_pre s).trans hb
    rw [e1]
    exact ⟨rfl, rfl⟩)
  have huq := fun u => Unquote_any s u hl
  clear hT HR
  go_enter Tryz.func146, Tryz.ntmps146
  go_upto_block 0 with fail
  go_cut [4] (fun nv wz => nv = .string ⟨n.toArray⟩ ∧ Below w.heap.size w wz)
  case first =>
    by_cases h1 : s = devN
    · have e1 : (s == [47, 100, 101, 118, 47, 110, 117, 108, 108]) = true := (by rw [beq_iff_eq]; exact h1)
      have HE : Hid ([] = n) := (by have h := HN.out; unfold unC at h; rw [if_pos h1] at h; exact h)
      clear h1
      go_wp2
      go_meet
      case rel => exact ⟨by rw [← HE.out], Below.refl _ _⟩
    · have e1 : (s == [47, 100, 101, 118, 47, 110, 117, 108, 108]) = false := beq_eq_false_iff_ne.2 h1
      by_cases h2 : s.head? = some 34
      · have HE : Hid (Q.uqa s = n) := (by have h := HN.out; unfold unC at h; rw [if_neg h1, if_pos h2] at h; exact h)
        have hc := hhp true (beq_iff_eq.2 h2)
        clear h1 h2
        go_wp2_with fail
        refine (hc _).mono ?_
        rintro e w1 ⟨rfl, rfl⟩
        go_wp2_with fail
        refine (huq _).mono ?_
        rintro e w2 ⟨rfl, hB2⟩
        go_wp2
        go_meet
        case rel => exact ⟨by rw [← HE.out], hB2⟩
      · have HE : Hid (s = n) := (by have h := HN.out; unfold unC at h; rw [if_neg h1, if_neg h2] at h; exact h)
        have hc := hhp false (beq_eq_false_iff_ne.2 h2)
        clear h1 h2
        go_wp2_with fail
        refine (hc _).mono ?_
        rintro e w1 ⟨rfl, rfl⟩
        go_wp2
        go_meet
        case rel => exact ⟨by rw [← HE.out], Below.refl _ _⟩
  case rest =>
  obtain ⟨rfl, hBc⟩ := hcut
  by_cases h3 : n.length ≤ 64
  · have i1 : ¬ (64 : Int) < (n.length : Int) := by omega
    cases h4 : T == s with
    | true =>
      have HE : Hid (true = r) := (by have h := HF.out; rw [decide_eq_true h3, Bool.true_and, h4] at h; exact h)
      have h5 : (T != s) = false := (by unfold bne; rw [h4]; rfl)
      clear HF
      go_wp2_with fail
      refine (hnm _).mono ?_
      rintro e w2 ⟨rfl, hB2⟩
      go_wp2
      go_ret2
      exact ⟨by rw [← HE.out]; rfl, hBc.trans (hB2.mono hBc.size)⟩
    | false =>
      have HE : Hid (false = r) := (by have h := HF.out; rw [decide_eq_true h3, Bool.true_and, h4] at h; exact h)
      have h5 : (T != s) = true := (by unfold bne; rw [h4]; rfl)
      clear HF
      go_wp2_with fail
      refine (hnm _).mono ?_
      rintro e w2 ⟨rfl, hB2⟩
      go_wp2
      go_ret2
      exact ⟨by rw [← HE.out]; rfl, hBc.trans (hB2.mono hBc.size)⟩
  · have HE : Hid (false = r) := (by have h := HF.out; rw [decide_eq_false h3, Bool.false_and] at h; exact h)
    have i1 : (64 : Int) < (n.length : Int) := by omega
    clear HF
    go_wp2
    go_ret2
    exact ⟨by rw [← HE.out]; rfl, hBc⟩
/-- what a name leaves behind -/
def NmX (R : Nat) (X : Except (Nat × Int) (List UInt8 × List (List UInt8))) (w : World) (x : Ending) (w' : World) : Prop :=
  match X with
  | .error (a, e) => Thr (a : Int) e x w' ∧ w.grownBy w' (some R)
  | .ok (s, _) => x = .returned (.string ⟨s.toArray⟩) ∧ Below w.heap.size w w'
theorem nam_bar {hd : List UInt8} (h4 : hd.length = 4) (p : Nat) (ls : List (List UInt8)) : namP hd p ls = match barP hd p ls with
    | .error e => .error e
    | .ok (s, r) => if nokC s = true then .ok (unC s, r) else .error (p + 1, 253) := by
  unfold namP barP
  cases nxt p ls with
  | error e => rfl
  | ok z =>
    obtain ⟨s, r⟩ := z
    dsimp only
    split
    · rw [h4, named_code]
      split
      · rename_i hq
        dsimp only
        split at hq
        · cases hq
        · rename_i h2
          rw [if_neg h2]
      · rename_i nn hq
        dsimp only
        split at hq
        · rename_i h2
          cases hq
          rw [if_pos h2]
        · cases hq
    · rfl
set_option maxHeartbeats 4000000 in
theorem cnm_f {R : Nat} {L : List (List UInt8)} {lo : Option Addr} {lc : Nat} {p : Nat} (hd : List UInt8) (h4 : hd.length = 4) (w : World) (q : Ck w R (.slice lo L.length lc) p) (hL : HS w (.slice lo L.length lc) L) (hp : p ≤ L.length) (hLl : L.length ≤ 2199023255552) (hs : ∀ s ∈ L, s.length ≤ 1099511627776)
    (X : Except (Nat × Int) (List UInt8 × List (List UInt8))) (HX : Hid (namP hd p (L.drop p) = X)) :
    Calls Tryz.prog 93 #[.pointer (some ⟨R, 0, none⟩), .string ⟨hd.toArray⟩] w fun x w' => NmX R X w x w' := by
  obtain ⟨Y, hY⟩ : ∃ Y, barP hd p (L.drop p) = Y := ⟨_, rfl⟩
  have hl := cbare_f hd w q hL hp hLl hs Y hY
  have hX := HX.out
  rw [nam_bar h4, hY] at hX
  clear HX
  cases Y with
  | error z =>
    obtain ⟨a, e⟩ := z
    dsimp only at hX
    subst hX
    go_enter Tryz.func93, Tryz.ntmps93
    go_wp2_with fail
    refine hl.mono ?_
    rintro x w1 ⟨⟨g, rfl, hg⟩, hgr⟩
    go_wp2
    exact ⟨rfl, ⟨_, rfl, hg⟩, hgr⟩
  | ok z =>
    obtain ⟨s, r⟩ := z
    dsimp only at hX
    have hsl : s.length ≤ 1099511627776 := (by
      unfold barP at hY
      cases hn : nxt p (L.drop p) with
      | error e => rw [hn] at hY; cases hY
      | ok z =>
        obtain ⟨s2, r2⟩ := z
        rw [hn] at hY
        dsimp only at hY
        obtain ⟨_, hpl, _, hLp⟩ := nxt_rest hn
        have hsl := hs L[p] (List.getElem_mem hpl)
        rw [hLp, List.length_append] at hsl
        split at hY
        · cases hY
          rw [List.length_drop]
          omega
        · cases hY)
    obtain ⟨n, hn⟩ : ∃ n, unC s = n := ⟨_, rfl⟩
    obtain ⟨b, hb⟩ : ∃ b, nokC s = b := ⟨_, rfl⟩
    have hf := fun u => cnamed_f s u hsl n b hn hb
    rw [hn, hb] at hX
    have hl2 : Calls Tryz.prog 147 #[.pointer (some ⟨R, 0, none⟩), .string ⟨hd.toArray⟩] w fun x w' => x = .returned (.string ⟨s.toArray⟩) ∧ ∃ n, w' = w.drewN n := hl
    clear hY hl hn hb
    cases b with
    | true =>
      rw [if_pos rfl] at hX
      subst hX
      have hf2 : ∀ u, Calls Tryz.prog 146 #[.string ⟨s.toArray⟩] u fun e w' => e = .returned (.tuple #[.string ⟨n.toArray⟩, .int .i64 0]) ∧ Below u.heap.size u w' := hf
      clear hf
      go_enter Tryz.func93, Tryz.ntmps93
      go_wp2_with fail
      refine hl2.mono ?_
      rintro x w1 ⟨rfl, nn, rfl⟩
      go_wp2_with fail
      refine (hf2 _).mono ?_
      rintro x w2 ⟨rfl, hB2⟩
      go_wp2
      go_ret
      exact ⟨rfl, (Below.dN (Below.refl _ w) nn).trans hB2⟩
    | false =>
      rw [if_neg (by decide)] at hX
      subst hX
      have hf2 : ∀ u, Calls Tryz.prog 146 #[.string ⟨s.toArray⟩] u fun e w' => e = .returned (.tuple #[.string ⟨#[]⟩, .int .i64 253]) ∧ Below u.heap.size u w' := hf
      clear hf
      have q2 := fun nn => q.dN nn
      go_enter Tryz.func93, Tryz.ntmps93
      go_wp2_with fail
      refine hl2.mono ?_
      rintro x w1 ⟨rfl, nn, rfl⟩
      go_wp2_with fail
      refine (hf2 _).mono ?_
      rintro x w2 ⟨rfl, hB2⟩
      have q3 := (q2 nn).low hB2
      go_wp2_with fail
      refine (crefuse_f 253 _ q3 (by omega)).mono ?_
      rintro e w3 ⟨⟨g, rfl, hg⟩, hgr⟩
      go_wp2
      exact ⟨rfl, ⟨_, rfl, by simpa using hg⟩, grown_two (low_grown ((Below.dN (Below.refl _ w) nn).trans hB2) _) hgr⟩
end Go.Proofs.YtgiojkhmkeocfaaGreatDoor
