/-
  A table of layer intern in memory: what is ignored, and a map from forms to numbers; its calls New, Class, Look, Size, walked.
-/
import Derived.Test.YtkaadahcefdiiaaDoorCnEqual
import Derived.Test.YtkaadahcefdiiaaDoorItMath
import Derived.Carry
namespace Go.Proofs.YtkaadahcefdiiaaDoor
open Cn It Go.RowKit Go.Maps
attribute [local go_sem] ba_at ByteArray.extract_mk ba_cat

/-- all but some blocks is as it was, and there may be new ones -/
structure But (S : Nat → Prop) (w w' : World) : Prop where
  os : w'.os = w.os
  tape : w'.tape = w.tape
  output : w'.output = w.output
  size : w.heap.size ≤ w'.heap.size
  block : ∀ k, k < w.heap.size → ¬ S k → w'.heap[k]? = w.heap[k]?
theorem But.of_below {S : Nat → Prop} {w w' : World} (h : Below w.heap.size w w') : But S w w' := ⟨h.os, h.tape, h.output, h.size, fun k hk _ => h.block k hk⟩
theorem But.of_grown {S : Nat → Prop} {w w' : World} {row : Option Nat} (h : w.grownBy w' row) (hS : ∀ k, row = some k → S k) : But S w w' := ⟨h.os, h.tape, h.output, h.size, fun k hk hn => h.block k hk (fun e => hn (hS k e.symm))⟩
theorem But.trans {S T : Nat → Prop} {a b c : World} (h : But S a b) (k : But T b c) (hS : ∀ j, j < a.heap.size → T j → S j) : But S a c :=
  ⟨k.os.trans h.os, k.tape.trans h.tape, k.output.trans h.output, Nat.le_trans h.size k.size, fun j hj hn => (k.block j (Nat.lt_of_lt_of_le hj h.size) (fun e => hn (hS j hj e))).trans (h.block j hj hn)⟩
theorem But.below {S : Nat → Prop} {N : Nat} {W w w' : World} (h : But S w w') (hb : Below N W w) (hN : N ≤ w.heap.size) (hS : ∀ k, S k → N ≤ k) : Below N W w' :=
  ⟨h.os.trans hb.os, h.tape.trans hb.tape, h.output.trans hb.output, Nat.le_trans hb.size h.size, fun k hk => (h.block k (Nat.lt_of_lt_of_le hk hN) (fun e => absurd (hS k e) (by omega))).trans (hb.block k hk)⟩

theorem strKeyed : Keyed Tryd.prog 9 := string_keyed Tryd.underlying9
theorem zeroI (w : World) : (zeroValue 3).run Tryd.prog w = .ok (.int .i64 0) w := by kernel_rfl

/-- a table: its own block, its map's block, the forms met -/
structure Tbl (o : Ig) (fs : List (List UInt8)) (t B : Nat) (w : World) : Prop where
  box : w.heap[t]? = some (.cells #[.bool o.sp, .bool o.wt, .bool o.bl, .bool o.cs, .bool o.tb, .bool o.tr, .map (some B)] 47 (0, 0))
  map : ∃ D : DataW Unit, w.ownsMap Tryd.prog 9 (plainElem Tryd.prog 3) B fs.length D ∧ Tells D fs

section
variable {o : Ig} {fs : List (List UInt8)} {t B : Nat} {w w' : World}
theorem Tbl.lt (h : Tbl o fs t B w) : t < w.heap.size := (Array.getElem?_eq_some_iff.1 h.box).1
theorem Tbl.ltB (h : Tbl o fs t B w) : B < w.heap.size := by obtain ⟨D, hm, _⟩ := h.map; exact hm.lt
theorem Tbl.ne (h : Tbl o fs t B w) : t ≠ B := by
  intro e
  obtain ⟨D, ⟨es, clock, hb, _⟩, _⟩ := h.map
  have hx := h.box
  rw [e, hb] at hx
  cases hx
theorem Tbl.keep {S : Nat → Prop} (h : Tbl o fs t B w) (hb : But S w w') (ht : ¬ S t) (hB : ¬ S B) : Tbl o fs t B w' := by
  refine ⟨(hb.block t h.lt ht).trans h.box, ?_⟩
  have hlt := h.ltB
  obtain ⟨D, ⟨es, clock, hm, r⟩, hd⟩ := h.map
  exact ⟨D, ⟨es, clock, (hb.block B hlt hB).trans hm, r⟩, hd⟩
theorem Tbl.cells (h : Tbl o fs t B w) : w.cell? ⟨t, 0, none⟩ = some (.bool o.sp) ∧ w.cell? ⟨t, 1, none⟩ = some (.bool o.wt) ∧ w.cell? ⟨t, 2, none⟩ = some (.bool o.bl) ∧ w.cell? ⟨t, 3, none⟩ = some (.bool o.cs) ∧ w.cell? ⟨t, 4, none⟩ = some (.bool o.tb) ∧ w.cell? ⟨t, 5, none⟩ = some (.bool o.tr) ∧ w.cell? ⟨t, 6, none⟩ = some (.map (some B)) := by
  refine ⟨?_, ?_, ?_, ?_, ?_, ?_, ?_⟩ <;> rw [Lib.cell_of_heap h.box] <;> rfl

theorem key_str {f : List UInt8} (hf : f.length ≤ 2199023255552) : keyOf Tryd.prog 9 (.string ⟨f.toArray⟩) = some (.string f) :=
  WideMaps.keyOf_string_mk Tryd.underlying9 (s := ⟨f.toArray⟩) (by show f.toArray.size ≤ maxLen; unfold maxLen; simp; omega)

/-- the number that a look-up answers -/
def lookN (fs : List (List UInt8)) (f : List UInt8) : Nat := if fs.contains f then num fs f else 0
/-- whether it finds one -/
def lookB (fs : List (List UInt8)) (f : List UInt8) : Bool := fs.contains f
theorem lookN_old {f : List UInt8} (h : f ∈ fs) : lookN fs f = num fs f := by rw [lookN, if_pos (List.contains_iff_mem.2 h)]
theorem lookN_new {f : List UInt8} (h : f ∉ fs) : lookN fs f = 0 := by rw [lookN, if_neg (fun e => h (List.contains_iff_mem.1 e))]

theorem Tbl.look (h : Tbl o fs t B w) {f : List UInt8} (hf : f.length ≤ 2199023255552) :
    (Instr.lookup 45 (.map (some B)) (.string ⟨f.toArray⟩) true).run Tryd.prog w = .ok (.tuple #[.int .i64 (lookN fs f), .bool (lookB fs f)]) w := by
  obtain ⟨D, hm, hd⟩ := h.map
  obtain ⟨v, ps, hr, hv⟩ := hm.look_ok strKeyed Tryd.underlying45 (zeroI w) (plainElem_int Tryd.underlying3 (by decide)) (key_str hf)
  obtain ⟨c, rfl, hc, _⟩ := plainElem_int_inv Tryd.underlying3 hv
  have e := hd.look (congrArg Prod.fst hc)
  rw [hr, hd.has, e]
  unfold lookN lookB
  split <;> rfl
theorem Tbl.len (h : Tbl o fs t B w) (ty : TypeId) : (Builtin.len_ #[45] ty #[.map (some B)]).run Tryd.prog w = .ok (.int .i64 fs.length) w := by
  obtain ⟨D, hm, hd⟩ := h.map
  rw [hm.len Tryd.underlying45 ty, hd.size]
theorem Tbl.store (h : Tbl o fs t B w) {f : List UInt8} (hf : f.length ≤ 2199023255552) (hn : f ∉ fs) (hl : fs.length ≤ 1099511627776) :
    ∃ w', (Instr.mapUpdate 45 (.map (some B)) (.string ⟨f.toArray⟩) (.int .i64 fs.length)).run Tryd.prog w = .ok () w' ∧ Tbl o (fs ++ [f]) t B w' ∧ But (fun k => k = B) w w' := by
  obtain ⟨D, hm, hd⟩ := h.map
  obtain ⟨w', hr, ho, ht⟩ := hm.store (val := .int .i64 fs.length) strKeyed Tryd.underlying45 (by unfold maxLen; omega) (key_str hf) (plainElem_int Tryd.underlying3 (WalkArith.wf_i64 (by omega)))
  have hb : But (fun k => k = B) w w' := But.of_grown ht.grown (fun k e => by cases e; rfl)
  exact ⟨w', hr, ⟨(hb.block t h.lt h.ne).trans h.box, D.put (.string f) (.lit (.int .i64 fs.length)), by simpa using ho, hd.put hn⟩, hb⟩
end

theorem Tbl.made (o : Ig) (w1 : World) (m : Nat) (hm : w1.heap.size = m) : Tbl o [] (m + 1) m ((w1.alloc (.map #[] 0)).alloc (.cells #[.bool o.sp, .bool o.wt, .bool o.bl, .bool o.cs, .bool o.tb, .bool o.tr, .map (some m)] 47)) := by
  subst hm
  refine ⟨?_, .map [], (World.ownsMap_made w1 _ _ _).alloc _, Tells.nil⟩
  have h := _root_.Go.heap_alloc_new (w1.alloc (.map #[] 0)) (.cells #[.bool o.sp, .bool o.wt, .bool o.bl, .bool o.cs, .bool o.tb, .bool o.tr, .map (some w1.heap.size)] 47)
  have e : (w1.alloc (.map #[] 0)).heap.size = w1.heap.size + 1 := by simp
  rw [e] at h
  exact h

theorem New_any (o : Ig) (w : World) :
    Calls Tryd.prog 11 #[igV o] w fun e w' => ∃ t B, e = .returned (.pointer (some ⟨t, 0, none⟩)) ∧ Tbl o [] t B w' ∧ w.heap.size ≤ t ∧ w.heap.size ≤ B ∧ Below w.heap.size w w' := by
  have hmm := @run_makeMap Tryd.prog
  unfold igV
  go_enter Tryd.func11, Tryd.ntmps11
  go_wp2
  go_ret
  refine ⟨w.heap.size + 1 + 1, w.heap.size + 1, rfl, Tbl.made o _ _ (by simp), by omega, by omega, ?_⟩
  exact ((((Below.refl _ w).alloc (Nat.le_refl _) _).alloc (by simp) _).alloc (by simp; omega) _)

theorem Size_any (o : Ig) (fs : List (List UInt8)) (t B : Nat) (w : World) (hT : Tbl o fs t B w) :
    Calls Tryd.prog 12 #[.pointer (some ⟨t, 0, none⟩)] w fun e w' => e = .returned (.int .i64 fs.length) ∧ w = w' := by
  obtain ⟨d0, d1, d2, d3, d4, d5, d6⟩ := hT.cells
  have hlen := hT.len
  go_enter Tryd.func12, Tryd.ntmps12
  go_wp2
  go_ret
  exact ⟨rfl, rfl⟩

/-- a table, and all ahead of a call as it was -/
structure Held (o : Ig) (fs : List (List UInt8)) (t B : Nat) (W w : World) : Prop where
  tbl : Tbl o fs t B w
  low : Below W.heap.size W w
theorem held_drew (o : Ig) (fs : List (List UInt8)) (t B : Nat) (W w : World) : Held o fs t B W w.drew ↔ Held o fs t B W w :=
  ⟨fun h => ⟨⟨h.tbl.box, h.tbl.map⟩, (h.low.trans ⟨rfl, rfl, rfl, Nat.le_refl _, fun _ _ => rfl⟩ : Below W.heap.size W w)⟩, fun h => ⟨⟨h.tbl.box, h.tbl.map⟩, h.low.drew⟩⟩
attribute [local simp] held_drew

theorem canonHeld (l f : List UInt8) (o : Ig) (fs : List (List UInt8)) (t B : Nat) (W w : World) (hl : l.length ≤ 137438953472) (hfl : Hid (canonL o l = f)) (hf : f.length ≤ 2199023255552) (hH : Held o fs t B W w) :
    Calls Tryd.prog 20 #[.string ⟨l.toArray⟩, igV o] w fun e w' => e = .returned (.string ⟨f.toArray⟩) ∧
      (∀ u : World, u.heap = w'.heap → (Instr.lookup 45 (.map (some B)) (.string ⟨f.toArray⟩) true).run Tryd.prog u = .ok (.tuple #[.int .i64 (lookN fs f), .bool (lookB fs f)]) u) ∧ Held o fs t B W w' := by
  refine (Canon_any l o w hl).mono ?_
  rintro e w1 ⟨rfl, hb1⟩
  have hT1 := hH.tbl.keep (S := fun _ => False) (.of_below hb1) (fun h => h) (fun h => h)
  refine ⟨by rw [hfl.out], fun u hu => ?_, hT1, hH.low.trans (hb1.mono hH.low.size)⟩
  exact Tbl.look (w := u) ⟨by rw [hu]; exact hT1.box, by obtain ⟨D, ⟨es, c, h1, h2⟩, hd⟩ := hT1.map; exact ⟨D, ⟨es, c, by rw [hu]; exact h1, h2⟩, hd⟩⟩ hf

set_option maxHeartbeats 1000000 in
theorem Look_f (l f : List UInt8) (o : Ig) (fs : List (List UInt8)) (t B : Nat) (w : World) (hl : l.length ≤ 137438953472) (hfl : Hid (canonL o l = f)) (hf : f.length ≤ 2199023255552) (hT : Tbl o fs t B w) :
    Calls Tryd.prog 13 #[.pointer (some ⟨t, 0, none⟩), .string ⟨l.toArray⟩] w fun e w' => e = .returned (.tuple #[.int .i64 (lookN fs f), .bool (lookB fs f)]) ∧ Below w.heap.size w w' := by
  obtain ⟨d0, d1, d2, d3, d4, d5, d6⟩ := hT.cells
  have hH : Held o fs t B w w := ⟨hT, Below.refl _ w⟩
  go_enter Tryd.func13, Tryd.ntmps13
  go_wp2_with fail
  go_region_held3 (fun w' => w'.cell? ⟨t, 0, none⟩ = some (.bool o.sp) ∧ w'.cell? ⟨t, 1, none⟩ = some (.bool o.wt) ∧ w'.cell? ⟨t, 2, none⟩ = some (.bool o.bl) ∧ w'.cell? ⟨t, 3, none⟩ = some (.bool o.cs) ∧ w'.cell? ⟨t, 4, none⟩ = some (.bool o.tb) ∧ w'.cell? ⟨t, 5, none⟩ = some (.bool o.tr) ∧ w'.cell? ⟨t, 6, none⟩ = some (.map (some B)) ∧ Held o fs t B w w') (go_keep)
    (first | (go_at_call 20; refine (canonHeld l f o fs t B w _ hl hfl hf (by first | assumption | (rw [held_drew]; assumption))).mono ?_; rintro e w' ⟨rfl, hlk, hbS⟩; obtain ⟨e0, e1, e2, e3, e4, e5, e6⟩ := hbS.tbl.cells))
  go_wp2
  go_ret2
  exact ⟨rfl, hbS.low⟩

set_option maxHeartbeats 1000000 in
theorem Class_old (l f : List UInt8) (o : Ig) (fs : List (List UInt8)) (t B : Nat) (w : World) (hl : l.length ≤ 137438953472) (hfl : Hid (canonL o l = f)) (hf : f.length ≤ 2199023255552) (hT : Tbl o fs t B w) (hm : f ∈ fs) :
    Calls Tryd.prog 15 #[.pointer (some ⟨t, 0, none⟩), .string ⟨l.toArray⟩] w fun e w' => e = .returned (.int .i64 (num fs f)) ∧ Tbl o fs t B w' ∧ But (fun k => k = B) w w' := by
  obtain ⟨d0, d1, d2, d3, d4, d5, d6⟩ := hT.cells
  have HM : Hid (f ∈ fs) := hm
  clear hm
  go_enter Tryd.func15, Tryd.ntmps15
  go_wp2_with fail
  refine (Canon_any l o _ hl).mono ?_
  rintro e w1 ⟨rfl, hb1⟩
  rw [hfl.out]
  clear d0 d1 d2 d3 d4 d5 d6
  have hT1 := hT.keep (S := fun _ => False) (.of_below hb1) (fun h => h) (fun h => h)
  obtain ⟨d0, d1, d2, d3, d4, d5, d6⟩ := hT1.cells
  have hlk := hT1.look hf
  rw [show lookB fs f = true from List.contains_iff_mem.2 HM.out, lookN_old HM.out] at hlk
  go_wp2
  go_ret
  exact ⟨rfl, hT1, .of_below hb1⟩

set_option maxHeartbeats 1000000 in
theorem Class_new (l f : List UInt8) (o : Ig) (fs : List (List UInt8)) (t B : Nat) (w : World) (hl : l.length ≤ 137438953472) (hfl : Hid (canonL o l = f)) (hf : f.length ≤ 2199023255552) (hfs : fs.length ≤ 1099511627776) (hT : Tbl o fs t B w) (hm : f ∉ fs) :
    Calls Tryd.prog 15 #[.pointer (some ⟨t, 0, none⟩), .string ⟨l.toArray⟩] w fun e w' => e = .returned (.int .i64 fs.length) ∧ Tbl o (fs ++ [f]) t B w' ∧ But (fun k => k = B) w w' := by
  obtain ⟨d0, d1, d2, d3, d4, d5, d6⟩ := hT.cells
  have HM : Hid (f ∉ fs) := hm
  clear hm
  go_enter Tryd.func15, Tryd.ntmps15
  go_wp2_with fail
  refine (Canon_any l o _ hl).mono ?_
  rintro e w1 ⟨rfl, hb1⟩
  rw [hfl.out]
  clear d0 d1 d2 d3 d4 d5 d6
  have hT1 := hT.keep (S := fun _ => False) (.of_below hb1) (fun h => h) (fun h => h)
  obtain ⟨d0, d1, d2, d3, d4, d5, d6⟩ := hT1.cells
  have hlk := hT1.look hf
  rw [show lookB fs f = false from Bool.eq_false_iff.2 (fun e => HM.out (List.contains_iff_mem.1 e)), lookN_new HM.out] at hlk
  obtain ⟨w2, hst, hT2, hB2⟩ := hT1.store hf HM.out hfs
  have hlen := hT1.len
  go_wp2
  go_ret
  exact ⟨rfl, hT2, (But.of_below hb1).trans hB2 (fun _ _ h => h)⟩

theorem Class_any (l : List UInt8) (o : Ig) (fs : List (List UInt8)) (t B : Nat) (w : World) (hl : l.length ≤ 137438953472) (hfs : fs.length ≤ 1099511627776) (hT : Tbl o fs t B w) :
    Calls Tryd.prog 15 #[.pointer (some ⟨t, 0, none⟩), .string ⟨l.toArray⟩] w fun e w' => e = .returned (.int .i64 (num fs (canonL o l))) ∧ Tbl o (add fs (canonL o l)) t B w' ∧ But (fun k => k = B) w w' := by
  have hcl := canon_len o l
  by_cases hm : canonL o l ∈ fs
  · rw [add_old hm]
    exact Class_old l _ o fs t B w hl (show _ = _ from rfl) (by omega) hT hm
  · rw [add_new hm, num_new hm]
    exact Class_new l _ o fs t B w hl (show _ = _ from rfl) (by omega) hfs hT hm
theorem Look_any (l : List UInt8) (o : Ig) (fs : List (List UInt8)) (t B : Nat) (w : World) (hl : l.length ≤ 137438953472) (hT : Tbl o fs t B w) :
    Calls Tryd.prog 13 #[.pointer (some ⟨t, 0, none⟩), .string ⟨l.toArray⟩] w fun e w' => e = .returned (.tuple #[.int .i64 (lookN fs (canonL o l)), .bool (lookB fs (canonL o l))]) ∧ Below w.heap.size w w' := by
  have hcl := canon_len o l
  exact Look_f l _ o fs t B w hl (show _ = _ from rfl) (by omega) hT
end Go.Proofs.YtkaadahcefdiiaaDoor
