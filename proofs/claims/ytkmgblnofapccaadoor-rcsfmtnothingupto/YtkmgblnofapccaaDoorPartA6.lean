/-
  Texts that belong together, joined: NoWs, NcW, NcL, EfJo, RcCp, NoPs, NpN, RcCf, RcC2, NoRd, NoPk, NoMk, NpE.
-/
import Derived.Test.YtkmgblnofapccaaDoorPartA4
import Derived.Shelf.Strings.BuilderK
import Derived.Test.YtkmgblnofapccaaDoorProg
import Derived.Test.YtkmgblnofapccaaDoorPartA5
import Derived.Test.YtkmgblnofapccaaDoorPartA3
import Derived.Lib.AppendIntMem
import Derived.Lib.FrozenHead2
import Derived.Lib.AppendStr
import Derived.Test.YtkmgblnofapccaaDoorPartA2
import Derived.Lib.OthersKept
import Derived.Laws.RangeAny
import Derived.Deep.CutBlock
import Derived.Laws.EntriesVeiled
import Derived.BigRegion
import Derived.Deep.DeepCutAuto
import Derived.Deep.RegionHeld3
import Derived.WalkLawsBesides

/- The library's contracts on a strings.Builder's WriteString and on strings.HasSuffix, TrimSuffix and CutPrefix at this program: the program bears the bodies that they speak of. -/
namespace Go.Proofs
open Go.Shelf Go.RowKit
def Tryd.lays166_ren : Go.Shelf.Ren := ⟨fun | 166 => 17 | 240 => 35 | 276 => 50 | n => n, fun | 0 => 0 | 3 => 3 | 4 => 4 | 5 => 5 | 9 => 9 | 20 => 20 | 37 => 48 | 70 => 47 | 72 => 50 | 75 => 30 | 80 => 54 | 164 => 91 | n => n, fun | n => n⟩
theorem Tryd.lays166 : Go.Proofs.Lays.n166 Tryd.prog Tryd.lays166_ren := {
  mixed := by kernel_rfl
  f166 := Tryd.func17.trans (congrArg some (by kernel_rfl))
  f240 := Tryd.func35.trans (congrArg some (by kernel_rfl))
  f276 := Tryd.func50.trans (congrArg some (by kernel_rfl))
  t0 := Tryd.underlying0
  a0 := Tryd.isAgg0
  z0 := Tryd.sizeOf0
  v0 := Tryd.zeroValue0
  t3 := Tryd.underlying3
  a3 := Tryd.isAgg3
  z3 := Tryd.sizeOf3
  v3 := Tryd.zeroValue3
  t4 := Tryd.underlying4
  a4 := Tryd.isAgg4
  z4 := Tryd.sizeOf4
  v4 := Tryd.zeroValue4
  t9 := Tryd.underlying9
  a9 := Tryd.isAgg9
  z9 := Tryd.sizeOf9
  v9 := Tryd.zeroValue9
  t20 := Tryd.underlying20
  a20 := Tryd.isAgg20
  z20 := Tryd.sizeOf20
  v20 := Tryd.zeroValue20
  t37 := Tryd.underlying48
  a37 := Tryd.isAgg48
  z37 := Tryd.sizeOf48
  v37 := Tryd.zeroValue48
  t70 := Tryd.underlying47
  a70 := Tryd.isAgg47
  z70 := Tryd.sizeOf47
  v70 := Tryd.zeroValue47
  t72 := Tryd.underlying50
  a72 := Tryd.isAgg50
  z72 := Tryd.sizeOf50
  v72 := Tryd.zeroValue50
  t75 := Tryd.underlying30
  a75 := Tryd.isAgg30
  z75 := Tryd.sizeOf30
  v75 := Tryd.zeroValue30
  t164 := Tryd.underlying91
  a164 := Tryd.isAgg91
  z164 := Tryd.sizeOf91
  v164 := Tryd.zeroValue91 }
theorem Tryd.Builder_Extra_166 : Builder.Extra Tryd.prog Tryd.lays166_ren := {
  sizeBuilder := by kernel_rfl
  liesBuilder := by kernel_rfl
  t5 := Tryd.underlying5
  a5 := Tryd.isAgg5
  z5 := Tryd.sizeOf5
  v5 := Tryd.zeroValue5
  infoByte := by kernel_rfl
  cellsByte := by kernel_rfl
  sizeByte := by kernel_rfl
  neB5 := by decide }
theorem Tryd.WriteString_h (B b : Nat) (bs : List Value) (s : ByteArray) (w : World) (h : Lib.IsBuilderF 50 5 B b bs w) (hlen : bs.length + s.size ≤ 140737488355328) (hBw : B ≤ w.heap.size) :
    Calls Tryd.prog 17 #[.pointer (some ⟨b, 0, none⟩), .string s] w fun e w' => e = .returned (.tuple #[.int .i64 s.size, .nilIface]) ∧ (Lib.BuilderAtF 50 5 B b (.pointer (some ⟨b, 0, none⟩)) (bs ++ Lib.strCells s) w' ∧ Below B w w' ∧ Lib.OthersKept 5 (some b) w w') :=
  Any.Builder_WriteString_k Tryd.lays166 Tryd.Builder_Extra_166 B b bs s w h hlen hBw
end Go.Proofs

/- The code's small functions of layer 12's Print, walked: numbers, ranges, letters, lines that are written. -/
namespace Go.Proofs.YtkmgblnofapccaaDoor
open Go.RowKit

/-- the table of powers of ten, in every later world -/
def Tab10 (w : World) : Prop := ∀ u : World, Below w.heap.size w u → Lib.TabIs Tryd.prog u "internal/strconv.uint64pow10" .u64 Lib.pow10Tab
theorem Tab10.on {w u : World} (h : Tab10 w) (hb : Below w.heap.size w u) : Tab10 u := fun v hv => h v (hb.trans (hv.mono hb.size))
set_option maxHeartbeats 1000000 in
theorem nText_f (n : Int) (h0 : -9223372036854775808 ≤ n) (h1 : n ≤ 9223372036854775807) (w : World) (HT : Hid (Tab10 w)) :
    Calls Tryd.prog 36 #[.int .i64 n] w fun e w' => e = .returned (.string ⟨(Lib.itoa n).toArray⟩) ∧ Below w.heap.size w w' := by
  go_enter Tryd.func36, Tryd.ntmps36
  go_wp2_with fail
  refine (Tryd.strconv_Itoa n h0 h1 _ (HT.out _ (Below.refl _ _))).mono ?_
  rintro e w1 ⟨rfl, k, os, rfl⟩
  go_wp2
  go_ret
  exact ⟨rfl, Lib.below_grow w.heap.size w (Nat.le_refl _) k os⟩
/-- a range as the code writes it -/
def rgx (A N : Int) : List UInt8 := if N ≤ 1 then Lib.itoa A else Lib.itoa A ++ 44 :: Lib.itoa (A + N - 1)
theorem rgx_len {A N : Int} (h0 : 0 ≤ A) (h1 : A ≤ 4611686018427387904) (h2 : 0 ≤ N) (h3 : N ≤ 4611686018427387900) : (rgx A N).length ≤ 43 := by
  have l1 := itoa_short A (by omega) (by omega)
  have l2 := itoa_short (A + N - 1) (by omega) (by omega)
  unfold rgx
  split
  · omega
  · simp only [List.length_append, List.length_cons]
    omega
/-- what a hunk does, as the code writes it -/
def ltrT (AN BN : Int) : List UInt8 := if AN = 0 then [97] else if BN = 0 then [100] else [99]
theorem ltr_len (AN BN : Int) : (ltrT AN BN).length = 1 := by
  unfold ltrT
  split
  · rfl
  · split <;> rfl
end Go.Proofs.YtkmgblnofapccaaDoor

/- The code's writeLines of layer 12, walked: lines behind a sign are written into a builder. -/
namespace Go.Proofs.YtkmgblnofapccaaDoor
open Go.RowKit

theorem bcells_len (l : List UInt8) : (Lib.byteCells l).length = l.length := by simp [Lib.byteCells]
theorem suf_feed (s : List UInt8) : Lib.hasSuffix s [10] = fdB s := by
  unfold Lib.hasSuffix fdB
  rw [Bool.eq_iff_iff, List.isSuffixOf_iff_suffix, beq_iff_eq]
  constructor
  · rintro ⟨t, rfl⟩
    simp
  · intro h
    obtain ⟨t, rfl⟩ := List.getLast?_eq_some_iff.1 h
    exact ⟨t, rfl⟩
/-- a builder stays as it is where all ahead stays -/
theorem isF_low {T e : TypeId} {B b : Nat} {bs : List Value} {w w' : World} (h : Lib.IsBuilderF T e B b bs w) (hb : Below w.heap.size w w') : Lib.IsBuilderF T e B b bs w' := by
  have key : ∀ p, Lib.BuilderAtF T e B b p bs w → Lib.BuilderAtF T e B b p bs w' := by
    rintro p ⟨h1, v, h2, h3, h4⟩
    refine ⟨h1, v, (hb.block b (Array.getElem?_eq_some_iff.1 h2).1).trans h2, ⟨h3.1, ?_⟩, h4⟩
    rcases h3.2 with q | ⟨g, cap, cur, fz, q1, q2, q3, q4⟩
    · exact .inl q
    · exact .inr ⟨g, cap, cur, fz, q1, q2, (hb.block g (Array.getElem?_eq_some_iff.1 q3).1).trans q3, q4⟩
  rcases h with h | h
  · exact .inl (key _ h)
  · exact .inr (key _ h)
theorem isF_fresh (w : World) : Lib.IsBuilderF 50 5 w.heap.size w.heap.size (Lib.byteCells []) (w.alloc (.cells #[.pointer none, .slice none 0 0] 50)) :=
  .inl ⟨Nat.le_refl _, .slice none 0 0, heap_alloc_new w _, ⟨rfl, .inl ⟨rfl, rfl⟩⟩, by simp [Value.ownBlock]⟩
/-- a row of texts of one's own stays where a builder is written -/
theorem owns_others {w u : World} {base b : Nat} {v : Value} {n : Nat} {xs : List Value} (h : w.ownsRow base 9 1 v n xs) (hk : Lib.OthersKept 5 (some b) w u) (hb : ∀ g, v.ownBlock = some g → g ≠ b) : u.ownsRow base 9 1 v n xs := by
  refine ⟨h.1, ?_⟩
  rcases h.2 with q | ⟨g, cap, cur, rfl, q2, q3, q4⟩
  · exact .inl q
  · refine .inr ⟨g, cap, cur, rfl, q2, hk g _ q3 (fun e => hb g rfl (Option.some.inj e)) (fun c fz e => ?_), q4⟩
    cases e
end Go.Proofs.YtkmgblnofapccaaDoor

/- The code's Join of layer lines, walked over rows as stage 5 says them. -/
namespace Go.Proofs.YtkmgblnofapccaaDoor
open Ln Go.RowKit

def efbas (ws : List (List UInt8)) : List ByteArray := ws.map fun a => ⟨a.toArray⟩
theorem efbas_length (ws : List (List UInt8)) : (efbas ws).length = ws.length := by simp [efbas]
theorem efbas_data (ws : List (List UInt8)) : (efbas ws).map (fun s => s.data.toList) = ws := by simp [efbas, Function.comp_def]
set_option maxHeartbeats 1000000 in
theorem lJoin_f (v : Value) (ws : List (List UInt8)) (w : World) (hl : ws.length ≤ 1099511627776) (hf : ws.flatten.length ≤ 1099511627776) (hv : HS w v ws) :
    Calls Tryd.prog 15 #[v] w fun e w' => e = .returned (.string ⟨ws.flatten.toArray⟩) ∧ Below w.heap.size w w' := by
  by_cases h0 : 0 < ws.length
  · obtain ⟨vo, vc, rfl⟩ := Holds.form hv
    have hcap : ws.length ≤ vc := (by
      rcases hv with ⟨h, h1, _⟩ | ⟨ad, c', h, h3, _⟩
      · omega
      · cases h; exact h3)
    obtain ⟨b1, o1, rfl, hb1, hc1⟩ := HS.at hv h0
    have hj : (Lib.join ((efbas ws).map fun s => s.data.toList) (⟨#[]⟩ : ByteArray).data.toList) = ws.flatten := by rw [efbas_data]; exact join_nil_sep ws
    have hJ := Tryd.strings_Join b1 o1 vc (efbas ws) ⟨#[]⟩ w (by
      intro j y hy
      have hjl : j < ws.length := by have := (List.getElem?_eq_some_iff.1 hy).1; simpa [efbas] using this
      rw [hc1 j hjl]
      simp [efbas, hjl] at hy
      rw [hy]) hb1 (by rw [efbas_length]; omega) (by rw [efbas_length]; exact hcap) (by rw [hj]; omega)
    rw [hj, efbas_length] at hJ
    clear hc1 hj hv
    go_enter Tryd.func15, Tryd.ntmps15
    go_wp2_with fail
    refine hJ.mono ?_
    rintro e w1 ⟨rfl, hb⟩
    go_wp2
    go_ret
    exact ⟨rfl, hb⟩
  · obtain rfl := List.eq_nil_of_length_eq_zero (by omega : ws.length = 0)
    obtain ⟨vo, vc, rfl⟩ := Holds.form hv
    go_enter Tryd.func15, Tryd.ntmps15
    go_wp2_with fail
    refine (Tryd.strings_Join_none vo vc ⟨#[]⟩ _).mono ?_
    rintro e w1 ⟨rfl, rfl⟩
    go_wp2
    go_ret
    exact ⟨rfl, Below.refl _ _⟩
end Go.Proofs.YtkmgblnofapccaaDoor

/- The code's Print of the form of archives, walked. -/
namespace Go.Proofs.YtkmgblnofapccaaDoor
open Go.RowKit

set_option maxHeartbeats 1000000 in
theorem cmdLine_f (t : UInt8) (p n : Int) (h0 : 0 ≤ p) (h1 : p ≤ 4611686018427387904) (h2 : 0 ≤ n) (h3 : n ≤ 4611686018427387904) (w : World) (HT : Hid (Tab10 w)) (T : List UInt8) (HR : Hid (rcB t p n ++ [10] = T)) :
    Calls Tryd.prog 18 #[.string ⟨#[t]⟩, .int .i64 p, .int .i64 n] w fun e w' => e = .returned (.string ⟨T.toArray⟩) ∧ Below w.heap.size w w' := by
  have s1 := itoa_short p (by omega) (by omega)
  have s2 := itoa_short n (by omega) (by omega)
  obtain ⟨Z2, hHZ2⟩ : ∃ Z, [t] ++ Lib.itoa p = Z := ⟨_, rfl⟩
  have HZ2 : Hid ([t] ++ Lib.itoa p = Z2) := hHZ2
  clear hHZ2
  obtain ⟨Z3, hHZ3⟩ : ∃ Z, Z2 ++ [32] = Z := ⟨_, rfl⟩
  have HZ3 : Hid (Z2 ++ [32] = Z3) := hHZ3
  clear hHZ3
  obtain ⟨Z4, hHZ4⟩ : ∃ Z, Z3 ++ Lib.itoa n = Z := ⟨_, rfl⟩
  have HZ4 : Hid (Z3 ++ Lib.itoa n = Z4) := hHZ4
  clear hHZ4
  have HE : Hid (Z4 ++ [10] = T) := (by
    show _ = _
    rw [← HR.out, ← HZ4.out, ← HZ3.out, ← HZ2.out]
    unfold rcB
    simp)
  have l2 : Z2.length ≤ 22 := (by rw [← HZ2.out]; simp only [List.length_append, List.length_cons, List.length_nil]; omega)
  have l3 : Z3.length ≤ 23 := (by rw [← HZ3.out]; simp only [List.length_append, List.length_cons, List.length_nil]; omega)
  have l4 : Z4.length ≤ 44 := (by rw [← HZ4.out]; simp only [List.length_append]; omega)
  have q2 := add_z HZ2.out (by unfold Fits; simp only [List.length_cons, List.length_nil]; omega) Tryd.prog
  have q3 := add_z HZ3.out (by unfold Fits; simp only [List.length_cons, List.length_nil]; omega) Tryd.prog
  have q4 := add_z HZ4.out (by unfold Fits; omega) Tryd.prog
  have q5 := add_z HE.out (by unfold Fits; simp only [List.length_cons, List.length_nil]; omega) Tryd.prog
  clear HR
  go_enter Tryd.func18, Tryd.ntmps18
  go_wp2_with fail
  refine (nText_f p (by omega) (by omega) _ HT).mono ?_
  rintro e w1 ⟨rfl, hb1⟩
  have HT1 : Hid (Tab10 w1) := HT.out.on hb1
  go_wp2_with fail
  refine (nText_f n (by omega) (by omega) _ HT1).mono ?_
  rintro e w2 ⟨rfl, hb2⟩
  go_wp2
  go_ret
  exact ⟨rfl, hb1.trans (hb2.mono hb1.size)⟩
/-- a boxed change -/
def Cbx (W : World) (k : Nat) (A AN B BN : Int) : Prop := W.heap[k]? = some (.cells #[.int .i64 A, .int .i64 AN, .int .i64 B, .int .i64 BN] 43)
theorem Cbx.cells {W : World} {k : Nat} {A AN B BN : Int} (h : Cbx W k A AN B BN) : W.cell? ⟨k, 0, none⟩ = some (.int .i64 A) ∧ W.cell? ⟨k, 1, none⟩ = some (.int .i64 AN) ∧ W.cell? ⟨k, 2, none⟩ = some (.int .i64 B) ∧ W.cell? ⟨k, 3, none⟩ = some (.int .i64 BN) := by
  unfold Cbx at h
  refine ⟨?_, ?_, ?_, ?_⟩ <;> rw [Lib.cell_of_heap h] <;> rfl
theorem Cbx.low {W u : World} {k : Nat} {A AN B BN : Int} (h : Cbx W k A AN B BN) (hb : Below W.heap.size W u) : Cbx u k A AN B BN := (hb.block k (Array.getElem?_eq_some_iff.1 h).1).trans h
theorem Cbx.others {W u : World} {k b : Nat} {A AN B BN : Int} (h : Cbx W k A AN B BN) (hk : Lib.OthersKept 5 (some b) W u) (hne : k ≠ b) : Cbx u k A AN B BN := hk k _ h (fun e => by injection e with e; omega) (fun c fz e => by cases e)
theorem rc_ws (b : Nat) (acc s Z : List UInt8) (w : World) (hB : Lib.IsBuilderF 50 5 b b (Lib.byteCells acc) w) (hBw : b ≤ w.heap.size) (hl : acc.length + s.length ≤ 140737488355328) (HZ : Hid (acc ++ s = Z)) :
    Calls Tryd.prog 17 #[.pointer (some ⟨b, 0, none⟩), .string ⟨s.toArray⟩] w fun e w' => e = .returned (.tuple #[.int .i64 (s.length : Int), .nilIface]) ∧ Lib.IsBuilderF 50 5 b b (Lib.byteCells Z) w' ∧ Below b w w' ∧ Lib.OthersKept 5 (some b) w w' := by
  have hz := HZ.out
  subst hz
  refine (Tryd.WriteString_h b b _ ⟨s.toArray⟩ w hB (by rw [bcells_len]; exact hl) hBw).mono ?_
  rintro e w' ⟨rfl, h1, h2, h3⟩
  exact ⟨rfl, .inr (by rw [Lib.byteCells_append]; exact h1), h2, h3⟩
theorem rcB_len {t : UInt8} {p n : Int} (h0 : 0 ≤ p) (h1 : p ≤ 4611686018427387904) (h2 : 0 ≤ n) (h3 : n ≤ 4611686018427387904) : (rcB t p n ++ [10]).length ≤ 45 := by
  have s1 := itoa_short p (by omega) (by omega)
  have s2 := itoa_short n (by omega) (by omega)
  unfold rcB
  simp only [List.length_append, List.length_cons, List.length_nil]
  omega
set_option maxRecDepth 10000 in
set_option maxHeartbeats 8000000 in
theorem rcPrint_f (l : List Ch) (vl va vb : Value) (a b : List (List UInt8)) (w : World) (hl : HCh w vl l) (ha : HS w va a) (hb : HS w vb b) (hll : l.length ≤ 1099511627776) (hla : a.length ≤ 1099511627776) (hlb : b.length ≤ 1099511627776) (hfb : b.flatten.length ≤ 1099511627776) (HTb : Hid (Tab10 w))
    (r : Int) (HR : Hid (chk l a.length b.length = r)) (T : List UInt8) (HT : Hid ((if r = 0 then rcT l b else []) = T)) (hT : T.length ≤ 70368744177664) :
    Calls Tryd.prog 6 #[vl, va, vb] w fun e w' => e = .returned (.tuple #[.string ⟨T.toArray⟩, .int .i64 r]) ∧ Below w.heap.size w w' := by
  obtain ⟨lo, lc, rfl⟩ := Holds.form hl
  obtain ⟨ao, ca, rfl⟩ := Holds.form ha
  obtain ⟨bo, cb, rfl⟩ := Holds.form hb
  go_enter Tryd.func6, Tryd.ntmps6
  go_wp2_with fail
  refine (Check_f l a.length b.length r (.slice lo l.length lc) _ hl (by omega) (by omega) (by omega) HR).mono ?_
  rintro e w1 ⟨rfl, hb1⟩
  by_cases hr : r = 0
  · subst hr
    have hTT := HT.out
    rw [if_pos rfl] at hTT
    have hs : Script l a.length b.length := (by
      by_cases h : Script l a.length b.length
      · exact h
      · have := chk_no h
        rw [HR.out] at this
        cases this)
    have HMH : Hid (∀ c ∈ l, numB c = true ∧ c.A + c.AN ≤ (a.length : Int) ∧ c.B + c.BN ≤ (b.length : Int)) := right_mem hs.2.2
    have HI0 : Hid ([] ++ rcT (l.drop 0) b = T) := (by show _ = _; rw [← hTT]; rfl)
    have HT1 : Hid (Tab10 w1) := HTb.out.on hb1
    have hl1 := HCh.keep hl hb1 (Nat.le_refl _)
    have hB1 := HS.keep hb hb1 (Nat.le_refl _)
    clear hs HT hTT HR HTb hl ha hb
    have hF0 := isF_fresh w1
    have hBw : Below w1.heap.size w1 (w1.alloc (.cells #[.pointer none, .slice none 0 0] 50)) := (Below.refl _ w1).alloc (Nat.le_refl _) _
    go_wp2
    go_loopw [23] (fun i wr => ∃ (k : Nat) (acc : List UInt8), k ≤ l.length ∧ i = .int .i64 (k : Int) ∧ Lib.IsBuilderF 50 5 w1.heap.size w1.heap.size (Lib.byteCells acc) wr ∧ Below w1.heap.size w1 wr ∧ Hid (acc ++ rcT (l.drop k) b = T)) (fun i _ => l.length - (intOf i).toNat)
    case atStart => exact ⟨0, [], Nat.zero_le _, by go_num, hF0, hBw, HI0⟩
    case round =>
      clear hF0 hBw HI0
      obtain ⟨k, acc, hk, rfl, hBr, hbr, HI⟩ := hrel
      have hHb : w1.heap.size < wr.heap.size := (by
        rcases hBr with ⟨_, _, h, _⟩ | ⟨_, _, h, _⟩ <;> exact (Array.getElem?_eq_some_iff.1 h).1)
      have hacl : acc.length ≤ 70368744177664 := (by
        have h1 := congrArg List.length HI.out
        simp only [List.length_append] at h1
        omega)
      by_cases hlt : k < l.length
      · obtain ⟨bk, off, rfl, hbk, hc⟩ := HCh.at (HCh.keep hl1 hbr (Nat.le_refl _)) (by omega)
        obtain ⟨c0, c1, c2, c3⟩ := hc k hlt
        have HI2 : Hid (acc ++ ((rcC b l[k]).flatten ++ rcT (l.drop (k + 1)) b) = T) := (by
          show _ = _
          rw [← HI.out, rcT_step hlt])
        obtain ⟨c, hcd⟩ : ∃ c, l[k] = c := ⟨_, rfl⟩
        have hm := HMH.out l[k] (List.getElem_mem hlt)
        rw [hcd] at hm c0 c1 c2 c3 HI2
        clear hcd hc HI
        have hn := (numB_iff c).1 hm.1
        have i1 : 0 ≤ (k : Int) := by omega
        have i2 : (k : Int) < (l.length : Int) := by omega
        obtain ⟨vs, hvs, hsB⟩ := run_cut b bo cb c.B c.BN (by omega) (by omega) (by omega) w1 hB1
        obtain ⟨vo2, vc2, rfl⟩ := Holds.form (hsB w1 hB1)
        have hCl := rc_cutl (b := b) c.B c.BN
        have hlow : Below wr.heap.size wr (wr.alloc (.cells #[.int .i64 c.A, .int .i64 c.AN, .int .i64 c.B, .int .i64 c.BN] 43)) := (Below.refl _ wr).alloc (Nat.le_refl _) _
        have hbx : Cbx (wr.alloc (.cells #[.int .i64 c.A, .int .i64 c.AN, .int .i64 c.B, .int .i64 c.BN] 43)) wr.heap.size c.A c.AN c.B c.BN := heap_alloc_new wr _
        obtain ⟨L, hL⟩ : ∃ L, cut b c.B c.BN = L := ⟨_, rfl⟩
        rw [hL] at hvs hsB hCl
        have hLl : L.length ≤ 1099511627776 := by omega
        obtain ⟨X, HX⟩ : ∃ X, Hid (L.flatten = X) := ⟨_, rfl⟩
        have hXl : X.length ≤ 1099511627776 := by rw [← HX.out]; omega
        clear hCl
        have hwr : IntKind.i64.wrap (c.B + c.BN) = c.B + c.BN := wrap_small _ (by omega) (by omega)
        have hwr1 : IntKind.i64.wrap (c.A + 1) = c.A + 1 := wrap_small _ (by omega) (by omega)
        have hwr2 : IntKind.i64.wrap (c.A + c.AN) = c.A + c.AN := wrap_small _ (by omega) (by omega)
        obtain ⟨D, hHD⟩ : ∃ D, rcB 100 (c.A + 1) c.AN ++ [10] = D := ⟨_, rfl⟩
        have HD : Hid (rcB 100 (c.A + 1) c.AN ++ [10] = D) := hHD
        clear hHD
        obtain ⟨P, hHP⟩ : ∃ P, rcB 97 (c.A + c.AN) c.BN ++ [10] = P := ⟨_, rfl⟩
        have HP : Hid (rcB 97 (c.A + c.AN) c.BN ++ [10] = P) := hHP
        clear hHP
        have hDl : D.length ≤ 45 := by rw [← HD.out]; exact rcB_len (by omega) (by omega) (by omega) (by omega)
        have hPl : P.length ≤ 45 := by rw [← HP.out]; exact rcB_len (by omega) (by omega) (by omega) (by omega)
        obtain ⟨A, AN, B, BN⟩ := c
        dsimp only at c0 c1 c2 c3 hbx hlow hn hm hvs hsB hwr hwr1 hwr2 hL HD HP
        obtain ⟨wb, hwb⟩ : ∃ wb, wr.alloc (.cells #[.int .i64 A, .int .i64 AN, .int .i64 B, .int .i64 BN] 43) = wb := ⟨_, rfl⟩
        rw [hwb] at hbx hlow
        have hBb := isF_low hBr hlow
        have hbb := hbr.trans (hlow.mono hbr.size)
        have hzb : wr.heap.size < wb.heap.size := (Array.getElem?_eq_some_iff.1 hbx).1
        obtain ⟨d0, d1, d2, d3⟩ := hbx.cells
        have HTB : Hid (Tab10 wb) := HT1.out.on hbb
        clear hBr hlow
        by_cases h1 : 0 < AN
        · obtain ⟨Z, hHZ⟩ : ∃ Z, acc ++ D = Z := ⟨_, rfl⟩
          have HZ : Hid (acc ++ D = Z) := hHZ
          clear hHZ
          have hZl : Z.length ≤ 70368744177664 + 45 := by rw [← HZ.out, List.length_append]; omega
          go_wp2_with fail
          refine (cmdLine_f 100 (A + 1) AN (by omega) (by omega) (by omega) (by omega) wb HTB D HD).mono ?_
          rintro e w2 ⟨rfl, hl2⟩
          have hB2 := isF_low hBb hl2
          have hx2 := hbx.low hl2
          have hb2 := hbb.trans (hl2.mono hbb.size)
          clear d0 d1 d2 d3
          go_wp2_with fail
          refine (rc_ws w1.heap.size acc D Z w2 hB2 (by have := hl2.size; omega) (by omega) HZ).mono ?_
          rintro e w3 ⟨rfl, hB3, hl3, ho3⟩
          have hx3 := hx2.others ho3 (by omega)
          have hb3 := hb2.trans hl3
          obtain ⟨d0, d1, d2, d3⟩ := hx3.cells
          clear hB2 hx2 hb2 hl2
          by_cases h2 : 0 < BN
          · obtain ⟨Y, hHY⟩ : ∃ Y, Z ++ P = Y := ⟨_, rfl⟩
            have HY : Hid (Z ++ P = Y) := hHY
            clear hHY
            have hYl : Y.length ≤ 70368744177664 + 90 := by rw [← HY.out, List.length_append]; omega
            obtain ⟨Q, hHQ⟩ : ∃ Q, Y ++ X = Q := ⟨_, rfl⟩
            have HQ : Hid (Y ++ X = Q) := hHQ
            clear hHQ
            have HE : Hid (Q ++ rcT (l.drop (k + 1)) b = T) := (by
              show _ = _
              rw [← HI2.out, ← HQ.out, ← HY.out, ← HP.out, ← HX.out, ← HZ.out, ← HD.out]
              unfold rcC
              dsimp only
              rw [if_pos h1, if_pos h2, hL]
              simp)
            have HTC : Hid (Tab10 w3) := HT1.out.on hb3
            clear HI2
            go_wp2_with fail
            refine (cmdLine_f 97 (A + AN) BN (by omega) (by omega) (by omega) (by omega) w3 HTC P HP).mono ?_
            rintro e w4 ⟨rfl, hl4⟩
            have hB4 := isF_low hB3 hl4
            have hx4 := hx3.low hl4
            have hb4 := hb3.trans (hl4.mono hb3.size)
            clear d0 d1 d2 d3
            go_wp2_with fail
            refine (rc_ws w1.heap.size Z P Y w4 hB4 hb4.size (by omega) HY).mono ?_
            rintro e w5 ⟨rfl, hB5, hl5, ho5⟩
            have hx5 := hx4.others ho5 (by omega)
            have hb5 := hb4.trans hl5
            obtain ⟨d0, d1, d2, d3⟩ := hx5.cells
            have hs5 : HS w5 (.slice vo2 L.length vc2) L := hsB w5 (HS.keep hB1 hb5 (Nat.le_refl _))
            go_wp2_with fail
            refine (lJoin_f _ L w5 hLl (by rw [HX.out]; exact hXl) hs5).mono ?_
            rw [HX.out]
            rintro e w6 ⟨rfl, hl6⟩
            have hB6 := isF_low hB5 hl6
            have hb6 := hb5.trans (hl6.mono hb5.size)
            go_wp2_with fail
            refine (rc_ws w1.heap.size Y X Q w6 hB6 hb6.size (by omega) HQ).mono ?_
            rintro e w7 ⟨rfl, hB7, hl7, ho7⟩
            have hb7 := hb6.trans hl7
            go_wp2
            exact ⟨⟨k + 1, _, by omega, by go_num, hB7, hb7, HE⟩, by simp [intOf]; omega⟩
          · have HE : Hid (Z ++ rcT (l.drop (k + 1)) b = T) := (by
              show _ = _
              rw [← HI2.out, ← HZ.out, ← HD.out]
              unfold rcC
              dsimp only
              rw [if_pos h1, if_neg h2]
              simp)
            clear HI2
            go_wp2
            exact ⟨⟨k + 1, _, by omega, by go_num, hB3, hb3, HE⟩, by simp [intOf]; omega⟩
        · have h2 : 0 < BN := by omega
          obtain ⟨Y, hHY⟩ : ∃ Y, acc ++ P = Y := ⟨_, rfl⟩
          have HY : Hid (acc ++ P = Y) := hHY
          clear hHY
          have hYl : Y.length ≤ 70368744177664 + 90 := by rw [← HY.out, List.length_append]; omega
          obtain ⟨Q, hHQ⟩ : ∃ Q, Y ++ X = Q := ⟨_, rfl⟩
          have HQ : Hid (Y ++ X = Q) := hHQ
          clear hHQ
          have HE : Hid (Q ++ rcT (l.drop (k + 1)) b = T) := (by
            show _ = _
            rw [← HI2.out, ← HQ.out, ← HY.out, ← HP.out, ← HX.out]
            unfold rcC
            dsimp only
            rw [if_neg h1, if_pos h2, hL]
            simp)
          have HTC : Hid (Tab10 wb) := HT1.out.on hbb
          clear HI2
          go_wp2_with fail
          refine (cmdLine_f 97 (A + AN) BN (by omega) (by omega) (by omega) (by omega) wb HTC P HP).mono ?_
          rintro e w4 ⟨rfl, hl4⟩
          have hB4 := isF_low hBb hl4
          have hx4 := hbx.low hl4
          have hb4 := hbb.trans (hl4.mono hbb.size)
          clear d0 d1 d2 d3
          go_wp2_with fail
          refine (rc_ws w1.heap.size acc P Y w4 hB4 hb4.size (by omega) HY).mono ?_
          rintro e w5 ⟨rfl, hB5, hl5, ho5⟩
          have hx5 := hx4.others ho5 (by omega)
          have hb5 := hb4.trans hl5
          obtain ⟨d0, d1, d2, d3⟩ := hx5.cells
          have hs5 : HS w5 (.slice vo2 L.length vc2) L := hsB w5 (HS.keep hB1 hb5 (Nat.le_refl _))
          go_wp2_with fail
          refine (lJoin_f _ L w5 hLl (by rw [HX.out]; exact hXl) hs5).mono ?_
          rw [HX.out]
          rintro e w6 ⟨rfl, hl6⟩
          have hB6 := isF_low hB5 hl6
          have hb6 := hb5.trans (hl6.mono hb5.size)
          go_wp2_with fail
          refine (rc_ws w1.heap.size Y X Q w6 hB6 hb6.size (by omega) HQ).mono ?_
          rintro e w7 ⟨rfl, hB7, hl7, ho7⟩
          have hb7 := hb6.trans hl7
          go_wp2
          exact ⟨⟨k + 1, _, by omega, by go_num, hB7, hb7, HE⟩, by simp [intOf]; omega⟩
      · have HE : Hid (acc = T) := (by
          have h := HI.out
          rw [List.drop_of_length_le (by omega)] at h
          show acc = T
          simpa [rcT, rcL] using h)
        have hend : decide ((k : Int) < (l.length : Int)) = false := decide_eq_false (by omega)
        clear HI
        go_wp2_with fail
        refine (Tryd.Builder_String_any_k w1.heap.size w1.heap.size acc wr hBr (by omega)).mono ?_
        rintro e w3 ⟨rfl, hB3, hb3, ho3⟩
        have hb4 := hb1.trans ((hbr.trans hb3).mono hb1.size)
        go_wp2
        go_ret2
        exact ⟨by rw [← HE.out]; rfl, hb4⟩
  · have hrb : (r != 0) = true := bne_iff_ne.2 hr
    have hTT := HT.out
    rw [if_neg hr] at hTT
    subst hTT
    go_wp2
    go_ret2
    exact ⟨rfl, hb1⟩
end Go.Proofs.YtkmgblnofapccaaDoor

/- The plain Parse of the reference, walked anew over the normal form's texts. -/
namespace Go.Proofs.YtkmgblnofapccaaDoor
open Pn Go.RowKit
attribute [local go_sem] no_at

theorem ret_pair {k k' : IntKind} {a b a' b' : Int} (h : a = a') (h' : b = b') : Ending.returned (.tuple #[.int k a, .int k' b]) = .returned (.tuple #[.int k a', .int k' b']) := by rw [h, h']
set_option maxHeartbeats 2000000 in
theorem rParse_loop (L : List UInt8) (w : World) (hl : L.length ≤ maxLen) (h0 : 0 < L.length) (hz : ((L.length : Int) ≤ 1) ∨ ((1 < (L.length : Int)) ∧ (((L[0].toNat : Int) == 48) = false)))
    (HY : Hid ((∀ k (hk : k < L.length), 48 ≤ L[k].toNat ∧ L[k].toNat ≤ 57) → isNum L = true)) :
    Calls Tryd.prog 42 #[.string ⟨L.toArray⟩] w fun e w' => e = .returned (.tuple #[.int .i64 (parseV L), .int .i64 (parseE L)]) ∧ Below w.heap.size w w' := by
  unfold maxLen at hl
  have hne : ((L.length : Int) == 0) = false := beq_eq_false_iff_ne.2 (by omega)
  rcases hz with hz | ⟨hz, hz1⟩
  all_goals
    go_enter Tryd.func42, Tryd.ntmps42
    go_wp2
    go_loop [4, 5] (fun n i => ∃ (pos : Nat) (v : Int), pos ≤ L.length ∧ i = .int .i64 pos ∧ n = .int .i64 v ∧ 0 ≤ v ∧ v ≤ 2147483648 ∧ sat v (L.drop pos) = sat 0 L ∧ (∀ k (hk : k < L.length), k < pos → 48 ≤ L[k].toNat ∧ L[k].toNat ≤ 57)) (fun _ i => L.length - (intOf i).toNat)
    case atStart => exact ⟨0, 0, Nat.zero_le _, rfl, rfl, by omega, by omega, rfl, fun k _ h => by omega⟩
    case round =>
      obtain ⟨pos, v, hp, rfl, rfl, hv0, hv1, hsat, hall⟩ := hrel
      have HA : Hid (∀ k (hk : k < L.length), k < pos → 48 ≤ L[k].toNat ∧ L[k].toNat ≤ 57) := hall
      have HS : Hid (sat v (L.drop pos) = sat 0 L) := hsat
      clear hall hsat
      by_cases hlt : pos < L.length
      · have hc := L[pos].toNat_lt
        by_cases hd : 48 ≤ L[pos].toNat ∧ L[pos].toNat ≤ 57
        · obtain ⟨hd1, hd2⟩ := hd
          have HS2 : Hid (sat (min (v * 10 + ((L[pos].toNat : Int) - 48)) 2147483648) (L.drop (pos + 1)) = sat 0 L) := by
            show sat _ _ = _
            rw [← sat_step hlt]; exact HS.out
          have HA2 : Hid (∀ k (hk : k < L.length), k < pos + 1 → 48 ≤ L[k].toNat ∧ L[k].toNat ≤ 57) := by
            intro k hk h
            by_cases e : k = pos
            · subst e; exact ⟨hd1, hd2⟩
            · exact HA.out k hk (by omega)
          go_wp2
          have e : (if 2147483648 < v * 10 + ((L[pos].toNat : Int) - 48) then 2147483648 else v * 10 + ((L[pos].toNat : Int) - 48)) = min (v * 10 + ((L[pos].toNat : Int) - 48)) 2147483648 := by split <;> omega
          try rw [e]
          exact ⟨⟨pos + 1, _, by omega, by go_num, rfl, by omega, by omega, HS2.out, HA2.out⟩, by simp [intOf]; omega⟩
        · have HN : Hid (isNum L = false) := isNum_bad pos hlt hd
          by_cases hd1 : L[pos].toNat < 48
          · clear hd
            go_wp2
            go_ret2
            have h := parse_no HN.out
            exact ⟨ret_pair h.1 h.2, Below.refl _ _⟩
          · have hd2 : 57 < L[pos].toNat := by omega
            clear hd
            go_wp2
            go_ret2
            have h := parse_no HN.out
            exact ⟨ret_pair h.1 h.2, Below.refl _ _⟩
      · have HN : Hid (isNum L = true) := HY.out fun k hk => HA.out k hk (by omega)
        have HF : Hid (sat 0 L = v) := by
          have h := HS.out
          rw [List.drop_eq_nil_of_le (by omega)] at h
          exact h.symm
        by_cases hfar : 2147483647 < v
        · go_wp2
          go_ret2
          have h := parse_far HN.out (by rw [HF.out]; omega)
          exact ⟨ret_pair h.1 h.2, Below.refl _ _⟩
        · go_wp2
          go_ret2
          have h := parse_ok HN.out HF.out (by omega)
          exact ⟨ret_pair h.1 h.2, Below.refl _ _⟩

set_option maxHeartbeats 1000000 in
theorem rParse_f (l : List UInt8) (w : World) (hl : l.length ≤ maxLen) :
    Calls Tryd.prog 42 #[.string ⟨l.toArray⟩] w fun e w' => e = .returned (.tuple #[.int .i64 (parseV l), .int .i64 (parseE l)]) ∧ Below w.heap.size w w' := by
  match l, hl with
  | [], _ =>
    go_enter Tryd.func42, Tryd.ntmps42
    go_wp2
    go_ret2
    exact ⟨rfl, Below.refl _ _⟩
  | [c], hl => exact rParse_loop [c] w hl (by simp) (.inl (by simp)) (isNum_yes (by simp))
  | c :: d :: t, hl =>
    by_cases h : c.toNat = 48
    · have hb : ((c.toNat : Int) == 48) = true := by simp; omega
      have HN : Hid (isNum (c :: d :: t) = false) := isNum_zero h
      have hl2 : (1 : Int) < (t.length : Int) + 1 + 1 := by omega
      have hl3 : (((t.length : Int) + 1 + 1) == 0) = false := beq_eq_false_iff_ne.2 (by omega)
      clear h
      go_enter Tryd.func42, Tryd.ntmps42
      go_wp2
      go_ret2
      have h := parse_no HN.out
      exact ⟨ret_pair h.1 h.2, Below.refl _ _⟩
    · refine rParse_loop (c :: d :: t) w hl (by simp) (.inr ⟨by simp; omega, ?_⟩) (isNum_yes (by simp [h]))
      simp; omega
end Go.Proofs.YtkmgblnofapccaaDoor

/- The code's isNumber and Parse of layer 1, walked anew over the normal form's texts: what they return is what the plain functions isNum, parseV and parseE say. -/
namespace Go.Proofs.YtkmgblnofapccaaDoor
open Pn Go.RowKit
attribute [local go_sem] no_at

set_option maxHeartbeats 2000000 in
theorem nisNumber_loop (L : List UInt8) (w : World) (hl : L.length ≤ maxLen) (h0 : 0 < L.length) (hz : (((L[0].toNat : Int) == 48) = false) ∨ ((((L[0].toNat : Int) == 48) = true) ∧ (L.length : Int) ≤ 1))
    (HY : Hid ((∀ k (hk : k < L.length), 48 ≤ L[k].toNat ∧ L[k].toNat ≤ 57) → isNum L = true)) :
    Calls Tryd.prog 65 #[.string ⟨L.toArray⟩] w fun e w' => e = .returned (.bool (isNum L)) ∧ Below w.heap.size w w' := by
  unfold maxLen at hl
  have hne : L.isEmpty = false := by cases L; simp at h0; rfl
  have hnil : ¬ L = [] := by intro h; rw [h] at h0; simp at h0
  rcases hz with hz | ⟨hz, hz1⟩
  all_goals
    go_enter Tryd.func65, Tryd.ntmps65
    go_wp2
    go_loopw [] (fun wr => ∃ pos : Nat, pos ≤ L.length ∧ wr.heap[w.heap.size]? = some (.stringIter ⟨L.toArray⟩ pos) ∧ Below w.heap.size w wr ∧ (∀ k (hk : k < L.length), k < pos → 48 ≤ L[k].toNat ∧ L[k].toNat ≤ 57)) (fun wr => L.length - wr.iterPos w.heap.size)
    case atStart =>
      refine ⟨0, Nat.zero_le _, World.iter_heap w _ 0, (Below.refl _ w).alloc (Nat.le_refl _) _, fun k _ h => by omega⟩
    case round =>
      obtain ⟨pos, hp, hit, hbr, hall⟩ := hrel
      have HA : Hid (∀ k (hk : k < L.length), k < pos → 48 ≤ L[k].toNat ∧ L[k].toNat ≤ 57) := hall
      clear hall
      have hss : (⟨L.toArray⟩ : ByteArray).size = L.length := rfl
      by_cases hlt : pos < L.length
      · by_cases ha : L[pos].toNat < 128
        · have hnx : ∀ ty, (Instr.next (.pointer (some ⟨w.heap.size, 0, none⟩)) true ty).run Tryd.prog wr = _ := fun ty => Lib.run_next_ascii_at wr w.heap.size ⟨L.toArray⟩ pos ty hit hlt ha
          have hit2 := Lib.iterAt_heap wr w.heap.size ⟨L.toArray⟩ pos (pos + 1) hit
          have hbr2 := Lib.below_iterAt hbr (k := w.heap.size) (Nat.le_refl _) ⟨L.toArray⟩ (pos + 1)
          by_cases hd : 48 ≤ L[pos].toNat ∧ L[pos].toNat ≤ 57
          · obtain ⟨hd1, hd2⟩ := hd
            go_wp2
            go_roundw
            case rel =>
              refine ⟨pos + 1, by omega, hit2, hbr2, fun k hk h => ?_⟩
              by_cases e : k = pos
              · subst e; exact ⟨hd1, hd2⟩
              · exact HA.out k hk (by omega)
            case measure => simp only [World.iterPos, hit, hit2]; omega
          · have HN : Hid (isNum L = false) := isNum_bad pos hlt hd
            by_cases hd1 : L[pos].toNat < 48
            · clear hd
              go_wp2
              go_ret
              exact ⟨ret_bool HN.out.symm, hbr2⟩
            · have hd2 : 57 < L[pos].toNat := by omega
              clear hd
              go_wp2
              go_ret
              exact ⟨ret_bool HN.out.symm, hbr2⟩
        · have HN : Hid (isNum L = false) := isNum_bad pos hlt (by omega)
          have hdh := (decode_high ⟨L.toArray⟩ pos hlt (by show 128 ≤ L[pos].toNat; omega)).1
          have hnx : ∀ ty, (Instr.next (.pointer (some ⟨w.heap.size, 0, none⟩)) true ty).run Tryd.prog wr = _ := fun ty => Lib.run_next_any_at wr w.heap.size ⟨L.toArray⟩ pos ty hit hlt
          have hbr2 := Lib.below_iterAt hbr (k := w.heap.size) (Nat.le_refl _) ⟨L.toArray⟩ (pos + (Utf8.decode ⟨L.toArray⟩ pos).2)
          have hdl := decode_le ⟨L.toArray⟩ pos
          generalize Utf8.decode ⟨L.toArray⟩ pos = dd at *
          have q1 : ¬ ((dd.1 : Int) < 48) := by omega
          have q2 : 57 < (dd.1 : Int) := by omega
          go_wp2
          go_ret
          exact ⟨ret_bool HN.out.symm, hbr2⟩
      · have hnx : ∀ ty, (Instr.next (.pointer (some ⟨w.heap.size, 0, none⟩)) true ty).run Tryd.prog wr = _ := fun ty => Lib.run_next_end_at wr w.heap.size ⟨L.toArray⟩ pos ty hit hlt
        have HN : Hid (isNum L = true) := HY.out fun k hk => HA.out k hk (by omega)
        go_wp2
        go_ret
        exact ⟨ret_bool HN.out.symm, hbr⟩

set_option maxHeartbeats 1000000 in
theorem nisNumber_any (l : List UInt8) (w : World) (hl : l.length ≤ maxLen) :
    Calls Tryd.prog 65 #[.string ⟨l.toArray⟩] w fun e w' => e = .returned (.bool (isNum l)) ∧ Below w.heap.size w w' := by
  match l, hl with
  | [], _ =>
    go_enter Tryd.func65, Tryd.ntmps65
    go_wp2
    go_ret
    exact ⟨rfl, Below.refl _ _⟩
  | [c], hl =>
    refine nisNumber_loop [c] w hl (by simp) ?_ (isNum_yes (by simp))
    cases h : ((([c] : List UInt8)[0].toNat : Int) == 48)
    · exact .inl rfl
    · exact .inr ⟨rfl, by simp⟩
  | c :: d :: t, hl =>
    by_cases h : c.toNat = 48
    · have hb : ((c.toNat : Int) == 48) = true := by simp; omega
      have HN : Hid (isNum (c :: d :: t) = false) := isNum_zero h
      have hl2 : (1 : Int) < (t.length : Int) + 1 + 1 := by omega
      clear h
      go_enter Tryd.func65, Tryd.ntmps65
      go_wp2
      go_ret
      exact ⟨ret_bool HN.out.symm, Below.refl _ _⟩
    · refine nisNumber_loop (c :: d :: t) w hl (by simp) (.inl ?_) (isNum_yes (by simp [h]))
      simp; omega

set_option maxHeartbeats 2000000 in
theorem nParse_any (l : List UInt8) (w : World) (hl : l.length ≤ maxLen) :
    Calls Tryd.prog 54 #[.string ⟨l.toArray⟩] w fun e w' => e = .returned (.tuple #[.int .i64 (parseV l), .int .i64 (parseE l)]) ∧ Below w.heap.size w w' := by
  go_enter Tryd.func54, Tryd.ntmps54
  go_wp2_with fail
  refine (nisNumber_any l _ hl).mono ?_
  rintro e w1 ⟨rfl, hb1⟩
  unfold maxLen at hl
  cases hn : isNum l
  · have HN : Hid (isNum l = false) := hn
    go_wp2
    go_ret2
    have h := parse_no HN.out
    exact ⟨ret_pair h.1 h.2, hb1⟩
  · have HN : Hid (isNum l = true) := hn
    have hal := isNum_all hn
    have HAL : Hid (l.all digB = true) := hal
    clear hal
    go_wp2
    go_loopw [4] (fun n wr => ∃ (pos : Nat) (v : Int), pos ≤ l.length ∧ n = .int .i64 v ∧ 0 ≤ v ∧ v ≤ 2147483647 ∧ wr.heap[w1.heap.size]? = some (.stringIter ⟨l.toArray⟩ pos) ∧ Below w.heap.size w wr ∧ sat v (l.drop pos) = sat 0 l) (fun _ wr => l.length - wr.iterPos w1.heap.size)
    case atStart =>
      refine ⟨0, 0, Nat.zero_le _, rfl, by omega, by omega, World.iter_heap w1 _ 0, hb1.alloc hb1.size _, rfl⟩
    case round =>
      obtain ⟨pos, v, hp, rfl, hv0, hv1, hit, hbr, hsat⟩ := hrel
      have HS : Hid (sat v (l.drop pos) = sat 0 l) := hsat
      clear hsat
      have hss : (⟨l.toArray⟩ : ByteArray).size = l.length := rfl
      have hz1 := hb1.size
      by_cases hlt : pos < l.length
      · have hd := all_at HAL.out pos hlt
        obtain ⟨hd1, hd2⟩ := hd
        have HS2 : Hid (sat (min (v * 10 + ((l[pos].toNat : Int) - 48)) 2147483648) (l.drop (pos + 1)) = sat 0 l) := by
          show sat _ _ = _
          rw [← sat_step hlt]; exact HS.out
        have hnx : ∀ ty, (Instr.next (.pointer (some ⟨w1.heap.size, 0, none⟩)) true ty).run Tryd.prog wr = _ := fun ty => Lib.run_next_ascii_at wr w1.heap.size ⟨l.toArray⟩ pos ty hit hlt (by show l[pos].toNat < 128; omega)
        have hit2 := Lib.iterAt_heap wr w1.heap.size ⟨l.toArray⟩ pos (pos + 1) hit
        have hbr2 := Lib.below_iterAt hbr (k := w1.heap.size) hb1.size ⟨l.toArray⟩ (pos + 1)
        by_cases hfar : (2147483647 - ((l[pos].toNat : Int) - 48)) / 10 < v
        · have HF : Hid (sat 0 l = 2147483648) := by
            have e : min (v * 10 + ((l[pos].toNat : Int) - 48)) 2147483648 = 2147483648 := by omega
            have h := HS2.out
            rw [e, sat_top _ (all_drop HAL.out _)] at h
            exact h.symm
          go_wp2
          go_ret2
          have h := parse_far HN.out HF.out
          exact ⟨ret_pair h.1 h.2, hbr2⟩
        · go_wp2
          go_roundw
          case rel =>
            refine ⟨pos + 1, v * 10 + ((l[pos].toNat : Int) - 48), by omega, rfl, by omega, by omega, hit2, hbr2, ?_⟩
            have e : min (v * 10 + ((l[pos].toNat : Int) - 48)) 2147483648 = v * 10 + ((l[pos].toNat : Int) - 48) := by omega
            rw [← HS2.out, e]
          case measure => simp only [World.iterPos, hit, hit2]; omega
      · have hnx : ∀ ty, (Instr.next (.pointer (some ⟨w1.heap.size, 0, none⟩)) true ty).run Tryd.prog wr = _ := fun ty => Lib.run_next_end_at wr w1.heap.size ⟨l.toArray⟩ pos ty hit hlt
        have HF : Hid (sat 0 l = v) := by
          have h := HS.out
          rw [List.drop_eq_nil_of_le (by omega)] at h
          exact h.symm
        go_wp2
        go_ret2
        have h := parse_ok HN.out HF.out hv1
        exact ⟨ret_pair h.1 h.2, hbr⟩
end Go.Proofs.YtkmgblnofapccaaDoor

/- The code's commandFrom of layer 14, walked: a line that says a command, and the closure that hands over a number. -/
namespace Go.Proofs.YtkmgblnofapccaaDoor
open Go.RowKit
attribute [local go_sem] ByteArray.extract_mk no_at

/-- what is ahead of the first such byte, and behind it -/
def cQ (x c : UInt8) : Bool := c == x
def cA (x : UInt8) (l : List UInt8) : List UInt8 := match spB (cQ x) l with | none => l | some (a, _, _) => a
def cB (x : UInt8) (l : List UInt8) : List UInt8 := match spB (cQ x) l with | none => [] | some (_, _, b) => b
def cS (x : UInt8) (l : List UInt8) : Bool := match spB (cQ x) l with | none => false | some _ => true
theorem byte_sp (x : UInt8) (l : List UInt8) : (spB (cQ x) l = none ∧ Lib.indexByte l x = -1) ∨ (∃ k : Nat, ∃ h : k < l.length, Lib.indexByte l x = k ∧ spB (cQ x) l = some (l.take k, l[k], l.drop (k + 1))) := by
  induction l with
  | nil => exact .inl ⟨rfl, rfl⟩
  | cons c l ih =>
    unfold Lib.indexByte
    simp only [spB]
    have e : (c == x) = cQ x c := rfl
    rw [e]
    cases hc : cQ x c with
    | true =>
      right
      exact ⟨0, by simp, by simp, by simp⟩
    | false =>
      rw [if_neg (by decide), if_neg (by decide)]
      rcases ih with ⟨h1, h2⟩ | ⟨k, hk, h1, h2⟩
      · left
        rw [h1, h2]
        exact ⟨rfl, rfl⟩
      · right
        refine ⟨k + 1, by simpa using hk, ?_, ?_⟩
        · rw [h1, if_neg (by simp)]
          omega
        · rw [h2]
          rfl
theorem rcut_le (x : UInt8) (l : List UInt8) : (cA x l).length ≤ l.length ∧ (cB x l).length ≤ l.length := by
  unfold cA cB
  rcases byte_sp x l with ⟨h1, _⟩ | ⟨k, hk, _, h2⟩
  · rw [h1]; exact ⟨Nat.le_refl _, Nat.zero_le _⟩
  · rw [h2]; dsimp only; exact ⟨by rw [List.length_take]; omega, by rw [List.length_drop]; omega⟩
theorem rc_wrap {n : Int} (h0 : -9223372036854775808 ≤ n) (h1 : n ≤ 9223372036854775807) : IntKind.i64.wrap n = n := by
  simp [IntKind.wrap, IntKind.bits, IntKind.signed]
  split <;> omega
set_option maxHeartbeats 2000000 in
theorem slCutX_f (x : UInt8) (l : List UInt8) (w : World) (hl : l.length ≤ 1099511627776) :
    Calls Tryd.prog 64 #[.string ⟨l.toArray⟩, .string ⟨#[x]⟩] w fun e w' => e = .returned (.tuple #[.string ⟨(cA x l).toArray⟩, .string ⟨(cB x l).toArray⟩, .bool (cS x l)]) ∧ ∃ n, w' = w.drewN n := by
  rcases byte_sp x l with ⟨h1, h2⟩ | ⟨k, hk, h1, h2⟩
  · have HA : Hid (cA x l = l ∧ cB x l = [] ∧ cS x l = false) := (by unfold cA cB cS; rw [h1]; exact ⟨rfl, rfl, rfl⟩)
    have HI : Hid (Lib.indexByte l x = -1) := h2
    clear h1 h2
    go_enter Tryd.func64, Tryd.ntmps64
    go_wp2_with fail
    refine (Tryd.stringslite_Index_one ⟨l.toArray⟩ x w).mono ?_
    rintro e w1 ⟨rfl, rfl⟩
    have e1 : Lib.indexByte (⟨l.toArray⟩ : ByteArray).data.toList x = -1 := HI.out
    rw [e1]
    clear e1
    go_wp2
    go_ret3
    obtain ⟨a1, a2, a3⟩ := HA.out
    rw [a1, a2, a3]
    exact ⟨rfl, 0, rfl⟩
  · have HA : Hid (cA x l = l.take k ∧ cB x l = l.drop (k + 1) ∧ cS x l = true) := (by unfold cA cB cS; rw [h2]; exact ⟨rfl, rfl, rfl⟩)
    have HI : Hid (Lib.indexByte l x = (k : Int)) := h1
    clear h1 h2
    go_enter Tryd.func64, Tryd.ntmps64
    go_wp2_with fail
    refine (Tryd.stringslite_Index_one ⟨l.toArray⟩ x w).mono ?_
    rintro e w1 ⟨rfl, rfl⟩
    have e1 : Lib.indexByte (⟨l.toArray⟩ : ByteArray).data.toList x = (k : Int) := HI.out
    rw [e1]
    clear e1
    have i1 : (0 : Int) ≤ (k : Int) := by omega
    have i2 : (k : Int) ≤ (l.length : Int) := by omega
    have i3 : (k : Int) + 1 ≤ (l.length : Int) := by omega
    have i4 : (0 : Int) ≤ (k : Int) + 1 := by omega
    have i5 : IntKind.i64.wrap ((k : Int) + 1) = (k : Int) + 1 := rc_wrap (by omega) (by omega)
    have i6 : ((k : Int) + 1).toNat = k + 1 := by omega
    go_wp2_with fail
    go_quiet (fail)
    go_wp2
    go_ret3
    obtain ⟨a1, a2, a3⟩ := HA.out
    rw [a1, a2, a3]
    have k5 : (l.drop (k + 1)).take (l.length - (k + 1)) = l.drop (k + 1) := List.take_of_length_le (by simp)
    exact ⟨by simp [k5], _, rfl⟩
set_option maxHeartbeats 1000000 in
theorem cutX_f (x : UInt8) (l : List UInt8) (w : World) (hl : l.length ≤ 1099511627776) :
    Calls Tryd.prog 53 #[.string ⟨l.toArray⟩, .string ⟨#[x]⟩] w fun e w' => e = .returned (.tuple #[.string ⟨(cA x l).toArray⟩, .string ⟨(cB x l).toArray⟩, .bool (cS x l)]) ∧ ∃ n, w' = w.drewN n := by
  go_enter Tryd.func53, Tryd.ntmps53
  go_wp2_with fail
  refine (slCutX_f x l w hl).mono ?_
  rintro e w1 ⟨rfl, n, rfl⟩
  go_wp2
  go_ret3
  exact ⟨rfl, n, rfl⟩
/-- the two boxes that the closure shares -/
structure Nb (w : World) (g h : Nat) (rest : List UInt8) (rt : Bool) (u : World) : Prop where
  rb : u.heap[g]? = some (.cells #[.string ⟨rest.toArray⟩] 9)
  bb : u.heap[h]? = some (.cells #[.bool rt] 4)
  low : Below w.heap.size w u
  lg : w.heap.size ≤ g
  lh : w.heap.size ≤ h
theorem Nb.keep {w u u' : World} {g h : Nat} {rest : List UInt8} {rt : Bool} (q : Nb w g h rest rt u) (hb : Below u.heap.size u u') : Nb w g h rest rt u' :=
  ⟨(hb.block g (Array.getElem?_eq_some_iff.1 q.rb).1).trans q.rb, (hb.block h (Array.getElem?_eq_some_iff.1 q.bb).1).trans q.bb, q.low.trans (hb.mono q.low.size), q.lg, q.lh⟩
theorem Nb.ne {w u : World} {g h : Nat} {rest : List UInt8} {rt : Bool} (q : Nb w g h rest rt u) : g ≠ h := by
  intro e
  have h1 := q.rb
  rw [e, q.bb] at h1
  simp at h1
theorem Nb.cells {w u : World} {g h : Nat} {rest : List UInt8} {rt : Bool} (q : Nb w g h rest rt u) : u.cell? ⟨g, 0, none⟩ = some (.string ⟨rest.toArray⟩) ∧ u.cell? ⟨h, 0, none⟩ = some (.bool rt) := by
  refine ⟨?_, ?_⟩
  · rw [Lib.cell_of_heap q.rb]; rfl
  · rw [Lib.cell_of_heap q.bb]; rfl
theorem Nb.frozen {w u : World} {g h : Nat} {rest : List UInt8} {rt : Bool} (q : Nb w g h rest rt u) : u.frozen? ⟨g, 0, none⟩ = false ∧ u.frozen? ⟨h, 0, none⟩ = false := ⟨Lib.frozen_of_heap q.rb 0, Lib.frozen_of_heap q.bb 0⟩
theorem Nb.setB {w u : World} {g h : Nat} {rest : List UInt8} {rt : Bool} (q : Nb w g h rest rt u) (z : Bool) : Nb w g h rest z (u.setCell ⟨h, 0, none⟩ (.bool z)) := by
  refine ⟨(heap_setCell_other _ _ _ _ q.ne).trans q.rb, heap_setCell_same u h 0 _ _ _ q.bb, q.low.setCell q.lh _, q.lg, q.lh⟩
theorem Nb.setR {w u : World} {g h : Nat} {rest : List UInt8} {rt : Bool} (q : Nb w g h rest rt u) (z : List UInt8) : Nb w g h z rt (u.setCell ⟨g, 0, none⟩ (.string ⟨z.toArray⟩)) := by
  refine ⟨heap_setCell_same u g 0 _ _ _ q.rb, (heap_setCell_other _ _ _ _ q.ne.symm).trans q.bb, q.low.setCell q.lg _, q.lg, q.lh⟩
set_option maxRecDepth 10000 in
set_option maxHeartbeats 4000000 in
theorem number_f (w : World) (g h : Nat) (rest : List UInt8) (rt : Bool) (x : UInt8) (u : World) (q : Nb w g h rest rt u) (hl : rest.length ≤ 1099511627776) (V E : Int) (HV : Hid (Pn.parseV (cA x rest) = V)) (HE : Hid (Pn.parseE (cA x rest) = E)) (R : Bool) (HR : Hid ((rt && cS x rest && decide (E = 0)) = R)) :
    Calls Tryd.prog 52 #[.string ⟨#[x]⟩, .pointer (some ⟨g, 0, none⟩), .pointer (some ⟨h, 0, none⟩)] u fun e w' => e = .returned (.int .i64 V) ∧ Nb w g h (cB x rest) R w' := by
  have hle := (rcut_le x rest).1
  have hC := cutX_f x rest u hl
  have hP := fun u : World => nParse_any (cA x rest) u (by unfold maxLen; omega)
  rw [HV.out, HE.out] at hP
  obtain ⟨a1, ha1⟩ : ∃ z, cA x rest = z := ⟨_, rfl⟩
  obtain ⟨b1, hb1⟩ : ∃ z, cB x rest = z := ⟨_, rfl⟩
  obtain ⟨s1, hs1⟩ : ∃ z, cS x rest = z := ⟨_, rfl⟩
  rw [ha1] at hC hP
  rw [hb1] at hC ⊢
  rw [hs1] at hC HR
  clear ha1 hb1 hs1 HV HE hle
  obtain ⟨c0, _⟩ := q.cells
  go_enter Tryd.func52, Tryd.ntmps52
  go_wp2_with fail
  refine hC.mono ?_
  rintro e w1 ⟨rfl, n, rfl⟩
  have q1 : Nb w g h rest rt (u.drewN n) := q.keep (Below.dN (Below.refl _ u) n)
  generalize u.drewN n = w1 at q1 ⊢
  clear q c0 hC
  go_wp2_with fail
  refine (hP w1).mono ?_
  rintro e w2 ⟨rfl, hb2⟩
  have q2 := q1.keep hb2
  clear q1 hb2
  obtain ⟨_, c2⟩ := q2.cells
  obtain ⟨_, f2⟩ := q2.frozen
  have q3 := q2.setB R
  obtain ⟨c3, _⟩ := q3.cells
  obtain ⟨f3, _⟩ := q3.frozen
  have q4 := q3.setR b1
  have HQ : Hid (Nb w g h b1 R ((w2.setCell ⟨h, 0, none⟩ (.bool R)).setCell ⟨g, 0, none⟩ (.string ⟨b1.toArray⟩))) := q4
  clear q2 q3 q4
  cases rt with
  | false =>
    have hR : R = false := (by rw [← HR.out]; rfl)
    subst hR
    clear HR
    go_wp2
    go_ret
    exact ⟨rfl, HQ.out⟩
  | true =>
    cases s1 with
    | false =>
      have hR : R = false := (by rw [← HR.out]; rfl)
      subst hR
      clear HR
      go_wp2
      go_ret
      exact ⟨rfl, HQ.out⟩
    | true =>
      by_cases hE : E = 0
      · have hR : R = true := (by rw [← HR.out]; simp [hE])
        have e1 : (E == 0) = true := by rw [hE]; rfl
        subst hR
        clear HR hE
        go_wp2
        go_ret
        exact ⟨rfl, HQ.out⟩
      · have hR : R = false := (by rw [← HR.out]; simp [hE])
        have e1 : (E == 0) = false := beq_eq_false_iff_ne.2 hE
        subst hR
        clear HR hE
        go_wp2
        go_ret
        exact ⟨rfl, HQ.out⟩
end Go.Proofs.YtkmgblnofapccaaDoor

/- The code's commandFrom of layer 14, walked: what a line says. -/
namespace Go.Proofs.YtkmgblnofapccaaDoor
open Go.RowKit
attribute [local go_sem] ByteArray.extract_mk no_at

theorem spB_snoc {q : UInt8 → Bool} {z : UInt8} (hz : q z = false) (s : List UInt8) : spB q (s ++ [z]) = match spB q s with | none => none | some (a, d, b) => some (a, d, b ++ [z]) := by
  induction s with
  | nil => simp [spB, hz]
  | cons c s ih =>
    simp only [List.cons_append, spB]
    cases hc : q c with
    | true => simp
    | false =>
      rw [if_neg (by decide), if_neg (by decide), ih]
      cases spB q s with
      | none => rfl
      | some x => rfl
theorem spB_mem {q : UInt8 → Bool} : ∀ {s a b : List UInt8} {d : UInt8}, spB q s = some (a, d, b) → ∀ e ∈ b, e ∈ s
  | [], a, b, d, h => by cases h
  | c :: s, a, b, d, h => by
    simp only [spB] at h
    split at h
    · cases h
      intro e he
      exact List.mem_cons_of_mem _ he
    · split at h
      · cases h
      · rename_i a' d' b' h'
        cases h
        intro e he
        exact List.mem_cons_of_mem _ (spB_mem h' e he)
/-- the numbers that the code finds, and whether all is right -/
def rk1 (t : List UInt8) : List UInt8 := cA 32 t
def rk2 (t : List UInt8) : List UInt8 := cA 10 (cB 32 t)
def rkR (t : List UInt8) : Bool := (true && cS 32 t && decide (Pn.parseE (rk1 t) = 0)) && cS 10 (cB 32 t) && decide (Pn.parseE (rk2 t) = 0)
def rcmK (c : UInt8) (t : List UInt8) : Option (Bool × Nat × Nat) := if rkR t = true ∧ Pn.parseV (rk2 t) ≠ 0 then if c = 97 then some (true, (Pn.parseV (rk1 t)).toNat, (Pn.parseV (rk2 t)).toNat) else if c = 100 ∧ 0 < Pn.parseV (rk1 t) then some (false, (Pn.parseV (rk1 t) - 1).toNat, (Pn.parseV (rk2 t)).toNat) else none else none
theorem fd_cons {c : UInt8} {t : List UInt8} (h : t ≠ []) : fdB (c :: t) = fdB t := by
  cases t with
  | nil => exact absurd rfl h
  | cons d t => simp [fdB]
theorem rcm_code {c : UInt8} {t : List UInt8} (hl : ∀ d ∈ (c :: t).dropLast, d ≠ 10) : rcmF (c :: t) = rcmK c t := by
  have eW : isW = cQ 32 := rfl
  by_cases h0 : t = []
  · subst h0
    have e : rcmK c [] = none := by
      unfold rcmK
      rw [if_neg (fun q => by have := q.1; simp [rkR, cS, spB] at this)]
    rw [e]
    unfold rcmF
    split <;> rfl
  · rw [List.dropLast_cons_of_ne_nil h0] at hl
    unfold rcmF
    rw [fd_cons h0]
    cases hf : fdB t with
    | true =>
      rw [if_pos rfl, List.dropLast_cons_of_ne_nil h0]
      have ht := fd_form hf
      obtain ⟨s, hs⟩ : ∃ s, t.dropLast = s := ⟨_, rfl⟩
      rw [hs] at ht hl ⊢
      have hs10 : ∀ d ∈ s, d ≠ 10 := fun d hd => hl d (List.mem_cons_of_mem _ hd)
      have hsp : spB (cQ 32) t = match spB (cQ 32) s with | none => none | some (a, d, b) => some (a, d, b ++ [10]) := by
        rw [ht]
        exact spB_snoc (by decide) s
      unfold rcmP
      dsimp only
      rw [eW]
      cases hq : spB (cQ 32) s with
      | none =>
        rw [hq] at hsp
        unfold rcmK
        rw [if_neg (fun q => by have := q.1; simp [rkR, cS, hsp] at this)]
      | some x =>
        obtain ⟨a, d, b⟩ := x
        rw [hq] at hsp
        dsimp only at hsp ⊢
        have hb10 : ∀ e ∈ b, cQ 10 e = false := fun e he => by
          unfold cQ
          rw [beq_eq_false_iff_ne]
          exact hs10 e (spB_mem hq e he)
        have h10 : spB (cQ 10) (b ++ [10]) = some (b, 10, []) := spB_app hb10 (by decide)
        have e1 : rk1 t = a := by unfold rk1 cA; rw [hsp]
        have e2 : cB 32 t = b ++ [10] := by unfold cB; rw [hsp]
        have e3 : rk2 t = b := by unfold rk2 cA; rw [e2, h10]
        have e4 : rkR t = (decide (Pn.parseE a = 0) && decide (Pn.parseE b = 0)) := by
          unfold rkR
          rw [e1, e3, e2]
          unfold cS
          rw [hsp, h10]
          simp
        have b2 := @prs_num b
        unfold rcmK
        rw [e4, e1, e3]
        by_cases hg : Pn.parseE a = 0 ∧ Pn.parseE b = 0 ∧ 0 < Pn.parseV b
        · have hg2 : (decide (Pn.parseE a = 0) && decide (Pn.parseE b = 0)) = true ∧ Pn.parseV b ≠ 0 := ⟨by simp [hg.1, hg.2.1], by omega⟩
          rw [if_pos hg, if_pos hg2]
        · rw [if_neg hg, if_neg (fun q => hg (by
            have q1 := q.1
            simp only [Bool.and_eq_true, decide_eq_true_eq] at q1
            exact ⟨q1.1, q1.2, by omega⟩))]
    | false =>
      rw [if_neg (by decide)]
      have ht10 : ∀ d ∈ t, d ≠ 10 := by
        intro d hd e
        subst e
        rcases List.eq_nil_or_concat t with rfl | ⟨s, y, rfl⟩
        · exact h0 rfl
        · rw [List.concat_eq_append] at hd hf hl
          rw [List.dropLast_concat] at hl
          rcases List.mem_append.1 hd with hd | hd
          · exact hl 10 (List.mem_cons_of_mem _ hd) rfl
          · have : y = 10 := (List.mem_singleton.1 hd).symm
            subst this
            rw [fd_snoc] at hf
            cases hf
      have hb : cS 10 (cB 32 t) = false := by
        have hn : spB (cQ 10) (cB 32 t) = none := spB_none (fun e he => by
          unfold cQ
          rw [beq_eq_false_iff_ne]
          unfold cB at he
          cases hq : spB (cQ 32) t with
          | none => rw [hq] at he; cases he
          | some x =>
            obtain ⟨a, d, b⟩ := x
            rw [hq] at he
            exact ht10 e (spB_mem hq e he))
        unfold cS
        rw [hn]
      unfold rcmK
      rw [if_neg (fun q => by have := q.1; simp [rkR, hb] at this)]
/-- how commandFrom ends -/
def RcmQ (w : World) (r : Option (Bool × Nat × Nat)) (e : Ending) (w' : World) : Prop := Below w.heap.size w w' ∧ match r with
  | none => e = .returned (.tuple #[.agg #[.int .i64 0, .int .i64 0, .int .i64 0], .bool false])
  | some (true, ah, n) => e = .returned (.tuple #[.agg #[.int .i64 (ah : Int), .int .i64 0, .int .i64 (n : Int)], .bool true])
  | some (false, ah, n) => e = .returned (.tuple #[.agg #[.int .i64 (ah : Int), .int .i64 (n : Int), .int .i64 0], .bool true])
theorem rc_tail1 (c : UInt8) (t : List UInt8) (u : World) : (Instr.slice 9 (.string ⟨(c :: t).toArray⟩) (some (.int .i64 1)) none none).run Tryd.prog u = .ok (.string ⟨t.toArray⟩) u := by
  rw [run_slice_string_l (P := Tryd.prog) u 9 ⟨(c :: t).toArray⟩ Tryd.underlying9 .i64 1 (by decide) (by show (1 : Int) ≤ ((t.length + 1 : Nat) : Int); omega)]
  have hs : (⟨(c :: t).toArray⟩ : ByteArray).size = t.length + 1 := rfl
  rw [hs, ByteArray.extract_mk]
  simp
theorem rc_head1 (c : UInt8) (t : List UInt8) (u : World) : (Instr.slice 9 (.string ⟨(c :: t).toArray⟩) none (some (.int .i64 1)) none).run Tryd.prog u = .ok (.string ⟨#[c]⟩) u := by
  rw [run_slice_string_h (P := Tryd.prog) u 9 ⟨(c :: t).toArray⟩ Tryd.underlying9 .i64 1 (by decide) (by show (1 : Int) ≤ ((t.length + 1 : Nat) : Int); omega)]
  rw [ByteArray.extract_mk]
  simp
/-- a command in a box -/
def Rcb (u : World) (B : Nat) (v0 v1 v2 : Value) : Prop := u.heap[B]? = some (.cells #[v0, v1, v2] 81 (0, 0))
section
variable {u u' : World} {B : Nat} {v0 v1 v2 : Value}
theorem Rcb.lt (h : Rcb u B v0 v1 v2) : B < u.heap.size := (Array.getElem?_eq_some_iff.1 h).1
theorem Rcb.low (h : Rcb u B v0 v1 v2) {N : Nat} (hg : Below N u u') (hN : B < N) : Rcb u' B v0 v1 v2 := (hg.block B hN).trans h
theorem Rcb.cells (h : Rcb u B v0 v1 v2) : u.cell? ⟨B, 0, none⟩ = some v0 ∧ u.cell? ⟨B, 1, none⟩ = some v1 ∧ u.cell? ⟨B, 2, none⟩ = some v2 := by
  unfold Rcb at h
  exact ⟨by rw [Lib.cell_of_heap h]; rfl, by rw [Lib.cell_of_heap h]; rfl, by rw [Lib.cell_of_heap h]; rfl⟩
theorem Rcb.frozen (h : Rcb u B v0 v1 v2) (j : Nat) : u.frozen? ⟨B, j, none⟩ = false := by
  unfold Rcb at h
  simp [World.frozen?, h]
theorem Rcb.put (h : Rcb u B v0 v1 v2) (z0 z1 z2 : Value) : Rcb (((u.setCell ⟨B, 0, none⟩ z0).setCell ⟨B, 1, none⟩ z1).setCell ⟨B, 2, none⟩ z2) B z0 z1 z2 := by
  have s1 := heap_setCell_same u B 0 _ _ z0 h
  have s2 := heap_setCell_same _ B 1 _ _ z1 s1
  exact heap_setCell_same _ B 2 _ _ z2 s2
end
theorem rcb_low {w u : World} (h : Below w.heap.size w u) (z0 z1 z2 : Value) : Below w.heap.size w (((u.setCell ⟨w.heap.size, 0, none⟩ z0).setCell ⟨w.heap.size, 1, none⟩ z1).setCell ⟨w.heap.size, 2, none⟩ z2) :=
  ((h.setCell (Nat.le_refl _) _).setCell (Nat.le_refl _) _).setCell (Nat.le_refl _) _
theorem rcr_cell {P : Program} {fn : Func} {p q : Tmp} {ty : TypeId} (h : fn.results = #[.cell p ty, .tmp q]) (tmps : Array Value) (w : World) (g : Nat) (t : TypeId) (cs : Array Value) (fr : Nat × Nat) (d : TypeDesc)
    (hp : tmps.getD p undef = .pointer (some ⟨g, 0, none⟩)) (hg : w.heap[g]? = some (.cells cs t fr))
    (hu : P.underlying ty = some d) (hd : (match d with | .struct _ | .array _ _ => true | _ => false) = true) (hi : (P.info? ty).map (·.size) = some cs.size) :
    (results fn tmps).run P w = .ok (.tuple #[.agg cs, tmps.getD q undef]) w := by
  have hp' : tmps[p]?.getD undef = .pointer (some ⟨g, 0, none⟩) := by simpa using hp
  simp [results, h, hp', asAddr, run_loadVar_row w g t ty cs fr d hg hu hd hi]
theorem nb_new (w : World) (t : List UInt8) : Nb w w.heap.size (w.heap.size + 1) t true ((w.alloc (.cells #[.string ⟨t.toArray⟩] 9)).alloc (.cells #[.bool true] 4)).drew := by
  have b1 : Below w.heap.size w (w.alloc (.cells #[.string ⟨t.toArray⟩] 9)) := (Below.refl _ w).alloc (Nat.le_refl _) _
  have h1 := heap_alloc_new w (.cells #[.string ⟨t.toArray⟩] 9)
  have b2 : Below (w.alloc (.cells #[.string ⟨t.toArray⟩] 9)).heap.size (w.alloc (.cells #[.string ⟨t.toArray⟩] 9)) ((w.alloc (.cells #[.string ⟨t.toArray⟩] 9)).alloc (.cells #[.bool true] 4)) := (Below.refl _ _).alloc (Nat.le_refl _) _
  have h2 := heap_alloc_new (w.alloc (.cells #[.string ⟨t.toArray⟩] 9)) (.cells #[.bool true] 4)
  rw [World.size_alloc] at h2
  exact ⟨(b2.block _ (by rw [World.size_alloc]; omega)).trans h1, h2, (b1.trans (b2.mono b1.size)).drew, Nat.le_refl _, by omega⟩
theorem nb_new2 (w : World) (t : List UInt8) : Nb w (w.heap.size + 1) w.heap.size t true ((w.alloc (.cells #[.bool true] 4)).alloc (.cells #[.string ⟨t.toArray⟩] 9)).drew := by
  have b1 : Below w.heap.size w (w.alloc (.cells #[.bool true] 4)) := (Below.refl _ w).alloc (Nat.le_refl _) _
  have h1 := heap_alloc_new w (.cells #[.bool true] 4)
  have b2 : Below (w.alloc (.cells #[.bool true] 4)).heap.size (w.alloc (.cells #[.bool true] 4)) ((w.alloc (.cells #[.bool true] 4)).alloc (.cells #[.string ⟨t.toArray⟩] 9)) := (Below.refl _ _).alloc (Nat.le_refl _) _
  have h2 := heap_alloc_new (w.alloc (.cells #[.bool true] 4)) (.cells #[.string ⟨t.toArray⟩] 9)
  rw [World.size_alloc] at h2
  exact ⟨h2, (b2.block _ (by rw [World.size_alloc]; omega)).trans h1, (b1.trans (b2.mono b1.size)).drew, by omega, Nat.le_refl _⟩
set_option maxRecDepth 10000 in
set_option maxHeartbeats 8000000 in
theorem rcFrom_f (c : UInt8) (t : List UInt8) (w : World) (hl : t.length ≤ 1099511627776) (r : Option (Bool × Nat × Nat)) (HR : Hid (rcmK c t = r)) :
    Calls Tryd.prog 38 #[.string ⟨(c :: t).toArray⟩] w fun e w' => RcmQ w r e w' := by
  have hs1 := rc_head1 c t
  have hs2 := rc_tail1 c t
  obtain ⟨L, hL⟩ : ∃ L, (c :: t).toArray = L := ⟨_, rfl⟩
  rw [hL] at hs1 hs2 ⊢
  clear hL
  have b1 := @prs_num (rk1 t)
  have b2 := @prs_num (rk2 t)
  obtain ⟨V1, hV1⟩ : ∃ V, Pn.parseV (rk1 t) = V := ⟨_, rfl⟩
  obtain ⟨V2, hV2⟩ : ∃ V, Pn.parseV (rk2 t) = V := ⟨_, rfl⟩
  obtain ⟨E1, hE1⟩ : ∃ V, Pn.parseE (rk1 t) = V := ⟨_, rfl⟩
  obtain ⟨E2, hE2⟩ : ∃ V, Pn.parseE (rk2 t) = V := ⟨_, rfl⟩
  obtain ⟨R1, hR1⟩ : ∃ R, (true && cS 32 t && decide (E1 = 0)) = R := ⟨_, rfl⟩
  obtain ⟨R2, hR2⟩ : ∃ R, (R1 && cS 10 (cB 32 t) && decide (E2 = 0)) = R := ⟨_, rfl⟩
  have HK : Hid ((if R2 = true ∧ V2 ≠ 0 then if c = 97 then some (true, V1.toNat, V2.toNat) else if c = 100 ∧ 0 < V1 then some (false, (V1 - 1).toNat, V2.toNat) else none else none) = r) := (by
    show _ = _
    rw [← HR.out]
    unfold rcmK rkR
    rw [hV1, hV2, hE1, hE2, hR1, hR2])
  have HV1 : Hid (Pn.parseV (cA 32 t) = V1) := hV1
  have HV2 : Hid (Pn.parseV (cA 10 (cB 32 t)) = V2) := hV2
  have HE1 : Hid (Pn.parseE (cA 32 t) = E1) := hE1
  have HE2 : Hid (Pn.parseE (cA 10 (cB 32 t)) = E2) := hE2
  have HR1 : Hid ((true && cS 32 t && decide (E1 = 0)) = R1) := hR1
  have HR2 : Hid ((R1 && cS 10 (cB 32 t) && decide (E2 = 0)) = R2) := hR2
  have hle := (rcut_le 32 t).2
  rw [hV1] at b1
  rw [hV2] at b2
  clear hV1 hV2 hE1 hE2 hR1 hR2 HR
  have hb0 : Below w.heap.size w (w.alloc (.cells #[.int .i64 0, .int .i64 0, .int .i64 0] 81)) := (Below.refl _ w).alloc (Nat.le_refl _) _
  have hc0 : Rcb (w.alloc (.cells #[.int .i64 0, .int .i64 0, .int .i64 0] 81)) w.heap.size (.int .i64 0) (.int .i64 0) (.int .i64 0) := _root_.Go.heap_alloc_new w _
  have hsz : (w.alloc (.cells #[.int .i64 0, .int .i64 0, .int .i64 0] 81)).heap.size = w.heap.size + 1 := World.size_alloc _ _
  go_enter Tryd.func38, Tryd.ntmps38
  go_upto_region 1 with fail
  generalize w.alloc (.cells #[.int .i64 0, .int .i64 0, .int .i64 0] 81) = W at hb0 hc0 hsz ⊢
  go_cut [4, 5, 6] (fun x p q wz => x = .string ⟨#[c]⟩ ∧ ∃ g h, p = .pointer (some ⟨g, 0, none⟩) ∧ q = .pointer (some ⟨h, 0, none⟩) ∧ Nb W g h t true wz)
  case first =>
    go_region
    · go_wp2
      go_meet
      exact ⟨rfl, _, _, rfl, rfl, by rw [← hsz]; exact nb_new W t⟩
    · go_wp2
      go_meet
      exact ⟨rfl, _, _, rfl, rfl, by rw [← hsz]; exact nb_new2 W t⟩
  case rest =>
    obtain ⟨rfl, g, h, rfl, rfl, hq⟩ := hcut
    have hl1 : (cB 32 t).length ≤ 1099511627776 := by omega
    go_wp2_with fail
    refine (number_f W g h t true 32 wc hq hl V1 E1 HV1 HE1 R1 HR1).mono ?_
    rintro e w1 ⟨rfl, hq1⟩
    obtain ⟨t1, ht1⟩ : ∃ z, cB 32 t = z := ⟨_, rfl⟩
    rw [ht1] at hq1 hl1 HV2 HE2 HR2
    clear ht1 hq HV1 HE1 HR1 hle
    go_wp2_with fail
    refine (number_f W g h t1 R1 10 w1 hq1 hl1 V2 E2 HV2 HE2 R2 HR2).mono ?_
    rintro e w2 ⟨rfl, hq2⟩
    have hc2 : Rcb w2 w.heap.size (.int .i64 0) (.int .i64 0) (.int .i64 0) := hc0.low hq2.low (by omega)
    have hlow := hb0.trans (hq2.low.mono hb0.size)
    obtain ⟨_, d⟩ := hq2.cells
    obtain ⟨c0, c1, c2⟩ := hc2.cells
    have f0 := hc2.frozen 0
    have f1 := hc2.frozen 1
    have f2 := hc2.frozen 2
    clear hq1 hq2 HV2 HE2 HR2 hc0 hb0
    have hk := HK.out
    clear HK
    cases R2 with
    | false =>
      rw [if_neg (fun q => by cases q.1)] at hk
      subst hk
      have hP := hc2.put (.int .i64 0) (.int .i64 0) (.int .i64 0)
      go_wp2
      refine bodyPost_ret (rcr_cell rfl _ _ w.heap.size 81 #[(.int .i64 0), (.int .i64 0), (.int .i64 0)] (0, 0) _ rfl hP Tryd.underlying81 rfl (by kernel_rfl)) rfl ?_
      exact ⟨rcb_low hlow _ _ _, rfl⟩
    | true =>
      by_cases h2 : V2 = 0
      · rw [if_neg (fun q => q.2 h2)] at hk
        subst hk
        have e2 : (V2 == 0) = true := by rw [h2]; rfl
        have hP := hc2.put (.int .i64 0) (.int .i64 0) (.int .i64 0)
        go_wp2
        refine bodyPost_ret (rcr_cell rfl _ _ w.heap.size 81 #[(.int .i64 0), (.int .i64 0), (.int .i64 0)] (0, 0) _ rfl hP Tryd.underlying81 rfl (by kernel_rfl)) rfl ?_
        exact ⟨rcb_low hlow _ _ _, rfl⟩
      · rw [if_pos ⟨rfl, h2⟩] at hk
        have e2 : (V2 == 0) = false := beq_eq_false_iff_ne.2 h2
        obtain ⟨m, rfl⟩ := Int.eq_ofNat_of_zero_le (by omega : 0 ≤ V2)
        rw [Int.toNat_natCast] at hk
        by_cases h97 : c = 97
        · rw [if_pos h97] at hk
          obtain ⟨n, rfl⟩ := Int.eq_ofNat_of_zero_le (by omega : 0 ≤ V1)
          rw [Int.toNat_natCast] at hk
          subst hk
          subst h97
          have hP := hc2.put (.int .i64 (n : Int)) (.int .i64 0) (.int .i64 (m : Int))
          go_wp2
          refine bodyPost_ret (rcr_cell rfl _ _ w.heap.size 81 #[(.int .i64 (n : Int)), (.int .i64 0), (.int .i64 (m : Int))] (0, 0) _ rfl hP Tryd.underlying81 rfl (by kernel_rfl)) rfl ?_
          exact ⟨rcb_low hlow _ _ _, rfl⟩
        · rw [if_neg h97] at hk
          have e3 : (c == 97) = false := beq_eq_false_iff_ne.2 h97
          have e4 : ([c] == [97]) = false := beq_eq_false_iff_ne.2 (by simpa using h97)
          by_cases h100 : c = 100
          · subst h100
            by_cases h1 : 0 < V1
            · rw [if_pos ⟨rfl, h1⟩] at hk
              obtain ⟨n, hn⟩ := Int.eq_ofNat_of_zero_le (by omega : 0 ≤ V1 - 1)
              have hw : IntKind.i64.wrap (V1 - 1) = (n : Int) := by rw [← hn]; exact rc_wrap (by omega) (by omega)
              rw [hn, Int.toNat_natCast] at hk
              subst hk
              have hn2 : V1 = (n : Int) + 1 := by omega
              subst hn2
              clear hn
              rw [Int.add_sub_cancel] at hw
              have hP := hc2.put (.int .i64 (n : Int)) (.int .i64 (m : Int)) (.int .i64 0)
              go_wp2
              refine bodyPost_ret (rcr_cell rfl _ _ w.heap.size 81 #[(.int .i64 (n : Int)), (.int .i64 (m : Int)), (.int .i64 0)] (0, 0) _ rfl hP Tryd.underlying81 rfl (by kernel_rfl)) rfl ?_
              exact ⟨rcb_low hlow _ _ _, rfl⟩
            · rw [if_neg (fun q => h1 q.2)] at hk
              subst hk
              have hP := hc2.put (.int .i64 0) (.int .i64 0) (.int .i64 0)
              go_wp2
              refine bodyPost_ret (rcr_cell rfl _ _ w.heap.size 81 #[(.int .i64 0), (.int .i64 0), (.int .i64 0)] (0, 0) _ rfl hP Tryd.underlying81 rfl (by kernel_rfl)) rfl ?_
              exact ⟨rcb_low hlow _ _ _, rfl⟩
          · rw [if_neg (fun q => h100 q.1)] at hk
            subst hk
            have e5 : (c == 100) = false := beq_eq_false_iff_ne.2 h100
            have e6 : ([c] == [100]) = false := beq_eq_false_iff_ne.2 (by simpa using h100)
            have hP := hc2.put (.int .i64 0) (.int .i64 0) (.int .i64 0)
            go_wp2
            refine bodyPost_ret (rcr_cell rfl _ _ w.heap.size 81 #[(.int .i64 0), (.int .i64 0), (.int .i64 0)] (0, 0) _ rfl hP Tryd.underlying81 rfl (by kernel_rfl)) rfl ?_
            exact ⟨rcb_low hlow _ _ _, rfl⟩
end Go.Proofs.YtkmgblnofapccaaDoor

/- The reference's reader of lines, walked: its place, its first fault; the next line. -/
namespace Go.Proofs.YtkmgblnofapccaaDoor
open Go.RowKit

/-- a reader: its lines, where it stands, its fault -/
def rdO (vL : Value) (p fa fe : Int) : Obj := .cells #[vL, .int .i64 p, .int .i64 fa, .int .i64 fe] 67
def Rx (u : World) (R : Nat) (vL : Value) (p fa fe : Int) : Prop := u.heap[R]? = some (rdO vL p fa fe)
section
variable {u u' : World} {R : Nat} {vL : Value} {p fa fe : Int}
theorem Rx.cells (q : Rx u R vL p fa fe) : u.cell? ⟨R, 0, none⟩ = some vL ∧ u.cell? ⟨R, 1, none⟩ = some (.int .i64 p) ∧ u.cell? ⟨R, 2, none⟩ = some (.int .i64 fa) ∧ u.cell? ⟨R, 3, none⟩ = some (.int .i64 fe) := by
  unfold Rx rdO at q
  refine ⟨?_, ?_, ?_, ?_⟩ <;> rw [Lib.cell_of_heap q] <;> rfl
theorem Rx.frozen (q : Rx u R vL p fa fe) (j : Nat) : u.frozen? ⟨R, j, none⟩ = false := Lib.frozen_of_heap q j
theorem Rx.lt (q : Rx u R vL p fa fe) : R < u.heap.size := (Array.getElem?_eq_some_iff.1 q).1
theorem Rx.dN (q : Rx u R vL p fa fe) (n : Nat) : Rx (u.drewN n) R vL p fa fe := q
theorem Rx.at (q : Rx u R vL p fa fe) (p' : Int) : Rx (u.setCell ⟨R, 1, none⟩ (.int .i64 p')) R vL p' fa fe := heap_setCell_same u R 1 _ _ (.int .i64 p') q
theorem Rx.fault (q : Rx u R vL p fa fe) (x y : Int) : Rx ((u.setCell ⟨R, 2, none⟩ (.int .i64 x)).setCell ⟨R, 3, none⟩ (.int .i64 y)) R vL p x y := heap_setCell_same _ R 3 _ _ (.int .i64 y) (heap_setCell_same u R 2 _ _ (.int .i64 x) q)
end
theorem grown_two {w u v : World} {r : Option Nat} (h : w.grownBy u r) (h' : u.grownBy v r) : w.grownBy v r :=
  ⟨h'.os.trans h.os, h'.tape.trans h.tape, h'.output.trans h.output, Nat.le_trans h.size h'.size, fun k hk hr => (h'.block k (Nat.lt_of_lt_of_le hk h.size) hr).trans (h.block k hk hr)⟩
set_option maxHeartbeats 1000000 in
theorem rFail_ok {R : Nat} {vL : Value} {p fa : Int} (e : Int) (w : World) (q : Rx w R vL p fa 0) :
    Calls Tryd.prog 28 #[.pointer (some ⟨R, 0, none⟩), .int .i64 e] w fun x w' => x = .returned (.tuple #[]) ∧ Rx w' R vL p p e ∧ w.grownBy w' (some R) := by
  obtain ⟨c0, c1, c2, c3⟩ := q.cells
  have f2 := q.frozen 2
  have f3 := q.frozen 3
  have HQ : Hid (Rx ((w.setCell ⟨R, 2, none⟩ (.int .i64 p)).setCell ⟨R, 3, none⟩ (.int .i64 e)) R vL p p e ∧ w.grownBy ((w.setCell ⟨R, 2, none⟩ (.int .i64 p)).setCell ⟨R, 3, none⟩ (.int .i64 e)) (some R)) := ⟨q.fault p e, grown_two (grown_set w R 2 _) (grown_set _ R 3 _)⟩
  clear q
  go_enter Tryd.func28, Tryd.ntmps28
  go_wp2
  go_end0
  exact ⟨rfl, HQ.out⟩
set_option maxHeartbeats 1000000 in
theorem rFail_no {R : Nat} {vL : Value} {p fa fe : Int} (e : Int) (w : World) (q : Rx w R vL p fa fe) (hf : fe ≠ 0) :
    Calls Tryd.prog 28 #[.pointer (some ⟨R, 0, none⟩), .int .i64 e] w fun x w' => x = .returned (.tuple #[]) ∧ w' = w := by
  obtain ⟨c0, c1, c2, c3⟩ := q.cells
  have h1 : (fe == 0) = false := beq_eq_false_iff_ne.2 hf
  clear q
  go_enter Tryd.func28, Tryd.ntmps28
  go_wp2
  go_end0
  exact ⟨rfl, rfl⟩
set_option maxHeartbeats 1000000 in
theorem rMore_f {R : Nat} {L : List (List UInt8)} {lo : Option Addr} {lc : Nat} {p : Nat} {fa fe : Int} (w : World) (q : Rx w R (.slice lo L.length lc) p fa fe) :
    Calls Tryd.prog 25 #[.pointer (some ⟨R, 0, none⟩)] w fun x w' => x = .returned (.bool (decide (fe = 0) && decide (p < L.length))) ∧ ∃ m, w' = w.drewN m := by
  obtain ⟨c0, c1, c2, c3⟩ := q.cells
  clear q
  by_cases hf : fe = 0
  · have h1 : (fe == 0) = true := by rw [hf]; rfl
    have h2 : decide (fe = 0) = true := decide_eq_true hf
    rw [h2]
    by_cases hp : p < L.length
    · have h3 : decide (p < L.length) = true := decide_eq_true hp
      have h4 : decide ((p : Int) < (L.length : Int)) = true := decide_eq_true (by omega)
      rw [h3]
      clear hf
      go_enter Tryd.func25, Tryd.ntmps25
      go_wp2_with fail
      go_quiet (fail)
      go_wp2
      go_ret
      exact ⟨rfl, _, rfl⟩
    · have h3 : decide (p < L.length) = false := decide_eq_false hp
      have h4 : decide ((p : Int) < (L.length : Int)) = false := decide_eq_false (by omega)
      rw [h3]
      clear hf
      go_enter Tryd.func25, Tryd.ntmps25
      go_wp2_with fail
      go_quiet (fail)
      go_wp2
      go_ret
      exact ⟨rfl, _, rfl⟩
  · have h1 : (fe == 0) = false := beq_eq_false_iff_ne.2 hf
    have h2 : decide (fe = 0) = false := decide_eq_false hf
    rw [h2]
    go_enter Tryd.func25, Tryd.ntmps25
    go_wp2_with fail
    go_quiet (fail)
    go_wp2
    go_ret
    exact ⟨rfl, _, rfl⟩

set_option maxHeartbeats 4000000 in
theorem rNext_no {R : Nat} {vL : Value} {p fa fe : Int} (w : World) (q : Rx w R vL p fa fe) (hf : fe ≠ 0) :
    Calls Tryd.prog 27 #[.pointer (some ⟨R, 0, none⟩)] w fun x w' => x = .returned (.string ⟨#[]⟩) ∧ w' = w := by
  obtain ⟨c0, c1, c2, c3⟩ := q.cells
  have h1 : (fe != 0) = true := bne_iff_ne.2 hf
  clear q
  go_enter Tryd.func27, Tryd.ntmps27
  go_wp2
  go_ret
  exact ⟨rfl, rfl⟩
theorem nxt_drop {L : List (List UInt8)} {p : Nat} (hp : p < L.length) : nxt p (L.drop p) = if fdB L[p] = true then .ok (L[p].dropLast, L.drop (p + 1)) else .error (p + 1, 3) := by
  rw [List.drop_eq_getElem_cons hp]
  rfl
theorem nxt_end {L : List (List UInt8)} {p : Nat} (hp : L.length ≤ p) : nxt p (L.drop p) = .error (p + 1, 1) := by
  rw [List.drop_eq_nil_of_le hp]
  rfl
theorem rBare_same (s : List UInt8) (hf : fdB s = true) (hs : s.length ≤ 1099511627776) (w : World) : Calls Tryd.prog 43 #[.string ⟨s.toArray⟩] w fun e w' => e = .returned (.tuple #[.string ⟨s.dropLast.toArray⟩, .bool true]) ∧ w' = w := by
  have eb : bareT s = s.dropLast := by unfold bareT; rw [if_pos hf]
  refine (rBare_f s w (by omega)).mono ?_
  rintro e w' ⟨rfl, rfl⟩
  rw [eb, hf]
  exact ⟨rfl, rfl⟩
theorem rBare_bad (s : List UInt8) (hf : fdB s = false) (hs : s.length ≤ 1099511627776) (w : World) : Calls Tryd.prog 43 #[.string ⟨s.toArray⟩] w fun e w' => e = .returned (.tuple #[.string ⟨s.toArray⟩, .bool false]) ∧ w' = w := by
  have eb : bareT s = s := by unfold bareT; rw [if_neg (by rw [hf]; decide)]
  refine (rBare_f s w (by omega)).mono ?_
  rintro e w' ⟨rfl, rfl⟩
  rw [eb, hf]
  exact ⟨rfl, rfl⟩
set_option maxHeartbeats 4000000 in
theorem rNext_end {R : Nat} {L : List (List UInt8)} {lo : Option Addr} {lc : Nat} {p : Nat} {fa : Int} (w : World) (q : Rx w R (.slice lo L.length lc) p fa 0) (_hL : HS w (.slice lo L.length lc) L) (_hR : ∀ a, lo = some a → a.block ≠ R) (hp : p ≤ 4398046511104) (hlt : L.length ≤ p) :
    Calls Tryd.prog 27 #[.pointer (some ⟨R, 0, none⟩)] w fun x w' => x = .returned (.string ⟨#[]⟩) ∧ Rx w' R (.slice lo L.length lc) ((p : Int) + 1) ((p : Int) + 1) 1 ∧ w.grownBy w' (some R) := by
  obtain ⟨c0, c1, c2, c3⟩ := q.cells
  have f1 := q.frozen 1
  have q1 := q.at ((p : Int) + 1)
  have g1 := grown_set w R 1 (.int .i64 ((p : Int) + 1))
  clear q
  go_enter Tryd.func27, Tryd.ntmps27
  go_upto_region 4 with fail
  generalize w.setCell ⟨R, 1, none⟩ (.int .i64 ((p : Int) + 1)) = W1 at q1 g1 ⊢
  obtain ⟨d0, d1, d2, d3⟩ := q1.cells
  have i0 : (L.length : Int) < (p : Int) + 1 := by omega
  clear c0 c1 c2 c3
  go_quiet (fail)
  go_wp2_with fail
  refine (rFail_ok 1 _ (q1.dN _)).mono ?_
  rintro e w2 ⟨rfl, q2, g2⟩
  go_wp2
  go_ret
  exact ⟨rfl, q2, grown_two (grown_drewN g1 _) g2⟩
set_option maxHeartbeats 4000000 in
theorem rNext_ok {R : Nat} {L : List (List UInt8)} {lo : Option Addr} {lc : Nat} {p : Nat} {fa : Int} (w : World) (q : Rx w R (.slice lo L.length lc) p fa 0) (hL : HS w (.slice lo L.length lc) L) (hR : ∀ a, lo = some a → a.block ≠ R) (hp : p ≤ 4398046511104) (hlt : p < L.length) {s : List UInt8} (hs : L[p] = s) (hsl : s.length ≤ 1099511627776) (hf : fdB s = true) :
    Calls Tryd.prog 27 #[.pointer (some ⟨R, 0, none⟩)] w fun x w' => x = .returned (.string ⟨s.dropLast.toArray⟩) ∧ Rx w' R (.slice lo L.length lc) ((p : Int) + 1) fa 0 ∧ w.grownBy w' (some R) := by
  obtain ⟨c0, c1, c2, c3⟩ := q.cells
  have f1 := q.frozen 1
  have q1 := q.at ((p : Int) + 1)
  have g1 := grown_set w R 1 (.int .i64 ((p : Int) + 1))
  clear q
  go_enter Tryd.func27, Tryd.ntmps27
  go_upto_region 4 with fail
  generalize w.setCell ⟨R, 1, none⟩ (.int .i64 ((p : Int) + 1)) = W1 at q1 g1 ⊢
  obtain ⟨d0, d1, d2, d3⟩ := q1.cells
  obtain ⟨bk, off, rfl, hbk, hcl⟩ := HS.at hL (by omega)
  have d4 := hcl p hlt
  have hRb : bk ≠ R := hR ⟨bk, off, none⟩ rfl
  have d5 : W1.cell? ⟨bk, off + p, none⟩ = some (.string ⟨L[p].toArray⟩) := (World.cell?_of_block (w := w) (g1.block bk hbk (fun e => hRb (Option.some.inj e)))).trans d4
  clear hcl d4 c0 c1 c2 c3 hL hR
  rw [hs] at d5
  have i0 : ¬ (L.length : Int) < (p : Int) + 1 := by omega
  have e1 : (p : Int) + 1 - 1 = (p : Int) := by omega
  have i1 : 0 ≤ (p : Int) := by omega
  have i2 : (p : Int) < (L.length : Int) := by omega
  have e3 : IntKind.i64.wrap (p : Int) = (p : Int) := (by simp [IntKind.wrap, IntKind.bits, IntKind.signed]; omega)
  have e4 : wrap64 (p : Int) = (p : Int) := by unfold wrap64; omega
  go_quiet (fail)
  go_wp2_with fail
  have q2 := q1.dN nq
  have g2 := grown_drewN g1 nq
  have d6 : (W1.drewN nq).cell? ⟨bk, off + p, none⟩ = some (.string ⟨s.toArray⟩) := d5
  clear q1 g1 d5 d0 d1 d2 d3
  generalize W1.drewN nq = W2 at q2 g2 d6 ⊢
  obtain ⟨d0, d1, d2, d3⟩ := q2.cells
  have j1 : (0 : Int) ≤ (p : Int) := by omega
  have j2 : (p : Int) < (L.length : Int) := by omega
  have j3 : (p : Int).toNat = p := by omega
  go_quiet ((go_at_call 43; exact Calls.quiet_of_same (rBare_same s hf hsl _)))
  go_wp2
  go_ret
  exact ⟨rfl, q2.dN _, grown_drewN g2 _⟩
set_option maxHeartbeats 4000000 in
theorem rNext_bad {R : Nat} {L : List (List UInt8)} {lo : Option Addr} {lc : Nat} {p : Nat} {fa : Int} (w : World) (q : Rx w R (.slice lo L.length lc) p fa 0) (hL : HS w (.slice lo L.length lc) L) (hR : ∀ a, lo = some a → a.block ≠ R) (hp : p ≤ 4398046511104) (hlt : p < L.length) {s : List UInt8} (hs : L[p] = s) (hsl : s.length ≤ 1099511627776) (hf : fdB s = false) :
    Calls Tryd.prog 27 #[.pointer (some ⟨R, 0, none⟩)] w fun x w' => x = .returned (.string ⟨#[]⟩) ∧ Rx w' R (.slice lo L.length lc) ((p : Int) + 1) ((p : Int) + 1) 3 ∧ w.grownBy w' (some R) := by
  obtain ⟨c0, c1, c2, c3⟩ := q.cells
  have f1 := q.frozen 1
  have q1 := q.at ((p : Int) + 1)
  have g1 := grown_set w R 1 (.int .i64 ((p : Int) + 1))
  clear q
  go_enter Tryd.func27, Tryd.ntmps27
  go_upto_region 4 with fail
  generalize w.setCell ⟨R, 1, none⟩ (.int .i64 ((p : Int) + 1)) = W1 at q1 g1 ⊢
  obtain ⟨d0, d1, d2, d3⟩ := q1.cells
  obtain ⟨bk, off, rfl, hbk, hcl⟩ := HS.at hL (by omega)
  have d4 := hcl p hlt
  have hRb : bk ≠ R := hR ⟨bk, off, none⟩ rfl
  have d5 : W1.cell? ⟨bk, off + p, none⟩ = some (.string ⟨L[p].toArray⟩) := (World.cell?_of_block (w := w) (g1.block bk hbk (fun e => hRb (Option.some.inj e)))).trans d4
  clear hcl d4 c0 c1 c2 c3 hL hR
  rw [hs] at d5
  have i0 : ¬ (L.length : Int) < (p : Int) + 1 := by omega
  have e1 : (p : Int) + 1 - 1 = (p : Int) := by omega
  have i1 : 0 ≤ (p : Int) := by omega
  have i2 : (p : Int) < (L.length : Int) := by omega
  have e3 : IntKind.i64.wrap (p : Int) = (p : Int) := (by simp [IntKind.wrap, IntKind.bits, IntKind.signed]; omega)
  have e4 : wrap64 (p : Int) = (p : Int) := by unfold wrap64; omega
  go_quiet (fail)
  go_wp2_with fail
  have q2 := q1.dN nq
  have g2 := grown_drewN g1 nq
  have d6 : (W1.drewN nq).cell? ⟨bk, off + p, none⟩ = some (.string ⟨s.toArray⟩) := d5
  clear q1 g1 d5 d0 d1 d2 d3
  generalize W1.drewN nq = W2 at q2 g2 d6 ⊢
  obtain ⟨d0, d1, d2, d3⟩ := q2.cells
  have j1 : (0 : Int) ≤ (p : Int) := by omega
  have j2 : (p : Int) < (L.length : Int) := by omega
  have j3 : (p : Int).toNat = p := by omega
  go_quiet ((go_at_call 43; exact Calls.quiet_of_same (rBare_bad s hf hsl _)))
  go_wp2_with fail
  refine (rFail_ok 3 _ (q2.dN _)).mono ?_
  rintro e w2 ⟨rfl, q3, g3⟩
  go_wp2
  go_ret
  exact ⟨rfl, q3, grown_two (grown_drewN g2 _) g3⟩
end Go.Proofs.YtkmgblnofapccaaDoor

/- The reference's reader, walked: does the next line begin with some bytes? -/
namespace Go.Proofs.YtkmgblnofapccaaDoor
open Go.RowKit
attribute [local go_sem] ByteArray.extract_mk no_at

theorem pre_take (sg l : List UInt8) : sg.isPrefixOf l = (decide (sg.length ≤ l.length) && (l.take sg.length == sg)) := by
  rw [Bool.eq_iff_iff, List.isPrefixOf_iff_prefix, Bool.and_eq_true, decide_eq_true_eq, beq_iff_eq]
  constructor
  · rintro ⟨t, rfl⟩
    simp
  · rintro ⟨_, h⟩
    refine ⟨l.drop sg.length, ?_⟩
    have h2 := List.take_append_drop sg.length l
    rw [h] at h2
    exact h2
end Go.Proofs.YtkmgblnofapccaaDoor

/- The reference's reader, walked: a line with a sign, behind which the mark may stand. -/
namespace Go.Proofs.YtkmgblnofapccaaDoor
open Go.RowKit
attribute [local go_sem] ByteArray.extract_mk no_at

theorem HS.away {w w' : World} {R : Nat} {lo : Option Addr} {lc : Nat} {L : List (List UInt8)} (h : HS w (.slice lo L.length lc) L) (hg : w.grownBy w' (some R)) (hR : ∀ a, lo = some a → a.block ≠ R) : HS w' (.slice lo L.length lc) L := by
  rcases h with h | ⟨ad, c, hv, hnc, hc⟩
  · exact .inl h
  · refine .inr ⟨ad, c, hv, hnc, fun j u hj => ?_⟩
    cases hv
    have h1 := hc j u hj
    have hb : (ad.add j).block = ad.block := by unfold Addr.add; split <;> rfl
    have hlt := World.block_lt_of_cell? w _ h1
    rw [World.cell?_of_block (w := w) (hg.block _ hlt (fun e => hR ad rfl (by rw [← hb]; exact Option.some.inj e)))]
    exact h1
/-- what a line with a sign leaves behind -/
def MkP (R : Nat) (vL : Value) (L : List (List UInt8)) (fa : Int) (X : Except (Nat × Int) (List UInt8 × Nat × List (List UInt8))) (x : Ending) (w' : World) : Prop :=
  match X with
  | .error (a, e) => ∃ (t : List UInt8) (p' : Int), x = .returned (.string ⟨t.toArray⟩) ∧ Rx w' R vL p' (a : Int) e ∧ e ≠ 0
  | .ok (t, p1, r) => x = .returned (.string ⟨t.toArray⟩) ∧ Rx w' R vL (p1 : Int) fa 0 ∧ L.drop p1 = r
end Go.Proofs.YtkmgblnofapccaaDoor

/- The code's reader of lines, walked: what is wrong is thrown; the next line; the line between. -/
namespace Go.Proofs.YtkmgblnofapccaaDoor
open Go.RowKit
attribute [local go_sem] ByteArray.extract_mk no_at

/-- a fault -/
def fltO (a z : Int) : Obj := .cells #[.int .i64 a, .iface 24 (.int .i64 z)] 57
section
variable {u u' : World} {R : Nat} {vL : Value} {p : Int}
end
/-- what is wrong is thrown -/
def Thr (a z : Int) (x : Ending) (w' : World) : Prop := ∃ g, x = .panicked [{ v := .iface 55 (.pointer (some ⟨g, 0, none⟩)), recovered := false }] ∧ w'.heap[g]? = some (fltO a z)
/-- what a line that is read leaves behind -/
def LnQ (R : Nat) (_vL : Value) (_p : Nat) (X : Except (Nat × Int) (List UInt8 × List (List UInt8))) (w : World) (x : Ending) (w' : World) : Prop :=
  match X with
  | .error (a, e) => Thr (a : Int) e x w' ∧ w.grownBy w' (some R)
  | .ok (s, _) => x = .returned (.string ⟨(s ++ [10]).toArray⟩) ∧ ∃ n, w' = w.drewN n
theorem drop_feed {s : List UInt8} (h : fdB s = true) : s.dropLast ++ [10] = s := (fd_form h).symm
end Go.Proofs.YtkmgblnofapccaaDoor
