/-
  Texts that belong together, joined: NoWs, NcW, NcL, EfJo, RcCp, RcLen.
-/
import Derived.Test.YtkmgblnofapccaaDoorPartA4
import Derived.Shelf.Strings.BuilderK
import Derived.Test.YtkmgblnofapccaaDoorProg
import Derived.Test.YtkmgblnofapccaaDoorPartA5
import Derived.Test.YtkmgblnofapccaaDoorPartA3
import Derived.Lib.AppendIntMem
import Derived.Lib.FrozenHead2
import Derived.Lib.AppendStr
import Derived.Test.YtkmgblnofapccaaDoorPartA2

/- The library's contracts on a strings.Builder's WriteString and on strings.HasSuffix, TrimSuffix and CutPrefix at this program: the program bears the bodies that they speak of. -/
namespace Go.Proofs
open Go.Shelf Go.RowKit
def Tryd.lays166_ren : Go.Shelf.Ren := ⟨fun | 166 => 17 | 240 => 35 | 276 => 50 | n => n, fun | 0 => 0 | 3 => 3 | 4 => 4 | 5 => 5 | 9 => 9 | 20 => 20 | 37 => 48 | 70 => 47 | 72 => 50 | 75 => 30 | 80 => 54 | 164 => 91 | n => n, fun | n => n⟩
theorem Tryd.lays166 : Go.Proofs.Lays.n166 Tryd.prog Tryd.lays166_ren := {
  mixed := by kernel_rfl
  f166 := Tryd.func17.trans (congrArg some (by kernel_rfl))
  f240 := Tryd.func35.trans (congrArg some (by kernel_rfl))
  f276 := Tryd.func50.trans (congrArg some (by kernel_rfl))
  t0 := Tryd.underlying0
  a0 := Tryd.isAgg0
  z0 := Tryd.sizeOf0
  v0 := Tryd.zeroValue0
  t3 := Tryd.underlying3
  a3 := Tryd.isAgg3
  z3 := Tryd.sizeOf3
  v3 := Tryd.zeroValue3
  t4 := Tryd.underlying4
  a4 := Tryd.isAgg4
  z4 := Tryd.sizeOf4
  v4 := Tryd.zeroValue4
  t9 := Tryd.underlying9
  a9 := Tryd.isAgg9
  z9 := Tryd.sizeOf9
  v9 := Tryd.zeroValue9
  t20 := Tryd.underlying20
  a20 := Tryd.isAgg20
  z20 := Tryd.sizeOf20
  v20 := Tryd.zeroValue20
  t37 := Tryd.underlying48
  a37 := Tryd.isAgg48
  z37 := Tryd.sizeOf48
  v37 := Tryd.zeroValue48
  t70 := Tryd.underlying47
  a70 := Tryd.isAgg47
  z70 := Tryd.sizeOf47
  v70 := Tryd.zeroValue47
  t72 := Tryd.underlying50
  a72 := Tryd.isAgg50
  z72 := Tryd.sizeOf50
  v72 := Tryd.zeroValue50
  t75 := Tryd.underlying30
  a75 := Tryd.isAgg30
  z75 := Tryd.sizeOf30
  v75 := Tryd.zeroValue30
  t164 := Tryd.underlying91
  a164 := Tryd.isAgg91
  z164 := Tryd.sizeOf91
  v164 := Tryd.zeroValue91 }
theorem Tryd.Builder_Extra_166 : Builder.Extra Tryd.prog Tryd.lays166_ren := {
  sizeBuilder := by kernel_rfl
  liesBuilder := by kernel_rfl
  t5 := Tryd.underlying5
  a5 := Tryd.isAgg5
  z5 := Tryd.sizeOf5
  v5 := Tryd.zeroValue5
  infoByte := by kernel_rfl
  cellsByte := by kernel_rfl
  sizeByte := by kernel_rfl
  neB5 := by decide }
theorem Tryd.WriteString_h (B b : Nat) (bs : List Value) (s : ByteArray) (w : World) (h : Lib.IsBuilderF 50 5 B b bs w) (hlen : bs.length + s.size ≤ 140737488355328) (hBw : B ≤ w.heap.size) :
    Calls Tryd.prog 17 #[.pointer (some ⟨b, 0, none⟩), .string s] w fun e w' => e = .returned (.tuple #[.int .i64 s.size, .nilIface]) ∧ (Lib.BuilderAtF 50 5 B b (.pointer (some ⟨b, 0, none⟩)) (bs ++ Lib.strCells s) w' ∧ Below B w w' ∧ Lib.OthersKept 5 (some b) w w') :=
  Any.Builder_WriteString_k Tryd.lays166 Tryd.Builder_Extra_166 B b bs s w h hlen hBw
end Go.Proofs

/- The code's small functions of layer 12's Print, walked: numbers, ranges, letters, lines that are written. -/
namespace Go.Proofs.YtkmgblnofapccaaDoor
open Go.RowKit

/-- the table of powers of ten, in every later world -/
def Tab10 (w : World) : Prop := ∀ u : World, Below w.heap.size w u → Lib.TabIs Tryd.prog u "internal/strconv.uint64pow10" .u64 Lib.pow10Tab
theorem Tab10.on {w u : World} (h : Tab10 w) (hb : Below w.heap.size w u) : Tab10 u := fun v hv => h v (hb.trans (hv.mono hb.size))
set_option maxHeartbeats 1000000 in
theorem nText_f (n : Int) (h0 : -9223372036854775808 ≤ n) (h1 : n ≤ 9223372036854775807) (w : World) (HT : Hid (Tab10 w)) :
    Calls Tryd.prog 36 #[.int .i64 n] w fun e w' => e = .returned (.string ⟨(Lib.itoa n).toArray⟩) ∧ Below w.heap.size w w' := by
  go_enter Tryd.func36, Tryd.ntmps36
  go_wp2_with fail
  refine (Tryd.strconv_Itoa n h0 h1 _ (HT.out _ (Below.refl _ _))).mono ?_
  rintro e w1 ⟨rfl, k, os, rfl⟩
  go_wp2
  go_ret
  exact ⟨rfl, Lib.below_grow w.heap.size w (Nat.le_refl _) k os⟩
/-- a range as the code writes it -/
def rgx (A N : Int) : List UInt8 := if N ≤ 1 then Lib.itoa A else Lib.itoa A ++ 44 :: Lib.itoa (A + N - 1)
theorem rgx_len {A N : Int} (h0 : 0 ≤ A) (h1 : A ≤ 4611686018427387904) (h2 : 0 ≤ N) (h3 : N ≤ 4611686018427387900) : (rgx A N).length ≤ 43 := by
  have l1 := itoa_short A (by omega) (by omega)
  have l2 := itoa_short (A + N - 1) (by omega) (by omega)
  unfold rgx
  split
  · omega
  · simp only [List.length_append, List.length_cons]
    omega
/-- what a hunk does, as the code writes it -/
def ltrT (AN BN : Int) : List UInt8 := if AN = 0 then [97] else if BN = 0 then [100] else [99]
theorem ltr_len (AN BN : Int) : (ltrT AN BN).length = 1 := by
  unfold ltrT
  split
  · rfl
  · split <;> rfl
end Go.Proofs.YtkmgblnofapccaaDoor

/- The code's writeLines of layer 12, walked: lines behind a sign are written into a builder. -/
namespace Go.Proofs.YtkmgblnofapccaaDoor
open Go.RowKit

theorem bcells_len (l : List UInt8) : (Lib.byteCells l).length = l.length := by simp [Lib.byteCells]
theorem suf_feed (s : List UInt8) : Lib.hasSuffix s [10] = fdB s := by
  unfold Lib.hasSuffix fdB
  rw [Bool.eq_iff_iff, List.isSuffixOf_iff_suffix, beq_iff_eq]
  constructor
  · rintro ⟨t, rfl⟩
    simp
  · intro h
    obtain ⟨t, rfl⟩ := List.getLast?_eq_some_iff.1 h
    exact ⟨t, rfl⟩
/-- a builder stays as it is where all ahead stays -/
theorem isF_low {T e : TypeId} {B b : Nat} {bs : List Value} {w w' : World} (h : Lib.IsBuilderF T e B b bs w) (hb : Below w.heap.size w w') : Lib.IsBuilderF T e B b bs w' := by
  have key : ∀ p, Lib.BuilderAtF T e B b p bs w → Lib.BuilderAtF T e B b p bs w' := by
    rintro p ⟨h1, v, h2, h3, h4⟩
    refine ⟨h1, v, (hb.block b (Array.getElem?_eq_some_iff.1 h2).1).trans h2, ⟨h3.1, ?_⟩, h4⟩
    rcases h3.2 with q | ⟨g, cap, cur, fz, q1, q2, q3, q4⟩
    · exact .inl q
    · exact .inr ⟨g, cap, cur, fz, q1, q2, (hb.block g (Array.getElem?_eq_some_iff.1 q3).1).trans q3, q4⟩
  rcases h with h | h
  · exact .inl (key _ h)
  · exact .inr (key _ h)
theorem isF_fresh (w : World) : Lib.IsBuilderF 50 5 w.heap.size w.heap.size (Lib.byteCells []) (w.alloc (.cells #[.pointer none, .slice none 0 0] 50)) :=
  .inl ⟨Nat.le_refl _, .slice none 0 0, heap_alloc_new w _, ⟨rfl, .inl ⟨rfl, rfl⟩⟩, by simp [Value.ownBlock]⟩
/-- a row of texts of one's own stays where a builder is written -/
theorem owns_others {w u : World} {base b : Nat} {v : Value} {n : Nat} {xs : List Value} (h : w.ownsRow base 9 1 v n xs) (hk : Lib.OthersKept 5 (some b) w u) (hb : ∀ g, v.ownBlock = some g → g ≠ b) : u.ownsRow base 9 1 v n xs := by
  refine ⟨h.1, ?_⟩
  rcases h.2 with q | ⟨g, cap, cur, rfl, q2, q3, q4⟩
  · exact .inl q
  · refine .inr ⟨g, cap, cur, rfl, q2, hk g _ q3 (fun e => hb g rfl (Option.some.inj e)) (fun c fz e => ?_), q4⟩
    cases e
end Go.Proofs.YtkmgblnofapccaaDoor

/- The code's Join of layer lines, walked over rows as stage 5 says them. -/
namespace Go.Proofs.YtkmgblnofapccaaDoor
open Ln Go.RowKit

def efbas (ws : List (List UInt8)) : List ByteArray := ws.map fun a => ⟨a.toArray⟩
theorem efbas_length (ws : List (List UInt8)) : (efbas ws).length = ws.length := by simp [efbas]
theorem efbas_data (ws : List (List UInt8)) : (efbas ws).map (fun s => s.data.toList) = ws := by simp [efbas, Function.comp_def]
set_option maxHeartbeats 1000000 in
theorem lJoin_f (v : Value) (ws : List (List UInt8)) (w : World) (hl : ws.length ≤ 1099511627776) (hf : ws.flatten.length ≤ 1099511627776) (hv : HS w v ws) :
    Calls Tryd.prog 15 #[v] w fun e w' => e = .returned (.string ⟨ws.flatten.toArray⟩) ∧ Below w.heap.size w w' := by
  by_cases h0 : 0 < ws.length
  · obtain ⟨vo, vc, rfl⟩ := Holds.form hv
    have hcap : ws.length ≤ vc := (by
      rcases hv with ⟨h, h1, _⟩ | ⟨ad, c', h, h3, _⟩
      · omega
      · cases h; exact h3)
    obtain ⟨b1, o1, rfl, hb1, hc1⟩ := HS.at hv h0
    have hj : (Lib.join ((efbas ws).map fun s => s.data.toList) (⟨#[]⟩ : ByteArray).data.toList) = ws.flatten := by rw [efbas_data]; exact join_nil_sep ws
    have hJ := Tryd.strings_Join b1 o1 vc (efbas ws) ⟨#[]⟩ w (by
      intro j y hy
      have hjl : j < ws.length := by have := (List.getElem?_eq_some_iff.1 hy).1; simpa [efbas] using this
      rw [hc1 j hjl]
      simp [efbas, hjl] at hy
      rw [hy]) hb1 (by rw [efbas_length]; omega) (by rw [efbas_length]; exact hcap) (by rw [hj]; omega)
    rw [hj, efbas_length] at hJ
    clear hc1 hj hv
    go_enter Tryd.func15, Tryd.ntmps15
    go_wp2_with fail
    refine hJ.mono ?_
    rintro e w1 ⟨rfl, hb⟩
    go_wp2
    go_ret
    exact ⟨rfl, hb⟩
  · obtain rfl := List.eq_nil_of_length_eq_zero (by omega : ws.length = 0)
    obtain ⟨vo, vc, rfl⟩ := Holds.form hv
    go_enter Tryd.func15, Tryd.ntmps15
    go_wp2_with fail
    refine (Tryd.strings_Join_none vo vc ⟨#[]⟩ _).mono ?_
    rintro e w1 ⟨rfl, rfl⟩
    go_wp2
    go_ret
    exact ⟨rfl, Below.refl _ _⟩
end Go.Proofs.YtkmgblnofapccaaDoor

/- The code's Print of the form of archives, walked. -/
namespace Go.Proofs.YtkmgblnofapccaaDoor
open Go.RowKit

set_option maxHeartbeats 1000000 in
theorem cmdLine_f (t : UInt8) (p n : Int) (h0 : 0 ≤ p) (h1 : p ≤ 4611686018427387904) (h2 : 0 ≤ n) (h3 : n ≤ 4611686018427387904) (w : World) (HT : Hid (Tab10 w)) (T : List UInt8) (HR : Hid (rcB t p n ++ [10] = T)) :
    Calls Tryd.prog 18 #[.string ⟨#[t]⟩, .int .i64 p, .int .i64 n] w fun e w' => e = .returned (.string ⟨T.toArray⟩) ∧ Below w.heap.size w w' := by
  have s1 := itoa_short p (by omega) (by omega)
  have s2 := itoa_short n (by omega) (by omega)
  obtain ⟨Z2, hHZ2⟩ : ∃ Z, [t] ++ Lib.itoa p = Z := ⟨_, rfl⟩
  have HZ2 : Hid ([t] ++ Lib.itoa p = Z2) := hHZ2
  clear hHZ2
  obtain ⟨Z3, hHZ3⟩ : ∃ Z, Z2 ++ [32] = Z := ⟨_, rfl⟩
  have HZ3 : Hid (Z2 ++ [32] = Z3) := hHZ3
  clear hHZ3
  obtain ⟨Z4, hHZ4⟩ : ∃ Z, Z3 ++ Lib.itoa n = Z := ⟨_, rfl⟩
  have HZ4 : Hid (Z3 ++ Lib.itoa n = Z4) := hHZ4
  clear hHZ4
  have HE : Hid (Z4 ++ [10] = T) := (by
    show _ = _
    rw [← HR.out, ← HZ4.out, ← HZ3.out, ← HZ2.out]
    unfold rcB
    simp)
  have l2 : Z2.length ≤ 22 := (by rw [← HZ2.out]; simp only [List.length_append, List.length_cons, List.length_nil]; omega)
  have l3 : Z3.length ≤ 23 := (by rw [← HZ3.out]; simp only [List.length_append, List.length_cons, List.length_nil]; omega)
  have l4 : Z4.length ≤ 44 := (by rw [← HZ4.out]; simp only [List.length_append]; omega)
  have q2 := add_z HZ2.out (by unfold Fits; simp only [List.length_cons, List.length_nil]; omega) Tryd.prog
  have q3 := add_z HZ3.out (by unfold Fits; simp only [List.length_cons, List.length_nil]; omega) Tryd.prog
  have q4 := add_z HZ4.out (by unfold Fits; omega) Tryd.prog
  have q5 := add_z HE.out (by unfold Fits; simp only [List.length_cons, List.length_nil]; omega) Tryd.prog
  clear HR
  go_enter Tryd.func18, Tryd.ntmps18
  go_wp2_with fail
  refine (nText_f p (by omega) (by omega) _ HT).mono ?_
  rintro e w1 ⟨rfl, hb1⟩
  have HT1 : Hid (Tab10 w1) := HT.out.on hb1
  go_wp2_with fail
  refine (nText_f n (by omega) (by omega) _ HT1).mono ?_
  rintro e w2 ⟨rfl, hb2⟩
  go_wp2
  go_ret
  exact ⟨rfl, hb1.trans (hb2.mono hb1.size)⟩
/-- a boxed change -/
def Cbx (W : World) (k : Nat) (A AN B BN : Int) : Prop := W.heap[k]? = some (.cells #[.int .i64 A, .int .i64 AN, .int .i64 B, .int .i64 BN] 43)
theorem Cbx.cells {W : World} {k : Nat} {A AN B BN : Int} (h : Cbx W k A AN B BN) : W.cell? ⟨k, 0, none⟩ = some (.int .i64 A) ∧ W.cell? ⟨k, 1, none⟩ = some (.int .i64 AN) ∧ W.cell? ⟨k, 2, none⟩ = some (.int .i64 B) ∧ W.cell? ⟨k, 3, none⟩ = some (.int .i64 BN) := by
  unfold Cbx at h
  refine ⟨?_, ?_, ?_, ?_⟩ <;> rw [Lib.cell_of_heap h] <;> rfl
theorem Cbx.low {W u : World} {k : Nat} {A AN B BN : Int} (h : Cbx W k A AN B BN) (hb : Below W.heap.size W u) : Cbx u k A AN B BN := (hb.block k (Array.getElem?_eq_some_iff.1 h).1).trans h
theorem Cbx.others {W u : World} {k b : Nat} {A AN B BN : Int} (h : Cbx W k A AN B BN) (hk : Lib.OthersKept 5 (some b) W u) (hne : k ≠ b) : Cbx u k A AN B BN := hk k _ h (fun e => by injection e with e; omega) (fun c fz e => by cases e)
theorem rc_ws (b : Nat) (acc s Z : List UInt8) (w : World) (hB : Lib.IsBuilderF 50 5 b b (Lib.byteCells acc) w) (hBw : b ≤ w.heap.size) (hl : acc.length + s.length ≤ 140737488355328) (HZ : Hid (acc ++ s = Z)) :
    Calls Tryd.prog 17 #[.pointer (some ⟨b, 0, none⟩), .string ⟨s.toArray⟩] w fun e w' => e = .returned (.tuple #[.int .i64 (s.length : Int), .nilIface]) ∧ Lib.IsBuilderF 50 5 b b (Lib.byteCells Z) w' ∧ Below b w w' ∧ Lib.OthersKept 5 (some b) w w' := by
  have hz := HZ.out
  subst hz
  refine (Tryd.WriteString_h b b _ ⟨s.toArray⟩ w hB (by rw [bcells_len]; exact hl) hBw).mono ?_
  rintro e w' ⟨rfl, h1, h2, h3⟩
  exact ⟨rfl, .inr (by rw [Lib.byteCells_append]; exact h1), h2, h3⟩
theorem rcB_len {t : UInt8} {p n : Int} (h0 : 0 ≤ p) (h1 : p ≤ 4611686018427387904) (h2 : 0 ≤ n) (h3 : n ≤ 4611686018427387904) : (rcB t p n ++ [10]).length ≤ 45 := by
  have s1 := itoa_short p (by omega) (by omega)
  have s2 := itoa_short n (by omega) (by omega)
  unfold rcB
  simp only [List.length_append, List.length_cons, List.length_nil]
  omega
set_option maxRecDepth 10000 in
set_option maxHeartbeats 8000000 in
theorem rcPrint_f (l : List Ch) (vl va vb : Value) (a b : List (List UInt8)) (w : World) (hl : HCh w vl l) (ha : HS w va a) (hb : HS w vb b) (hll : l.length ≤ 1099511627776) (hla : a.length ≤ 1099511627776) (hlb : b.length ≤ 1099511627776) (hfb : b.flatten.length ≤ 1099511627776) (HTb : Hid (Tab10 w))
    (r : Int) (HR : Hid (chk l a.length b.length = r)) (T : List UInt8) (HT : Hid ((if r = 0 then rcT l b else []) = T)) (hT : T.length ≤ 70368744177664) :
    Calls Tryd.prog 6 #[vl, va, vb] w fun e w' => e = .returned (.tuple #[.string ⟨T.toArray⟩, .int .i64 r]) ∧ Below w.heap.size w w' := by
  obtain ⟨lo, lc, rfl⟩ := Holds.form hl
  obtain ⟨ao, ca, rfl⟩ := Holds.form ha
  obtain ⟨bo, cb, rfl⟩ := Holds.form hb
  go_enter Tryd.func6, Tryd.ntmps6
  go_wp2_with fail
  refine (Check_f l a.length b.length r (.slice lo l.length lc) _ hl (by omega) (by omega) (by omega) HR).mono ?_
  rintro e w1 ⟨rfl, hb1⟩
  by_cases hr : r = 0
  · subst hr
    have hTT := HT.out
    rw [if_pos rfl] at hTT
    have hs : Script l a.length b.length := (by
      by_cases h : Script l a.length b.length
      · exact h
      · have := chk_no h
        rw [HR.out] at this
        cases this)
    have HMH : Hid (∀ c ∈ l, numB c = true ∧ c.A + c.AN ≤ (a.length : Int) ∧ c.B + c.BN ≤ (b.length : Int)) := right_mem hs.2.2
    have HI0 : Hid ([] ++ rcT (l.drop 0) b = T) := (by show _ = _; rw [← hTT]; rfl)
    have HT1 : Hid (Tab10 w1) := HTb.out.on hb1
    have hl1 := HCh.keep hl hb1 (Nat.le_refl _)
    have hB1 := HS.keep hb hb1 (Nat.le_refl _)
    clear hs HT hTT HR HTb hl ha hb
    have hF0 := isF_fresh w1
    have hBw : Below w1.heap.size w1 (w1.alloc (.cells #[.pointer none, .slice none 0 0] 50)) := (Below.refl _ w1).alloc (Nat.le_refl _) _
    go_wp2
    go_loopw [23] (fun i wr => ∃ (k : Nat) (acc : List UInt8), k ≤ l.length ∧ i = .int .i64 (k : Int) ∧ Lib.IsBuilderF 50 5 w1.heap.size w1.heap.size (Lib.byteCells acc) wr ∧ Below w1.heap.size w1 wr ∧ Hid (acc ++ rcT (l.drop k) b = T)) (fun i _ => l.length - (intOf i).toNat)
    case atStart => exact ⟨0, [], Nat.zero_le _, by go_num, hF0, hBw, HI0⟩
    case round =>
      clear hF0 hBw HI0
      obtain ⟨k, acc, hk, rfl, hBr, hbr, HI⟩ := hrel
      have hHb : w1.heap.size < wr.heap.size := (by
        rcases hBr with ⟨_, _, h, _⟩ | ⟨_, _, h, _⟩ <;> exact (Array.getElem?_eq_some_iff.1 h).1)
      have hacl : acc.length ≤ 70368744177664 := (by
        have h1 := congrArg List.length HI.out
        simp only [List.length_append] at h1
        omega)
      by_cases hlt : k < l.length
      · obtain ⟨bk, off, rfl, hbk, hc⟩ := HCh.at (HCh.keep hl1 hbr (Nat.le_refl _)) (by omega)
        obtain ⟨c0, c1, c2, c3⟩ := hc k hlt
        have HI2 : Hid (acc ++ ((rcC b l[k]).flatten ++ rcT (l.drop (k + 1)) b) = T) := (by
          show _ = _
          rw [← HI.out, rcT_step hlt])
        obtain ⟨c, hcd⟩ : ∃ c, l[k] = c := ⟨_, rfl⟩
        have hm := HMH.out l[k] (List.getElem_mem hlt)
        rw [hcd] at hm c0 c1 c2 c3 HI2
        clear hcd hc HI
        have hn := (numB_iff c).1 hm.1
        have i1 : 0 ≤ (k : Int) := by omega
        have i2 : (k : Int) < (l.length : Int) := by omega
        obtain ⟨vs, hvs, hsB⟩ := run_cut b bo cb c.B c.BN (by omega) (by omega) (by omega) w1 hB1
        obtain ⟨vo2, vc2, rfl⟩ := Holds.form (hsB w1 hB1)
        have hCl := rc_cutl (b := b) c.B c.BN
        have hlow : Below wr.heap.size wr (wr.alloc (.cells #[.int .i64 c.A, .int .i64 c.AN, .int .i64 c.B, .int .i64 c.BN] 43)) := (Below.refl _ wr).alloc (Nat.le_refl _) _
        have hbx : Cbx (wr.alloc (.cells #[.int .i64 c.A, .int .i64 c.AN, .int .i64 c.B, .int .i64 c.BN] 43)) wr.heap.size c.A c.AN c.B c.BN := heap_alloc_new wr _
        obtain ⟨L, hL⟩ : ∃ L, cut b c.B c.BN = L := ⟨_, rfl⟩
        rw [hL] at hvs hsB hCl
        have hLl : L.length ≤ 1099511627776 := by omega
        obtain ⟨X, HX⟩ : ∃ X, Hid (L.flatten = X) := ⟨_, rfl⟩
        have hXl : X.length ≤ 1099511627776 := by rw [← HX.out]; omega
        clear hCl
        have hwr : IntKind.i64.wrap (c.B + c.BN) = c.B + c.BN := wrap_small _ (by omega) (by omega)
        have hwr1 : IntKind.i64.wrap (c.A + 1) = c.A + 1 := wrap_small _ (by omega) (by omega)
        have hwr2 : IntKind.i64.wrap (c.A + c.AN) = c.A + c.AN := wrap_small _ (by omega) (by omega)
        obtain ⟨D, hHD⟩ : ∃ D, rcB 100 (c.A + 1) c.AN ++ [10] = D := ⟨_, rfl⟩
        have HD : Hid (rcB 100 (c.A + 1) c.AN ++ [10] = D) := hHD
        clear hHD
        obtain ⟨P, hHP⟩ : ∃ P, rcB 97 (c.A + c.AN) c.BN ++ [10] = P := ⟨_, rfl⟩
        have HP : Hid (rcB 97 (c.A + c.AN) c.BN ++ [10] = P) := hHP
        clear hHP
        have hDl : D.length ≤ 45 := by rw [← HD.out]; exact rcB_len (by omega) (by omega) (by omega) (by omega)
        have hPl : P.length ≤ 45 := by rw [← HP.out]; exact rcB_len (by omega) (by omega) (by omega) (by omega)
        obtain ⟨A, AN, B, BN⟩ := c
        dsimp only at c0 c1 c2 c3 hbx hlow hn hm hvs hsB hwr hwr1 hwr2 hL HD HP
        obtain ⟨wb, hwb⟩ : ∃ wb, wr.alloc (.cells #[.int .i64 A, .int .i64 AN, .int .i64 B, .int .i64 BN] 43) = wb := ⟨_, rfl⟩
        rw [hwb] at hbx hlow
        have hBb := isF_low hBr hlow
        have hbb := hbr.trans (hlow.mono hbr.size)
        have hzb : wr.heap.size < wb.heap.size := (Array.getElem?_eq_some_iff.1 hbx).1
        obtain ⟨d0, d1, d2, d3⟩ := hbx.cells
        have HTB : Hid (Tab10 wb) := HT1.out.on hbb
        clear hBr hlow
        by_cases h1 : 0 < AN
        · obtain ⟨Z, hHZ⟩ : ∃ Z, acc ++ D = Z := ⟨_, rfl⟩
          have HZ : Hid (acc ++ D = Z) := hHZ
          clear hHZ
          have hZl : Z.length ≤ 70368744177664 + 45 := by rw [← HZ.out, List.length_append]; omega
          go_wp2_with fail
          refine (cmdLine_f 100 (A + 1) AN (by omega) (by omega) (by omega) (by omega) wb HTB D HD).mono ?_
          rintro e w2 ⟨rfl, hl2⟩
          have hB2 := isF_low hBb hl2
          have hx2 := hbx.low hl2
          have hb2 := hbb.trans (hl2.mono hbb.size)
          clear d0 d1 d2 d3
          go_wp2_with fail
          refine (rc_ws w1.heap.size acc D Z w2 hB2 (by have := hl2.size; omega) (by omega) HZ).mono ?_
          rintro e w3 ⟨rfl, hB3, hl3, ho3⟩
          have hx3 := hx2.others ho3 (by omega)
          have hb3 := hb2.trans hl3
          obtain ⟨d0, d1, d2, d3⟩ := hx3.cells
          clear hB2 hx2 hb2 hl2
          by_cases h2 : 0 < BN
          · obtain ⟨Y, hHY⟩ : ∃ Y, Z ++ P = Y := ⟨_, rfl⟩
            have HY : Hid (Z ++ P = Y) := hHY
            clear hHY
            have hYl : Y.length ≤ 70368744177664 + 90 := by rw [← HY.out, List.length_append]; omega
            obtain ⟨Q, hHQ⟩ : ∃ Q, Y ++ X = Q := ⟨_, rfl⟩
            have HQ : Hid (Y ++ X = Q) := hHQ
            clear hHQ
            have HE : Hid (Q ++ rcT (l.drop (k + 1)) b = T) := (by
              show _ = _
              rw [← HI2.out, ← HQ.out, ← HY.out, ← HP.out, ← HX.out, ← HZ.out, ← HD.out]
              unfold rcC
              dsimp only
              rw [if_pos h1, if_pos h2, hL]
              simp)
            have HTC : Hid (Tab10 w3) := HT1.out.on hb3
            clear HI2
            go_wp2_with fail
            refine (cmdLine_f 97 (A + AN) BN (by omega) (by omega) (by omega) (by omega) w3 HTC P HP).mono ?_
            rintro e w4 ⟨rfl, hl4⟩
            have hB4 := isF_low hB3 hl4
            have hx4 := hx3.low hl4
            have hb4 := hb3.trans (hl4.mono hb3.size)
            clear d0 d1 d2 d3
            go_wp2_with fail
            refine (rc_ws w1.heap.size Z P Y w4 hB4 hb4.size (by omega) HY).mono ?_
            rintro e w5 ⟨rfl, hB5, hl5, ho5⟩
            have hx5 := hx4.others ho5 (by omega)
            have hb5 := hb4.trans hl5
            obtain ⟨d0, d1, d2, d3⟩ := hx5.cells
            have hs5 : HS w5 (.slice vo2 L.length vc2) L := hsB w5 (HS.keep hB1 hb5 (Nat.le_refl _))
            go_wp2_with fail
            refine (lJoin_f _ L w5 hLl (by rw [HX.out]; exact hXl) hs5).mono ?_
            rw [HX.out]
            rintro e w6 ⟨rfl, hl6⟩
            have hB6 := isF_low hB5 hl6
            have hb6 := hb5.trans (hl6.mono hb5.size)
            go_wp2_with fail
            refine (rc_ws w1.heap.size Y X Q w6 hB6 hb6.size (by omega) HQ).mono ?_
            rintro e w7 ⟨rfl, hB7, hl7, ho7⟩
            have hb7 := hb6.trans hl7
            go_wp2
            exact ⟨⟨k + 1, _, by omega, by go_num, hB7, hb7, HE⟩, by simp [intOf]; omega⟩
          · have HE : Hid (Z ++ rcT (l.drop (k + 1)) b = T) := (by
              show _ = _
              rw [← HI2.out, ← HZ.out, ← HD.out]
              unfold rcC
              dsimp only
              rw [if_pos h1, if_neg h2]
              simp)
            clear HI2
            go_wp2
            exact ⟨⟨k + 1, _, by omega, by go_num, hB3, hb3, HE⟩, by simp [intOf]; omega⟩
        · have h2 : 0 < BN := by omega
          obtain ⟨Y, hHY⟩ : ∃ Y, acc ++ P = Y := ⟨_, rfl⟩
          have HY : Hid (acc ++ P = Y) := hHY
          clear hHY
          have hYl : Y.length ≤ 70368744177664 + 90 := by rw [← HY.out, List.length_append]; omega
          obtain ⟨Q, hHQ⟩ : ∃ Q, Y ++ X = Q := ⟨_, rfl⟩
          have HQ : Hid (Y ++ X = Q) := hHQ
          clear hHQ
          have HE : Hid (Q ++ rcT (l.drop (k + 1)) b = T) := (by
            show _ = _
            rw [← HI2.out, ← HQ.out, ← HY.out, ← HP.out, ← HX.out]
            unfold rcC
            dsimp only
            rw [if_neg h1, if_pos h2, hL]
            simp)
          have HTC : Hid (Tab10 wb) := HT1.out.on hbb
          clear HI2
          go_wp2_with fail
          refine (cmdLine_f 97 (A + AN) BN (by omega) (by omega) (by omega) (by omega) wb HTC P HP).mono ?_
          rintro e w4 ⟨rfl, hl4⟩
          have hB4 := isF_low hBb hl4
          have hx4 := hbx.low hl4
          have hb4 := hbb.trans (hl4.mono hbb.size)
          clear d0 d1 d2 d3
          go_wp2_with fail
          refine (rc_ws w1.heap.size acc P Y w4 hB4 hb4.size (by omega) HY).mono ?_
          rintro e w5 ⟨rfl, hB5, hl5, ho5⟩
          have hx5 := hx4.others ho5 (by omega)
          have hb5 := hb4.trans hl5
          obtain ⟨d0, d1, d2, d3⟩ := hx5.cells
          have hs5 : HS w5 (.slice vo2 L.length vc2) L := hsB w5 (HS.keep hB1 hb5 (Nat.le_refl _))
          go_wp2_with fail
          refine (lJoin_f _ L w5 hLl (by rw [HX.out]; exact hXl) hs5).mono ?_
          rw [HX.out]
          rintro e w6 ⟨rfl, hl6⟩
          have hB6 := isF_low hB5 hl6
          have hb6 := hb5.trans (hl6.mono hb5.size)
          go_wp2_with fail
          refine (rc_ws w1.heap.size Y X Q w6 hB6 hb6.size (by omega) HQ).mono ?_
          rintro e w7 ⟨rfl, hB7, hl7, ho7⟩
          have hb7 := hb6.trans hl7
          go_wp2
          exact ⟨⟨k + 1, _, by omega, by go_num, hB7, hb7, HE⟩, by simp [intOf]; omega⟩
      · have HE : Hid (acc = T) := (by
          have h := HI.out
          rw [List.drop_of_length_le (by omega)] at h
          show acc = T
          simpa [rcT, rcL] using h)
        have hend : decide ((k : Int) < (l.length : Int)) = false := decide_eq_false (by omega)
        clear HI
        go_wp2_with fail
        refine (Tryd.Builder_String_any_k w1.heap.size w1.heap.size acc wr hBr (by omega)).mono ?_
        rintro e w3 ⟨rfl, hB3, hb3, ho3⟩
        have hb4 := hb1.trans ((hbr.trans hb3).mono hb1.size)
        go_wp2
        go_ret2
        exact ⟨by rw [← HE.out]; rfl, hb4⟩
  · have hrb : (r != 0) = true := bne_iff_ne.2 hr
    have hTT := HT.out
    rw [if_neg hr] at hTT
    subst hTT
    go_wp2
    go_ret2
    exact ⟨rfl, hb1⟩
end Go.Proofs.YtkmgblnofapccaaDoor

/- How long what is written in the form of archives is; plain mathematics. -/
namespace Go.Proofs.YtkmgblnofapccaaDoor

theorem rcC_len (b : List (List UInt8)) (c : Ch) (hn : numB c = true) : (rcC b c).flatten.length ≤ 90 + b.flatten.length := by
  have h := (numB_iff c).1 hn
  have h1 := @rcB_len 100 (c.A + 1) c.AN (by omega) (by omega) (by omega) (by omega)
  have h2 := @rcB_len 97 (c.A + c.AN) c.BN (by omega) (by omega) (by omega) (by omega)
  have h3 := (rc_cutl (b := b) c.B c.BN).2
  unfold rcC
  rw [List.flatten_append, List.length_append]
  have k1 : ((if 0 < c.AN then [rcB 100 (c.A + 1) c.AN ++ [10]] else []) : List (List UInt8)).flatten.length ≤ 45 := by
    split
    · simpa using h1
    · simp
  have k2 : ((if 0 < c.BN then (rcB 97 (c.A + c.AN) c.BN ++ [10]) :: cut b c.B c.BN else []) : List (List UInt8)).flatten.length ≤ 45 + b.flatten.length := by
    split
    · rw [List.flatten_cons, List.length_append]; omega
    · simp
  omega
theorem rcT_len (b : List (List UInt8)) (hb : b.flatten.length ≤ 2097152) (l : List Ch) (h : ∀ c ∈ l, numB c = true) : (rcT l b).length ≤ l.length * 33554432 := by
  induction l with
  | nil => simp [rcT, rcL]
  | cons c l ih =>
    have h1 := rcC_len b c (h c (by simp))
    have h2 := ih fun x hx => h x (by simp [hx])
    unfold rcT rcL at h2 ⊢
    rw [List.flatMap_cons, List.flatten_append, List.length_append, List.length_cons, Nat.add_mul]
    omega
end Go.Proofs.YtkmgblnofapccaaDoor
