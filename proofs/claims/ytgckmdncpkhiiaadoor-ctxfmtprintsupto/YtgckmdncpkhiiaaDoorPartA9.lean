/-
  Texts that belong together, joined: CwD, NoLen, NoWs, NcW, NcL, CwE, CwF, CwG, HuC2, CwH.
-/
import Derived.Test.YtgckmdncpkhiiaaDoorPartA6
import Derived.Test.YtgckmdncpkhiiaaDoorPartA7
import Derived.Test.YtgckmdncpkhiiaaDoorPartA8
import Derived.Lib.IndexAny
import Derived.Laws.RangeAny
import Derived.Shelf.Strings.BuilderK
import Derived.Test.YtgckmdncpkhiiaaDoorProg
import Derived.Test.YtgckmdncpkhiiaaDoorPartA5
import Derived.Lib.AppendIntMem
import Derived.Lib.FrozenHead2
import Derived.Test.YtgckmdncpkhiiaaDoorPartA4

/- Names as the code writes them in a patch (layer 15), walked. -/
namespace Go.Proofs.YtgckmdncpkhiiaaDoor
open Go.RowKit
attribute [local go_sem] ByteArray.extract_mk

def oddI (r : Int) : Bool := decide (r < 33) || decide (126 < r) || decide (r = 34)
set_option maxHeartbeats 1000000 in
theorem cisOdd_f (r : Int) (w : World) (q : Bool) (HQ : Hid (oddI r = q)) : Calls Tryd.prog 22 #[.int .i32 r] w fun e w' => e = .returned (.bool q) ∧ w = w' := by
  by_cases h1 : r < 33
  · have HE : Hid (true = q) := (by show _ = _; rw [← HQ.out]; simp [oddI, h1])
    go_enter Tryd.func22, Tryd.ntmps22
    go_wp2
    go_ret
    exact ⟨by rw [← HE.out]; rfl, rfl⟩
  · by_cases h2 : 126 < r
    · have HE : Hid (true = q) := (by show _ = _; rw [← HQ.out]; simp [oddI, h2])
      go_enter Tryd.func22, Tryd.ntmps22
      go_wp2
      go_ret
      exact ⟨by rw [← HE.out]; rfl, rfl⟩
    · have HE : Hid ((r == 34) = q) := (by show _ = _; rw [← HQ.out]; simp only [oddI, h1, h2, decide_false, Bool.false_or]; rfl)
      go_enter Tryd.func22, Tryd.ntmps22
      go_wp2
      go_ret
      exact ⟨by rw [← HE.out]; rfl, rfl⟩
theorem odd_name (c : UInt8) : oddI (c.toNat : Int) = !nameC c := by
  unfold oddI nameC
  rw [Bool.eq_iff_iff]
  simp only [Bool.or_eq_true, decide_eq_true_eq, Bool.not_eq_true', decide_eq_false_iff_not]
  omega
/-- where the first odd byte is, or -1 -/
def oddW : Nat → List UInt8 → Int
  | _, [] => -1
  | k, c :: l => if nameC c = true then oddW (k + 1) l else (k : Int)
theorem oddW_all (l : List UInt8) : ∀ k, decide (0 ≤ oddW k l) = !l.all nameC := by
  induction l with
  | nil => intro k; rfl
  | cons c l ih =>
    intro k
    rw [List.all_cons]
    by_cases h : nameC c = true
    · have e : oddW k (c :: l) = oddW (k + 1) l := if_pos h
      rw [e, ih, h]
      rfl
    · have e : oddW k (c :: l) = (k : Int) := if_neg h
      rw [e, Bool.eq_false_iff.2 h]
      simp
theorem oddW_step {l : List UInt8} {k : Nat} (hk : k < l.length) : oddW k (l.drop k) = if nameC l[k] = true then oddW (k + 1) (l.drop (k + 1)) else (k : Int) := by
  rw [List.drop_eq_getElem_cons hk]
  rfl
set_option maxHeartbeats 4000000 in
set_option maxRecDepth 100000 in
theorem cindexFunc_f (l : List UInt8) (w : World) (_hl : l.length ≤ 1099511627776) (z : Int) (HZ : Hid (oddW 0 l = z)) :
    Calls Tryd.prog 59 #[.string ⟨l.toArray⟩, .func (.func 22) #[] #[], .bool true] w fun e w' => e = .returned (.int .i64 z) ∧ Below w.heap.size w w' := by
  go_enter Tryd.func59, Tryd.ntmps59
  go_wp2
  go_loopw [] (fun wr => ∃ pos : Nat, pos ≤ l.length ∧ wr.heap[w.heap.size]? = some (.stringIter ⟨l.toArray⟩ pos) ∧ Below w.heap.size w wr ∧ Hid (oddW pos (l.drop pos) = z)) (fun wr => l.length - wr.iterPos w.heap.size)
  case atStart => exact ⟨0, Nat.zero_le _, World.iter_heap w _ 0, (Below.refl _ w).alloc (Nat.le_refl _) _, HZ⟩
  case round =>
    obtain ⟨pos, hp, hit, hbr, HA⟩ := hrel
    have hwl : w.heap.size < wr.heap.size := (Array.getElem?_eq_some_iff.1 hit).1
    by_cases hlt : pos < l.length
    · have HS := HA.out
      rw [oddW_step hlt] at HS
      by_cases ha : l[pos].toNat < 128
      · have hnx : ∀ ty, (Instr.next (.pointer (some ⟨w.heap.size, 0, none⟩)) true ty).run Tryd.prog wr = _ := fun ty => Lib.run_next_ascii_at wr w.heap.size ⟨l.toArray⟩ pos ty hit hlt ha
        have hit2 := Lib.iterAt_heap wr w.heap.size ⟨l.toArray⟩ pos (pos + 1) hit
        have hbr2 := Lib.below_iterAt hbr (k := w.heap.size) (Nat.le_refl _) ⟨l.toArray⟩ (pos + 1)
        cases hn : nameC l[pos] with
        | true =>
          have HI : Hid (oddW (pos + 1) (l.drop (pos + 1)) = z) := (by rw [hn, if_pos rfl] at HS; exact HS)
          have hc := fun u => cisOdd_f (l[pos].toNat : Int) u false (by show _ = _; rw [odd_name, hn]; rfl)
          clear HS hn HA
          go_wp2_with fail
          refine (hc _).mono ?_
          rintro e w4 ⟨rfl, rfl⟩
          go_wp2
          go_roundw
          case rel => exact ⟨pos + 1, by omega, hit2, hbr2, HI⟩
          case measure => simp only [World.iterPos, hit, hit2]; omega
        | false =>
          have HE : Hid ((pos : Int) = z) := (by rw [hn, if_neg (by decide)] at HS; exact HS)
          have hc := fun u => cisOdd_f (l[pos].toNat : Int) u true (by show _ = _; rw [odd_name, hn]; rfl)
          clear HS hn HA
          go_wp2_with fail
          refine (hc _).mono ?_
          rintro e w4 ⟨rfl, rfl⟩
          go_wp2
          go_ret
          exact ⟨by rw [HE.out]; rfl, hbr2⟩
      · have hdh := (decode_high ⟨l.toArray⟩ pos hlt (by show 128 ≤ l[pos].toNat; omega))
        have hnx : ∀ ty, (Instr.next (.pointer (some ⟨w.heap.size, 0, none⟩)) true ty).run Tryd.prog wr = _ := fun ty => Lib.run_next_any_at wr w.heap.size ⟨l.toArray⟩ pos ty hit hlt
        have hbr2 := Lib.below_iterAt hbr (k := w.heap.size) (Nat.le_refl _) ⟨l.toArray⟩ (pos + (Utf8.decode ⟨l.toArray⟩ pos).2)
        have hdl := decode_le ⟨l.toArray⟩ pos
        have HE : Hid ((pos : Int) = z) := (by
          have hn : nameC l[pos] = false := (by unfold nameC; exact decide_eq_false (by omega))
          rw [hn, if_neg (by decide)] at HS
          exact HS)
        obtain ⟨hd1, hd2⟩ := hdh
        generalize Utf8.decode ⟨l.toArray⟩ pos = dd at *
        have hc := fun u => cisOdd_f (dd.1 : Int) u true (by
          show _ = _
          unfold oddI
          have : decide (126 < (dd.1 : Int)) = true := decide_eq_true (by omega)
          rw [this]
          simp)
        clear HS HA
        go_wp2_with fail
        refine (hc _).mono ?_
        rintro e w4 ⟨rfl, rfl⟩
        go_wp2
        go_ret
        exact ⟨by rw [HE.out]; rfl, hbr2⟩
    · have hnx : ∀ ty, (Instr.next (.pointer (some ⟨w.heap.size, 0, none⟩)) true ty).run Tryd.prog wr = _ := fun ty => Lib.run_next_end_at wr w.heap.size ⟨l.toArray⟩ pos ty hit hlt
      have HE : Hid (-1 = z) := (by
        have h := HA.out
        rw [List.drop_of_length_le (by omega)] at h
        exact h)
      clear HA
      go_wp2
      go_ret
      exact ⟨by rw [HE.out]; rfl, hbr⟩
set_option maxHeartbeats 1000000 in
theorem cIndexFunc_f (l : List UInt8) (w : World) (hl : l.length ≤ 1099511627776) (z : Int) (HZ : Hid (oddW 0 l = z)) :
    Calls Tryd.prog 41 #[.string ⟨l.toArray⟩, .func (.func 22) #[] #[]] w fun e w' => e = .returned (.int .i64 z) ∧ Below w.heap.size w w' := by
  go_enter Tryd.func41, Tryd.ntmps41
  go_wp2_with fail
  refine (cindexFunc_f l w hl z HZ).mono ?_
  rintro e w1 ⟨rfl, hB⟩
  go_wp2
  go_ret
  exact ⟨rfl, hB⟩
set_option maxHeartbeats 1000000 in
theorem cContainsFunc_f (l : List UInt8) (w : World) (hl : l.length ≤ 1099511627776) (q : Bool) (HQ : Hid ((!l.all nameC) = q)) :
    Calls Tryd.prog 21 #[.string ⟨l.toArray⟩, .func (.func 22) #[] #[]] w fun e w' => e = .returned (.bool q) ∧ Below w.heap.size w w' := by
  obtain ⟨z, hz⟩ : ∃ z, oddW 0 l = z := ⟨_, rfl⟩
  have HC := cIndexFunc_f l w hl z hz
  have HZ : Hid (decide (0 ≤ z) = q) := (by show _ = _; rw [← hz, oddW_all]; exact HQ.out)
  clear hz HQ
  go_enter Tryd.func21, Tryd.ntmps21
  go_wp2_with fail
  refine HC.mono ?_
  rintro e w1 ⟨rfl, hB⟩
  go_wp2
  go_ret
  exact ⟨by rw [HZ.out]; rfl, hB⟩
set_option maxHeartbeats 2000000 in
theorem cname_f (l : List UInt8) (w : World) (hl : l.length ≤ 1099511627776) (t : List UInt8) (HT : Hid (nameT l = t)) :
    Calls Tryd.prog 11 #[.string ⟨l.toArray⟩] w fun e w' => e = .returned (.string ⟨t.toArray⟩) ∧ Below w.heap.size w w' := by
  by_cases h0 : l = []
  · have HE : Hid (devN = t) := (by have h := HT.out; unfold nameT at h; rw [if_pos h0] at h; exact h)
    subst h0
    go_enter Tryd.func11, Tryd.ntmps11
    go_wp2
    go_ret
    exact ⟨by rw [← HE.out]; rfl, Below.refl _ _⟩
  · have e0 : l.isEmpty = false := (by cases l with | nil => exact absurd rfl h0 | cons _ _ => rfl)
    have hq := Quote_any l
    by_cases h1 : l = devN
    · have HE : Hid (Q.quote l = t) := (by have h := HT.out; unfold nameT at h; rw [if_neg h0, if_neg (fun q => q.2 h1)] at h; exact h)
      have e1 : (l == [47, 100, 101, 118, 47, 110, 117, 108, 108]) = true := (by rw [beq_iff_eq]; exact h1)
      clear HT h1
      go_enter Tryd.func11, Tryd.ntmps11
      go_wp2_with fail
      refine (hq _ hl).mono ?_
      rintro e w1 ⟨rfl, hB⟩
      go_wp2
      go_ret
      exact ⟨by rw [← HE.out]; rfl, hB⟩
    · have e1 : (l == [47, 100, 101, 118, 47, 110, 117, 108, 108]) = false := beq_eq_false_iff_ne.2 h1
      cases hn : l.all nameC with
      | true =>
        have HE : Hid (l = t) := (by have h := HT.out; unfold nameT at h; rw [if_neg h0, if_pos ⟨hn, h1⟩] at h; exact h)
        have hc := fun u => cContainsFunc_f l u hl false (by show _ = _; rw [hn]; rfl)
        clear HT h1 hn
        go_enter Tryd.func11, Tryd.ntmps11
        go_wp2_with fail
        refine (hc _).mono ?_
        rintro e w1 ⟨rfl, hB⟩
        go_wp2
        go_ret
        exact ⟨by rw [← HE.out]; rfl, hB⟩
      | false =>
        have HE : Hid (Q.quote l = t) := (by have h := HT.out; unfold nameT at h; rw [if_neg h0, if_neg (fun q => by rw [hn] at q; cases q.1)] at h; exact h)
        have hc := fun u => cContainsFunc_f l u hl true (by show _ = _; rw [hn]; rfl)
        clear HT h1 hn
        go_enter Tryd.func11, Tryd.ntmps11
        go_wp2_with fail
        refine (hc _).mono ?_
        rintro e w1 ⟨rfl, hB⟩
        go_wp2_with fail
        refine (hq _ hl).mono ?_
        rintro e w2 ⟨rfl, hB2⟩
        go_wp2
        go_ret
        exact ⟨by rw [← HE.out]; rfl, hB.trans (hB2.mono hB.size)⟩
end Go.Proofs.YtgckmdncpkhiiaaDoor

/- How long the normal form of a script is; plain mathematics. -/
namespace Go.Proofs.YtgckmdncpkhiiaaDoor

theorem cmd_len {c : Ch} (h : numB c = true) : (cmdT c).length ≤ 100 := by
  rw [numB_iff] at h
  have r1 := rng_short c.A c.AN h.1.1 (by omega) h.2.1.1 (by omega)
  have r2 := rng_short c.B c.BN h.2.2.1.1 (by omega) h.2.2.2.1.1 (by omega)
  have r3 := itoa_short c.A (by omega) (by omega)
  have r4 := itoa_short c.B (by omega) (by omega)
  unfold cmdT
  split
  · simp only [List.length_append, List.length_cons]; omega
  · split
    · simp only [List.length_append, List.length_cons]; omega
    · simp only [List.length_append, List.length_cons]; omega
theorem flat_drop {a : List (List UInt8)} {p A AN : Int} (hp : 0 ≤ p) (hA : p ≤ A) (hN : 0 ≤ AN) : (cut a A AN).flatten.length + (a.drop (A + AN).toNat).flatten.length ≤ (a.drop p.toNat).flatten.length := by
  have e1 : a.drop p.toNat = (a.drop p.toNat).take (A - p).toNat ++ a.drop A.toNat := by
    have h := (List.take_append_drop (A - p).toNat (a.drop p.toNat)).symm
    rw [List.drop_drop] at h
    have e : p.toNat + (A - p).toNat = A.toNat := by omega
    rw [e] at h
    exact h
  have e2 : a.drop A.toNat = cut a A AN ++ a.drop (A + AN).toNat := by
    have h := (List.take_append_drop AN.toNat (a.drop A.toNat)).symm
    rw [List.drop_drop] at h
    have e : A.toNat + AN.toNat = (A + AN).toNat := by omega
    rw [e] at h
    exact h
  rw [e1, e2]
  simp only [List.flatten_append, List.length_append]
  omega
theorem cut_le (a : List (List UInt8)) (p n : Int) : (cut a p n).length ≤ n.toNat := by
  unfold cut
  rw [List.length_take]
  omega
theorem chg_len {a b : List (List UInt8)} {c : Ch} (h : numB c = true) : (chgL a b c).flatten.length ≤ 105 + 31 * (c.AN.toNat + c.BN.toNat) + (cut a c.A c.AN).flatten.length + (cut b c.B c.BN).flatten.length := by
  have h1 := cmd_len h
  have h2 := lns_len [60, 32] (cut a c.A c.AN)
  have h3 := lns_len [62, 32] (cut b c.B c.BN)
  have h4 := cut_le a c.A c.AN
  have h5 := cut_le b c.B c.BN
  have h6 : (sepL c).flatten.length ≤ 4 := by
    unfold sepL
    split <;> simp
  simp only [List.length_cons, List.length_nil] at h2 h3
  simp only [chgL, List.flatten_cons, List.flatten_append, List.length_append, List.length_cons, List.length_nil]
  omega
theorem prt_len_at {a b : List (List UInt8)} {n m : Int} (l : List Ch) : ∀ {f : Bool} {p q : Int}, 0 ≤ p → 0 ≤ q → Right f p q n m l → (prtT l a b).length ≤ 105 * l.length + 31 * ((n - p).toNat + (m - q).toNat) + (a.drop p.toNat).flatten.length + (b.drop q.toNat).flatten.length := by
  induction l with
  | nil =>
    intro f p q _ _ _
    simp [prtT, prtL]
  | cons c l ih =>
    intro f p q hp hq h
    obtain ⟨⟨h1, h2, h3, _⟩, h5⟩ := h
    have hn := (numB_iff c).1 h1
    have hle := h5.le
    have g := ih (by omega) (by omega) h5
    have g1 := @chg_len a b c h1
    have g2 := @flat_drop a p c.A c.AN hp h3 hn.2.1.1
    have g3 := @flat_drop b q c.B c.BN hq (by omega) hn.2.2.2.1.1
    have e : prtT (c :: l) a b = (chgL a b c).flatten ++ prtT l a b := by simp [prtT, prtL]
    rw [e, List.length_append, List.length_cons]
    omega
/-- what is written of a right script -/
theorem prt_len {a b : List (List UInt8)} {l : List Ch} (h : Script l a.length b.length) : (prtT l a b).length ≤ 105 * l.length + 31 * (a.length + b.length) + a.flatten.length + b.flatten.length := by
  have g := @prt_len_at a b a.length b.length l true 0 0 (by omega) (by omega) h.2.2
  simpa using g
end Go.Proofs.YtgckmdncpkhiiaaDoor

/- The library's contracts on a strings.Builder's WriteString and on strings.HasSuffix, TrimSuffix and CutPrefix at this program: the program bears the bodies that they speak of. -/
namespace Go.Proofs
open Go.Shelf Go.RowKit
def Tryd.lays166_ren : Go.Shelf.Ren := ⟨fun | 166 => 20 | 240 => 40 | 276 => 58 | n => n, fun | 0 => 0 | 3 => 3 | 4 => 4 | 5 => 5 | 9 => 9 | 20 => 20 | 37 => 35 | 70 => 34 | 72 => 37 | 75 => 53 | 80 => 46 | 164 => 89 | n => n, fun | n => n⟩
theorem Tryd.lays166 : Go.Proofs.Lays.n166 Tryd.prog Tryd.lays166_ren := {
  mixed := by kernel_rfl
  f166 := Tryd.func20.trans (congrArg some (by kernel_rfl))
  f240 := Tryd.func40.trans (congrArg some (by kernel_rfl))
  f276 := Tryd.func58.trans (congrArg some (by kernel_rfl))
  t0 := Tryd.underlying0
  a0 := Tryd.isAgg0
  z0 := Tryd.sizeOf0
  v0 := Tryd.zeroValue0
  t3 := Tryd.underlying3
  a3 := Tryd.isAgg3
  z3 := Tryd.sizeOf3
  v3 := Tryd.zeroValue3
  t4 := Tryd.underlying4
  a4 := Tryd.isAgg4
  z4 := Tryd.sizeOf4
  v4 := Tryd.zeroValue4
  t9 := Tryd.underlying9
  a9 := Tryd.isAgg9
  z9 := Tryd.sizeOf9
  v9 := Tryd.zeroValue9
  t20 := Tryd.underlying20
  a20 := Tryd.isAgg20
  z20 := Tryd.sizeOf20
  v20 := Tryd.zeroValue20
  t37 := Tryd.underlying35
  a37 := Tryd.isAgg35
  z37 := Tryd.sizeOf35
  v37 := Tryd.zeroValue35
  t70 := Tryd.underlying34
  a70 := Tryd.isAgg34
  z70 := Tryd.sizeOf34
  v70 := Tryd.zeroValue34
  t72 := Tryd.underlying37
  a72 := Tryd.isAgg37
  z72 := Tryd.sizeOf37
  v72 := Tryd.zeroValue37
  t75 := Tryd.underlying53
  a75 := Tryd.isAgg53
  z75 := Tryd.sizeOf53
  v75 := Tryd.zeroValue53
  t164 := Tryd.underlying89
  a164 := Tryd.isAgg89
  z164 := Tryd.sizeOf89
  v164 := Tryd.zeroValue89 }
theorem Tryd.Builder_Extra_166 : Builder.Extra Tryd.prog Tryd.lays166_ren := {
  sizeBuilder := by kernel_rfl
  liesBuilder := by kernel_rfl
  t5 := Tryd.underlying5
  a5 := Tryd.isAgg5
  z5 := Tryd.sizeOf5
  v5 := Tryd.zeroValue5
  infoByte := by kernel_rfl
  cellsByte := by kernel_rfl
  sizeByte := by kernel_rfl
  neB5 := by decide }
theorem Tryd.WriteString_h (B b : Nat) (bs : List Value) (s : ByteArray) (w : World) (h : Lib.IsBuilderF 37 5 B b bs w) (hlen : bs.length + s.size ≤ 140737488355328) (hBw : B ≤ w.heap.size) :
    Calls Tryd.prog 20 #[.pointer (some ⟨b, 0, none⟩), .string s] w fun e w' => e = .returned (.tuple #[.int .i64 s.size, .nilIface]) ∧ (Lib.BuilderAtF 37 5 B b (.pointer (some ⟨b, 0, none⟩)) (bs ++ Lib.strCells s) w' ∧ Below B w w' ∧ Lib.OthersKept 5 (some b) w w') :=
  Any.Builder_WriteString_k Tryd.lays166 Tryd.Builder_Extra_166 B b bs s w h hlen hBw
end Go.Proofs

/- The code's small functions of layer 12's Print, walked: numbers, ranges, letters, lines that are written. -/
namespace Go.Proofs.YtgckmdncpkhiiaaDoor
open Go.RowKit

/-- the table of powers of ten, in every later world -/
def Tab10 (w : World) : Prop := ∀ u : World, Below w.heap.size w u → Lib.TabIs Tryd.prog u "internal/strconv.uint64pow10" .u64 Lib.pow10Tab
theorem Tab10.on {w u : World} (h : Tab10 w) (hb : Below w.heap.size w u) : Tab10 u := fun v hv => h v (hb.trans (hv.mono hb.size))
set_option maxHeartbeats 1000000 in
theorem nText_f (n : Int) (h0 : -9223372036854775808 ≤ n) (h1 : n ≤ 9223372036854775807) (w : World) (HT : Hid (Tab10 w)) :
    Calls Tryd.prog 46 #[.int .i64 n] w fun e w' => e = .returned (.string ⟨(Lib.itoa n).toArray⟩) ∧ Below w.heap.size w w' := by
  go_enter Tryd.func46, Tryd.ntmps46
  go_wp2_with fail
  refine (Tryd.strconv_Itoa n h0 h1 _ (HT.out _ (Below.refl _ _))).mono ?_
  rintro e w1 ⟨rfl, k, os, rfl⟩
  go_wp2
  go_ret
  exact ⟨rfl, Lib.below_grow w.heap.size w (Nat.le_refl _) k os⟩
/-- a range as the code writes it -/
def rgx (A N : Int) : List UInt8 := if N ≤ 1 then Lib.itoa A else Lib.itoa A ++ 44 :: Lib.itoa (A + N - 1)
theorem rgx_len {A N : Int} (h0 : 0 ≤ A) (h1 : A ≤ 4611686018427387904) (h2 : 0 ≤ N) (h3 : N ≤ 4611686018427387900) : (rgx A N).length ≤ 43 := by
  have l1 := itoa_short A (by omega) (by omega)
  have l2 := itoa_short (A + N - 1) (by omega) (by omega)
  unfold rgx
  split
  · omega
  · simp only [List.length_append, List.length_cons]
    omega
/-- what a hunk does, as the code writes it -/
def ltrT (AN BN : Int) : List UInt8 := if AN = 0 then [97] else if BN = 0 then [100] else [99]
theorem ltr_len (AN BN : Int) : (ltrT AN BN).length = 1 := by
  unfold ltrT
  split
  · rfl
  · split <;> rfl
end Go.Proofs.YtgckmdncpkhiiaaDoor

/- The code's writeLines of layer 12, walked: lines behind a sign are written into a builder. -/
namespace Go.Proofs.YtgckmdncpkhiiaaDoor
open Go.RowKit

theorem bcells_len (l : List UInt8) : (Lib.byteCells l).length = l.length := by simp [Lib.byteCells]
theorem suf_feed (s : List UInt8) : Lib.hasSuffix s [10] = fdB s := by
  unfold Lib.hasSuffix fdB
  rw [Bool.eq_iff_iff, List.isSuffixOf_iff_suffix, beq_iff_eq]
  constructor
  · rintro ⟨t, rfl⟩
    simp
  · intro h
    obtain ⟨t, rfl⟩ := List.getLast?_eq_some_iff.1 h
    exact ⟨t, rfl⟩
/-- a builder stays as it is where all ahead stays -/
theorem isF_low {T e : TypeId} {B b : Nat} {bs : List Value} {w w' : World} (h : Lib.IsBuilderF T e B b bs w) (hb : Below w.heap.size w w') : Lib.IsBuilderF T e B b bs w' := by
  have key : ∀ p, Lib.BuilderAtF T e B b p bs w → Lib.BuilderAtF T e B b p bs w' := by
    rintro p ⟨h1, v, h2, h3, h4⟩
    refine ⟨h1, v, (hb.block b (Array.getElem?_eq_some_iff.1 h2).1).trans h2, ⟨h3.1, ?_⟩, h4⟩
    rcases h3.2 with q | ⟨g, cap, cur, fz, q1, q2, q3, q4⟩
    · exact .inl q
    · exact .inr ⟨g, cap, cur, fz, q1, q2, (hb.block g (Array.getElem?_eq_some_iff.1 q3).1).trans q3, q4⟩
  rcases h with h | h
  · exact .inl (key _ h)
  · exact .inr (key _ h)
theorem isF_fresh (w : World) : Lib.IsBuilderF 37 5 w.heap.size w.heap.size (Lib.byteCells []) (w.alloc (.cells #[.pointer none, .slice none 0 0] 37)) :=
  .inl ⟨Nat.le_refl _, .slice none 0 0, heap_alloc_new w _, ⟨rfl, .inl ⟨rfl, rfl⟩⟩, by simp [Value.ownBlock]⟩
/-- a row of texts of one's own stays where a builder is written -/
theorem owns_others {w u : World} {base b : Nat} {v : Value} {n : Nat} {xs : List Value} (h : w.ownsRow base 9 1 v n xs) (hk : Lib.OthersKept 5 (some b) w u) (hb : ∀ g, v.ownBlock = some g → g ≠ b) : u.ownsRow base 9 1 v n xs := by
  refine ⟨h.1, ?_⟩
  rcases h.2 with q | ⟨g, cap, cur, rfl, q2, q3, q4⟩
  · exact .inl q
  · refine .inr ⟨g, cap, cur, rfl, q2, hk g _ q3 (fun e => hb g rfl (Option.some.inj e)) (fun c fz e => ?_), q4⟩
    cases e
theorem hx_others {w u : World} {b B : Nat} {h : Hk} {v : Value} (q : Hx w B h v) (hk : Lib.OthersKept 5 (some b) w u) (hb : B ≠ b) : Hx u B h v :=
  hk B _ q (fun e => hb (Option.some.inj e)) (fun c fz e => by cases e)
end Go.Proofs.YtgckmdncpkhiiaaDoor

/- The code's page of layer 15, walked: rows, lines, ranges; the signs that are shown. -/
namespace Go.Proofs.YtgckmdncpkhiiaaDoor
open Go.RowKit Go.Proofs.YtgckmdncpkhiiaaDoor

abbrev pgT : TypeId := 39
theorem lays_p : LaysB 39 := ⟨by kernel_rfl, by decide⟩
/-- a page that holds a text -/
def Pg (B b : Nat) (v : Value) (acc : List UInt8) (w : World) : Prop := Bld 39 5 B b v (Lib.byteCells acc) w
theorem Pg.low {B b : Nat} {v : Value} {acc : List UInt8} {w w' : World} (h : Pg B b v acc w) (hb : Below w.heap.size w w') : Pg B b v acc w' := Bld.kept h hb.block
set_option maxHeartbeats 1000000 in
theorem crow_f (B b : Nat) (v : Value) (acc s Z : List UInt8) (w : World) (h : Pg B b v acc w) (hBw : B ≤ w.heap.size) (HZ : Hid (acc ++ s ++ [10] = Z)) (hZ : Z.length ≤ 70368744177664) :
    Calls Tryd.prog 10 #[.pointer (some ⟨b, 0, none⟩), .string ⟨s.toArray⟩] w fun e w' => e = .returned (.tuple #[]) ∧ ∃ v', Pg B b v' Z w' ∧ Wr B b v v' w w' := by
  have hl := congrArg List.length HZ.out
  simp only [List.length_append, List.length_cons, List.length_nil] at hl
  go_enter Tryd.func10, Tryd.ntmps10
  go_wp2_with fail
  refine (cStr_f lays_p B b v _ s _ h (by rw [bcells_len]; omega) hBw).mono ?_
  rintro e w1 ⟨rfl, v1, h1, hw1⟩
  go_wp2_with fail
  refine (cStr_f lays_p B b v1 _ [10] _ h1 (by rw [List.length_append, bcells_len, bcells_len]; simp; omega) (Nat.le_trans hBw hw1.size)).mono ?_
  rintro e w2 ⟨rfl, v2, h2, hw2⟩
  go_wp2
  first
    | go_end0
    | refine bodyPost_ret (results_none rfl _ _ _) rfl ?_
    | refine bodyPost_end (results_none rfl _ _ _) rfl ?_
  refine ⟨rfl, v2, ?_, hw1.trans hw2⟩
  rw [← HZ.out]
  unfold Pg
  rw [Lib.byteCells_append, Lib.byteCells_append]
  exact h2
theorem cell_byte {c : Int} (h0 : 0 ≤ c) (h1 : c < 256) : Lib.byteCells [UInt8.ofNat c.toNat] = [.int .u8 c] := by
  have : ((UInt8.ofNat c.toNat).toNat : Int) = c := by
    rw [UInt8.toNat_ofNat']
    omega
  simp only [Lib.byteCells, List.map_cons, List.map_nil, this]
set_option maxHeartbeats 2000000 in
theorem cline_f (B b : Nat) (v : Value) (c : Int) (h0 : 0 ≤ c) (h1 : c < 256) (acc s Z : List UInt8) (w : World) (h : Pg B b v acc w) (hBw : B ≤ w.heap.size) (HZ : Hid (acc ++ (lnL [UInt8.ofNat c.toNat, 32] s).flatten = Z)) (hZ : Z.length ≤ 70368744177664) (hs : s.length ≤ 1099511627776) :
    Calls Tryd.prog 47 #[.pointer (some ⟨b, 0, none⟩), .int .u8 c, .string ⟨s.toArray⟩] w fun e w' => e = .returned (.tuple #[]) ∧ ∃ v', Pg B b v' Z w' ∧ Wr B b v v' w w' := by
  have hl : acc.length + s.length + 2 ≤ Z.length := (by
    have hl := congrArg List.length HZ.out
    unfold lnL at hl
    split at hl <;> simp [List.length_append] at hl <;> omega)
  have hA : Hid (Lib.byteCells acc ++ [.int .u8 c] ++ [.int .u8 32] ++ Lib.byteCells s = Lib.byteCells (acc ++ ([UInt8.ofNat c.toNat, 32] ++ s))) := (by
    show _ = _
    rw [Lib.byteCells_append, Lib.byteCells_append]
    have : Lib.byteCells [UInt8.ofNat c.toNat, 32] = [.int .u8 c] ++ [.int .u8 32] := (by
      have h := cell_byte h0 h1
      simp only [Lib.byteCells, List.map_cons, List.map_nil] at h ⊢
      rw [List.cons_eq_cons.1 h |>.1]
      rfl)
    rw [this]
    simp only [List.append_assoc])
  have hbl := bcells_len acc
  have hsl := bcells_len s
  cases hf : fdB s with
  | true =>
    have HE : Hid (acc ++ ([UInt8.ofNat c.toNat, 32] ++ s) = Z) := (by
      show _ = _
      rw [← HZ.out]
      unfold lnL
      rw [if_pos hf]
      simp)
    clear HZ
    go_enter Tryd.func47, Tryd.ntmps47
    go_wp2_with fail
    refine (cByte_f lays_p B b v _ c _ h (by omega) hBw).mono ?_
    rintro e w1 ⟨rfl, v1, q1, hw1⟩
    go_wp2_with fail
    refine (cByte_f lays_p B b v1 _ 32 _ q1 (by rw [List.length_append]; simp; omega) (Nat.le_trans hBw hw1.size)).mono ?_
    rintro e w2 ⟨rfl, v2, q2, hw2⟩
    have hw12 := hw1.trans hw2
    go_wp2_with fail
    refine (cStr_f lays_p B b v2 _ s _ q2 (by rw [List.length_append, List.length_append]; simp; omega) (Nat.le_trans hBw hw12.size)).mono ?_
    rintro e w3 ⟨rfl, v3, q3, hw3⟩
    have hw13 := hw12.trans hw3
    have q4 : Pg B b v3 Z w3 := (by unfold Pg; rw [← HE.out, ← hA.out]; exact q3)
    clear q1 q2 q3 hA
    go_wp2_with fail
    refine (Tryd.strings_HasSuffix ⟨s.toArray⟩ ⟨#[10]⟩ _ (by show s.length ≤ _; omega)).mono ?_
    rintro e w4 ⟨rfl, rfl⟩
    have e1 : Lib.hasSuffix (⟨s.toArray⟩ : ByteArray).data.toList (⟨#[10]⟩ : ByteArray).data.toList = true := (suf_feed s).trans hf
    rw [e1]
    clear e1 hf
    go_wp2
    first
      | go_end0
      | refine bodyPost_ret (results_none rfl _ _ _) rfl ?_
      | refine bodyPost_end (results_none rfl _ _ _) rfl ?_
    exact ⟨rfl, v3, q4, hw13⟩
  | false =>
    have HE : Hid (acc ++ ([UInt8.ofNat c.toNat, 32] ++ s) ++ (10 :: markT) = Z) := (by
      show _ = _
      rw [← HZ.out]
      unfold lnL
      rw [if_neg (by rw [hf]; decide)]
      simp)
    have hl2 := congrArg List.length HE.out
    simp only [List.length_append, List.length_cons, List.length_nil] at hl2
    clear HZ
    go_enter Tryd.func47, Tryd.ntmps47
    go_wp2_with fail
    refine (cByte_f lays_p B b v _ c _ h (by omega) hBw).mono ?_
    rintro e w1 ⟨rfl, v1, q1, hw1⟩
    go_wp2_with fail
    refine (cByte_f lays_p B b v1 _ 32 _ q1 (by rw [List.length_append]; simp; omega) (Nat.le_trans hBw hw1.size)).mono ?_
    rintro e w2 ⟨rfl, v2, q2, hw2⟩
    have hw12 := hw1.trans hw2
    go_wp2_with fail
    refine (cStr_f lays_p B b v2 _ s _ q2 (by rw [List.length_append, List.length_append]; simp; omega) (Nat.le_trans hBw hw12.size)).mono ?_
    rintro e w3 ⟨rfl, v3, q3, hw3⟩
    have hw13 := hw12.trans hw3
    have q4 : Pg B b v3 (acc ++ ([UInt8.ofNat c.toNat, 32] ++ s)) w3 := (by unfold Pg; rw [← hA.out]; exact q3)
    clear q1 q2 q3 hA
    go_wp2_with fail
    refine (Tryd.strings_HasSuffix ⟨s.toArray⟩ ⟨#[10]⟩ _ (by show s.length ≤ _; omega)).mono ?_
    rintro e w4 ⟨rfl, rfl⟩
    have e1 : Lib.hasSuffix (⟨s.toArray⟩ : ByteArray).data.toList (⟨#[10]⟩ : ByteArray).data.toList = false := (suf_feed s).trans hf
    rw [e1]
    clear e1 hf
    go_wp2_with fail
    refine (cStr_f lays_p B b v3 _ (10 :: markT) _ q4 (by rw [bcells_len]; simp only [List.length_append, List.length_cons, List.length_nil]; omega) (Nat.le_trans hBw hw13.size)).mono ?_
    rintro e w5 ⟨rfl, v5, q5, hw5⟩
    have q6 : Pg B b v5 Z w5 := (by unfold Pg; rw [← HE.out, Lib.byteCells_append]; exact q5)
    clear q4 q5
    go_wp2
    first
      | go_end0
      | refine bodyPost_ret (results_none rfl _ _ _) rfl ?_
      | refine bodyPost_end (results_none rfl _ _ _) rfl ?_
    exact ⟨rfl, v5, q6, hw13.trans hw5⟩
set_option maxHeartbeats 1000000 in
theorem crange_f (A N : Int) (h0 : 0 ≤ A) (h1 : A ≤ 4611686018427387904) (h2 : 0 ≤ N) (h3 : N ≤ 4611686018427387900) (w : World) (HT : Hid (Tab10 w)) (T : List UInt8) (HR : Hid (spanT A N = T)) :
    Calls Tryd.prog 25 #[.int .i64 A, .int .i64 N] w fun e w' => e = .returned (.string ⟨T.toArray⟩) ∧ Below w.heap.size w w' := by
  have l1 := itoa_short A (by omega) (by omega)
  have l2 := itoa_short (A + N - 1) (by omega) (by omega)
  by_cases hN : N ≤ 1
  · have HE1 : Hid (Lib.itoa A = T) := (by have h := HR.out; unfold spanT at h; rw [if_pos hN] at h; exact h)
    clear HR
    go_enter Tryd.func25, Tryd.ntmps25
    go_wp2_with fail
    refine (nText_f A (by omega) (by omega) _ HT).mono ?_
    rintro e w1 ⟨rfl, hb1⟩
    go_wp2
    go_ret
    exact ⟨by rw [← HE1.out]; rfl, hb1⟩
  · have HE : Hid (Lib.itoa A ++ 44 :: Lib.itoa (A + N - 1) = T) := (by have h := HR.out; unfold spanT at h; rw [if_neg hN] at h; exact h)
    clear HR
    have q1 := add_fits (x := Lib.itoa A) (y := [44]) (by unfold Fits; simp only [List.length_cons, List.length_nil]; omega) Tryd.prog
    have q2 := add_fits (x := Lib.itoa A ++ [44]) (y := Lib.itoa (A + N - 1)) (by unfold Fits; simp only [List.length_append, List.length_cons, List.length_nil]; omega) Tryd.prog
    go_enter Tryd.func25, Tryd.ntmps25
    go_wp2_with fail
    refine (nText_f A (by omega) (by omega) _ HT).mono ?_
    rintro e w1 ⟨rfl, hb1⟩
    have HT1 : Hid (Tab10 w1) := HT.out.on hb1
    go_wp2_with fail
    refine (nText_f (A + N - 1) (by omega) (by omega) _ HT1).mono ?_
    rintro e w2 ⟨rfl, hb2⟩
    go_wp2
    go_ret
    exact ⟨by rw [← HE.out]; rfl, hb1.trans (hb2.mono hb1.size)⟩
end Go.Proofs.YtgckmdncpkhiiaaDoor

/- The code's shownSigns of layer 15, walked. -/
namespace Go.Proofs.YtgckmdncpkhiiaaDoor
open Go.RowKit

def ucells (l : List Int) : List Value := l.map fun n => .int .u8 n
theorem ucells_length (l : List Int) : (ucells l).length = l.length := by simp [ucells]
theorem ucells_append (a b : List Int) : ucells (a ++ b) = ucells a ++ ucells b := by simp [ucells]
theorem ucells_one (l : List Int) : ∀ u ∈ ucells l, u.oneCell' = true := by
  intro u hu
  simp only [ucells, List.mem_map] at hu
  obtain ⟨n, _, rfl⟩ := hu
  rfl
theorem infoU : (Tryd.prog.info? 5).map (fun i => (i.zero, i.size, i.bytes)) = some (some (.int .u8 0), 1, 1) := by kernel_rfl
theorem u_row (w : World) (c : Int) : Holds (w.alloc (.cells #[.int .u8 c] 5)) (.slice (some ⟨w.heap.size, 0, none⟩) 1 1) 1 (ucells [c]) := new_holds w #[.int .u8 c] 5 1 1 (by decide)
def lenW : Value → Nat
  | .slice _ n _ => n
  | _ => 0
theorem mix_len (c : List Mk) : (mixM c).length = c.length := by simp [mixM]
theorem mix_at (c : List Mk) (mx : Bool) (HM : (hasM 45 c && hasM 43 c) = mx) (k : Nat) (hk : k < c.length) : (mixM c).drop k = (if mx = true then 33 else c[k].sg) :: (mixM c).drop (k + 1) := by
  have hl : k < (mixM c).length := by rw [mix_len]; exact hk
  rw [List.drop_eq_getElem_cons hl]
  congr 1
  simp only [mixM, List.getElem_map, HM]
set_option maxHeartbeats 8000000 in
set_option maxRecDepth 10000 in
theorem cshown_f (l : List Mk) (v : Value) (w : World) (hv : HMk w v l) (hl : l.length ≤ 1099511627776) (R : List Int) (HR : Hid (shwL false false l = R)) :
    Calls Tryd.prog 24 #[v] w fun e w' => ∃ v', e = .returned v' ∧ w'.ownsRow w.heap.size 5 1 v' R.length (ucells R) ∧ Below w.heap.size w w' := by
  obtain ⟨lo, lc, rfl⟩ := HMk.form hv
  have hnc := mhold_cap hv
  have HR0 : Hid (([] : List Int) ++ shwL false false (l.drop 0) = R) := (by show _ = _; simp only [List.nil_append, List.drop_zero]; exact HR.out)
  have hown0 : w.ownsRow w.heap.size 5 1 (.slice none 0 0) 0 (ucells []) := hnil_row _ _ _ _
  clear HR
  go_enter Tryd.func24, Tryd.ntmps24
  go_wp2
  go_loopw [3] (fun sv wr => ∃ (acc : List Int) (N : Nat), N ≤ l.length ∧ (∃ o c, sv = .slice o N c) ∧ wr.ownsRow w.heap.size 5 1 sv N (ucells acc) ∧ Below w.heap.size w wr ∧ Hid (acc.length = N) ∧ Hid (acc ++ shwL false false (l.drop N) = R)) (fun sv _ => l.length - lenW sv)
  case atStart => exact ⟨[], 0, Nat.zero_le _, ⟨none, 0, rfl⟩, hown0, Below.refl _ _, rfl, HR0⟩
  case round =>
  obtain ⟨acc, N, hN, ⟨o, c, rfl⟩, hown, hB, HLn, HI⟩ := hrel
  clear HR0 hown0
  by_cases hlt : N < l.length
  · have hsub := mk_from hv N hN
    have hs := run_mF lo l.length lc N hN hnc
    have HST := HI.out
    rw [shw_step] at HST
    have hll : (l.drop N).length = l.length - N := List.length_drop
    obtain ⟨D, hD⟩ : ∃ D, l.drop N = D := ⟨_, rfl⟩
    have HDr : Hid (l.drop N = D) := hD
    rw [hD] at hll hsub HST
    rw [← hll] at hsub hs
    clear hD HI
    generalize mslF lo lc N = ao2 at hs hsub
    generalize lc - N = c2 at hs hsub
    obtain ⟨n, hn⟩ : ∃ n, (chgM D).length = n := ⟨_, rfl⟩
    have hnD : n ≤ D.length := (by rw [← hn]; exact chg_le D)
    have hp := cpiece_f D ao2 c2 wr (hsub.keep hB (Nat.le_refl _)) (by omega) n hn
    have hto := mk_to hsub n hnD
    have hct : D.take n = chgM D := (by rw [← hn]; exact chg_take D)
    rw [hct] at hto
    obtain ⟨T, hT⟩ : ∃ T, tlM (rstM D) = T := ⟨_, rfl⟩
    rw [hT] at HST
    have HTl : Hid ((n = D.length ∧ T = []) ∨ (n < D.length ∧ T = 32 :: shwL false false (l.drop (N + n + 1)))) := (by
      have h1 := congrArg List.length (chg_rstM D)
      rw [List.length_append, hn] at h1
      cases hr : rstM D with
      | nil =>
        rw [hr] at hT h1
        exact .inl ⟨by simpa using h1, hT.symm⟩
      | cons x t =>
        rw [hr] at hT h1
        refine .inr ⟨by simp at h1; omega, ?_⟩
        rw [← hT]
        have h2 : l.drop (N + n + 1) = t := (by
          rw [← List.drop_drop, ← List.drop_drop, HDr.out]
          have h3 := chg_rstM D
          rw [hr] at h3
          have h4 : D.drop n = x :: t := (by rw [← h3, ← hn, List.drop_left])
          rw [h4]
          rfl)
        rw [h2]
        rfl)
    have HS : Hid (acc ++ (mixM (chgM D) ++ T) = R) := HST
    have hhas := fun k u hu r HR => chas_f k (chgM D) (.slice ao2 n c2) u ((hto.keep hB (Nat.le_refl _)).keep hu (Nat.le_refl _)) (by rw [hn]; omega) r HR
    obtain ⟨mx, hmx⟩ : ∃ b, (hasM 45 (chgM D) && hasM 43 (chgM D)) = b := ⟨_, rfl⟩
    have HMX : Hid ((hasM 45 (chgM D) && hasM 43 (chgM D)) = mx) := hmx
    have h45 := fun u hu => hhas 45 u hu _ rfl
    have h43 := fun u hu => hhas 43 u hu _ rfl
    have HCn : Hid ((chgM D).length = n) := hn
    have HDl : Hid (D.length = l.length - N) := hll
    have hn2 : n ≤ 1099511627776 := by omega
    clear HST hT hsub hct hhas hn HDr hll hmx
    generalize chgM D = C at hto HS h45 h43 HMX HCn
    go_wp2_with fail
    refine hp.mono ?_
    rintro e w1 ⟨rfl, hB1⟩
    go_upto_region 4 with fail
    go_cut [5] from 9 to 46 (fun mv wz => mv = .bool mx ∧ Below wr.heap.size wr wz)
    case first =>
      cases h1 : hasM 45 C with
      | true =>
        rw [h1] at h45
        go_wp2_with fail
        refine (h45 w1 hB1).mono ?_
        rintro e w2 ⟨rfl, hB2⟩
        have hB12 := hB1.trans (hB2.mono hB1.size)
        have HE : Hid (hasM 43 C = mx) := (by have h := HMX.out; rw [h1, Bool.true_and] at h; exact h)
        go_wp2_with fail
        refine (h43 w2 hB12).mono ?_
        rintro e w3 ⟨rfl, hB3⟩
        go_wp2
        go_meet
        case rel => exact ⟨by rw [HE.out], hB12.trans (hB3.mono hB12.size)⟩
      | false =>
        rw [h1] at h45
        have HE : Hid (false = mx) := (by have h := HMX.out; rw [h1, Bool.false_and] at h; exact h)
        go_wp2_with fail
        refine (h45 w1 hB1).mono ?_
        rintro e w2 ⟨rfl, hB2⟩
        go_wp2
        go_meet
        case rel => exact ⟨by rw [HE.out], hB1.trans (hB2.mono hB1.size)⟩
    case rest =>
    obtain ⟨rfl, hBc⟩ := hcut
    clear hp h45 h43 hs hB1
    have hown2 : wc.ownsRow w.heap.size 5 1 (.slice o N c) N (ucells acc) := owns_keep hown hBc
    have hB2 := hB.trans (hBc.mono hB.size)
    clear hown hB hBc
    generalize wc = W2 at hown2 hB2 ⊢
    have HS0 : Hid (acc ++ ((mixM C).drop 0 ++ T) = R) := (by show _ = _; rw [List.drop_zero]; exact HS.out)
    have HL0 : Hid (acc.length = N ∧ N = N + 0) := ⟨HLn.out, rfl⟩
    clear HS HLn
    go_wp2
    go_loopw [3, 27] (fun sv i wr => ∃ (k : Nat) (ac : List Int) (N2 : Nat), k ≤ n ∧ i = .int .i64 k ∧ N2 ≤ l.length ∧ (∃ o c, sv = .slice o N2 c) ∧ wr.ownsRow w.heap.size 5 1 sv N2 (ucells ac) ∧ Below w.heap.size w wr ∧ Hid (ac.length = N2 ∧ N2 = N + k) ∧ Hid (ac ++ ((mixM C).drop k ++ T) = R)) (fun _ i _ => n - (intOf i).toNat)
    case atStart => exact ⟨0, acc, N, Nat.zero_le _, by go_num, hN, ⟨o, c, rfl⟩, hown2, hB2, HL0, HS0⟩
    case round =>
    clear HS0 HL0 hown2
    obtain ⟨k, ac, N2, hk, rfl, hN2, ⟨o2, c2', rfl⟩, hown3, hB3, HL3, HI3⟩ := hrel
    have hsz3 := hB3.size
    by_cases hkn : k < n
    · obtain ⟨bk, off, rfl, hbk, _⟩ := HMk.at hto (by have := HCn.out; omega)
      have hkC : k < C.length := (by have := HCn.out; omega)
      obtain ⟨m, hm⟩ : ∃ m, C[k] = m := ⟨_, rfl⟩
      obtain ⟨c0, c1⟩ := Low.mk hB3 hto k hkC hm
      have i1 : (0 : Int) ≤ (k : Int) := by omega
      have i2 : (k : Int) < (n : Int) := by omega
      obtain ⟨S, hS⟩ : ∃ S : Int, (if mx = true then 33 else m.sg) = S := ⟨_, rfl⟩
      have HI4 : Hid ((ac ++ [S]) ++ ((mixM C).drop (k + 1) ++ T) = R) := (by
        show _ = _
        have h := HI3.out
        rw [mix_at C _ HMX.out k hkC, hm, hS] at h
        rw [← h]
        simp)
      have HL4 : Hid ((ac ++ [S]).length = N2 + 1 ∧ N2 + 1 = N + (k + 1) ∧ N2 + 1 ≤ l.length ∧ k + 1 ≤ n) := ⟨by rw [List.length_append, HL3.out.1]; rfl, by have := HL3.out.2; omega, by have := HL3.out.2; have := HDl.out; omega, by omega⟩
      have hownM := hown3.alloc (.cells #[.int .u8 m.sg, .string ⟨m.tx.toArray⟩] 63)
      have hBM := hB3.alloc hB3.size (.cells #[.int .u8 m.sg, .string ⟨m.tx.toArray⟩] 63)
      have HS2 : Hid ((if mx = true then 33 else m.sg) = S) := hS
      clear HI3 HMX hto hS hown3 hB3
      go_upto_region 8 with fail
      go_cut [8] from 28 to 38 (fun sv wz => sv = .int .u8 m.sg ∧ wz = wr.alloc (.cells #[.int .u8 m.sg, .string ⟨m.tx.toArray⟩] 63))
      case first =>
        go_wp2
        go_meet
        case rel => exact ⟨rfl, rfl⟩
      case rest =>
      obtain ⟨rfl, rfl⟩ := hcut
      go_upto_if 33 with fail
      go_cut [8] from 28 to 38 (fun sv wz => sv = .int .u8 S ∧ wz = wr.alloc (.cells #[.int .u8 m.sg, .string ⟨m.tx.toArray⟩] 63))
      case first =>
        cases mx with
        | true =>
          have HE : Hid (33 = S) := (by have h := HS2.out; rw [if_pos rfl] at h; exact h)
          go_wp2
          go_meet
          case rel => exact ⟨by rw [HE.out], rfl⟩
        | false =>
          have HE : Hid (m.sg = S) := (by have h := HS2.out; rw [if_neg (by decide)] at h; exact h)
          go_wp2
          go_meet
          case rel => exact ⟨by rw [HE.out], rfl⟩
      case rest =>
      obtain ⟨rfl, rfl⟩ := hcut
      clear c0 c1 HS2
      generalize wr.alloc (.cells #[.int .u8 m.sg, .string ⟨m.tx.toArray⟩] 63) = Wm at hownM hBM ⊢
      have hszM : w.heap.size ≤ Wm.heap.size := hBM.size
      have hrow := u_row Wm S
      have hownA := hownM.alloc (.cells #[.int .u8 S] 5)
      have hszA : Wm.heap.size ≤ (Wm.alloc (.cells #[.int .u8 S] 5)).heap.size := by simp
      go_wp2_with (at_builtin; refine wpList_append_w _ (by kernel_rfl) (.tmp 34) (.tmp 36) 35 5 (.int .u8 0) 1 1 rfl Tryd.underlying35 infoU rfl (by decide) (by decide) w.heap.size _ _ _ rfl hownA _ 1 (ucells [S]) rfl hrow (ucells_length _) (ucells_one _) (by omega) (by omega) ?_)
      intro v3 u3 hown4 hg4 _
      rw [← ucells_append] at hown4
      have hB4 : Below w.heap.size w u3 := ((hBM.alloc hBM.size _).grown hg4 (hBM.alloc hBM.size _).size (fun j hj => owns_ge hownA hj))
      obtain ⟨o4, c4, rfl⟩ := (holds_of hown4).form
      clear hrow hownA hg4 hszA hownM hBM
      go_wp2
      exact ⟨⟨k + 1, _, N2 + 1, HL4.out.2.2.2, by go_num, HL4.out.2.2.1, ⟨o4, c4, rfl⟩, hown4, hB4, ⟨HL4.out.1, HL4.out.2.1⟩, HI4⟩, by have := HL4.out.2.2.2; simp [intOf]; omega⟩
    · have hend : decide ((k : Int) < (n : Int)) = false := decide_eq_false (by omega)
      have hkk : k = n := by omega
      subst hkk
      have HI4 : Hid (ac ++ T = R) := (by
        have h := HI3.out
        rw [List.drop_of_length_le (by rw [mix_len, HCn.out]; omega), List.nil_append] at h
        exact h)
      have HNk : Hid (N2 = N + k) := HL3.out.2
      have HAl : Hid (ac.length = N2) := HL3.out.1
      clear HI3 HL3 HMX hto
      by_cases hfull : k < D.length
      · have HT : Hid (T = 32 :: shwL false false (l.drop (N2 + 1))) := (by
          rcases HTl.out with h | h
          · omega
          · show _ = _
            rw [HNk.out]
            exact h.2)
        have j1 : (N2 : Int) < (l.length : Int) := (by have := HNk.out; have := HDl.out; omega)
        have HI5 : Hid ((ac ++ [32]) ++ shwL false false (l.drop (N2 + 1)) = R) := (by
          show _ = _
          rw [← HI4.out, HT.out]
          simp)
        have HL5 : Hid ((ac ++ [(32 : Int)]).length = N2 + 1) := (by show _ = _; rw [List.length_append, HAl.out]; rfl)
        have hdec : l.length - (N2 + 1) < l.length - N := (by have := HNk.out; omega)
        have hownM := hown3
        have hBM := hB3
        clear HI4 HT HTl
        have hszA : (wr).heap.size ≤ ((wr).alloc (.cells #[.int .u8 (32)] 5)).heap.size := by simp
        have hrow := u_row (wr) (32)
        have hownA := hownM.alloc (.cells #[.int .u8 (32)] 5)
        go_wp2_with (at_builtin; refine wpList_append_w _ (by kernel_rfl) (.tmp 44) (.tmp 45) 35 5 (.int .u8 0) 1 1 rfl Tryd.underlying35 infoU rfl (by decide) (by decide) w.heap.size _ _ _ rfl hownA _ 1 (ucells [32]) rfl hrow (ucells_length _) (ucells_one _) (by omega) (by omega) ?_)
        intro v3 u3 hown4 hg4 _
        rw [← ucells_append] at hown4
        have hB4 : Below w.heap.size w u3 := ((hBM.alloc hBM.size _).grown hg4 (hBM.alloc hBM.size _).size (fun j hj => owns_ge hownA hj))
        obtain ⟨o4, c4, rfl⟩ := (holds_of hown4).form
        clear hrow hownA hg4 hszA
        go_wp2
        exact ⟨⟨_, N2 + 1, by omega, ⟨o4, c4, rfl⟩, hown4, hB4, HL5, HI5⟩, hdec⟩
      · have HT : Hid (T = []) := (by
          rcases HTl.out with h | h
          · exact h.2
          · omega)
        have j1 : ¬ (N2 : Int) < (l.length : Int) := (by have := HNk.out; have := HDl.out; omega)
        have HI5 : Hid (ac ++ shwL false false (l.drop N2) = R) := (by
          show _ = _
          rw [← HI4.out, HT.out, List.drop_of_length_le (by omega)]
          rfl)
        have hdec : l.length - N2 < l.length - N := (by have := HNk.out; have := HDl.out; omega)
        clear HI4 HT HTl
        go_wp2
        exact ⟨⟨ac, N2, hN2, ⟨o2, c2', rfl⟩, hown3, hB3, HAl, HI5⟩, hdec⟩
  · have hend : ¬ (N : Int) < (l.length : Int) := by omega
    have HE : Hid (acc = R ∧ R.length = N) := (by
      have h := HI.out
      rw [List.drop_of_length_le (by omega)] at h
      have h2 : acc = R := (by rw [← h]; simp [shwL])
      exact ⟨h2, by rw [← h2]; exact HLn.out⟩)
    clear HI HLn
    go_wp2
    go_ret
    obtain ⟨h1, h2⟩ := HE.out
    subst h1
    exact ⟨_, rfl, by rw [h2]; exact hown, hB⟩
end Go.Proofs.YtgckmdncpkhiiaaDoor

/- The code's side of a page of layer 15, walked. -/
namespace Go.Proofs.YtgckmdncpkhiiaaDoor
open Go.RowKit Go.Proofs.YtgckmdncpkhiiaaDoor

theorem cw_u8 {u : World} {a : Addr} {z : Int} (h : u.cell? a = some (.int .u8 z)) {op : Oper} (x : Operand) (ho : op.op = .load 5 x) {ev : Operand → Value} (hx : ev x = .pointer (some a)) :
    (execOp ev op).run Tryd.prog u = .ok (.value (.int .u8 z)) u := by
  simp only [execOp, ho, hx]
  go_simp
theorem cw_str {u : World} {a : Addr} {s : ByteArray} (h : u.cell? a = some (.string s)) {op : Oper} (x : Operand) (ho : op.op = .load 9 x) {ev : Operand → Value} (hx : ev x = .pointer (some a)) :
    (execOp ev op).run Tryd.prog u = .ok (.value (.string s)) u := by
  simp only [execOp, ho, hx]
  go_simp
theorem cw_ix {u : World} {b off n c i : Nat} (hi : i < n) {op : Oper} (x y : Operand) (ho : op.op = .indexAddr 35 x y) {ev : Operand → Value} (hx : ev x = .slice (some ⟨b, off, none⟩) n c) (hy : ev y = .int .i64 (i : Int)) :
    (execOp ev op).run Tryd.prog u = .ok (.value (.pointer (some ⟨b, off + i, none⟩))) u := by
  have i1 : 0 ≤ (i : Int) := by omega
  have i2 : (i : Int) < (n : Int) := by omega
  simp only [execOp, ho, hx, hy]
  go_simp
/-- what a slice of bytes holds, place by place -/
theorem hu_at {w : World} {ao : Option Addr} {n c : Nat} {l : List Int} (h : Holds w (.slice ao n c) n (ucells l)) (hl : l.length = n) (h0 : 0 < n) : ∃ b off, ao = some ⟨b, off, none⟩ ∧ ∀ k (hk : k < l.length), w.cell? ⟨b, off + k, none⟩ = some (.int .u8 l[k]) := by
  rcases h with ⟨_, h1, _⟩ | ⟨ad, c', h, _, hc⟩
  · omega
  · cases h
    have h1 := hc 0 _ (List.getElem?_eq_getElem (by rw [ucells_length]; omega))
    obtain ⟨b, off, rfl⟩ := addr_of h1
    refine ⟨b, off, rfl, fun k hk => ?_⟩
    have := hc k (.int .u8 l[k]) (by simp [ucells, hk])
    rw [add_none] at this
    exact this
theorem sidZ_drop (sg : Int) (l : List Mk) (sh : List Int) (k : Nat) (h : l.length = sh.length) (hk : k < l.length) : sidZ sg (l.drop k) (sh.drop k) = (if l[k].sg = 32 ∨ l[k].sg = sg then lnL [UInt8.ofNat (sh[k]'(by omega)).toNat, 32] l[k].tx else []) ++ sidZ sg (l.drop (k + 1)) (sh.drop (k + 1)) := by
  rw [List.drop_eq_getElem_cons hk, List.drop_eq_getElem_cons (show k < sh.length by omega)]
  rfl
set_option maxHeartbeats 8000000 in
set_option maxRecDepth 10000 in
theorem cside_f (B b : Nat) (v : Value) (sg : Int) (l : List Mk) (sh : List Int) (lv sv : Value) (acc Z : List UInt8) (w : World) (h : Pg B b v acc w) (hBw : B ≤ w.heap.size) (hll : l.length ≤ 1099511627776) (HSl : Hid (l.length = sh.length)) (HSh : Hid (∀ x ∈ sh, 0 ≤ x ∧ x < 256)) (HTx : Hid (∀ m ∈ l, m.tx.length ≤ 1099511627776))
    (hlv : HMk w lv l) (HL : Hid (∀ v' u, Wr B b v v' w u → HMk u lv l)) (HS : Hid (∀ v' u, Wr B b v v' w u → Holds u sv sh.length (ucells sh)))
    (HZ : Hid (acc ++ (if hasM sg l = true then sidZ sg l sh else []).flatten = Z)) (hZ : Z.length ≤ 70368744177664) :
    Calls Tryd.prog 26 #[.pointer (some ⟨b, 0, none⟩), lv, sv, .int .u8 sg] w fun e w' => e = .returned (.tuple #[]) ∧ ∃ v', Pg B b v' Z w' ∧ Wr B b v v' w w' := by
  obtain ⟨lo, lc, rfl⟩ := HMk.form hlv
  obtain ⟨so, sc, rfl⟩ : ∃ so sc, sv = .slice so sh.length sc := (HS.out v w (Wr.refl _ _ _ _)).form
  cases hh : hasM sg l with
  | false =>
    have HE : Hid (acc = Z) := (by show _ = _; have h := HZ.out; rw [hh, if_neg (by decide)] at h; simpa using h)
    have hc := chas_f sg l _ w hlv hll false hh
    clear HZ hh HL HS
    go_enter Tryd.func26, Tryd.ntmps26
    go_wp2_with fail
    refine hc.mono ?_
    rintro e w1 ⟨rfl, hB1⟩
    go_wp2
    first
      | go_end0
      | refine bodyPost_ret (results_none rfl _ _ _) rfl ?_
      | refine bodyPost_end (results_none rfl _ _ _) rfl ?_
    exact ⟨rfl, v, by rw [← HE.out]; exact h.low hB1, Wr.low hB1 hBw⟩
  | true =>
    have HZ0 : Hid (acc ++ (sidZ sg (l.drop 0) (sh.drop 0)).flatten = Z) := (by have h := HZ.out; rw [hh, if_pos rfl] at h; exact h)
    have hc := chas_f sg l _ w hlv hll true hh
    clear HZ hh
    rw [← HSl.out] at HS
    rw [← HSl.out]
    go_enter Tryd.func26, Tryd.ntmps26
    go_wp2_with fail
    refine hc.mono ?_
    rintro e w1 ⟨rfl, hB1⟩
    have hP1 := h.low hB1
    have hW1 : Wr B b v v w w1 := Wr.low hB1 hBw
    clear hc hB1 h
    go_wp2
    go_loopw [16] (fun i wr => ∃ (k : Nat) (v1 : Value) (ac : List UInt8), k ≤ l.length ∧ i = .int .i64 k ∧ Pg B b v1 ac wr ∧ Wr B b v v1 w wr ∧ Hid (ac ++ (sidZ sg (l.drop k) (sh.drop k)).flatten = Z)) (fun i _ => l.length - (intOf i).toNat)
    case atStart => exact ⟨0, v, acc, Nat.zero_le _, by go_num, hP1, hW1, HZ0⟩
    case round =>
    clear HZ0 hP1 hW1
    obtain ⟨k, v1, ac, hk, rfl, hP, hW, HI⟩ := hrel
    have hsz := hW.size
    by_cases hlt : k < l.length
    · obtain ⟨bk, off, rfl, hbk, hcl⟩ := HMk.at (HL.out v1 wr hW) (by omega)
      obtain ⟨sb, soff, rfl, hscl⟩ := hu_at (HS.out v1 wr hW) HSl.out.symm (by omega)
      obtain ⟨c0, c1⟩ := hcl k hlt
      have s0 := hscl k (by have := HSl.out; omega)
      have HI2 := HI.out
      rw [sidZ_drop sg l sh k HSl.out hlt] at HI2
      have hx := HSh.out (sh[k]'(by have := HSl.out; omega)) (List.getElem_mem _)
      have htx := HTx.out l[k] (List.getElem_mem _)
      obtain ⟨m, hm⟩ : ∃ m, l[k] = m := ⟨_, rfl⟩
      obtain ⟨x, hxx⟩ : ∃ x, sh[k]'(by have := HSl.out; omega) = x := ⟨_, rfl⟩
      rw [hm] at c0 c1 HI2 htx
      rw [hxx] at s0 HI2 hx
      have HX : Hid (sh[k]'(by have := HSl.out; omega) = x) := hxx
      clear hcl hscl HI hm hxx
      have i1 : (0 : Int) ≤ (k : Int) := by omega
      have i2 : (k : Int) < (l.length : Int) := by omega
      obtain ⟨q, hq⟩ : ∃ q : Bool, decide (m.sg = 32 ∨ m.sg = sg) = q := ⟨_, rfl⟩
      have HQ : Hid (decide (m.sg = 32 ∨ m.sg = sg) = q) := hq
      clear hq
      go_upto_region 4 with fail
      go_cut [29] from 17 to 38 (fun cv wz => cv = .bool q ∧ wz = wr.alloc (.cells #[.int .u8 m.sg, .string ⟨m.tx.toArray⟩] 63))
      case first =>
        by_cases h1 : m.sg = 32
        · have e1 : (m.sg == 32) = true := beq_iff_eq.2 h1
          have HE : Hid (true = q) := (by show _ = _; rw [← HQ.out]; simp [h1])
          clear h1
          go_wp2
          go_meet
          case rel => exact ⟨by rw [← HE.out], rfl⟩
        · have e1 : (m.sg == 32) = false := beq_eq_false_iff_ne.2 h1
          have HE : Hid ((m.sg == sg) = q) := (by show _ = _; rw [← HQ.out]; simp only [h1, false_or]; rfl)
          clear h1
          go_wp2
          go_meet
          case rel => exact ⟨by rw [← HE.out], rfl⟩
      case rest =>
      obtain ⟨rfl, rfl⟩ := hcut
      have hBm : Below wr.heap.size wr (wr.alloc (.cells #[.int .u8 m.sg, .string ⟨m.tx.toArray⟩] 63)) := (Below.refl _ wr).alloc (Nat.le_refl _) _
      have hPm := hP.low hBm
      have hWm := hW.trans (Wr.low hBm (Nat.le_trans hBw hsz))
      have hMb : (wr.alloc (.cells #[.int .u8 m.sg, .string ⟨m.tx.toArray⟩] 63)).heap[wr.heap.size]? = some (.cells #[.int .u8 m.sg, .string ⟨m.tx.toArray⟩] 63) := heap_alloc_new wr _
      have hOff : Off wr.heap.size b v1 := ⟨by have := Bld.lt hP; omega, fun e => by have := (hP.2.2.1.lt _ e).2; omega⟩
      have hsm : wr.heap.size ≤ (wr.alloc (.cells #[.int .u8 m.sg, .string ⟨m.tx.toArray⟩] 63)).heap.size := by simp
      clear c0 c1 s0
      generalize wr.alloc (.cells #[.int .u8 m.sg, .string ⟨m.tx.toArray⟩] 63) = Wm at hPm hWm hMb hsm hBm ⊢
      generalize wr.heap.size = M at hMb hOff hsm
      cases q with
      | true =>
        have hq1 : m.sg = 32 ∨ m.sg = sg := of_decide_eq_true HQ.out
        rw [if_pos hq1, List.flatten_append, ← List.append_assoc] at HI2
        obtain ⟨A2, hA2⟩ : ∃ A2, ac ++ (lnL [UInt8.ofNat x.toNat, 32] m.tx).flatten = A2 := ⟨_, rfl⟩
        rw [hA2] at HI2
        have HI3 : Hid (A2 ++ (sidZ sg (l.drop (k + 1)) (sh.drop (k + 1))).flatten = Z) := HI2
        have hAl : A2.length ≤ 70368744177664 := (by
          have := congrArg List.length HI2
          rw [List.length_append] at this
          omega)
        have hcl : ∀ (v' : Value) (u : World), Wr B b v v' w u → u.cell? ⟨sb, soff + k, none⟩ = some (.int .u8 x) := (by
          intro v' u hu
          obtain ⟨sb', soff', he, hsc⟩ := hu_at (HS.out v' u hu) HSl.out.symm (by omega)
          cases he
          rw [hsc k (by have := HSl.out; omega)]
          rw [HX.out])
        have d0 : Wm.drew.cell? ⟨sb, soff + k, none⟩ = some (.int .u8 x) := hcl _ _ (hWm.trans (Wr.low ((Below.refl _ Wm).drew) (by have := hWm.size; omega)))
        have d1 : Wm.drew.cell? ⟨M, 1, none⟩ = some (.string ⟨m.tx.toArray⟩) := (by rw [Lib.cell_of_heap (w := Wm.drew) hMb]; rfl)
        have hPd : Pg B b v1 ac Wm.drew := hPm.low ((Below.refl _ Wm).drew)
        have hWd : Wr B b v v1 w Wm.drew := hWm.trans (Wr.low ((Below.refl _ Wm).drew) (by have := hWm.size; omega))
        have HC : Hid (Calls Tryd.prog 47 (#[.pointer (some ⟨b, 0, none⟩), .int .u8 x, .string ⟨m.tx.toArray⟩] ++ #[]) Wm.drew fun e w2 => ∃ v2, e = .returned v2 ∧ (w2.cell? ⟨sb, soff + k, none⟩ = some (.int .u8 x) ∧ w2.cell? ⟨M, 1, none⟩ = some (.string ⟨m.tx.toArray⟩)) ∧ v2 = .tuple #[] ∧ ∃ v', Pg B b v' A2 w2 ∧ Wr B b v v' w w2) := (by
          refine (cline_f B b v1 x hx.1 hx.2 ac m.tx A2 Wm.drew hPd (Nat.le_trans hBw hWd.size) hA2 hAl htx).mono ?_
          rintro e w2 ⟨rfl, v2, h1, h2⟩
          have h3 := hWd.trans h2
          obtain ⟨h4, _⟩ := h2.block (k := M) hMb hOff
          exact ⟨_, rfl, ⟨hcl _ _ h3, by rw [Lib.cell_of_heap h4]; rfl⟩, rfl, v2, h1, h3⟩)
        clear HI2 hA2 HQ hcl hPd hWd hPm hWm hP hW hMb hOff HL HS
        go_upto_region 5 with fail
        refine wp_region_noPanic ?_
        refine wp_region_held_drew (S := fun u => u.cell? ⟨sb, soff + k, none⟩ = some (.int .u8 x) ∧ u.cell? ⟨M, 1, none⟩ = some (.string ⟨m.tx.toArray⟩)) (by kernel_rfl) ⟨d0, d1⟩ (fun hHeld => ?_)
        generalize Wm.drew = wd at hHeld HC ⊢
        refine go_take 0 30 _ (.pointer (some ⟨b, 0, none⟩)) rfl (by kernel_rfl) (by kernel_rfl) (by kernel_rfl) (by kernel_rfl) (fun _ _ _ h => h) (Or.inl ⟨by kernel_rfl, fun u hu => by kernel_rfl⟩) hHeld ?_
        simp only [Act.put, List.setIfInBounds_toArray, List.set_cons_zero, List.set_cons_succ]
        refine go_take 1 31 _ (.slice (some ⟨sb, soff, none⟩) l.length sc) rfl (by kernel_rfl) (by kernel_rfl) (by kernel_rfl) (by kernel_rfl) (fun _ _ _ h => h) (Or.inl ⟨by kernel_rfl, fun u hu => by kernel_rfl⟩) hHeld ?_
        simp only [Act.put, List.setIfInBounds_toArray, List.set_cons_zero, List.set_cons_succ]
        refine go_take 2 32 _ (.int .i64 (k : Int)) rfl (by kernel_rfl) (by kernel_rfl) (by kernel_rfl) (by kernel_rfl) (fun _ _ _ h => h) (Or.inl ⟨by kernel_rfl, fun u hu => by kernel_rfl⟩) hHeld ?_
        simp only [Act.put, List.setIfInBounds_toArray, List.set_cons_zero, List.set_cons_succ]
        refine go_take 3 33 _ (.pointer (some ⟨sb, soff + k, none⟩)) rfl (by kernel_rfl) (by kernel_rfl) (by kernel_rfl) (by kernel_rfl) (fun _ _ _ h => h) (Or.inl ⟨by kernel_rfl, fun u hu => cw_ix (c := sc) hlt (.tmp 31) (.tmp 32) (by kernel_rfl) (by kernel_rfl) (by kernel_rfl)⟩) hHeld ?_
        simp only [Act.put, List.setIfInBounds_toArray, List.set_cons_zero, List.set_cons_succ]
        refine go_take 4 34 _ (.int .u8 x) rfl (by kernel_rfl) (by kernel_rfl) (by kernel_rfl) (by kernel_rfl) (fun _ _ _ h => h) (Or.inl ⟨by kernel_rfl, fun u hu => cw_u8 hu.1 (.tmp 33) (by kernel_rfl) (by kernel_rfl)⟩) hHeld ?_
        simp only [Act.put, List.setIfInBounds_toArray, List.set_cons_zero, List.set_cons_succ]
        refine go_take 5 35 _ (.pointer (some ⟨M, 1, none⟩)) rfl (by kernel_rfl) (by kernel_rfl) (by kernel_rfl) (by kernel_rfl) (fun _ _ _ h => h) (Or.inl ⟨by kernel_rfl, fun u hu => by kernel_rfl⟩) hHeld ?_
        simp only [Act.put, List.setIfInBounds_toArray, List.set_cons_zero, List.set_cons_succ]
        refine go_take 6 36 _ (.string ⟨m.tx.toArray⟩) rfl (by kernel_rfl) (by kernel_rfl) (by kernel_rfl) (by kernel_rfl) (fun _ _ _ h => h) (Or.inl ⟨by kernel_rfl, fun u hu => cw_str hu.2 (.tmp 35) (by kernel_rfl) (by kernel_rfl)⟩) hHeld ?_
        simp only [Act.put, List.setIfInBounds_toArray, List.set_cons_zero, List.set_cons_succ]
        refine go_callE 7 37 _ rfl (by kernel_rfl) (by kernel_rfl) (by kernel_rfl) 47 (.func 47) #[.tmp 30, .tmp 34, .tmp 36] #[51, 5, 9] (by kernel_rfl) #[] (by kernel_rfl) #[.pointer (some ⟨b, 0, none⟩), .int .u8 x, .string ⟨m.tx.toArray⟩] (by kernel_rfl) (enters_of Tryd.func47 (by kernel_rfl) rfl) (fun v2 w2 => v2 = .tuple #[] ∧ ∃ v', Pg B b v' A2 w2 ∧ Wr B b v v' w w2) ?_ ?_
        · exact HC.out
        rintro _ w2 _ ⟨rfl, v2, hP2, hW2⟩
        simp only [Act.put, List.setIfInBounds_toArray, List.set_cons_zero, List.set_cons_succ]
        refine wpAnyH_done (by kernel_rfl) ?_ _
        refine NoPanic.normal ?_
        
        clear HC hHeld
        go_wp2
        exact ⟨⟨k + 1, v2, A2, by omega, by go_num, hP2, hW2, HI3⟩, by simp [intOf]; omega⟩
      | false =>
        have hq1 : ¬ (m.sg = 32 ∨ m.sg = sg) := of_decide_eq_false HQ.out
        rw [if_neg hq1, List.nil_append] at HI2
        have HI3 : Hid (ac ++ (sidZ sg (l.drop (k + 1)) (sh.drop (k + 1))).flatten = Z) := HI2
        clear HI2 HQ
        go_wp2
        exact ⟨⟨k + 1, v1, ac, by omega, by go_num, hPm, hWm, HI3⟩, by simp [intOf]; omega⟩
    · have hend : decide ((k : Int) < (l.length : Int)) = false := decide_eq_false (by omega)
      have HE : Hid (ac = Z) := (by
        have h := HI.out
        rw [List.drop_of_length_le (by omega)] at h
        show _ = _
        simpa [sidZ] using h)
      clear HI
      go_wp2
      first
        | go_end0
        | refine bodyPost_ret (results_none rfl _ _ _) rfl ?_
        | refine bodyPost_end (results_none rfl _ _ _) rfl ?_
      exact ⟨rfl, v1, by rw [← HE.out]; exact hP, hW⟩
end Go.Proofs.YtgckmdncpkhiiaaDoor

/- The code's Check of layer 11, walked. -/
namespace Go.Proofs.YtgckmdncpkhiiaaDoor
open Ln Go.RowKit

theorem rng_nm (h : Hk) : rngB h = (nmB h.A h.AN && nmB h.B h.BN) := by
  unfold rngB nmB
  cases nat31 h.A <;> cases nat31 h.AN <;> cases nat31 h.B <;> cases nat31 h.BN <;> cases decide (h.A = 0) <;> cases decide (0 < h.AN) <;> cases decide (h.B = 0) <;> cases decide (0 < h.BN) <;> rfl
theorem pk_mem {no : Int} {l : List Mk} {a : List UInt8} (h : a ∈ pkL no l) : ∃ m ∈ l, m.tx = a := by
  induction l with
  | nil => cases h
  | cons m l ih =>
    simp only [pkL] at h
    split at h
    · rcases List.mem_cons.1 h with rfl | h
      · exact ⟨m, by simp, rfl⟩
      · obtain ⟨x, hx, e⟩ := ih h
        exact ⟨x, by simp [hx], e⟩
    · obtain ⟨x, hx, e⟩ := ih h
      exact ⟨x, by simp [hx], e⟩
theorem chk_rng {h : Hk} (hq : rngB h = false) : chkH h = 2 := by
  unfold chkH
  rw [if_pos hq]
theorem chk_fld {h : Hk} (h1 : rngB h = true) (hq : fldB h.ls = false) : chkH h = 6 := by
  unfold chkH
  rw [if_neg (by rw [h1]; decide), if_pos hq]
theorem chk_cnt {h : Hk} (h1 : rngB h = true) (h2 : fldB h.ls = true) (hq : h.AN ≠ (oldL h).length ∨ h.BN ≠ (newL h).length) : chkH h = 120 := by
  unfold chkH
  rw [if_neg (by rw [h1]; decide), if_neg (by rw [h2]; decide), if_pos hq]
theorem all_chg {l : List Mk} (ha : allB l = true) : l.all (fun m => decide (m.sg = 32)) = !l.any chgB := by
  induction l with
  | nil => rfl
  | cons m l ih =>
    simp only [allB, List.all_cons, Bool.and_eq_true] at ha
    simp only [List.all_cons, List.any_cons]
    rw [ih ha.2]
    have hm := ha.1
    simp only [okS, Bool.or_eq_true, decide_eq_true_eq] at hm
    unfold chgB
    rcases hm with (hm | hm) | hm <;> rw [hm] <;> simp
theorem chk_end {h : Hk} (h1 : rngB h = true) (h2 : fldB h.ls = true) (h3 : h.AN = (oldL h).length) (h4 : h.BN = (newL h).length) {q : Bool} (hq : h.ls.any chgB = q) : chkH h = if q = true then 0 else 50 := by
  unfold chkH
  rw [if_neg (by rw [h1]; decide), if_neg (by rw [h2]; decide), if_neg (fun k => by rcases k with k | k <;> contradiction)]
  have ha : allB h.ls = true := by
    have := fld_code h.ls
    rw [h2] at this
    simp only [Bool.true_eq, Bool.and_eq_true] at this
    exact this.1.1
  rw [all_chg ha, hq]
  cases q <;> rfl
theorem any_strange (l : List Mk) : l.any (fun m => !okS m.sg) = !allB l := by
  induction l with
  | nil => rfl
  | cons m l ih =>
    simp only [List.any_cons, allB, List.all_cons, Bool.not_and] at ih ⊢
    rw [ih]
theorem hold_held {h : Hk} {v : Value} {W u : World} (hv : HMk W v h.ls) (hl : h.ls.length ≤ 1099511627776) {R : List (List UInt8)} (HR : Hid (oldL h = R)) (hL : Low W u) : Calls Tryd.prog 34 (#[hkV h v] ++ #[]) u fun e w' => ∃ x, e = .returned x ∧ Low W w' ∧ (HS w' x R ∧ Below u.heap.size u w') := by
  refine (hOld_f h v u (HMk.keep hv hL (Nat.le_refl _)) hl R HR).mono ?_
  rintro e w' ⟨x, rfl, hx, hB⟩
  exact ⟨_, rfl, hL.trans (hB.mono hL.size), hx, hB⟩
theorem hnew_held {h : Hk} {v : Value} {W u : World} (hv : HMk W v h.ls) (hl : h.ls.length ≤ 1099511627776) {R : List (List UInt8)} (HR : Hid (newL h = R)) (hL : Low W u) : Calls Tryd.prog 35 (#[hkV h v] ++ #[]) u fun e w' => ∃ x, e = .returned x ∧ Low W w' ∧ (HS w' x R ∧ Below u.heap.size u w') := by
  refine (hNew_f h v u (HMk.keep hv hL (Nat.le_refl _)) hl R HR).mono ?_
  rintro e w' ⟨x, rfl, hx, hB⟩
  exact ⟨_, rfl, hL.trans (hB.mono hL.size), hx, hB⟩

set_option maxRecDepth 10000 in
set_option maxHeartbeats 4000000 in
theorem hCheck_f (h : Hk) (v : Value) (w : World) (hv : HMk w v h.ls) (hl : h.ls.length ≤ 1099511627776) (htx : ∀ m ∈ h.ls, m.tx.length ≤ 1099511627776) (r : Int) (HR : Hid (chkH h = r)) : Calls Tryd.prog 19 #[hkV h v] w fun e w' => e = .returned (.int .i64 r) ∧ Below w.heap.size w w' := by
  obtain ⟨A, AN, B, BN, ls⟩ := h
  dsimp only at hv hl htx
  obtain ⟨lo, lc, rfl⟩ := HMk.form hv
  have hx := Hx.new w ⟨A, AN, B, BN, ls⟩ (.slice lo ls.length lc)
  have hBl : Below w.heap.size w (w.alloc (hkO ⟨A, AN, B, BN, ls⟩ (.slice lo ls.length lc))) := (Below.refl _ w).alloc (Nat.le_refl _) _
  have hv1 := HMk.keep hv hBl (Nat.le_refl _)
  have HTX : Hid (∀ m ∈ ls, m.tx.length ≤ 1099511627776) := htx
  clear htx hv
  obtain ⟨x0, x1, x2, x3, x4⟩ := hx.cells
  unfold hkV
  dsimp only at x0 x1 x2 x3 x4 ⊢
  have hW0 : w.alloc (hkO ⟨A, AN, B, BN, ls⟩ (.slice lo ls.length lc)) = w.alloc (Obj.cells #[Value.int IntKind.i64 A, Value.int IntKind.i64 AN, Value.int IntKind.i64 B, Value.int IntKind.i64 BN, .slice lo ls.length lc] 44) := rfl
  generalize w.alloc (hkO ⟨A, AN, B, BN, ls⟩ (.slice lo ls.length lc)) = W at *
  have hW := hW0.symm
  clear hW0
  obtain ⟨p1, hp1⟩ : ∃ p, nmB A AN = p := ⟨_, rfl⟩
  obtain ⟨p2, hp2⟩ : ∃ p, nmB B BN = p := ⟨_, rfl⟩
  have HG : Hid (rngB ⟨A, AN, B, BN, ls⟩ = (p1 && p2)) := (by show _ = _; rw [rng_nm, ← hp1, ← hp2])
  have HP1 : Hid (nmB A AN = p1) := hp1
  have HP2 : Hid (nmB B BN = p2) := hp2
  clear hp1 hp2
  go_enter Tryd.func19, Tryd.ntmps19
  go_wp2_with fail
  refine (hnumbered_f A AN W p1 HP1).mono ?_
  rintro e w1 ⟨rfl, rfl⟩
  clear hW HP1
  cases p1 with
  | false =>
    have HE : Hid (2 = r) := (by show _ = _; rw [← HR.out, chk_rng (by rw [HG.out]; rfl)])
    clear HR HG
    go_wp2
    go_ret
    exact ⟨by rw [← HE.out]; rfl, hBl⟩
  | true =>
  go_wp2_with fail
  refine (hnumbered_f B BN w1 p2 HP2).mono ?_
  rintro e W ⟨rfl, rfl⟩
  clear HP2
  cases p2 with
  | false =>
    have HE : Hid (2 = r) := (by show _ = _; rw [← HR.out, chk_rng (by rw [HG.out]; rfl)])
    clear HR HG
    go_wp2
    go_ret
    exact ⟨by rw [← HE.out]; rfl, hBl⟩
  | true =>
    obtain ⟨RO, hRO⟩ : ∃ r, oldL ⟨A, AN, B, BN, ls⟩ = r := ⟨_, rfl⟩
    obtain ⟨RN, hRN⟩ : ∃ r, newL ⟨A, AN, B, BN, ls⟩ = r := ⟨_, rfl⟩
    have HO : Hid (oldL ⟨A, AN, B, BN, ls⟩ = RO) := hRO
    have HN : Hid (newL ⟨A, AN, B, BN, ls⟩ = RN) := hRN
    have HF : Hid (fldB ls = (allB ls && checkB RO && checkB RN)) := (by show _ = _; rw [← hRO, ← hRN]; exact fld_code ls)
    have hROl : RO.length ≤ 1099511627776 := by rw [← hRO]; have := pkL_length 43 ls; simp only [oldL]; omega
    have hRNl : RN.length ≤ 1099511627776 := by rw [← hRN]; have := pkL_length 45 ls; simp only [newL]; omega
    have HROm : Hid (∀ a ∈ RO, a.length ≤ 1099511627776) := (by
      intro a ha
      rw [← hRO] at ha
      obtain ⟨m, hm, rfl⟩ := pk_mem ha
      exact HTX.out m hm)
    have HRNm : Hid (∀ a ∈ RN, a.length ≤ 1099511627776) := (by
      intro a ha
      rw [← hRN] at ha
      obtain ⟨m, hm, rfl⟩ := pk_mem ha
      exact HTX.out m hm)
    clear hRO hRN HTX
    have hxx : ∀ u : World, Low W u → Hx u w.heap.size ⟨A, AN, B, BN, ls⟩ (.slice lo ls.length lc) := fun u hu => hx.low hu
    go_upto_region 3 with fail
    go_cut [3, 4] from 5 to 51 (fun a b wz => ∃ oo oc no nc, a = .slice oo RO.length oc ∧ b = .slice no RN.length nc ∧ HS wz a RO ∧ HS wz b RN ∧ Below W.heap.size W wz)
    case first =>
      have hlow : Low W (W.drewN 1) := Below.dN (Below.refl _ W) 1
      refine wp_region_noPanic ?_
      refine wp_region_held_drew (S := fun u => Low W u) (by kernel_rfl) hlow (fun hHeld => ?_)
      refine go_take 0 19 _ (hkV ⟨A, AN, B, BN, ls⟩ (.slice lo ls.length lc)) rfl (by kernel_rfl) (by kernel_rfl) (by kernel_rfl) (by kernel_rfl) (fun _ _ _ h => h) (Or.inl ⟨by kernel_rfl, fun u hu => load_hk (hxx u hu) (.tmp 1) (by kernel_rfl) (by kernel_rfl)⟩) hHeld ?_
      simp only [Act.put, List.setIfInBounds_toArray, List.set_cons_zero, List.set_cons_succ]
      refine go_take 2 21 _ (hkV ⟨A, AN, B, BN, ls⟩ (.slice lo ls.length lc)) rfl (by kernel_rfl) (by kernel_rfl) (by kernel_rfl) (by kernel_rfl) (fun _ _ _ h => h) (Or.inl ⟨by kernel_rfl, fun u hu => load_hk (hxx u hu) (.tmp 1) (by kernel_rfl) (by kernel_rfl)⟩) hHeld ?_
      simp only [Act.put, List.setIfInBounds_toArray, List.set_cons_zero, List.set_cons_succ]
      refine go_callE 1 20 _ rfl (by kernel_rfl) (by kernel_rfl) (by kernel_rfl) 34 (.func 34) #[.tmp 19] #[44] (by kernel_rfl) #[] (by kernel_rfl) #[hkV ⟨A, AN, B, BN, ls⟩ (.slice lo ls.length lc)] (by kernel_rfl) (enters_of Tryd.func34 (by kernel_rfl) rfl) _ (hold_held hv1 hl HO hHeld) ?_
      rintro vo w1 hHeld1 ⟨hvo, hBo⟩
      obtain ⟨oo, oc, rfl⟩ := Holds.form hvo
      simp only [Act.put, List.setIfInBounds_toArray, List.set_cons_zero, List.set_cons_succ]
      refine go_callE 3 22 _ rfl (by kernel_rfl) (by kernel_rfl) (by kernel_rfl) 35 (.func 35) #[.tmp 21] #[44] (by kernel_rfl) #[] (by kernel_rfl) #[hkV ⟨A, AN, B, BN, ls⟩ (.slice lo ls.length lc)] (by kernel_rfl) (enters_of Tryd.func35 (by kernel_rfl) rfl) _ (hnew_held hv1 hl HN hHeld1) ?_
      rintro vn w2 hHeld ⟨hvn, hBn⟩
      obtain ⟨no, nc, rfl⟩ := Holds.form hvn
      simp only [Act.put, List.setIfInBounds_toArray, List.set_cons_zero, List.set_cons_succ]
      refine go_take 4 3 _ (.slice oo RO.length oc) rfl (by kernel_rfl) (by kernel_rfl) (by kernel_rfl) (by kernel_rfl) (fun _ _ _ h => h) (Or.inl ⟨by kernel_rfl, fun u hu => by kernel_rfl⟩) hHeld ?_
      simp only [Act.put, List.setIfInBounds_toArray, List.set_cons_zero, List.set_cons_succ]
      refine go_take 5 4 _ (.slice no RN.length nc) rfl (by kernel_rfl) (by kernel_rfl) (by kernel_rfl) (by kernel_rfl) (fun _ _ _ h => h) (Or.inl ⟨by kernel_rfl, fun u hu => by kernel_rfl⟩) hHeld ?_
      simp only [Act.put, List.setIfInBounds_toArray, List.set_cons_zero, List.set_cons_succ]
      refine wpAnyH_done (by kernel_rfl) ?_ _
      refine NoPanic.normal ?_
      go_wp2_with fail
      go_meet
      case rel => exact ⟨_, _, _, _, rfl, rfl, HS.keep hvo hBn (Nat.le_refl _), hvn, hHeld⟩
    case rest =>
      obtain ⟨oo, oc, no, nc, rfl, rfl, hvo, hvn, hBz⟩ := hcut
      have hB2 := hBl.trans (hBz.mono hBl.size)
      obtain ⟨y0, y1, y2, y3, y4⟩ := (hxx _ hBz).cells
      dsimp only at y0 y1 y2 y3 y4
      have hv2 := HMk.keep hv1 hBz (Nat.le_refl _)
      generalize wc = w2 at *
      clear x0 x1 x2 x3 x4
      obtain ⟨s, hs⟩ : ∃ s, allB ls = s := ⟨_, rfl⟩
      have HS1 : Hid (ls.any (fun m => !okS m.sg) = !s) := (by show _ = _; rw [any_strange, hs])
      have HF2 : Hid (fldB ls = (s && checkB RO && checkB RN)) := (by have h := HF.out; rw [hs] at h; exact h)
      clear HF hs
      go_wp2_with fail
      refine (hContains_f 37 ls (fun m => !okS m.sg) _ w2 hv2 hl (enters_of Tryd.func37 (by kernel_rfl) rfl) (fun m _ u => hstrange_f m u) (!s) HS1).mono ?_
      rintro e w3 ⟨rfl, hB3⟩
      have hx3 := (hxx _ hBz).low hB3
      have hvo3 := HS.keep hvo hB3 (Nat.le_refl _)
      have hvn3 := HS.keep hvn hB3 (Nat.le_refl _)
      have hv3 := HMk.keep hv2 hB3 (Nat.le_refl _)
      have hB4 := hB2.trans (hB3.mono hB2.size)
      obtain ⟨z0, z1, z2, z3, z4⟩ := hx3.cells
      dsimp only at z0 z1 z2 z3 z4
      clear y0 y1 y2 y3 y4 HS1
      cases s with
      | false =>
        have HE : Hid (6 = r) := (by show _ = _; rw [← HR.out, chk_fld HG.out (by rw [HF2.out]; rfl)])
        clear HR HG HF2
        go_wp2
        go_ret
        exact ⟨by rw [← HE.out]; rfl, hB4⟩
      | true =>
      obtain ⟨q1, hq1⟩ : ∃ q, checkB RO = q := ⟨_, rfl⟩
      obtain ⟨q2, hq2⟩ : ∃ q, checkB RN = q := ⟨_, rfl⟩
      have HQ1 : Hid (checkB RO = q1) := hq1
      have HQ2 : Hid (checkB RN = q2) := hq2
      have HF3 : Hid (fldB ls = (q1 && q2)) := (by have h := HF2.out; rw [hq1, hq2, Bool.true_and] at h; exact h)
      clear HF2 hq1 hq2
      cases q1 with
      | false =>
        have HE : Hid (6 = r) := (by show _ = _; rw [← HR.out, chk_fld HG.out (by rw [HF3.out]; rfl)])
        clear HR HG HF3
        go_wp2_with fail
        refine (hlCheck_f _ RO w3 hROl HROm.out hvo3 false HQ1 6 rfl).mono ?_
        rintro e w4 ⟨rfl, rfl⟩
        go_wp2
        go_ret
        exact ⟨by rw [← HE.out]; rfl, hB4⟩
      | true =>
      go_wp2_with fail
      refine (hlCheck_f _ RO w3 hROl HROm.out hvo3 true HQ1 0 rfl).mono ?_
      rintro e w4 ⟨rfl, rfl⟩
      cases q2 with
      | false =>
        have HE : Hid (6 = r) := (by show _ = _; rw [← HR.out, chk_fld HG.out (by rw [HF3.out]; rfl)])
        clear HR HG HF3
        go_wp2_with fail
        refine (hlCheck_f _ RN w3 hRNl HRNm.out hvn3 false HQ2 6 rfl).mono ?_
        rintro e w4 ⟨rfl, rfl⟩
        go_wp2
        go_ret
        exact ⟨by rw [← HE.out]; rfl, hB4⟩
      | true =>
      go_wp2_with fail
      refine (hlCheck_f _ RN w3 hRNl HRNm.out hvn3 true HQ2 0 rfl).mono ?_
      rintro e w4 ⟨rfl, rfl⟩
      have HFT : Hid (fldB ls = true) := (by have h := HF3.out; exact h)
      clear HF3 HQ1 HQ2
      by_cases ha : (RO.length : Int) = AN
      · have ea : ((RO.length : Int) != AN) = false := by simpa using ha
        by_cases hb : (RN.length : Int) = BN
        · have eb : ((RN.length : Int) != BN) = false := by simpa using hb
          obtain ⟨q, hq⟩ : ∃ q, ls.any chgB = q := ⟨_, rfl⟩
          have HQ : Hid (ls.any chgB = q) := hq
          have HE : Hid ((if q = true then 0 else 50) = r) := (by
            show _ = _
            rw [← HR.out, chk_end (h := ⟨A, AN, B, BN, ls⟩) HG.out HFT.out (by rw [HO.out, ha]) (by rw [HN.out, hb]) hq])
          clear HR HG HFT hq ha hb
          go_wp2_with fail
          refine (hContains_f 39 ls chgB _ w3 hv3 hl (enters_of Tryd.func39 (by kernel_rfl) rfl) (fun m _ u => hchanged_f m u) q HQ).mono ?_
          rintro e w5 ⟨rfl, hB5⟩
          have hB6 := hB4.trans (hB5.mono hB4.size)
          cases q with
          | false =>
            go_wp2
            go_ret
            exact ⟨by rw [← HE.out]; rfl, hB6⟩
          | true =>
            go_wp2
            go_ret
            exact ⟨by rw [← HE.out]; rfl, hB6⟩
        · have eb : ((RN.length : Int) != BN) = true := by simpa using hb
          have HE : Hid (120 = r) := (by
            show _ = _
            rw [← HR.out, chk_cnt (h := ⟨A, AN, B, BN, ls⟩) HG.out HFT.out (.inr (by rw [HN.out]; exact fun k => hb k.symm))])
          clear HR HG HFT ha hb
          go_wp2
          go_ret
          exact ⟨by rw [← HE.out]; rfl, hB4⟩
      · have ea : ((RO.length : Int) != AN) = true := by simpa using ha
        have HE : Hid (120 = r) := (by
          show _ = _
          rw [← HR.out, chk_cnt (h := ⟨A, AN, B, BN, ls⟩) HG.out HFT.out (.inl (by rw [HO.out]; exact fun k => ha k.symm))])
        clear HR HG HFT ha
        go_wp2
        go_ret
        exact ⟨by rw [← HE.out]; rfl, hB4⟩
end Go.Proofs.YtgckmdncpkhiiaaDoor

/- The code's text of a hunk, check and Print of layer 15, walked. -/
namespace Go.Proofs.YtgckmdncpkhiiaaDoor
open Go.RowKit Go.Proofs.YtgckmdncpkhiiaaDoor

theorem Hx.wr {B b : Nat} {v v' : Value} {w w' : World} {M : Nat} {h : Hk} {y : Value} (q : Hx w M h y) (hw : Wr B b v v' w w') (ho : Off M b v) : Hx w' M h y ∧ Off M b v' := hw.block q ho
theorem shown_keep {B b base : Nat} {v : Value} {w : World} {sv : Value} {n : Nat} {xs : List Value} (h : w.ownsRow base 5 1 sv n xs) (hb : b < base) (hv : ∀ g, v.ownBlock = some g → g < base) : ∀ (v' : Value) (u : World), Wr B b v v' w u → Holds u sv n xs := by
  intro v' u hw
  rcases h.2 with ⟨rfl, h0⟩ | ⟨g, cap, cur, rfl, hg, hgb, hnc, _⟩
  · exact .inl ⟨rfl, h0, List.eq_nil_of_length_eq_zero (by rw [h.1, h0, Nat.zero_mul])⟩
  · refine .inr ⟨⟨g, 0, none⟩, cap, rfl, hnc, fun j x hj => ?_⟩
    have h1 := h.cells (g := g) rfl j x hj
    obtain ⟨h2, _⟩ := hw.block hgb ⟨by omega, fun e => by have := hv g e; omega⟩
    rw [add_none] at h1 ⊢
    rw [World.cell?_of_block (w := w) (by show u.heap[g]? = w.heap[g]?; rw [h2, hgb])]
    exact h1
theorem shw_signs (l : List Mk) (h : ∀ m ∈ l, okS m.sg = true) : ∀ r a, ∀ x ∈ shwL r a l, 0 ≤ x ∧ x < 256 := by
  induction l with
  | nil => intro r a x hx; cases hx
  | cons m l ih =>
    intro r a x hx
    have hi := ih fun y hy => h y (by simp [hy])
    have hm := h m (by simp)
    have hc : m.sg = 32 ∨ m.sg = 45 ∨ m.sg = 43 := by simp [okS] at hm; omega
    simp only [shwL] at hx
    split at hx
    · rcases List.mem_cons.1 hx with rfl | hx
      · omega
      · exact hi _ _ x hx
    · rcases List.mem_cons.1 hx with rfl | hx
      · split <;> omega
      · exact hi _ _ x hx
theorem side_code0 (sg : Int) (l : List Mk) : (if hasM sg l = true then sidZ sg l (shwL false false l) else []) = sideL sg l := by
  unfold sideL
  rw [sid_shw]
  rfl
theorem chk_signs {h : Hk} (hc : chkH h = 0) : ∀ m ∈ h.ls, okS m.sg = true := by
  obtain ⟨_, hf, _⟩ := chk_out hc
  exact fun m hm => (((fld_iff _).1 hf).1 m hm).2
theorem row_len (e : UInt8) (T : List UInt8) : ([e, e, e, 32] ++ T ++ [32, e, e, e, e]).length = T.length + 9 := by simp
set_option maxHeartbeats 8000000 in
set_option maxRecDepth 100000 in
theorem chunk_f (B b : Nat) (v : Value) (h : Hk) (y : Value) (acc Z : List UInt8) (w : World) (hP : Pg B b v acc w) (hBw : B ≤ w.heap.size) (hll : h.ls.length ≤ 1099511627776) (HTx : Hid (∀ m ∈ h.ls, m.tx.length ≤ 1099511627776)) (HC : Hid (chkH h = 0))
    (HL : Hid (∀ u, Below B w u → HMk u y h.ls)) (HT : Hid (∀ u, Below B w u → Tab10 u)) (HZ : Hid (acc ++ (hkL h).flatten = Z)) (hZ : Z.length ≤ 70368744177664) :
    Calls Tryd.prog 12 #[.pointer (some ⟨b, 0, none⟩), hkV h y] w fun e w' => e = .returned (.tuple #[]) ∧ ∃ v', Pg B b v' Z w' ∧ Wr B b v v' w w' := by
  obtain ⟨lo, lc, rfl⟩ := HMk.form (HL.out w (Below.refl _ _))
  have HSg : Hid (∀ x ∈ shwL false false h.ls, 0 ≤ x ∧ x < 256) := shw_signs _ (chk_signs HC.out) _ _
  have hr := (chk_out HC.out).1
  obtain ⟨r1, r2, r3, r4, r5, r6, rx⟩ := rng_out hr
  clear rx
  obtain ⟨r7, r8⟩ := chk_hi hr
  have hSl := shw_len h.ls false false
  have HS45 := side_code0 45 h.ls
  have HS43 := side_code0 43 h.ls
  obtain ⟨A, AN, Bn, BN, ls⟩ := h
  dsimp only at hll r1 r2 r3 r4 r5 r6 r7 r8 hSl HS45 HS43
  obtain ⟨R, hR⟩ : ∃ R, shwL false false ls = R := ⟨_, rfl⟩
  obtain ⟨T1, hT1⟩ : ∃ T, spanT A AN = T := ⟨_, rfl⟩
  obtain ⟨T2, hT2⟩ : ∃ T, spanT Bn BN = T := ⟨_, rfl⟩
  have t1 := span_len (p := A) (n := AN) r1 r2 r7
  have t2 := span_len (p := Bn) (n := BN) r4 r5 r8
  rw [hT1] at t1
  rw [hT2] at t2
  obtain ⟨X1, hX1⟩ : ∃ X, (if hasM 45 ls = true then sidZ 45 ls R else []).flatten = X := ⟨_, rfl⟩
  obtain ⟨X2, hX2⟩ : ∃ X, (if hasM 43 ls = true then sidZ 43 ls R else []).flatten = X := ⟨_, rfl⟩
  obtain ⟨Z1, hZ1⟩ : ∃ Y, acc ++ starsT ++ [10] = Y := ⟨_, rfl⟩
  obtain ⟨U1, hU1⟩ : ∃ Y, [42, 42, 42, 32] ++ T1 = Y := ⟨_, rfl⟩
  obtain ⟨U2, hU2⟩ : ∃ Y, [45, 45, 45, 32] ++ T2 = Y := ⟨_, rfl⟩
  obtain ⟨V1, hV1⟩ : ∃ Y, U1 ++ [32, 42, 42, 42, 42] = Y := ⟨_, rfl⟩
  obtain ⟨V2, hV2⟩ : ∃ Y, U2 ++ [32, 45, 45, 45, 45] = Y := ⟨_, rfl⟩
  obtain ⟨Z2, hZ2⟩ : ∃ Y, Z1 ++ V1 ++ [10] = Y := ⟨_, rfl⟩
  obtain ⟨Z3, hZ3⟩ : ∃ Y, Z2 ++ X1 = Y := ⟨_, rfl⟩
  obtain ⟨Z4, hZ4⟩ : ∃ Y, Z3 ++ V2 ++ [10] = Y := ⟨_, rfl⟩
  have HE : Hid (Z4 ++ X2 = Z) := (by
    show _ = _
    rw [← HZ.out, ← hZ4, ← hZ3, ← hZ2, ← hZ1, ← hV1, ← hV2, ← hU1, ← hU2, ← hX1, ← hX2, ← hR, HS45, HS43, ← hT1, ← hT2]
    simp [hkL, rlT])
  have hE := congrArg List.length HE.out
  have l4 := congrArg List.length hZ4
  have l3 := congrArg List.length hZ3
  have l2 := congrArg List.length hZ2
  have l1 := congrArg List.length hZ1
  simp only [List.length_append] at hE l4 l3 l2 l1
  have b4 : Z4.length ≤ 70368744177664 := by omega
  have b3 : Z3.length ≤ 70368744177664 := by omega
  have b2 : Z2.length ≤ 70368744177664 := by omega
  have b1 : Z1.length ≤ 70368744177664 := by omega
  have u1 := congrArg List.length hU1
  have u2 := congrArg List.length hU2
  simp only [List.length_append, List.length_cons, List.length_nil] at u1 u2
  have q1 := add_fits (x := [42, 42, 42, 32]) (y := T1) (by unfold Fits; simp only [List.length_cons, List.length_nil]; omega) Tryd.prog
  have q2 := add_fits (x := U1) (y := [32, 42, 42, 42, 42]) (by unfold Fits; simp only [List.length_cons, List.length_nil]; omega) Tryd.prog
  have q3 := add_fits (x := [45, 45, 45, 32]) (y := T2) (by unfold Fits; simp only [List.length_cons, List.length_nil]; omega) Tryd.prog
  have q4 := add_fits (x := U2) (y := [32, 45, 45, 45, 45]) (by unfold Fits; simp only [List.length_cons, List.length_nil]; omega) Tryd.prog
  rw [hU1] at q1
  rw [hU2] at q3
  rw [hV1] at q2
  rw [hV2] at q4
  have HRl : Hid (ls.length = R.length) := (by show _ = _; rw [← hR, hSl])
  rw [hR] at HSg
  have HR : Hid (shwL false false ls = R) := hR
  have HT1 : Hid (spanT A AN = T1) := hT1
  have HT2 : Hid (spanT Bn BN = T2) := hT2
  have HX1 : Hid (Z2 ++ (if hasM 45 ls = true then sidZ 45 ls R else []).flatten = Z3) := (by show _ = _; rw [hX1]; exact hZ3)
  have HX2 : Hid (Z4 ++ (if hasM 43 ls = true then sidZ 43 ls R else []).flatten = Z) := (by show _ = _; rw [hX2]; exact HE.out)
  have HZ1 : Hid (acc ++ starsT ++ [10] = Z1) := hZ1
  have HZ2 : Hid (Z1 ++ V1 ++ [10] = Z2) := hZ2
  have HZ4 : Hid (Z3 ++ V2 ++ [10] = Z4) := hZ4
  have hBm : Below w.heap.size w (w.alloc (.cells #[.int .i64 A, .int .i64 AN, .int .i64 Bn, .int .i64 BN, .slice lo ls.length lc] 44)) := (Below.refl _ w).alloc (Nat.le_refl _) _
  have hMx : Hx (w.alloc (.cells #[.int .i64 A, .int .i64 AN, .int .i64 Bn, .int .i64 BN, .slice lo ls.length lc] 44)) w.heap.size ⟨A, AN, Bn, BN, ls⟩ (.slice lo ls.length lc) := heap_alloc_new w _
  have hOff : Off w.heap.size b v := ⟨by have := Bld.lt hP; omega, fun e => by have := (hP.2.2.1.lt _ e).2; omega⟩
  have hvl : Hid (∀ g, v.ownBlock = some g → g < w.heap.size) := fun g e => (hP.2.2.1.lt _ e).2
  have hbl := Bld.lt hP
  have hsm : Hid (w.heap.size < (w.alloc (.cells #[.int .i64 A, .int .i64 AN, .int .i64 Bn, .int .i64 BN, .slice lo ls.length lc] 44)).heap.size) := (by show _ < _; simp)
  have hPm := hP.low hBm
  have hWm : Wr B b v v w (w.alloc (.cells #[.int .i64 A, .int .i64 AN, .int .i64 Bn, .int .i64 BN, .slice lo ls.length lc] 44)) := Wr.low hBm hBw
  clear hE l1 l2 l3 l4 hX1 hX2 hZ1 hZ2 hZ3 hZ4 hT1 hT2 hR hV1 hV2 hU1 hU2 u1 u2 HS45 HS43 HZ HE hSl hr hP
  have e : hkV ⟨A, AN, Bn, BN, ls⟩ (.slice lo ls.length lc) = .agg #[.int .i64 A, .int .i64 AN, .int .i64 Bn, .int .i64 BN, .slice lo ls.length lc] := rfl
  rw [e]
  clear e
  go_enter Tryd.func12, Tryd.ntmps12
  go_wp2_with fail
  refine (cshown_f ls (.slice lo ls.length lc) _ (HL.out _ hWm.below) hll R HR).mono ?_
  generalize w.alloc (.cells #[.int .i64 A, .int .i64 AN, .int .i64 Bn, .int .i64 BN, .slice lo ls.length lc] 44) = Wm at hPm hWm hMx hsm hBm ⊢
  rintro e w1 ⟨sv, rfl, hown, hB1⟩
  have hW1 := hWm.trans (Wr.low hB1 (by have := hWm.size; omega))
  have hP1 := hPm.low hB1
  have hM1 := hMx.low hB1
  have hSK : ∀ (v' : Value) (u : World), Wr B b v v' w1 u → Holds u sv R.length (ucells R) := shown_keep hown (by have := hsm.out; omega) (fun g e => by have := hvl.out g e; have := hsm.out; omega)
  obtain ⟨so, sc, rfl⟩ := (holds_of hown).form
  clear hBm hPm hWm hMx hB1 hown hvl hbl hsm
  generalize w.heap.size = M at hM1 hOff
  obtain ⟨c0, c1, c2, c3, c4⟩ := hM1.cells
  have hz1 := hW1.size
  go_wp2_with fail
  refine (crow_f B b v acc starsT Z1 w1 hP1 (by omega) HZ1 b1).mono ?_
  rintro e w2 ⟨rfl, v2, hP2, hW2⟩
  obtain ⟨hM2, hO2⟩ := hM1.wr hW2 hOff
  have hW12 := hW1.trans hW2
  have hz2 := hW12.size
  clear c0 c1 c2 c3 c4
  obtain ⟨c0, c1, c2, c3, c4⟩ := hM2.cells
  go_wp2_with fail
  refine (crange_f A AN r1 (by omega) r3 (by omega) w2 (HT.out w2 hW12.below) T1 HT1).mono ?_
  rintro e w3 ⟨rfl, hB3⟩
  have hM3 := hM2.low hB3
  have hP3 := hP2.low hB3
  have hW13 := hW12.trans (Wr.low hB3 (by omega))
  have hW23 : Wr B b v2 v2 w2 w3 := Wr.low hB3 (by omega)
  have hz3 := hW13.size
  clear c0 c1 c2 c3 c4
  go_wp2_with fail
  refine (crow_f B b v2 Z1 V1 Z2 w3 hP3 (by omega) HZ2 b2).mono ?_
  rintro e w4 ⟨rfl, v4, hP4, hW4⟩
  obtain ⟨hM4, hO4⟩ := hM3.wr hW4 hO2
  have hW14 := hW13.trans hW4
  have hWs4 := (hW2.trans hW23).trans hW4
  have hz4 := hW14.size
  obtain ⟨c0, c1, c2, c3, c4⟩ := hM4.cells
  go_wp2_with fail
  refine (cside_f B b v4 45 ls R (.slice lo ls.length lc) (.slice so R.length sc) Z2 Z3 w4 hP4 (by omega) hll HRl HSg HTx (HL.out _ hW14.below) (fun v' u hu => HL.out u (hW14.trans hu).below) (fun v' u hu => hSK v' u (hWs4.trans hu)) HX1 b3).mono ?_
  rintro e w5 ⟨rfl, v5, hP5, hW5⟩
  obtain ⟨hM5, hO5⟩ := hM4.wr hW5 hO4
  have hW15 := hW14.trans hW5
  have hWs5 := hWs4.trans hW5
  have hz5 := hW15.size
  clear c0 c1 c2 c3 c4
  obtain ⟨c0, c1, c2, c3, c4⟩ := hM5.cells
  go_wp2_with fail
  refine (crange_f Bn BN r4 (by omega) r6 (by omega) w5 (HT.out w5 hW15.below) T2 HT2).mono ?_
  rintro e w6 ⟨rfl, hB6⟩
  have hM6 := hM5.low hB6
  have hP6 := hP5.low hB6
  have hW56 : Wr B b v5 v5 w5 w6 := Wr.low hB6 (by omega)
  have hW16 := hW15.trans hW56
  have hz6 := hW16.size
  clear c0 c1 c2 c3 c4
  go_wp2_with fail
  refine (crow_f B b v5 Z3 V2 Z4 w6 hP6 (by omega) HZ4 b4).mono ?_
  rintro e w7 ⟨rfl, v7, hP7, hW7⟩
  obtain ⟨hM7, hO7⟩ := hM6.wr hW7 hO5
  have hW17 := hW16.trans hW7
  have hWs7 := (hWs5.trans hW56).trans hW7
  have hz7 := hW17.size
  obtain ⟨c0, c1, c2, c3, c4⟩ := hM7.cells
  go_wp2_with fail
  refine (cside_f B b v7 43 ls R (.slice lo ls.length lc) (.slice so R.length sc) Z4 Z w7 hP7 (by omega) hll HRl HSg HTx (HL.out _ hW17.below) (fun v' u hu => HL.out u (hW17.trans hu).below) (fun v' u hu => hSK v' u (hWs7.trans hu)) HX2 hZ).mono ?_
  rintro e w8 ⟨rfl, v8, hP8, hW8⟩
  go_wp2
  first
    | go_end0
    | refine bodyPost_ret (results_none rfl _ _ _) rfl ?_
    | refine bodyPost_end (results_none rfl _ _ _) rfl ?_
  exact ⟨rfl, v8, hP8, hW17.trans hW8⟩
end Go.Proofs.YtgckmdncpkhiiaaDoor
