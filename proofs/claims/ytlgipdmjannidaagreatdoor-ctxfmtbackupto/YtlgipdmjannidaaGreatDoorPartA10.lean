/-
  Texts that belong together, joined: CwD, CqB, CqU, CpA, CpB, CpC, CpD.
-/
import Derived.Test.YtlgipdmjannidaaGreatDoorPartA9
import Derived.Test.YtlgipdmjannidaaGreatDoorPartA8
import Derived.Lib.IndexAny
import Derived.Laws.RangeAny
import Derived.Test.YtlgipdmjannidaaGreatDoorPartA6
import Derived.Deep.QuietTactic
import Derived.Test.YtlgipdmjannidaaGreatDoorPartA7
import Derived.WalkLawsBesides
import Derived.Deep.DeepCutAuto
import Derived.Deep.CutBlock
import Derived.Test.YtlgipdmjannidaaGreatDoorPartA5

/- Names as the code writes them in a patch (layer 15), walked. -/
set_option maxRecDepth 20000
namespace Go.Proofs.YtlgipdmjannidaaGreatDoor
open Go.RowKit
attribute [local go_sem] ByteArray.extract_mk

def oddI (r : Int) : Bool := decide (r < 33) || decide (126 < r) || decide (r = 34)
set_option maxHeartbeats 1000000 in
theorem cisOdd_f (r : Int) (w : World) (q : Bool) (HQ : Hid (oddI r = q)) : Calls Tryz.prog 75 #[.int .i32 r] w fun e w' => e = .returned (.bool q) ∧ w = w' := by
  by_cases h1 : r < 33
  · have HE : Hid (true = q) := (by show _ = _; rw [← HQ.out]; simp [oddI, h1])
    go_enter Tryz.func75, Tryz.ntmps75
    go_wp2
    go_ret
    exact ⟨by rw [← HE.out]; rfl, rfl⟩
  · by_cases h2 : 126 < r
    · have HE : Hid (true = q) := (by show _ = _; rw [← HQ.out]; simp [oddI, h2])
      go_enter Tryz.func75, Tryz.ntmps75
      go_wp2
      go_ret
      exact ⟨by rw [← HE.out]; rfl, rfl⟩
    · have HE : Hid ((r == 34) = q) := (by show _ = _; rw [← HQ.out]; simp only [oddI, h1, h2, decide_false, Bool.false_or]; rfl)
      go_enter Tryz.func75, Tryz.ntmps75
      go_wp2
      go_ret
      exact ⟨by rw [← HE.out]; rfl, rfl⟩
theorem odd_name (c : UInt8) : oddI (c.toNat : Int) = !nameC c := by
  unfold oddI nameC
  rw [Bool.eq_iff_iff]
  simp only [Bool.or_eq_true, decide_eq_true_eq, Bool.not_eq_true', decide_eq_false_iff_not]
  omega
/-- where the first odd byte is, or -1 -/
def oddW : Nat → List UInt8 → Int
  | _, [] => -1
  | k, c :: l => if nameC c = true then oddW (k + 1) l else (k : Int)
theorem oddW_all (l : List UInt8) : ∀ k, decide (0 ≤ oddW k l) = !l.all nameC := by
  induction l with
  | nil => intro k; rfl
  | cons c l ih =>
    intro k
    rw [List.all_cons]
    by_cases h : nameC c = true
    · have e : oddW k (c :: l) = oddW (k + 1) l := if_pos h
      rw [e, ih, h]
      rfl
    · have e : oddW k (c :: l) = (k : Int) := if_neg h
      rw [e, Bool.eq_false_iff.2 h]
      simp
theorem oddW_step {l : List UInt8} {k : Nat} (hk : k < l.length) : oddW k (l.drop k) = if nameC l[k] = true then oddW (k + 1) (l.drop (k + 1)) else (k : Int) := by
  rw [List.drop_eq_getElem_cons hk]
  rfl
set_option maxHeartbeats 4000000 in
set_option maxRecDepth 100000 in
theorem cindexFunc_f (l : List UInt8) (w : World) (_hl : l.length ≤ 1099511627776) (z : Int) (HZ : Hid (oddW 0 l = z)) :
    Calls Tryz.prog 159 #[.string ⟨l.toArray⟩, .func (.func 75) #[] #[], .bool true] w fun e w' => e = .returned (.int .i64 z) ∧ Below w.heap.size w w' := by
  go_enter Tryz.func159, Tryz.ntmps159
  go_wp2
  go_loopw [] (fun wr => ∃ pos : Nat, pos ≤ l.length ∧ wr.heap[w.heap.size]? = some (.stringIter ⟨l.toArray⟩ pos) ∧ Below w.heap.size w wr ∧ Hid (oddW pos (l.drop pos) = z)) (fun wr => l.length - wr.iterPos w.heap.size)
  case atStart => exact ⟨0, Nat.zero_le _, World.iter_heap w _ 0, (Below.refl _ w).alloc (Nat.le_refl _) _, HZ⟩
  case round =>
    obtain ⟨pos, hp, hit, hbr, HA⟩ := hrel
    have hwl : w.heap.size < wr.heap.size := (Array.getElem?_eq_some_iff.1 hit).1
    by_cases hlt : pos < l.length
    · have HS := HA.out
      rw [oddW_step hlt] at HS
      by_cases ha : l[pos].toNat < 128
      · have hnx : ∀ ty, (Instr.next (.pointer (some ⟨w.heap.size, 0, none⟩)) true ty).run Tryz.prog wr = _ := fun ty => Lib.run_next_ascii_at wr w.heap.size ⟨l.toArray⟩ pos ty hit hlt ha
        have hit2 := Lib.iterAt_heap wr w.heap.size ⟨l.toArray⟩ pos (pos + 1) hit
        have hbr2 := Lib.below_iterAt hbr (k := w.heap.size) (Nat.le_refl _) ⟨l.toArray⟩ (pos + 1)
        cases hn : nameC l[pos] with
        | true =>
          have HI : Hid (oddW (pos + 1) (l.drop (pos + 1)) = z) := (by rw [hn, if_pos rfl] at HS; exact HS)
          have hc := fun u => cisOdd_f (l[pos].toNat : Int) u false (by show _ = _; rw [odd_name, hn]; rfl)
          clear HS hn HA
          go_wp2_with fail
          refine (hc _).mono ?_
          rintro e w4 ⟨rfl, rfl⟩
          go_wp2
          go_roundw
          case rel => exact ⟨pos + 1, by omega, hit2, hbr2, HI⟩
          case measure => simp only [World.iterPos, hit, hit2]; omega
        | false =>
          have HE : Hid ((pos : Int) = z) := (by rw [hn, if_neg (by decide)] at HS; exact HS)
          have hc := fun u => cisOdd_f (l[pos].toNat : Int) u true (by show _ = _; rw [odd_name, hn]; rfl)
          clear HS hn HA
          go_wp2_with fail
          refine (hc _).mono ?_
          rintro e w4 ⟨rfl, rfl⟩
          go_wp2
          go_ret
          exact ⟨by rw [HE.out]; rfl, hbr2⟩
      · have hdh := (decode_high ⟨l.toArray⟩ pos hlt (by show 128 ≤ l[pos].toNat; omega))
        have hnx : ∀ ty, (Instr.next (.pointer (some ⟨w.heap.size, 0, none⟩)) true ty).run Tryz.prog wr = _ := fun ty => Lib.run_next_any_at wr w.heap.size ⟨l.toArray⟩ pos ty hit hlt
        have hbr2 := Lib.below_iterAt hbr (k := w.heap.size) (Nat.le_refl _) ⟨l.toArray⟩ (pos + (Utf8.decode ⟨l.toArray⟩ pos).2)
        have hdl := decode_le ⟨l.toArray⟩ pos
        have HE : Hid ((pos : Int) = z) := (by
          have hn : nameC l[pos] = false := (by unfold nameC; exact decide_eq_false (by omega))
          rw [hn, if_neg (by decide)] at HS
          exact HS)
        obtain ⟨hd1, hd2⟩ := hdh
        generalize Utf8.decode ⟨l.toArray⟩ pos = dd at *
        have hc := fun u => cisOdd_f (dd.1 : Int) u true (by
          show _ = _
          unfold oddI
          have : decide (126 < (dd.1 : Int)) = true := decide_eq_true (by omega)
          rw [this]
          simp)
        clear HS HA
        go_wp2_with fail
        refine (hc _).mono ?_
        rintro e w4 ⟨rfl, rfl⟩
        go_wp2
        go_ret
        exact ⟨by rw [HE.out]; rfl, hbr2⟩
    · have hnx : ∀ ty, (Instr.next (.pointer (some ⟨w.heap.size, 0, none⟩)) true ty).run Tryz.prog wr = _ := fun ty => Lib.run_next_end_at wr w.heap.size ⟨l.toArray⟩ pos ty hit hlt
      have HE : Hid (-1 = z) := (by
        have h := HA.out
        rw [List.drop_of_length_le (by omega)] at h
        exact h)
      clear HA
      go_wp2
      go_ret
      exact ⟨by rw [HE.out]; rfl, hbr⟩
set_option maxHeartbeats 1000000 in
theorem cIndexFunc_f (l : List UInt8) (w : World) (hl : l.length ≤ 1099511627776) (z : Int) (HZ : Hid (oddW 0 l = z)) :
    Calls Tryz.prog 111 #[.string ⟨l.toArray⟩, .func (.func 75) #[] #[]] w fun e w' => e = .returned (.int .i64 z) ∧ Below w.heap.size w w' := by
  go_enter Tryz.func111, Tryz.ntmps111
  go_wp2_with fail
  refine (cindexFunc_f l w hl z HZ).mono ?_
  rintro e w1 ⟨rfl, hB⟩
  go_wp2
  go_ret
  exact ⟨rfl, hB⟩
set_option maxHeartbeats 1000000 in
theorem cContainsFunc_f (l : List UInt8) (w : World) (hl : l.length ≤ 1099511627776) (q : Bool) (HQ : Hid ((!l.all nameC) = q)) :
    Calls Tryz.prog 74 #[.string ⟨l.toArray⟩, .func (.func 75) #[] #[]] w fun e w' => e = .returned (.bool q) ∧ Below w.heap.size w w' := by
  obtain ⟨z, hz⟩ : ∃ z, oddW 0 l = z := ⟨_, rfl⟩
  have HC := cIndexFunc_f l w hl z hz
  have HZ : Hid (decide (0 ≤ z) = q) := (by show _ = _; rw [← hz, oddW_all]; exact HQ.out)
  clear hz HQ
  go_enter Tryz.func74, Tryz.ntmps74
  go_wp2_with fail
  refine HC.mono ?_
  rintro e w1 ⟨rfl, hB⟩
  go_wp2
  go_ret
  exact ⟨by rw [HZ.out]; rfl, hB⟩
set_option maxHeartbeats 2000000 in
theorem cname_f (l : List UInt8) (w : World) (hl : l.length ≤ 1099511627776) (t : List UInt8) (HT : Hid (nameT l = t)) :
    Calls Tryz.prog 41 #[.string ⟨l.toArray⟩] w fun e w' => e = .returned (.string ⟨t.toArray⟩) ∧ Below w.heap.size w w' := by
  by_cases h0 : l = []
  · have HE : Hid (devN = t) := (by have h := HT.out; unfold nameT at h; rw [if_pos h0] at h; exact h)
    subst h0
    go_enter Tryz.func41, Tryz.ntmps41
    go_wp2
    go_ret
    exact ⟨by rw [← HE.out]; rfl, Below.refl _ _⟩
  · have e0 : l.isEmpty = false := (by cases l with | nil => exact absurd rfl h0 | cons _ _ => rfl)
    have hq := Quote_any l
    by_cases h1 : l = devN
    · have HE : Hid (Q.quote l = t) := (by have h := HT.out; unfold nameT at h; rw [if_neg h0, if_neg (fun q => q.2 h1)] at h; exact h)
      have e1 : (l == [47, 100, 101, 118, 47, 110, 117, 108, 108]) = true := (by rw [beq_iff_eq]; exact h1)
      clear HT h1
      go_enter Tryz.func41, Tryz.ntmps41
      go_wp2_with fail
      refine (hq _ hl).mono ?_
      rintro e w1 ⟨rfl, hB⟩
      go_wp2
      go_ret
      exact ⟨by rw [← HE.out]; rfl, hB⟩
    · have e1 : (l == [47, 100, 101, 118, 47, 110, 117, 108, 108]) = false := beq_eq_false_iff_ne.2 h1
      cases hn : l.all nameC with
      | true =>
        have HE : Hid (l = t) := (by have h := HT.out; unfold nameT at h; rw [if_neg h0, if_pos ⟨hn, h1⟩] at h; exact h)
        have hc := fun u => cContainsFunc_f l u hl false (by show _ = _; rw [hn]; rfl)
        clear HT h1 hn
        go_enter Tryz.func41, Tryz.ntmps41
        go_wp2_with fail
        refine (hc _).mono ?_
        rintro e w1 ⟨rfl, hB⟩
        go_wp2
        go_ret
        exact ⟨by rw [← HE.out]; rfl, hB⟩
      | false =>
        have HE : Hid (Q.quote l = t) := (by have h := HT.out; unfold nameT at h; rw [if_neg h0, if_neg (fun q => by rw [hn] at q; cases q.1)] at h; exact h)
        have hc := fun u => cContainsFunc_f l u hl true (by show _ = _; rw [hn]; rfl)
        clear HT h1 hn
        go_enter Tryz.func41, Tryz.ntmps41
        go_wp2_with fail
        refine (hc _).mono ?_
        rintro e w1 ⟨rfl, hB⟩
        go_wp2_with fail
        refine (hq _ hl).mono ?_
        rintro e w2 ⟨rfl, hB2⟩
        go_wp2
        go_ret
        exact ⟨by rw [← HE.out]; rfl, hB.trans (hB2.mono hB.size)⟩
end Go.Proofs.YtlgipdmjannidaaGreatDoor

/- num.quotedByte, walked. -/
set_option maxRecDepth 20000
namespace Go.Proofs.YtlgipdmjannidaaGreatDoor
open Q Go.RowKit Go.Proofs.YtlgipdmjannidaaGreatDoor.Tx
attribute [local go_sem] ba_at hexl_at


theorem idx_hex (x : UInt8) : Lib.indexByte [48, 49, 50, 51, 52, 53, 54, 55, 56, 57, 97, 98, 99, 100, 101, 102] x = digitI x.toNat := by
  have key : ∀ i : Fin 256, Lib.indexByte [48, 49, 50, 51, 52, 53, 54, 55, 56, 57, 97, 98, 99, 100, 101, 102] (UInt8.ofNat i.val) = digitI (i.val : Int) := by decide +kernel
  have := key ⟨x.toNat, x.toNat_lt⟩
  simpa using this

theorem IndexByte_hex (x : UInt8) (w : World) :
    Calls Tryz.prog 183 #[.string ⟨#[48, 49, 50, 51, 52, 53, 54, 55, 56, 57, 97, 98, 99, 100, 101, 102]⟩, .int .u8 (x.toNat : Int)] w fun e w' => e = .returned (.int .i64 (digitI x.toNat)) ∧ w' = w := by
  have h := Tryz.strings_IndexByte ⟨#[48, 49, 50, 51, 52, 53, 54, 55, 56, 57, 97, 98, 99, 100, 101, 102]⟩ (x.toNat : Int) w
  refine h.mono ?_
  rintro e w' ⟨rfl, rfl⟩
  have e : ((x.toNat : Int).toNat).toUInt8 = x := by simp
  rw [e, ← idx_hex]
  exact ⟨rfl, rfl⟩

theorem or_nib (x y : Int) (h0 : 0 ≤ x) (h1 : x ≤ 15) (h2 : 0 ≤ y) (h3 : y ≤ 15) : bits BinOp.or IntKind.i64 (x * 16) y % 256 = 16 * x + y := by
  have key : ∀ i j : Fin 16, bits BinOp.or IntKind.i64 ((i.val : Int) * 16) (j.val : Int) % 256 = 16 * (i.val : Int) + (j.val : Int) := by decide +kernel
  have := key ⟨x.toNat, by omega⟩ ⟨y.toNat, by omega⟩
  simp only [Int.toNat_of_nonneg h0, Int.toNat_of_nonneg h2] at this
  exact this

set_option maxHeartbeats 1000000 in
theorem quotedByte_two (a b : UInt8) (t : List UInt8) (w : World) :
    Calls Tryz.prog 163 #[.string ⟨((92 : UInt8) :: a :: b :: t).toArray⟩] w fun e w' => e = .returned (.tuple #[.int .u8 (pv a b), .int .i64 (pn a b)]) ∧ ∃ n, w' = w.drewN n := by
  have hp : plainI 92 = false := by decide
  obtain ⟨ha, ha'⟩ := digitI_ge a.toNat
  obtain ⟨hb, hb'⟩ := digitI_ge b.toNat
  go_enter Tryz.func163, Tryz.ntmps163
  go_wp2_with fail
  refine (isPlain_any _ _).mono ?_
  rintro e w' ⟨rfl, rfl⟩
  go_wp2_with fail
  go_quiet ((go_at_call 183; exact Calls.quiet_of_same (IndexByte_hex _ _)))
  by_cases h1 : digitI a.toNat < 0
  · go_wp2
    go_ret2
    exact ⟨ret_two (pv_no (pairOk_lo h1)) (pn_no (pairOk_lo h1)), _, rfl⟩
  · by_cases h2 : digitI b.toNat < 0
    · go_wp2
      go_ret2
      exact ⟨ret_two (pv_no (pairOk_hi h2)) (pn_no (pairOk_hi h2)), _, rfl⟩
    · go_wp2_with fail
      rw [or_nib _ _ (by omega) ha' (by omega) hb']
      refine (isPlain_any _ _).mono ?_
      rintro e w' ⟨rfl, rfl⟩
      have hm := pairOk_mid (a := a) (b := b) (by omega) (by omega)
      have HM : Hid (pairOk a b = !plainI (16 * digitI a.toNat + digitI b.toNat)) := hm
      clear hm
      cases hpl : plainI (16 * digitI a.toNat + digitI b.toNat)
      · go_wp2
        go_ret2
        have hk : pairOk a b = true := by rw [HM.out, hpl]; rfl
        exact ⟨ret_two (pv_yes hk) (pn_yes hk), _, rfl⟩
      · go_wp2
        go_ret2
        have hk : pairOk a b = false := by rw [HM.out, hpl]; rfl
        exact ⟨ret_two (pv_no hk) (pn_no hk), _, rfl⟩

set_option maxHeartbeats 1000000 in
theorem quotedByte_plain (c : UInt8) (t : List UInt8) (w : World) (h : plainI c.toNat = true) :
    Calls Tryz.prog 163 #[.string ⟨(c :: t).toArray⟩] w fun e w' => e = .returned (.tuple #[.int .u8 (c.toNat : Int), .int .i64 1]) ∧ ∃ n, w' = w.drewN n := by
  go_enter Tryz.func163, Tryz.ntmps163
  go_wp2_with fail
  refine (isPlain_any _ _).mono ?_
  rintro e w' ⟨rfl, rfl⟩
  go_wp2
  go_ret2
  exact ⟨rfl, 0, rfl⟩

set_option maxHeartbeats 1000000 in
theorem quotedByte_none (c : UInt8) (t : List UInt8) (w : World) (h : plainI c.toNat = false) (h2 : ¬ (c.toNat = 92 ∧ 2 ≤ t.length)) :
    Calls Tryz.prog 163 #[.string ⟨(c :: t).toArray⟩] w fun e w' => e = .returned (.tuple #[.int .u8 0, .int .i64 0]) ∧ ∃ n, w' = w.drewN n := by
  by_cases h3 : c.toNat = 92
  · have hb : ((c.toNat : Int) != 92) = false := by simp; omega
    have hl : ((t.length : Int) + 1 < 3) := by omega
    clear h2
    go_enter Tryz.func163, Tryz.ntmps163
    go_wp2_with fail
    refine (isPlain_any _ _).mono ?_
    rintro e w' ⟨rfl, rfl⟩
    go_wp2
    go_ret2
    exact ⟨rfl, 0, rfl⟩
  · have hb : ((c.toNat : Int) != 92) = true := by simp; omega
    clear h2
    go_enter Tryz.func163, Tryz.ntmps163
    go_wp2_with fail
    refine (isPlain_any _ _).mono ?_
    rintro e w' ⟨rfl, rfl⟩
    go_wp2
    go_ret2
    exact ⟨rfl, 0, rfl⟩
end Go.Proofs.YtlgipdmjannidaaGreatDoor

/- num.Unquote, walked: what it returns is what the plain function unquote says. -/
set_option maxRecDepth 20000
namespace Go.Proofs.YtlgipdmjannidaaGreatDoor
open Q Go.RowKit Go.Proofs.YtlgipdmjannidaaGreatDoor.Tx
attribute [local go_sem] ba_at ByteArray.extract_mk

def sizeS : Value → Nat
  | .string s => s.data.size
  | _ => 0

theorem ret_uq {l a b : List UInt8} {n : Int} (h : uqa l = a ∧ uqb l = b ∧ uqe l = n) : Ending.returned (.tuple #[.string ⟨a.toArray⟩, .string ⟨b.toArray⟩, .int .i64 n]) = .returned (.tuple #[.string ⟨(uqa l).toArray⟩, .string ⟨(uqb l).toArray⟩, .int .i64 (uqe l)]) := by
  rw [h.1, h.2.1, h.2.2]

set_option maxHeartbeats 2000000 in
set_option maxRecDepth 100000 in
theorem Unquote_body (l : List UInt8) (w : World) (hl : l.length ≤ 1099511627776) :
    Calls Tryz.prog 118 #[.string ⟨((34 : UInt8) :: l).toArray⟩] w fun e w' => e = .returned (.tuple #[.string ⟨(uqa (34 :: l)).toArray⟩, .string ⟨(uqb (34 :: l)).toArray⟩, .int .i64 (uqe (34 :: l))]) ∧ Below w.heap.size w w' := by
  have HU : Hid (unquote (34 :: l) = body l) := by show unquote (34 :: l) = body l; simp [unquote]
  go_enter Tryz.func118, Tryz.ntmps118
  go_wp2
  go_loopw [6] (fun rest wr => ∃ (r acc : List UInt8) (v : Value), rest = .string ⟨r.toArray⟩ ∧ Bld 98 5 w.heap.size w.heap.size v (Lib.byteCells acc) wr ∧ Below w.heap.size w wr ∧ body l = (body r).map (fun p => (acc ++ p.1, p.2)) ∧ acc.length + r.length ≤ l.length) (fun rest _ => sizeS rest)
  case atStart => exact ⟨l, [], _, rfl, Bld.fresh 98 5 w, (Below.refl _ w).alloc (Nat.le_refl _) _, by simp, by simp⟩
  case round =>
    obtain ⟨r, acc, v, rfl, hB, hbr, hbody, hal⟩ := hrel
    have HB : Hid (body l = (body r).map (fun p => (acc ++ p.1, p.2))) := hbody
    clear hbody
    match r, hal, HB with
    | [], hal, HB =>
      go_wp2
      go_ret3
      exact ⟨ret_uq (uq_none (by rw [HU.out, HB.out]; rfl)), hbr⟩
    | c :: t, hal, HB =>
      have hc := c.toNat_lt
      by_cases h34 : c.toNat = 34
      · have hb : ((c.toNat : Int) != 34) = false := by simp; omega
        have HE : Hid (unquote (34 :: l) = some (acc, t)) := by
          show unquote (34 :: l) = some (acc, t)
          rw [HU.out, HB.out, body_end t h34]; simp
        clear h34
        have hI : Lib.IsBuilderF 98 5 w.heap.size w.heap.size (Lib.byteCells acc) wr.drew := hB.isF
        have hsz : w.heap.size ≤ wr.drew.heap.size := hbr.size
        go_wp2_with fail
        go_region_with (go_at_call 43; refine (Tryz.Builder_String_any_k w.heap.size w.heap.size acc _ hI hsz).mono ?_; rintro e w4 ⟨rfl, _, hb4, _⟩)
        all_goals
          go_wp2
          go_ret3
          exact ⟨ret_uq (uq_some HE.out), hbr.drew.trans hb4⟩
      · have hb : ((c.toNat : Int) != 34) = true := by simp; omega
        cases hpl : plainI c.toNat
        · by_cases h92 : c.toNat = 92 ∧ 2 ≤ t.length
          · match t, hal, HB, h92 with
            | a :: b :: t, hal, HB, ⟨h92, _⟩ =>
              obtain rfl : c = 92 := UInt8.toNat_inj.1 h92
              cases hk : pairOk a b
              · have HE : Hid (unquote (34 :: l) = none) := by
                  show unquote (34 :: l) = none
                  rw [HU.out, HB.out, body_pair_no t h92 hk]; rfl
                have h1 : pv a b = 0 := (pv_no hk).symm
                have h2 : pn a b = 0 := (pn_no hk).symm
                go_wp2_with fail
                refine (quotedByte_two a b t _).mono ?_
                rintro e w4 ⟨rfl, nq, rfl⟩
                go_wp2
                go_ret3
                exact ⟨ret_uq (uq_none HE.out), below_drewN hbr nq⟩
              · have HE : Hid (body l = (body t).map (fun p => (acc ++ [UInt8.ofNat (pairI a b).toNat] ++ p.1, p.2))) := by
                  show body l = _
                  rw [HB.out, body_pair t h92 hk]; simp [Function.comp_def]
                have h2 : pn a b = 3 := (pn_yes hk).symm
                have hpb := pairI_byte hk
                have HV : Hid (pv a b = ((UInt8.ofNat (pairI a b).toNat).toNat : Int)) := by
                  show pv a b = _
                  rw [← pv_yes hk]
                  simp only [UInt8.toNat_ofNat']
                  omega
                clear hpb
                go_wp2_with fail
                refine (quotedByte_two a b t _).mono ?_
                rintro e w4 ⟨rfl, nq, rfl⟩
                go_wp2_with fail
                rw [HV.out]
                refine (WriteByte_any w.heap.size w.heap.size v _ _ _ (Bld.drewN hB nq) (by rw [Lib.byteCells_length]; omega) hbr.size).mono ?_
                rintro e w5 ⟨rfl, v5, hB5, _, _, hb5⟩
                go_wp2
                go_roundw
                case rel => exact ⟨t, acc ++ [UInt8.ofNat (pairI a b).toNat], v5, rfl, by rw [byteCells_snoc]; exact hB5, (below_drewN hbr nq).trans hb5, HE.out, by simp at hal ⊢; omega⟩
                case measure => first | (simp [sizeS]; done) | (simp [sizeS]; omega)
          · have HE : Hid (unquote (34 :: l) = none) := by
              show unquote (34 :: l) = none
              rw [HU.out, HB.out, body_none t h34 hpl h92]; rfl
            go_wp2_with fail
            refine (quotedByte_none c t _ hpl h92).mono ?_
            rintro e w4 ⟨rfl, nq, rfl⟩
            go_wp2
            go_ret3
            exact ⟨ret_uq (uq_none HE.out), below_drewN hbr nq⟩
        · have HE : Hid (body l = (body t).map (fun p => (acc ++ [c] ++ p.1, p.2))) := by
            show body l = _
            rw [HB.out, body_plain t hpl]; simp [Function.comp_def]
          go_wp2_with fail
          refine (quotedByte_plain c t _ hpl).mono ?_
          rintro e w4 ⟨rfl, nq, rfl⟩
          go_wp2_with fail
          refine (WriteByte_any w.heap.size w.heap.size v _ _ _ (Bld.drewN hB nq) (by rw [Lib.byteCells_length]; simp at hal; omega) hbr.size).mono ?_
          rintro e w5 ⟨rfl, v5, hB5, _, _, hb5⟩
          go_wp2
          go_roundw
          case rel => exact ⟨t, acc ++ [c], v5, rfl, by rw [byteCells_snoc]; exact hB5, (below_drewN hbr nq).trans hb5, HE.out, by simp at hal ⊢; omega⟩
          case measure => first | (simp [sizeS]; done) | (simp [sizeS]; omega)

set_option maxHeartbeats 1000000 in
theorem Unquote_any (l : List UInt8) (w : World) (hl : l.length ≤ 1099511627776) :
    Calls Tryz.prog 118 #[.string ⟨l.toArray⟩] w fun e w' => e = .returned (.tuple #[.string ⟨(uqa l).toArray⟩, .string ⟨(uqb l).toArray⟩, .int .i64 (uqe l)]) ∧ Below w.heap.size w w' := by
  match l, hl with
  | [], _ =>
    go_enter Tryz.func118, Tryz.ntmps118
    go_wp2
    go_ret3
    exact ⟨ret_uq (uq_none rfl), Below.refl _ _⟩
  | c :: t, hl =>
    by_cases h : c.toNat = 34
    · obtain rfl : c = 34 := UInt8.toNat_inj.1 h
      exact Unquote_body t w (by simp at hl; omega)
    · have hb : ((c.toNat : Int) != 34) = true := by simp; omega
      have HU : Hid (unquote (c :: t) = none) := by show unquote (c :: t) = none; simp [unquote, h]
      clear h
      go_enter Tryz.func118, Tryz.ntmps118
      go_wp2
      go_ret3
      exact ⟨ret_uq (uq_none HU.out), Below.refl _ _⟩
end Go.Proofs.YtlgipdmjannidaaGreatDoor

/- The code's reader of layer 15, walked: what is wrong is thrown; the next line, bare; the end of a side; stars. -/
set_option maxRecDepth 20000
namespace Go.Proofs.YtlgipdmjannidaaGreatDoor
open Go.RowKit
attribute [local go_sem] ByteArray.extract_mk no_at

/-- a reader: its lines, how many are read -/
def ckO (vL : Value) (p : Int) : Obj := .cells #[vL, .int .i64 p] 61
def Ck (u : World) (R : Nat) (vL : Value) (p : Int) : Prop := u.heap[R]? = some (ckO vL p)
section
variable {u u' : World} {R : Nat} {vL : Value} {p : Int}
theorem Ck.cells (q : Ck u R vL p) : u.cell? ⟨R, 0, none⟩ = some vL ∧ u.cell? ⟨R, 1, none⟩ = some (.int .i64 p) := by
  unfold Ck ckO at q
  refine ⟨?_, ?_⟩ <;> rw [Lib.cell_of_heap q] <;> rfl
theorem Ck.frozen (q : Ck u R vL p) (j : Nat) : u.frozen? ⟨R, j, none⟩ = false := Lib.frozen_of_heap q j
theorem Ck.lt (q : Ck u R vL p) : R < u.heap.size := (Array.getElem?_eq_some_iff.1 q).1
theorem Ck.dN (q : Ck u R vL p) (n : Nat) : Ck (u.drewN n) R vL p := q
theorem Ck.at (q : Ck u R vL p) (p' : Int) : Ck (u.setCell ⟨R, 1, none⟩ (.int .i64 p')) R vL p' := heap_setCell_same u R 1 _ _ (.int .i64 p') q
theorem Ck.low (q : Ck u R vL p) (hg : Below u.heap.size u u') : Ck u' R vL p := (hg.block R q.lt).trans q
theorem Ck.keep (q : Ck u R vL p) {g : Option Nat} (hg : u.grownBy u' g) (hr : some R ≠ g) : Ck u' R vL p := (hg.block R q.lt hr).trans q
end
set_option maxHeartbeats 1000000 in
theorem cthrow_f (a z : Int) (w : World) :
    Calls Tryz.prog 82 #[.int .i64 a, .int .i64 z] w fun x w' => Thr a z x w' ∧ Below w.heap.size w w' := by
  have HQ : Hid ((w.alloc (fltO a z)).heap[w.heap.size]? = some (fltO a z) ∧ Below w.heap.size w (w.alloc (fltO a z))) := ⟨heap_alloc_new w _, (Below.refl _ w).alloc (Nat.le_refl _) _⟩
  go_enter Tryz.func82, Tryz.ntmps82
  go_wp2
  exact ⟨rfl, ⟨_, rfl, HQ.out.1⟩, HQ.out.2⟩
set_option maxHeartbeats 1000000 in
theorem crefuse_f {R : Nat} {vL : Value} {p : Nat} (z : Int) (w : World) (q : Ck w R vL (p : Int)) (hp : p ≤ 4398046511104) :
    Calls Tryz.prog 46 #[.pointer (some ⟨R, 0, none⟩), .int .i64 z] w fun x w' => Thr ((p : Int) + 1) z x w' ∧ w.grownBy w' (some R) := by
  obtain ⟨c0, c1⟩ := q.cells
  clear q
  go_enter Tryz.func46, Tryz.ntmps46
  go_wp2_with fail
  refine (cthrow_f ((p : Int) + 1) z w).mono ?_
  rintro x w1 ⟨⟨g, rfl, hg⟩, hb⟩
  go_wp2
  exact ⟨rfl, ⟨_, rfl, hg⟩, low_grown hb _⟩
set_option maxHeartbeats 4000000 in
theorem crline_f {R : Nat} {L : List (List UInt8)} {lo : Option Addr} {lc : Nat} {p : Nat} (w : World) (q : Ck w R (.slice lo L.length lc) p) (hL : HS w (.slice lo L.length lc) L) (hp : p ≤ L.length) (hLl : L.length ≤ 2199023255552) (hs : ∀ s ∈ L, s.length ≤ 1099511627776)
    (X : Except (Nat × Int) (List UInt8 × List (List UInt8))) (HX : Hid (nxt p (L.drop p) = X)) :
    Calls Tryz.prog 121 #[.pointer (some ⟨R, 0, none⟩)] w fun x w' => LnQ R (.slice lo L.length lc) p X w x w' := by
  have hX := HX.out
  clear HX
  by_cases hlt : p < L.length
  · rw [nxt_drop hlt] at hX
    obtain ⟨bk, off, rfl, hbk, hcl⟩ := HS.at hL (by omega)
    have d4 := hcl p hlt
    have hsl := hs L[p] (List.getElem_mem _)
    generalize L[p] = s at d4 hsl hX
    clear hcl hs hL
    obtain ⟨c0, c1⟩ := q.cells
    have e0 : ((p : Int) == (L.length : Int)) = false := beq_eq_false_iff_ne.2 (by omega)
    have i1 : (0 : Int) ≤ (p : Int) := by omega
    have i2 : (p : Int) < (L.length : Int) := by omega
    have i3 : (p : Int).toNat = p := by omega
    cases hf : fdB s with
    | true =>
      rw [if_pos hf] at hX
      subst hX
      have HD : Hid (s.dropLast ++ [10] = s) := drop_feed hf
      clear q
      go_enter Tryz.func121, Tryz.ntmps121
      go_wp2_with fail
      go_quiet (fail)
      go_wp2_with fail
      have c0' : (w.drewN nq).cell? ⟨R, 0, none⟩ = _ := c0
      have c1' : (w.drewN nq).cell? ⟨R, 1, none⟩ = _ := c1
      have d4' : (w.drewN nq).cell? ⟨bk, off + p, none⟩ = _ := d4
      have HM : Hid (∀ n, ∃ k, (w.drewN nq).drewN n = w.drewN k) := fun n => ⟨_, World.drewN_drewN w nq n⟩
      clear c0 c1 d4
      generalize w.drewN nq = W1 at c0' c1' d4' HM ⊢
      have j1 : (0 : Int) ≤ (p : Int) := by omega
      have j2 : (p : Int) < (L.length : Int) := by omega
      have j3 : (p : Int).toNat = p := by omega
      go_quiet (fail)
      go_wp2_with fail
      refine (Tryz.strings_HasSuffix ⟨s.toArray⟩ ⟨#[10]⟩ _ (by show s.length ≤ _; omega)).mono ?_
      rintro e w2 ⟨rfl, rfl⟩
      have e1 : Lib.hasSuffix (⟨s.toArray⟩ : ByteArray).data.toList (⟨#[10]⟩ : ByteArray).data.toList = true := (suf_feed s).trans hf
      rw [e1]
      clear e1 hf
      go_wp2
      go_ret
      refine ⟨?_, HM.out _⟩
      rw [HD.out]
      rfl
    | false =>
      rw [if_neg (by rw [hf]; decide)] at hX
      subst hX
      have q0 := q
      clear q
      go_enter Tryz.func121, Tryz.ntmps121
      go_wp2_with fail
      go_quiet (fail)
      go_wp2_with fail
      have c0' : (w.drewN nq).cell? ⟨R, 0, none⟩ = _ := c0
      have c1' : (w.drewN nq).cell? ⟨R, 1, none⟩ = _ := c1
      have d4' : (w.drewN nq).cell? ⟨bk, off + p, none⟩ = _ := d4
      have HM : Hid (∀ n, w.grownBy ((w.drewN nq).drewN n) (some R)) := fun n => grown_drewN (grown_drewN (low_grown (Below.refl _ _) _) nq) n
      have HQ : Hid (∀ n, Ck ((w.drewN nq).drewN n) R (.slice (some ⟨bk, off, none⟩) L.length lc) p) := fun n => (q0.dN nq).dN n
      clear c0 c1 d4 q0
      generalize w.drewN nq = W1 at c0' c1' d4' HM HQ ⊢
      have j1 : (0 : Int) ≤ (p : Int) := by omega
      have j2 : (p : Int) < (L.length : Int) := by omega
      have j3 : (p : Int).toNat = p := by omega
      go_quiet (fail)
      go_wp2_with fail
      refine (Tryz.strings_HasSuffix ⟨s.toArray⟩ ⟨#[10]⟩ _ (by show s.length ≤ _; omega)).mono ?_
      rintro e w2 ⟨rfl, rfl⟩
      have e1 : Lib.hasSuffix (⟨s.toArray⟩ : ByteArray).data.toList (⟨#[10]⟩ : ByteArray).data.toList = false := (suf_feed s).trans hf
      rw [e1]
      clear e1 hf
      go_wp2_with fail
      refine (crefuse_f 3 _ (HQ.out _) (by omega)).mono ?_
      rintro e w3 ⟨⟨g, rfl, hg⟩, hgr⟩
      go_wp2
      exact ⟨rfl, ⟨_, rfl, hg⟩, grown_two (HM.out _) hgr⟩
  · rw [nxt_end (by omega)] at hX
    subst hX
    obtain ⟨c0, c1⟩ := q.cells
    have e0 : ((p : Int) == (L.length : Int)) = true := beq_iff_eq.2 (by omega)
    have HM : Hid (∀ n, w.grownBy (w.drewN n) (some R)) := fun n => grown_drewN (low_grown (Below.refl _ _) _) n
    have HQ : Hid (∀ n, Ck (w.drewN n) R (.slice lo L.length lc) p) := fun n => q.dN n
    clear q hs hL
    go_enter Tryz.func121, Tryz.ntmps121
    go_wp2_with fail
    go_quiet (fail)
    go_wp2_with fail
    refine (crefuse_f 1 _ (HQ.out _) (by omega)).mono ?_
    rintro e w3 ⟨⟨g, rfl, hg⟩, hgr⟩
    go_wp2
    exact ⟨rfl, ⟨_, rfl, hg⟩, grown_two (HM.out _) hgr⟩
set_option maxHeartbeats 4000000 in
theorem crend_no {R g o : Nat} {L : List (List UInt8)} {lo : Option Addr} {lc : Nat} {p : Nat} (w : World) (q : Ck w R (.slice lo L.length lc) p) (hL : HS w (.slice lo L.length lc) L) (hPl : Plain L) (hp : p ≤ L.length) (hLl : L.length ≤ 2199023255552)
    (t : List UInt8) (ct : w.cell? ⟨g, o + 1, none⟩ = some (.string ⟨t.toArray⟩)) (HB : Hid ((t != [10] && pkM (L.drop p)) = false)) :
    Calls Tryz.prog 126 #[.pointer (some ⟨R, 0, none⟩), .pointer (some ⟨g, o, none⟩)] w fun x w' => x = .returned (.tuple #[]) ∧ ∃ n, w' = w.drewN n := by
  obtain ⟨c0, c1⟩ := q.cells
  by_cases ht : t = [10]
  · subst ht
    clear HB hL q
    go_enter Tryz.func126, Tryz.ntmps126
    go_wp2_with fail
    go_quiet (fail)
    go_wp2
    first
      | go_end0
      | refine bodyPost_ret (results_none rfl _ _ _) rfl ?_
      | refine bodyPost_end (results_none rfl _ _ _) rfl ?_
    exact ⟨rfl, _, rfl⟩
  · have e1 : (t == [10]) = false := beq_eq_false_iff_ne.2 ht
    by_cases hlt : p < L.length
    · have hm : (L[p] == markT) = false := (by
        have h := HB.out
        rw [pkM_at hPl hlt] at h
        have : (t != [10]) = true := bne_iff_ne.2 ht
        rw [this, Bool.true_and] at h
        exact h)
      obtain ⟨bk, off, rfl, hbk, hcl⟩ := HS.at hL (by omega)
      have d4 := hcl p hlt
      generalize L[p] = s at d4 hm
      have hm2 : (s == [92, 32, 78, 111, 32, 110, 101, 119, 108, 105, 110, 101, 32, 97, 116, 32, 101, 110, 100, 32, 111, 102, 32, 102, 105, 108, 101, 10]) = false := hm
      have hm3 : (s != [92, 32, 78, 111, 32, 110, 101, 119, 108, 105, 110, 101, 32, 97, 116, 32, 101, 110, 100, 32, 111, 102, 32, 102, 105, 108, 101, 10]) = true := (by unfold bne; rw [hm2]; rfl)
      have e0 : ((p : Int) == (L.length : Int)) = false := beq_eq_false_iff_ne.2 (by omega)
      clear HB hL q hcl hm hPl
      have i1 : (0 : Int) ≤ (p : Int) := by omega
      have i2 : (p : Int) < (L.length : Int) := by omega
      have i3 : (p : Int).toNat = p := by omega
      go_enter Tryz.func126, Tryz.ntmps126
      go_wp2_with fail
      go_quiet (fail)
      go_wp2
      first
        | go_end0
        | refine bodyPost_ret (results_none rfl _ _ _) rfl ?_
        | refine bodyPost_end (results_none rfl _ _ _) rfl ?_
      exact ⟨rfl, _, rfl⟩
    · have e0 : ((p : Int) == (L.length : Int)) = true := beq_iff_eq.2 (by omega)
      clear HB hL q hPl
      go_enter Tryz.func126, Tryz.ntmps126
      go_wp2_with fail
      go_quiet (fail)
      go_wp2
      first
        | go_end0
        | refine bodyPost_ret (results_none rfl _ _ _) rfl ?_
        | refine bodyPost_end (results_none rfl _ _ _) rfl ?_
      exact ⟨rfl, _, rfl⟩
set_option maxRecDepth 20000 in
set_option maxHeartbeats 4000000 in
theorem crend_yes {R g o : Nat} {L : List (List UInt8)} {lo : Option Addr} {lc : Nat} {p : Nat} (w : World) (q : Ck w R (.slice lo L.length lc) p) (hL : HS w (.slice lo L.length lc) L) (hPl : Plain L) (hLl : L.length ≤ 2199023255552) (hgR : R ≠ g)
    (T t : List UInt8) (HTt : Hid (T = t ++ [10])) (htl : T.length ≤ 1099511627776) (ct : w.cell? ⟨g, o + 1, none⟩ = some (.string ⟨T.toArray⟩)) (cf : w.frozen? ⟨g, o + 1, none⟩ = false) (HB : Hid ((T != [10] && pkM (L.drop p)) = true)) :
    Calls Tryz.prog 126 #[.pointer (some ⟨R, 0, none⟩), .pointer (some ⟨g, o, none⟩)] w fun x w' => x = .returned (.tuple #[]) ∧ ∃ n, w' = ((w.drewN n).setCell ⟨g, o + 1, none⟩ (.string ⟨t.toArray⟩)).setCell ⟨R, 1, none⟩ (.int .i64 ((p : Int) + 1)) := by
  obtain ⟨c0, c1⟩ := q.cells
  have hb := HB.out
  rw [Bool.and_eq_true] at hb
  have hlt : p < L.length := (by
    by_cases h : p < L.length
    · exact h
    · have e : L.drop p = [] := List.drop_eq_nil_of_le (by omega)
      rw [e] at hb
      cases hb.2)
  have e1 : (T == [10]) = false := (by
    have := bne_iff_ne.1 hb.1
    exact beq_eq_false_iff_ne.2 this)
  have hm : L[p] = markT := (by
    have h := hb.2
    rw [pkM_at hPl hlt, beq_iff_eq] at h
    exact h)
  obtain ⟨bk, off, rfl, hbk, hcl⟩ := HS.at hL (by omega)
  have d4 := hcl p hlt
  rw [hm] at d4
  have e0 : ((p : Int) == (L.length : Int)) = false := beq_eq_false_iff_ne.2 (by omega)
  have f1 := q.frozen 1
  have HTS : Hid (Lib.trimSuffix T [10] = t) := (by
    show _ = _
    rw [HTt.out]
    unfold Lib.trimSuffix
    rw [suf_feed, if_pos (fd_snoc t)]
    simp)
  unfold markT at d4
  clear HB hL q hcl hm hPl hb
  have i1 : (0 : Int) ≤ (p : Int) := by omega
  have i2 : (p : Int) < (L.length : Int) := by omega
  have i3 : (p : Int).toNat = p := by omega
  go_enter Tryz.func126, Tryz.ntmps126
  go_wp2_with fail
  go_quiet (fail)
  go_wp2_with fail
  have c1' : (w.drewN nq).cell? ⟨R, 1, none⟩ = _ := c1
  have ct' : (w.drewN nq).cell? ⟨g, o + 1, none⟩ = _ := ct
  have cf' : (w.drewN nq).frozen? ⟨g, o + 1, none⟩ = false := cf
  have f1' : (w.drewN nq).frozen? ⟨R, 1, none⟩ = false := f1
  have HM : Hid (∃ k, w.drewN nq = w.drewN k) := ⟨_, rfl⟩
  clear c0 c1 d4 ct cf f1
  generalize w.drewN nq = W1 at c1' ct' cf' f1' HM ⊢
  refine (Tryz.strings_TrimSuffix ⟨T.toArray⟩ ⟨#[10]⟩ W1 (by show T.length ≤ _; omega)).mono ?_
  rintro e w2 ⟨rfl, rfl⟩
  have e2 : Lib.trimSuffix (⟨T.toArray⟩ : ByteArray).data.toList (⟨#[10]⟩ : ByteArray).data.toList = t := HTS.out
  rw [e2]
  clear e2
  have c1'' : (w2.setCell ⟨g, o + 1, none⟩ (.string ⟨t.toArray⟩)).cell? ⟨R, 1, none⟩ = some (.int .i64 (p : Int)) := (by
    have h := (grown_set w2 g (o + 1) (.string ⟨t.toArray⟩)).cell c1' (fun e => hgR (Option.some.inj e))
    exact h)
  have f1'' : (w2.setCell ⟨g, o + 1, none⟩ (.string ⟨t.toArray⟩)).frozen? ⟨R, 1, none⟩ = false := (by
    unfold World.frozen? at f1' ⊢
    dsimp only at f1' ⊢
    rw [Below.heap_setCell _ _ _ R hgR]
    exact f1')
  go_wp2
  first
    | go_end0
    | refine bodyPost_ret (results_none rfl _ _ _) rfl ?_
    | refine bodyPost_end (results_none rfl _ _ _) rfl ?_
  obtain ⟨k, hk⟩ := HM.out
  exact ⟨rfl, k, by rw [← hk]⟩
/-- the next line behind what must stand ahead -/
def barP (hd : List UInt8) (p : Nat) (ls : List (List UInt8)) : Except (Nat × Int) (List UInt8 × List (List UInt8)) :=
  match nxt p ls with
  | .error e => .error e
  | .ok (s, r) => if hd.isPrefixOf s = true then .ok (s.drop hd.length, r) else .error (p + 1, 3)
/-- what a bare line leaves behind -/
def BrQ (R : Nat) (X : Except (Nat × Int) (List UInt8 × List (List UInt8))) (w : World) (x : Ending) (w' : World) : Prop :=
  match X with
  | .error (a, e) => Thr (a : Int) e x w' ∧ w.grownBy w' (some R)
  | .ok (s, _) => x = .returned (.string ⟨s.toArray⟩) ∧ ∃ n, w' = w.drewN n
theorem trim_snoc (s : List UInt8) : Lib.trimSuffix (s ++ [10]) [10] = s := by
  unfold Lib.trimSuffix
  rw [suf_feed, if_pos (fd_snoc s)]
  simp
set_option maxHeartbeats 4000000 in
theorem cbare_f {R : Nat} {L : List (List UInt8)} {lo : Option Addr} {lc : Nat} {p : Nat} (hd : List UInt8) (w : World) (q : Ck w R (.slice lo L.length lc) p) (hL : HS w (.slice lo L.length lc) L) (hp : p ≤ L.length) (hLl : L.length ≤ 2199023255552) (hs : ∀ s ∈ L, s.length ≤ 1099511627776)
    (X : Except (Nat × Int) (List UInt8 × List (List UInt8))) (HX : Hid (barP hd p (L.drop p) = X)) :
    Calls Tryz.prog 81 #[.pointer (some ⟨R, 0, none⟩), .string ⟨hd.toArray⟩] w fun x w' => BrQ R X w x w' := by
  obtain ⟨Y, hY⟩ : ∃ Y, nxt p (L.drop p) = Y := ⟨_, rfl⟩
  have hl := crline_f w q hL hp hLl hs Y hY
  have hX := HX.out
  unfold barP at hX
  rw [hY] at hX
  clear HX
  cases Y with
  | error z =>
    obtain ⟨a, e⟩ := z
    dsimp only at hX
    subst hX
    go_enter Tryz.func81, Tryz.ntmps81
    go_wp2_with fail
    refine hl.mono ?_
    rintro x w1 ⟨⟨g, rfl, hg⟩, hgr⟩
    go_wp2
    exact ⟨rfl, ⟨_, rfl, hg⟩, hgr⟩
  | ok z =>
    obtain ⟨s, r⟩ := z
    obtain ⟨hr, hpl, _, hLp⟩ := nxt_rest hY
    have hsl := hs L[p] (List.getElem_mem hpl)
    rw [hLp, List.length_append] at hsl
    dsimp only at hX
    obtain ⟨T, hT⟩ : ∃ T, s ++ [10] = T := ⟨_, rfl⟩
    have hl2 : Calls Tryz.prog 121 #[.pointer (some ⟨R, 0, none⟩)] w fun x w' => x = .returned (.string ⟨T.toArray⟩) ∧ ∃ n, w' = w.drewN n := (by
      refine hl.mono ?_
      rintro x w' ⟨h1, h2⟩
      rw [hT] at h1
      exact ⟨h1, h2⟩)
    have hTl : T.length ≤ 2199023255552 := (by rw [← hT, List.length_append]; simp at hsl ⊢; omega)
    have htr : ∀ u, Calls Tryz.prog 120 #[.string ⟨T.toArray⟩, .string ⟨#[10]⟩] u fun e w' => e = .returned (.string ⟨s.toArray⟩) ∧ w' = u := (by
      intro u
      refine (Tryz.strings_TrimSuffix ⟨T.toArray⟩ ⟨#[10]⟩ u (by show T.length ≤ _; omega)).mono ?_
      rintro e w' ⟨rfl, rfl⟩
      have e2 : Lib.trimSuffix (⟨T.toArray⟩ : ByteArray).data.toList (⟨#[10]⟩ : ByteArray).data.toList = s := (by
        show Lib.trimSuffix T [10] = s
        rw [← hT]
        exact trim_snoc s)
      rw [e2]
      exact ⟨rfl, rfl⟩)
    have hcp := fun u => Tryz.strings_CutPrefix ⟨s.toArray⟩ ⟨hd.toArray⟩ u
    have hpf : Lib.hasPrefix (⟨s.toArray⟩ : ByteArray).data.toList (⟨hd.toArray⟩ : ByteArray).data.toList = hd.isPrefixOf s := rfl
    rw [hpf] at hcp
    by_cases hpre : hd.isPrefixOf s = true
    · rw [if_pos hpre] at hX
      subst hX
      have htp : Lib.trimPrefix (⟨s.toArray⟩ : ByteArray).data.toList (⟨hd.toArray⟩ : ByteArray).data.toList = s.drop hd.length := (by
        show Lib.trimPrefix s hd = _
        unfold Lib.trimPrefix Lib.hasPrefix
        rw [if_pos hpre])
      rw [htp, hpre] at hcp
      obtain ⟨D, hD⟩ : ∃ D, s.drop hd.length = D := ⟨_, rfl⟩
      rw [hD] at hcp
      have HD : Hid (s.drop hd.length = D) := hD
      clear hpf htp hpre hl hY hLp hsl hr hT hD
      go_enter Tryz.func81, Tryz.ntmps81
      go_wp2_with fail
      refine hl2.mono ?_
      rintro x w1 ⟨rfl, nn, rfl⟩
      go_wp2_with fail
      refine (htr _).mono ?_
      rintro x w2 ⟨rfl, rfl⟩
      go_wp2_with fail
      refine (hcp _).mono ?_
      rintro x w3 ⟨rfl, rfl⟩
      go_wp2
      go_ret
      exact ⟨by rw [HD.out]; rfl, nn, rfl⟩
    · rw [if_neg hpre] at hX
      subst hX
      rw [Bool.eq_false_iff.2 hpre] at hcp
      generalize Lib.trimPrefix (⟨s.toArray⟩ : ByteArray).data.toList (⟨hd.toArray⟩ : ByteArray).data.toList = U2 at hcp
      have q2 := fun nn => q.dN nn
      clear hpf hpre hl hY hLp hsl hr hT
      go_enter Tryz.func81, Tryz.ntmps81
      go_wp2_with fail
      refine hl2.mono ?_
      rintro x w1 ⟨rfl, nn, rfl⟩
      go_wp2_with fail
      refine (htr _).mono ?_
      rintro x w2 ⟨rfl, rfl⟩
      go_wp2_with fail
      refine (hcp _).mono ?_
      rintro x w3 ⟨rfl, rfl⟩
      go_wp2_with fail
      refine (crefuse_f 3 _ (q2 nn) (by omega)).mono ?_
      rintro e w3 ⟨⟨g, rfl, hg⟩, hgr⟩
      go_wp2
      exact ⟨rfl, ⟨_, rfl, by simpa using hg⟩, grown_two (grown_drewN (low_grown (Below.refl w.heap.size w) (some R)) nn) hgr⟩
end Go.Proofs.YtlgipdmjannidaaGreatDoor

/- The code's names, numbers, stars and signs of a side (layer 15), walked. -/
set_option maxRecDepth 20000
namespace Go.Proofs.YtlgipdmjannidaaGreatDoor
open Go.RowKit Go.Proofs.YtlgipdmjannidaaGreatDoor.Tx
attribute [local go_sem] ByteArray.extract_mk no_at

theorem body_len (n : Nat) : ∀ (t a b : List UInt8), t.length ≤ n → Q.body t = some (a, b) → a.length ≤ t.length := by
  induction n with
  | zero =>
    intro t a b h hb
    have : t = [] := List.eq_nil_of_length_eq_zero (by omega)
    subst this
    cases hb
  | succ n ih =>
    intro t a b h hb
    cases t with
    | nil => cases hb
    | cons c t =>
      simp only [List.length_cons] at h ⊢
      rw [Q.body.eq_def] at hb
      simp only at hb
      split at hb
      · cases hb; simp
      · split at hb
        · obtain ⟨p, hp, he⟩ := Option.map_eq_some_iff.1 hb
          cases he
          have := ih t p.1 p.2 (by omega) hp
          simp only [List.length_cons]
          omega
        · split at hb
          · split at hb
            · rename_i x y t'
              simp only [List.length_cons] at h ⊢
              split at hb
              · obtain ⟨p, hp, he⟩ := Option.map_eq_some_iff.1 hb
                cases he
                have := ih t' p.1 p.2 (by omega) hp
                simp only [List.length_cons]
                omega
              · cases hb
            · cases hb
          · cases hb
theorem uqa_len (s : List UInt8) : (Q.uqa s).length ≤ s.length := by
  cases hu : Q.unquote s with
  | none => rw [(Q.uq_none hu).1]; simp
  | some p =>
    obtain ⟨a, b⟩ := p
    rw [(Q.uq_some hu).1]
    cases s with
    | nil => cases hu
    | cons c t =>
      simp only [Q.unquote] at hu
      split at hu
      · have := body_len t.length t a b (Nat.le_refl _) hu
        simp only [List.length_cons]
        omega
      · cases hu
theorem head_pre (s : List UInt8) : Lib.hasPrefix s [34] = (s.head? == some 34) := by
  cases s with
  | nil => rfl
  | cons c t =>
    show ((34 == c) && true) = (some c == some 34)
    rw [Bool.and_true, Bool.eq_iff_iff, beq_iff_eq, beq_iff_eq, Option.some.injEq]
    exact ⟨fun h => h.symm, fun h => h.symm⟩
set_option maxHeartbeats 4000000 in
set_option maxRecDepth 40000 in
theorem cnameFrom_f (s : List UInt8) (w : World) (hl : s.length ≤ 1099511627776) (n : List UInt8) (r : Bool) (HN : Hid (unC s = n)) (HR : Hid (nokC s = r)) :
    Calls Tryz.prog 80 #[.string ⟨s.toArray⟩] w fun e w' => e = .returned (.tuple #[.string ⟨n.toArray⟩, .bool r]) ∧ Below w.heap.size w w' := by
  have hnl : n.length ≤ 1099511627776 := (by
    rw [← HN.out]
    unfold unC
    split
    · simp
    · split
      · have := uqa_len s
        omega
      · exact hl)
  obtain ⟨T, hT⟩ : ∃ T, nameT n = T := ⟨_, rfl⟩
  have hnm := fun u => cname_f n u hnl T hT
  have HF : Hid ((decide (n.length ≤ 64) && (T == s)) = r) := (by
    have h := HR.out
    unfold nokC at h
    rw [HN.out, hT] at h
    exact h)
  have hhp : ∀ (b : Bool), (s.head? == some 34) = b → ∀ u, Calls Tryz.prog 83 #[.string ⟨s.toArray⟩, .string ⟨#[34]⟩] u fun e w' => e = .returned (.bool b) ∧ w' = u := (by
    intro b hb u
    refine (Tryz.strings_HasPrefix ⟨s.toArray⟩ ⟨#[34]⟩ u).mono ?_
    rintro e w' ⟨rfl, rfl⟩
    have e1 : Lib.hasPrefix (⟨s.toArray⟩ : ByteArray).data.toList (⟨#[34]⟩ : ByteArray).data.toList = b := (head_pre s).trans hb
    rw [e1]
    exact ⟨rfl, rfl⟩)
  have huq := fun u => Unquote_any s u hl
  clear hT HR
  go_enter Tryz.func80, Tryz.ntmps80
  go_upto_block 0 with fail
  go_cut [4] (fun nv wz => nv = .string ⟨n.toArray⟩ ∧ Below w.heap.size w wz)
  case first =>
    by_cases h1 : s = devN
    · have e1 : (s == [47, 100, 101, 118, 47, 110, 117, 108, 108]) = true := (by rw [beq_iff_eq]; exact h1)
      have HE : Hid ([] = n) := (by have h := HN.out; unfold unC at h; rw [if_pos h1] at h; exact h)
      clear h1
      go_wp2
      go_meet
      case rel => exact ⟨by rw [← HE.out], Below.refl _ _⟩
    · have e1 : (s == [47, 100, 101, 118, 47, 110, 117, 108, 108]) = false := beq_eq_false_iff_ne.2 h1
      by_cases h2 : s.head? = some 34
      · have HE : Hid (Q.uqa s = n) := (by have h := HN.out; unfold unC at h; rw [if_neg h1, if_pos h2] at h; exact h)
        have hc := hhp true (beq_iff_eq.2 h2)
        clear h1 h2
        go_wp2_with fail
        refine (hc _).mono ?_
        rintro e w1 ⟨rfl, rfl⟩
        go_wp2_with fail
        refine (huq _).mono ?_
        rintro e w2 ⟨rfl, hB2⟩
        go_wp2
        go_meet
        case rel => exact ⟨by rw [← HE.out], hB2⟩
      · have HE : Hid (s = n) := (by have h := HN.out; unfold unC at h; rw [if_neg h1, if_neg h2] at h; exact h)
        have hc := hhp false (beq_eq_false_iff_ne.2 h2)
        clear h1 h2
        go_wp2_with fail
        refine (hc _).mono ?_
        rintro e w1 ⟨rfl, rfl⟩
        go_wp2
        go_meet
        case rel => exact ⟨by rw [← HE.out], Below.refl _ _⟩
  case rest =>
  obtain ⟨rfl, hBc⟩ := hcut
  by_cases h3 : n.length ≤ 64
  · have HE : Hid ((T == s) = r) := (by have h := HF.out; rw [decide_eq_true h3, Bool.true_and] at h; exact h)
    have i1 : (n.length : Int) ≤ 64 := by omega
    clear HF
    go_wp2_with fail
    refine (hnm _).mono ?_
    rintro e w2 ⟨rfl, hB2⟩
    go_wp2
    go_ret2
    exact ⟨by rw [← HE.out]; rfl, hBc.trans (hB2.mono hBc.size)⟩
  · have HE : Hid (false = r) := (by have h := HF.out; rw [decide_eq_false h3, Bool.false_and] at h; exact h)
    have i1 : ¬ (n.length : Int) ≤ 64 := by omega
    clear HF
    go_wp2
    go_ret2
    exact ⟨by rw [← HE.out]; rfl, hBc⟩
/-- what a name leaves behind -/
def NmX (R : Nat) (X : Except (Nat × Int) (List UInt8 × List (List UInt8))) (w : World) (x : Ending) (w' : World) : Prop :=
  match X with
  | .error (a, e) => Thr (a : Int) e x w' ∧ w.grownBy w' (some R)
  | .ok (s, _) => x = .returned (.string ⟨s.toArray⟩) ∧ Below w.heap.size w w'
theorem nam_bar {hd : List UInt8} (h4 : hd.length = 4) (p : Nat) (ls : List (List UInt8)) : namP hd p ls = match barP hd p ls with
    | .error e => .error e
    | .ok (s, r) => if nokC s = true then .ok (unC s, r) else .error (p + 1, 253) := by
  unfold namP barP
  cases nxt p ls with
  | error e => rfl
  | ok z =>
    obtain ⟨s, r⟩ := z
    dsimp only
    split
    · rw [h4, named_code]
      split
      · rename_i hq
        dsimp only
        split at hq
        · cases hq
        · rename_i h2
          rw [if_neg h2]
      · rename_i nn hq
        dsimp only
        split at hq
        · rename_i h2
          cases hq
          rw [if_pos h2]
        · cases hq
    · rfl
set_option maxHeartbeats 4000000 in
theorem cnm_f {R : Nat} {L : List (List UInt8)} {lo : Option Addr} {lc : Nat} {p : Nat} (hd : List UInt8) (h4 : hd.length = 4) (w : World) (q : Ck w R (.slice lo L.length lc) p) (hL : HS w (.slice lo L.length lc) L) (hp : p ≤ L.length) (hLl : L.length ≤ 2199023255552) (hs : ∀ s ∈ L, s.length ≤ 1099511627776)
    (X : Except (Nat × Int) (List UInt8 × List (List UInt8))) (HX : Hid (namP hd p (L.drop p) = X)) :
    Calls Tryz.prog 45 #[.pointer (some ⟨R, 0, none⟩), .string ⟨hd.toArray⟩] w fun x w' => NmX R X w x w' := by
  obtain ⟨Y, hY⟩ : ∃ Y, barP hd p (L.drop p) = Y := ⟨_, rfl⟩
  have hl := cbare_f hd w q hL hp hLl hs Y hY
  have hX := HX.out
  rw [nam_bar h4, hY] at hX
  clear HX
  cases Y with
  | error z =>
    obtain ⟨a, e⟩ := z
    dsimp only at hX
    subst hX
    go_enter Tryz.func45, Tryz.ntmps45
    go_wp2_with fail
    refine hl.mono ?_
    rintro x w1 ⟨⟨g, rfl, hg⟩, hgr⟩
    go_wp2
    exact ⟨rfl, ⟨_, rfl, hg⟩, hgr⟩
  | ok z =>
    obtain ⟨s, r⟩ := z
    dsimp only at hX
    have hsl : s.length ≤ 1099511627776 := (by
      unfold barP at hY
      cases hn : nxt p (L.drop p) with
      | error e => rw [hn] at hY; cases hY
      | ok z =>
        obtain ⟨s2, r2⟩ := z
        rw [hn] at hY
        dsimp only at hY
        obtain ⟨_, hpl, _, hLp⟩ := nxt_rest hn
        have hsl := hs L[p] (List.getElem_mem hpl)
        rw [hLp, List.length_append] at hsl
        split at hY
        · cases hY
          rw [List.length_drop]
          omega
        · cases hY)
    obtain ⟨n, hn⟩ : ∃ n, unC s = n := ⟨_, rfl⟩
    obtain ⟨b, hb⟩ : ∃ b, nokC s = b := ⟨_, rfl⟩
    have hf := fun u => cnameFrom_f s u hsl n b hn hb
    rw [hn, hb] at hX
    have hl2 : Calls Tryz.prog 81 #[.pointer (some ⟨R, 0, none⟩), .string ⟨hd.toArray⟩] w fun x w' => x = .returned (.string ⟨s.toArray⟩) ∧ ∃ n, w' = w.drewN n := hl
    clear hY hl hn hb
    cases b with
    | true =>
      rw [if_pos rfl] at hX
      subst hX
      go_enter Tryz.func45, Tryz.ntmps45
      go_wp2_with fail
      refine hl2.mono ?_
      rintro x w1 ⟨rfl, nn, rfl⟩
      go_wp2_with fail
      refine (hf _).mono ?_
      rintro x w2 ⟨rfl, hB2⟩
      go_wp2
      go_ret
      exact ⟨rfl, (Below.dN (Below.refl _ w) nn).trans hB2⟩
    | false =>
      rw [if_neg (by decide)] at hX
      subst hX
      have q2 := fun nn => q.dN nn
      go_enter Tryz.func45, Tryz.ntmps45
      go_wp2_with fail
      refine hl2.mono ?_
      rintro x w1 ⟨rfl, nn, rfl⟩
      go_wp2_with fail
      refine (hf _).mono ?_
      rintro x w2 ⟨rfl, hB2⟩
      have q3 := (q2 nn).low hB2
      go_wp2_with fail
      refine (crefuse_f 253 _ q3 (by omega)).mono ?_
      rintro e w3 ⟨⟨g, rfl, hg⟩, hgr⟩
      go_wp2
      exact ⟨rfl, ⟨_, rfl, by simpa using hg⟩, grown_two (low_grown ((Below.dN (Below.refl _ w) nn).trans hB2) _) hgr⟩
end Go.Proofs.YtlgipdmjannidaaGreatDoor

/- The code's numbers, stars and signs of a side (layer 15), walked. -/
set_option maxRecDepth 20000
namespace Go.Proofs.YtlgipdmjannidaaGreatDoor
open Go.RowKit
attribute [local go_sem] ByteArray.extract_mk no_at

/-- what numbers answers -/
def NcQ (w : World) (s : List UInt8) (e : Ending) (w' : World) : Prop := ∃ x n r, e = .returned (.tuple #[.int .i64 x, .int .i64 n, .bool r]) ∧ nmC s = (if r = true then some (x, n) else none) ∧ Below w.heap.size w w'
set_option maxHeartbeats 4000000 in
theorem cnumbers_f (s : List UInt8) (w : World) (hl : s.length ≤ 1099511627776) :
    Calls Tryz.prog 124 #[.string ⟨s.toArray⟩] w fun e w' => NcQ w s e w' := by
  have hkl := kA_le s
  have b1 := @prs_num (kA s)
  have b2 := @prs_num (kB s)
  obtain ⟨V1, hV1⟩ : ∃ V, Pn.parseV (kA s) = V := ⟨_, rfl⟩
  obtain ⟨E1, hE1⟩ : ∃ V, Pn.parseE (kA s) = V := ⟨_, rfl⟩
  obtain ⟨V2, hV2⟩ : ∃ V, Pn.parseV (kB s) = V := ⟨_, rfl⟩
  obtain ⟨E2, hE2⟩ : ∃ V, Pn.parseE (kB s) = V := ⟨_, rfl⟩
  have P1 : ∀ u : World, Calls Tryz.prog 168 #[.string ⟨(kA s).toArray⟩] u fun e w' => e = .returned (.tuple #[.int .i64 V1, .int .i64 E1]) ∧ Below u.heap.size u w' := (by
    intro u
    have h := nParse_any (kA s) u (by unfold maxLen; omega)
    rw [hV1, hE1] at h
    exact h)
  have P2 : ∀ u : World, Calls Tryz.prog 168 #[.string ⟨(kB s).toArray⟩] u fun e w' => e = .returned (.tuple #[.int .i64 V2, .int .i64 E2]) ∧ Below u.heap.size u w' := (by
    intro u
    have h := nParse_any (kB s) u (by unfold maxLen; omega)
    rw [hV2, hE2] at h
    exact h)
  rw [hV1] at b1
  rw [hV2] at b2
  have HM : Hid (nmC s = if E1 = 0 then if kS s = true then if E2 = 0 ∧ 0 < V1 ∧ V1 < V2 then some (V1, V2) else none else some (V1, V1) else none) := (by
    show _ = _
    unfold nmC
    rw [hV1, hE1, hV2, hE2])
  have C1 := nCut_f s w hl
  obtain ⟨ks, hks⟩ : ∃ k, kS s = k := ⟨_, rfl⟩
  rw [hks] at C1 HM
  clear hV1 hE1 hV2 hE2 hks
  by_cases he1 : E1 = 0
  · have f1 : (E1 != 0) = false := by simp [he1]
    have f2 : (E1 == 0) = true := by simp [he1]
    cases ks with
    | false =>
      have HN : Hid (nmC s = some (V1, V1)) := (by have h := HM.out; rw [if_pos he1, if_neg (by decide)] at h; exact h)
      clear HM he1 P2
      go_enter Tryz.func124, Tryz.ntmps124
      go_wp2_with fail
      refine C1.mono ?_
      rintro e w1 ⟨rfl, n, rfl⟩
      go_wp2_with fail
      refine (P1 _).mono ?_
      rintro e w2 ⟨rfl, hb2⟩
      go_wp2
      go_ret3
      exact ⟨_, _, _, rfl, HN.out, (Below.dN (Below.refl _ w) n).trans hb2⟩
    | true =>
      have HN : Hid (nmC s = if E2 = 0 ∧ 0 < V1 ∧ V1 < V2 then some (V1, V2) else none) := (by have h := HM.out; rw [if_pos he1, if_pos rfl] at h; exact h)
      clear HM he1
      go_enter Tryz.func124, Tryz.ntmps124
      go_wp2_with fail
      refine C1.mono ?_
      rintro e w1 ⟨rfl, n, rfl⟩
      go_wp2_with fail
      refine (P1 _).mono ?_
      rintro e w2 ⟨rfl, hb2⟩
      go_wp2_with fail
      refine (P2 _).mono ?_
      rintro e w3 ⟨rfl, hb3⟩
      have hb23 := (Below.dN (Below.refl _ w) n).trans (hb2.trans (hb3.mono hb2.size))
      by_cases h1 : E2 = 0
      · have g1 : (E2 == 0) = true := by simp [h1]
        by_cases h2 : 0 < V1
        · have HN2 : Hid (nmC s = if decide (V1 < V2) = true then some (V1, V2) else none) := (by
            show _ = _
            rw [HN.out]
            simp [h1, h2])
          clear HN h1
          go_wp2
          go_ret3
          exact ⟨_, _, _, rfl, HN2.out, hb23⟩
        · have HN2 : Hid (nmC s = none) := (by have h := HN.out; rw [if_neg (by simp [h2])] at h; exact h)
          clear HN h1
          go_wp2
          go_ret3
          exact ⟨_, _, _, rfl, HN2.out, hb23⟩
      · have g1 : (E2 == 0) = false := by simp [h1]
        have HN2 : Hid (nmC s = none) := (by have h := HN.out; rw [if_neg (by simp [h1])] at h; exact h)
        clear HN h1
        go_wp2
        go_ret3
        exact ⟨_, _, _, rfl, HN2.out, hb23⟩
  · have f1 : (E1 != 0) = true := by simp [he1]
    have f2 : (E1 == 0) = false := by simp [he1]
    have HN : Hid (nmC s = none) := (by have h := HM.out; rw [if_neg he1] at h; exact h)
    clear HM he1 P2
    go_enter Tryz.func124, Tryz.ntmps124
    go_wp2_with fail
    refine C1.mono ?_
    rintro e w1 ⟨rfl, n, rfl⟩
    go_wp2_with fail
    refine (P1 _).mono ?_
    rintro e w2 ⟨rfl, hb2⟩
    go_wp2
    go_ret3
    exact ⟨_, _, _, rfl, HN.out, (Below.dN (Below.refl _ w) n).trans hb2⟩
theorem sd_two (sg a b : UInt8) (t : List UInt8) : isSd sg (a :: b :: t) = (decide (b.toNat = 32) && (decide (a.toNat = 32) || decide (a.toNat = 33) || decide (a.toNat = sg.toNat))) := by
  simp only [isSd]
  rw [Bool.eq_iff_iff]
  simp only [Bool.and_eq_true, Bool.or_eq_true, beq_iff_eq, decide_eq_true_eq, ← UInt8.toNat_inj]
  constructor
  · rintro ⟨(h | h) | h, h2⟩ <;> exact ⟨h2, by simp [h]⟩
  · rintro ⟨h2, (h | h) | h⟩ <;> exact ⟨by simp [h], h2⟩
set_option maxHeartbeats 4000000 in
theorem cisShown_f (l : List UInt8) (sg : UInt8) (w : World) (hl : l.length ≤ 1099511627776) (r : Bool) (HR : Hid (isSd sg l = r)) :
    Calls Tryz.prog 125 #[.string ⟨l.toArray⟩, .int .u8 (sg.toNat : Int)] w fun e w' => e = .returned (.bool r) ∧ w' = w := by
  match l, hl, HR with
  | [], _, HR =>
    have HE : Hid (false = r) := HR
    go_enter Tryz.func125, Tryz.ntmps125
    go_wp2
    go_ret
    exact ⟨by rw [← HE.out]; rfl, rfl⟩
  | [a], _, HR =>
    have HE : Hid (false = r) := HR
    go_enter Tryz.func125, Tryz.ntmps125
    go_wp2
    go_ret
    exact ⟨by rw [← HE.out]; rfl, rfl⟩
  | a :: b :: t, hl, HR =>
    have HR2 := HR.out
    rw [sd_two] at HR2
    have ha := a.toNat_lt
    have hb := b.toNat_lt
    have hs := sg.toNat_lt
    simp only [List.length_cons] at hl
    have i1 : ¬ (t.length : Int) + 1 + 1 < 2 := by omega
    have i2 : (1 : Int) < (t.length : Int) + 1 + 1 := by omega
    have i3 : (0 : Int) < (t.length : Int) + 1 + 1 := by omega
    by_cases h1 : b.toNat = 32
    · have e1 : ((b.toNat : Int) != 32) = false := by simp; omega
      rw [decide_eq_true h1, Bool.true_and] at HR2
      by_cases h2 : a.toNat = 32
      · have e2 : ((a.toNat : Int) == 32) = true := by simp; omega
        have HE : Hid (true = r) := (by show _ = _; rw [← HR2, decide_eq_true h2]; rfl)
        clear HR HR2 h1 h2
        go_enter Tryz.func125, Tryz.ntmps125
        go_wp2
        go_ret
        exact ⟨by rw [← HE.out]; rfl, rfl⟩
      · have e2 : ((a.toNat : Int) == 32) = false := by simp; omega
        rw [decide_eq_false h2, Bool.false_or] at HR2
        by_cases h3 : a.toNat = 33
        · have e3 : ((a.toNat : Int) == 33) = true := by simp; omega
          have HE : Hid (true = r) := (by show _ = _; rw [← HR2, decide_eq_true h3]; rfl)
          clear HR HR2 h1 h2 h3
          go_enter Tryz.func125, Tryz.ntmps125
          go_wp2
          go_ret
          exact ⟨by rw [← HE.out]; rfl, rfl⟩
        · have e3 : ((a.toNat : Int) == 33) = false := by simp; omega
          rw [decide_eq_false h3, Bool.false_or] at HR2
          have HE : Hid (((a.toNat : Int) == (sg.toNat : Int)) = r) := (by
            show _ = _
            rw [← HR2, Bool.eq_iff_iff, beq_iff_eq, decide_eq_true_eq]
            omega)
          clear HR HR2 h1 h2 h3
          go_enter Tryz.func125, Tryz.ntmps125
          go_wp2
          go_ret
          exact ⟨by rw [← HE.out]; rfl, rfl⟩
    · have e1 : ((b.toNat : Int) != 32) = true := by simp; omega
      have HE : Hid (false = r) := (by show _ = _; rw [← HR2, decide_eq_false h1]; rfl)
      clear HR HR2 h1
      go_enter Tryz.func125, Tryz.ntmps125
      go_wp2
      go_ret
      exact ⟨by rw [← HE.out]; rfl, rfl⟩
theorem pkS_at {L : List (List UInt8)} {p : Nat} (h : p < L.length) : pkS (L.drop p) = starsT.isPrefixOf L[p] := by
  rw [List.drop_eq_getElem_cons h]
  rfl
set_option maxHeartbeats 4000000 in
theorem catStars_f {R : Nat} {L : List (List UInt8)} {lo : Option Addr} {lc : Nat} {p : Nat} (w : World) (q : Ck w R (.slice lo L.length lc) p) (hL : HS w (.slice lo L.length lc) L) (hp : p ≤ L.length) (hLl : L.length ≤ 2199023255552) (r : Bool) (HR : Hid (pkS (L.drop p) = r)) :
    Calls Tryz.prog 47 #[.pointer (some ⟨R, 0, none⟩)] w fun x w' => x = .returned (.bool r) ∧ ∃ n, w' = w.drewN n := by
  obtain ⟨c0, c1⟩ := q.cells
  by_cases hlt : p < L.length
  · obtain ⟨bk, off, rfl, hbk, hcl⟩ := HS.at hL (by omega)
    have d4 := hcl p hlt
    have HR2 := HR.out
    rw [pkS_at hlt] at HR2
    generalize L[p] = s at d4 HR2
    have hd : decide ((p : Int) < (L.length : Int)) = true := decide_eq_true (by omega)
    have i1 : (0 : Int) ≤ (p : Int) := by omega
    have i2 : (p : Int) < (L.length : Int) := by omega
    have i3 : (p : Int).toNat = p := by omega
    have hhp : ∀ u, Calls Tryz.prog 83 #[.string ⟨s.toArray⟩, .string ⟨starsT.toArray⟩] u fun e w' => e = .returned (.bool r) ∧ w' = u := (by
      intro u
      refine (Tryz.strings_HasPrefix ⟨s.toArray⟩ ⟨starsT.toArray⟩ u).mono ?_
      rintro e w' ⟨rfl, rfl⟩
      have e1 : Lib.hasPrefix (⟨s.toArray⟩ : ByteArray).data.toList (⟨starsT.toArray⟩ : ByteArray).data.toList = r := HR2
      rw [e1]
      exact ⟨rfl, rfl⟩)
    clear hcl hL q HR HR2
    go_enter Tryz.func47, Tryz.ntmps47
    go_wp2_with fail
    go_quiet ((go_at_call 83; exact Calls.quiet_of_same (hhp _)))
    go_wp2
    go_ret
    exact ⟨rfl, _, rfl⟩
  · have HE : Hid (false = r) := (by have h := HR.out; rw [List.drop_of_length_le (by omega)] at h; exact h)
    have hd : decide ((p : Int) < (L.length : Int)) = false := decide_eq_false (by omega)
    clear hL q HR
    go_enter Tryz.func47, Tryz.ntmps47
    go_wp2_with fail
    go_quiet (fail)
    go_wp2
    go_ret
    exact ⟨by rw [← HE.out]; rfl, _, rfl⟩
/-- a line of stars -/
def starsP (k p : Nat) (ls : List (List UInt8)) : Except (Nat × Int) (List (List UInt8)) :=
  match nxt p ls with
  | .error e => .error e
  | .ok (s, r) => if isSt s = true then if 4096 ≤ k then .error (p + 1, 9) else .ok r else .error (p + 1, 3)
/-- what a line of stars leaves behind -/
def StX (R : Nat) (vL : Value) (p : Nat) (X : Except (Nat × Int) (List (List UInt8))) (w : World) (x : Ending) (w' : World) : Prop :=
  match X with
  | .error (a, e) => Thr (a : Int) e x w' ∧ w.grownBy w' (some R)
  | .ok _ => x = .returned (.int .i64 ((p : Int) + 1)) ∧ Ck w' R vL ((p + 1 : Nat) : Int) ∧ w.grownBy w' (some R)
theorem stars_bar (k p : Nat) (ls : List (List UInt8)) : starsP k p ls = match barP starsT p ls with
    | .error e => .error e
    | .ok (t, r) => if (t.isEmpty || t.head? == some 32) = true then if 4096 ≤ k then .error (p + 1, 9) else .ok r else .error (p + 1, 3) := by
  unfold starsP barP
  cases nxt p ls with
  | error e => rfl
  | ok z =>
    obtain ⟨s, r⟩ := z
    dsimp only
    unfold isSt
    by_cases h : starsT.isPrefixOf s = true
    · rw [h, Bool.true_and, if_pos rfl]
      rfl
    · rw [Bool.eq_false_iff.2 h, Bool.false_and, if_neg (by decide), if_neg (by decide)]
set_option maxHeartbeats 4000000 in
theorem cstars_f {R : Nat} {L : List (List UInt8)} {lo : Option Addr} {lc : Nat} {p k : Nat} (hk : k ≤ 4096) (w : World) (q : Ck w R (.slice lo L.length lc) p) (hL : HS w (.slice lo L.length lc) L) (hp : p ≤ L.length) (hLl : L.length ≤ 2199023255552) (hs : ∀ s ∈ L, s.length ≤ 1099511627776)
    (X : Except (Nat × Int) (List (List UInt8))) (HX : Hid (starsP k p (L.drop p) = X)) :
    Calls Tryz.prog 84 #[.pointer (some ⟨R, 0, none⟩), .int .i64 (k : Int)] w fun x w' => StX R (.slice lo L.length lc) p X w x w' := by
  obtain ⟨Y, hY⟩ : ∃ Y, barP starsT p (L.drop p) = Y := ⟨_, rfl⟩
  have hl := cbare_f starsT w q hL hp hLl hs Y hY
  have hX := HX.out
  rw [stars_bar, hY] at hX
  clear HX
  cases Y with
  | error z =>
    obtain ⟨a, e⟩ := z
    dsimp only at hX
    subst hX
    go_enter Tryz.func84, Tryz.ntmps84
    go_wp2_with fail
    refine hl.mono ?_
    rintro x w1 ⟨⟨g, rfl, hg⟩, hgr⟩
    go_wp2
    exact ⟨rfl, ⟨_, rfl, hg⟩, hgr⟩
  | ok z =>
    obtain ⟨t, r⟩ := z
    dsimp only at hX
    have hl2 : Calls Tryz.prog 81 #[.pointer (some ⟨R, 0, none⟩), .string ⟨starsT.toArray⟩] w fun x w' => x = .returned (.string ⟨t.toArray⟩) ∧ ∃ n, w' = w.drewN n := hl
    have q2 := fun nn => q.dN nn
    clear hY hl
    by_cases ht : (t.isEmpty || t.head? == some 32) = true
    · rw [if_pos ht] at hX
      go_enter Tryz.func84, Tryz.ntmps84
      go_wp2_with fail
      refine hl2.mono ?_
      rintro x w1 ⟨rfl, nn, rfl⟩
      go_upto_region 2 with fail
      go_cut [14] (fun cv wz => cv = .bool false ∧ wz = w.drewN nn)
      case first =>
        cases t with
        | nil =>
          go_wp2
          go_meet
          case rel => exact ⟨rfl, rfl⟩
        | cons c t =>
          have hc : c = 32 := (by simpa using ht)
          subst hc
          clear ht
          go_wp2
          go_meet
          case rel => exact ⟨rfl, rfl⟩
      case rest =>
      obtain ⟨rfl, rfl⟩ := hcut
      have q3 := q2 nn
      have g3 := grown_drewN (low_grown (Below.refl w.heap.size w) (some R)) nn
      generalize w.drewN nn = W1 at q3 g3 ⊢
      by_cases hk2 : 4096 ≤ k
      · rw [if_pos hk2] at hX
        subst hX
        have e1 : ((k : Int) == 4096) = true := beq_iff_eq.2 (by omega)
        go_wp2_with fail
        refine (crefuse_f 9 _ q3 (by omega)).mono ?_
        rintro e w3 ⟨⟨g, rfl, hg⟩, hgr⟩
        go_wp2
        exact ⟨rfl, ⟨_, rfl, by simpa using hg⟩, grown_two g3 hgr⟩
      · rw [if_neg hk2] at hX
        subst hX
        have e1 : ((k : Int) == 4096) = false := beq_eq_false_iff_ne.2 (by omega)
        obtain ⟨c0, c1⟩ := q3.cells
        have f1 := q3.frozen 1
        have q4 : Ck (W1.setCell ⟨R, 1, none⟩ (.int .i64 ((p : Int) + 1))) R (.slice lo L.length lc) (((p + 1 : Nat)) : Int) := (by have := q3.at ((p : Int) + 1); simpa using this)
        have g4 := grown_two g3 (grown_set W1 R 1 (.int .i64 ((p : Int) + 1)))
        clear q3 g3
        go_wp2
        go_ret
        exact ⟨rfl, q4, g4⟩
    · rw [if_neg ht] at hX
      subst hX
      cases t with
      | nil => exact absurd rfl ht
      | cons c t =>
        have hc : c ≠ 32 := (by simpa using ht)
        have hcl := c.toNat_lt
        have e1 : ((c.toNat : Int) != 32) = true := (by
          rw [bne_iff_ne]
          intro e
          apply hc
          rw [← UInt8.toNat_inj]
          show c.toNat = 32
          omega)
        have i1 : (0 : Int) < (t.length : Int) + 1 := by omega
        clear ht hc
        go_enter Tryz.func84, Tryz.ntmps84
        go_wp2_with fail
        refine hl2.mono ?_
        rintro x w1 ⟨rfl, nn, rfl⟩
        go_wp2_with fail
        refine (crefuse_f 3 _ (q2 nn) (by omega)).mono ?_
        rintro e w3 ⟨⟨g, rfl, hg⟩, hgr⟩
        go_wp2
        exact ⟨rfl, ⟨_, rfl, by simpa using hg⟩, grown_two (grown_drewN (low_grown (Below.refl w.heap.size w) (some R)) nn) hgr⟩
end Go.Proofs.YtlgipdmjannidaaGreatDoor

/- slices.Clone and slices.DeleteFunc at lines with signs, and the code's kept of layer 15, walked. -/
set_option maxRecDepth 20000
namespace Go.Proofs.YtlgipdmjannidaaGreatDoor
open Go.RowKit

/-- a row of lines in a block of its own -/
structure Mrow (w : World) (g n cap : Nat) (r : List Mk) : Prop where
  ex : ∃ cur : Array Value, w.heap[g]? = some (.cells cur 78 (0, 0)) ∧ cur.size = cap * 2 ∧ cur.toList.take (n * 2) = mkcells r
  le : n ≤ cap
  len : r.length = n
theorem mkcells_set (r : List Mk) : ∀ (i : Nat) (m : Mk), i < r.length → ((mkcells r).set (i * 2) (.int .u8 m.sg)).set (i * 2 + 1) (.string ⟨m.tx.toArray⟩) = mkcells (r.set i m) := by
  induction r with
  | nil => intro i m h; simp at h
  | cons x r ih =>
    intro i m h
    have e1 : mkcells (x :: r) = .int .u8 x.sg :: .string ⟨x.tx.toArray⟩ :: mkcells r := rfl
    cases i with
    | zero => rw [e1]; rfl
    | succ i =>
      have e2 : (i + 1) * 2 = i * 2 + 1 + 1 := by omega
      have e3 : mkcells ((x :: r).set (i + 1) m) = .int .u8 x.sg :: .string ⟨x.tx.toArray⟩ :: mkcells (r.set i m) := rfl
      rw [e1, e2, e3]
      simp only [List.set_cons_succ]
      rw [ih i m (by simpa using h)]
section
variable {w u : World} {g n cap : Nat} {r : List Mk}
theorem Mrow.low (h : Mrow w g n cap r) (hb : Below w.heap.size w u) : Mrow u g n cap r := by
  obtain ⟨⟨cur, h1, h2, h3⟩, hl, hn⟩ := h
  exact ⟨⟨cur, (hb.block g (Array.getElem?_eq_some_iff.1 h1).1).trans h1, h2, h3⟩, hl, hn⟩
theorem Mrow.lt (h : Mrow w g n cap r) : g < w.heap.size := by
  obtain ⟨⟨cur, h1, _⟩, _⟩ := h
  exact (Array.getElem?_eq_some_iff.1 h1).1
theorem Mrow.holds (h : Mrow w g n cap r) (k : Nat) (hk : k ≤ n) : HMk w (.slice (some ⟨g, 0, none⟩) k cap) (r.take k) := by
  obtain ⟨⟨cur, h1, h2, h3⟩, hl, hn⟩ := h
  have hlk : (r.take k).length = k := by rw [List.length_take]; omega
  unfold HMk
  rw [hlk]
  refine .inr ⟨⟨g, 0, none⟩, cap, rfl, by omega, fun j v hj => ?_⟩
  rw [← mkcells_take, ← h3, List.take_take] at hj
  have hjl : j < k * 2 := by
    have := (List.getElem?_eq_some_iff.1 hj).1
    rw [List.length_take] at this
    omega
  rw [List.getElem?_take_of_lt (by omega)] at hj
  rw [add_none, Nat.zero_add, Lib.cell_of_heap h1]
  simpa using hj
theorem Mrow.store (h : Mrow w g n cap r) (i : Nat) (hi : i < n) (m : Mk) : Mrow ((w.setCell ⟨g, i * 2, none⟩ (.int .u8 m.sg)).setCell ⟨g, i * 2 + 1, none⟩ (.string ⟨m.tx.toArray⟩)) g n cap (r.set i m) := by
  obtain ⟨⟨cur, h1, h2, h3⟩, hl, hn⟩ := h
  have s1 := heap_setCell_same w g (i * 2) cur _ (.int .u8 m.sg) h1
  have s2 := heap_setCell_same _ g (i * 2 + 1) _ _ (.string ⟨m.tx.toArray⟩) s1
  refine ⟨⟨_, s2, by simpa using h2, ?_⟩, hl, by simpa using hn⟩
  have e1 : ((cur.setIfInBounds (i * 2) (.int .u8 m.sg)).setIfInBounds (i * 2 + 1) (.string ⟨m.tx.toArray⟩)).toList = (cur.toList.set (i * 2) (.int .u8 m.sg)).set (i * 2 + 1) (.string ⟨m.tx.toArray⟩) := by simp
  rw [e1, List.take_set, List.take_set, h3, mkcells_set r i m (by omega)]
theorem Mrow.cells (h : Mrow w g n cap r) (i : Nat) (hi : i < n) : ∃ x y, w.cell? ⟨g, i * 2, none⟩ = some (.int .u8 x) ∧ w.cell? ⟨g, i * 2 + 1, none⟩ = some (.string y) := by
  have hh := h.holds n (Nat.le_refl _)
  have hl := h.len
  obtain ⟨b, off, he, hb, hcl⟩ := HMk.at hh (by rw [List.length_take]; omega)
  cases he
  have hc := hcl i (by rw [List.length_take]; omega)
  rw [Nat.zero_add] at hc
  exact ⟨_, _, hc.1, hc.2⟩
theorem Mrow.frozen (h : Mrow w g n cap r) (j : Nat) : w.frozen? ⟨g, j, none⟩ = false := by
  obtain ⟨⟨cur, h1, _⟩, _⟩ := h
  exact Lib.frozen_of_heap h1 j
end
theorem mrow_of {w : World} {B n : Nat} {v : Value} {l : List Mk} (h : w.ownsRow B 78 2 v n (mkcells l)) (h0 : 0 < n) : ∃ g cap, v = .slice (some ⟨g, 0, none⟩) n cap ∧ B ≤ g ∧ Mrow w g n cap l := by
  have hl := h.1
  rw [mkcells_length] at hl
  rcases h.2 with ⟨_, h1⟩ | ⟨g, cap, cur, rfl, q2, q3, q4, q5, q6, q7⟩
  · omega
  · exact ⟨g, cap, rfl, q2, ⟨cur, q3, q6, q7⟩, q4, by omega⟩
theorem run_clear_mk (w : World) (ty : TypeId) (g o n c : Nat) (cur : List Value) (hg : w.heap[g]? = some (.cells cur.toArray 78 (0, 0))) (hfit : o + n * 2 ≤ cur.length) :
    ∃ u, (Builtin.clear_ #[38] ty #[.slice (some ⟨g, o, none⟩) n c]).run Tryz.prog w = .ok (.tuple #[]) u ∧ w.grownBy u (some g) ∧ ∃ cur' : List Value, u.heap[g]? = some (.cells cur'.toArray 78 (0, 0)) ∧ cur'.length = cur.length ∧ cur'.take o = cur.take o := by
  have hT := Tryz.underlying38
  cases n with
  | zero => exact ⟨w, by simp [Builtin.clear_, run_underlying hT], World.grownBy.refl _ _, cur, hg, rfl, rfl⟩
  | succ n =>
    obtain ⟨zs, hzs⟩ : ∃ zs : List Value, (Builtin.zeroCells (Value.agg #[.int .u8 0, .string ⟨#[]⟩]).cells (n + 1)).toList = zs := ⟨_, rfl⟩
    have hzl : zs.length = (n + 1) * 2 := by rw [← hzs]; simp [Builtin.zeroCells, Value.cells]
    have hz1 : ∀ v ∈ zs, v.oneCell' = true := by
      intro v hv
      rw [← hzs] at hv
      simp [Builtin.zeroCells, Value.cells] at hv
      obtain ⟨k, hk, rfl⟩ := hv
      have : k % 2 = 0 ∨ k % 2 = 1 := by omega
      rcases this with h | h <;> simp [h] <;> rfl
    have hst := run_storeCells_at Tryz.prog g o _ zs 0 cur.toArray w hg (by simp; omega) hz1
    have hzv : (zeroValue 78).run Tryz.prog w = .ok (.agg #[.int .u8 0, .string ⟨#[]⟩]) w := by
      obtain ⟨i0, hi, hz0, _, _⟩ := info_parts infoMk
      simp [zeroValue, typeInfo, hi, hz0]
    refine ⟨w.setRow g (spl cur o zs).toArray, ?_, setRow_grown _ _ _, _, setRow_heap w g _ _ _ _ hg, spl_length (by omega), ?_⟩
    · simp [Builtin.clear_, run_underlying hT, hzv, hzs, hst, spl]
    · unfold spl
      rw [List.append_assoc, List.take_left' (by simp; omega)]
theorem idxI_first (p : Mk → Bool) (l : List Mk) : ∀ k, (idxI p k l = -1 ∧ ∀ m ∈ l, p m = false) ∨ ∃ i, ∃ h : i < l.length, idxI p k l = ((k + i : Nat) : Int) ∧ p l[i] = true ∧ ∀ m ∈ l.take i, p m = false := by
  induction l with
  | nil => intro k; exact .inl ⟨rfl, fun m hm => by cases hm⟩
  | cons x l ih =>
    intro k
    by_cases h : p x = true
    · refine .inr ⟨0, by simp, ?_, by simpa using h, by simp⟩
      have e : idxI p k (x :: l) = (k : Int) := if_pos h
      rw [e]; simp
    · have e : idxI p k (x :: l) = idxI p (k + 1) l := if_neg h
      rcases ih (k + 1) with ⟨h1, h2⟩ | ⟨i, hi, h1, h2, h3⟩
      · refine .inl ⟨e.trans h1, fun m hm => ?_⟩
        rcases List.mem_cons.1 hm with rfl | hm
        · exact Bool.eq_false_iff.2 h
        · exact h2 m hm
      · refine .inr ⟨i + 1, by simpa using hi, ?_, by simpa using h2, fun m hm => ?_⟩
        · rw [e, h1]; congr 1; omega
        · rw [List.take_succ_cons] at hm
          rcases List.mem_cons.1 hm with rfl | hm
          · exact Bool.eq_false_iff.2 h
          · exact h3 m hm
theorem kept_all {l : List Mk} (h : ∀ m ∈ l, (m.sg != 32) = false) : keptM l = l := by
  unfold keptM
  rw [List.filter_eq_self]
  intro m hm
  have := h m hm
  simpa using this
theorem kept_snoc (l : List Mk) (j : Nat) (hj : j < l.length) : keptM (l.take (j + 1)) = keptM (l.take j) ++ (if l[j].sg = 32 then [l[j]] else []) := by
  rw [List.take_succ_eq_append_getElem hj]
  unfold keptM
  rw [List.filter_append]
  congr 1
  by_cases h : l[j].sg = 32
  · rw [if_pos h]; simp [h]
  · rw [if_neg h]; simp [h]
set_option maxHeartbeats 1000000 in
theorem ckept1_f (m : Mk) (w : World) : Calls Tryz.prog 129 #[.agg #[.int .u8 m.sg, .string ⟨m.tx.toArray⟩]] w fun e w' => e = .returned (.bool (m.sg != 32)) ∧ Below w.heap.size w w' := by
  have hBl : Below w.heap.size w (w.alloc (.cells #[.int .u8 m.sg, .string ⟨m.tx.toArray⟩] 78)) := (Below.refl _ w).alloc (Nat.le_refl _) _
  have hc := cisKept_f m (w.alloc (.cells #[.int .u8 m.sg, .string ⟨m.tx.toArray⟩] 78))
  go_enter Tryz.func129, Tryz.ntmps129
  go_wp2_with fail
  refine hc.mono ?_
  rintro e w1 ⟨rfl, hB⟩
  go_wp2
  go_ret
  exact ⟨rfl, hBl.trans (hB.mono hBl.size)⟩
set_option maxHeartbeats 8000000 in
set_option maxRecDepth 40000 in
theorem cdelete_f (l : List Mk) (g n cap : Nat) (w : World) (hr : Mrow w g n cap l) (hn : n ≤ 1099511627776) :
    Calls Tryz.prog 127 #[.slice (some ⟨g, 0, none⟩) n cap, .func (.func 129) #[] #[]] w fun e w' => ∃ k, e = .returned (.slice (some ⟨g, 0, none⟩) k cap) ∧ HMk w' (.slice (some ⟨g, 0, none⟩) k cap) (keptM l) ∧ k = (keptM l).length ∧ w.grownBy w' (some g) := by
  have hln := hr.len
  have hcap := hr.le
  have hv : HMk w (.slice (some ⟨g, 0, none⟩) n cap) l := (by
    have h := hr.holds n (Nat.le_refl _)
    rw [List.take_of_length_le (by omega)] at h
    exact h)
  have hix := fun z HZ => cIdx_f 129 #[] l (fun m => m.sg != 32) (.slice (some ⟨g, 0, none⟩) n cap) w hv (by omega) (enters_of Tryz.func129 (by kernel_rfl) rfl) (fun m _ u _ => ckept1_f m u) z HZ
  rcases idxI_first (fun m => m.sg != 32) l 0 with ⟨h1, h2⟩ | ⟨i0, hi0, h1, h2, h3⟩
  · have hk : keptM l = l := kept_all h2
    have hc := hix (-1) h1
    have HH : Hid (∀ u, Below w.heap.size w u → HMk u (.slice (some ⟨g, 0, none⟩) n cap) (keptM l) ∧ n = (keptM l).length) := (by
      intro u hu
      rw [hk]
      exact ⟨hv.keep hu (Nat.le_refl _), hln.symm⟩)
    clear hix h1 h2 hk hv hr
    go_enter Tryz.func127, Tryz.ntmps127
    go_wp2_with fail
    refine hc.mono ?_
    rintro e w1 ⟨rfl, hB⟩
    go_wp2
    go_ret
    exact ⟨n, rfl, (HH.out w1 hB).1, (HH.out w1 hB).2, low_grown hB _⟩
  · have hc := hix (i0 : Int) (by show _ = _; rw [h1]; simp)
    have HI0 : Hid (l.take i0 = keptM (l.take (i0 + 1)) ∧ l.drop (i0 + 1) = l.drop (i0 + 1)) := ⟨by
      have h4 : ¬ l[i0].sg = 32 := by simpa using h2
      rw [kept_snoc l i0 hi0, if_neg h4, List.append_nil, kept_all h3], rfl⟩
    have j0 : ((i0 : Int) == -1) = false := beq_eq_false_iff_ne.2 (by omega)
    clear hix h1 h2 h3 hv
    go_enter Tryz.func127, Tryz.ntmps127
    go_wp2_with fail
    refine hc.mono ?_
    rintro e w1 ⟨rfl, hB⟩
    have hr1 := hr.low hB
    have hg1 := low_grown hB (some g)
    clear hc hr hB
    go_wp2
    go_loopw [5, 6] (fun iv jv wr => ∃ (i j : Nat) (r : List Mk), i < j ∧ j ≤ n ∧ iv = .int .i64 i ∧ jv = .int .i64 j ∧ Mrow wr g n cap r ∧ w.grownBy wr (some g) ∧ Hid (r.take i = keptM (l.take j) ∧ r.drop j = l.drop j)) (fun _ jv _ => n - (intOf jv).toNat)
    case atStart => exact ⟨i0, i0 + 1, l, by omega, by omega, rfl, by go_num, hr1, hg1, ⟨HI0.out.1, rfl⟩⟩
    case round =>
    clear HI0 hr1 hg1
    obtain ⟨i, j, r, hij, hj, rfl, rfl, hr, hg, HI⟩ := hrel
    by_cases hlt : j < n
    · have hh := hr.holds n (Nat.le_refl _)
      obtain ⟨b, off, he, hb, hcl⟩ := HMk.at hh (by rw [List.length_take]; have := hr.len; omega)
      have he2 : b = g ∧ off = 0 := (by cases he; exact ⟨rfl, rfl⟩)
      obtain ⟨rfl, rfl⟩ := he2
      have hrl := hr.len
      have hcj := hcl j (by rw [List.length_take]; omega)
      have hrj : (r.take n)[j]'(by rw [List.length_take]; omega) = l[j]'(by omega) := (by
        have h := congrArg (fun x => x[0]?) HI.out.2
        simp only [List.getElem?_drop, Nat.add_zero] at h
        rw [List.getElem?_eq_getElem (by omega), List.getElem?_eq_getElem (by omega), Option.some.injEq] at h
        rw [List.getElem_take, h])
      rw [hrj] at hcj
      obtain ⟨c0, c1⟩ := hcj
      rw [Nat.zero_add] at c0 c1
      have HK := kept_snoc l j (by omega)
      obtain ⟨m, hm⟩ : ∃ m, l[j]'(by omega) = m := ⟨_, rfl⟩
      rw [hm] at c0 c1 HK
      have i1 : (0 : Int) ≤ (j : Int) := by omega
      have i2 : (j : Int) < (n : Int) := by omega
      have i3 : (0 : Int) ≤ (i : Int) := by omega
      have i4 : (i : Int) < (n : Int) := by omega
      have hBm : Below wr.heap.size wr (wr.alloc (.cells #[.int .u8 m.sg, .string ⟨m.tx.toArray⟩] 78)) := (Below.refl _ wr).alloc (Nat.le_refl _) _
      have hkc := ckept1_f m (wr.alloc (.cells #[.int .u8 m.sg, .string ⟨m.tx.toArray⟩] 78))
      have hMb : (wr.alloc (.cells #[.int .u8 m.sg, .string ⟨m.tx.toArray⟩] 78)).heap[wr.heap.size]? = some (.cells #[.int .u8 m.sg, .string ⟨m.tx.toArray⟩] 78) := heap_alloc_new wr _
      have hMl : wr.heap.size < (wr.alloc (.cells #[.int .u8 m.sg, .string ⟨m.tx.toArray⟩] 78)).heap.size := by simp
      clear hcl hrj hh he hb
      by_cases hs : m.sg = 32
      · have e1 : (m.sg != 32) = false := by simp [hs]
        rw [e1] at hkc
        rw [if_pos hs] at HK
        have HI2 : Hid ((r.set i m).take (i + 1) = keptM (l.take (j + 1)) ∧ (r.set i m).drop (j + 1) = l.drop (j + 1)) := (by
          constructor
          · rw [HK, ← HI.out.1, List.take_succ_eq_append_getElem (by simp; omega), List.take_set, List.set_eq_of_length_le (by rw [List.length_take]; omega)]
            simp
          · rw [List.drop_set_of_lt (by omega)]
            have h := congrArg List.tail HI.out.2
            simpa using h)
        clear HI HK hs e1 hm
        go_upto_region 8 with fail
        go_wp2_with fail
        refine hkc.mono ?_
        rintro e w2 ⟨rfl, hB2⟩
        have hm2 := (hB2.block _ hMl).trans hMb
        have m0 : w2.cell? ⟨wr.heap.size, 0, none⟩ = some (.int .u8 m.sg) := (by rw [Lib.cell_of_heap hm2]; rfl)
        have m1 : w2.cell? ⟨wr.heap.size, 1, none⟩ = some (.string ⟨m.tx.toArray⟩) := (by rw [Lib.cell_of_heap hm2]; rfl)
        have hr2 := (hr.low hBm).low hB2
        have hg2 := grown_two (grown_two hg (low_grown hBm (some b))) (low_grown hB2 (some b))
        obtain ⟨x0, y0, t0, t1⟩ := hr2.cells i (by omega)
        have f0 := hr2.frozen (i * 2)
        have f1 := hr2.frozen (i * 2 + 1)
        have hr3 := hr2.store i (by omega) m
        have hg3 := grown_two (grown_two hg2 (grown_set w2 b (i * 2) (.int .u8 m.sg))) (grown_set _ b (i * 2 + 1) (.string ⟨m.tx.toArray⟩))
        clear c0 c1 hkc hMb hMl hm2 hr hg hr2 hg2 hB2 hBm
        go_wp2
        exact ⟨⟨i + 1, j + 1, _, by omega, by omega, by go_num, by go_num, hr3, hg3, HI2⟩, by simp [intOf]; omega⟩
      · have e1 : (m.sg != 32) = true := by simp [hs]
        rw [e1] at hkc
        rw [if_neg hs, List.append_nil] at HK
        have HI2 : Hid (r.take i = keptM (l.take (j + 1)) ∧ r.drop (j + 1) = l.drop (j + 1)) := ⟨HI.out.1.trans HK.symm, by
          have h := congrArg List.tail HI.out.2
          simpa using h⟩
        have hr2 := hr.low hBm
        have hg2 := grown_two hg (low_grown hBm (some b))
        clear HI HK hs e1 hm hMb hMl hr hg hBm
        go_wp2_with fail
        refine hkc.mono ?_
        rintro e w2 ⟨rfl, hB2⟩
        have hr3 := hr2.low hB2
        have hg3 := grown_two hg2 (low_grown hB2 (some b))
        clear c0 c1 hkc hr2 hg2 hB2
        go_wp2
        exact ⟨⟨i, j + 1, r, by omega, by omega, rfl, by go_num, hr3, hg3, HI2⟩, by simp [intOf]; omega⟩
    · have hend : ¬ (j : Int) < (n : Int) := by omega
      have hjn : j = n := by omega
      subst hjn
      have hi1 : i ≤ j := by omega
      have HK : Hid (r.take i = keptM l ∧ i = (keptM l).length) := (by
        have h := HI.out.1
        rw [List.take_of_length_le (show l.length ≤ j by omega)] at h
        refine ⟨h, ?_⟩
        rw [← h, List.length_take]
        have := hr.len
        omega)
      have hs1 := run_mF (some ⟨g, 0, none⟩) j cap i hi1 hcap
      have hs2 := run_mT (some ⟨g, 0, none⟩) j cap i hi1 hcap
      have hsf : mslF (some ⟨g, 0, none⟩) cap i = some ⟨g, i * 2, none⟩ := (by
        unfold mslF
        rw [if_neg (by omega)]
        simp [add_none])
      rw [hsf] at hs1
      obtain ⟨cur, q1, q2, q3⟩ := hr.ex
      obtain ⟨u, hcr, hcg, cur', k1, k2, k3⟩ := run_clear_mk wr 0 g (i * 2) (j - i) (cap - i) cur.toList (by simpa using q1) (by simp; omega)
      have hHu : HMk u (.slice (some ⟨g, 0, none⟩) i cap) (keptM l) := (by
        have hl2 : (keptM l).length = i := HK.out.2.symm
        unfold HMk
        rw [hl2]
        refine .inr ⟨⟨g, 0, none⟩, cap, rfl, by omega, fun t v ht => ?_⟩
        have htl : t < i * 2 := (by
          have := (List.getElem?_eq_some_iff.1 ht).1
          rw [mkcells_length, hl2] at this
          exact this)
        have h1 : cur.toList.take (i * 2) = mkcells (keptM l) := (by
          rw [← HK.out.1, ← mkcells_take, ← q3, List.take_take]
          congr 1
          omega)
        rw [← h1, ← k3, List.getElem?_take_of_lt htl] at ht
        rw [add_none, Nat.zero_add, Lib.cell_of_heap k1]
        simpa using ht)
      have hgu := grown_two hg hcg
      clear HI hsf q1 q2 q3 k1 k2 k3 hr hg hcg
      go_wp2_with (first | (refine wpList_cl (o := ⟨none, _, _, _, _, none⟩) _ rfl (.tmp 38) 38 rfl _ rfl _ _ hcr ?_) | fail)
      go_wp2
      go_ret
      exact ⟨i, rfl, hHu, HK.out.2, hgu⟩
end Go.Proofs.YtlgipdmjannidaaGreatDoor
