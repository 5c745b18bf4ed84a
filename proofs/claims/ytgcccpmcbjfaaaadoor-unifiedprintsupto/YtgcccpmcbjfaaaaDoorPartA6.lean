/-
  Texts that belong together, joined: LnShelf, NoShelf, Itoa, Math, Copy, CqL, CqR, CwA, CwB, CqQ, LnMath, HuLm, PMath, BackMath.
-/
import Derived.Shelf.Strings.Search3
import Derived.Test.YtgcccpmcbjfaaaaDoorProg
import Derived.Shelf.Strings.BuilderK
import Derived.Shelf.Small.Wraps
import Derived.Shelf.Small.Strs
import Derived.Shelf.Strings.IndexAny
import Derived.Shelf.Strconv.Itoa3
import Derived.Shelf.Strings.Builder1
import Derived.Test.YtgcccpmcbjfaaaaDoorPartA1
import Derived.WalkKit
import Derived.WalkSpells
import Derived.WalkLawsBesides
import Derived.BigQuiet
import Derived.Lib.FrozenHead2
import Derived.Lib.Bytealg
import Derived.Lib.Join
import Derived.Test.YtgcccpmcbjfaaaaDoorPartA2
import Derived.Lib.ItoaNum

/- Contracts of the library at this program: the program bears the bodies that they speak of. Taken: strings_Index_one. -/
namespace Go.Proofs
open Go.Shelf
def Tryd.lays143_ren : Go.Shelf.Ren := ⟨fun | 143 => 60 | 219 => 66 | 217 => 68 | 225 => 69 | 224 => 70 | 267 => 71 | 266 => 76 | 314 => 77 | n => n, fun | 9 => 9 | 3 => 3 | 4 => 4 | 5 => 5 | 46 => 78 | 146 => 95 | 51 => 94 | n => n, fun | 1 => 0 | n => n⟩
theorem Tryd.lays143 : Go.Proofs.Lays.n143 Tryd.prog Tryd.lays143_ren := {
  mixed := by kernel_rfl
  f143 := Tryd.func60.trans (congrArg some (by kernel_rfl))
  f217 := Tryd.func68.trans (congrArg some (by kernel_rfl))
  f219 := Tryd.func66.trans (congrArg some (by kernel_rfl))
  f224 := Tryd.func70.trans (congrArg some (by kernel_rfl))
  f225 := Tryd.func69.trans (congrArg some (by kernel_rfl))
  f266 := Tryd.func76.trans (congrArg some (by kernel_rfl))
  f267 := Tryd.func71.trans (congrArg some (by kernel_rfl))
  f314 := Tryd.func77.trans (congrArg some (by kernel_rfl))
  t3 := Tryd.underlying3
  a3 := Tryd.isAgg3
  z3 := Tryd.sizeOf3
  v3 := Tryd.zeroValue3
  t4 := Tryd.underlying4
  a4 := Tryd.isAgg4
  z4 := Tryd.sizeOf4
  v4 := Tryd.zeroValue4
  t5 := Tryd.underlying5
  a5 := Tryd.isAgg5
  z5 := Tryd.sizeOf5
  v5 := Tryd.zeroValue5
  t9 := Tryd.underlying9
  a9 := Tryd.isAgg9
  z9 := Tryd.sizeOf9
  v9 := Tryd.zeroValue9
  t46 := Tryd.underlying78
  a46 := Tryd.isAgg78
  z46 := Tryd.sizeOf78
  v46 := Tryd.zeroValue78
  t51 := Tryd.underlying94
  a51 := Tryd.isAgg94
  z51 := Tryd.sizeOf94
  v51 := Tryd.zeroValue94
  t146 := Tryd.underlying95
  a146 := Tryd.isAgg95
  z146 := Tryd.sizeOf95
  v146 := Tryd.zeroValue95
  g1 := by kernel_rfl }
open Go.RowKit Go.Lib in
theorem Tryd.strings_Index_one (s : ByteArray) (c : UInt8) (w : World) :
    Calls Tryd.prog 60 #[.string s, .string ⟨#[c]⟩] w fun e w' => e = .returned (.int .i64 (Lib.indexByte s.data.toList c)) ∧ w' = w := Any.strings_Index_one Tryd.lays143 s c w
end Go.Proofs

/- Contracts of the library at this program: the program bears the bodies that they speak of. Taken: Builder_String_any_k, strings_HasSuffix. -/
namespace Go.Proofs
open Go.Shelf
def Tryd.lays169_ren : Go.Shelf.Ren := ⟨fun | 169 => 13 | n => n, fun | 70 => 33 | 9 => 9 | 0 => 0 | 72 => 36 | 37 => 34 | 127 => 54 | 3 => 3 | 5 => 5 | n => n, fun | n => n⟩
theorem Tryd.lays169 : Go.Proofs.Lays.n169 Tryd.prog Tryd.lays169_ren := {
  mixed := by kernel_rfl
  f169 := Tryd.func13.trans (congrArg some (by kernel_rfl))
  t0 := Tryd.underlying0
  a0 := Tryd.isAgg0
  z0 := Tryd.sizeOf0
  v0 := Tryd.zeroValue0
  t3 := Tryd.underlying3
  a3 := Tryd.isAgg3
  z3 := Tryd.sizeOf3
  v3 := Tryd.zeroValue3
  t9 := Tryd.underlying9
  a9 := Tryd.isAgg9
  z9 := Tryd.sizeOf9
  v9 := Tryd.zeroValue9
  t37 := Tryd.underlying34
  a37 := Tryd.isAgg34
  z37 := Tryd.sizeOf34
  v37 := Tryd.zeroValue34
  t70 := Tryd.underlying33
  a70 := Tryd.isAgg33
  z70 := Tryd.sizeOf33
  v70 := Tryd.zeroValue33
  t72 := Tryd.underlying36
  a72 := Tryd.isAgg36
  z72 := Tryd.sizeOf36
  v72 := Tryd.zeroValue36
  t127 := Tryd.underlying54
  a127 := Tryd.isAgg54
  z127 := Tryd.sizeOf54
  v127 := Tryd.zeroValue54 }
theorem Tryd.Builder_Extra_169 : Builder.Extra Tryd.prog Tryd.lays169_ren := {
  sizeBuilder := by kernel_rfl
  liesBuilder := by kernel_rfl
  t5 := Tryd.underlying5
  a5 := Tryd.isAgg5
  z5 := Tryd.sizeOf5
  v5 := Tryd.zeroValue5
  infoByte := by kernel_rfl
  cellsByte := by kernel_rfl
  sizeByte := by kernel_rfl
  neB5 := by decide }
open Go.RowKit in
theorem Tryd.Builder_String_any_k (B b : Nat) (l : List UInt8) (w : World) (h : Lib.IsBuilderF 36 5 B b (Lib.byteCells l) w) (hBw : B ≤ w.heap.size) :
    Calls Tryd.prog 13 #[.pointer (some ⟨b, 0, none⟩)] w fun e w' => e = .returned (.string ⟨l.toArray⟩) ∧ (Lib.IsBuilderF 36 5 B b (Lib.byteCells l) w' ∧ Below B w w' ∧ Lib.OthersKept 5 (some b) w w') := Any.Builder_String_any_k Tryd.lays169 Tryd.Builder_Extra_169 B b l w h hBw
def Tryd.lays100_ren : Go.Shelf.Ren := ⟨fun | 100 => 43 | 207 => 54 | n => n, fun | 9 => 9 | 4 => 4 | 3 => 3 | n => n, fun | n => n⟩
theorem Tryd.lays100 : Go.Proofs.Lays.n100 Tryd.prog Tryd.lays100_ren := {
  mixed := by kernel_rfl
  f100 := Tryd.func43.trans (congrArg some (by kernel_rfl))
  f207 := Tryd.func54.trans (congrArg some (by kernel_rfl))
  t3 := Tryd.underlying3
  a3 := Tryd.isAgg3
  z3 := Tryd.sizeOf3
  v3 := Tryd.zeroValue3
  t4 := Tryd.underlying4
  a4 := Tryd.isAgg4
  z4 := Tryd.sizeOf4
  v4 := Tryd.zeroValue4
  t9 := Tryd.underlying9
  a9 := Tryd.isAgg9
  z9 := Tryd.sizeOf9
  v9 := Tryd.zeroValue9 }
open Go.RowKit Go.Lib in
theorem Tryd.strings_HasSuffix (s p : ByteArray) (w : World) (hs : s.size ≤ 9223372036854775807) :
    Calls Tryd.prog 43 #[.string s, .string p] w fun e w' => e = .returned (.bool (Lib.hasSuffix s.data.toList p.data.toList)) ∧ w' = w := Any.strings_HasSuffix Tryd.lays100 s p w hs
end Go.Proofs

/- Contracts of the library at this program: the program bears the bodies that they speak of. Taken: strconv_Itoa. -/
namespace Go.Proofs
open Go.Shelf
def Tryd.laysM171_ren : Go.Shelf.Ren := ⟨fun | 171 => 53 | 243 => 62 | 246 => 67 | 283 => 72 | 284 => 73 | 285 => 74 | 286 => 75 | 129 => 79 | 317 => 78 | 318 => 80 | 319 => 81 | 320 => 82 | 337 => 83 | 338 => 84 | n => n, fun | 3 => 3 | 9 => 9 | 2 => 2 | 4 => 4 | 171 => 89 | 0 => 0 | 53 => 71 | 37 => 34 | 5 => 5 | 173 => 92 | 212 => 98 | 51 => 94 | 20 => 20 | 213 => 99 | 46 => 78 | 232 => 102 | 233 => 103 | n => n, fun | 17 => 1 | 18 => 2 | 19 => 3 | n => n⟩
theorem Tryd.laysM171 : Go.Proofs.LaysM.n171 Tryd.prog Tryd.laysM171_ren := {
  mixed := by kernel_rfl
  f129 := Tryd.func79.trans (congrArg some (by kernel_rfl))
  f171 := Tryd.func53.trans (congrArg some (by kernel_rfl))
  f243 := Tryd.func62.trans (congrArg some (by kernel_rfl))
  f246 := Tryd.func67.trans (congrArg some (by kernel_rfl))
  f283 := Tryd.func72.trans (congrArg some (by kernel_rfl))
  f284 := Tryd.func73.trans (congrArg some (by kernel_rfl))
  f285 := Tryd.func74.trans (congrArg some (by kernel_rfl))
  f286 := Tryd.func75.trans (congrArg some (by kernel_rfl))
  f317 := Tryd.func78.trans (congrArg some (by kernel_rfl))
  f318 := Tryd.func80.trans (congrArg some (by kernel_rfl))
  f319 := Tryd.func81.trans (congrArg some (by kernel_rfl))
  f320 := Tryd.func82.trans (congrArg some (by kernel_rfl))
  f337 := Tryd.func83.trans (congrArg some (by kernel_rfl))
  f338 := Tryd.func84.trans (congrArg some (by kernel_rfl))
  t0 := Tryd.underlying0
  a0 := Tryd.isAgg0
  z0 := Tryd.sizeOf0
  v0 := Tryd.zeroValue0
  t2 := Tryd.underlying2
  a2 := Tryd.isAgg2
  z2 := Tryd.sizeOf2
  v2 := Tryd.zeroValue2
  t3 := Tryd.underlying3
  a3 := Tryd.isAgg3
  z3 := Tryd.sizeOf3
  v3 := Tryd.zeroValue3
  t4 := Tryd.underlying4
  a4 := Tryd.isAgg4
  z4 := Tryd.sizeOf4
  v4 := Tryd.zeroValue4
  t5 := Tryd.underlying5
  a5 := Tryd.isAgg5
  z5 := Tryd.sizeOf5
  v5 := Tryd.zeroValue5
  t9 := Tryd.underlying9
  a9 := Tryd.isAgg9
  z9 := Tryd.sizeOf9
  v9 := Tryd.zeroValue9
  t20 := Tryd.underlying20
  a20 := Tryd.isAgg20
  z20 := Tryd.sizeOf20
  v20 := Tryd.zeroValue20
  t37 := Tryd.underlying34
  a37 := Tryd.isAgg34
  z37 := Tryd.sizeOf34
  v37 := Tryd.zeroValue34
  t46 := Tryd.underlying78
  a46 := Tryd.isAgg78
  z46 := Tryd.sizeOf78
  v46 := Tryd.zeroValue78
  t51 := Tryd.underlying94
  a51 := Tryd.isAgg94
  z51 := Tryd.sizeOf94
  v51 := Tryd.zeroValue94
  t53 := Tryd.underlying71
  a53 := Tryd.isAgg71
  z53 := Tryd.sizeOf71
  v53 := Tryd.zeroValue71
  t171 := Tryd.underlying89
  a171 := Tryd.isAgg89
  z171 := Tryd.sizeOf89
  v171 := Tryd.zeroValue89
  t173 := Tryd.underlying92
  a173 := Tryd.isAgg92
  z173 := Tryd.sizeOf92
  v173 := Tryd.zeroValue92
  t212 := Tryd.underlying98
  a212 := Tryd.isAgg98
  z212 := Tryd.sizeOf98
  v212 := Tryd.zeroValue98
  t213 := Tryd.underlying99
  a213 := Tryd.isAgg99
  z213 := Tryd.sizeOf99
  t232 := Tryd.underlying102
  a232 := Tryd.isAgg102
  z232 := Tryd.sizeOf102
  v232 := Tryd.zeroValue102
  t233 := Tryd.underlying103
  a233 := Tryd.isAgg103
  z233 := Tryd.sizeOf103
  v233 := Tryd.zeroValue103
  g17 := by kernel_rfl
  g18 := by kernel_rfl
  g19 := by kernel_rfl
  i0 := by kernel_rfl
  i2 := by kernel_rfl
  i3 := by kernel_rfl
  i4 := by kernel_rfl
  i5 := by kernel_rfl
  i9 := by kernel_rfl
  i20 := by kernel_rfl
  i37 := by kernel_rfl
  i46 := by kernel_rfl
  i51 := by kernel_rfl
  i53 := by kernel_rfl
  i171 := by kernel_rfl
  i173 := by kernel_rfl
  i212 := by kernel_rfl
  i232 := by kernel_rfl
  i233 := by kernel_rfl
  m17 := by kernel_rfl
  m18 := by kernel_rfl
  m19 := by kernel_rfl }
open Go.RowKit Go.Sort Go.Lib in
theorem Tryd.strconv_Itoa (n : Int) (h0 : -9223372036854775808 ≤ n) (h1 : n ≤ 9223372036854775807) (w : World) (htab : Lib.TabIs Tryd.prog w "internal/strconv.uint64pow10" .u64 Lib.pow10Tab) :
    Calls Tryd.prog 53 #[.int .i64 n] w fun e w' => e = .returned (.string ⟨(Lib.itoa n).toArray⟩) ∧ ∃ k os, w' = grow (w.drewN k) os := Any.strconv_Itoa Tryd.laysM171 n h0 h1 w htab
end Go.Proofs

/- Plain facts on bytes, quoted texts and how they are read: nothing of a program. -/
namespace Go.Proofs.YtgcccpmcbjfaaaaDoor.Q

/-- does a byte stand for itself? -/
def plainI (n : Int) : Bool := decide (32 ≤ n ∧ n ≤ 126 ∧ n ≠ 34 ∧ n ≠ 92)

theorem plainI_mk {n : Int} (h : 32 ≤ n ∧ n ≤ 126 ∧ n ≠ 34 ∧ n ≠ 92) : plainI n = true := decide_eq_true h
theorem plainI_not {n : Int} (h : ¬ (32 ≤ n ∧ n ≤ 126 ∧ n ≠ 34 ∧ n ≠ 92)) : plainI n = false := decide_eq_false h
theorem plainI_out {n : Int} (h : plainI n = true) : 32 ≤ n ∧ n ≤ 126 ∧ n ≠ 34 ∧ n ≠ 92 := of_decide_eq_true h
theorem plainI_no {n : Int} (h : plainI n = false) : ¬ (32 ≤ n ∧ n ≤ 126 ∧ n ≠ 34 ∧ n ≠ 92) := of_decide_eq_false h

/-- the hexadecimal digits -/
def hexl : List UInt8 := [48, 49, 50, 51, 52, 53, 54, 55, 56, 57, 97, 98, 99, 100, 101, 102]

def hexc (n : Nat) : UInt8 := hexl.getD n 0

theorem hex_at (n : Nat) (h : n < (⟨#[48, 49, 50, 51, 52, 53, 54, 55, 56, 57, 97, 98, 99, 100, 101, 102]⟩ : ByteArray).size) :
    (⟨#[48, 49, 50, 51, 52, 53, 54, 55, 56, 57, 97, 98, 99, 100, 101, 102]⟩ : ByteArray)[n] = hexc n := by
  have h' : n < 16 := h
  have key : ∀ i : Fin 16, (#[48, 49, 50, 51, 52, 53, 54, 55, 56, 57, 97, 98, 99, 100, 101, 102] : Array UInt8)[i.val]'(i.isLt) = hexc i.val := by decide
  exact key ⟨n, h'⟩

theorem hexl_at (n : Nat) (h : n < ([48, 49, 50, 51, 52, 53, 54, 55, 56, 57, 97, 98, 99, 100, 101, 102] : List UInt8).length) :
    ([48, 49, 50, 51, 52, 53, 54, 55, 56, 57, 97, 98, 99, 100, 101, 102] : List UInt8)[n] = hexc n := by
  have h' : n < 16 := h
  have key : ∀ i : Fin 16, ([48, 49, 50, 51, 52, 53, 54, 55, 56, 57, 97, 98, 99, 100, 101, 102] : List UInt8)[i.val]'(i.isLt) = hexc i.val := by decide
  exact key ⟨n, h'⟩

def q1 (c : UInt8) : List UInt8 := if plainI c.toNat then [c] else [92, hexc (c.toNat / 16), hexc (c.toNat % 16)]

def qbody (l : List UInt8) : List UInt8 := l.flatMap q1

def quote (l : List UInt8) : List UInt8 := [34] ++ qbody l ++ [34]

/-- the value of a hexadecimal digit, or -1 -/
def digitI (n : Int) : Int := if 48 ≤ n ∧ n ≤ 57 then n - 48 else if 97 ≤ n ∧ n ≤ 102 then n - 87 else -1

theorem digitI_ge (n : Int) : -1 ≤ digitI n ∧ digitI n ≤ 15 := by unfold digitI; split <;> (try split) <;> omega

theorem hexc_val (k : Nat) (h : k < 16) : (hexc k).toNat = if k < 10 then 48 + k else 87 + k := by
  have key : ∀ i : Fin 16, (hexc i.val).toNat = if i.val < 10 then 48 + i.val else 87 + i.val := by decide
  exact key ⟨k, h⟩

theorem digit_hexc (k : Nat) (h : k < 16) : digitI (hexc k).toNat = k := by
  rw [hexc_val k h]; unfold digitI; split <;> split <;> omega

theorem digit_none (n : Int) (h : ∀ j, j < 16 → ((hexc j).toNat : Int) ≠ n) : digitI n = -1 := by
  unfold digitI
  split
  · have h1 := h (n - 48).toNat (by omega)
    rw [hexc_val _ (by omega), if_pos (by omega)] at h1
    omega
  · split
    · have h1 := h (n - 87).toNat (by omega)
      rw [hexc_val _ (by omega), if_neg (by omega)] at h1
      omega
    · rfl

/-- the byte that two digits are -/
def pairI (a b : UInt8) : Int := 16 * digitI a.toNat + digitI b.toNat

/-- are there two digits of a byte that does not stand for itself? -/
def pairOk (a b : UInt8) : Bool := decide (0 ≤ digitI a.toNat) && decide (0 ≤ digitI b.toNat) && !(plainI (pairI a b))

/-- the quoted byte at the front (0 if there is none), and how long it is (0 if there is none) -/
def pv (a b : UInt8) : Int := if pairOk a b then pairI a b else 0
def pn (a b : UInt8) : Int := if pairOk a b then 3 else 0

theorem pairOk_lo {a b : UInt8} (h : digitI a.toNat < 0) : pairOk a b = false := by simp [pairOk]; omega
theorem pairOk_hi {a b : UInt8} (h : digitI b.toNat < 0) : pairOk a b = false := by simp [pairOk]; omega
theorem pairOk_mid {a b : UInt8} (h : ¬ digitI a.toNat < 0) (h' : ¬ digitI b.toNat < 0) : pairOk a b = !plainI (pairI a b) := by simp [pairOk]; omega
theorem pv_no {a b : UInt8} (h : pairOk a b = false) : 0 = pv a b := by simp [pv, h]
theorem pn_no {a b : UInt8} (h : pairOk a b = false) : 0 = pn a b := by simp [pn, h]
theorem pv_yes {a b : UInt8} (h : pairOk a b = true) : pairI a b = pv a b := by simp [pv, h]
theorem pn_yes {a b : UInt8} (h : pairOk a b = true) : 3 = pn a b := by simp [pn, h]

/-- what stands behind the opening mark: the text, and what is behind the closing mark -/
def body : List UInt8 → Option (List UInt8 × List UInt8)
  | [] => none
  | c :: t =>
    if c.toNat = 34 then some ([], t)
    else if plainI c.toNat then (body t).map fun p => (c :: p.1, p.2)
    else if c.toNat = 92 then
      match t with
      | a :: b :: t' => if pairOk a b then (body t').map fun p => (UInt8.ofNat (pairI a b).toNat :: p.1, p.2) else none
      | _ => none
    else none

/-- what a text that begins with a quoted text reads as -/
def unquote : List UInt8 → Option (List UInt8 × List UInt8)
  | [] => none
  | c :: t => if c.toNat = 34 then body t else none

theorem body_end {c : UInt8} (t : List UInt8) (h : c.toNat = 34) : body (c :: t) = some ([], t) := by
  rw [body.eq_def]; simp only [h, if_true]
theorem body_plain {c : UInt8} (t : List UInt8) (h : plainI c.toNat = true) : body (c :: t) = (body t).map fun p => (c :: p.1, p.2) := by
  have h4 := plainI_out h
  have h5 : ¬ c.toNat = 34 := by omega
  rw [body.eq_def]; simp only [h, h5, if_false, if_true]
theorem body_pair {c a b : UInt8} (t : List UInt8) (h : c.toNat = 92) (hk : pairOk a b = true) : body (c :: a :: b :: t) = (body t).map fun p => (UInt8.ofNat (pairI a b).toNat :: p.1, p.2) := by
  have h4 : plainI c.toNat = false := plainI_not (by omega)
  have h5 : ¬ c.toNat = 34 := by omega
  rw [body.eq_def]; simp only [h4, h5, if_false, Bool.false_eq_true, hk, if_true]
  rw [if_pos h]
theorem body_pair_no {c a b : UInt8} (t : List UInt8) (h : c.toNat = 92) (hk : pairOk a b = false) : body (c :: a :: b :: t) = none := by
  have h4 : plainI c.toNat = false := plainI_not (by omega)
  have h5 : ¬ c.toNat = 34 := by omega
  rw [body.eq_def]; simp only [h4, h5, if_false, Bool.false_eq_true, hk]
  rw [if_pos h]
theorem body_none {c : UInt8} (t : List UInt8) (h0 : c.toNat ≠ 34) (h : plainI c.toNat = false) (h2 : ¬ (c.toNat = 92 ∧ 2 ≤ t.length)) : body (c :: t) = none := by
  rw [body.eq_def]
  simp only [h0, h, if_false, Bool.false_eq_true]
  by_cases h3 : c.toNat = 92
  · rw [if_pos h3]
    match t with
    | [] => rfl
    | [_] => rfl
    | a :: b :: t' => exact absurd ⟨h3, by simp⟩ h2
  · rw [if_neg h3]

def uqa (l : List UInt8) : List UInt8 := ((unquote l).map (·.1)).getD []
def uqb (l : List UInt8) : List UInt8 := ((unquote l).map (·.2)).getD []
def uqe (l : List UInt8) : Int := if (unquote l).isSome then 0 else 3

theorem uq_none {l : List UInt8} (h : unquote l = none) : uqa l = [] ∧ uqb l = [] ∧ uqe l = 3 := by simp [uqa, uqb, uqe, h]
theorem uq_some {l a b : List UInt8} (h : unquote l = some (a, b)) : uqa l = a ∧ uqb l = b ∧ uqe l = 0 := by simp [uqa, uqb, uqe, h]

theorem pairI_byte {a b : UInt8} (hk : pairOk a b = true) : 0 ≤ pairI a b ∧ pairI a b ≤ 255 := by
  have h1 := digitI_ge a.toNat
  have h2 := digitI_ge b.toNat
  simp [pairOk] at hk
  unfold pairI; omega

theorem quote_length (l : List UInt8) : (quote l).length ≤ 3 * l.length + 2 := by
  have h : ∀ l : List UInt8, (qbody l).length ≤ 3 * l.length := by
    intro l
    induction l with
    | nil => simp [qbody]
    | cons c t ih =>
      have : (q1 c).length ≤ 3 := by unfold q1; split <;> simp
      simp only [qbody, List.flatMap_cons, List.length_append, List.length_cons] at ih ⊢
      omega
  have := h l
  simp [quote]; omega

end Go.Proofs.YtgcccpmcbjfaaaaDoor.Q

/- The library's contract on a fresh strings.Builder's copy check at this program: the program bears the bodies that it speaks of. -/
namespace Go.Proofs
open Go.Shelf
def Tryd.lays240_ren : Go.Shelf.Ren := ⟨fun | 240 => 21 | 276 => 38 | n => n, fun | 0 => 0 | 4 => 4 | 9 => 9 | 20 => 20 | 70 => 33 | 72 => 36 | 37 => 34 | 164 => 65 | n => n, fun | n => n⟩
theorem Tryd.lays240 : Go.Proofs.Lays.n240 Tryd.prog Tryd.lays240_ren := {
  mixed := by kernel_rfl
  f240 := Tryd.func21.trans (congrArg some (by kernel_rfl))
  f276 := Tryd.func38.trans (congrArg some (by kernel_rfl))
  t0 := Tryd.underlying0
  a0 := Tryd.isAgg0
  z0 := Tryd.sizeOf0
  v0 := Tryd.zeroValue0
  t4 := Tryd.underlying4
  a4 := Tryd.isAgg4
  z4 := Tryd.sizeOf4
  v4 := Tryd.zeroValue4
  t9 := Tryd.underlying9
  a9 := Tryd.isAgg9
  z9 := Tryd.sizeOf9
  v9 := Tryd.zeroValue9
  t20 := Tryd.underlying20
  a20 := Tryd.isAgg20
  z20 := Tryd.sizeOf20
  v20 := Tryd.zeroValue20
  t70 := Tryd.underlying33
  a70 := Tryd.isAgg33
  z70 := Tryd.sizeOf33
  v70 := Tryd.zeroValue33
  t72 := Tryd.underlying36
  a72 := Tryd.isAgg36
  z72 := Tryd.sizeOf36
  v72 := Tryd.zeroValue36
  t164 := Tryd.underlying65
  a164 := Tryd.isAgg65
  z164 := Tryd.sizeOf65
  v164 := Tryd.zeroValue65 }
theorem Tryd.Builder_X72_240 : Builder.X72 Tryd.prog Tryd.lays240_ren := {
  sizeBuilder := by kernel_rfl
  liesBuilder := by kernel_rfl }
theorem Tryd.copyCheck_fresh (b : Nat) (w : World) (h0 : w.cell? ⟨b, 0, none⟩ = some (.pointer none)) (hsh : w.shape? b = some (36, 2)) (hfz : w.frozen? ⟨b, 0, none⟩ = false) :
    Calls Tryd.prog 21 #[.pointer (some ⟨b, 0, none⟩)] w fun e w' => e = .returned (.tuple #[]) ∧ w' = w.setCell ⟨b, 0, none⟩ (.pointer (some ⟨b, 0, none⟩)) := Any.Builder_copyCheck_fresh Tryd.lays240 Tryd.Builder_X72_240 b w h0 hsh hfz
theorem Tryd.copyCheck_used (b : Nat) (w : World) (h0 : w.cell? ⟨b, 0, none⟩ = some (.pointer (some ⟨b, 0, none⟩))) :
    Calls Tryd.prog 21 #[.pointer (some ⟨b, 0, none⟩)] w fun e w' => e = .returned (.tuple #[]) ∧ w' = w := Any.Builder_copyCheck_used Tryd.lays240 Tryd.Builder_X72_240 b w h0
end Go.Proofs

/- Small functions of layer num and of the reference, and the writing of a byte into a builder, walked. -/
namespace Go.Proofs.YtgcccpmcbjfaaaaDoor
open Q Go.RowKit Go.Proofs.YtgcccpmcbjfaaaaDoor
attribute [local go_sem] ba_at hexl_at

set_option maxHeartbeats 400000 in
theorem isPlain_any (n : Int) (w : World) :
    Calls Tryd.prog 52 #[.int .u8 n] w fun e w' => e = .returned (.bool (plainI n)) ∧ w = w' := by
  go_enter Tryd.func52, Tryd.ntmps52
  go_wp2
  all_goals go_ret
  all_goals exact ⟨ret_bool (by rw [Bool.eq_iff_iff]; simp [plainI]; omega), rfl⟩

set_option maxHeartbeats 400000 in
theorem plain_any (n : Int) (w : World) :
    Calls Tryd.prog 59 #[.int .u8 n] w fun e w' => e = .returned (.bool (plainI n)) ∧ w = w' := by
  go_enter Tryd.func59, Tryd.ntmps59
  go_wp2
  all_goals go_ret
  all_goals exact ⟨ret_bool (by rw [Bool.eq_iff_iff]; simp [plainI]; omega), rfl⟩

theorem infoU8 : (Tryd.prog.info? 5).map (fun i => (i.zero, i.size, i.bytes)) = some (some (.int .u8 0), 1, 1) := by kernel_rfl
theorem copyCheck_any (B b : Nat) (v : Value) (bs : List Value) (w : World) (h : Bld 36 5 B b v bs w) :
    Calls Tryd.prog 21 #[.pointer (some ⟨b, 0, none⟩)] w fun e w' => e = .returned (.tuple #[]) ∧ w'.heap[b]? = some (.cells #[.pointer (some ⟨b, 0, none⟩), v] 36 (0, 0)) ∧ Bld 36 5 B b v bs w' ∧ Hid (∀ k, k ≠ b → w'.heap[k]? = w.heap[k]?) ∧ Below B w w' := by
  have h' := h
  obtain ⟨hB, ⟨p, hp, hbk⟩, hown, hne⟩ := h
  have hlt : b < w.heap.size := (Array.getElem?_eq_some_iff.1 hbk).1
  have c0 : w.cell? ⟨b, 0, none⟩ = some p := by rw [Lib.cell_of_heap hbk]; rfl
  have f0 : w.frozen? ⟨b, 0, none⟩ = false := Lib.frozen_of_heap hbk 0
  rcases hp with rfl | rfl
  · refine (Tryd.copyCheck_fresh b w c0 (by simp [World.shape?, hbk]) f0).mono ?_
    rintro e w' ⟨rfl, rfl⟩
    have hb' : (w.setCell ⟨b, 0, none⟩ (.pointer (some ⟨b, 0, none⟩))).heap[b]? = some (.cells #[.pointer (some ⟨b, 0, none⟩), v] 36 (0, 0)) := by
      simp only [World.setCell, Array.getElem?_modify, hbk]
      simp
    have ho : ∀ k, k ≠ b → (w.setCell ⟨b, 0, none⟩ (.pointer (some ⟨b, 0, none⟩))).heap[k]? = w.heap[k]? := fun k hk => Below.heap_setCell w _ _ k hk
    refine ⟨rfl, hb', ⟨hB, ⟨_, .inr rfl, hb'⟩, ?_, hne⟩, ho, (Below.refl B w).setCell (p := ⟨b, 0, none⟩) hB _⟩
    refine ⟨hown.1, ?_⟩
    rcases hown.2 with h | ⟨g, cap, cur, fz, q1, q2, q3, q4⟩
    · exact .inl h
    · exact .inr ⟨g, cap, cur, fz, q1, q2, (ho g (fun e => hne (by rw [q1, e]; rfl))).trans q3, q4⟩
  · refine (Tryd.copyCheck_used b w c0).mono ?_
    rintro e w' ⟨rfl, rfl⟩
    exact ⟨rfl, hbk, h', fun _ _ => rfl, Below.refl B _⟩

set_option maxHeartbeats 2000000 in
set_option maxRecDepth 100000 in
theorem WriteByte_any (B b : Nat) (v : Value) (bs : List Value) (c : Int) (w : World) (h : Bld 36 5 B b v bs w) (hlen : bs.length + 1 ≤ 140737488355328) (hBw : B ≤ w.heap.size) :
    Calls Tryd.prog 24 #[.pointer (some ⟨b, 0, none⟩), .int .u8 c] w fun e w' => e = .returned .nilIface ∧ ∃ v', Bld 36 5 B b v' (bs ++ [.int .u8 c]) w' ∧ Go.Proofs.YtgcccpmcbjfaaaaDoor.Aside b v w w' ∧ Fresh v v' w ∧ Below B w w' := by
  obtain ⟨i0, hi, hz0, hz1, hz2⟩ := info_parts infoU8
  go_enter Tryd.func24, Tryd.ntmps24
  go_wp2_with (go_at_call 21; refine (copyCheck_any B b v bs _ h).mono ?_)
  rintro e w1 ⟨rfl, hbk, ⟨hB, _, hown, hne⟩, ho1, hb1⟩
  have c0 : w1.cell? ⟨b, 0, none⟩ = some (.pointer (some ⟨b, 0, none⟩)) := by rw [Lib.cell_of_heap hbk]; rfl
  have c1 : w1.cell? ⟨b, 1, none⟩ = some v := by rw [Lib.cell_of_heap hbk]; rfl
  have hlt : b < w1.heap.size := (Array.getElem?_eq_some_iff.1 hbk).1
  go_wp2_with (at_builtin; refine wpList_append_ownX _ rfl _ _ 34 rfl B 5 i0 (.int .u8 0) 1 1 Tryd.underlying34 hi hz0 hz1 hz2 rfl (by decide) _ _ _ rfl (hown.alloc _) ⟨w1.heap.size, 0, none⟩ 1 1 [.int .u8 c] rfl rfl ?c1 ?c2 ?c3 ?c4 ?c5 ?_)
  case c1 =>
    intro j u hj
    match j, hj with
    | 0, hj => simp at hj; subst hj; simp [Addr.add]
  case c2 => intro u hu; simp at hu; subst hu; rfl
  case c3 => unfold maxLen; omega
  case c4 => omega
  case c5 => have := hb1.size; simp; omega
  intro v' w2 hown' hgrow hfr
  have hb2 : w2.heap[b]? = some (.cells #[.pointer (some ⟨b, 0, none⟩), v] 36 (0, 0)) := by
    rw [hgrow.block b (by simp; omega) (fun e => hne e.symm), Lib.alloc_old w1 _ b hlt]
    exact hbk
  have d0 : w2.cell? ⟨b, 0, none⟩ = some (.pointer (some ⟨b, 0, none⟩)) := by rw [Lib.cell_of_heap hb2]; rfl
  have d1 : w2.cell? ⟨b, 1, none⟩ = some v := by rw [Lib.cell_of_heap hb2]; rfl
  have f1 : w2.frozen? ⟨b, 1, none⟩ = false := Lib.frozen_of_heap hb2 1
  obtain ⟨g, cap, rfl⟩ : ∃ g cap, v' = .slice (some ⟨g, 0, none⟩) (bs.length + 1) cap := by
    rcases hown'.2 with ⟨_, h0⟩ | ⟨g, cap, cur, fz, hv, _⟩
    · omega
    · exact ⟨g, cap, hv⟩
  go_wp2
  go_ret
  refine ⟨rfl, _, Bld.put hB (.inr rfl) hb2 (by simpa using hown') (by decide), ?_, ?_, ?_⟩
  · intro k hk hkb hkv
    rw [Below.heap_setCell w2 _ _ k hkb, hgrow.block k (by have := hb1.size; simp; omega) (fun e => hkv e.symm), Lib.alloc_old w1 _ k (by have := hb1.size; omega)]
    exact ho1.out k hkb
  · rcases hfr with h | ⟨g', h, h2⟩
    · exact .inl h
    · exact .inr ⟨g', h, by have := hb1.size; omega⟩
  · exact ((hb1.alloc (by have := hb1.size; omega) _).grown hgrow (by have := hb1.size; simp; omega) (fun k hk => (hown.lt k hk).1)).setCell (p := ⟨b, 1, none⟩) hB _


end Go.Proofs.YtgcccpmcbjfaaaaDoor

/- The plain Quote of the reference, walked: what it returns is the plain function quote of the text. -/
namespace Go.Proofs.YtgcccpmcbjfaaaaDoor
open Q Go.RowKit Go.Proofs.YtgcccpmcbjfaaaaDoor
attribute [local go_sem] ba_at hexl_at

set_option maxHeartbeats 2000000 in
set_option maxRecDepth 100000 in
theorem refQuote_any (l : List UInt8) (w : World) (hl : l.length ≤ 1099511627776) :
    Calls Tryd.prog 45 #[.string ⟨l.toArray⟩] w fun e w' => e = .returned (.string ⟨(quote l).toArray⟩) ∧ Below w.heap.size w w' := by
  obtain ⟨i0, hi, hz0, hz1, hz2⟩ := info_parts infoU8
  go_enter Tryd.func45, Tryd.ntmps45
  go_wp2
  go_loopw [3, 4] (fun out i wr => ∃ (k : Nat) (acc : List UInt8), k ≤ l.length ∧ i = .int .i64 k ∧ wr.ownsRowF w.heap.size 5 1 out acc.length (Lib.byteCells acc) ∧ Below w.heap.size w wr ∧ acc ++ qbody (l.drop k) = [34] ++ qbody l ∧ acc.length ≤ 3 * k + 1) (fun _ i _ => l.length - (intOf i).toNat)
  case atStart =>
    refine ⟨0, [34], Nat.zero_le _, rfl, ?_, (Below.refl _ w).alloc (Nat.le_refl _) _, rfl, by simp⟩
    exact ⟨rfl, .inr ⟨w.heap.size, 1, _, (0, 0), rfl, Nat.le_refl _, _root_.Go.heap_alloc_new w _, by simp, by simp, by simp [maxLen], rfl, rfl⟩⟩
  case round =>
    obtain ⟨k, acc, hk, rfl, hown, hbr, hacc, hal⟩ := hrel
    by_cases hlt : k < l.length
    · have hdk : l.drop k = l[k] :: l.drop (k + 1) := List.drop_eq_getElem_cons hlt
      have HD : Hid (acc ++ (q1 l[k] ++ qbody (l.drop (k + 1))) = [34] ++ qbody l) := by
        rw [hdk] at hacc
        exact hacc
      clear hacc hdk
      have hx : l[k].toNat < 256 := (l[k]).toNat_lt
      go_wp2_with fail
      refine (plain_any _ _).mono ?_
      rintro e w' ⟨rfl, rfl⟩
      cases hpl : plainI l[k].toNat
      · have HP : Hid (q1 l[k] = [92, hexc (l[k].toNat / 16), hexc (l[k].toNat % 16)]) := by
          show q1 l[k] = _
          simp [q1, hpl]
        have hw1 : IntKind.u8.wrap ((l[k].toNat : Int) / 16) = (l[k].toNat : Int) / 16 := wrap_u8 (by omega) (by omega)
        have hw2 : ((l[k].toNat : Int)).tmod 16 = (l[k].toNat : Int) % 16 := Int.tmod_eq_emod_of_nonneg (by omega)
        have hd1 : ((l[k].toNat : Int) / 16) < 16 := by omega
        have hd2 : ((l[k].toNat : Int) % 16) < 16 := by omega
        have hd3 : 0 ≤ ((l[k].toNat : Int) / 16) := by omega
        have hd4 : 0 ≤ ((l[k].toNat : Int) % 16) := by omega
        have e1 : ((l[k].toNat : Int) / 16).toNat = l[k].toNat / 16 := by omega
        have e2 : ((l[k].toNat : Int) % 16).toNat = l[k].toNat % 16 := by omega
        go_wp2_with fail
        go_region_law (refine step_append_ownX rfl (.tmp 22) (.tmp 33) 34 rfl w.heap.size 5 i0 (.int .u8 0) 1 1 Tryd.underlying34 hi hz0 hz1 hz2 rfl (by decide) u3 acc.length (Lib.byteCells acc) (by simp [Act.eval]) (hown.alloc _) ⟨wr.heap.size, 0, none⟩ 3 3 [.int .u8 92, .int .u8 (hexc (l[k].toNat / 16)).toNat, .int .u8 (hexc (l[k].toNat % 16)).toNat] (by simp [Act.eval]) rfl (new_cells _ _ _) (by simp [Value.oneCell']) (by unfold maxLen; omega) (by omega) (by have := hbr.size; simp; omega) ?_; intro v' w2 hown' hgrow hfr)
        all_goals
          go_wp2
          go_roundw
          case rel =>
            refine ⟨k + 1, acc ++ [92, hexc (l[k].toNat / 16), hexc (l[k].toNat % 16)], by omega, by go_num, ?_, (hbr.drew.alloc hbr.size _).grown hgrow (by have := hbr.size; simp; omega) (fun j hj => (hown.lt j hj).1), by rw [← HD.out, HP.out]; simp, by simp; omega⟩
            rw [Lib.byteCells_append]
            simpa [Lib.byteCells] using hown'
          case measure => simp [intOf]; omega
      · have HP : Hid (q1 l[k] = [l[k]]) := by
          show q1 l[k] = _
          simp [q1, hpl]
        go_wp2_with (at_builtin; refine wpList_append_ownX _ rfl _ _ 34 rfl w.heap.size 5 i0 (.int .u8 0) 1 1 Tryd.underlying34 hi hz0 hz1 hz2 rfl (by decide) _ _ _ rfl (hown.alloc _) ⟨wr.heap.size, 0, none⟩ 1 1 [.int .u8 (l[k].toNat : Int)] rfl rfl (new_cells _ _ _) (one_cell _ _) ?c3 ?c4 ?c5 ?_)
        case c3 => unfold maxLen; omega
        case c4 => omega
        case c5 => have := hbr.size; simp; omega
        intro v' w2 hown' hgrow hfr
        go_wp2
        go_roundw
        case rel => exact ⟨k + 1, acc ++ [l[k]], by omega, by go_num, by rw [byteCells_snoc]; simpa using hown', (hbr.alloc hbr.size _).grown hgrow (by have := hbr.size; simp; omega) (fun j hj => (hown.lt j hj).1), by rw [← HD.out, HP.out]; simp, by simp; omega⟩
        case measure => simp [intOf]; omega
    · have HD : Hid (acc = [34] ++ qbody l) := by
        have e : l.drop k = [] := List.drop_eq_nil_of_le (by omega)
        rw [e] at hacc
        show acc = _
        simpa [qbody] using hacc
      clear hacc
      go_wp2_with (at_builtin; refine wpList_append_ownX _ rfl _ _ 34 rfl w.heap.size 5 i0 (.int .u8 0) 1 1 Tryd.underlying34 hi hz0 hz1 hz2 rfl (by decide) _ _ _ rfl (hown.alloc _) ⟨wr.heap.size, 0, none⟩ 1 1 [.int .u8 34] rfl rfl (new_cells _ _ _) (one_cell _ _) ?c3 ?c4 ?c5 ?_)
      case c3 => unfold maxLen; omega
      case c4 => omega
      case c5 => have := hbr.size; simp; omega
      intro v' w2 hown' hgrow hfr
      have hcs := conv_string (P := Tryd.prog) w2 34 9 5 w.heap.size v' (acc ++ [34]) Tryd.underlying34 Tryd.underlying5 Tryd.underlying9 (by rw [byteCells_snoc]; simpa using hown')
      go_wp2
      go_ret
      rw [HD.out]
      exact ⟨rfl, (hbr.alloc hbr.size _).grown hgrow (by have := hbr.size; simp; omega) (fun j hj => (hown.lt j hj).1)⟩
end Go.Proofs.YtgcccpmcbjfaaaaDoor

/- The append of a text onto an owned row of bytes, with the place of the new row told; what a writer leaves as it was. Of no program. -/
namespace Go.Proofs.YtgcccpmcbjfaaaaDoor
open Go.RowKit Go.Proofs.YtgcccpmcbjfaaaaDoor Go.Lib

section
variable {P : Program} (w : World)
theorem run_append_strX (base : Nat) (t u ty e : TypeId) (i : TypeInfo) (ht : P.underlying t = some (.slice e)) (hu : P.underlying u = some .string) (hi : P.info? e = some i) (hz : i.zero = some (.int .u8 0))
    (hsize : i.size = 1) (hby : i.bytes = 1)
    (v : Value) (n : Nat) (xs : List Value) (hown : w.ownsRowF base e 1 v n xs) (s : ByteArray)
    (h63 : n + s.size ≤ maxLen) (hbytes : n + s.size ≤ 140737488355328) (hbase : base ≤ w.heap.size) :
    ∃ v' w', (Builtin.append_ #[t, u] ty #[v, .string s]).run P w = .ok v' w' ∧ w'.ownsRowF base e 1 v' (n + s.size) (xs ++ strCells s) ∧ w.grownBy w' v.ownBlock ∧
      (v'.ownBlock = v.ownBlock ∨ ∃ g, v'.ownBlock = some g ∧ w.heap.size ≤ g) := by
  rcases hown.2 with ⟨rfl, rfl⟩ | ⟨g, cap, cur, fz, rfl, hbg, hg, hfz, hnc, hcm, hcs, htake⟩
  · obtain ⟨v', w', r1, r2, r3, r4⟩ := run_append_own_string (P := P) w w.heap.size t u ty e i ht hu hi hz hsize hby (.slice none 0 0) 0 xs ⟨hown.1, .inl ⟨rfl, rfl⟩⟩ s h63 hbytes (Nat.le_refl _)
    have r5 := World.ownsRowF_of r2
    refine ⟨v', w', r1, ⟨r5.1, ?_⟩, r3, ?_⟩
    · rcases r5.2 with h | ⟨g, cap, cur, fz, q1, q2, q3⟩
      · exact .inl h
      · exact .inr ⟨g, cap, cur, fz, q1, by omega, q3⟩
    · rcases r5.2 with ⟨h, _⟩ | ⟨g, cap, cur, fz, q1, q2, q3⟩
      · exact .inl (by rw [h])
      · exact .inr ⟨g, by rw [q1]; rfl, q2⟩
  · have hsmall : n + s.size ≤ 9223372036854775807 := by simp only [maxLen] at h63; omega
    have hxl : xs.length = n := by simpa using hown.1
    have hlen : (xs ++ strCells s).length = (n + s.size) * 1 := by rw [List.length_append, hxl, strCells_length, Nat.mul_one]
    by_cases hroom : n + s.size ≤ cap
    · have hcs' : cur.size = cap := by simpa using hcs
      have hr := run_append_room_stringF (P := P) w t u ty e i ht hu hi hsize g n cap cur fz hg (by simpa using hfz) s hroom (by omega)
      refine ⟨_, _, hr, ⟨hlen, .inr ⟨g, cap, _, fz, rfl, hbg, setRow_heap w g cur _ e _ hg, by omega, hroom, hcm, ?_, ?_⟩⟩, ⟨rfl, rfl, rfl, by simp, fun k _ hk => setRow_other w g k _ (fun e => hk (by simp [Value.ownBlock, e]))⟩, .inl rfl⟩
      · simp only [List.size_toArray, List.length_append, List.length_take, List.length_drop, Array.length_toList, strCells_length]
        omega
      · have ht' : cur.toList.take n = xs := by simpa using htake
        rw [ht', ← hlen]
        exact List.take_left
    · have holds : ∀ j u, xs[j]? = some u → w.cell? ((⟨g, 0, none⟩ : Addr).add j) = some u := hown.cells (g := g) rfl
      have hr := run_append_grow_string (P := P) w t u ty e i (.int .u8 0) ht hu hi hz ⟨g, 0, none⟩ n cap xs (by rw [hsize]; simpa using hxl) holds s (by omega) (by omega) (by rw [hby]; exact growslice_fits (by omega) (by omega))
      have hge := grownCap_ge w (n + s.size) cap e
      have hcm2 : grownCap w (n + s.size) cap e ≤ maxLen := grownCap_le_maxLen w (n + s.size) cap e h63
      refine ⟨_, _, hr, ⟨hlen, .inr ⟨w.heap.size, _, _, (0, 0), rfl, hbase, _root_.Go.heap_alloc_new w.drew _, Nat.zero_le _, hge, hcm2, ?_, ?_⟩⟩, ⟨rfl, rfl, rfl, by simp, fun k hk _ => Below.heap_alloc w.drew _ k hk⟩, .inr ⟨_, rfl, Nat.le_refl _⟩⟩
      · have hz1 : (Value.int IntKind.u8 0).cells.size = 1 := rfl
        simp only [Array.size_append, List.size_toArray, size_zeroCells, hz1, hxl, strCells_length]
        omega
      · simp only [Array.toList_append, List.append_assoc]
        rw [← List.append_assoc, ← hlen]
        exact List.take_left

theorem wpList_append_strX {ops : Array Oper} {rest : List Oper} {o : Oper} {a : Act} {Q : Exit → Act → World → Prop} (hgd : o.guard = none) (sl x : Operand) (t u : TypeId)
    (ho : o.op = .call { callee := .builtin .append, args := #[sl, x], argTypes := #[t, u] })
    (base : Nat) (e : TypeId) (i : TypeInfo) (ht : P.underlying t = some (.slice e)) (hu : P.underlying u = some .string) (hi : P.info? e = some i) (hz : i.zero = some (.int .u8 0))
    (hsize : i.size = 1) (hby : i.bytes = 1)
    (v : Value) (n : Nat) (xs : List Value) (hs : a.eval sl = v) (hown : w.ownsRowF base e 1 v n xs) (s : ByteArray) (hx : a.eval x = .string s)
    (h63 : n + s.size ≤ maxLen) (hbytes : n + s.size ≤ 140737488355328) (hbase : base ≤ w.heap.size)
    (h : ∀ v' w', w'.ownsRowF base e 1 v' (n + s.size) (xs ++ strCells s) → w.grownBy w' v.ownBlock → (v'.ownBlock = v.ownBlock ∨ ∃ g, v'.ownBlock = some g ∧ w.heap.size ≤ g) → wpList P ops Q rest (a.put o.dst v') w') : wpList P ops Q (o :: rest) a w := by
  refine wpList_plain hgd fun K hK => ?_
  obtain ⟨v', w', hr, h2, h3, h4⟩ := run_append_strX (P := P) w base t u o.type e i ht hu hi hz hsize hby v n xs hown s h63 hbytes hbase
  unfold Oper.wp execOp
  simp only [ho, resolve, invoke, builtin, Sem.run_bind, Sem.run_pure, Result.andThen_ok, List.map_toArray, List.map_cons, List.map_nil, hs, hx, hr]
  exact hK _ _ (h v' w' h2 h3 h4)
end
/-- a writer of the builder in block b, whose buffer was v and is v': all else is as it was -/
structure Wr (B b : Nat) (v v' : Value) (w w' : World) : Prop where
  aside : Go.Proofs.YtgcccpmcbjfaaaaDoor.Aside b v w w'
  fresh : Fresh v v' w
  below : Below B w w'
theorem Wr.refl (B b : Nat) (v : Value) (w : World) : Wr B b v v w w := ⟨fun _ _ _ _ => rfl, .inl rfl, Below.refl B w⟩
theorem Wr.trans {B b : Nat} {v v1 v2 : Value} {w w1 w2 : World} (h : Wr B b v v1 w w1) (h' : Wr B b v1 v2 w1 w2) : Wr B b v v2 w w2 := by
  have hsz := h.below.size
  have hn : ∀ k, k < w.heap.size → v.ownBlock ≠ some k → v1.ownBlock ≠ some k := by
    intro k hk hv
    rcases h.fresh with q | ⟨g, q, hg⟩
    · rw [q]; exact hv
    · rw [q]
      intro e
      have := Option.some.inj e
      omega
  refine ⟨fun k hk hb hv => (h'.aside k (by omega) hb (hn k hk hv)).trans (h.aside k hk hb hv), ?_, h.below.trans h'.below⟩
  rcases h'.fresh with q | ⟨g, q, hg⟩
  · rcases h.fresh with q2 | ⟨g, q2, hg⟩
    · exact .inl (q.trans q2)
    · exact .inr ⟨g, q.trans q2, hg⟩
  · exact .inr ⟨g, q, by omega⟩
/-- what does not touch the builder, in the middle -/
theorem Wr.low {B b : Nat} {v : Value} {w w1 : World} (h : Below w.heap.size w w1) (hB : B ≤ w.heap.size) : Wr B b v v w w1 := ⟨fun k hk _ _ => h.block k hk, .inl rfl, h.mono hB⟩
theorem Wr.size {B b : Nat} {v v' : Value} {w w' : World} (h : Wr B b v v' w w') : w.heap.size ≤ w'.heap.size := h.below.size
/-- a block that is neither the builder's nor its buffer's -/
def Off (k : Nat) (b : Nat) (v : Value) : Prop := k ≠ b ∧ v.ownBlock ≠ some k
theorem Wr.block {B b : Nat} {v v' : Value} {w w' : World} (h : Wr B b v v' w w') {k : Nat} {o : Obj} (hk : w.heap[k]? = some o) (ho : Off k b v) : w'.heap[k]? = some o ∧ Off k b v' := by
  have hlt : k < w.heap.size := (Array.getElem?_eq_some_iff.1 hk).1
  refine ⟨(h.aside k hlt ho.1 ho.2).trans hk, ho.1, ?_⟩
  rcases h.fresh with q | ⟨g, q, hg⟩
  · rw [q]; exact ho.2
  · rw [q]
    intro e
    have := Option.some.inj e
    omega
end Go.Proofs.YtgcccpmcbjfaaaaDoor

/- A strings.Builder that lies in a block of whatever type, alone or embedded: its copy check, and how bytes and texts are written into it, walked. -/
namespace Go.Proofs.YtgcccpmcbjfaaaaDoor
open Go.RowKit Go.Proofs.YtgcccpmcbjfaaaaDoor

theorem cwU8 : (Tryd.prog.info? 5).map (fun i => (i.zero, i.size, i.bytes)) = some (some (.int .u8 0), 1, 1) := by kernel_rfl
theorem cwBs : (Tryd.prog.info? 36).map (·.size) = some 2 := by kernel_rfl
/-- a builder lies at the head of a block of type T -/
def LaysB (T : TypeId) : Prop := liesAt Tryd.prog Tryd.prog.depth T (2 / Tryd.prog.cellsOf T) 0 36 1 = true ∧ T ≠ 5
theorem lays_b : LaysB 36 := ⟨by kernel_rfl, by decide⟩
set_option maxHeartbeats 1000000 in
set_option maxRecDepth 100000 in
theorem ccheck_fresh {T : TypeId} (hT : LaysB T) (b : Nat) (w : World) (h0 : w.cell? ⟨b, 0, none⟩ = some (.pointer none)) (hsh : w.shape? b = some (T, 2)) (hfz : w.frozen? ⟨b, 0, none⟩ = false) :
    Calls Tryd.prog 21 #[.pointer (some ⟨b, 0, none⟩)] w fun e w' => e = .returned (.tuple #[]) ∧ w' = w.setCell ⟨b, 0, none⟩ (.pointer (some ⟨b, 0, none⟩)) := by
  obtain ⟨j, hj, hjs⟩ := Option.map_eq_some_iff.1 cwBs
  go_enter Tryd.func21, Tryd.ntmps21
  go_wp2
  rw [Lib.run_to_unsafe w ⟨b, 0, none⟩ Tryd.underlying33 Tryd.underlying65 hj (by rw [hjs]; decide) hsh (Nat.zero_lt_succ 1)]
  simp only [Result.andThen]
  rw [Oper.upon_value]
  go_wp2
  rw [run_callFunc_extern Tryd.func38 (by kernel_rfl) (by kernel_rfl) (by kernel_rfl) (e := Extern.AbiNoEscape.same) (by kernel_rfl)]
  rw [Lib.run_noEscape]
  simp only [Result.andThen]
  rw [Oper.upon_value]
  go_wp2
  rw [Lib.run_from_unsafe w ⟨b, 0, none⟩ Tryd.underlying65 Tryd.underlying33 hj hsh hT.1]
  simp only [Result.andThen]
  rw [Oper.upon_value]
  go_wp2
  go_end0
  exact ⟨rfl, rfl⟩
theorem ccheck_any {T : TypeId} (hT : LaysB T) (B b : Nat) (v : Value) (bs : List Value) (w : World) (h : Bld T 5 B b v bs w) :
    Calls Tryd.prog 21 #[.pointer (some ⟨b, 0, none⟩)] w fun e w' => e = .returned (.tuple #[]) ∧ w'.heap[b]? = some (.cells #[.pointer (some ⟨b, 0, none⟩), v] T (0, 0)) ∧ Bld T 5 B b v bs w' ∧ Hid (∀ k, k ≠ b → w'.heap[k]? = w.heap[k]?) ∧ Below B w w' := by
  have h' := h
  obtain ⟨hB, ⟨p, hp, hbk⟩, hown, hne⟩ := h
  have hlt : b < w.heap.size := (Array.getElem?_eq_some_iff.1 hbk).1
  have c0 : w.cell? ⟨b, 0, none⟩ = some p := by rw [Lib.cell_of_heap hbk]; rfl
  have f0 : w.frozen? ⟨b, 0, none⟩ = false := Lib.frozen_of_heap hbk 0
  rcases hp with rfl | rfl
  · refine (ccheck_fresh hT b w c0 (by simp [World.shape?, hbk]) f0).mono ?_
    rintro e w' ⟨rfl, rfl⟩
    have hb' : (w.setCell ⟨b, 0, none⟩ (.pointer (some ⟨b, 0, none⟩))).heap[b]? = some (.cells #[.pointer (some ⟨b, 0, none⟩), v] T (0, 0)) := by
      simp only [World.setCell, Array.getElem?_modify, hbk]
      simp
    have ho : ∀ k, k ≠ b → (w.setCell ⟨b, 0, none⟩ (.pointer (some ⟨b, 0, none⟩))).heap[k]? = w.heap[k]? := fun k hk => Below.heap_setCell w _ _ k hk
    refine ⟨rfl, hb', ⟨hB, ⟨_, .inr rfl, hb'⟩, ?_, hne⟩, ho, (Below.refl B w).setCell (p := ⟨b, 0, none⟩) hB _⟩
    refine ⟨hown.1, ?_⟩
    rcases hown.2 with h | ⟨g, cap, cur, fz, q1, q2, q3, q4⟩
    · exact .inl h
    · exact .inr ⟨g, cap, cur, fz, q1, q2, (ho g (fun e => hne (by rw [q1, e]; rfl))).trans q3, q4⟩
  · refine (Tryd.copyCheck_used b w c0).mono ?_
    rintro e w' ⟨rfl, rfl⟩
    exact ⟨rfl, hbk, h', fun _ _ => rfl, Below.refl B _⟩
set_option maxHeartbeats 2000000 in
set_option maxRecDepth 100000 in
theorem cByte_f {T : TypeId} (hT : LaysB T) (B b : Nat) (v : Value) (bs : List Value) (c : Int) (w : World) (h : Bld T 5 B b v bs w) (hlen : bs.length + 1 ≤ 140737488355328) (hBw : B ≤ w.heap.size) :
    Calls Tryd.prog 24 #[.pointer (some ⟨b, 0, none⟩), .int .u8 c] w fun e w' => e = .returned .nilIface ∧ ∃ v', Bld T 5 B b v' (bs ++ [.int .u8 c]) w' ∧ Wr B b v v' w w' := by
  obtain ⟨i0, hi, hz0, hz1, hz2⟩ := info_parts cwU8
  go_enter Tryd.func24, Tryd.ntmps24
  go_wp2_with (go_at_call 21; refine (ccheck_any hT B b v bs _ h).mono ?_)
  rintro e w1 ⟨rfl, hbk, ⟨hB, _, hown, hne⟩, ho1, hb1⟩
  have c0 : w1.cell? ⟨b, 0, none⟩ = some (.pointer (some ⟨b, 0, none⟩)) := by rw [Lib.cell_of_heap hbk]; rfl
  have c1 : w1.cell? ⟨b, 1, none⟩ = some v := by rw [Lib.cell_of_heap hbk]; rfl
  have hlt : b < w1.heap.size := (Array.getElem?_eq_some_iff.1 hbk).1
  go_wp2_with (at_builtin; refine wpList_append_ownX _ rfl _ _ 34 rfl B 5 i0 (.int .u8 0) 1 1 Tryd.underlying34 hi hz0 hz1 hz2 rfl (by decide) _ _ _ rfl (hown.alloc _) ⟨w1.heap.size, 0, none⟩ 1 1 [.int .u8 c] rfl rfl ?c1 ?c2 ?c3 ?c4 ?c5 ?_)
  case c1 =>
    intro j u hj
    match j, hj with
    | 0, hj => simp at hj; subst hj; simp [Addr.add]
  case c2 => intro u hu; simp at hu; subst hu; rfl
  case c3 => unfold maxLen; omega
  case c4 => omega
  case c5 => have := hb1.size; simp; omega
  intro v' w2 hown' hgrow hfr
  have hb2 : w2.heap[b]? = some (.cells #[.pointer (some ⟨b, 0, none⟩), v] T (0, 0)) := by
    rw [hgrow.block b (by simp; omega) (fun e => hne e.symm), Lib.alloc_old w1 _ b hlt]
    exact hbk
  have d0 : w2.cell? ⟨b, 0, none⟩ = some (.pointer (some ⟨b, 0, none⟩)) := by rw [Lib.cell_of_heap hb2]; rfl
  have d1 : w2.cell? ⟨b, 1, none⟩ = some v := by rw [Lib.cell_of_heap hb2]; rfl
  have f1 : w2.frozen? ⟨b, 1, none⟩ = false := Lib.frozen_of_heap hb2 1
  obtain ⟨g, cap, rfl⟩ : ∃ g cap, v' = .slice (some ⟨g, 0, none⟩) (bs.length + 1) cap := by
    rcases hown'.2 with ⟨_, h0⟩ | ⟨g, cap, cur, fz, hv, _⟩
    · omega
    · exact ⟨g, cap, hv⟩
  go_wp2
  go_ret
  refine ⟨rfl, _, Bld.put hB (.inr rfl) hb2 (by simpa using hown') hT.2, ?_, ?_, ?_⟩
  · intro k hk hkb hkv
    rw [Below.heap_setCell w2 _ _ k hkb, hgrow.block k (by have := hb1.size; simp; omega) (fun e => hkv e.symm), Lib.alloc_old w1 _ k (by have := hb1.size; omega)]
    exact ho1.out k hkb
  · rcases hfr with h | ⟨g', h, h2⟩
    · exact .inl h
    · exact .inr ⟨g', h, by have := hb1.size; omega⟩
  · exact ((hb1.alloc (by have := hb1.size; omega) _).grown hgrow (by have := hb1.size; simp; omega) (fun k hk => (hown.lt k hk).1)).setCell (p := ⟨b, 1, none⟩) hB _
set_option maxHeartbeats 2000000 in
set_option maxRecDepth 100000 in
theorem cStr_f {T : TypeId} (hT : LaysB T) (B b : Nat) (v : Value) (bs : List Value) (s : List UInt8) (w : World) (h : Bld T 5 B b v bs w) (hlen : bs.length + s.length ≤ 140737488355328) (hBw : B ≤ w.heap.size) :
    Calls Tryd.prog 10 #[.pointer (some ⟨b, 0, none⟩), .string ⟨s.toArray⟩] w fun e w' => e = .returned (.tuple #[.int .i64 s.length, .nilIface]) ∧ ∃ v', Bld T 5 B b v' (bs ++ Lib.byteCells s) w' ∧ Wr B b v v' w w' := by
  obtain ⟨i0, hi, hz0, hz1, hz2⟩ := info_parts cwU8
  go_enter Tryd.func10, Tryd.ntmps10
  go_wp2_with (go_at_call 21; refine (ccheck_any hT B b v bs _ h).mono ?_)
  rintro e w1 ⟨rfl, hbk, ⟨hB, _, hown, hne⟩, ho1, hb1⟩
  have c0 : w1.cell? ⟨b, 0, none⟩ = some (.pointer (some ⟨b, 0, none⟩)) := by rw [Lib.cell_of_heap hbk]; rfl
  have c1 : w1.cell? ⟨b, 1, none⟩ = some v := by rw [Lib.cell_of_heap hbk]; rfl
  have hlt : b < w1.heap.size := (Array.getElem?_eq_some_iff.1 hbk).1
  go_wp2_with (at_builtin; refine wpList_append_strX _ rfl _ _ 34 9 rfl B 5 i0 Tryd.underlying34 Tryd.underlying9 hi hz0 hz1 hz2 _ _ _ rfl hown ⟨s.toArray⟩ rfl ?c3 ?c4 ?c5 ?_)
  case c3 => unfold maxLen; show bs.length + s.length ≤ _; omega
  case c4 => show bs.length + s.length ≤ _; omega
  case c5 => have := hb1.size; omega
  intro v' w2 hown' hgrow hfr
  have hb2 : w2.heap[b]? = some (.cells #[.pointer (some ⟨b, 0, none⟩), v] T (0, 0)) := by
    rw [hgrow.block b hlt (fun e => hne e.symm)]
    exact hbk
  have d0 : w2.cell? ⟨b, 0, none⟩ = some (.pointer (some ⟨b, 0, none⟩)) := by rw [Lib.cell_of_heap hb2]; rfl
  have d1 : w2.cell? ⟨b, 1, none⟩ = some v := by rw [Lib.cell_of_heap hb2]; rfl
  have f1 : w2.frozen? ⟨b, 1, none⟩ = false := Lib.frozen_of_heap hb2 1
  obtain ⟨ao, n', cap, rfl⟩ : ∃ ao n' cap, v' = .slice ao n' cap := by
    rcases hown'.2 with ⟨hv, _⟩ | ⟨g, cap, cur, fz, hv, _⟩
    · exact ⟨_, _, _, hv⟩
    · exact ⟨_, _, _, hv⟩
  have hlen2 : (bs ++ Lib.byteCells s).length = bs.length + s.length := by rw [List.length_append, Lib.byteCells_length]
  go_wp2
  go_ret2
  refine ⟨rfl, _, Bld.put hB (.inr rfl) hb2 (by rw [hlen2]; exact hown') hT.2, ?_, ?_, ?_⟩
  · intro k hk hkb hkv
    rw [Below.heap_setCell w2 _ _ k hkb, hgrow.block k (by have := hb1.size; omega) (fun e => hkv e.symm)]
    exact ho1.out k hkb
  · rcases hfr with h | ⟨g', h, h2⟩
    · exact .inl h
    · exact .inr ⟨g', h, by have := hb1.size; omega⟩
  · exact (hb1.grown hgrow (by have := hb1.size; omega) (fun k hk => (hown.lt k hk).1)).setCell (p := ⟨b, 1, none⟩) hB _
set_option maxHeartbeats 2000000 in
set_option maxRecDepth 100000 in
theorem cString_f {T : TypeId} (B b : Nat) (v : Value) (l : List UInt8) (h0 : l ≠ []) (w : World) (h : Bld T 5 B b v (Lib.byteCells l) w) :
    Calls Tryd.prog 13 #[.pointer (some ⟨b, 0, none⟩)] w fun e w' => e = .returned (.string ⟨l.toArray⟩) ∧ Below B w w' := by
  obtain ⟨hB, ⟨p, hp, hbk⟩, hown, hne⟩ := h
  have hl0 : l.length ≠ 0 := by simpa using h0
  rw [Lib.byteCells_length] at hown
  obtain ⟨g, cap, cur, fz, rfl, hbg, hg, hfz, hnc, hcm, hcs, htake⟩ : ∃ g cap cur fz, v = .slice (some ⟨g, 0, none⟩) l.length cap ∧ B ≤ g ∧ w.heap[g]? = some (.cells cur 5 fz) ∧ fz.2 ≤ l.length * 1 ∧ l.length ≤ cap ∧ cap ≤ maxLen ∧ cur.size = cap * 1 ∧ cur.toList.take (l.length * 1) = Lib.byteCells l := by
    rcases hown.2 with ⟨_, hz⟩ | ⟨g, cap, cur, fz, hv, r⟩
    · exact absurd hz hl0
    · exact ⟨g, cap, cur, fz, hv, r⟩
  have c1 : w.drew.cell? ⟨b, 1, none⟩ = some (.slice (some ⟨g, 0, none⟩) l.length cap) := by
    have : w.drew.heap[b]? = some (.cells #[p, .slice (some ⟨g, 0, none⟩) l.length cap] T (0, 0)) := hbk
    rw [Lib.cell_of_heap this]; rfl
  have hSD : (Builtin.unsafeSliceData_ #[34] 54 #[.slice (some ⟨g, 0, none⟩) l.length cap]).run Tryd.prog w.drew = .ok (.pointer (some ⟨g, 0, none⟩)) w.drew :=
    Lib.run_unsafeSliceData_row _ _ _ _ _ _ (by omega)
  have hUS : (Builtin.unsafeString_ #[54, 3] 9 #[.pointer (some ⟨g, 0, none⟩), .int .i64 l.length]).run Tryd.prog w.drew = .ok (.string ⟨l.toArray⟩) (w.drew.freeze ⟨g, 0, none⟩ l.length) := by
    refine Lib.run_unsafeString_row w.drew 54 3 9 5 Tryd.underlying54 (by kernel_rfl) g cur.size (by have hg' : w.drew.heap[g]? = some (.cells cur 5 fz) := hg; simp [World.shape?, hg']) l h0 (by omega) (by unfold maxLen at hcm; omega) ?_
    intro j x hx
    have := hown.cells (g := g) rfl j (.int .u8 x.toNat) (by simp [Lib.byteCells, hx])
    exact this
  have HF : Hid (Below B w (w.drew.freeze ⟨g, 0, none⟩ l.length)) := Lib.below_freeze (Below.drew (Below.refl B w)) (p := ⟨g, 0, none⟩) hbg _
  clear hfz htake hown hg
  have mixed : Tryd.prog.follows Departure.mixedOrders = true := by kernel_rfl
  go_enter Tryd.func13, Tryd.ntmps13
  go_wp2
  go_region_o
  all_goals (go_wp2; go_ret; exact ⟨rfl, HF.out⟩)
end Go.Proofs.YtgcccpmcbjfaaaaDoor

/- num.Quote, walked: what it returns is the plain function 'quote' of the text. -/
namespace Go.Proofs.YtgcccpmcbjfaaaaDoor
open Q Go.RowKit Go.Proofs.YtgcccpmcbjfaaaaDoor

set_option maxHeartbeats 2000000 in
set_option maxRecDepth 100000 in
theorem Quote_any (l : List UInt8) (w : World) (hl : l.length ≤ 1099511627776) :
    Calls Tryd.prog 41 #[.string ⟨l.toArray⟩] w fun e w' => e = .returned (.string ⟨(quote l).toArray⟩) ∧ Below w.heap.size w w' := by
  go_enter Tryd.func41, Tryd.ntmps41
  go_wp2_with fail
  refine (WriteByte_any w.heap.size w.heap.size (.slice none 0 0) [] 34 _ (Bld.fresh 36 5 w) (by simp) (by simp)).mono ?_
  rintro e w1 ⟨rfl, v1, hB1, ha1, hf1, hb1⟩
  obtain ⟨cap, C, fz, w2, hcv, hR, hC, hb2, hlt2⟩ := conv_bytes (P := Tryd.prog) w1 9 34 5 l Tryd.underlying9 Tryd.underlying34 Tryd.underlying5
  have hB2 := hB1.kept (below_all hb2)
  have hRb : Beside w1.heap.size (.cells C 5 fz) w.heap.size v1 w2 := ⟨hR, by have := hB1.lt; omega, by
    intro e
    have := (hB1.2.2.1.lt _ e).2
    omega⟩
  have hbw : Below w.heap.size w w2 := (((Below.refl _ w).alloc (Nat.le_refl _) _).trans hb1).trans (hb2.mono (by have := hb1.size; simp at this; omega))
  generalize hRR : w1.heap.size = R at *
  have HR : Hid (w1.heap.size = R) := hRR
  clear hRR
  go_wp2
  go_loopw [10] (fun i wr => ∃ (k : Nat) (acc : List UInt8) (v : Value), k ≤ l.length ∧ i = .int .i64 k ∧ Bld 36 5 w.heap.size w.heap.size v (Lib.byteCells acc) wr ∧ Beside R (.cells C 5 fz) w.heap.size v wr ∧ Below w.heap.size w wr ∧ acc ++ qbody (l.drop k) = [34] ++ qbody l ∧ acc.length ≤ 3 * k + 1) (fun i _ => l.length - (intOf i).toNat)
  case atStart => exact ⟨0, [34], v1, Nat.zero_le _, rfl, hB2, hRb, hbw, rfl, by simp⟩
  case round =>
    obtain ⟨k, acc, v, hk, rfl, hB, hR', hbr, hacc, hal⟩ := hrel
    by_cases hlt : k < l.length
    · have hc := (hR'.cell k).trans (hC k hlt)
      have hdk : l.drop k = l[k] :: l.drop (k + 1) := List.drop_eq_getElem_cons hlt
      have HD : Hid (acc ++ (q1 l[k] ++ qbody (l.drop (k + 1))) = [34] ++ qbody l) := by
        rw [hdk] at hacc
        exact hacc
      clear hacc hdk
      generalize l[k] = x at *
      have hx : x.toNat < 256 := x.toNat_lt
      go_wp2_with fail
      refine (isPlain_any _ _).mono ?_
      rintro e w' ⟨rfl, rfl⟩
      cases hpl : plainI x.toNat
      · have HP : Hid (q1 x = [92, hexc (x.toNat / 16), hexc (x.toNat % 16)]) := by
          show q1 x = _
          simp [q1, hpl]
        go_wp2_with fail
        refine (WriteByte_any w.heap.size w.heap.size v _ 92 _ hB (by rw [Lib.byteCells_length]; omega) (by have := hbr.size; omega)).mono ?_
        rintro e w3 ⟨rfl, v3, hB3, ha3, hf3, hb3⟩
        go_wp2_with fail
        rw [hex_at]
        refine (WriteByte_any w.heap.size w.heap.size v3 _ _ _ hB3 (by simp [Lib.byteCells_length]; omega) (by have := hbr.size; have := hb3.size; omega)).mono ?_
        rintro e w4 ⟨rfl, v4, hB4, ha4, hf4, hb4⟩
        go_wp2_with fail
        rw [hex_at]
        refine (WriteByte_any w.heap.size w.heap.size v4 _ _ _ hB4 (by simp [Lib.byteCells_length]; omega) (by have := hbr.size; have := hb3.size; have := hb4.size; omega)).mono ?_
        rintro e w5 ⟨rfl, v5, hB5, ha5, hf5, hb5⟩
        go_wp2
        go_roundw
        case rel =>
          refine ⟨k + 1, acc ++ [92, hexc (x.toNat / 16), hexc (x.toNat % 16)], v5, by omega, by go_num, ?_, ((hR'.step ha3 hf3).step ha4 hf4).step ha5 hf5, ((hbr.trans hb3).trans hb4).trans hb5, by rw [← HD.out, HP.out]; simp, by simp; omega⟩
          have e : Lib.byteCells (acc ++ [92, hexc (x.toNat / 16), hexc (x.toNat % 16)]) = Lib.byteCells acc ++ [.int .u8 92] ++ [.int .u8 (hexc (x.toNat / 16)).toNat] ++ [.int .u8 (hexc (x.toNat % 16)).toNat] := by
            rw [Lib.byteCells_append]; simp [Lib.byteCells]
          rw [e]
          exact hB5
        case measure => simp [intOf]; omega
      · have HP : Hid (q1 x = [x]) := by
          show q1 x = _
          simp [q1, hpl]
        go_wp2_with fail
        refine (WriteByte_any w.heap.size w.heap.size v _ _ _ hB (by rw [Lib.byteCells_length]; omega) (by have := hbr.size; omega)).mono ?_
        rintro e w3 ⟨rfl, v3, hB3, ha3, hf3, hb3⟩
        go_wp2
        go_roundw
        case rel => exact ⟨k + 1, acc ++ [x], v3, by omega, by go_num, by rw [Lib.byteCells_append]; exact hB3, hR'.step ha3 hf3, hbr.trans hb3, by rw [← HD.out, HP.out]; simp, by simp; omega⟩
        case measure => simp [intOf]; omega
    · have HD : Hid (acc = [34] ++ qbody l) := by
        have e : l.drop k = [] := List.drop_eq_nil_of_le (by omega)
        rw [e] at hacc
        show acc = _
        simpa [qbody] using hacc
      clear hacc
      go_wp2_with fail
      refine (WriteByte_any w.heap.size w.heap.size v _ 34 _ hB (by rw [Lib.byteCells_length]; omega) (by have := hbr.size; omega)).mono ?_
      rintro e w3 ⟨rfl, v3, hB3, ha3, hf3, hb3⟩
      go_wp2_with fail
      have hB4 : Bld 36 5 w.heap.size w.heap.size v3 (Lib.byteCells (acc ++ [34])) w3 := by rw [Lib.byteCells_append]; exact hB3
      refine (Tryd.Builder_String_any_k w.heap.size w.heap.size _ _ hB4.isF (by have := hbr.size; have := hb3.size; omega)).mono ?_
      rintro e w4 ⟨rfl, _, hb4, _⟩
      go_wp2
      go_ret
      rw [HD.out]
      exact ⟨rfl, (hbr.trans hb3).trans hb4⟩
end Go.Proofs.YtgcccpmcbjfaaaaDoor

/- Plain facts on texts as lists of bytes: their lines, whether lines are right, the first byte in which two texts differ, a line without its line feed. -/
namespace Go.Proofs.YtgcccpmcbjfaaaaDoor.Ln
open Go

/-- the lines of a text -/
def splitL : List UInt8 → List (List UInt8)
  | [] => []
  | c :: t => if c = 10 then [c] :: splitL t else match splitL t with
    | [] => [[c]]
    | x :: r => (c :: x) :: r

theorem split_cut (a b : List UInt8) (h : ∀ c ∈ a, c ≠ 10) : splitL (a ++ 10 :: b) = (a ++ [10]) :: splitL b := by
  induction a with
  | nil => simp [splitL]
  | cons c a ih =>
    have hc : c ≠ 10 := h c (by simp)
    have := ih fun x hx => h x (by simp [hx])
    simp only [List.cons_append, splitL, hc, if_false, this]

theorem split_one (a : List UInt8) (h : ∀ c ∈ a, c ≠ 10) (h0 : a ≠ []) : splitL a = [a] := by
  induction a with
  | nil => exact absurd rfl h0
  | cons c a ih =>
    have hc : c ≠ 10 := h c (by simp)
    cases a with
    | nil => simp [splitL, hc]
    | cons d a =>
      have := ih (fun x hx => h x (by simp [hx])) (by simp)
      simp only [splitL, hc, if_false] at this ⊢
      rw [this]

theorem split_join (l : List UInt8) : (splitL l).flatten = l := by
  induction l with
  | nil => rfl
  | cons c t ih =>
    unfold splitL
    by_cases hc : c = 10
    · simp [hc, ih]
    · simp only [hc, if_false]
      cases hs : splitL t with
      | nil => rw [hs] at ih; simp at ih; simp [← ih]
      | cons x r => rw [hs] at ih; simp at ih; simp [ih]

theorem split_len (l : List UInt8) : (splitL l).length ≤ l.length := by
  induction l with
  | nil => simp [splitL]
  | cons c t ih =>
    unfold splitL
    by_cases hc : c = 10
    · simp [hc]; omega
    · simp only [hc, if_false]
      cases hs : splitL t with
      | nil => simp
      | cons x r => rw [hs] at ih; simp at ih ⊢; omega

theorem split_nil {l : List UInt8} (h : splitL l = []) : l = [] := by
  have := split_join l
  rw [h] at this
  simpa using this.symm

/-- whether a text is a line; the last one may lack its line feed -/
def lineB : List UInt8 → Bool → Bool
  | [], _ => false
  | [c], last => last || c == 10
  | c :: d :: t, last => c != 10 && lineB (d :: t) last

def checkB : List (List UInt8) → Bool
  | [] => true
  | s :: t => lineB s t.isEmpty && checkB t

/-- what Check tells -/
def checkE (l : List (List UInt8)) : Int := if checkB l then 0 else 6

theorem lineB_cons (c : UInt8) (x : List UInt8) (last : Bool) (hx : x ≠ []) : lineB (c :: x) last = (c != 10 && lineB x last) := by
  cases x with
  | nil => exact absurd rfl hx
  | cons d t => rfl

theorem lineB_ne {x : List UInt8} {last : Bool} (h : lineB x last = true) : x ≠ [] := by rintro rfl; cases h

theorem lineB_false {x : List UInt8} (h : lineB x false = true) : ∃ a, x = a ++ [10] ∧ ∀ c ∈ a, c ≠ 10 := by
  induction x with
  | nil => cases h
  | cons c t ih =>
    cases t with
    | nil => exact ⟨[], by simpa [lineB] using h, by simp⟩
    | cons d t =>
      simp only [lineB, Bool.and_eq_true, bne_iff_ne] at h
      obtain ⟨a, ha, hn⟩ := ih h.2
      refine ⟨c :: a, by rw [ha]; rfl, ?_⟩
      intro x hx
      simp only [List.mem_cons] at hx
      rcases hx with rfl | hx
      · exact h.1
      · exact hn x hx

theorem lineB_true {x : List UInt8} (h : lineB x true = true) : lineB x false = true ∨ ∀ c ∈ x, c ≠ 10 := by
  induction x with
  | nil => cases h
  | cons c t ih =>
    cases t with
    | nil =>
      by_cases hc : c = 10
      · exact .inl (by simp [lineB, hc])
      · exact .inr (by simpa using hc)
    | cons d t =>
      simp only [lineB, Bool.and_eq_true, bne_iff_ne] at h
      rcases ih h.2 with h2 | h2
      · exact .inl (by simp only [lineB, Bool.and_eq_true, bne_iff_ne]; exact ⟨h.1, h2⟩)
      · refine .inr ?_
        intro x hx
        simp only [List.mem_cons] at hx
        rcases hx with rfl | hx
        · exact h.1
        · exact h2 x (by simpa using hx)

theorem split_right (l : List UInt8) : checkB (splitL l) = true := by
  induction l with
  | nil => rfl
  | cons c t ih =>
    unfold splitL
    by_cases hc : c = 10
    · simp [hc, checkB, lineB, ih]
    · simp only [hc, if_false]
      cases hs : splitL t with
      | nil => simp [checkB, lineB]
      | cons x r =>
        rw [hs] at ih
        simp only [checkB, Bool.and_eq_true] at ih ⊢
        rw [lineB_cons c x _ (lineB_ne ih.1)]
        simp [hc, ih.1, ih.2]

/-- right lines are the lines of the text that they make -/
theorem right_split (ws : List (List UInt8)) (h : checkB ws = true) : splitL ws.flatten = ws := by
  induction ws with
  | nil => rfl
  | cons x r ih =>
    simp only [checkB, Bool.and_eq_true] at h
    have hr := ih h.2
    cases r with
    | nil =>
      simp only [List.flatten_cons, List.flatten_nil, List.append_nil]
      rcases lineB_true (by simpa using h.1) with h1 | h1
      · obtain ⟨a, rfl, hn⟩ := lineB_false h1
        rw [split_cut a [] hn]; rfl
      · exact split_one x h1 (lineB_ne h.1)
    | cons y r =>
      obtain ⟨a, rfl, hn⟩ := lineB_false (by simpa using h.1)
      rw [List.flatten_cons, List.append_assoc]
      rw [show a ++ ([10] ++ (y :: r).flatten) = a ++ 10 :: (y :: r).flatten from rfl, split_cut a _ hn, hr]

theorem index_none {l : List UInt8} {c : UInt8} (h : Lib.indexByte l c < 0) : Lib.indexByte l c = -1 ∧ ∀ x ∈ l, x ≠ c := by
  induction l with
  | nil => exact ⟨rfl, by simp⟩
  | cons b l ih =>
    unfold Lib.indexByte at h ⊢
    by_cases hb : (b == c) = true
    · rw [if_pos hb] at h; simp at h
    · rw [if_neg hb] at h ⊢
      by_cases h1 : (Lib.indexByte l c == -1) = true
      · rw [if_pos h1]
        have h2 := ih (by simp at h1; omega)
        refine ⟨rfl, ?_⟩
        intro x hx
        simp only [List.mem_cons] at hx
        rcases hx with rfl | hx
        · simpa using hb
        · exact h2.2 x hx
      · rw [if_neg h1] at h
        have := Lib.indexByte_ge l c
        simp at h1
        omega

theorem index_some {l : List UInt8} {c : UInt8} (h : 0 ≤ Lib.indexByte l c) : ∃ a b, l = a ++ c :: b ∧ (∀ x ∈ a, x ≠ c) ∧ Lib.indexByte l c = a.length := by
  induction l with
  | nil => simp [Lib.indexByte] at h
  | cons d l ih =>
    unfold Lib.indexByte at h ⊢
    by_cases hb : (d == c) = true
    · have : d = c := by simpa using hb
      subst this
      rw [if_pos hb]
      exact ⟨[], l, rfl, by simp, rfl⟩
    · rw [if_neg hb] at h ⊢
      by_cases h1 : (Lib.indexByte l c == -1) = true
      · rw [if_pos h1] at h; simp at h
      · rw [if_neg h1] at h ⊢
        have := Lib.indexByte_ge l c
        obtain ⟨a, b, e1, e2, e3⟩ := ih (by simp at h1; omega)
        refine ⟨d :: a, b, by rw [e1]; rfl, ?_, by rw [e3]; simp⟩
        intro x hx
        simp only [List.mem_cons] at hx
        rcases hx with rfl | hx
        · simpa using hb
        · exact e2 x hx

theorem lineB_all {x : List UInt8} (h : ∀ c ∈ x, c ≠ 10) (last : Bool) : lineB x last = (last && !x.isEmpty) := by
  induction x with
  | nil => simp [lineB]
  | cons c t ih =>
    cases t with
    | nil =>
      have : c ≠ 10 := h c (by simp)
      simp [lineB, this]
    | cons d t =>
      rw [lineB, ih fun x hx => h x (by simp [hx])]
      have : c ≠ 10 := h c (by simp)
      simp [this]

theorem lineB_cut {a b : List UInt8} (h : ∀ c ∈ a, c ≠ 10) (last : Bool) : lineB (a ++ 10 :: b) last = b.isEmpty := by
  induction a with
  | nil =>
    cases b with
    | nil => simp [lineB]
    | cons d b => simp [lineB]
  | cons c a ih =>
    have hc : c ≠ 10 := h c (by simp)
    rw [List.cons_append, lineB_cons _ _ _ (by simp), ih fun x hx => h x (by simp [hx])]
    simp [hc]

/-- how many bytes at their fronts two texts have alike -/
def commonN : List UInt8 → List UInt8 → Nat
  | x :: a, y :: b => if x = y then commonN a b + 1 else 0
  | _, _ => 0

theorem common_le (a b : List UInt8) : commonN a b ≤ a.length ∧ commonN a b ≤ b.length := by
  induction a generalizing b with
  | nil => cases b <;> simp [commonN]
  | cons x a ih =>
    cases b with
    | nil => simp [commonN]
    | cons y b =>
      have := ih b
      unfold commonN
      split <;> simp <;> omega

theorem common_comm (a b : List UInt8) : commonN a b = commonN b a := by
  induction a generalizing b with
  | nil => cases b <;> rfl
  | cons x a ih =>
    cases b with
    | nil => rfl
    | cons y b =>
      unfold commonN
      by_cases h : x = y
      · rw [if_pos h, if_pos h.symm, ih b]
      · rw [if_neg h, if_neg (fun e => h e.symm)]

theorem common_take (a b : List UInt8) : a.take (commonN a b) = b.take (commonN a b) := by
  induction a generalizing b with
  | nil => cases b <;> simp [commonN]
  | cons x a ih =>
    cases b with
    | nil => simp [commonN]
    | cons y b =>
      unfold commonN
      by_cases h : x = y
      · rw [if_pos h, List.take_succ_cons, List.take_succ_cons, ih b, h]
      · rw [if_neg h]; rfl

theorem common_ne (a b : List UInt8) (h1 : commonN a b < a.length) (h2 : commonN a b < b.length) : a[commonN a b] ≠ b[commonN a b] := by
  induction a generalizing b with
  | nil => simp at h1
  | cons x a ih =>
    cases b with
    | nil => simp at h2
    | cons y b =>
      by_cases h : x = y
      · have e : commonN (x :: a) (y :: b) = commonN a b + 1 := by simp [commonN, h]
        simp only [e, List.length_cons] at h1 h2
        have := ih b (by omega) (by omega)
        simpa [e] using this
      · have e : commonN (x :: a) (y :: b) = 0 := by simp [commonN, h]
        simpa [e] using h

theorem common_full {a b : List UInt8} (h1 : commonN a b = a.length) (h2 : commonN a b = b.length) : a = b := by
  have := common_take a b
  rw [List.take_of_length_le (by omega), List.take_of_length_le (by omega)] at this
  exact this

theorem common_self (a : List UInt8) : commonN a a = a.length := by
  induction a with
  | nil => rfl
  | cons x a ih => simp [commonN, ih]

/-- one step further -/
theorem common_step {a b : List UInt8} {k : Nat} (hk : k ≤ commonN a b) (ha : k < a.length) (hb : k < b.length) (he : a[k] = b[k]) : k + 1 ≤ commonN a b := by
  rcases Nat.lt_or_ge k (commonN a b) with h | h
  · exact h
  · have e : commonN a b = k := by omega
    have := common_ne a b (by omega) (by omega)
    simp only [e] at this
    exact absurd he this

theorem common_stop {a b : List UInt8} {k : Nat} (hk : k ≤ commonN a b) (ha : k < a.length) (hb : k < b.length) (he : a[k] ≠ b[k]) : commonN a b = k := by
  rcases Nat.lt_or_ge k (commonN a b) with h | h
  · have h1 := common_take a b
    have h2 : (a.take (commonN a b))[k]? = (b.take (commonN a b))[k]? := by rw [h1]
    rw [List.getElem?_take_of_lt h, List.getElem?_take_of_lt h] at h2
    simp only [ha, hb, List.getElem?_eq_getElem, Option.some.injEq] at h2
    exact absurd h2 he
  · omega

theorem common_end {a b : List UInt8} {k : Nat} (hk : k ≤ commonN a b) (h : a.length ≤ k ∨ b.length ≤ k) : commonN a b = k := by
  have := common_le a b
  omega

/-- the first byte in which two texts differ, and its line -/
def firstN (a b : List UInt8) : Nat := if a = b then 0 else commonN a b + 1
def firstL (a b : List UInt8) : Nat := if a = b then 0 else (a.take (commonN a b)).count 10 + 1
def firstB (a b : List UInt8) : Bool := !(decide (a = b))

/-- a line without its line feed -/
def feedB (s : List UInt8) : Bool := s.getLast? == some 10
def bareL (s : List UInt8) : List UInt8 := if feedB s then s.dropLast else s

/-- whole lines -/
theorem split_count (l : List UInt8) : l.count 10 = (splitL l).length - (if feedB l || l.isEmpty then 0 else 1) := by
  induction l with
  | nil => rfl
  | cons c t ih =>
    unfold splitL
    by_cases hc : c = 10
    · subst hc
      cases t with
      | nil => simp [feedB, splitL]
      | cons d t =>
        have e : feedB (10 :: d :: t) = feedB (d :: t) := by simp [feedB]
        have h1 : 0 < (splitL (d :: t)).length := by
          rcases Nat.eq_zero_or_pos (splitL (d :: t)).length with h | h
          · have := split_nil (List.eq_nil_of_length_eq_zero h); simp at this
          · exact h
        rw [e]
        simp only [List.count_cons_self, ih, if_true, List.length_cons, List.isEmpty_cons]
        split <;> omega
    · simp only [hc, if_false]
      cases t with
      | nil => simp [feedB, splitL, hc]
      | cons d t =>
        have e : feedB (c :: d :: t) = feedB (d :: t) := by simp [feedB]
        rw [e, List.count_cons_of_ne hc, ih]
        cases hs : splitL (d :: t) with
        | nil => have := split_nil hs; simp at this
        | cons x r => simp

/-- the last line has a line feed just if the text has one at its end -/
theorem split_last (l : List UInt8) (h : splitL l ≠ []) : feedB ((splitL l).getLast h) = feedB l := by
  have hj := split_join l
  have hr := split_right l
  generalize splitL l = ws at *
  subst hj
  induction ws with
  | nil => exact absurd rfl h
  | cons x r ih =>
    simp only [checkB, Bool.and_eq_true] at hr
    cases r with
    | nil => simp
    | cons y r =>
      have := ih (by simp) hr.2
      rw [List.getLast_cons (by simp), this]
      have hne : (y :: r).flatten ≠ [] := by
        simp only [checkB, Bool.and_eq_true] at hr
        have := lineB_ne hr.2.1
        simp [this]
      have e : (x :: y :: r).flatten = x ++ (y :: r).flatten := List.flatten_cons
      rw [e]
      generalize (y :: r).flatten = z at *
      unfold feedB
      rw [List.getLast?_append]
      cases hl : z.getLast? with
      | none => exact absurd (List.getLast?_eq_none_iff.1 hl) hne
      | some z => rfl

theorem split_cat (a b : List UInt8) (h : a = [] ∨ feedB a = true) : splitL (a ++ b) = splitL a ++ splitL b := by
  induction a with
  | nil => rfl
  | cons c t ih =>
    have hf : feedB (c :: t) = true := by rcases h with h | h; · cases h
                                          · exact h
    have ht : t = [] ∨ feedB t = true := by
      cases t with
      | nil => exact .inl rfl
      | cons d t => exact .inr (by simpa [feedB] using hf)
    have := ih ht
    have s1 : splitL (c :: t) = if c = 10 then [c] :: splitL t else match splitL t with | [] => [[c]] | x :: r => (c :: x) :: r := rfl
    have s2 : splitL (c :: (t ++ b)) = if c = 10 then [c] :: splitL (t ++ b) else match splitL (t ++ b) with | [] => [[c]] | x :: r => (c :: x) :: r := rfl
    rw [List.cons_append, s1, s2]
    by_cases hc : c = 10
    · simp [hc, this]
    · simp only [hc, if_false, this]
      cases hs : splitL t with
      | nil =>
        have := split_nil hs
        subst this
        simp [feedB] at hf
        exact absurd hf hc
      | cons x r => rfl

/-- the last line of the first and the first of the second are one -/
theorem split_glue (a b : List UInt8) (ha : a ≠ []) (hf : feedB a = false) (hb : b ≠ []) : ∃ p x y q, splitL a = p ++ [x] ∧ splitL b = y :: q ∧ splitL (a ++ b) = p ++ (x ++ y) :: q := by
  induction a with
  | nil => exact absurd rfl ha
  | cons c t ih =>
    cases t with
    | nil =>
      have hc : c ≠ 10 := by simpa [feedB] using hf
      cases hs : splitL b with
      | nil => exact absurd (split_nil hs) hb
      | cons y q =>
        refine ⟨[], [c], y, q, by simp [splitL, hc], rfl, ?_⟩
        rw [List.cons_append, List.nil_append]
        unfold splitL
        simp [hc, hs]
    | cons d t =>
      obtain ⟨p, x, y, q, e1, e2, e3⟩ := ih (by simp) (by simpa [feedB] using hf)
      rw [List.cons_append]
      have s1 : splitL (c :: (d :: t)) = if c = 10 then [c] :: splitL (d :: t) else match splitL (d :: t) with | [] => [[c]] | x :: r => (c :: x) :: r := rfl
      have s2 : splitL (c :: (d :: t ++ b)) = if c = 10 then [c] :: splitL (d :: t ++ b) else match splitL (d :: t ++ b) with | [] => [[c]] | x :: r => (c :: x) :: r := rfl
      rw [s1, s2, e1, e3]
      by_cases hc : c = 10
      · exact ⟨[c] :: p, x, y, q, by simp [hc], e2, by simp [hc]⟩
      · simp only [hc, if_false]
        cases p with
        | nil => exact ⟨[], c :: x, y, q, rfl, e2, rfl⟩
        | cons z p => exact ⟨(c :: z) :: p, x, y, q, rfl, e2, rfl⟩

theorem join_nil_sep (xs : List (List UInt8)) : Lib.join xs [] = xs.flatten := by
  induction xs with
  | nil => rfl
  | cons x r ih =>
    rw [Lib.join_cons]
    simp [Lib.joinTail]

theorem flatten_le {ws : List (List UInt8)} {n : Nat} (h : ∀ a ∈ ws, a.length ≤ n) : ws.flatten.length ≤ ws.length * n := by
  induction ws with
  | nil => simp
  | cons x r ih =>
    have h1 := h x (by simp)
    have h2 := ih fun a ha => h a (by simp [ha])
    simp only [List.flatten_cons, List.length_append, List.length_cons, Nat.add_mul]
    omega
end Go.Proofs.YtgcccpmcbjfaaaaDoor.Ln

/- What the code's Check of layer 11 asks of a hunk's lines is what the chapter asks; plain mathematics. -/
namespace Go.Proofs.YtgcccpmcbjfaaaaDoor
open Ln

theorem lineB_eq (s : List UInt8) (last : Bool) : lineB s last = (linB s && (last || fdB s)) := by
  induction s with
  | nil => rfl
  | cons c t ih =>
    cases t with
    | nil =>
      simp [lineB, linB, fdB]
    | cons d t =>
      have e1 : linB (c :: d :: t) = (c != 10 && linB (d :: t)) := by
        simp [linB, List.dropLast]
      have e2 : fdB (c :: d :: t) = fdB (d :: t) := by simp [fdB]
      rw [e1, e2, Bool.and_assoc, ← ih]
      rfl
/-- all signs are known -/
def allB (l : List Mk) : Bool := l.all fun m => okS m.sg
theorem pk_none {sg no : Int} (h : sg = 45 ∧ no = 43 ∨ sg = 43 ∧ no = 45) {l : List Mk} (hl : allB l = true) : (pkL no l).isEmpty = lstB sg l := by
  induction l with
  | nil => rfl
  | cons m l ih =>
    simp only [allB, List.all_cons, Bool.and_eq_true] at hl
    have ih := ih hl.2
    have hm := hl.1
    simp only [okS, Bool.or_eq_true, decide_eq_true_eq] at hm
    simp only [pkL, lstB, List.all_cons]
    have key : (m.sg ≠ no ∧ okS m.sg = true) ↔ ¬ (m.sg ≠ sg ∧ m.sg ≠ 32) := by
      constructor
      · rintro ⟨k1, _⟩ k2
        rcases h with ⟨rfl, rfl⟩ | ⟨rfl, rfl⟩ <;> omega
      · intro k
        refine ⟨fun k1 => ?_, hl.1⟩
        rcases h with ⟨rfl, rfl⟩ | ⟨rfl, rfl⟩ <;> omega
    by_cases q : m.sg ≠ sg ∧ m.sg ≠ 32
    · rw [if_neg (fun k => key.1 k q), ih, decide_eq_true q.1, decide_eq_true q.2]
      rfl
    · rw [if_pos (key.2 q)]
      have : (decide (m.sg ≠ sg) && decide (m.sg ≠ 32)) = false := by
        rw [← Bool.not_eq_true, Bool.and_eq_true, decide_eq_true_eq, decide_eq_true_eq]
        exact q
      rw [this]
      rfl
/-- the chapter's rule on lines, as the code says it -/
theorem fld_code (l : List Mk) : fldB l = (allB l && checkB (pkL 43 l) && checkB (pkL 45 l)) := by
  induction l with
  | nil => rfl
  | cons m l ih =>
    have e0 : allB (m :: l) = (okS m.sg && allB l) := rfl
    rw [e0]
    cases ha : allB l with
    | false =>
      rw [ha] at ih
      have ih : fldB l = false := by rw [ih]; rfl
      simp [fldB, ih]
    | true =>
      rw [ha] at ih
      have p1 := pk_none (.inl ⟨rfl, rfl⟩) ha
      have p2 := pk_none (.inr ⟨rfl, rfl⟩) ha
      obtain ⟨sg, tx⟩ := m
      simp only [fldB]
      rw [ih]
      by_cases h1 : sg = 32
      · subst h1
        have q1 : pkL 43 (⟨32, tx⟩ :: l) = tx :: pkL 43 l := by rw [pkL, if_pos (by dsimp only; decide)]
        have q2 : pkL 45 (⟨32, tx⟩ :: l) = tx :: pkL 45 l := by rw [pkL, if_pos (by dsimp only; decide)]
        rw [q1, q2]
        simp only [checkB, lineB_eq, p1, p2, okS]
        cases linB tx <;> cases fdB tx <;> cases lstB 45 l <;> cases lstB 43 l <;> cases checkB (pkL 43 l) <;> cases checkB (pkL 45 l) <;> rfl
      · by_cases h2 : sg = 45
        · subst h2
          have q1 : pkL 43 (⟨45, tx⟩ :: l) = tx :: pkL 43 l := by rw [pkL, if_pos (by dsimp only; decide)]
          have q2 : pkL 45 (⟨45, tx⟩ :: l) = pkL 45 l := by rw [pkL, if_neg (by dsimp only; decide)]
          rw [q1, q2]
          simp only [checkB, lineB_eq, p1, okS]
          cases linB tx <;> cases fdB tx <;> cases lstB 45 l <;> cases lstB 43 l <;> cases checkB (pkL 43 l) <;> cases checkB (pkL 45 l) <;> rfl
        · by_cases h3 : sg = 43
          · subst h3
            have q1 : pkL 43 (⟨43, tx⟩ :: l) = pkL 43 l := by rw [pkL, if_neg (by dsimp only; decide)]
            have q2 : pkL 45 (⟨43, tx⟩ :: l) = tx :: pkL 45 l := by rw [pkL, if_pos (by dsimp only; decide)]
            rw [q1, q2]
            simp only [checkB, lineB_eq, p2, okS]
            cases linB tx <;> cases fdB tx <;> cases lstB 45 l <;> cases lstB 43 l <;> cases checkB (pkL 43 l) <;> cases checkB (pkL 45 l) <;> rfl
          · have q : okS sg = false := by simp [okS, h1, h2, h3]
            simp [q]
end Go.Proofs.YtgcccpmcbjfaaaaDoor

/- Plain facts on the texts of numbers: nothing of a program. -/
namespace Go.Proofs.YtgcccpmcbjfaaaaDoor.Pn

/-- is a byte a decimal digit? -/
def digB (c : UInt8) : Bool := decide (48 ≤ c.toNat ∧ c.toNat ≤ 57)
theorem digB_mk {c : UInt8} (h : 48 ≤ c.toNat ∧ c.toNat ≤ 57) : digB c = true := decide_eq_true h
theorem digB_out {c : UInt8} (h : digB c = true) : 48 ≤ c.toNat ∧ c.toNat ≤ 57 := of_decide_eq_true h
theorem digB_no {c : UInt8} (h : digB c = false) : ¬ (48 ≤ c.toNat ∧ c.toNat ≤ 57) := of_decide_eq_false h

/-- is a text the text of a number from 0 on? -/
def isNum : List UInt8 → Bool
  | [] => false
  | c :: t => !(decide (c.toNat = 48) && !t.isEmpty) && (c :: t).all digB

/-- the number, but one above the limit if it is greater -/
def sat : Int → List UInt8 → Int
  | n, [] => n
  | n, c :: t => sat (min (n * 10 + ((c.toNat : Int) - 48)) 2147483648) t

def parseV (l : List UInt8) : Int := if isNum l = true ∧ sat 0 l ≤ 2147483647 then sat 0 l else 0
def parseE (l : List UInt8) : Int := if isNum l = true then if sat 0 l ≤ 2147483647 then 0 else 2 else 3

theorem sat_top : ∀ (l : List UInt8), l.all digB = true → sat 2147483648 l = 2147483648
  | [], _ => rfl
  | c :: t, h => by
    simp only [List.all_cons, Bool.and_eq_true] at h
    have h1 := digB_out h.1
    rw [sat]
    have e : min ((2147483648 : Int) * 10 + ((c.toNat : Int) - 48)) 2147483648 = 2147483648 := by omega
    rw [e]
    exact sat_top t h.2

theorem parse_no {l : List UInt8} (h : isNum l = false) : 0 = parseV l ∧ 3 = parseE l := by simp [parseV, parseE, h]
theorem parse_far {l : List UInt8} (h : isNum l = true) (h2 : sat 0 l = 2147483648) : 0 = parseV l ∧ 2 = parseE l := by simp [parseV, parseE, h, h2]
theorem parse_ok {l : List UInt8} (h : isNum l = true) {n : Int} (h2 : sat 0 l = n) (h3 : n ≤ 2147483647) : n = parseV l ∧ 0 = parseE l := by simp [parseV, parseE, h, h2, h3]

theorem isNum_all {l : List UInt8} (h : isNum l = true) : l.all digB = true := by
  cases l with
  | nil => simp [isNum] at h
  | cons c t => rw [isNum, Bool.and_eq_true] at h; exact h.2

theorem all_at {l : List UInt8} (h : l.all digB = true) (k : Nat) (hk : k < l.length) : 48 ≤ l[k].toNat ∧ l[k].toNat ≤ 57 :=
  digB_out (List.all_eq_true.1 h _ (List.getElem_mem hk))

theorem all_drop {l : List UInt8} (h : l.all digB = true) (k : Nat) : (l.drop k).all digB = true :=
  List.all_eq_true.2 fun x hx => List.all_eq_true.1 h x (List.mem_of_mem_drop hx)

theorem isNum_bad {l : List UInt8} (k : Nat) (hk : k < l.length) (h : ¬ (48 ≤ l[k].toNat ∧ l[k].toNat ≤ 57)) : isNum l = false := by
  cases hn : isNum l
  · rfl
  · exact absurd (all_at (isNum_all hn) k hk) h

theorem isNum_zero {c d : UInt8} {t : List UInt8} (h : c.toNat = 48) : isNum (c :: d :: t) = false := by simp [isNum, h]

theorem isNum_yes {c : UInt8} {t : List UInt8} (h : ¬ (c.toNat = 48 ∧ t ≠ [])) (ha : ∀ k (hk : k < (c :: t).length), 48 ≤ (c :: t)[k].toNat ∧ (c :: t)[k].toNat ≤ 57) : isNum (c :: t) = true := by
  rw [isNum, Bool.and_eq_true]
  refine ⟨?_, ?_⟩
  · cases t with
    | nil => simp
    | cons d t => simp at h ⊢; exact h
  · refine List.all_eq_true.2 fun x hx => ?_
    obtain ⟨k, hk, rfl⟩ := List.mem_iff_getElem.1 hx
    exact digB_mk (ha k hk)

theorem sat_step {l : List UInt8} {k : Nat} (hk : k < l.length) (n : Int) : sat n (l.drop k) = sat (min (n * 10 + ((l[k].toNat : Int) - 48)) 2147483648) (l.drop (k + 1)) := by
  rw [List.drop_eq_getElem_cons hk, sat]

end Go.Proofs.YtgcccpmcbjfaaaaDoor.Pn

/- Plain facts: what was quoted is read again; what was written as a number is read again. -/
namespace Go.Proofs.YtgcccpmcbjfaaaaDoor
open Q Pn

theorem ofNat_pair (c : UInt8) : UInt8.ofNat (pairI (hexc (c.toNat / 16)) (hexc (c.toNat % 16))).toNat = c := by
  have hc := c.toNat_lt
  have e : pairI (hexc (c.toNat / 16)) (hexc (c.toNat % 16)) = (c.toNat : Int) := by
    unfold pairI
    rw [digit_hexc _ (by omega), digit_hexc _ (by omega)]
    omega
  rw [e]
  simp

theorem pair_hexc {c : UInt8} (h : plainI c.toNat = false) : pairOk (hexc (c.toNat / 16)) (hexc (c.toNat % 16)) = true := by
  have hc := c.toNat_lt
  have e : pairI (hexc (c.toNat / 16)) (hexc (c.toNat % 16)) = (c.toNat : Int) := by
    unfold pairI
    rw [digit_hexc _ (by omega), digit_hexc _ (by omega)]
    omega
  unfold pairOk
  rw [e, h, digit_hexc _ (by omega), digit_hexc _ (by omega)]
  simp
  omega

/-- what was quoted is read again, whatever is behind it -/
theorem body_back (r : List UInt8) : ∀ l : List UInt8, body (qbody l ++ 34 :: r) = some (l, r)
  | [] => by simp only [qbody, List.flatMap_nil, List.nil_append]; exact body_end r rfl
  | c :: t => by
    have ih := body_back r t
    have e : qbody (c :: t) = q1 c ++ qbody t := by simp [qbody]
    rw [e]
    cases h : plainI c.toNat
    · have e2 : q1 c = [92, hexc (c.toNat / 16), hexc (c.toNat % 16)] := by simp [q1, h]
      rw [e2]
      show body (92 :: hexc (c.toNat / 16) :: hexc (c.toNat % 16) :: (qbody t ++ 34 :: r)) = _
      rw [body_pair _ rfl (pair_hexc h), ih, ofNat_pair]
      rfl
    · have e2 : q1 c = [c] := by simp [q1, h]
      rw [e2]
      show body (c :: (qbody t ++ 34 :: r)) = _
      rw [body_plain _ h, ih]
      rfl

theorem unquote_back (l r : List UInt8) : unquote (quote l ++ r) = some (l, r) := by
  have e : quote l ++ r = 34 :: (qbody l ++ 34 :: r) := by simp [quote]
  rw [e, unquote, if_pos (by decide)]
  exact body_back r l

theorem hexc_plain (k : Nat) (h : k < 16) : 32 ≤ (hexc k).toNat ∧ (hexc k).toNat ≤ 126 := by
  rw [hexc_val k h]; split <;> omega

/-- a quoted text holds printable bytes alone -/
theorem quote_print (l : List UInt8) : ∀ c ∈ quote l, 32 ≤ c.toNat ∧ c.toNat ≤ 126 := by
  intro c hc
  simp only [quote, List.mem_append, List.mem_cons, List.not_mem_nil, or_false] at hc
  rcases hc with (rfl | hc) | rfl
  · decide
  · simp only [qbody, List.mem_flatMap] at hc
    obtain ⟨x, _, hx⟩ := hc
    have hxl := x.toNat_lt
    unfold q1 at hx
    split at hx
    · rename_i hp
      have := plainI_out hp
      simp at hx
      subst hx
      omega
    · simp at hx
      rcases hx with rfl | rfl | rfl
      · decide
      · exact hexc_plain _ (by omega)
      · exact hexc_plain _ (by omega)
  · decide

theorem dec_all (m : Nat) : (Lib.decDigits m).all digB = true := by
  induction m using Nat.strongRecOn with
  | _ m ih =>
    rw [Lib.decDigits]
    split
    · simp [digB]; omega
    · rw [List.all_append, ih (m / 10) (by omega)]
      simp [digB]; omega

theorem dec_ne (m : Nat) : Lib.decDigits m ≠ [] := by
  rw [Lib.decDigits]; split <;> simp

theorem dec_head (m : Nat) (h : 0 < m) : ∃ c t, Lib.decDigits m = c :: t ∧ c.toNat ≠ 48 := by
  induction m using Nat.strongRecOn with
  | _ m ih =>
    rw [Lib.decDigits]
    split
    · refine ⟨_, [], rfl, ?_⟩
      simp; omega
    · obtain ⟨c, t, e, hc⟩ := ih (m / 10) (by omega) (by omega)
      exact ⟨c, t ++ [UInt8.ofNat (48 + m % 10)], by rw [e]; rfl, hc⟩

theorem dec_isNum (m : Nat) : isNum (Lib.decDigits m) = true := by
  by_cases h : m = 0
  · subst h
    rw [Lib.decDigits]; decide
  · obtain ⟨c, t, e, hc⟩ := dec_head m (by omega)
    have ha := dec_all m
    rw [e] at ha ⊢
    rw [isNum, ha]
    simp [hc]

theorem sat_append : ∀ (a b : List UInt8) (n : Int), sat n (a ++ b) = sat (sat n a) b
  | [], _, _ => rfl
  | c :: t, b, n => by rw [List.cons_append, sat, sat_append t b, sat]

theorem dec_sat (m : Nat) : sat 0 (Lib.decDigits m) = min (m : Int) 2147483648 := by
  induction m using Nat.strongRecOn with
  | _ m ih =>
    rw [Lib.decDigits]
    split
    · rename_i h
      have e : ((UInt8.ofNat (48 + m)).toNat : Int) = 48 + m := by simp only [UInt8.toNat_ofNat']; omega
      rw [sat, sat, e]; omega
    · rename_i h
      have e : ((UInt8.ofNat (48 + m % 10)).toNat : Int) = 48 + (m % 10 : Nat) := by simp only [UInt8.toNat_ofNat']; omega
      rw [sat_append, ih (m / 10) (by omega), sat, sat, e]
      omega

theorem itoa_nat (m : Nat) : Lib.itoa (m : Int) = Lib.decDigits m := by simp [Lib.itoa]

theorem parse_itoa_neg {n : Int} (h : n < 0) : parseE (Lib.itoa n) = 3 := by
  have e : isNum (Lib.itoa n) = false := by
    unfold Lib.itoa
    rw [if_pos h]
    simp [isNum, digB]
  exact (parse_no e).2.symm
theorem parse_itoa_ok {n : Int} (h : 0 ≤ n) (h2 : n ≤ 2147483647) : parseV (Lib.itoa n) = n ∧ parseE (Lib.itoa n) = 0 := by
  obtain ⟨m, rfl⟩ := Int.eq_ofNat_of_zero_le h
  rw [itoa_nat]
  have := parse_ok (dec_isNum m) (dec_sat m) (by omega)
  exact ⟨by rw [← this.1]; omega, this.2.symm⟩
theorem parse_itoa_far {n : Int} (h2 : 2147483647 < n) : parseE (Lib.itoa n) = 2 := by
  obtain ⟨m, rfl⟩ := Int.eq_ofNat_of_zero_le (show 0 ≤ n by omega)
  rw [itoa_nat]
  exact (parse_far (dec_isNum m) (by rw [dec_sat]; omega)).2.symm

end Go.Proofs.YtgcccpmcbjfaaaaDoor
