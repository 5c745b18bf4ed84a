/-
  Texts that belong together, joined: NoShelf, Itoa, NoJn, NoTx, LnMath, HuLm, Math, PMath, BackMath, NoMath, NoB, NoRf, NoCg, NoM2, NoM3, NoPr, NoLen, NoWs, NcW, PtL, NcL.
-/
import Derived.Shelf.Strings.BuilderK
import Derived.Shelf.Small.Wraps
import Derived.Shelf.Small.Strs
import Derived.Shelf.Strings.IndexAny
import Derived.Test.YtgiojkhmkeocfaaDoorProg
import Derived.Shelf.Strconv.Itoa3
import Derived.Test.YtgiojkhmkeocfaaDoorNoPriA1
import Derived.Lib.ItoaNum
import Derived.Laws.IdiomStrings
import Derived.Lib.Bytealg
import Derived.Lib.Join
import Derived.Deep.RegionHeld3
import Derived.Deep.CutBlock
import Derived.Deep.DeepCutAuto
import Derived.Test.YtgiojkhmkeocfaaDoorNoPriA2
import Derived.Lib.AppendIntMem
import Derived.Lib.FrozenHead2

/- Contracts of the library at this program: the program bears the bodies that they speak of. Taken: Builder_String_any_k, strings_HasSuffix, strings_HasPrefix, strings_TrimSuffix, strings_CutPrefix, strings_IndexByte. -/
namespace Go.Proofs
open Go.Shelf
def Tryd.lays169_ren : Go.Shelf.Ren := ⟨fun | 169 => 35 | n => n, fun | 70 => 58 | 9 => 9 | 0 => 0 | 72 => 61 | 37 => 59 | 127 => 113 | 3 => 3 | 5 => 5 | n => n, fun | n => n⟩
theorem Tryd.lays169 : Go.Proofs.Lays.n169 Tryd.prog Tryd.lays169_ren := {
  mixed := by kernel_rfl
  f169 := Tryd.func35.trans (congrArg some (by kernel_rfl))
  t0 := Tryd.underlying0
  a0 := Tryd.isAgg0
  z0 := Tryd.sizeOf0
  v0 := Tryd.zeroValue0
  t3 := Tryd.underlying3
  a3 := Tryd.isAgg3
  z3 := Tryd.sizeOf3
  v3 := Tryd.zeroValue3
  t9 := Tryd.underlying9
  a9 := Tryd.isAgg9
  z9 := Tryd.sizeOf9
  v9 := Tryd.zeroValue9
  t37 := Tryd.underlying59
  a37 := Tryd.isAgg59
  z37 := Tryd.sizeOf59
  v37 := Tryd.zeroValue59
  t70 := Tryd.underlying58
  a70 := Tryd.isAgg58
  z70 := Tryd.sizeOf58
  v70 := Tryd.zeroValue58
  t72 := Tryd.underlying61
  a72 := Tryd.isAgg61
  z72 := Tryd.sizeOf61
  v72 := Tryd.zeroValue61
  t127 := Tryd.underlying113
  a127 := Tryd.isAgg113
  z127 := Tryd.sizeOf113
  v127 := Tryd.zeroValue113 }
theorem Tryd.Builder_Extra_169 : Builder.Extra Tryd.prog Tryd.lays169_ren := {
  sizeBuilder := by kernel_rfl
  liesBuilder := by kernel_rfl
  t5 := Tryd.underlying5
  a5 := Tryd.isAgg5
  z5 := Tryd.sizeOf5
  v5 := Tryd.zeroValue5
  infoByte := by kernel_rfl
  cellsByte := by kernel_rfl
  sizeByte := by kernel_rfl
  neB5 := by decide }
def Tryd.lays137_ren : Go.Shelf.Ren := ⟨fun | 137 => 184 | 217 => 152 | 266 => 176 | n => n, fun | 9 => 9 | 5 => 5 | 3 => 3 | n => n, fun | n => n⟩
theorem Tryd.lays137 : Go.Proofs.Lays.n137 Tryd.prog Tryd.lays137_ren := {
  mixed := by kernel_rfl
  f137 := Tryd.func184.trans (congrArg some (by kernel_rfl))
  f217 := Tryd.func152.trans (congrArg some (by kernel_rfl))
  f266 := Tryd.func176.trans (congrArg some (by kernel_rfl))
  t3 := Tryd.underlying3
  a3 := Tryd.isAgg3
  z3 := Tryd.sizeOf3
  v3 := Tryd.zeroValue3
  t5 := Tryd.underlying5
  a5 := Tryd.isAgg5
  z5 := Tryd.sizeOf5
  v5 := Tryd.zeroValue5
  t9 := Tryd.underlying9
  a9 := Tryd.isAgg9
  z9 := Tryd.sizeOf9
  v9 := Tryd.zeroValue9 }
open Go.RowKit in
theorem Tryd.strings_IndexByte (s : ByteArray) (c : Int) (w : World) :
    Calls Tryd.prog 184 #[.string s, .int .u8 c] w fun e w' => e = .returned (.int .i64 (Lib.indexByte s.data.toList c.toNat.toUInt8)) ∧ w' = w := Any.strings_IndexByte Tryd.lays137 s c w
def Tryd.lays103_ren : Go.Shelf.Ren := ⟨fun | 103 => 137 | 210 => 162 | 206 => 164 | n => n, fun | 9 => 9 | 4 => 4 | 24 => 143 | 3 => 3 | n => n, fun | n => n⟩
theorem Tryd.lays103 : Go.Proofs.Lays.n103 Tryd.prog Tryd.lays103_ren := {
  mixed := by kernel_rfl
  f103 := Tryd.func137.trans (congrArg some (by kernel_rfl))
  f206 := Tryd.func164.trans (congrArg some (by kernel_rfl))
  f210 := Tryd.func162.trans (congrArg some (by kernel_rfl))
  t3 := Tryd.underlying3
  a3 := Tryd.isAgg3
  z3 := Tryd.sizeOf3
  v3 := Tryd.zeroValue3
  t4 := Tryd.underlying4
  a4 := Tryd.isAgg4
  z4 := Tryd.sizeOf4
  v4 := Tryd.zeroValue4
  t9 := Tryd.underlying9
  a9 := Tryd.isAgg9
  z9 := Tryd.sizeOf9
  v9 := Tryd.zeroValue9
  t24 := Tryd.underlying143
  a24 := Tryd.isAgg143
  z24 := Tryd.sizeOf143
  v24 := Tryd.zeroValue143 }
open Go.RowKit in
theorem Tryd.strings_CutPrefix (s p : ByteArray) (w : World) :
    Calls Tryd.prog 137 #[.string s, .string p] w fun e w' => e = .returned (.tuple #[.string ⟨(Lib.trimPrefix s.data.toList p.data.toList).toArray⟩, .bool (Lib.hasPrefix s.data.toList p.data.toList)]) ∧ w' = w := Any.strings_CutPrefix Tryd.lays103 s p w
open Go.RowKit in
theorem Tryd.Builder_String_any_k (B b : Nat) (l : List UInt8) (w : World) (h : Lib.IsBuilderF 61 5 B b (Lib.byteCells l) w) (hBw : B ≤ w.heap.size) :
    Calls Tryd.prog 35 #[.pointer (some ⟨b, 0, none⟩)] w fun e w' => e = .returned (.string ⟨l.toArray⟩) ∧ (Lib.IsBuilderF 61 5 B b (Lib.byteCells l) w' ∧ Below B w w' ∧ Lib.OthersKept 5 (some b) w w') := Any.Builder_String_any_k Tryd.lays169 Tryd.Builder_Extra_169 B b l w h hBw
def Tryd.lays99_ren : Go.Shelf.Ren := ⟨fun | 99 => 141 | 206 => 164 | n => n, fun | 9 => 9 | 4 => 4 | 3 => 3 | n => n, fun | n => n⟩
theorem Tryd.lays99 : Go.Proofs.Lays.n99 Tryd.prog Tryd.lays99_ren := {
  mixed := by kernel_rfl
  f99 := Tryd.func141.trans (congrArg some (by kernel_rfl))
  f206 := Tryd.func164.trans (congrArg some (by kernel_rfl))
  t3 := Tryd.underlying3
  a3 := Tryd.isAgg3
  z3 := Tryd.sizeOf3
  v3 := Tryd.zeroValue3
  t4 := Tryd.underlying4
  a4 := Tryd.isAgg4
  z4 := Tryd.sizeOf4
  v4 := Tryd.zeroValue4
  t9 := Tryd.underlying9
  a9 := Tryd.isAgg9
  z9 := Tryd.sizeOf9
  v9 := Tryd.zeroValue9 }
open Go.RowKit Go.Lib in
theorem Tryd.strings_HasPrefix (s p : ByteArray) (w : World) :
    Calls Tryd.prog 141 #[.string s, .string p] w fun e w' => e = .returned (.bool (Lib.hasPrefix s.data.toList p.data.toList)) ∧ w' = w := Any.strings_HasPrefix Tryd.lays99 s p w
def Tryd.lays100_ren : Go.Shelf.Ren := ⟨fun | 100 => 112 | 207 => 147 | n => n, fun | 9 => 9 | 4 => 4 | 3 => 3 | n => n, fun | n => n⟩
theorem Tryd.lays100 : Go.Proofs.Lays.n100 Tryd.prog Tryd.lays100_ren := {
  mixed := by kernel_rfl
  f100 := Tryd.func112.trans (congrArg some (by kernel_rfl))
  f207 := Tryd.func147.trans (congrArg some (by kernel_rfl))
  t3 := Tryd.underlying3
  a3 := Tryd.isAgg3
  z3 := Tryd.sizeOf3
  v3 := Tryd.zeroValue3
  t4 := Tryd.underlying4
  a4 := Tryd.isAgg4
  z4 := Tryd.sizeOf4
  v4 := Tryd.zeroValue4
  t9 := Tryd.underlying9
  a9 := Tryd.isAgg9
  z9 := Tryd.sizeOf9
  v9 := Tryd.zeroValue9 }
open Go.RowKit Go.Lib in
theorem Tryd.strings_HasSuffix (s p : ByteArray) (w : World) (hs : s.size ≤ 9223372036854775807) :
    Calls Tryd.prog 112 #[.string s, .string p] w fun e w' => e = .returned (.bool (Lib.hasSuffix s.data.toList p.data.toList)) ∧ w' = w := Any.strings_HasSuffix Tryd.lays100 s p w hs
def Tryd.lays102_ren : Go.Shelf.Ren := ⟨fun | 102 => 115 | 209 => 150 | 207 => 147 | n => n, fun | 9 => 9 | 4 => 4 | 3 => 3 | n => n, fun | n => n⟩
theorem Tryd.lays102 : Go.Proofs.Lays.n102 Tryd.prog Tryd.lays102_ren := {
  mixed := by kernel_rfl
  f102 := Tryd.func115.trans (congrArg some (by kernel_rfl))
  f207 := Tryd.func147.trans (congrArg some (by kernel_rfl))
  f209 := Tryd.func150.trans (congrArg some (by kernel_rfl))
  t3 := Tryd.underlying3
  a3 := Tryd.isAgg3
  z3 := Tryd.sizeOf3
  v3 := Tryd.zeroValue3
  t4 := Tryd.underlying4
  a4 := Tryd.isAgg4
  z4 := Tryd.sizeOf4
  v4 := Tryd.zeroValue4
  t9 := Tryd.underlying9
  a9 := Tryd.isAgg9
  z9 := Tryd.sizeOf9
  v9 := Tryd.zeroValue9 }
open Go.RowKit Go.Lib in
theorem Tryd.strings_TrimSuffix (s p : ByteArray) (w : World) (hs : s.size ≤ 9223372036854775807) :
    Calls Tryd.prog 115 #[.string s, .string p] w fun e w' => e = .returned (.string ⟨(Lib.trimSuffix s.data.toList p.data.toList).toArray⟩) ∧ w' = w := Any.strings_TrimSuffix Tryd.lays102 s p w hs
end Go.Proofs

/- Contracts of the library at this program: the program bears the bodies that they speak of. Taken: strconv_Itoa. -/
namespace Go.Proofs
open Go.Shelf
def Tryd.laysM171_ren : Go.Shelf.Ren := ⟨fun | 171 => 111 | 243 => 146 | 246 => 169 | 283 => 180 | 284 => 181 | 285 => 182 | 286 => 183 | 129 => 190 | 317 => 189 | 318 => 191 | 319 => 192 | 320 => 193 | 337 => 194 | 338 => 195 | n => n, fun | 3 => 3 | 9 => 9 | 2 => 2 | 4 => 4 | 171 => 212 | 0 => 0 | 53 => 152 | 37 => 59 | 5 => 5 | 173 => 215 | 212 => 221 | 51 => 207 | 20 => 20 | 213 => 222 | 46 => 175 | 232 => 225 | 233 => 226 | n => n, fun | 17 => 2 | 18 => 3 | 19 => 4 | n => n⟩
theorem Tryd.laysM171 : Go.Proofs.LaysM.n171 Tryd.prog Tryd.laysM171_ren := {
  mixed := by kernel_rfl
  f129 := Tryd.func190.trans (congrArg some (by kernel_rfl))
  f171 := Tryd.func111.trans (congrArg some (by kernel_rfl))
  f243 := Tryd.func146.trans (congrArg some (by kernel_rfl))
  f246 := Tryd.func169.trans (congrArg some (by kernel_rfl))
  f283 := Tryd.func180.trans (congrArg some (by kernel_rfl))
  f284 := Tryd.func181.trans (congrArg some (by kernel_rfl))
  f285 := Tryd.func182.trans (congrArg some (by kernel_rfl))
  f286 := Tryd.func183.trans (congrArg some (by kernel_rfl))
  f317 := Tryd.func189.trans (congrArg some (by kernel_rfl))
  f318 := Tryd.func191.trans (congrArg some (by kernel_rfl))
  f319 := Tryd.func192.trans (congrArg some (by kernel_rfl))
  f320 := Tryd.func193.trans (congrArg some (by kernel_rfl))
  f337 := Tryd.func194.trans (congrArg some (by kernel_rfl))
  f338 := Tryd.func195.trans (congrArg some (by kernel_rfl))
  t0 := Tryd.underlying0
  a0 := Tryd.isAgg0
  z0 := Tryd.sizeOf0
  v0 := Tryd.zeroValue0
  t2 := Tryd.underlying2
  a2 := Tryd.isAgg2
  z2 := Tryd.sizeOf2
  v2 := Tryd.zeroValue2
  t3 := Tryd.underlying3
  a3 := Tryd.isAgg3
  z3 := Tryd.sizeOf3
  v3 := Tryd.zeroValue3
  t4 := Tryd.underlying4
  a4 := Tryd.isAgg4
  z4 := Tryd.sizeOf4
  v4 := Tryd.zeroValue4
  t5 := Tryd.underlying5
  a5 := Tryd.isAgg5
  z5 := Tryd.sizeOf5
  v5 := Tryd.zeroValue5
  t9 := Tryd.underlying9
  a9 := Tryd.isAgg9
  z9 := Tryd.sizeOf9
  v9 := Tryd.zeroValue9
  t20 := Tryd.underlying20
  a20 := Tryd.isAgg20
  z20 := Tryd.sizeOf20
  v20 := Tryd.zeroValue20
  t37 := Tryd.underlying59
  a37 := Tryd.isAgg59
  z37 := Tryd.sizeOf59
  v37 := Tryd.zeroValue59
  t46 := Tryd.underlying175
  a46 := Tryd.isAgg175
  z46 := Tryd.sizeOf175
  v46 := Tryd.zeroValue175
  t51 := Tryd.underlying207
  a51 := Tryd.isAgg207
  z51 := Tryd.sizeOf207
  v51 := Tryd.zeroValue207
  t53 := Tryd.underlying152
  a53 := Tryd.isAgg152
  z53 := Tryd.sizeOf152
  v53 := Tryd.zeroValue152
  t171 := Tryd.underlying212
  a171 := Tryd.isAgg212
  z171 := Tryd.sizeOf212
  v171 := Tryd.zeroValue212
  t173 := Tryd.underlying215
  a173 := Tryd.isAgg215
  z173 := Tryd.sizeOf215
  v173 := Tryd.zeroValue215
  t212 := Tryd.underlying221
  a212 := Tryd.isAgg221
  z212 := Tryd.sizeOf221
  v212 := Tryd.zeroValue221
  t213 := Tryd.underlying222
  a213 := Tryd.isAgg222
  z213 := Tryd.sizeOf222
  t232 := Tryd.underlying225
  a232 := Tryd.isAgg225
  z232 := Tryd.sizeOf225
  v232 := Tryd.zeroValue225
  t233 := Tryd.underlying226
  a233 := Tryd.isAgg226
  z233 := Tryd.sizeOf226
  v233 := Tryd.zeroValue226
  g17 := by kernel_rfl
  g18 := by kernel_rfl
  g19 := by kernel_rfl
  i0 := by kernel_rfl
  i2 := by kernel_rfl
  i3 := by kernel_rfl
  i4 := by kernel_rfl
  i5 := by kernel_rfl
  i9 := by kernel_rfl
  i20 := by kernel_rfl
  i37 := by kernel_rfl
  i46 := by kernel_rfl
  i51 := by kernel_rfl
  i53 := by kernel_rfl
  i171 := by kernel_rfl
  i173 := by kernel_rfl
  i212 := by kernel_rfl
  i232 := by kernel_rfl
  i233 := by kernel_rfl
  m17 := by kernel_rfl
  m18 := by kernel_rfl
  m19 := by kernel_rfl }
open Go.RowKit Go.Sort Go.Lib in
theorem Tryd.strconv_Itoa (n : Int) (h0 : -9223372036854775808 ≤ n) (h1 : n ≤ 9223372036854775807) (w : World) (htab : Lib.TabIs Tryd.prog w "internal/strconv.uint64pow10" .u64 Lib.pow10Tab) :
    Calls Tryd.prog 111 #[.int .i64 n] w fun e w' => e = .returned (.string ⟨(Lib.itoa n).toArray⟩) ∧ ∃ k os, w' = grow (w.drewN k) os := Any.strconv_Itoa Tryd.laysM171 n h0 h1 w htab
end Go.Proofs

/- Two texts joined. -/
namespace Go.Proofs.YtgiojkhmkeocfaaDoor

theorem ba_join (a b : List UInt8) : ((⟨a.toArray⟩ : ByteArray) ++ (⟨b.toArray⟩ : ByteArray)) = ⟨(a ++ b).toArray⟩ := by
  apply ByteArray.ext
  simp
end Go.Proofs.YtgiojkhmkeocfaaDoor

/- The reference's text of a number, walked: the decimal digits, with a sign ahead of a negative one. -/
namespace Go.Proofs.YtgiojkhmkeocfaaDoor
open Go.RowKit

theorem tx_conv {P : Program} (src dst e : TypeId) (hs : P.underlying src = some (.slice e)) (he : P.underlying e = some (.int .u8)) (hd : P.underlying dst = some .string) (w : World) (x : Int) (h0 : 0 ≤ x) (h1 : x < 256) :
    (convert src dst (.slice (some ⟨w.heap.size, 0, none⟩) 1 1)).run P (w.alloc (.cells #[.int .u8 x] e)) = .ok (.string ⟨#[UInt8.ofNat x.toNat]⟩) (w.alloc (.cells #[.int .u8 x] e)) := by
  have hx : ((UInt8.ofNat x.toNat).toNat : Int) = x := by simp only [UInt8.toNat_ofNat']; omega
  refine run_convert_bytes_back (w.alloc (.cells #[.int .u8 x] e)) src dst e ⟨w.heap.size, 0, none⟩ 1 [UInt8.ofNat x.toNat] hs he hd ?_
  intro j hj
  have ej : j = 0 := by simpa using hj
  subst ej
  have := heap_alloc_new w (.cells #[.int .u8 x] e)
  show (w.alloc (.cells #[.int .u8 x] e)).cell? ⟨w.heap.size, 0 + 0, none⟩ = some (.int .u8 ((UInt8.ofNat x.toNat).toNat : Int))
  rw [hx]
  unfold World.cell?
  dsimp only
  rw [this]
  rfl
/-- the last digit of a number -/
def txc (m : Nat) : UInt8 := UInt8.ofNat (48 + m % 10)
/-- the digits ahead of what is written -/
def txp (m : Nat) : List UInt8 := if m = 0 then [] else Lib.decDigits m
theorem txp_step (m : Nat) (h : 0 < m) : txp m = txp (m / 10) ++ [txc m] := by
  unfold txp
  rw [if_neg (by omega), Lib.decDigits]
  by_cases h10 : m < 10
  · rw [dif_pos h10, if_pos (by omega)]
    have : m % 10 = m := by omega
    simp [txc, this]
  · rw [dif_neg h10, if_neg (by omega)]; rfl
theorem dec_txp (m : Nat) : Lib.decDigits m = txp (m / 10) ++ [txc m] := by
  by_cases h : m = 0
  · subst h; rw [Lib.decDigits]; simp [txp, txc]
  · have := txp_step m (by omega)
    rw [← this]; simp [txp, h]
theorem dec_short : ∀ (n m : Nat), m < 10 ^ (n + 1) → (Lib.decDigits m).length ≤ n + 1
  | 0, m, h => by rw [Lib.decDigits, dif_pos (by simpa using h)]; simp
  | n + 1, m, h => by
    rw [Lib.decDigits]
    split
    · simp
    · have h2 : m / 10 < 10 ^ (n + 1) := by
        rw [Nat.div_lt_iff_lt_mul (by omega), ← Nat.pow_succ]; exact h
      have := dec_short n (m / 10) h2
      simp; omega
theorem itoa_short (n : Int) (h0 : -9223372036854775808 ≤ n) (h1 : n ≤ 9223372036854775807) : (Lib.itoa n).length ≤ 21 := by
  have hal : (Lib.decDigits n.natAbs).length ≤ 20 := dec_short 19 n.natAbs (by omega)
  unfold Lib.itoa
  split
  · simp only [List.length_cons]
    omega
  · have e : n.toNat = n.natAbs := by omega
    rw [e]
    omega
set_option maxHeartbeats 1000000 in
theorem rdigits_f (m : Nat) (hm : m < 18446744073709551616) (w : World) :
    Calls Tryd.prog 113 #[.int .u64 (m : Int)] w fun e w' => e = .returned (.string ⟨(Lib.decDigits m).toArray⟩) ∧ Below w.heap.size w w' := by
  have hcv : ∀ (u : World) (k : Nat), (convert 59 9 (.slice (some ⟨u.heap.size, 0, none⟩) 1 1)).run Tryd.prog (u.alloc (.cells #[.int .u8 (48 + (k : Int) % 10)] 5)) = .ok (.string ⟨([txc k] : List UInt8).toArray⟩) (u.alloc (.cells #[.int .u8 (48 + (k : Int) % 10)] 5)) := fun u k => by
    have h := tx_conv (P := Tryd.prog) 59 9 5 Tryd.underlying59 Tryd.underlying5 Tryd.underlying9 u (48 + (k : Int) % 10) (by omega) (by omega)
    have e : (48 + (k : Int) % 10).toNat = 48 + k % 10 := by omega
    rw [e] at h
    exact h
  have HM : Hid (Lib.decDigits m = txp (m / 10) ++ [txc m]) := dec_txp m
  go_enter Tryd.func113, Tryd.ntmps113
  go_wp2
  go_loopw [0, 3] (fun n s wr => ∃ (k : Nat) (acc : List UInt8), k < 18446744073709551616 ∧ n = .int .u64 k ∧ s = .string ⟨acc.toArray⟩ ∧ Below w.heap.size w wr ∧ txp k ++ acc = Lib.decDigits m) (fun n _ _ => (intOf n).toNat)
  case atStart => exact ⟨m / 10, [txc m], by omega, by go_num, rfl, (Below.refl _ w).alloc (Nat.le_refl _) _, HM.out.symm⟩
  case round =>
    obtain ⟨k, acc, hk, rfl, rfl, hbr, hacc⟩ := hrel
    have HA : Hid (txp k ++ acc = Lib.decDigits m) := hacc
    have hal : acc.length ≤ 20 := by
      have h1 := dec_short 19 m (by omega)
      rw [← hacc, List.length_append] at h1
      omega
    clear hacc
    by_cases h0 : 0 < k
    · have HP : Hid (txp k = txp (k / 10) ++ [txc k]) := txp_step k h0
      go_wp2
      refine ⟨⟨k / 10, [txc k] ++ acc, by omega, by go_num, ?_, hbr.alloc hbr.size _, by rw [← HA.out, HP.out]; simp⟩, by simp [intOf]; omega⟩
      exact congrArg Value.string (ba_join [txc k] acc)
    · have e : k = 0 := by omega
      subst e
      go_wp2
      go_ret
      exact ⟨by have := HA.out; rw [← this]; rfl, hbr⟩
theorem tx_wrap (n : Int) (h : n < 0) (h0 : -9223372036854775808 ≤ n) : IntKind.u64.wrap (-IntKind.u64.wrap n) = (n.natAbs : Int) := by
  simp [IntKind.wrap, IntKind.bits, IntKind.signed]
  omega
set_option maxHeartbeats 1000000 in
theorem rText_f (n : Int) (h0 : -9223372036854775808 ≤ n) (h1 : n ≤ 9223372036854775807) (w : World) :
    Calls Tryd.prog 75 #[.int .i64 n] w fun e w' => e = .returned (.string ⟨(Lib.itoa n).toArray⟩) ∧ Below w.heap.size w w' := by
  by_cases hn : n < 0
  · have HI : Hid (Lib.itoa n = [45] ++ Lib.decDigits n.natAbs) := by show Lib.itoa n = _; simp [Lib.itoa, hn]
    have hal : (Lib.decDigits n.natAbs).length ≤ 20 := dec_short 19 n.natAbs (by omega)
    go_enter Tryd.func75, Tryd.ntmps75
    go_wp2_with fail
    rw [tx_wrap n hn h0]
    refine (rdigits_f n.natAbs (by omega) _).mono ?_
    rintro e w1 ⟨rfl, hb1⟩
    go_wp2
    go_ret
    exact ⟨by rw [HI.out]; exact congrArg (fun s => Ending.returned (Value.string s)) (ba_join [45] _), hb1⟩
  · obtain ⟨m, rfl⟩ := Int.eq_ofNat_of_zero_le (Int.not_lt.1 hn)
    have HI : Hid (Lib.itoa (m : Int) = Lib.decDigits m) := by show Lib.itoa (m : Int) = _; simp [Lib.itoa]
    go_enter Tryd.func75, Tryd.ntmps75
    go_wp2_with fail
    refine (rdigits_f m (by omega) _).mono ?_
    rintro e w1 ⟨rfl, hb1⟩
    go_wp2
    go_ret
    exact ⟨by rw [HI.out]; rfl, hb1⟩
end Go.Proofs.YtgiojkhmkeocfaaDoor

/- Plain facts on texts as lists of bytes: their lines, whether lines are right, the first byte in which two texts differ, a line without its line feed. -/
namespace Go.Proofs.YtgiojkhmkeocfaaDoor.Ln
open Go

end Go.Proofs.YtgiojkhmkeocfaaDoor.Ln

/- What the code's Check of layer 11 asks of a hunk's lines is what the chapter asks; plain mathematics. -/
namespace Go.Proofs.YtgiojkhmkeocfaaDoor
open Ln

end Go.Proofs.YtgiojkhmkeocfaaDoor

/- Plain facts on bytes, quoted texts and how they are read: nothing of a program. -/
namespace Go.Proofs.YtgiojkhmkeocfaaDoor.Q

/-- does a byte stand for itself? -/
def plainI (n : Int) : Bool := decide (32 ≤ n ∧ n ≤ 126 ∧ n ≠ 34 ∧ n ≠ 92)

/-- the hexadecimal digits -/
def hexl : List UInt8 := [48, 49, 50, 51, 52, 53, 54, 55, 56, 57, 97, 98, 99, 100, 101, 102]

def hexc (n : Nat) : UInt8 := hexl.getD n 0

def q1 (c : UInt8) : List UInt8 := if plainI c.toNat then [c] else [92, hexc (c.toNat / 16), hexc (c.toNat % 16)]

end Go.Proofs.YtgiojkhmkeocfaaDoor.Q

/- Plain facts on the texts of numbers: nothing of a program. -/
namespace Go.Proofs.YtgiojkhmkeocfaaDoor.Pn

end Go.Proofs.YtgiojkhmkeocfaaDoor.Pn

/- Plain facts: what was quoted is read again; what was written as a number is read again. -/
namespace Go.Proofs.YtgiojkhmkeocfaaDoor
open Q Pn

end Go.Proofs.YtgiojkhmkeocfaaDoor

/- The normal form as texts and as lines: how it is written, how it is read; plain mathematics. -/
namespace Go.Proofs.YtgiojkhmkeocfaaDoor
open Ln

/-- the mark: '\ No newline at end of file' with its line feed -/
def markT : List UInt8 := [92, 32, 78, 111, 32, 110, 101, 119, 108, 105, 110, 101, 32, 97, 116, 32, 101, 110, 100, 32, 111, 102, 32, 102, 105, 108, 101, 10]
/-- so many lines from a place on -/
def rngT (p n : Int) : List UInt8 := if n = 1 then Lib.itoa (p + 1) else Lib.itoa (p + 1) ++ 44 :: Lib.itoa (p + n)
/-- a line behind a sign, as lines -/
def lnL (ah s : List UInt8) : List (List UInt8) := if fdB s = true then [ah ++ s] else [ah ++ s ++ [10], markT]
/-- the line that says a change -/
def cmdT (c : Ch) : List UInt8 := if c.AN = 0 then Lib.itoa c.A ++ 97 :: rngT c.B c.BN else if c.BN = 0 then rngT c.A c.AN ++ 100 :: Lib.itoa c.B else rngT c.A c.AN ++ 99 :: rngT c.B c.BN
/-- the line between old and new lines -/
def sepL (c : Ch) : List (List UInt8) := if 0 < c.AN ∧ 0 < c.BN then [[45, 45, 45, 10]] else []
/-- a change, as lines -/
def chgL (a b : List (List UInt8)) (c : Ch) : List (List UInt8) := (cmdT c ++ [10]) :: ((cut a c.A c.AN).flatMap (lnL [60, 32]) ++ (sepL c ++ (cut b c.B c.BN).flatMap (lnL [62, 32])))
/-- an edit script, as lines, and as a text -/
def prtL (l : List Ch) (a b : List (List UInt8)) : List (List UInt8) := l.flatMap (chgL a b)
def prtT (l : List Ch) (a b : List (List UInt8)) : List UInt8 := (prtL l a b).flatten

end Go.Proofs.YtgiojkhmkeocfaaDoor

/- The reference's Bare, walked: a line without its line feed. -/
namespace Go.Proofs.YtgiojkhmkeocfaaDoor
open Go.RowKit
attribute [local go_sem] ByteArray.extract_mk

theorem no_at (l : List UInt8) (k : Nat) (h : k < (⟨l.toArray⟩ : ByteArray).size) : (⟨l.toArray⟩ : ByteArray)[k]'h = l[k]'(h) := rfl
attribute [local go_sem] no_at
/-- a line without its line feed -/
def bareT (s : List UInt8) : List UInt8 := if fdB s = true then s.dropLast else s
theorem bareT_yes {l : List UInt8} (h0 : 0 < l.length) (h : l[l.length - 1] = 10) : bareT l = l.take (l.length - 1) ∧ fdB l = true := by
  have hf : fdB l = true := by unfold fdB; rw [List.getLast?_eq_getElem?, List.getElem?_eq_getElem (by omega), h]; rfl
  exact ⟨by rw [bareT, hf, List.dropLast_eq_take]; rfl, hf⟩
theorem bareT_no {l : List UInt8} (h0 : 0 < l.length) (h : l[l.length - 1] ≠ 10) : bareT l = l ∧ fdB l = false := by
  have hf : fdB l = false := by unfold fdB; rw [List.getLast?_eq_getElem?, List.getElem?_eq_getElem (by omega)]; simpa using h
  exact ⟨by rw [bareT, hf]; rfl, hf⟩
set_option maxHeartbeats 400000 in
theorem rBare_f (l : List UInt8) (w : World) (hl : l.length ≤ 9223372036854775807) :
    Calls Tryd.prog 102 #[.string ⟨l.toArray⟩] w fun e w' => e = .returned (.tuple #[.string ⟨(bareT l).toArray⟩, .bool (fdB l)]) ∧ w = w' := by
  rcases Nat.eq_zero_or_pos l.length with h0 | h0
  · obtain rfl := List.eq_nil_of_length_eq_zero h0
    go_enter Tryd.func102, Tryd.ntmps102
    go_wp2
    go_ret2
    exact ⟨rfl, rfl⟩
  · have hn : ((l.length : Int) == 0) = false := beq_eq_false_iff_ne.2 (by omega)
    have hi : (((l.length : Int) - 1).toNat) = l.length - 1 := by omega
    have i1 : 0 ≤ (l.length : Int) - 1 := by omega
    have i2 : (l.length : Int) - 1 < (l.length : Int) := by omega
    have i3 : (l.length : Int) - 1 ≤ (l.length : Int) := by omega
    by_cases h : l[l.length - 1] = 10
    · obtain ⟨e1, e2⟩ := bareT_yes h0 h
      rw [e1, e2]
      have hb : ((l[l.length - 1].toNat : Int) != 10) = false := by rw [h]; rfl
      go_enter Tryd.func102, Tryd.ntmps102
      go_wp2
      go_ret2
      exact ⟨rfl, rfl⟩
    · obtain ⟨e1, e2⟩ := bareT_no h0 h
      rw [e1, e2]
      have hb : ((l[l.length - 1].toNat : Int) != 10) = true := (by
        rw [bne_iff_ne]
        intro hq
        exact h (UInt8.toNat_inj.1 (by show _ = 10; omega)))
      go_enter Tryd.func102, Tryd.ntmps102
      go_wp2
      go_ret2
      exact ⟨rfl, rfl⟩
end Go.Proofs.YtgiojkhmkeocfaaDoor

/- The reference's small functions of the normal form's writing, walked: a range of lines, a line behind a sign. -/
namespace Go.Proofs.YtgiojkhmkeocfaaDoor
open Go.RowKit
attribute [local go_sem] ByteArray.extract_mk no_at

set_option maxHeartbeats 1000000 in
theorem rRange_f (p n : Int) (h0 : 0 ≤ p) (h1 : p ≤ 4611686018427387904) (h2 : 0 ≤ n) (h3 : n ≤ 4611686018427387900) (w : World) :
    Calls Tryd.prog 76 #[.int .i64 p, .int .i64 n] w fun e w' => e = .returned (.string ⟨(rngT p n).toArray⟩) ∧ Below w.heap.size w w' := by
  by_cases hn : n = 1
  · have HT : Hid (Lib.itoa (p + 1) = rngT p n) := (by show _ = _; unfold rngT; rw [if_pos hn])
    have e1 : (n == 1) = true := by rw [hn]; rfl
    go_enter Tryd.func76, Tryd.ntmps76
    go_wp2_with fail
    refine (rText_f (p + 1) (by omega) (by omega) _).mono ?_
    rintro e w1 ⟨rfl, hb1⟩
    go_wp2
    go_ret
    exact ⟨by rw [← HT.out]; rfl, hb1⟩
  · have HT : Hid (Lib.itoa (p + 1) ++ 44 :: Lib.itoa (p + n) = rngT p n) := (by show _ = _; unfold rngT; rw [if_neg hn])
    have e1 : (n == 1) = false := beq_eq_false_iff_ne.2 hn
    have l1 := itoa_short (p + 1) (by omega) (by omega)
    have l2 := itoa_short (p + n) (by omega) (by omega)
    go_enter Tryd.func76, Tryd.ntmps76
    go_wp2_with fail
    refine (rText_f (p + 1) (by omega) (by omega) _).mono ?_
    rintro e w1 ⟨rfl, hb1⟩
    generalize Lib.itoa (p + 1) = x at l1 HT ⊢
    go_wp2_with fail
    refine (rText_f (p + n) (by omega) (by omega) _).mono ?_
    rintro e w2 ⟨rfl, hb2⟩
    generalize Lib.itoa (p + n) = y at l2 HT ⊢
    go_wp2
    go_ret
    exact ⟨by rw [← HT.out]; simp [ba_join], hb1.trans (hb2.mono hb1.size)⟩
set_option maxHeartbeats 1000000 in
theorem rLine_f (ah s : List UInt8) (w : World) (h1 : ah.length ≤ 10) (h2 : s.length ≤ 2305843009213693952) :
    Calls Tryd.prog 64 #[.string ⟨ah.toArray⟩, .string ⟨s.toArray⟩] w fun e w' => e = .returned (.string ⟨((lnL ah s).flatten).toArray⟩) ∧ w' = w := by
  go_enter Tryd.func64, Tryd.ntmps64
  go_wp2_with fail
  refine (rBare_f s _ (by omega)).mono ?_
  rintro e w1 ⟨rfl, rfl⟩
  cases hf : fdB s with
  | true =>
    have HT : Hid (ah ++ s = (lnL ah s).flatten) := (by show _ = _; unfold lnL; rw [if_pos hf]; simp)
    go_wp2
    go_ret
    exact ⟨by rw [← HT.out]; simp [ba_join], rfl⟩
  | false =>
    have HT : Hid (ah ++ s ++ [10] ++ markT = (lnL ah s).flatten) := (by show _ = _; unfold lnL; rw [if_neg (by rw [hf]; decide)]; simp)
    go_wp2
    go_ret
    exact ⟨by rw [← HT.out]; simp [ba_join, markT], rfl⟩
end Go.Proofs.YtgiojkhmkeocfaaDoor

/- The reference's change of the normal form, walked. -/
namespace Go.Proofs.YtgiojkhmkeocfaaDoor
open Go.RowKit

/-- two texts can be joined -/
def Fits (x y : List UInt8) : Prop := x.length + y.length ≤ 4611686018427387904
theorem add_fits {x y : List UInt8} (h : Fits x y) (P : Program) (u : World) : (Op.stringOp .add ⟨x.toArray⟩ ⟨y.toArray⟩).run P u = .ok (.string ⟨(x ++ y).toArray⟩) u := by
  unfold Fits at h
  have e : ¬ (((⟨x.toArray⟩ : ByteArray).size + (⟨y.toArray⟩ : ByteArray).size : Nat) : Int) > IntKind.i64.max := by
    have h1 : (⟨x.toArray⟩ : ByteArray).size = x.length := rfl
    have h2 : (⟨y.toArray⟩ : ByteArray).size = y.length := rfl
    have h3 : IntKind.i64.max = 9223372036854775807 := rfl
    rw [h1, h2, h3]
    omega
  unfold Op.stringOp
  dsimp only
  rw [if_neg e, ba_join]
  rfl
/-- a change in a box, and all below it as it was -/
structure Cs (c : Ch) (b : Nat) (W w : World) : Prop where
  c0 : w.cell? ⟨b, 0, none⟩ = some (.int .i64 c.A)
  c1 : w.cell? ⟨b, 1, none⟩ = some (.int .i64 c.AN)
  c2 : w.cell? ⟨b, 2, none⟩ = some (.int .i64 c.B)
  c3 : w.cell? ⟨b, 3, none⟩ = some (.int .i64 c.BN)
  lt : b < w.heap.size
  low : Below W.heap.size W w
theorem Cs.keep {c : Ch} {b : Nat} {W w w' : World} (h : Cs c b W w) (hb : Below w.heap.size w w') : Cs c b W w' := by
  have hk : ∀ o, w'.cell? ⟨b, o, none⟩ = w.cell? ⟨b, o, none⟩ := fun o => by
    unfold World.cell?
    dsimp only
    rw [hb.block b h.lt]
  exact ⟨(hk 0).trans h.c0, (hk 1).trans h.c1, (hk 2).trans h.c2, (hk 3).trans h.c3, Nat.lt_of_lt_of_le h.lt hb.size, h.low.trans (hb.mono h.low.size)⟩
theorem cs_drew (c : Ch) (b : Nat) (W w : World) : Cs c b W w.drew ↔ Cs c b W w := ⟨fun h => ⟨h.c0, h.c1, h.c2, h.c3, h.lt, (h.low.trans ⟨rfl, rfl, rfl, Nat.le_refl _, fun _ _ => rfl⟩ : Below W.heap.size W w)⟩, fun h => ⟨h.c0, h.c1, h.c2, h.c3, h.lt, h.low.drew⟩⟩
attribute [local simp] cs_drew
theorem Cs.fresh (c : Ch) (w : World) : Cs c w.heap.size w (w.alloc (.cells #[.int .i64 c.A, .int .i64 c.AN, .int .i64 c.B, .int .i64 c.BN] 73)) := by
  have h := heap_alloc_new w (.cells #[.int .i64 c.A, .int .i64 c.AN, .int .i64 c.B, .int .i64 c.BN] 73)
  have hk : ∀ o, (w.alloc (.cells #[.int .i64 c.A, .int .i64 c.AN, .int .i64 c.B, .int .i64 c.BN] 73)).cell? ⟨w.heap.size, o, none⟩ = (#[Value.int .i64 c.A, .int .i64 c.AN, .int .i64 c.B, .int .i64 c.BN])[o]? := fun o => by
    unfold World.cell?
    dsimp only
    rw [h]
    rfl
  exact ⟨hk 0, hk 1, hk 2, hk 3, by rw [World.alloc]; simp, (Below.refl _ w).alloc (Nat.le_refl _) _⟩
/-- a call that leaves all below as it was leaves that change, too -/
theorem cs_stay {P : Program} {f : FuncId} {args : Array Value} {v : Value} {w : World} (h : Calls P f args w fun e w' => e = .returned v ∧ Below w.heap.size w w') {c : Ch} {A AN B BN : Int} (hc : Hid (⟨A, AN, B, BN⟩ = c)) (b : Nat) (W : World) (hS : Cs c b W w) :
    Calls P f args w fun e w' => e = .returned v ∧ w'.cell? ⟨b, 0, none⟩ = some (.int .i64 A) ∧ w'.cell? ⟨b, 1, none⟩ = some (.int .i64 AN) ∧ w'.cell? ⟨b, 2, none⟩ = some (.int .i64 B) ∧ w'.cell? ⟨b, 3, none⟩ = some (.int .i64 BN) ∧ Cs c b W w' := by
  have hc2 := hc.out
  subst hc2
  refine h.mono ?_
  rintro e w' ⟨rfl, hb⟩
  have hS' := hS.keep hb
  exact ⟨rfl, hS'.c0, hS'.c1, hS'.c2, hS'.c3, hS'⟩
theorem rng_short (p n : Int) (h0 : 0 ≤ p) (h1 : p ≤ 4611686018427387904) (h2 : 0 ≤ n) (h3 : n ≤ 4611686018427387900) : (rngT p n).length ≤ 43 := by
  have l1 := itoa_short (p + 1) (by omega) (by omega)
  have l2 := itoa_short (p + n) (by omega) (by omega)
  unfold rngT
  split
  · omega
  · simp only [List.length_append, List.length_cons]
    omega
theorem flatM_app {α : Type} (f : α → List (List UInt8)) (x y : List α) : ((x ++ y).flatMap f).flatten = (x.flatMap f).flatten ++ (y.flatMap f).flatten := by simp
/-- one line more -/
theorem cut_more {a : List (List UInt8)} {p n k : Nat} (hk : k < n) (hn : p + n ≤ a.length) : cut a (p : Int) ((k + 1 : Nat) : Int) = cut a p (k : Nat) ++ [a[p + k]'(by omega)] := by
  have h := @cut_cat a (p : Int) (k : Nat) 1 (by omega) (by omega) (by omega)
  have e : cut a ((p : Int) + (k : Nat)) 1 = [a[p + k]'(by omega)] := by
    unfold cut
    have e1 : ((p : Int) + (k : Nat)).toNat = p + k := by omega
    rw [e1, List.drop_eq_getElem_cons (by omega)]
    rfl
  rw [← e, h]
  rfl
theorem cut_pre {a : List (List UInt8)} {p n k : Nat} (hk : k ≤ n) (f : List UInt8 → List (List UInt8)) : ∃ z, ((cut a (p : Int) (n : Nat)).flatMap f).flatten = ((cut a (p : Int) (k : Nat)).flatMap f).flatten ++ z := by
  have h := @cut_cat a (p : Int) (k : Nat) ((n - k : Nat) : Int) (by omega) (by omega) (by omega)
  have e : ((k : Nat) : Int) + ((n - k : Nat) : Int) = (n : Nat) := by omega
  rw [e] at h
  rw [← h, flatM_app]
  exact ⟨_, rfl⟩
set_option maxHeartbeats 4000000 in
set_option maxRecDepth 8000 in
theorem rchange_f (c : Ch) (va vb : Value) (a b : List (List UInt8)) (w : World) (ha : HS w va a) (hb : HS w vb b)
    (hc : 0 ≤ c.A ∧ 0 ≤ c.AN ∧ c.A + c.AN ≤ a.length ∧ 0 ≤ c.B ∧ 0 ≤ c.BN ∧ c.B + c.BN ≤ b.length) (hla : a.length ≤ 1099511627776) (hlb : b.length ≤ 1099511627776) (hta : ∀ s ∈ a, s.length ≤ 1099511627776) (htb : ∀ s ∈ b, s.length ≤ 1099511627776) (T : List UInt8) (HT : Hid ((chgL a b c).flatten = T)) (hT : T.length ≤ 1152921504606846976) :
    Calls Tryd.prog 37 #[chV c, va, vb] w fun e w' => e = .returned (.string ⟨T.toArray⟩) ∧ Below w.heap.size w w' := by
  have hbx := Cs.fresh c w
  obtain ⟨A, AN, B, BN⟩ := c
  dsimp only at hbx hc
  obtain ⟨p1, p2, p3, p4, p5, p6⟩ := hc
  obtain ⟨A, rfl⟩ := Int.eq_ofNat_of_zero_le p1
  obtain ⟨AN, rfl⟩ := Int.eq_ofNat_of_zero_le p2
  obtain ⟨B, rfl⟩ := Int.eq_ofNat_of_zero_le p4
  obtain ⟨BN, rfl⟩ := Int.eq_ofNat_of_zero_le p5
  have r1 := rng_short A AN p1 (by omega) p2 (by omega)
  have r2 := rng_short B BN p4 (by omega) p5 (by omega)
  have r3 := itoa_short A (by omega) (by omega)
  have r4 := itoa_short B (by omega) (by omega)
  obtain ⟨C, hC⟩ : ∃ C, cmdT ⟨A, AN, B, BN⟩ = C := ⟨_, rfl⟩
  have HC : Hid (C = if (AN : Int) = 0 then Lib.itoa A ++ 97 :: rngT B BN else if (BN : Int) = 0 then rngT A AN ++ 100 :: Lib.itoa B else rngT A AN ++ 99 :: rngT B BN) := hC.symm
  have hCl : C.length ≤ 100 := (by
    have h := HC.out
    rw [h]
    split
    · simp only [List.length_append, List.length_cons]; omega
    · split
      · simp only [List.length_append, List.length_cons]; omega
      · simp only [List.length_append, List.length_cons]; omega)
  obtain ⟨ao, ca, rfl⟩ := Holds.form ha
  obtain ⟨bo, cb, rfl⟩ := Holds.form hb
  unfold chV
  go_enter Tryd.func37, Tryd.ntmps37
  go_upto_block 0 with fail
  obtain ⟨c, hc⟩ : ∃ c, (⟨A, AN, B, BN⟩ : Ch) = c := ⟨_, rfl⟩
  have HCC : Hid ((⟨A, AN, B, BN⟩ : Ch) = c) := hc
  have d0 := hbx.c0
  have d1 := hbx.c1
  have d2 := hbx.c2
  have d3 := hbx.c3
  dsimp only at d0 d1 d2 d3
  rw [hc] at hbx
  clear hc
  generalize w.alloc (.cells #[.int .i64 (A : Int), .int .i64 (AN : Int), .int .i64 (B : Int), .int .i64 (BN : Int)] 73) = wb at hbx d0 d1 d2 d3 ⊢
  generalize Value.agg #[.int .i64 (A : Int), .int .i64 (AN : Int), .int .i64 (B : Int), .int .i64 (BN : Int)] = V0
  go_cut [7] (fun z wz => z = .string ⟨C.toArray⟩ ∧ Cs c w.heap.size w wz)
  case first =>
    have hbd := (cs_drew _ _ _ _).2 hbx
    by_cases h1 : AN = 0
    · have e1 : ((AN : Int) == 0) = true := by subst h1; rfl
      have HE : Hid (C = Lib.itoa (A : Int) ++ 97 :: rngT (B : Int) (BN : Int)) := (by have h := HC.out; rw [if_pos (by omega)] at h; exact h)
      clear HC
      have q1 := add_fits (x := Lib.itoa (A : Int)) (y := [97]) (by unfold Fits; simp only [List.length_cons, List.length_nil]; omega) Tryd.prog
      have q2 := add_fits (x := Lib.itoa (A : Int) ++ [97]) (y := rngT (B : Int) (BN : Int)) (by unfold Fits; simp only [List.length_append, List.length_cons, List.length_nil]; omega) Tryd.prog
      go_wp2_with fail
      go_region_held3 (fun w' => w'.cell? ⟨w.heap.size, 0, none⟩ = some (.int .i64 (A : Int)) ∧ w'.cell? ⟨w.heap.size, 1, none⟩ = some (.int .i64 (AN : Int)) ∧ w'.cell? ⟨w.heap.size, 2, none⟩ = some (.int .i64 (B : Int)) ∧ w'.cell? ⟨w.heap.size, 3, none⟩ = some (.int .i64 (BN : Int)) ∧ Cs c w.heap.size w w') (go_keep)
        (first
          | (go_at_call 75; refine (cs_stay (rText_f A (by omega) (by omega) _) HCC w.heap.size w (by first | assumption | (rw [cs_drew]; assumption))).mono ?_; rintro e w' ⟨rfl, e0, e1, e2, e3, hbS⟩)
          | (go_at_call 76; refine (cs_stay (rRange_f _ _ (by omega) (by omega) (by omega) (by omega) _) HCC w.heap.size w (by first | assumption | (rw [cs_drew]; assumption))).mono ?_; rintro e w' ⟨rfl, e0, e1, e2, e3, hbS⟩))
      all_goals go_wp2
      all_goals go_meet
      all_goals exact ⟨by rw [HE.out]; try simp, by assumption⟩
    · have e1 : ((AN : Int) == 0) = false := beq_eq_false_iff_ne.2 (by omega)
      by_cases h2 : BN = 0
      · have e2 : ((BN : Int) == 0) = true := by subst h2; rfl
        have HE : Hid (C = rngT (A : Int) (AN : Int) ++ 100 :: Lib.itoa (B : Int)) := (by have h := HC.out; rw [if_neg (by omega), if_pos (by omega)] at h; exact h)
        clear HC
        have q1 := add_fits (x := rngT (A : Int) (AN : Int)) (y := [100]) (by unfold Fits; simp only [List.length_cons, List.length_nil]; omega) Tryd.prog
        have q2 := add_fits (x := rngT (A : Int) (AN : Int) ++ [100]) (y := Lib.itoa (B : Int)) (by unfold Fits; simp only [List.length_append, List.length_cons, List.length_nil]; omega) Tryd.prog
        go_wp2_with fail
        go_region_held3 (fun w' => w'.cell? ⟨w.heap.size, 0, none⟩ = some (.int .i64 (A : Int)) ∧ w'.cell? ⟨w.heap.size, 1, none⟩ = some (.int .i64 (AN : Int)) ∧ w'.cell? ⟨w.heap.size, 2, none⟩ = some (.int .i64 (B : Int)) ∧ w'.cell? ⟨w.heap.size, 3, none⟩ = some (.int .i64 (BN : Int)) ∧ Cs c w.heap.size w w') (go_keep)
          (first
            | (go_at_call 76; refine (cs_stay (rRange_f _ _ (by omega) (by omega) (by omega) (by omega) _) HCC w.heap.size w (by first | assumption | (rw [cs_drew]; assumption))).mono ?_; rintro e w' ⟨rfl, e0, e1, e2, e3, hbS⟩)
            | (go_at_call 75; refine (cs_stay (rText_f B (by omega) (by omega) _) HCC w.heap.size w (by first | assumption | (rw [cs_drew]; assumption))).mono ?_; rintro e w' ⟨rfl, e0, e1, e2, e3, hbS⟩))
        all_goals go_wp2
        all_goals go_meet
        all_goals exact ⟨by rw [HE.out]; try simp, by assumption⟩
      · have e2 : ((BN : Int) == 0) = false := beq_eq_false_iff_ne.2 (by omega)
        have HE : Hid (C = rngT (A : Int) (AN : Int) ++ 99 :: rngT (B : Int) (BN : Int)) := (by have h := HC.out; rw [if_neg (by omega), if_neg (by omega)] at h; exact h)
        clear HC
        have q1 := add_fits (x := rngT (A : Int) (AN : Int)) (y := [99]) (by unfold Fits; simp only [List.length_cons, List.length_nil]; omega) Tryd.prog
        have q2 := add_fits (x := rngT (A : Int) (AN : Int) ++ [99]) (y := rngT (B : Int) (BN : Int)) (by unfold Fits; simp only [List.length_append, List.length_cons, List.length_nil]; omega) Tryd.prog
        go_wp2_with fail
        go_region_held3 (fun w' => w'.cell? ⟨w.heap.size, 0, none⟩ = some (.int .i64 (A : Int)) ∧ w'.cell? ⟨w.heap.size, 1, none⟩ = some (.int .i64 (AN : Int)) ∧ w'.cell? ⟨w.heap.size, 2, none⟩ = some (.int .i64 (B : Int)) ∧ w'.cell? ⟨w.heap.size, 3, none⟩ = some (.int .i64 (BN : Int)) ∧ Cs c w.heap.size w w') (go_keep)
          (first
            | (go_at_call 76; refine (cs_stay (rRange_f _ _ (by omega) (by omega) (by omega) (by omega) _) HCC w.heap.size w (by first | assumption | (rw [cs_drew]; assumption))).mono ?_; rintro e w' ⟨rfl, e0, e1, e2, e3, hbS⟩))
        all_goals go_wp2
        all_goals go_meet
        all_goals exact ⟨by rw [HE.out]; try simp, by assumption⟩
  case rest =>
    obtain ⟨rfl, hbx⟩ := hcut
    obtain ⟨X, HX⟩ : ∃ X : Nat → List UInt8, Hid (∀ k, X k = C ++ [10] ++ ((cut a (A : Int) (k : Nat)).flatMap (lnL [60, 32])).flatten) := ⟨_, fun _ => rfl⟩
    obtain ⟨S, HSp⟩ : ∃ S : List UInt8, Hid (S = (sepL ⟨A, AN, B, BN⟩).flatten) := ⟨_, rfl⟩
    obtain ⟨Y, HY⟩ : ∃ Y : Nat → List UInt8, Hid (∀ k, Y k = X AN ++ S ++ ((cut b (B : Int) (k : Nat)).flatMap (lnL [62, 32])).flatten) := ⟨_, fun _ => rfl⟩
    have hTY : T = Y BN := (by
      rw [← HT.out, HY.out, HX.out, HSp.out, ← hC]
      simp only [chgL, List.flatten_cons, List.flatten_append, List.append_assoc])
    have x0 : X 0 = C ++ [10] := (by rw [HX.out]; simp [cut])
    have HXs : Hid (∀ k (_ : k < AN) (h2 : A + k < a.length), X (k + 1) = X k ++ (lnL [60, 32] a[A + k]).flatten) := (by
      intro k hk h2
      rw [HX.out, HX.out, cut_more hk (by omega), flatM_app]
      simp)
    have HYs : Hid (∀ k (_ : k < BN) (h2 : B + k < b.length), Y (k + 1) = Y k ++ (lnL [62, 32] b[B + k]).flatten) := (by
      intro k hk h2
      rw [HY.out, HY.out, cut_more hk (by omega), flatM_app]
      simp)
    have HY0 : Hid (Y 0 = X AN ++ S) := (by show _ = _; rw [HY.out]; simp [cut])
    have HYl : Hid (∀ k, k ≤ BN → (Y k).length ≤ 1152921504606846976) := (by
      intro k hk
      obtain ⟨z, hz⟩ := @cut_pre b B BN k hk (lnL [62, 32])
      have h1 := hTY
      rw [HY.out, hz] at h1
      rw [h1] at hT
      rw [HY.out]
      simp only [List.length_append] at hT ⊢
      omega)
    have hXA : (X AN).length + S.length ≤ 1152921504606846976 := (by
      have h1 := HYl.out 0 (by omega)
      rw [HY0.out, List.length_append] at h1
      exact h1)
    have HXl : Hid (∀ k, k ≤ AN → (X k).length ≤ 1152921504606846976) := (by
      intro k hk
      obtain ⟨z, hz⟩ := @cut_pre a A AN k hk (lnL [60, 32])
      have h1 := hXA
      rw [HX.out, hz] at h1
      rw [HX.out]
      simp only [List.length_append] at h1 ⊢
      omega)
    have HL : Hid (∀ (ah s : List UInt8), ah.length ≤ 10 → s.length ≤ 1099511627776 → (lnL ah s).flatten.length ≤ 1099511627876) := (by
      intro ah s h1 h2
      unfold lnL
      split <;> simp [markT] <;> omega)
    have hwc := hbx.low
    have d0 := hbx.c0
    have d1 := hbx.c1
    have d2 := hbx.c2
    have d3 := hbx.c3
    have hcc := HCC.out
    rw [← hcc] at d0 d1 d2 d3
    dsimp only at d0 d1 d2 d3
    have haw : HS wc (.slice ao a.length ca) a := ha.keep hwc (Nat.le_refl _)
    have hbw : HS wc (.slice bo b.length cb) b := hb.keep hwc (Nat.le_refl _)
    clear hcc ha hb hbx HC hC HT hT r1 r2 r3 r4 HX HY
    go_wp2
    go_loopw [8, 7] (fun i s wr => ∃ k : Nat, k ≤ AN ∧ i = .int .i64 ((A + k : Nat) : Int) ∧ s = .string ⟨(X k).toArray⟩ ∧ wr = wc) (fun i _ _ => A + AN - (intOf i).toNat)
    case atStart => exact ⟨0, Nat.zero_le _, rfl, by rw [x0]; simp [ba_join], rfl⟩
    case round =>
      obtain ⟨k, hk, rfl, rfl, rfl⟩ := hrel
      by_cases hlt : k < AN
      · obtain ⟨bk, off, rfl, _, hcl⟩ := HS.at haw (by omega)
        have d := hcl (A + k) (by omega)
        clear hcl
        have hs1 := hta a[A + k] (List.getElem_mem _)
        have hl1 := HXl.out k (by omega)
        have hl2 := HL.out [60, 32] a[A + k] (by decide) hs1
        have hl3 := HXl.out (k + 1) (by omega)
        have HE : Hid (X (k + 1) = X k ++ (lnL [60, 32] a[A + k]).flatten) := HXs.out k hlt (by omega)
        have i1 : 0 ≤ ((A + k : Nat) : Int) := by omega
        have i2 : ((A + k : Nat) : Int) < (a.length : Int) := by omega
        have i3 : ((A + k : Nat) : Int) < (A : Int) + (AN : Int) := by omega
        generalize hak : a[A + k] = s1 at *
        go_wp2_with fail
        refine (rLine_f [60, 32] s1 _ (by decide) (by omega)).mono ?_
        rintro e w1 ⟨rfl, rfl⟩
        generalize (lnL [60, 32] s1).flatten = Z at *
        generalize X k = x1 at *
        go_wp2
        go_roundw
        case rel => exact ⟨k + 1, by omega, by go_num, by rw [HE.out]; simp [ba_join], trivial⟩
        case measure => simp [intOf]; omega
      · have ek : k = AN := by omega
        subst ek
        have i3 : ¬ ((A + k : Nat) : Int) < (A : Int) + (k : Int) := by omega
        have hl1 := hXA
        clear HXs HXl
        obtain ⟨q, hq⟩ : ∃ q, (decide (0 < k) && decide (0 < BN)) = q := ⟨_, rfl⟩
        have HQ : Hid ((decide (0 < k) && decide (0 < BN)) = q) := hq
        clear hq
        go_upto_region 12 with fail
        go_cut [77] (fun z wz => z = .bool q ∧ wz = wr)
        case first =>
          by_cases h1 : 0 < k
          · have g1 : (0 : Int) < (k : Int) := by omega
            by_cases h2 : 0 < BN
            · have g2 : (0 : Int) < (BN : Int) := by omega
              have hq : q = true := (by rw [← HQ.out]; simp [h1, h2])
              subst hq
              go_wp2
              go_meet
              case rel => exact ⟨rfl, rfl⟩
            · have g2 : ¬ (0 : Int) < (BN : Int) := by omega
              have hq : q = false := (by rw [← HQ.out]; simp [h2])
              subst hq
              go_wp2
              go_meet
              case rel => exact ⟨rfl, rfl⟩
          · have g1 : ¬ (0 : Int) < (k : Int) := by omega
            have hq : q = false := (by rw [← HQ.out]; simp [h1])
            subst hq
            go_wp2
            go_meet
            case rel => exact ⟨rfl, rfl⟩
        case rest =>
          obtain ⟨rfl, rfl⟩ := hcut
          go_upto_if 77 with fail
          go_cut [7] (fun z wz => z = .string ⟨(Y 0).toArray⟩ ∧ wz = wc)
          case first =>
            have HE := HY0
            cases q with
            | true =>
              have hS : S = [45, 45, 45, 10] := (by
                have h := HQ.out
                simp only [Bool.and_eq_true, decide_eq_true_eq] at h
                rw [HSp.out]
                unfold sepL
                rw [if_pos (by dsimp only; omega)]
                rfl)
              have hSl : S.length = 4 := by rw [hS]; rfl
              go_wp2
              go_meet
              case rel => exact ⟨by rw [HE.out, hS]; simp [ba_join], rfl⟩
            | false =>
              have hS : S = [] := (by
                have h := HQ.out
                simp only [Bool.and_eq_false_iff, decide_eq_false_iff_not] at h
                rw [HSp.out]
                unfold sepL
                rw [if_neg (by dsimp only; omega)]
                rfl)
              go_wp2
              go_meet
              case rel => exact ⟨by rw [HE.out, hS]; simp, rfl⟩
          case rest =>
            obtain ⟨rfl, rfl⟩ := hcut
            clear HY0 HQ HSp hl1 i3
            generalize Value.int IntKind.i64 ((A + k : Nat) : Int) = V8
            go_wp2
            go_loopw [9, 7] (fun i s wr => ∃ k : Nat, k ≤ BN ∧ i = .int .i64 ((B + k : Nat) : Int) ∧ s = .string ⟨(Y k).toArray⟩ ∧ wr = wc) (fun i _ _ => B + BN - (intOf i).toNat)
            case atStart => exact ⟨0, Nat.zero_le _, rfl, rfl, rfl⟩
            case round =>
              obtain ⟨j, hj, rfl, rfl, rfl⟩ := hrel
              by_cases hlt : j < BN
              · obtain ⟨bk, off, rfl, _, hcl⟩ := HS.at hbw (by omega)
                have d := hcl (B + j) (by omega)
                clear hcl
                have hs1 := htb b[B + j] (List.getElem_mem _)
                have hl1 := HYl.out j (by omega)
                have hl2 := HL.out [62, 32] b[B + j] (by decide) hs1
                have hl3 := HYl.out (j + 1) (by omega)
                have HE : Hid (Y (j + 1) = Y j ++ (lnL [62, 32] b[B + j]).flatten) := HYs.out j hlt (by omega)
                have i1 : 0 ≤ ((B + j : Nat) : Int) := by omega
                have i2 : ((B + j : Nat) : Int) < (b.length : Int) := by omega
                have i3 : ((B + j : Nat) : Int) < (B : Int) + (BN : Int) := by omega
                generalize hak : b[B + j] = s1 at *
                go_wp2_with fail
                refine (rLine_f [62, 32] s1 _ (by decide) (by omega)).mono ?_
                rintro e w1 ⟨rfl, rfl⟩
                generalize (lnL [62, 32] s1).flatten = Z at *
                generalize Y j = x1 at *
                go_wp2
                go_roundw
                case rel => exact ⟨j + 1, by omega, by go_num, by rw [HE.out]; simp [ba_join], trivial⟩
                case measure => simp [intOf]; omega
              · have ej : j = BN := by omega
                subst ej
                have i3 : ¬ ((B + j : Nat) : Int) < (B : Int) + (j : Int) := by omega
                go_wp2
                go_ret
                exact ⟨by first | rfl | (rw [hTY]; rfl), hwc⟩
end Go.Proofs.YtgiojkhmkeocfaaDoor

/- What is written in the normal form is read as the hunks without context; plain mathematics. -/
namespace Go.Proofs.YtgiojkhmkeocfaaDoor
open Ln

/-- the numbers that a hunk without context says -/
def noA (p n : Int) : Int := if 0 < n then p + 1 else p
/-- lines that all are lines, and have their line feed but for the last one -/
def Rows : List (List UInt8) → Prop
  | [] => True
  | x :: r => linB x = true ∧ (r ≠ [] → fdB x = true) ∧ Rows r
end Go.Proofs.YtgiojkhmkeocfaaDoor

/- The normal form of an edit script: read again it is the hunks without context; a part of it is never read as the whole; plain mathematics. -/
namespace Go.Proofs.YtgiojkhmkeocfaaDoor
open Ln

theorem npk_mks {no sg : Int} (t : List (List UInt8)) : pkL no (mks sg t) = if sg ≠ no ∧ okS sg = true then t else [] := by
  induction t with
  | nil => simp [mks, pkL]
  | cons s t ih =>
    have e : mks sg (s :: t) = ⟨sg, s⟩ :: mks sg t := rfl
    rw [e, pkL, ih]
    split <;> rfl
/-- the hunk of one change without context -/
theorem one_zero {a b : List (List UInt8)} {c : Ch} (hn : numB c = true) (hA : c.A + c.AN ≤ a.length) (hB : c.B + c.BN ≤ b.length) : oneH a b 0 [c] = ⟨noA c.A c.AN, c.AN, noA c.B c.BN, c.BN, mks 45 (cut a c.A c.AN) ++ mks 43 (cut b c.B c.BN)⟩ := by
  have h := (numB_iff c).1 hn
  have e : bodyH a b (min (a.length : Int) (c.A + c.AN + 0)) (c.A - min 0 c.A) [c] = mks 45 (cut a c.A c.AN) ++ mks 43 (cut b c.B c.BN) := by
    rw [show min (a.length : Int) (c.A + c.AN + 0) = c.A + c.AN by omega, show c.A - min 0 c.A = c.A by omega]
    simp only [bodyH]
    rw [show c.A - c.A = (0 : Int) by omega, show c.A + c.AN - (c.A + c.AN) = (0 : Int) by omega, cut_zero, cut_zero]
    simp [mks]
  have l1 : ((cut a c.A c.AN).length : Int) = c.AN := hcut_length (by omega) (by omega) hA
  have l2 : ((cut b c.B c.BN).length : Int) = c.BN := hcut_length (by omega) (by omega) hB
  have p1 : pkL 43 (mks 45 (cut a c.A c.AN) ++ mks 43 (cut b c.B c.BN)) = cut a c.A c.AN := by
    rw [pkL_append, npk_mks, npk_mks, if_pos (by decide), if_neg (by decide), List.append_nil]
  have p2 : pkL 45 (mks 45 (cut a c.A c.AN) ++ mks 43 (cut b c.B c.BN)) = cut b c.B c.BN := by
    rw [pkL_append, npk_mks, npk_mks, if_neg (by decide), if_pos (by decide), List.nil_append]
  show cntH (c.A - min 0 c.A) (c.B - min 0 c.A) (bodyH a b (min (a.length : Int) (c.A + c.AN + 0)) (c.A - min 0 c.A) [c]) = _
  rw [e]
  unfold cntH noA
  rw [p1, p2, l1, l2, show c.A - min 0 c.A = c.A by omega, show c.B - min 0 c.A = c.B by omega]
  have q1 : (0 < (cut a c.A c.AN).length) = (0 < c.AN) := propext ⟨fun q => by omega, fun q => by omega⟩
  have q2 : (0 < (cut b c.B c.BN).length) = (0 < c.BN) := propext ⟨fun q => by omega, fun q => by omega⟩
  simp only [q1, q2]
theorem right_mem {fl : Bool} {p q n m : Int} {l : List Ch} (h : Right fl p q n m l) : ∀ c ∈ l, numB c = true ∧ c.A + c.AN ≤ n ∧ c.B + c.BN ≤ m := by
  induction l generalizing fl p q with
  | nil => intro c hc; cases hc
  | cons x l ih =>
    intro c hc
    rcases List.mem_cons.1 hc with rfl | hc
    · exact ⟨h.1.1, h.2.le.1, h.2.le.2.1⟩
    · exact ih h.2 c hc
theorem mk_zero {l : List Ch} {a b : List (List UInt8)} (hs : Script l a.length b.length) : mkR l a b 0 = l.map fun c => oneH a b 0 [c] := by
  rw [(mkR_eq hs (by omega)).1, grp_zero l _ _ _ _ _ hs.2.2]
  simp
end Go.Proofs.YtgiojkhmkeocfaaDoor

/- The reference's Print of the normal form, walked. -/
namespace Go.Proofs.YtgiojkhmkeocfaaDoor
open Go.RowKit

theorem prt_more {l : List Ch} {a b : List (List UInt8)} {k : Nat} (hk : k < l.length) : prtT (l.take (k + 1)) a b = prtT (l.take k) a b ++ (chgL a b l[k]).flatten := by
  unfold prtT prtL
  rw [List.take_succ_eq_append_getElem hk, List.flatMap_append, List.flatten_append, List.flatMap_singleton]
theorem prt_pre {l : List Ch} {a b : List (List UInt8)} (k : Nat) : (prtT (l.take k) a b).length ≤ (prtT l a b).length := by
  have e : prtT l a b = prtT (l.take k) a b ++ prtT (l.drop k) a b := by
    unfold prtT prtL
    rw [← List.flatten_append, ← List.flatMap_append, List.take_append_drop]
  rw [e, List.length_append]
  omega
set_option maxHeartbeats 4000000 in
theorem rPrint_f (l : List Ch) (vl va vb : Value) (a b : List (List UInt8)) (w : World) (hl : HCh w vl l) (ha : HS w va a) (hb : HS w vb b) (hll : l.length ≤ 1099511627776) (hla : a.length ≤ 1099511627776) (hlb : b.length ≤ 1099511627776) (hta : ∀ s ∈ a, s.length ≤ 1099511627776) (htb : ∀ s ∈ b, s.length ≤ 1099511627776)
    (r : Int) (HR : Hid (chk l a.length b.length = r)) (T : List UInt8) (HT : Hid ((if r = 0 then prtT l a b else []) = T)) (hT : T.length ≤ 1152921504606846976) :
    Calls Tryd.prog 9 #[vl, va, vb] w fun e w' => e = .returned (.tuple #[.string ⟨T.toArray⟩, .int .i64 r]) ∧ Below w.heap.size w w' := by
  obtain ⟨lo, lc, rfl⟩ := Holds.form hl
  obtain ⟨ao, ca, rfl⟩ := Holds.form ha
  obtain ⟨bo, cb, rfl⟩ := Holds.form hb
  go_enter Tryd.func9, Tryd.ntmps9
  go_wp2_with fail
  refine (rCheck_f l a.length b.length r (.slice lo l.length lc) _ hl (by omega) (by omega) (by omega) HR).mono ?_
  rintro e w1 ⟨rfl, hb1⟩
  by_cases hr : r = 0
  · subst hr
    have hTT := HT.out
    rw [if_pos rfl] at hTT
    have hs : Script l a.length b.length := (by
      by_cases h : Script l a.length b.length
      · exact h
      · have := chk_no h
        rw [HR.out] at this
        cases this)
    have HM := right_mem hs.2.2
    have HMH : Hid (∀ c ∈ l, numB c = true ∧ c.A + c.AN ≤ (a.length : Int) ∧ c.B + c.BN ≤ (b.length : Int)) := HM
    clear HM hs HT
    subst hTT
    go_wp2
    go_loopw [9, 10] (fun s i wr => ∃ k : Nat, k ≤ l.length ∧ s = .string ⟨(prtT (l.take k) a b).toArray⟩ ∧ i = .int .i64 (k : Int) ∧ Below w.heap.size w wr) (fun _ i _ => l.length - (intOf i).toNat)
    case atStart => exact ⟨0, Nat.zero_le _, rfl, rfl, hb1⟩
    case round =>
      obtain ⟨k, hk, rfl, rfl, hbr⟩ := hrel
      by_cases hlt : k < l.length
      · obtain ⟨bk, off, rfl, hbk, hc⟩ := HCh.at (HCh.keep hl hbr (Nat.le_refl _)) (by omega)
        obtain ⟨c0, c1, c2, c3⟩ := hc k hlt
        obtain ⟨c, hcd⟩ : ∃ c, l[k] = c := ⟨_, rfl⟩
        have hm := HMH.out l[k] (List.getElem_mem hlt)
        have HE : Hid (prtT (l.take (k + 1)) a b = prtT (l.take k) a b ++ (chgL a b l[k]).flatten) := prt_more hlt
        rw [hcd] at hm c0 c1 c2 c3 HE
        have hn := hm.1
        rw [numB_iff] at hn
        have l1 := @prt_pre l a b k
        have l2 := @prt_pre l a b (k + 1)
        have l3 : ((chgL a b c).flatten).length ≤ (prtT l a b).length := (by
          rw [HE.out, List.length_append] at l2
          omega)
        have i1 : 0 ≤ (k : Int) := by omega
        have i2 : (k : Int) < (l.length : Int) := by omega
        have haw : HS wr (.slice ao a.length ca) a := ha.keep hbr (Nat.le_refl _)
        have hbw : HS wr (.slice bo b.length cb) b := hb.keep hbr (Nat.le_refl _)
        obtain ⟨Z, hZ⟩ : ∃ Z, (chgL a b c).flatten = Z := ⟨_, rfl⟩
        have HZ : Hid ((chgL a b c).flatten = Z) := hZ
        rw [hZ] at l3 HE
        clear hc hcd hZ l2 HMH
        obtain ⟨P, hP⟩ : ∃ P, prtT (l.take k) a b = P := ⟨_, rfl⟩
        rw [hP] at l1 HE ⊢
        clear hP
        obtain ⟨n, hN⟩ : ∃ n, (prtT l a b).length = n := ⟨_, rfl⟩
        rw [hN] at l1 l3 hT
        go_wp2_with fail
        refine (rchange_f c (.slice ao a.length ca) (.slice bo b.length cb) a b _ haw hbw (by omega) hla hlb hta htb Z HZ (by omega)).mono ?_
        rintro e w2 ⟨rfl, hb2⟩
        go_wp2
        go_roundw
        case rel => exact ⟨k + 1, by omega, by rw [HE.out]; simp [ba_join], by go_num, hbr.trans (hb2.mono hbr.size)⟩
        case measure => simp [intOf]; omega
      · have ek : k = l.length := by omega
        subst ek
        go_wp2
        go_ret2
        exact ⟨by rw [List.take_length]; rfl, hbr⟩
  · have hrb : (r != 0) = true := bne_iff_ne.2 hr
    have hTT := HT.out
    rw [if_neg hr] at hTT
    subst hTT
    go_wp2
    go_ret2
    exact ⟨rfl, hb1⟩
/-- how long what is written is -/
theorem lnL_len (ah s : List UInt8) : (lnL ah s).flatten.length ≤ ah.length + s.length + 29 := by
  unfold lnL
  split <;> simp [markT] <;> omega
theorem lns_len (ah : List UInt8) (x : List (List UInt8)) : (x.flatMap (lnL ah)).flatten.length ≤ x.length * (ah.length + 29) + x.flatten.length := by
  induction x with
  | nil => simp
  | cons s x ih =>
    have h := lnL_len ah s
    simp only [List.flatMap_cons, List.flatten_append, List.length_append, List.length_cons, List.flatten_cons]
    have e : (x.length + 1) * (ah.length + 29) = x.length * (ah.length + 29) + (ah.length + 29) := Nat.succ_mul _ _
    omega
end Go.Proofs.YtgiojkhmkeocfaaDoor

/- How long the normal form of a script is; plain mathematics. -/
namespace Go.Proofs.YtgiojkhmkeocfaaDoor

theorem cmd_len {c : Ch} (h : numB c = true) : (cmdT c).length ≤ 100 := by
  rw [numB_iff] at h
  have r1 := rng_short c.A c.AN h.1.1 (by omega) h.2.1.1 (by omega)
  have r2 := rng_short c.B c.BN h.2.2.1.1 (by omega) h.2.2.2.1.1 (by omega)
  have r3 := itoa_short c.A (by omega) (by omega)
  have r4 := itoa_short c.B (by omega) (by omega)
  unfold cmdT
  split
  · simp only [List.length_append, List.length_cons]; omega
  · split
    · simp only [List.length_append, List.length_cons]; omega
    · simp only [List.length_append, List.length_cons]; omega
theorem flat_drop {a : List (List UInt8)} {p A AN : Int} (hp : 0 ≤ p) (hA : p ≤ A) (hN : 0 ≤ AN) : (cut a A AN).flatten.length + (a.drop (A + AN).toNat).flatten.length ≤ (a.drop p.toNat).flatten.length := by
  have e1 : a.drop p.toNat = (a.drop p.toNat).take (A - p).toNat ++ a.drop A.toNat := by
    have h := (List.take_append_drop (A - p).toNat (a.drop p.toNat)).symm
    rw [List.drop_drop] at h
    have e : p.toNat + (A - p).toNat = A.toNat := by omega
    rw [e] at h
    exact h
  have e2 : a.drop A.toNat = cut a A AN ++ a.drop (A + AN).toNat := by
    have h := (List.take_append_drop AN.toNat (a.drop A.toNat)).symm
    rw [List.drop_drop] at h
    have e : A.toNat + AN.toNat = (A + AN).toNat := by omega
    rw [e] at h
    exact h
  rw [e1, e2]
  simp only [List.flatten_append, List.length_append]
  omega
theorem cut_le (a : List (List UInt8)) (p n : Int) : (cut a p n).length ≤ n.toNat := by
  unfold cut
  rw [List.length_take]
  omega
theorem chg_len {a b : List (List UInt8)} {c : Ch} (h : numB c = true) : (chgL a b c).flatten.length ≤ 105 + 31 * (c.AN.toNat + c.BN.toNat) + (cut a c.A c.AN).flatten.length + (cut b c.B c.BN).flatten.length := by
  have h1 := cmd_len h
  have h2 := lns_len [60, 32] (cut a c.A c.AN)
  have h3 := lns_len [62, 32] (cut b c.B c.BN)
  have h4 := cut_le a c.A c.AN
  have h5 := cut_le b c.B c.BN
  have h6 : (sepL c).flatten.length ≤ 4 := by
    unfold sepL
    split <;> simp
  simp only [List.length_cons, List.length_nil] at h2 h3
  simp only [chgL, List.flatten_cons, List.flatten_append, List.length_append, List.length_cons, List.length_nil]
  omega
theorem prt_len_at {a b : List (List UInt8)} {n m : Int} (l : List Ch) : ∀ {f : Bool} {p q : Int}, 0 ≤ p → 0 ≤ q → Right f p q n m l → (prtT l a b).length ≤ 105 * l.length + 31 * ((n - p).toNat + (m - q).toNat) + (a.drop p.toNat).flatten.length + (b.drop q.toNat).flatten.length := by
  induction l with
  | nil =>
    intro f p q _ _ _
    simp [prtT, prtL]
  | cons c l ih =>
    intro f p q hp hq h
    obtain ⟨⟨h1, h2, h3, _⟩, h5⟩ := h
    have hn := (numB_iff c).1 h1
    have hle := h5.le
    have g := ih (by omega) (by omega) h5
    have g1 := @chg_len a b c h1
    have g2 := @flat_drop a p c.A c.AN hp h3 hn.2.1.1
    have g3 := @flat_drop b q c.B c.BN hq (by omega) hn.2.2.2.1.1
    have e : prtT (c :: l) a b = (chgL a b c).flatten ++ prtT l a b := by simp [prtT, prtL]
    rw [e, List.length_append, List.length_cons]
    omega
/-- what is written of a right script -/
theorem prt_len {a b : List (List UInt8)} {l : List Ch} (h : Script l a.length b.length) : (prtT l a b).length ≤ 105 * l.length + 31 * (a.length + b.length) + a.flatten.length + b.flatten.length := by
  have g := @prt_len_at a b a.length b.length l true 0 0 (by omega) (by omega) h.2.2
  simpa using g
end Go.Proofs.YtgiojkhmkeocfaaDoor

/- The library's contracts on a strings.Builder's WriteString and on strings.HasSuffix, TrimSuffix and CutPrefix at this program: the program bears the bodies that they speak of. -/
namespace Go.Proofs
open Go.Shelf Go.RowKit
def Tryd.lays166_ren : Go.Shelf.Ren := ⟨fun | 166 => 28 | 240 => 70 | 276 => 110 | n => n, fun | 0 => 0 | 3 => 3 | 4 => 4 | 5 => 5 | 9 => 9 | 20 => 20 | 37 => 59 | 70 => 58 | 72 => 61 | 75 => 31 | 80 => 69 | 164 => 122 | n => n, fun | n => n⟩
theorem Tryd.lays166 : Go.Proofs.Lays.n166 Tryd.prog Tryd.lays166_ren := {
  mixed := by kernel_rfl
  f166 := Tryd.func28.trans (congrArg some (by kernel_rfl))
  f240 := Tryd.func70.trans (congrArg some (by kernel_rfl))
  f276 := Tryd.func110.trans (congrArg some (by kernel_rfl))
  t0 := Tryd.underlying0
  a0 := Tryd.isAgg0
  z0 := Tryd.sizeOf0
  v0 := Tryd.zeroValue0
  t3 := Tryd.underlying3
  a3 := Tryd.isAgg3
  z3 := Tryd.sizeOf3
  v3 := Tryd.zeroValue3
  t4 := Tryd.underlying4
  a4 := Tryd.isAgg4
  z4 := Tryd.sizeOf4
  v4 := Tryd.zeroValue4
  t9 := Tryd.underlying9
  a9 := Tryd.isAgg9
  z9 := Tryd.sizeOf9
  v9 := Tryd.zeroValue9
  t20 := Tryd.underlying20
  a20 := Tryd.isAgg20
  z20 := Tryd.sizeOf20
  v20 := Tryd.zeroValue20
  t37 := Tryd.underlying59
  a37 := Tryd.isAgg59
  z37 := Tryd.sizeOf59
  v37 := Tryd.zeroValue59
  t70 := Tryd.underlying58
  a70 := Tryd.isAgg58
  z70 := Tryd.sizeOf58
  v70 := Tryd.zeroValue58
  t72 := Tryd.underlying61
  a72 := Tryd.isAgg61
  z72 := Tryd.sizeOf61
  v72 := Tryd.zeroValue61
  t75 := Tryd.underlying31
  a75 := Tryd.isAgg31
  z75 := Tryd.sizeOf31
  v75 := Tryd.zeroValue31
  t164 := Tryd.underlying122
  a164 := Tryd.isAgg122
  z164 := Tryd.sizeOf122
  v164 := Tryd.zeroValue122 }
theorem Tryd.Builder_Extra_166 : Builder.Extra Tryd.prog Tryd.lays166_ren := {
  sizeBuilder := by kernel_rfl
  liesBuilder := by kernel_rfl
  t5 := Tryd.underlying5
  a5 := Tryd.isAgg5
  z5 := Tryd.sizeOf5
  v5 := Tryd.zeroValue5
  infoByte := by kernel_rfl
  cellsByte := by kernel_rfl
  sizeByte := by kernel_rfl
  neB5 := by decide }
theorem Tryd.WriteString_h (B b : Nat) (bs : List Value) (s : ByteArray) (w : World) (h : Lib.IsBuilderF 61 5 B b bs w) (hlen : bs.length + s.size ≤ 140737488355328) (hBw : B ≤ w.heap.size) :
    Calls Tryd.prog 28 #[.pointer (some ⟨b, 0, none⟩), .string s] w fun e w' => e = .returned (.tuple #[.int .i64 s.size, .nilIface]) ∧ (Lib.BuilderAtF 61 5 B b (.pointer (some ⟨b, 0, none⟩)) (bs ++ Lib.strCells s) w' ∧ Below B w w' ∧ Lib.OthersKept 5 (some b) w w') :=
  Any.Builder_WriteString_k Tryd.lays166 Tryd.Builder_Extra_166 B b bs s w h hlen hBw
end Go.Proofs

/- The code's small functions of layer 12's Print, walked: numbers, ranges, letters, lines that are written. -/
namespace Go.Proofs.YtgiojkhmkeocfaaDoor
open Go.RowKit

/-- the table of powers of ten, in every later world -/
def Tab10 (w : World) : Prop := ∀ u : World, Below w.heap.size w u → Lib.TabIs Tryd.prog u "internal/strconv.uint64pow10" .u64 Lib.pow10Tab
theorem Tab10.on {w u : World} (h : Tab10 w) (hb : Below w.heap.size w u) : Tab10 u := fun v hv => h v (hb.trans (hv.mono hb.size))
set_option maxHeartbeats 1000000 in
theorem nText_f (n : Int) (h0 : -9223372036854775808 ≤ n) (h1 : n ≤ 9223372036854775807) (w : World) (HT : Hid (Tab10 w)) :
    Calls Tryd.prog 71 #[.int .i64 n] w fun e w' => e = .returned (.string ⟨(Lib.itoa n).toArray⟩) ∧ Below w.heap.size w w' := by
  go_enter Tryd.func71, Tryd.ntmps71
  go_wp2_with fail
  refine (Tryd.strconv_Itoa n h0 h1 _ (HT.out _ (Below.refl _ _))).mono ?_
  rintro e w1 ⟨rfl, k, os, rfl⟩
  go_wp2
  go_ret
  exact ⟨rfl, Lib.below_grow w.heap.size w (Nat.le_refl _) k os⟩
/-- a range as the code writes it -/
def rgx (A N : Int) : List UInt8 := if N ≤ 1 then Lib.itoa A else Lib.itoa A ++ 44 :: Lib.itoa (A + N - 1)
theorem rgx_len {A N : Int} (h0 : 0 ≤ A) (h1 : A ≤ 4611686018427387904) (h2 : 0 ≤ N) (h3 : N ≤ 4611686018427387900) : (rgx A N).length ≤ 43 := by
  have l1 := itoa_short A (by omega) (by omega)
  have l2 := itoa_short (A + N - 1) (by omega) (by omega)
  unfold rgx
  split
  · omega
  · simp only [List.length_append, List.length_cons]
    omega
set_option maxHeartbeats 1000000 in
theorem nrange_f (A N : Int) (h0 : 0 ≤ A) (h1 : A ≤ 4611686018427387904) (h2 : 0 ≤ N) (h3 : N ≤ 4611686018427387900) (w : World) (HT : Hid (Tab10 w)) (T : List UInt8) (HR : Hid (rgx A N = T)) :
    Calls Tryd.prog 29 #[.int .i64 A, .int .i64 N] w fun e w' => e = .returned (.string ⟨T.toArray⟩) ∧ Below w.heap.size w w' := by
  have l1 := itoa_short A (by omega) (by omega)
  have l2 := itoa_short (A + N - 1) (by omega) (by omega)
  by_cases hN : N ≤ 1
  · have HE1 : Hid (Lib.itoa A = T) := (by have h := HR.out; unfold rgx at h; rw [if_pos hN] at h; exact h)
    clear HR
    go_enter Tryd.func29, Tryd.ntmps29
    go_wp2_with fail
    refine (nText_f A (by omega) (by omega) _ HT).mono ?_
    rintro e w1 ⟨rfl, hb1⟩
    go_wp2
    go_ret
    exact ⟨by rw [← HE1.out]; rfl, hb1⟩
  · have HE : Hid (Lib.itoa A ++ 44 :: Lib.itoa (A + N - 1) = T) := (by have h := HR.out; unfold rgx at h; rw [if_neg hN] at h; exact h)
    clear HR
    have q1 := add_fits (x := Lib.itoa A) (y := [44]) (by unfold Fits; simp only [List.length_cons, List.length_nil]; omega) Tryd.prog
    have q2 := add_fits (x := Lib.itoa A ++ [44]) (y := Lib.itoa (A + N - 1)) (by unfold Fits; simp only [List.length_append, List.length_cons, List.length_nil]; omega) Tryd.prog
    go_enter Tryd.func29, Tryd.ntmps29
    go_wp2_with fail
    refine (nText_f A (by omega) (by omega) _ HT).mono ?_
    rintro e w1 ⟨rfl, hb1⟩
    have HT1 : Hid (Tab10 w1) := HT.out.on hb1
    go_wp2_with fail
    refine (nText_f (A + N - 1) (by omega) (by omega) _ HT1).mono ?_
    rintro e w2 ⟨rfl, hb2⟩
    go_wp2
    go_ret
    exact ⟨by rw [← HE.out]; rfl, hb1.trans (hb2.mono hb1.size)⟩
/-- what a hunk does, as the code writes it -/
def ltrT (AN BN : Int) : List UInt8 := if AN = 0 then [97] else if BN = 0 then [100] else [99]
theorem ltr_len (AN BN : Int) : (ltrT AN BN).length = 1 := by
  unfold ltrT
  split
  · rfl
  · split <;> rfl
set_option maxHeartbeats 1000000 in
theorem nletter_f (h : Hk) (v : Value) (w : World) (hv : HMk w v h.ls) (T : List UInt8) (HR : Hid (ltrT h.AN h.BN = T)) :
    Calls Tryd.prog 30 #[hkV h v] w fun e w' => e = .returned (.string ⟨T.toArray⟩) ∧ Below w.heap.size w w' := by
  have hBl : Below w.heap.size w (w.alloc (hkO h v)) := (Below.refl _ w).alloc (Nat.le_refl _) _
  obtain ⟨c0, c1, c2, c3, c4⟩ := (Hx.new w h v).cells
  unfold hkO at c0 c1 c2 c3 c4 hBl
  obtain ⟨lo, lc, rfl⟩ := HMk.form hv
  have e : hkV h (.slice lo h.ls.length lc) = .agg #[.int .i64 h.A, .int .i64 h.AN, .int .i64 h.B, .int .i64 h.BN, .slice lo h.ls.length lc] := rfl
  rw [e]
  clear e
  by_cases h1 : h.AN = 0
  · have e1 : (h.AN == 0) = true := by rw [h1]; rfl
    have hE : [97] = T := (by have q := HR.out; unfold ltrT at q; rw [if_pos h1] at q; exact q)
    subst hE
    clear HR h1
    go_enter Tryd.func30, Tryd.ntmps30
    go_wp2
    go_ret
    exact ⟨rfl, hBl⟩
  · have e1 : (h.AN == 0) = false := beq_eq_false_iff_ne.2 h1
    by_cases h2 : h.BN = 0
    · have e2 : (h.BN == 0) = true := by rw [h2]; rfl
      have hE : [100] = T := (by have q := HR.out; unfold ltrT at q; rw [if_neg h1, if_pos h2] at q; exact q)
      subst hE
      clear HR h1 h2
      go_enter Tryd.func30, Tryd.ntmps30
      go_wp2
      go_ret
      exact ⟨rfl, hBl⟩
    · have e2 : (h.BN == 0) = false := beq_eq_false_iff_ne.2 h2
      have hE : [99] = T := (by have q := HR.out; unfold ltrT at q; rw [if_neg h1, if_neg h2] at q; exact q)
      subst hE
      clear HR h1 h2
      go_enter Tryd.func30, Tryd.ntmps30
      go_wp2
      go_ret
      exact ⟨rfl, hBl⟩
set_option maxHeartbeats 1000000 in
theorem ndivided_f (h : Hk) (v : Value) (w : World) (hv : ∃ lo n lc, v = .slice lo n lc) (r : Bool) (HR : Hid ((decide (0 < h.AN) && decide (0 < h.BN)) = r)) :
    Calls Tryd.prog 33 #[hkV h v] w fun e w' => e = .returned (.bool r) ∧ Below w.heap.size w w' := by
  have hBl : Below w.heap.size w (w.alloc (hkO h v)) := (Below.refl _ w).alloc (Nat.le_refl _) _
  obtain ⟨c0, c1, c2, c3, c4⟩ := (Hx.new w h v).cells
  unfold hkO at c0 c1 c2 c3 c4 hBl
  obtain ⟨lo, n, lc, rfl⟩ := hv
  have e : hkV h (.slice lo n lc) = .agg #[.int .i64 h.A, .int .i64 h.AN, .int .i64 h.B, .int .i64 h.BN, .slice lo n lc] := rfl
  rw [e]
  clear e
  by_cases h1 : 0 < h.AN
  · have hE : decide (0 < h.BN) = r := (by rw [← HR.out]; simp [h1])
    subst hE
    clear HR
    go_enter Tryd.func33, Tryd.ntmps33
    go_wp2
    go_ret
    exact ⟨rfl, hBl⟩
  · have hE : false = r := (by rw [← HR.out]; simp [h1])
    subst hE
    clear HR
    go_enter Tryd.func33, Tryd.ntmps33
    go_wp2
    go_ret
    exact ⟨rfl, hBl⟩
end Go.Proofs.YtgiojkhmkeocfaaDoor

/- A line as it stands in a patch (package patchtext), walked. -/
namespace Go.Proofs.YtgiojkhmkeocfaaDoor
open Go.RowKit

theorem suf_feed (s : List UInt8) : Lib.hasSuffix s [10] = fdB s := by
  unfold Lib.hasSuffix fdB
  rw [Bool.eq_iff_iff, List.isSuffixOf_iff_suffix, beq_iff_eq]
  constructor
  · rintro ⟨t, rfl⟩
    simp
  · intro h
    obtain ⟨t, rfl⟩ := List.getLast?_eq_some_iff.1 h
    exact ⟨t, rfl⟩
/-- a line of a file as it stands behind its sign -/
def plT (s : List UInt8) : List UInt8 := if fdB s = true then s else s ++ 10 :: markT
theorem pl_lines (ah s : List UInt8) : (lnL ah s).flatten = ah ++ plT s := by
  unfold lnL plT
  split <;> simp
set_option maxHeartbeats 1000000 in
theorem pline_f (s : List UInt8) (w : World) (hs : s.length ≤ 1099511627776) (Z : List UInt8) (HZ : Hid (plT s = Z)) :
    Calls Tryd.prog 72 #[.string ⟨s.toArray⟩] w fun e w' => e = .returned (.string ⟨Z.toArray⟩) ∧ w' = w := by
  cases hf : fdB s with
  | true =>
    have HE : Hid (s = Z) := (by have h := HZ.out; unfold plT at h; rw [if_pos hf] at h; exact h)
    clear HZ
    go_enter Tryd.func72, Tryd.ntmps72
    go_wp2_with fail
    refine (Tryd.strings_HasSuffix ⟨s.toArray⟩ ⟨#[10]⟩ w (by show s.length ≤ _; omega)).mono ?_
    rintro e w2 ⟨rfl, rfl⟩
    have e1 : Lib.hasSuffix (⟨s.toArray⟩ : ByteArray).data.toList (⟨#[10]⟩ : ByteArray).data.toList = true := (suf_feed s).trans hf
    rw [e1]
    clear e1 hf
    go_wp2
    go_ret
    exact ⟨by rw [← HE.out]; rfl, rfl⟩
  | false =>
    have HE : Hid (s ++ 10 :: markT = Z) := (by have h := HZ.out; unfold plT at h; rw [if_neg (by rw [hf]; decide)] at h; exact h)
    have q1 := add_fits (x := s) (y := 10 :: markT) (by unfold Fits; simp only [markT, List.length_cons, List.length_nil]; omega) Tryd.prog
    rw [HE.out] at q1
    unfold markT at q1
    have q2 := add_fits (x := s) (y := [10]) (by unfold Fits; simp only [List.length_cons, List.length_nil]; omega) Tryd.prog
    have q3 := add_fits (x := s ++ [10]) (y := markT) (by unfold Fits; simp only [markT, List.length_append, List.length_cons, List.length_nil]; omega) Tryd.prog
    have q4 : s ++ [10] ++ markT = Z := (by rw [← HE.out]; simp)
    rw [q4] at q3
    unfold markT at q3
    clear HZ q4
    go_enter Tryd.func72, Tryd.ntmps72
    go_wp2_with fail
    refine (Tryd.strings_HasSuffix ⟨s.toArray⟩ ⟨#[10]⟩ w (by show s.length ≤ _; omega)).mono ?_
    rintro e w2 ⟨rfl, rfl⟩
    have e1 : Lib.hasSuffix (⟨s.toArray⟩ : ByteArray).data.toList (⟨#[10]⟩ : ByteArray).data.toList = false := (suf_feed s).trans hf
    rw [e1]
    clear e1 hf
    go_wp2
    go_ret
    exact ⟨rfl, rfl⟩
end Go.Proofs.YtgiojkhmkeocfaaDoor

/- The code's writeLines of layer 12, walked: lines behind a sign are written into a builder. -/
namespace Go.Proofs.YtgiojkhmkeocfaaDoor
open Go.RowKit

theorem bcells_len (l : List UInt8) : (Lib.byteCells l).length = l.length := by simp [Lib.byteCells]
/-- a builder stays as it is where all ahead stays -/
theorem isF_low {T e : TypeId} {B b : Nat} {bs : List Value} {w w' : World} (h : Lib.IsBuilderF T e B b bs w) (hb : Below w.heap.size w w') : Lib.IsBuilderF T e B b bs w' := by
  have key : ∀ p, Lib.BuilderAtF T e B b p bs w → Lib.BuilderAtF T e B b p bs w' := by
    rintro p ⟨h1, v, h2, h3, h4⟩
    refine ⟨h1, v, (hb.block b (Array.getElem?_eq_some_iff.1 h2).1).trans h2, ⟨h3.1, ?_⟩, h4⟩
    rcases h3.2 with q | ⟨g, cap, cur, fz, q1, q2, q3, q4⟩
    · exact .inl q
    · exact .inr ⟨g, cap, cur, fz, q1, q2, (hb.block g (Array.getElem?_eq_some_iff.1 q3).1).trans q3, q4⟩
  rcases h with h | h
  · exact .inl (key _ h)
  · exact .inr (key _ h)
theorem isF_fresh (w : World) : Lib.IsBuilderF 61 5 w.heap.size w.heap.size (Lib.byteCells []) (w.alloc (.cells #[.pointer none, .slice none 0 0] 61)) :=
  .inl ⟨Nat.le_refl _, .slice none 0 0, heap_alloc_new w _, ⟨rfl, .inl ⟨rfl, rfl⟩⟩, by simp [Value.ownBlock]⟩
/-- a row of texts of one's own stays where a builder is written -/
theorem owns_others {w u : World} {base b : Nat} {v : Value} {n : Nat} {xs : List Value} (h : w.ownsRow base 9 1 v n xs) (hk : Lib.OthersKept 5 (some b) w u) (hb : ∀ g, v.ownBlock = some g → g ≠ b) : u.ownsRow base 9 1 v n xs := by
  refine ⟨h.1, ?_⟩
  rcases h.2 with q | ⟨g, cap, cur, rfl, q2, q3, q4⟩
  · exact .inl q
  · refine .inr ⟨g, cap, cur, rfl, q2, hk g _ q3 (fun e => hb g rfl (Option.some.inj e)) (fun c fz e => ?_), q4⟩
    cases e
theorem hx_others {w u : World} {b B : Nat} {h : Hk} {v : Value} (q : Hx w B h v) (hk : Lib.OthersKept 5 (some b) w u) (hb : B ≠ b) : Hx u B h v :=
  hk B _ q (fun e => hb (Option.some.inj e)) (fun c fz e => by cases e)
set_option maxHeartbeats 2000000 in
theorem nlines_f (B b : Nat) (acc ah : List UInt8) (x : List (List UInt8)) (v : Value) (w : World) (hB : Lib.IsBuilderF 61 5 B b (Lib.byteCells acc) w) (hBw : B ≤ w.heap.size)
    (hv : ∃ vo vc, v = .slice vo x.length vc) (HV : Hid (∀ u, Lib.OthersKept 5 (some b) w u → HS u v x)) (hxl : x.length ≤ 1099511627776) (HTX : Hid (∀ s ∈ x, s.length ≤ 1099511627776)) (hal : ah.length ≤ 10) (Z : List UInt8) (HZ : Hid (acc ++ (x.flatMap (lnL ah)).flatten = Z)) (hZ : Z.length ≤ 70368744177664) :
    Calls Tryd.prog 31 #[.pointer (some ⟨b, 0, none⟩), .string ⟨ah.toArray⟩, v] w fun e w' => e = .returned (.tuple #[]) ∧ Lib.IsBuilderF 61 5 B b (Lib.byteCells Z) w' ∧ Below B w w' ∧ Lib.OthersKept 5 (some b) w w' := by
  obtain ⟨vo, vc, rfl⟩ := hv
  go_enter Tryd.func31, Tryd.ntmps31
  go_wp2
  go_loopw [10] (fun i wr => ∃ (k : Nat) (ac : List UInt8), k ≤ x.length ∧ i = .int .i64 (k : Int) ∧ Lib.IsBuilderF 61 5 B b (Lib.byteCells ac) wr ∧ Below B w wr ∧ Lib.OthersKept 5 (some b) w wr ∧ Hid (ac ++ ((x.drop k).flatMap (lnL ah)).flatten = Z)) (fun i _ => x.length - (intOf i).toNat)
  case atStart => exact ⟨0, acc, Nat.zero_le _, by go_num, hB, Below.refl _ _, Lib.OthersKept.refl _ _ _, HZ⟩
  case round =>
    obtain ⟨k, ac, hk, rfl, hBr, hbr, hor, HI⟩ := hrel
    have hbz : B ≤ wr.heap.size := Nat.le_trans hBw hbr.size
    have hacl : ac.length ≤ 70368744177664 := (by
      have h1 := congrArg List.length HI.out
      rw [List.length_append] at h1
      omega)
    by_cases hlt : k < x.length
    · obtain ⟨bk, off, rfl, hbk, hcl⟩ := HS.at (HV.out wr hor) (by omega)
      have c0 := hcl k hlt
      have hsl := HTX.out x[k] (List.getElem_mem _)
      have HE : Hid (ac ++ (lnL ah x[k]).flatten ++ ((x.drop (k + 1)).flatMap (lnL ah)).flatten = Z) := (by
        show _ = _
        rw [← HI.out, List.drop_eq_getElem_cons hlt, List.flatMap_cons, List.flatten_append, List.append_assoc])
      obtain ⟨s, hs⟩ : ∃ s, x[k] = s := ⟨_, rfl⟩
      rw [hs] at c0 hsl HE
      clear hcl hs HI HV HTX HZ
      have i1 : 0 ≤ (k : Int) := by omega
      have i2 : (k : Int) < (x.length : Int) := by omega
      obtain ⟨T, hT⟩ : ∃ T, plT s = T := ⟨_, rfl⟩
      have HT : Hid (plT s = T) := hT
      have hTl : T.length ≤ s.length + 29 := (by
        rw [← hT]
        unfold plT
        split
        · omega
        · simp only [markT, List.length_append, List.length_cons, List.length_nil]
          omega)
      have HE2 : Hid (ac ++ (ah ++ T) ++ ((x.drop (k + 1)).flatMap (lnL ah)).flatten = Z) := (by
        show _ = _
        rw [← HE.out, pl_lines, hT])
      have hZl : ac.length + (ah ++ T).length ≤ 70368744177664 := (by
        have h1 := congrArg List.length HE2.out
        simp only [List.length_append] at h1 ⊢
        omega)
      have q1 := add_fits (x := ah) (y := T) (by unfold Fits; omega) Tryd.prog
      clear hT HE
      go_wp2_with fail
      refine (pline_f s wr hsl T HT).mono ?_
      rintro e w0 ⟨rfl, rfl⟩
      go_wp2_with fail
      refine (Tryd.WriteString_h B b _ _ w0 hBr (by rw [bcells_len]; show ac.length + (ah ++ T).length ≤ _; omega) hbz).mono ?_
      rintro e w1 ⟨rfl, hB1, hb1, ho1⟩
      have hB2 : Lib.IsBuilderF 61 5 B b (Lib.byteCells (ac ++ (ah ++ T))) w1 := .inr (by rw [Lib.byteCells_append]; exact hB1)
      have hb2 := hbr.trans hb1
      have ho2 := hor.trans ho1
      clear hB1 hb1 ho1 hBr hbr hor q1 c0
      go_wp2
      exact ⟨⟨k + 1, _, by omega, by go_num, hB2, hb2, ho2, HE2⟩, by simp [intOf]; omega⟩
    · have HE : Hid (ac = Z) := (by
        have h := HI.out
        rw [List.drop_of_length_le (by omega)] at h
        show ac = Z
        simpa using h)
      have hend : decide ((k : Int) < (x.length : Int)) = false := decide_eq_false (by omega)
      clear HI
      go_wp2
      first
        | go_end0
        | refine bodyPost_ret (results_none rfl _ _ _) rfl ?_
        | refine bodyPost_end (results_none rfl _ _ _) rfl ?_
      exact ⟨rfl, by rw [← HE.out]; exact hBr, hbr, hor⟩
end Go.Proofs.YtgiojkhmkeocfaaDoor
