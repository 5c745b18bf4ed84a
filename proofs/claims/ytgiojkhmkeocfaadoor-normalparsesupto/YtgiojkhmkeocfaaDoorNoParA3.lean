/-
  Texts that belong together, joined: Itoa, NoShelf, NoShelfX, LnShelf, LnMath, HuLm, Math, PMath, BackMath, NoMath, NoB, NoRd, NoPk, NoJn, NoMk, NoWs, NoTx, NoRf, NoCg, NoM2, NoM3, NoPr, NoLen, NcW, PtL, NcL.
-/
import Derived.Shelf.Strconv.Itoa3
import Derived.Test.YtgiojkhmkeocfaaDoorProg
import Derived.Shelf.Strings.BuilderK
import Derived.Shelf.Small.Wraps
import Derived.Shelf.Small.Strs
import Derived.Shelf.Strings.IndexAny
import Derived.Shelf.Small.Utf8
import Derived.Shelf.Strings.Runes
import Derived.Shelf.Strings.IndexAnyAll
import Derived.Shelf.Strings.Search2
import Derived.Shelf.Strings.Search3
import Derived.Lib.Bytealg
import Derived.Lib.Join
import Derived.Test.YtgiojkhmkeocfaaDoorNoParA1
import Derived.Lib.ItoaNum
import Derived.Deep.CutBlock
import Derived.Deep.RegionHeld3
import Derived.Laws.IdiomStrings
import Derived.Deep.DeepCutAuto
import Derived.Test.YtgiojkhmkeocfaaDoorNoParA2
import Derived.Lib.AppendIntMem
import Derived.Lib.FrozenHead2

/- Contracts of the library at this program: the program bears the bodies that they speak of. Taken: strconv_Itoa. -/
namespace Go.Proofs
open Go.Shelf
def Tryd.laysM171_ren : Go.Shelf.Ren := ⟨fun | 171 => 111 | 243 => 146 | 246 => 169 | 283 => 180 | 284 => 181 | 285 => 182 | 286 => 183 | 129 => 190 | 317 => 189 | 318 => 191 | 319 => 192 | 320 => 193 | 337 => 194 | 338 => 195 | n => n, fun | 3 => 3 | 9 => 9 | 2 => 2 | 4 => 4 | 171 => 212 | 0 => 0 | 53 => 152 | 37 => 59 | 5 => 5 | 173 => 215 | 212 => 221 | 51 => 207 | 20 => 20 | 213 => 222 | 46 => 175 | 232 => 225 | 233 => 226 | n => n, fun | 17 => 2 | 18 => 3 | 19 => 4 | n => n⟩
theorem Tryd.laysM171 : Go.Proofs.LaysM.n171 Tryd.prog Tryd.laysM171_ren := {
  mixed := by kernel_rfl
  f129 := Tryd.func190.trans (congrArg some (by kernel_rfl))
  f171 := Tryd.func111.trans (congrArg some (by kernel_rfl))
  f243 := Tryd.func146.trans (congrArg some (by kernel_rfl))
  f246 := Tryd.func169.trans (congrArg some (by kernel_rfl))
  f283 := Tryd.func180.trans (congrArg some (by kernel_rfl))
  f284 := Tryd.func181.trans (congrArg some (by kernel_rfl))
  f285 := Tryd.func182.trans (congrArg some (by kernel_rfl))
  f286 := Tryd.func183.trans (congrArg some (by kernel_rfl))
  f317 := Tryd.func189.trans (congrArg some (by kernel_rfl))
  f318 := Tryd.func191.trans (congrArg some (by kernel_rfl))
  f319 := Tryd.func192.trans (congrArg some (by kernel_rfl))
  f320 := Tryd.func193.trans (congrArg some (by kernel_rfl))
  f337 := Tryd.func194.trans (congrArg some (by kernel_rfl))
  f338 := Tryd.func195.trans (congrArg some (by kernel_rfl))
  t0 := Tryd.underlying0
  a0 := Tryd.isAgg0
  z0 := Tryd.sizeOf0
  v0 := Tryd.zeroValue0
  t2 := Tryd.underlying2
  a2 := Tryd.isAgg2
  z2 := Tryd.sizeOf2
  v2 := Tryd.zeroValue2
  t3 := Tryd.underlying3
  a3 := Tryd.isAgg3
  z3 := Tryd.sizeOf3
  v3 := Tryd.zeroValue3
  t4 := Tryd.underlying4
  a4 := Tryd.isAgg4
  z4 := Tryd.sizeOf4
  v4 := Tryd.zeroValue4
  t5 := Tryd.underlying5
  a5 := Tryd.isAgg5
  z5 := Tryd.sizeOf5
  v5 := Tryd.zeroValue5
  t9 := Tryd.underlying9
  a9 := Tryd.isAgg9
  z9 := Tryd.sizeOf9
  v9 := Tryd.zeroValue9
  t20 := Tryd.underlying20
  a20 := Tryd.isAgg20
  z20 := Tryd.sizeOf20
  v20 := Tryd.zeroValue20
  t37 := Tryd.underlying59
  a37 := Tryd.isAgg59
  z37 := Tryd.sizeOf59
  v37 := Tryd.zeroValue59
  t46 := Tryd.underlying175
  a46 := Tryd.isAgg175
  z46 := Tryd.sizeOf175
  v46 := Tryd.zeroValue175
  t51 := Tryd.underlying207
  a51 := Tryd.isAgg207
  z51 := Tryd.sizeOf207
  v51 := Tryd.zeroValue207
  t53 := Tryd.underlying152
  a53 := Tryd.isAgg152
  z53 := Tryd.sizeOf152
  v53 := Tryd.zeroValue152
  t171 := Tryd.underlying212
  a171 := Tryd.isAgg212
  z171 := Tryd.sizeOf212
  v171 := Tryd.zeroValue212
  t173 := Tryd.underlying215
  a173 := Tryd.isAgg215
  z173 := Tryd.sizeOf215
  v173 := Tryd.zeroValue215
  t212 := Tryd.underlying221
  a212 := Tryd.isAgg221
  z212 := Tryd.sizeOf221
  v212 := Tryd.zeroValue221
  t213 := Tryd.underlying222
  a213 := Tryd.isAgg222
  z213 := Tryd.sizeOf222
  t232 := Tryd.underlying225
  a232 := Tryd.isAgg225
  z232 := Tryd.sizeOf225
  v232 := Tryd.zeroValue225
  t233 := Tryd.underlying226
  a233 := Tryd.isAgg226
  z233 := Tryd.sizeOf226
  v233 := Tryd.zeroValue226
  g17 := by kernel_rfl
  g18 := by kernel_rfl
  g19 := by kernel_rfl
  i0 := by kernel_rfl
  i2 := by kernel_rfl
  i3 := by kernel_rfl
  i4 := by kernel_rfl
  i5 := by kernel_rfl
  i9 := by kernel_rfl
  i20 := by kernel_rfl
  i37 := by kernel_rfl
  i46 := by kernel_rfl
  i51 := by kernel_rfl
  i53 := by kernel_rfl
  i171 := by kernel_rfl
  i173 := by kernel_rfl
  i212 := by kernel_rfl
  i232 := by kernel_rfl
  i233 := by kernel_rfl
  m17 := by kernel_rfl
  m18 := by kernel_rfl
  m19 := by kernel_rfl }
open Go.RowKit Go.Sort Go.Lib in
theorem Tryd.strconv_Itoa (n : Int) (h0 : -9223372036854775808 ≤ n) (h1 : n ≤ 9223372036854775807) (w : World) (htab : Lib.TabIs Tryd.prog w "internal/strconv.uint64pow10" .u64 Lib.pow10Tab) :
    Calls Tryd.prog 111 #[.int .i64 n] w fun e w' => e = .returned (.string ⟨(Lib.itoa n).toArray⟩) ∧ ∃ k os, w' = grow (w.drewN k) os := Any.strconv_Itoa Tryd.laysM171 n h0 h1 w htab
end Go.Proofs

/- Contracts of the library at this program: the program bears the bodies that they speak of. Taken: Builder_String_any_k, strings_HasSuffix, strings_HasPrefix, strings_TrimSuffix, strings_CutPrefix, strings_IndexByte. -/
namespace Go.Proofs
open Go.Shelf
def Tryd.lays169_ren : Go.Shelf.Ren := ⟨fun | 169 => 35 | n => n, fun | 70 => 58 | 9 => 9 | 0 => 0 | 72 => 61 | 37 => 59 | 127 => 113 | 3 => 3 | 5 => 5 | n => n, fun | n => n⟩
theorem Tryd.lays169 : Go.Proofs.Lays.n169 Tryd.prog Tryd.lays169_ren := {
  mixed := by kernel_rfl
  f169 := Tryd.func35.trans (congrArg some (by kernel_rfl))
  t0 := Tryd.underlying0
  a0 := Tryd.isAgg0
  z0 := Tryd.sizeOf0
  v0 := Tryd.zeroValue0
  t3 := Tryd.underlying3
  a3 := Tryd.isAgg3
  z3 := Tryd.sizeOf3
  v3 := Tryd.zeroValue3
  t9 := Tryd.underlying9
  a9 := Tryd.isAgg9
  z9 := Tryd.sizeOf9
  v9 := Tryd.zeroValue9
  t37 := Tryd.underlying59
  a37 := Tryd.isAgg59
  z37 := Tryd.sizeOf59
  v37 := Tryd.zeroValue59
  t70 := Tryd.underlying58
  a70 := Tryd.isAgg58
  z70 := Tryd.sizeOf58
  v70 := Tryd.zeroValue58
  t72 := Tryd.underlying61
  a72 := Tryd.isAgg61
  z72 := Tryd.sizeOf61
  v72 := Tryd.zeroValue61
  t127 := Tryd.underlying113
  a127 := Tryd.isAgg113
  z127 := Tryd.sizeOf113
  v127 := Tryd.zeroValue113 }
theorem Tryd.Builder_Extra_169 : Builder.Extra Tryd.prog Tryd.lays169_ren := {
  sizeBuilder := by kernel_rfl
  liesBuilder := by kernel_rfl
  t5 := Tryd.underlying5
  a5 := Tryd.isAgg5
  z5 := Tryd.sizeOf5
  v5 := Tryd.zeroValue5
  infoByte := by kernel_rfl
  cellsByte := by kernel_rfl
  sizeByte := by kernel_rfl
  neB5 := by decide }
def Tryd.lays137_ren : Go.Shelf.Ren := ⟨fun | 137 => 184 | 217 => 152 | 266 => 176 | n => n, fun | 9 => 9 | 5 => 5 | 3 => 3 | n => n, fun | n => n⟩
theorem Tryd.lays137 : Go.Proofs.Lays.n137 Tryd.prog Tryd.lays137_ren := {
  mixed := by kernel_rfl
  f137 := Tryd.func184.trans (congrArg some (by kernel_rfl))
  f217 := Tryd.func152.trans (congrArg some (by kernel_rfl))
  f266 := Tryd.func176.trans (congrArg some (by kernel_rfl))
  t3 := Tryd.underlying3
  a3 := Tryd.isAgg3
  z3 := Tryd.sizeOf3
  v3 := Tryd.zeroValue3
  t5 := Tryd.underlying5
  a5 := Tryd.isAgg5
  z5 := Tryd.sizeOf5
  v5 := Tryd.zeroValue5
  t9 := Tryd.underlying9
  a9 := Tryd.isAgg9
  z9 := Tryd.sizeOf9
  v9 := Tryd.zeroValue9 }
open Go.RowKit in
theorem Tryd.strings_IndexByte (s : ByteArray) (c : Int) (w : World) :
    Calls Tryd.prog 184 #[.string s, .int .u8 c] w fun e w' => e = .returned (.int .i64 (Lib.indexByte s.data.toList c.toNat.toUInt8)) ∧ w' = w := Any.strings_IndexByte Tryd.lays137 s c w
def Tryd.lays103_ren : Go.Shelf.Ren := ⟨fun | 103 => 137 | 210 => 162 | 206 => 164 | n => n, fun | 9 => 9 | 4 => 4 | 24 => 143 | 3 => 3 | n => n, fun | n => n⟩
theorem Tryd.lays103 : Go.Proofs.Lays.n103 Tryd.prog Tryd.lays103_ren := {
  mixed := by kernel_rfl
  f103 := Tryd.func137.trans (congrArg some (by kernel_rfl))
  f206 := Tryd.func164.trans (congrArg some (by kernel_rfl))
  f210 := Tryd.func162.trans (congrArg some (by kernel_rfl))
  t3 := Tryd.underlying3
  a3 := Tryd.isAgg3
  z3 := Tryd.sizeOf3
  v3 := Tryd.zeroValue3
  t4 := Tryd.underlying4
  a4 := Tryd.isAgg4
  z4 := Tryd.sizeOf4
  v4 := Tryd.zeroValue4
  t9 := Tryd.underlying9
  a9 := Tryd.isAgg9
  z9 := Tryd.sizeOf9
  v9 := Tryd.zeroValue9
  t24 := Tryd.underlying143
  a24 := Tryd.isAgg143
  z24 := Tryd.sizeOf143
  v24 := Tryd.zeroValue143 }
open Go.RowKit in
theorem Tryd.strings_CutPrefix (s p : ByteArray) (w : World) :
    Calls Tryd.prog 137 #[.string s, .string p] w fun e w' => e = .returned (.tuple #[.string ⟨(Lib.trimPrefix s.data.toList p.data.toList).toArray⟩, .bool (Lib.hasPrefix s.data.toList p.data.toList)]) ∧ w' = w := Any.strings_CutPrefix Tryd.lays103 s p w
open Go.RowKit in
theorem Tryd.Builder_String_any_k (B b : Nat) (l : List UInt8) (w : World) (h : Lib.IsBuilderF 61 5 B b (Lib.byteCells l) w) (hBw : B ≤ w.heap.size) :
    Calls Tryd.prog 35 #[.pointer (some ⟨b, 0, none⟩)] w fun e w' => e = .returned (.string ⟨l.toArray⟩) ∧ (Lib.IsBuilderF 61 5 B b (Lib.byteCells l) w' ∧ Below B w w' ∧ Lib.OthersKept 5 (some b) w w') := Any.Builder_String_any_k Tryd.lays169 Tryd.Builder_Extra_169 B b l w h hBw
def Tryd.lays99_ren : Go.Shelf.Ren := ⟨fun | 99 => 141 | 206 => 164 | n => n, fun | 9 => 9 | 4 => 4 | 3 => 3 | n => n, fun | n => n⟩
theorem Tryd.lays99 : Go.Proofs.Lays.n99 Tryd.prog Tryd.lays99_ren := {
  mixed := by kernel_rfl
  f99 := Tryd.func141.trans (congrArg some (by kernel_rfl))
  f206 := Tryd.func164.trans (congrArg some (by kernel_rfl))
  t3 := Tryd.underlying3
  a3 := Tryd.isAgg3
  z3 := Tryd.sizeOf3
  v3 := Tryd.zeroValue3
  t4 := Tryd.underlying4
  a4 := Tryd.isAgg4
  z4 := Tryd.sizeOf4
  v4 := Tryd.zeroValue4
  t9 := Tryd.underlying9
  a9 := Tryd.isAgg9
  z9 := Tryd.sizeOf9
  v9 := Tryd.zeroValue9 }
open Go.RowKit Go.Lib in
theorem Tryd.strings_HasPrefix (s p : ByteArray) (w : World) :
    Calls Tryd.prog 141 #[.string s, .string p] w fun e w' => e = .returned (.bool (Lib.hasPrefix s.data.toList p.data.toList)) ∧ w' = w := Any.strings_HasPrefix Tryd.lays99 s p w
def Tryd.lays100_ren : Go.Shelf.Ren := ⟨fun | 100 => 112 | 207 => 147 | n => n, fun | 9 => 9 | 4 => 4 | 3 => 3 | n => n, fun | n => n⟩
theorem Tryd.lays100 : Go.Proofs.Lays.n100 Tryd.prog Tryd.lays100_ren := {
  mixed := by kernel_rfl
  f100 := Tryd.func112.trans (congrArg some (by kernel_rfl))
  f207 := Tryd.func147.trans (congrArg some (by kernel_rfl))
  t3 := Tryd.underlying3
  a3 := Tryd.isAgg3
  z3 := Tryd.sizeOf3
  v3 := Tryd.zeroValue3
  t4 := Tryd.underlying4
  a4 := Tryd.isAgg4
  z4 := Tryd.sizeOf4
  v4 := Tryd.zeroValue4
  t9 := Tryd.underlying9
  a9 := Tryd.isAgg9
  z9 := Tryd.sizeOf9
  v9 := Tryd.zeroValue9 }
open Go.RowKit Go.Lib in
theorem Tryd.strings_HasSuffix (s p : ByteArray) (w : World) (hs : s.size ≤ 9223372036854775807) :
    Calls Tryd.prog 112 #[.string s, .string p] w fun e w' => e = .returned (.bool (Lib.hasSuffix s.data.toList p.data.toList)) ∧ w' = w := Any.strings_HasSuffix Tryd.lays100 s p w hs
def Tryd.lays102_ren : Go.Shelf.Ren := ⟨fun | 102 => 115 | 209 => 150 | 207 => 147 | n => n, fun | 9 => 9 | 4 => 4 | 3 => 3 | n => n, fun | n => n⟩
theorem Tryd.lays102 : Go.Proofs.Lays.n102 Tryd.prog Tryd.lays102_ren := {
  mixed := by kernel_rfl
  f102 := Tryd.func115.trans (congrArg some (by kernel_rfl))
  f207 := Tryd.func147.trans (congrArg some (by kernel_rfl))
  f209 := Tryd.func150.trans (congrArg some (by kernel_rfl))
  t3 := Tryd.underlying3
  a3 := Tryd.isAgg3
  z3 := Tryd.sizeOf3
  v3 := Tryd.zeroValue3
  t4 := Tryd.underlying4
  a4 := Tryd.isAgg4
  z4 := Tryd.sizeOf4
  v4 := Tryd.zeroValue4
  t9 := Tryd.underlying9
  a9 := Tryd.isAgg9
  z9 := Tryd.sizeOf9
  v9 := Tryd.zeroValue9 }
open Go.RowKit Go.Lib in
theorem Tryd.strings_TrimSuffix (s p : ByteArray) (w : World) (hs : s.size ≤ 9223372036854775807) :
    Calls Tryd.prog 115 #[.string s, .string p] w fun e w' => e = .returned (.string ⟨(Lib.trimSuffix s.data.toList p.data.toList).toArray⟩) ∧ w' = w := Any.strings_TrimSuffix Tryd.lays102 s p w hs
end Go.Proofs

/- Contracts of the library at this program: the program bears the bodies that they speak of. Taken: utf8_ValidRune, strings_IndexRune_ascii, strings_IndexAny_long, strings_IndexByte, stringslite_Index_one. -/
namespace Go.Proofs
open Go.Shelf
def Tryd.lays119_ren : Go.Shelf.Ren := ⟨fun | 119 => 185 | n => n, fun | 21 => 21 | 4 => 4 | n => n, fun | n => n⟩
theorem Tryd.lays119 : Go.Proofs.Lays.n119 Tryd.prog Tryd.lays119_ren := {
  mixed := by kernel_rfl
  f119 := Tryd.func185.trans (congrArg some (by kernel_rfl))
  t4 := Tryd.underlying4
  a4 := Tryd.isAgg4
  z4 := Tryd.sizeOf4
  v4 := Tryd.zeroValue4
  t21 := Tryd.underlying21
  a21 := Tryd.isAgg21
  z21 := Tryd.sizeOf21
  v21 := Tryd.zeroValue21 }
theorem Tryd.utf8_ValidRune (r : Int) (w : World) :
    Calls Tryd.prog 185 #[.int .i32 r] w fun e w' => e = .returned (.bool (Lib.validRune r)) ∧ w' = w := Any.utf8_ValidRune Tryd.lays119 r w
def Tryd.lays219_ren : Go.Shelf.Ren := ⟨fun | 219 => 120 | 217 => 152 | 225 => 153 | 224 => 154 | 267 => 155 | 266 => 176 | 314 => 177 | n => n, fun | 9 => 9 | 3 => 3 | 4 => 4 | 5 => 5 | 46 => 175 | 146 => 208 | 51 => 207 | n => n, fun | 1 => 1 | n => n⟩
theorem Tryd.lays219 : Go.Proofs.Lays.n219 Tryd.prog Tryd.lays219_ren := {
  mixed := by kernel_rfl
  f217 := Tryd.func152.trans (congrArg some (by kernel_rfl))
  f219 := Tryd.func120.trans (congrArg some (by kernel_rfl))
  f224 := Tryd.func154.trans (congrArg some (by kernel_rfl))
  f225 := Tryd.func153.trans (congrArg some (by kernel_rfl))
  f266 := Tryd.func176.trans (congrArg some (by kernel_rfl))
  f267 := Tryd.func155.trans (congrArg some (by kernel_rfl))
  f314 := Tryd.func177.trans (congrArg some (by kernel_rfl))
  t3 := Tryd.underlying3
  a3 := Tryd.isAgg3
  z3 := Tryd.sizeOf3
  v3 := Tryd.zeroValue3
  t4 := Tryd.underlying4
  a4 := Tryd.isAgg4
  z4 := Tryd.sizeOf4
  v4 := Tryd.zeroValue4
  t5 := Tryd.underlying5
  a5 := Tryd.isAgg5
  z5 := Tryd.sizeOf5
  v5 := Tryd.zeroValue5
  t9 := Tryd.underlying9
  a9 := Tryd.isAgg9
  z9 := Tryd.sizeOf9
  v9 := Tryd.zeroValue9
  t46 := Tryd.underlying175
  a46 := Tryd.isAgg175
  z46 := Tryd.sizeOf175
  v46 := Tryd.zeroValue175
  t51 := Tryd.underlying207
  a51 := Tryd.isAgg207
  z51 := Tryd.sizeOf207
  v51 := Tryd.zeroValue207
  t146 := Tryd.underlying208
  a146 := Tryd.isAgg208
  z146 := Tryd.sizeOf208
  v146 := Tryd.zeroValue208
  g1 := by kernel_rfl }
open Go.RowKit Go.Lib in
theorem Tryd.stringslite_Index_one (s : ByteArray) (c : UInt8) (w : World) :
    Calls Tryd.prog 120 #[.string s, .string ⟨#[c]⟩] w fun e w' => e = .returned (.int .i64 (Lib.indexByte s.data.toList c)) ∧ w' = w := Any.stringslite_Index_one Tryd.lays219 s c w
def Tryd.lays152_ren : Go.Shelf.Ren := ⟨fun | 152 => 170 | 137 => 184 | 119 => 185 | 224 => 154 | 225 => 153 | 217 => 152 | 266 => 176 | n => n, fun | 9 => 9 | 21 => 21 | 3 => 3 | 4 => 4 | 5 => 5 | 0 => 0 | 46 => 175 | n => n, fun | n => n⟩
theorem Tryd.lays152 : Go.Proofs.Lays.n152 Tryd.prog Tryd.lays152_ren := {
  mixed := by kernel_rfl
  f119 := Tryd.func185.trans (congrArg some (by kernel_rfl))
  f137 := Tryd.func184.trans (congrArg some (by kernel_rfl))
  f152 := Tryd.func170.trans (congrArg some (by kernel_rfl))
  f217 := Tryd.func152.trans (congrArg some (by kernel_rfl))
  f224 := Tryd.func154.trans (congrArg some (by kernel_rfl))
  f225 := Tryd.func153.trans (congrArg some (by kernel_rfl))
  f266 := Tryd.func176.trans (congrArg some (by kernel_rfl))
  t0 := Tryd.underlying0
  a0 := Tryd.isAgg0
  z0 := Tryd.sizeOf0
  v0 := Tryd.zeroValue0
  t3 := Tryd.underlying3
  a3 := Tryd.isAgg3
  z3 := Tryd.sizeOf3
  v3 := Tryd.zeroValue3
  t4 := Tryd.underlying4
  a4 := Tryd.isAgg4
  z4 := Tryd.sizeOf4
  v4 := Tryd.zeroValue4
  t5 := Tryd.underlying5
  a5 := Tryd.isAgg5
  z5 := Tryd.sizeOf5
  v5 := Tryd.zeroValue5
  t9 := Tryd.underlying9
  a9 := Tryd.isAgg9
  z9 := Tryd.sizeOf9
  v9 := Tryd.zeroValue9
  t21 := Tryd.underlying21
  a21 := Tryd.isAgg21
  z21 := Tryd.sizeOf21
  v21 := Tryd.zeroValue21
  t46 := Tryd.underlying175
  a46 := Tryd.isAgg175
  z46 := Tryd.sizeOf175
  v46 := Tryd.zeroValue175 }
open Go.RowKit Go.Lib in
theorem Tryd.strings_IndexRune_ascii (s : ByteArray) (r : Int) (w : World) (h0 : 0 ≤ r) (h1 : r < 128) :
    Calls Tryd.prog 170 #[.string s, .int .i32 r] w fun e w' => e = .returned (.int .i64 (Lib.indexByte s.data.toList r.toNat.toUInt8)) ∧ w' = w := Any.strings_IndexRune_ascii Tryd.lays152 s r w h0 h1
def Tryd.lays153_ren : Go.Shelf.Ren := ⟨fun | 153 => 148 | 152 => 170 | 226 => 171 | 227 => 172 | 228 => 173 | 137 => 184 | 119 => 185 | 224 => 154 | 225 => 153 | 217 => 152 | 266 => 176 | n => n, fun | 9 => 9 | 3 => 3 | 4 => 4 | 5 => 5 | 21 => 21 | 117 => 203 | 116 => 202 | 0 => 0 | 46 => 175 | 124 => 217 | n => n, fun | n => n⟩
theorem Tryd.lays153 : Go.Proofs.Lays.n153 Tryd.prog Tryd.lays153_ren := {
  mixed := by kernel_rfl
  f119 := Tryd.func185.trans (congrArg some (by kernel_rfl))
  f137 := Tryd.func184.trans (congrArg some (by kernel_rfl))
  f152 := Tryd.func170.trans (congrArg some (by kernel_rfl))
  f153 := Tryd.func148.trans (congrArg some (by kernel_rfl))
  f217 := Tryd.func152.trans (congrArg some (by kernel_rfl))
  f224 := Tryd.func154.trans (congrArg some (by kernel_rfl))
  f225 := Tryd.func153.trans (congrArg some (by kernel_rfl))
  f226 := Tryd.func171.trans (congrArg some (by kernel_rfl))
  f227 := Tryd.func172.trans (congrArg some (by kernel_rfl))
  f228 := Tryd.func173.trans (congrArg some (by kernel_rfl))
  f266 := Tryd.func176.trans (congrArg some (by kernel_rfl))
  t0 := Tryd.underlying0
  a0 := Tryd.isAgg0
  z0 := Tryd.sizeOf0
  v0 := Tryd.zeroValue0
  t3 := Tryd.underlying3
  a3 := Tryd.isAgg3
  z3 := Tryd.sizeOf3
  v3 := Tryd.zeroValue3
  t4 := Tryd.underlying4
  a4 := Tryd.isAgg4
  z4 := Tryd.sizeOf4
  v4 := Tryd.zeroValue4
  t5 := Tryd.underlying5
  a5 := Tryd.isAgg5
  z5 := Tryd.sizeOf5
  v5 := Tryd.zeroValue5
  t9 := Tryd.underlying9
  a9 := Tryd.isAgg9
  z9 := Tryd.sizeOf9
  v9 := Tryd.zeroValue9
  t21 := Tryd.underlying21
  a21 := Tryd.isAgg21
  z21 := Tryd.sizeOf21
  v21 := Tryd.zeroValue21
  t46 := Tryd.underlying175
  a46 := Tryd.isAgg175
  z46 := Tryd.sizeOf175
  v46 := Tryd.zeroValue175
  t116 := Tryd.underlying202
  a116 := Tryd.isAgg202
  z116 := Tryd.sizeOf202
  t117 := Tryd.underlying203
  a117 := Tryd.isAgg203
  z117 := Tryd.sizeOf203
  v117 := Tryd.zeroValue203
  t124 := Tryd.underlying217
  a124 := Tryd.isAgg217
  z124 := Tryd.sizeOf217
  v124 := Tryd.zeroValue217 }
open Go.RowKit Go.Lib in
theorem Tryd.strings_IndexAny_long (hv116 : ∀ w, (zeroValue 202).run Tryd.prog w = .ok (.agg (Array.replicate 256 (.bool false))) w) (s chars : ByteArray) (w : World) (h2 : 2 ≤ chars.size) (h8 : 8 < s.size) (hs : s.size < 4294967281) (hcs : chars.size < 4294967281) (hascii : ∀ (j : Nat) b, chars.data.toList[j]? = some b → b.toNat < 128) :
    Calls Tryd.prog 148 #[.string s, .string chars] w fun e w' => e = .returned (.int .i64 (Lib.indexAny s.data.toList chars.data.toList)) ∧ w' = ((w.alloc (.cells (Lib.setCells chars.data.toList) 202)).alloc (.cells (Lib.setCells chars.data.toList) 202)) := Any.strings_IndexAny_long Tryd.lays153 hv116 (by kernel_rfl) s chars w h2 h8 hs hcs hascii
end Go.Proofs

/- Contracts of the library at this program: the program bears the bodies that they speak of. Taken: strings_Index_one. -/
namespace Go.Proofs
open Go.Shelf
def Tryd.lays143_ren : Go.Shelf.Ren := ⟨fun | 143 => 79 | 219 => 120 | 217 => 152 | 225 => 153 | 224 => 154 | 267 => 155 | 266 => 176 | 314 => 177 | n => n, fun | 9 => 9 | 3 => 3 | 4 => 4 | 5 => 5 | 46 => 175 | 146 => 208 | 51 => 207 | n => n, fun | 1 => 1 | n => n⟩
theorem Tryd.lays143 : Go.Proofs.Lays.n143 Tryd.prog Tryd.lays143_ren := {
  mixed := by kernel_rfl
  f143 := Tryd.func79.trans (congrArg some (by kernel_rfl))
  f217 := Tryd.func152.trans (congrArg some (by kernel_rfl))
  f219 := Tryd.func120.trans (congrArg some (by kernel_rfl))
  f224 := Tryd.func154.trans (congrArg some (by kernel_rfl))
  f225 := Tryd.func153.trans (congrArg some (by kernel_rfl))
  f266 := Tryd.func176.trans (congrArg some (by kernel_rfl))
  f267 := Tryd.func155.trans (congrArg some (by kernel_rfl))
  f314 := Tryd.func177.trans (congrArg some (by kernel_rfl))
  t3 := Tryd.underlying3
  a3 := Tryd.isAgg3
  z3 := Tryd.sizeOf3
  v3 := Tryd.zeroValue3
  t4 := Tryd.underlying4
  a4 := Tryd.isAgg4
  z4 := Tryd.sizeOf4
  v4 := Tryd.zeroValue4
  t5 := Tryd.underlying5
  a5 := Tryd.isAgg5
  z5 := Tryd.sizeOf5
  v5 := Tryd.zeroValue5
  t9 := Tryd.underlying9
  a9 := Tryd.isAgg9
  z9 := Tryd.sizeOf9
  v9 := Tryd.zeroValue9
  t46 := Tryd.underlying175
  a46 := Tryd.isAgg175
  z46 := Tryd.sizeOf175
  v46 := Tryd.zeroValue175
  t51 := Tryd.underlying207
  a51 := Tryd.isAgg207
  z51 := Tryd.sizeOf207
  v51 := Tryd.zeroValue207
  t146 := Tryd.underlying208
  a146 := Tryd.isAgg208
  z146 := Tryd.sizeOf208
  v146 := Tryd.zeroValue208
  g1 := by kernel_rfl }
open Go.RowKit Go.Lib in
theorem Tryd.strings_Index_one (s : ByteArray) (c : UInt8) (w : World) :
    Calls Tryd.prog 79 #[.string s, .string ⟨#[c]⟩] w fun e w' => e = .returned (.int .i64 (Lib.indexByte s.data.toList c)) ∧ w' = w := Any.strings_Index_one Tryd.lays143 s c w
end Go.Proofs

/- Plain facts on texts as lists of bytes: their lines, whether lines are right, the first byte in which two texts differ, a line without its line feed. -/
namespace Go.Proofs.YtgiojkhmkeocfaaDoor.Ln
open Go

/-- the lines of a text -/
def splitL : List UInt8 → List (List UInt8)
  | [] => []
  | c :: t => if c = 10 then [c] :: splitL t else match splitL t with
    | [] => [[c]]
    | x :: r => (c :: x) :: r

theorem split_cut (a b : List UInt8) (h : ∀ c ∈ a, c ≠ 10) : splitL (a ++ 10 :: b) = (a ++ [10]) :: splitL b := by
  induction a with
  | nil => simp [splitL]
  | cons c a ih =>
    have hc : c ≠ 10 := h c (by simp)
    have := ih fun x hx => h x (by simp [hx])
    simp only [List.cons_append, splitL, hc, if_false, this]

theorem split_one (a : List UInt8) (h : ∀ c ∈ a, c ≠ 10) (h0 : a ≠ []) : splitL a = [a] := by
  induction a with
  | nil => exact absurd rfl h0
  | cons c a ih =>
    have hc : c ≠ 10 := h c (by simp)
    cases a with
    | nil => simp [splitL, hc]
    | cons d a =>
      have := ih (fun x hx => h x (by simp [hx])) (by simp)
      simp only [splitL, hc, if_false] at this ⊢
      rw [this]

theorem split_join (l : List UInt8) : (splitL l).flatten = l := by
  induction l with
  | nil => rfl
  | cons c t ih =>
    unfold splitL
    by_cases hc : c = 10
    · simp [hc, ih]
    · simp only [hc, if_false]
      cases hs : splitL t with
      | nil => rw [hs] at ih; simp at ih; simp [← ih]
      | cons x r => rw [hs] at ih; simp at ih; simp [ih]

theorem split_len (l : List UInt8) : (splitL l).length ≤ l.length := by
  induction l with
  | nil => simp [splitL]
  | cons c t ih =>
    unfold splitL
    by_cases hc : c = 10
    · simp [hc]; omega
    · simp only [hc, if_false]
      cases hs : splitL t with
      | nil => simp
      | cons x r => rw [hs] at ih; simp at ih ⊢; omega

/-- whether a text is a line; the last one may lack its line feed -/
def lineB : List UInt8 → Bool → Bool
  | [], _ => false
  | [c], last => last || c == 10
  | c :: d :: t, last => c != 10 && lineB (d :: t) last

def checkB : List (List UInt8) → Bool
  | [] => true
  | s :: t => lineB s t.isEmpty && checkB t

theorem lineB_cons (c : UInt8) (x : List UInt8) (last : Bool) (hx : x ≠ []) : lineB (c :: x) last = (c != 10 && lineB x last) := by
  cases x with
  | nil => exact absurd rfl hx
  | cons d t => rfl

theorem lineB_ne {x : List UInt8} {last : Bool} (h : lineB x last = true) : x ≠ [] := by rintro rfl; cases h

theorem lineB_false {x : List UInt8} (h : lineB x false = true) : ∃ a, x = a ++ [10] ∧ ∀ c ∈ a, c ≠ 10 := by
  induction x with
  | nil => cases h
  | cons c t ih =>
    cases t with
    | nil => exact ⟨[], by simpa [lineB] using h, by simp⟩
    | cons d t =>
      simp only [lineB, Bool.and_eq_true, bne_iff_ne] at h
      obtain ⟨a, ha, hn⟩ := ih h.2
      refine ⟨c :: a, by rw [ha]; rfl, ?_⟩
      intro x hx
      simp only [List.mem_cons] at hx
      rcases hx with rfl | hx
      · exact h.1
      · exact hn x hx

theorem split_right (l : List UInt8) : checkB (splitL l) = true := by
  induction l with
  | nil => rfl
  | cons c t ih =>
    unfold splitL
    by_cases hc : c = 10
    · simp [hc, checkB, lineB, ih]
    · simp only [hc, if_false]
      cases hs : splitL t with
      | nil => simp [checkB, lineB]
      | cons x r =>
        rw [hs] at ih
        simp only [checkB, Bool.and_eq_true] at ih ⊢
        rw [lineB_cons c x _ (lineB_ne ih.1)]
        simp [hc, ih.1, ih.2]

theorem index_none {l : List UInt8} {c : UInt8} (h : Lib.indexByte l c < 0) : Lib.indexByte l c = -1 ∧ ∀ x ∈ l, x ≠ c := by
  induction l with
  | nil => exact ⟨rfl, by simp⟩
  | cons b l ih =>
    unfold Lib.indexByte at h ⊢
    by_cases hb : (b == c) = true
    · rw [if_pos hb] at h; simp at h
    · rw [if_neg hb] at h ⊢
      by_cases h1 : (Lib.indexByte l c == -1) = true
      · rw [if_pos h1]
        have h2 := ih (by simp at h1; omega)
        refine ⟨rfl, ?_⟩
        intro x hx
        simp only [List.mem_cons] at hx
        rcases hx with rfl | hx
        · simpa using hb
        · exact h2.2 x hx
      · rw [if_neg h1] at h
        have := Lib.indexByte_ge l c
        simp at h1
        omega

theorem index_some {l : List UInt8} {c : UInt8} (h : 0 ≤ Lib.indexByte l c) : ∃ a b, l = a ++ c :: b ∧ (∀ x ∈ a, x ≠ c) ∧ Lib.indexByte l c = a.length := by
  induction l with
  | nil => simp [Lib.indexByte] at h
  | cons d l ih =>
    unfold Lib.indexByte at h ⊢
    by_cases hb : (d == c) = true
    · have : d = c := by simpa using hb
      subst this
      rw [if_pos hb]
      exact ⟨[], l, rfl, by simp, rfl⟩
    · rw [if_neg hb] at h ⊢
      by_cases h1 : (Lib.indexByte l c == -1) = true
      · rw [if_pos h1] at h; simp at h
      · rw [if_neg h1] at h ⊢
        have := Lib.indexByte_ge l c
        obtain ⟨a, b, e1, e2, e3⟩ := ih (by simp at h1; omega)
        refine ⟨d :: a, b, by rw [e1]; rfl, ?_, by rw [e3]; simp⟩
        intro x hx
        simp only [List.mem_cons] at hx
        rcases hx with rfl | hx
        · simpa using hb
        · exact e2 x hx

theorem lineB_all {x : List UInt8} (h : ∀ c ∈ x, c ≠ 10) (last : Bool) : lineB x last = (last && !x.isEmpty) := by
  induction x with
  | nil => simp [lineB]
  | cons c t ih =>
    cases t with
    | nil =>
      have : c ≠ 10 := h c (by simp)
      simp [lineB, this]
    | cons d t =>
      rw [lineB, ih fun x hx => h x (by simp [hx])]
      have : c ≠ 10 := h c (by simp)
      simp [this]

theorem lineB_cut {a b : List UInt8} (h : ∀ c ∈ a, c ≠ 10) (last : Bool) : lineB (a ++ 10 :: b) last = b.isEmpty := by
  induction a with
  | nil =>
    cases b with
    | nil => simp [lineB]
    | cons d b => simp [lineB]
  | cons c a ih =>
    have hc : c ≠ 10 := h c (by simp)
    rw [List.cons_append, lineB_cons _ _ _ (by simp), ih fun x hx => h x (by simp [hx])]
    simp [hc]

end Go.Proofs.YtgiojkhmkeocfaaDoor.Ln

/- What the code's Check of layer 11 asks of a hunk's lines is what the chapter asks; plain mathematics. -/
namespace Go.Proofs.YtgiojkhmkeocfaaDoor
open Ln

theorem lineB_eq (s : List UInt8) (last : Bool) : lineB s last = (linB s && (last || fdB s)) := by
  induction s with
  | nil => rfl
  | cons c t ih =>
    cases t with
    | nil =>
      simp [lineB, linB, fdB]
    | cons d t =>
      have e1 : linB (c :: d :: t) = (c != 10 && linB (d :: t)) := by
        simp [linB, List.dropLast]
      have e2 : fdB (c :: d :: t) = fdB (d :: t) := by simp [fdB]
      rw [e1, e2, Bool.and_assoc, ← ih]
      rfl
/-- all signs are known -/
def allB (l : List Mk) : Bool := l.all fun m => okS m.sg
theorem pk_none {sg no : Int} (h : sg = 45 ∧ no = 43 ∨ sg = 43 ∧ no = 45) {l : List Mk} (hl : allB l = true) : (pkL no l).isEmpty = lstB sg l := by
  induction l with
  | nil => rfl
  | cons m l ih =>
    simp only [allB, List.all_cons, Bool.and_eq_true] at hl
    have ih := ih hl.2
    have hm := hl.1
    simp only [okS, Bool.or_eq_true, decide_eq_true_eq] at hm
    simp only [pkL, lstB, List.all_cons]
    have key : (m.sg ≠ no ∧ okS m.sg = true) ↔ ¬ (m.sg ≠ sg ∧ m.sg ≠ 32) := by
      constructor
      · rintro ⟨k1, _⟩ k2
        rcases h with ⟨rfl, rfl⟩ | ⟨rfl, rfl⟩ <;> omega
      · intro k
        refine ⟨fun k1 => ?_, hl.1⟩
        rcases h with ⟨rfl, rfl⟩ | ⟨rfl, rfl⟩ <;> omega
    by_cases q : m.sg ≠ sg ∧ m.sg ≠ 32
    · rw [if_neg (fun k => key.1 k q), ih, decide_eq_true q.1, decide_eq_true q.2]
      rfl
    · rw [if_pos (key.2 q)]
      have : (decide (m.sg ≠ sg) && decide (m.sg ≠ 32)) = false := by
        rw [← Bool.not_eq_true, Bool.and_eq_true, decide_eq_true_eq, decide_eq_true_eq]
        exact q
      rw [this]
      rfl
/-- the chapter's rule on lines, as the code says it -/
theorem fld_code (l : List Mk) : fldB l = (allB l && checkB (pkL 43 l) && checkB (pkL 45 l)) := by
  induction l with
  | nil => rfl
  | cons m l ih =>
    have e0 : allB (m :: l) = (okS m.sg && allB l) := rfl
    rw [e0]
    cases ha : allB l with
    | false =>
      rw [ha] at ih
      have ih : fldB l = false := by rw [ih]; rfl
      simp [fldB, ih]
    | true =>
      rw [ha] at ih
      have p1 := pk_none (.inl ⟨rfl, rfl⟩) ha
      have p2 := pk_none (.inr ⟨rfl, rfl⟩) ha
      obtain ⟨sg, tx⟩ := m
      simp only [fldB]
      rw [ih]
      by_cases h1 : sg = 32
      · subst h1
        have q1 : pkL 43 (⟨32, tx⟩ :: l) = tx :: pkL 43 l := by rw [pkL, if_pos (by dsimp only; decide)]
        have q2 : pkL 45 (⟨32, tx⟩ :: l) = tx :: pkL 45 l := by rw [pkL, if_pos (by dsimp only; decide)]
        rw [q1, q2]
        simp only [checkB, lineB_eq, p1, p2, okS]
        cases linB tx <;> cases fdB tx <;> cases lstB 45 l <;> cases lstB 43 l <;> cases checkB (pkL 43 l) <;> cases checkB (pkL 45 l) <;> rfl
      · by_cases h2 : sg = 45
        · subst h2
          have q1 : pkL 43 (⟨45, tx⟩ :: l) = tx :: pkL 43 l := by rw [pkL, if_pos (by dsimp only; decide)]
          have q2 : pkL 45 (⟨45, tx⟩ :: l) = pkL 45 l := by rw [pkL, if_neg (by dsimp only; decide)]
          rw [q1, q2]
          simp only [checkB, lineB_eq, p1, okS]
          cases linB tx <;> cases fdB tx <;> cases lstB 45 l <;> cases lstB 43 l <;> cases checkB (pkL 43 l) <;> cases checkB (pkL 45 l) <;> rfl
        · by_cases h3 : sg = 43
          · subst h3
            have q1 : pkL 43 (⟨43, tx⟩ :: l) = pkL 43 l := by rw [pkL, if_neg (by dsimp only; decide)]
            have q2 : pkL 45 (⟨43, tx⟩ :: l) = tx :: pkL 45 l := by rw [pkL, if_pos (by dsimp only; decide)]
            rw [q1, q2]
            simp only [checkB, lineB_eq, p2, okS]
            cases linB tx <;> cases fdB tx <;> cases lstB 45 l <;> cases lstB 43 l <;> cases checkB (pkL 43 l) <;> cases checkB (pkL 45 l) <;> rfl
          · have q : okS sg = false := by simp [okS, h1, h2, h3]
            simp [q]
end Go.Proofs.YtgiojkhmkeocfaaDoor

/- Plain facts on bytes, quoted texts and how they are read: nothing of a program. -/
namespace Go.Proofs.YtgiojkhmkeocfaaDoor.Q

/-- does a byte stand for itself? -/
def plainI (n : Int) : Bool := decide (32 ≤ n ∧ n ≤ 126 ∧ n ≠ 34 ∧ n ≠ 92)

/-- the hexadecimal digits -/
def hexl : List UInt8 := [48, 49, 50, 51, 52, 53, 54, 55, 56, 57, 97, 98, 99, 100, 101, 102]

def hexc (n : Nat) : UInt8 := hexl.getD n 0

def q1 (c : UInt8) : List UInt8 := if plainI c.toNat then [c] else [92, hexc (c.toNat / 16), hexc (c.toNat % 16)]

/-- the value of a hexadecimal digit, or -1 -/
def digitI (n : Int) : Int := if 48 ≤ n ∧ n ≤ 57 then n - 48 else if 97 ≤ n ∧ n ≤ 102 then n - 87 else -1

/-- the byte that two digits are -/
def pairI (a b : UInt8) : Int := 16 * digitI a.toNat + digitI b.toNat

/-- are there two digits of a byte that does not stand for itself? -/
def pairOk (a b : UInt8) : Bool := decide (0 ≤ digitI a.toNat) && decide (0 ≤ digitI b.toNat) && !(plainI (pairI a b))

def pn (a b : UInt8) : Int := if pairOk a b then 3 else 0

end Go.Proofs.YtgiojkhmkeocfaaDoor.Q

/- Plain facts on the texts of numbers: nothing of a program. -/
namespace Go.Proofs.YtgiojkhmkeocfaaDoor.Pn

/-- is a byte a decimal digit? -/
def digB (c : UInt8) : Bool := decide (48 ≤ c.toNat ∧ c.toNat ≤ 57)
theorem digB_mk {c : UInt8} (h : 48 ≤ c.toNat ∧ c.toNat ≤ 57) : digB c = true := decide_eq_true h
theorem digB_out {c : UInt8} (h : digB c = true) : 48 ≤ c.toNat ∧ c.toNat ≤ 57 := of_decide_eq_true h
/-- is a text the text of a number from 0 on? -/
def isNum : List UInt8 → Bool
  | [] => false
  | c :: t => !(decide (c.toNat = 48) && !t.isEmpty) && (c :: t).all digB

/-- the number, but one above the limit if it is greater -/
def sat : Int → List UInt8 → Int
  | n, [] => n
  | n, c :: t => sat (min (n * 10 + ((c.toNat : Int) - 48)) 2147483648) t

def parseV (l : List UInt8) : Int := if isNum l = true ∧ sat 0 l ≤ 2147483647 then sat 0 l else 0
def parseE (l : List UInt8) : Int := if isNum l = true then if sat 0 l ≤ 2147483647 then 0 else 2 else 3

theorem sat_top : ∀ (l : List UInt8), l.all digB = true → sat 2147483648 l = 2147483648
  | [], _ => rfl
  | c :: t, h => by
    simp only [List.all_cons, Bool.and_eq_true] at h
    have h1 := digB_out h.1
    rw [sat]
    have e : min ((2147483648 : Int) * 10 + ((c.toNat : Int) - 48)) 2147483648 = 2147483648 := by omega
    rw [e]
    exact sat_top t h.2

theorem parse_no {l : List UInt8} (h : isNum l = false) : 0 = parseV l ∧ 3 = parseE l := by simp [parseV, parseE, h]
theorem parse_far {l : List UInt8} (h : isNum l = true) (h2 : sat 0 l = 2147483648) : 0 = parseV l ∧ 2 = parseE l := by simp [parseV, parseE, h, h2]
theorem parse_ok {l : List UInt8} (h : isNum l = true) {n : Int} (h2 : sat 0 l = n) (h3 : n ≤ 2147483647) : n = parseV l ∧ 0 = parseE l := by simp [parseV, parseE, h, h2, h3]

theorem isNum_all {l : List UInt8} (h : isNum l = true) : l.all digB = true := by
  cases l with
  | nil => simp [isNum] at h
  | cons c t => rw [isNum, Bool.and_eq_true] at h; exact h.2

theorem all_at {l : List UInt8} (h : l.all digB = true) (k : Nat) (hk : k < l.length) : 48 ≤ l[k].toNat ∧ l[k].toNat ≤ 57 :=
  digB_out (List.all_eq_true.1 h _ (List.getElem_mem hk))

theorem all_drop {l : List UInt8} (h : l.all digB = true) (k : Nat) : (l.drop k).all digB = true :=
  List.all_eq_true.2 fun x hx => List.all_eq_true.1 h x (List.mem_of_mem_drop hx)

theorem isNum_bad {l : List UInt8} (k : Nat) (hk : k < l.length) (h : ¬ (48 ≤ l[k].toNat ∧ l[k].toNat ≤ 57)) : isNum l = false := by
  cases hn : isNum l
  · rfl
  · exact absurd (all_at (isNum_all hn) k hk) h

theorem isNum_zero {c d : UInt8} {t : List UInt8} (h : c.toNat = 48) : isNum (c :: d :: t) = false := by simp [isNum, h]

theorem isNum_yes {c : UInt8} {t : List UInt8} (h : ¬ (c.toNat = 48 ∧ t ≠ [])) (ha : ∀ k (hk : k < (c :: t).length), 48 ≤ (c :: t)[k].toNat ∧ (c :: t)[k].toNat ≤ 57) : isNum (c :: t) = true := by
  rw [isNum, Bool.and_eq_true]
  refine ⟨?_, ?_⟩
  · cases t with
    | nil => simp
    | cons d t => simp at h ⊢; exact h
  · refine List.all_eq_true.2 fun x hx => ?_
    obtain ⟨k, hk, rfl⟩ := List.mem_iff_getElem.1 hx
    exact digB_mk (ha k hk)

theorem sat_step {l : List UInt8} {k : Nat} (hk : k < l.length) (n : Int) : sat n (l.drop k) = sat (min (n * 10 + ((l[k].toNat : Int) - 48)) 2147483648) (l.drop (k + 1)) := by
  rw [List.drop_eq_getElem_cons hk, sat]

end Go.Proofs.YtgiojkhmkeocfaaDoor.Pn

/- Plain facts: what was quoted is read again; what was written as a number is read again. -/
namespace Go.Proofs.YtgiojkhmkeocfaaDoor
open Q Pn

end Go.Proofs.YtgiojkhmkeocfaaDoor

/- The normal form as texts and as lines: how it is written, how it is read; plain mathematics. -/
namespace Go.Proofs.YtgiojkhmkeocfaaDoor
open Ln

/-- the mark: '\ No newline at end of file' with its line feed -/
def markT : List UInt8 := [92, 32, 78, 111, 32, 110, 101, 119, 108, 105, 110, 101, 32, 97, 116, 32, 101, 110, 100, 32, 111, 102, 32, 102, 105, 108, 101, 10]
/-- the next line without its line feed, and what is behind it -/
def nxt (p : Nat) : List (List UInt8) → Except (Nat × Int) (List UInt8 × List (List UInt8))
  | [] => .error (p + 1, 1)
  | s :: r => if fdB s = true then .ok (s.dropLast, r) else .error (p + 1, 3)
/-- is the next line the mark? -/
def pkM : List (List UInt8) → Bool
  | [] => false
  | s :: _ => markT.isPrefixOf s
/-- a line with a sign; if it is the last one, the mark may stand behind it -/
def mkd (sg : List UInt8) (last : Bool) (p : Nat) (ls : List (List UInt8)) : Except (Nat × Int) (List UInt8 × Nat × List (List UInt8)) :=
  match nxt p ls with
  | .error e => .error e
  | .ok (s, r) => if sg.isPrefixOf s = true then if (last && pkM r) = true then if s.drop sg.length = [] then .error (p + 2, 3) else .ok (s.drop sg.length, p + 2, r.tail) else .ok (s.drop sg.length ++ [10], p + 1, r) else .error (p + 1, 3)
/-- so many lines with a sign -/
def rdN (sg : List UInt8) (S : Int) : Nat → Nat → List (List UInt8) → Except (Nat × Int) (List Mk × Nat × List (List UInt8))
  | 0, p, ls => .ok ([], p, ls)
  | n + 1, p, ls => match mkd sg (n == 0) p ls with
    | .error e => .error e
    | .ok (t, p1, r) => match rdN sg S n p1 r with
      | .error e => .error e
      | .ok (l, p2, r2) => .ok (⟨S, t⟩ :: l, p2, r2)
/-- the line between -/
def sepP (p : Nat) (ls : List (List UInt8)) : Except (Nat × Int) (Nat × List (List UInt8)) :=
  match nxt p ls with
  | .error e => .error e
  | .ok (s, r) => if s = [45, 45, 45] then .ok (p + 1, r) else .error (p + 1, 3)
/-- a text up to a byte, and what is behind it -/
def spB (q : UInt8 → Bool) : List UInt8 → Option (List UInt8 × UInt8 × List UInt8)
  | [] => none
  | c :: t => if q c = true then some ([], c, t) else match spB q t with
    | none => none
    | some (a, d, b) => some (c :: a, d, b)
def isC (c : UInt8) : Bool := c == 97 || c == 99 || c == 100
def isK (c : UInt8) : Bool := c == 44
/-- a range of lines: the first one, how many -/
def lnsP (s : List UInt8) : Option (Int × Int) := match spB isK s with
  | some (x, _, y) => if Pn.parseE x = 0 ∧ Pn.parseE y = 0 ∧ 1 ≤ Pn.parseV x ∧ Pn.parseV x < Pn.parseV y then some (Pn.parseV x, Pn.parseV y - Pn.parseV x + 1) else none
  | none => if Pn.parseE s = 0 ∧ 1 ≤ Pn.parseV s then some (Pn.parseV s, 1) else none
def oneP (s : List UInt8) : Option (Int × Int) := if Pn.parseE s = 0 then some (Pn.parseV s, 0) else none
/-- a line that says a change: A, AN, B, BN -/
def cmdP (s : List UInt8) : Option (Int × Int × Int × Int) := match spB isC s with
  | none => none
  | some (x, c, y) => match (if c = 97 then oneP x else lnsP x), (if c = 100 then oneP y else lnsP y) with
    | some (A, AN), some (B, BN) => some (A, AN, B, BN)
    | _, _ => none
/-- a hunk; so many are ahead of it -/
def hkP (k p : Nat) (ls : List (List UInt8)) : Except (Nat × Int) (Hk × Nat × List (List UInt8)) :=
  match nxt p ls with
  | .error e => .error e
  | .ok (s, r) => match cmdP s with
    | none => .error (p + 1, 3)
    | some (A, AN, B, BN) => if 4096 ≤ k then .error (p + 1, 9) else match rdN [60, 32] 45 AN.toNat (p + 1) r with
      | .error e => .error e
      | .ok (l1, p1, r1) => match (if 0 < AN ∧ 0 < BN then sepP p1 r1 else .ok (p1, r1)) with
        | .error e => .error e
        | .ok (p2, r2) => match rdN [62, 32] 43 BN.toNat p2 r2 with
          | .error e => .error e
          | .ok (l2, p3, r3) => .ok (⟨A, AN, B, BN, l1 ++ l2⟩, p3, r3)
/-- all hunks, by as many steps as there are lines -/
def hksP : Nat → Nat → Nat → List (List UInt8) → Except (Nat × Int) (List Hk)
  | 0, _, _, _ => .ok []
  | f + 1, k, p, ls => if ls = [] then .ok [] else match hkP k p ls with
    | .error e => .error e
    | .ok (h, p1, r) => match hksP f (k + 1) p1 r with
      | .error e => .error e
      | .ok l => .ok (h :: l)
/-- a text is read -/
def prsT (t : List UInt8) : Except (Nat × Int) (List Hk) := if 1048576 < t.length then .error (0, 9) else hksP (splitL t).length 0 0 (splitL t)

/-- how many lines what was read takes -/
def ltC (l : List Mk) : Nat := (l.filter fun m => !fdB m.tx).length
def hkC1 (h : Hk) : Nat := 1 + h.ls.length + ltC h.ls + (if 0 < h.AN ∧ 0 < h.BN then 1 else 0)
def hksC : List Hk → Nat
  | [] => 0
  | h :: l => hkC1 h + hksC l
theorem ltC_append (x y : List Mk) : ltC (x ++ y) = ltC x + ltC y := by simp [ltC]
/-- no line feed within a line but at its end -/
def Plain (ls : List (List UInt8)) : Prop := ∀ s ∈ ls, ∀ c ∈ s.dropLast, c ≠ 10
theorem fd_no {s : List UInt8} (h : ∀ c ∈ s, c ≠ 10) : fdB s = false := by
  unfold fdB
  cases hq : s.getLast? with
  | none => rfl
  | some x =>
    have := h x (List.mem_of_getLast? hq)
    simpa using this
theorem fd_snoc (s : List UInt8) : fdB (s ++ [10]) = true := by simp [fdB]
theorem nxt_ok {p : Nat} {ls r : List (List UInt8)} {s : List UInt8} (h : nxt p ls = .ok (s, r)) : ls = (s ++ [10]) :: r := by
  cases ls with
  | nil => cases h
  | cons x r' =>
    simp only [nxt] at h
    split at h
    · rename_i hf
      cases h
      unfold fdB at hf
      have h1 : x.getLast? = some 10 := by simpa using hf
      obtain ⟨q, rfl⟩ := List.getLast?_eq_some_iff.1 h1
      simp
    · cases h
theorem mkd_ok {sg : List UInt8} {last : Bool} {p p1 : Nat} {ls r : List (List UInt8)} {t : List UInt8} (hP : Plain ls) (h : mkd sg last p ls = .ok (t, p1, r)) : p1 = p + 1 + (if fdB t = true then 0 else 1) ∧ ls.length + p = r.length + p1 ∧ Plain r ∧ (fdB t = false → last = true ∧ t ≠ []) ∧ linB t = true := by
  unfold mkd at h
  split at h
  · cases h
  · rename_i s r0 hn
    have hls := nxt_ok hn
    subst hls
    have hs : ∀ c ∈ s, c ≠ 10 := by
      have := hP (s ++ [10]) (by simp)
      simpa using this
    have hPr : Plain r0 := fun x hx => hP x (by simp [hx])
    split at h
    · split at h
      · rename_i hl
        split at h
        · cases h
        · rename_i hne
          cases h
          have hd : ∀ c ∈ s.drop sg.length, c ≠ 10 := fun c hc => hs c (List.mem_of_mem_drop hc)
          have hf := fd_no hd
          simp only [Bool.and_eq_true] at hl
          have hlen : r0.tail.length + 1 = r0.length := by
            cases r0 with
            | nil => simp [pkM] at hl
            | cons => simp
          refine ⟨by rw [hf]; rfl, by simp only [List.length_cons]; omega, fun x hx => hPr x (List.mem_of_mem_tail hx), fun _ => ⟨hl.1, hne⟩, ?_⟩
          unfold linB
          have e1 : (s.drop sg.length).isEmpty = false := by
            cases hq : s.drop sg.length with
            | nil => exact absurd hq hne
            | cons => rfl
          rw [e1]
          simp only [Bool.not_false, Bool.true_and, List.all_eq_true]
          intro c hc
          have := hd c ((List.dropLast_sublist _).subset hc)
          simpa using this
      · cases h
        refine ⟨by rw [fd_snoc]; rfl, by simp only [List.length_cons]; omega, hPr, fun hq => (by rw [fd_snoc] at hq; cases hq), ?_⟩
        unfold linB
        simp only [List.dropLast_concat]
        have e1 : (s.drop sg.length ++ [10]).isEmpty = false := by cases s.drop sg.length <;> rfl
        rw [e1]
        simp only [Bool.not_false, Bool.true_and, List.all_eq_true]
        intro c hc
        have := hs c (List.mem_of_mem_drop hc)
        simpa using this
    · cases h
theorem nxt_len {p : Nat} {ls r : List (List UInt8)} {s : List UInt8} (hP : Plain ls) (h : nxt p ls = .ok (s, r)) : ls.length = r.length + 1 ∧ Plain r := by
  have := nxt_ok h
  subst this
  exact ⟨rfl, fun x hx => hP x (by simp [hx])⟩
theorem rdN_ok {sg : List UInt8} {S : Int} (n : Nat) : ∀ {p p1 : Nat} {ls r : List (List UInt8)} {l : List Mk}, Plain ls → rdN sg S n p ls = .ok (l, p1, r) → l.length = n ∧ p1 = p + n + ltC l ∧ ls.length + p = r.length + p1 ∧ Plain r ∧ (∀ m ∈ l, m.sg = S ∧ linB m.tx = true) ∧ (∀ m ∈ l.dropLast, fdB m.tx = true) := by
  induction n with
  | zero =>
    intro p p1 ls r l hP h
    simp only [rdN] at h
    cases h
    exact ⟨rfl, by simp [ltC], rfl, hP, fun m hm => (by cases hm), fun m hm => (by cases hm)⟩
  | succ n ih =>
    intro p p1 ls r l hP h
    simp only [rdN] at h
    split at h
    · cases h
    · rename_i t q1 r1 hm
      obtain ⟨a1, a2, a3, a4, a5⟩ := mkd_ok hP hm
      split at h
      · cases h
      · rename_i l' q2 r2 hr
        obtain ⟨b1, b2, b3, b4, b5, b6⟩ := ih a3 hr
        cases h
        refine ⟨by simp [b1], ?_, by omega, b4, ?_, ?_⟩
        · have e : ltC (⟨S, t⟩ :: l') = (if fdB t = true then 0 else 1) + ltC l' := by
            cases hf : fdB t <;> simp [ltC, hf] <;> omega
          rw [e]
          omega
        · intro m hm
          rcases List.mem_cons.1 hm with rfl | hm
          · exact ⟨rfl, a5⟩
          · exact b5 m hm
        · intro m hm
          cases l' with
          | nil => cases hm
          | cons x l' =>
            rw [List.dropLast_cons_cons] at hm
            rcases List.mem_cons.1 hm with rfl | hm
            · cases hf : fdB t with
              | true => rfl
              | false =>
                have h1 := (a4 hf).1
                simp only [beq_iff_eq] at h1
                simp only [List.length_cons] at b1
                omega
            · exact b6 m hm
theorem hkP_ok {k p p1 : Nat} {ls r : List (List UInt8)} {h : Hk} (hP : Plain ls) (hh : hkP k p ls = .ok (h, p1, r)) : p1 = p + hkC1 h ∧ ls.length + p = r.length + p1 ∧ Plain r := by
  unfold hkP at hh
  split at hh
  · cases hh
  · rename_i s r0 hn
    obtain ⟨a1, a2⟩ := nxt_len hP hn
    split at hh
    · cases hh
    · rename_i A AN B BN hc
      split at hh
      · cases hh
      · split at hh
        · cases hh
        · rename_i l1 q1 r1 h1
          obtain ⟨b1, b2, b3, b4, b5, _⟩ := rdN_ok _ a2 h1
          split at hh
          · cases hh
          · rename_i q2 r2 h2
            have hs : q2 = q1 + (if 0 < AN ∧ 0 < BN then 1 else 0) ∧ r1.length + q1 = r2.length + q2 ∧ Plain r2 := (by
              split at h2
              · rename_i hb
                rw [if_pos hb]
                unfold sepP at h2
                split at h2
                · cases h2
                · rename_i s3 r3 hn3
                  obtain ⟨c1, c2⟩ := nxt_len b4 hn3
                  split at h2
                  · cases h2
                    exact ⟨rfl, by omega, c2⟩
                  · cases h2
              · rename_i hb
                rw [if_neg hb]
                cases h2
                exact ⟨rfl, rfl, b4⟩)
            split at hh
            · cases hh
            · rename_i l2 q3 r3 h3
              obtain ⟨d1, d2, d3, d4, d5, _⟩ := rdN_ok _ hs.2.2 h3
              cases hh
              refine ⟨?_, by omega, d4⟩
              have hs1 := hs.1
              simp only [hkC1, List.length_append, ltC_append]
              omega
/-- what was read takes just as many lines -/
theorem hksP_ok (f : Nat) : ∀ {k p : Nat} {ls : List (List UInt8)} {l : List Hk}, Plain ls → ls.length ≤ f → hksP f k p ls = .ok l → hksC l = ls.length := by
  induction f with
  | zero =>
    intro k p ls l hP hf h
    simp only [hksP] at h
    cases h
    have : ls.length = 0 := by omega
    simp [hksC, this]
  | succ f ih =>
    intro k p ls l hP hf h
    simp only [hksP] at h
    split at h
    · rename_i he
      cases h
      subst he
      rfl
    · split at h
      · cases h
      · rename_i hk q1 r1 h1
        obtain ⟨a1, a2, a3⟩ := hkP_ok hP h1
        have hpos : 0 < hkC1 hk := by unfold hkC1; omega
        split at h
        · cases h
        · rename_i l' h2
          have := ih a3 (by omega) h2
          cases h
          simp only [hksC]
          omega
theorem split_plain (t : List UInt8) : Plain (splitL t) := by
  have h := split_right t
  generalize splitL t = L at h
  induction L with
  | nil => intro s hs; cases hs
  | cons x L ih =>
    simp only [checkB, Bool.and_eq_true] at h
    intro s hs
    rcases List.mem_cons.1 hs with rfl | hs
    · intro c hc
      have h1 := h.1
      rw [lineB_eq] at h1
      simp only [Bool.and_eq_true, linB] at h1
      have := (List.all_eq_true.1 h1.1.2) c hc
      simpa using this
    · exact ih h.2 s hs
end Go.Proofs.YtgiojkhmkeocfaaDoor

/- The reference's Bare, walked: a line without its line feed. -/
namespace Go.Proofs.YtgiojkhmkeocfaaDoor
open Go.RowKit
attribute [local go_sem] ByteArray.extract_mk

theorem no_at (l : List UInt8) (k : Nat) (h : k < (⟨l.toArray⟩ : ByteArray).size) : (⟨l.toArray⟩ : ByteArray)[k]'h = l[k]'(h) := rfl
attribute [local go_sem] no_at
/-- a line without its line feed -/
def bareT (s : List UInt8) : List UInt8 := if fdB s = true then s.dropLast else s
theorem bareT_yes {l : List UInt8} (h0 : 0 < l.length) (h : l[l.length - 1] = 10) : bareT l = l.take (l.length - 1) ∧ fdB l = true := by
  have hf : fdB l = true := by unfold fdB; rw [List.getLast?_eq_getElem?, List.getElem?_eq_getElem (by omega), h]; rfl
  exact ⟨by rw [bareT, hf, List.dropLast_eq_take]; rfl, hf⟩
theorem bareT_no {l : List UInt8} (h0 : 0 < l.length) (h : l[l.length - 1] ≠ 10) : bareT l = l ∧ fdB l = false := by
  have hf : fdB l = false := by unfold fdB; rw [List.getLast?_eq_getElem?, List.getElem?_eq_getElem (by omega)]; simpa using h
  exact ⟨by rw [bareT, hf]; rfl, hf⟩
set_option maxHeartbeats 400000 in
theorem rBare_f (l : List UInt8) (w : World) (hl : l.length ≤ 9223372036854775807) :
    Calls Tryd.prog 102 #[.string ⟨l.toArray⟩] w fun e w' => e = .returned (.tuple #[.string ⟨(bareT l).toArray⟩, .bool (fdB l)]) ∧ w = w' := by
  rcases Nat.eq_zero_or_pos l.length with h0 | h0
  · obtain rfl := List.eq_nil_of_length_eq_zero h0
    go_enter Tryd.func102, Tryd.ntmps102
    go_wp2
    go_ret2
    exact ⟨rfl, rfl⟩
  · have hn : ((l.length : Int) == 0) = false := beq_eq_false_iff_ne.2 (by omega)
    have hi : (((l.length : Int) - 1).toNat) = l.length - 1 := by omega
    have i1 : 0 ≤ (l.length : Int) - 1 := by omega
    have i2 : (l.length : Int) - 1 < (l.length : Int) := by omega
    have i3 : (l.length : Int) - 1 ≤ (l.length : Int) := by omega
    by_cases h : l[l.length - 1] = 10
    · obtain ⟨e1, e2⟩ := bareT_yes h0 h
      rw [e1, e2]
      have hb : ((l[l.length - 1].toNat : Int) != 10) = false := by rw [h]; rfl
      go_enter Tryd.func102, Tryd.ntmps102
      go_wp2
      go_ret2
      exact ⟨rfl, rfl⟩
    · obtain ⟨e1, e2⟩ := bareT_no h0 h
      rw [e1, e2]
      have hb : ((l[l.length - 1].toNat : Int) != 10) = true := (by
        rw [bne_iff_ne]
        intro hq
        exact h (UInt8.toNat_inj.1 (by show _ = 10; omega)))
      go_enter Tryd.func102, Tryd.ntmps102
      go_wp2
      go_ret2
      exact ⟨rfl, rfl⟩
end Go.Proofs.YtgiojkhmkeocfaaDoor

/- The reference's reader of lines, walked: its place, its first fault; the next line. -/
namespace Go.Proofs.YtgiojkhmkeocfaaDoor
open Go.RowKit

/-- a reader: its lines, where it stands, its fault -/
def rdO (vL : Value) (p fa fe : Int) : Obj := .cells #[vL, .int .i64 p, .int .i64 fa, .int .i64 fe] 83
def Rx (u : World) (R : Nat) (vL : Value) (p fa fe : Int) : Prop := u.heap[R]? = some (rdO vL p fa fe)
section
variable {u u' : World} {R : Nat} {vL : Value} {p fa fe : Int}
theorem Rx.cells (q : Rx u R vL p fa fe) : u.cell? ⟨R, 0, none⟩ = some vL ∧ u.cell? ⟨R, 1, none⟩ = some (.int .i64 p) ∧ u.cell? ⟨R, 2, none⟩ = some (.int .i64 fa) ∧ u.cell? ⟨R, 3, none⟩ = some (.int .i64 fe) := by
  unfold Rx rdO at q
  refine ⟨?_, ?_, ?_, ?_⟩ <;> rw [Lib.cell_of_heap q] <;> rfl
theorem Rx.frozen (q : Rx u R vL p fa fe) (j : Nat) : u.frozen? ⟨R, j, none⟩ = false := Lib.frozen_of_heap q j
theorem Rx.lt (q : Rx u R vL p fa fe) : R < u.heap.size := (Array.getElem?_eq_some_iff.1 q).1
theorem Rx.dN (q : Rx u R vL p fa fe) (n : Nat) : Rx (u.drewN n) R vL p fa fe := q
theorem Rx.at (q : Rx u R vL p fa fe) (p' : Int) : Rx (u.setCell ⟨R, 1, none⟩ (.int .i64 p')) R vL p' fa fe := heap_setCell_same u R 1 _ _ (.int .i64 p') q
theorem Rx.fault (q : Rx u R vL p fa fe) (x y : Int) : Rx ((u.setCell ⟨R, 2, none⟩ (.int .i64 x)).setCell ⟨R, 3, none⟩ (.int .i64 y)) R vL p x y := heap_setCell_same _ R 3 _ _ (.int .i64 y) (heap_setCell_same u R 2 _ _ (.int .i64 x) q)
end
theorem grown_two {w u v : World} {r : Option Nat} (h : w.grownBy u r) (h' : u.grownBy v r) : w.grownBy v r :=
  ⟨h'.os.trans h.os, h'.tape.trans h.tape, h'.output.trans h.output, Nat.le_trans h.size h'.size, fun k hk hr => (h'.block k (Nat.lt_of_lt_of_le hk h.size) hr).trans (h.block k hk hr)⟩
set_option maxHeartbeats 1000000 in
theorem rFail_ok {R : Nat} {vL : Value} {p fa : Int} (e : Int) (w : World) (q : Rx w R vL p fa 0) :
    Calls Tryd.prog 83 #[.pointer (some ⟨R, 0, none⟩), .int .i64 e] w fun x w' => x = .returned (.tuple #[]) ∧ Rx w' R vL p p e ∧ w.grownBy w' (some R) := by
  obtain ⟨c0, c1, c2, c3⟩ := q.cells
  have f2 := q.frozen 2
  have f3 := q.frozen 3
  have HQ : Hid (Rx ((w.setCell ⟨R, 2, none⟩ (.int .i64 p)).setCell ⟨R, 3, none⟩ (.int .i64 e)) R vL p p e ∧ w.grownBy ((w.setCell ⟨R, 2, none⟩ (.int .i64 p)).setCell ⟨R, 3, none⟩ (.int .i64 e)) (some R)) := ⟨q.fault p e, grown_two (grown_set w R 2 _) (grown_set _ R 3 _)⟩
  clear q
  go_enter Tryd.func83, Tryd.ntmps83
  go_wp2
  go_end0
  exact ⟨rfl, HQ.out⟩
set_option maxHeartbeats 1000000 in
theorem rFail_no {R : Nat} {vL : Value} {p fa fe : Int} (e : Int) (w : World) (q : Rx w R vL p fa fe) (hf : fe ≠ 0) :
    Calls Tryd.prog 83 #[.pointer (some ⟨R, 0, none⟩), .int .i64 e] w fun x w' => x = .returned (.tuple #[]) ∧ w' = w := by
  obtain ⟨c0, c1, c2, c3⟩ := q.cells
  have h1 : (fe == 0) = false := beq_eq_false_iff_ne.2 hf
  clear q
  go_enter Tryd.func83, Tryd.ntmps83
  go_wp2
  go_end0
  exact ⟨rfl, rfl⟩
set_option maxHeartbeats 1000000 in
theorem rMore_f {R : Nat} {L : List (List UInt8)} {lo : Option Addr} {lc : Nat} {p : Nat} {fa fe : Int} (w : World) (q : Rx w R (.slice lo L.length lc) p fa fe) :
    Calls Tryd.prog 41 #[.pointer (some ⟨R, 0, none⟩)] w fun x w' => x = .returned (.bool (decide (fe = 0) && decide (p < L.length))) ∧ ∃ m, w' = w.drewN m := by
  obtain ⟨c0, c1, c2, c3⟩ := q.cells
  clear q
  by_cases hf : fe = 0
  · have h1 : (fe == 0) = true := by rw [hf]; rfl
    have h2 : decide (fe = 0) = true := decide_eq_true hf
    rw [h2]
    by_cases hp : p < L.length
    · have h3 : decide (p < L.length) = true := decide_eq_true hp
      have h4 : decide ((p : Int) < (L.length : Int)) = true := decide_eq_true (by omega)
      rw [h3]
      clear hf
      go_enter Tryd.func41, Tryd.ntmps41
      go_wp2_with fail
      go_quiet (fail)
      go_wp2
      go_ret
      exact ⟨rfl, _, rfl⟩
    · have h3 : decide (p < L.length) = false := decide_eq_false hp
      have h4 : decide ((p : Int) < (L.length : Int)) = false := decide_eq_false (by omega)
      rw [h3]
      clear hf
      go_enter Tryd.func41, Tryd.ntmps41
      go_wp2_with fail
      go_quiet (fail)
      go_wp2
      go_ret
      exact ⟨rfl, _, rfl⟩
  · have h1 : (fe == 0) = false := beq_eq_false_iff_ne.2 hf
    have h2 : decide (fe = 0) = false := decide_eq_false hf
    rw [h2]
    go_enter Tryd.func41, Tryd.ntmps41
    go_wp2_with fail
    go_quiet (fail)
    go_wp2
    go_ret
    exact ⟨rfl, _, rfl⟩

theorem nxt_drop {L : List (List UInt8)} {p : Nat} (hp : p < L.length) : nxt p (L.drop p) = if fdB L[p] = true then .ok (L[p].dropLast, L.drop (p + 1)) else .error (p + 1, 3) := by
  rw [List.drop_eq_getElem_cons hp]
  rfl
theorem nxt_end {L : List (List UInt8)} {p : Nat} (hp : L.length ≤ p) : nxt p (L.drop p) = .error (p + 1, 1) := by
  rw [List.drop_eq_nil_of_le hp]
  rfl
theorem rBare_same (s : List UInt8) (hf : fdB s = true) (hs : s.length ≤ 1099511627776) (w : World) : Calls Tryd.prog 102 #[.string ⟨s.toArray⟩] w fun e w' => e = .returned (.tuple #[.string ⟨s.dropLast.toArray⟩, .bool true]) ∧ w' = w := by
  have eb : bareT s = s.dropLast := by unfold bareT; rw [if_pos hf]
  refine (rBare_f s w (by omega)).mono ?_
  rintro e w' ⟨rfl, rfl⟩
  rw [eb, hf]
  exact ⟨rfl, rfl⟩
theorem rBare_bad (s : List UInt8) (hf : fdB s = false) (hs : s.length ≤ 1099511627776) (w : World) : Calls Tryd.prog 102 #[.string ⟨s.toArray⟩] w fun e w' => e = .returned (.tuple #[.string ⟨s.toArray⟩, .bool false]) ∧ w' = w := by
  have eb : bareT s = s := by unfold bareT; rw [if_neg (by rw [hf]; decide)]
  refine (rBare_f s w (by omega)).mono ?_
  rintro e w' ⟨rfl, rfl⟩
  rw [eb, hf]
  exact ⟨rfl, rfl⟩
set_option maxHeartbeats 4000000 in
theorem rNext_end {R : Nat} {L : List (List UInt8)} {lo : Option Addr} {lc : Nat} {p : Nat} {fa : Int} (w : World) (q : Rx w R (.slice lo L.length lc) p fa 0) (_hL : HS w (.slice lo L.length lc) L) (_hR : ∀ a, lo = some a → a.block ≠ R) (hp : p ≤ 4398046511104) (hlt : L.length ≤ p) :
    Calls Tryd.prog 82 #[.pointer (some ⟨R, 0, none⟩)] w fun x w' => x = .returned (.string ⟨#[]⟩) ∧ Rx w' R (.slice lo L.length lc) ((p : Int) + 1) ((p : Int) + 1) 1 ∧ w.grownBy w' (some R) := by
  obtain ⟨c0, c1, c2, c3⟩ := q.cells
  have f1 := q.frozen 1
  have q1 := q.at ((p : Int) + 1)
  have g1 := grown_set w R 1 (.int .i64 ((p : Int) + 1))
  clear q
  go_enter Tryd.func82, Tryd.ntmps82
  go_upto_region 4 with fail
  generalize w.setCell ⟨R, 1, none⟩ (.int .i64 ((p : Int) + 1)) = W1 at q1 g1 ⊢
  obtain ⟨d0, d1, d2, d3⟩ := q1.cells
  have i0 : (L.length : Int) < (p : Int) + 1 := by omega
  clear c0 c1 c2 c3
  go_quiet (fail)
  go_wp2_with fail
  refine (rFail_ok 1 _ (q1.dN _)).mono ?_
  rintro e w2 ⟨rfl, q2, g2⟩
  go_wp2
  go_ret
  exact ⟨rfl, q2, grown_two (grown_drewN g1 _) g2⟩
set_option maxHeartbeats 4000000 in
theorem rNext_ok {R : Nat} {L : List (List UInt8)} {lo : Option Addr} {lc : Nat} {p : Nat} {fa : Int} (w : World) (q : Rx w R (.slice lo L.length lc) p fa 0) (hL : HS w (.slice lo L.length lc) L) (hR : ∀ a, lo = some a → a.block ≠ R) (hp : p ≤ 4398046511104) (hlt : p < L.length) {s : List UInt8} (hs : L[p] = s) (hsl : s.length ≤ 1099511627776) (hf : fdB s = true) :
    Calls Tryd.prog 82 #[.pointer (some ⟨R, 0, none⟩)] w fun x w' => x = .returned (.string ⟨s.dropLast.toArray⟩) ∧ Rx w' R (.slice lo L.length lc) ((p : Int) + 1) fa 0 ∧ w.grownBy w' (some R) := by
  obtain ⟨c0, c1, c2, c3⟩ := q.cells
  have f1 := q.frozen 1
  have q1 := q.at ((p : Int) + 1)
  have g1 := grown_set w R 1 (.int .i64 ((p : Int) + 1))
  clear q
  go_enter Tryd.func82, Tryd.ntmps82
  go_upto_region 4 with fail
  generalize w.setCell ⟨R, 1, none⟩ (.int .i64 ((p : Int) + 1)) = W1 at q1 g1 ⊢
  obtain ⟨d0, d1, d2, d3⟩ := q1.cells
  obtain ⟨bk, off, rfl, hbk, hcl⟩ := HS.at hL (by omega)
  have d4 := hcl p hlt
  have hRb : bk ≠ R := hR ⟨bk, off, none⟩ rfl
  have d5 : W1.cell? ⟨bk, off + p, none⟩ = some (.string ⟨L[p].toArray⟩) := (World.cell?_of_block (w := w) (g1.block bk hbk (fun e => hRb (Option.some.inj e)))).trans d4
  clear hcl d4 c0 c1 c2 c3 hL hR
  rw [hs] at d5
  have i0 : ¬ (L.length : Int) < (p : Int) + 1 := by omega
  have e1 : (p : Int) + 1 - 1 = (p : Int) := by omega
  have i1 : 0 ≤ (p : Int) := by omega
  have i2 : (p : Int) < (L.length : Int) := by omega
  have e3 : IntKind.i64.wrap (p : Int) = (p : Int) := (by simp [IntKind.wrap, IntKind.bits, IntKind.signed]; omega)
  have e4 : wrap64 (p : Int) = (p : Int) := by unfold wrap64; omega
  go_quiet (fail)
  go_wp2_with fail
  have q2 := q1.dN nq
  have g2 := grown_drewN g1 nq
  have d6 : (W1.drewN nq).cell? ⟨bk, off + p, none⟩ = some (.string ⟨s.toArray⟩) := d5
  clear q1 g1 d5 d0 d1 d2 d3
  generalize W1.drewN nq = W2 at q2 g2 d6 ⊢
  obtain ⟨d0, d1, d2, d3⟩ := q2.cells
  have j1 : (0 : Int) ≤ (p : Int) := by omega
  have j2 : (p : Int) < (L.length : Int) := by omega
  have j3 : (p : Int).toNat = p := by omega
  go_quiet ((go_at_call 102; exact Calls.quiet_of_same (rBare_same s hf hsl _)))
  go_wp2
  go_ret
  exact ⟨rfl, q2.dN _, grown_drewN g2 _⟩
set_option maxHeartbeats 4000000 in
theorem rNext_bad {R : Nat} {L : List (List UInt8)} {lo : Option Addr} {lc : Nat} {p : Nat} {fa : Int} (w : World) (q : Rx w R (.slice lo L.length lc) p fa 0) (hL : HS w (.slice lo L.length lc) L) (hR : ∀ a, lo = some a → a.block ≠ R) (hp : p ≤ 4398046511104) (hlt : p < L.length) {s : List UInt8} (hs : L[p] = s) (hsl : s.length ≤ 1099511627776) (hf : fdB s = false) :
    Calls Tryd.prog 82 #[.pointer (some ⟨R, 0, none⟩)] w fun x w' => x = .returned (.string ⟨#[]⟩) ∧ Rx w' R (.slice lo L.length lc) ((p : Int) + 1) ((p : Int) + 1) 3 ∧ w.grownBy w' (some R) := by
  obtain ⟨c0, c1, c2, c3⟩ := q.cells
  have f1 := q.frozen 1
  have q1 := q.at ((p : Int) + 1)
  have g1 := grown_set w R 1 (.int .i64 ((p : Int) + 1))
  clear q
  go_enter Tryd.func82, Tryd.ntmps82
  go_upto_region 4 with fail
  generalize w.setCell ⟨R, 1, none⟩ (.int .i64 ((p : Int) + 1)) = W1 at q1 g1 ⊢
  obtain ⟨d0, d1, d2, d3⟩ := q1.cells
  obtain ⟨bk, off, rfl, hbk, hcl⟩ := HS.at hL (by omega)
  have d4 := hcl p hlt
  have hRb : bk ≠ R := hR ⟨bk, off, none⟩ rfl
  have d5 : W1.cell? ⟨bk, off + p, none⟩ = some (.string ⟨L[p].toArray⟩) := (World.cell?_of_block (w := w) (g1.block bk hbk (fun e => hRb (Option.some.inj e)))).trans d4
  clear hcl d4 c0 c1 c2 c3 hL hR
  rw [hs] at d5
  have i0 : ¬ (L.length : Int) < (p : Int) + 1 := by omega
  have e1 : (p : Int) + 1 - 1 = (p : Int) := by omega
  have i1 : 0 ≤ (p : Int) := by omega
  have i2 : (p : Int) < (L.length : Int) := by omega
  have e3 : IntKind.i64.wrap (p : Int) = (p : Int) := (by simp [IntKind.wrap, IntKind.bits, IntKind.signed]; omega)
  have e4 : wrap64 (p : Int) = (p : Int) := by unfold wrap64; omega
  go_quiet (fail)
  go_wp2_with fail
  have q2 := q1.dN nq
  have g2 := grown_drewN g1 nq
  have d6 : (W1.drewN nq).cell? ⟨bk, off + p, none⟩ = some (.string ⟨s.toArray⟩) := d5
  clear q1 g1 d5 d0 d1 d2 d3
  generalize W1.drewN nq = W2 at q2 g2 d6 ⊢
  obtain ⟨d0, d1, d2, d3⟩ := q2.cells
  have j1 : (0 : Int) ≤ (p : Int) := by omega
  have j2 : (p : Int) < (L.length : Int) := by omega
  have j3 : (p : Int).toNat = p := by omega
  go_quiet ((go_at_call 102; exact Calls.quiet_of_same (rBare_bad s hf hsl _)))
  go_wp2_with fail
  refine (rFail_ok 3 _ (q2.dN _)).mono ?_
  rintro e w2 ⟨rfl, q3, g3⟩
  go_wp2
  go_ret
  exact ⟨rfl, q3, grown_two (grown_drewN g2 _) g3⟩
end Go.Proofs.YtgiojkhmkeocfaaDoor

/- The reference's reader, walked: does the next line begin with some bytes? -/
namespace Go.Proofs.YtgiojkhmkeocfaaDoor
open Go.RowKit
attribute [local go_sem] ByteArray.extract_mk no_at

theorem pre_take (sg l : List UInt8) : sg.isPrefixOf l = (decide (sg.length ≤ l.length) && (l.take sg.length == sg)) := by
  rw [Bool.eq_iff_iff, List.isPrefixOf_iff_prefix, Bool.and_eq_true, decide_eq_true_eq, beq_iff_eq]
  constructor
  · rintro ⟨t, rfl⟩
    simp
  · rintro ⟨_, h⟩
    refine ⟨l.drop sg.length, ?_⟩
    have h2 := List.take_append_drop sg.length l
    rw [h] at h2
    exact h2
set_option maxHeartbeats 4000000 in
theorem rPeek_f {R : Nat} {L : List (List UInt8)} {lo : Option Addr} {lc : Nat} {p : Nat} {fa : Int} (w : World) (q : Rx w R (.slice lo L.length lc) p fa 0) (hL : HS w (.slice lo L.length lc) L) (hs : ∀ s ∈ L, s.length ≤ 1099511627776) (b : Bool) (HB : Hid (pkM (L.drop p) = b)) :
    Calls Tryd.prog 123 #[.pointer (some ⟨R, 0, none⟩), .string ⟨markT.toArray⟩] w fun x w' => x = .returned (.bool b) ∧ ∃ m, w' = w.drewN m := by
  by_cases hlt : p < L.length
  · have hd : L.drop p = L[p] :: L.drop (p + 1) := List.drop_eq_getElem_cons hlt
    have hb := HB.out
    rw [hd] at hb
    simp only [pkM] at hb
    obtain ⟨bk, off, rfl, hbk, hcl⟩ := HS.at hL (by omega)
    have d4 := hcl p hlt
    have hsl := hs L[p] (List.getElem_mem _)
    rw [pre_take] at hb
    generalize L[p] = s at d4 hsl hb
    clear hcl hd hs HB hL
    obtain ⟨c0, c1, c2, c3⟩ := q.cells
    go_enter Tryd.func123, Tryd.ntmps123
    go_wp2_with fail
    refine (rMore_f w q).mono ?_
    rintro e w1 ⟨rfl, m, rfl⟩
    have hmr : (decide ((0 : Int) = 0) && decide (p < L.length)) = true := by simp [hlt]
    rw [hmr]
    have f0 : (w.drewN m).cell? ⟨R, 0, none⟩ = _ := c0
    have f1 : (w.drewN m).cell? ⟨R, 1, none⟩ = _ := c1
    have f4 : (w.drewN m).cell? ⟨bk, off + p, none⟩ = _ := d4
    clear c0 c1 c2 c3 d4 q hmr
    have HM : Hid (∀ n, ∃ k, (w.drewN m).drewN n = w.drewN k) := fun n => ⟨_, World.drewN_drewN w m n⟩
    generalize w.drewN m = W1 at f0 f1 f4 HM ⊢
    go_wp2_with fail
    have j1 : (0 : Int) ≤ (p : Int) := by omega
    have j2 : (p : Int) < (L.length : Int) := by omega
    have j3 : (p : Int).toNat = p := by omega
    go_quiet (fail)
    by_cases hlen : 28 ≤ s.length
    · have h1 : (28 : Int) ≤ (s.length : Int) := by omega
      have h2 : (s.take 28 == markT) = b := by rw [← hb]; simp [markT, hlen]
      go_wp2
      go_ret
      refine ⟨?_, HM.out _⟩
      rw [← h2]
      rfl
    · have h1 : ¬ (28 : Int) ≤ (s.length : Int) := by omega
      have h2 : b = false := by rw [← hb]; simp [markT, hlen]
      subst h2
      go_wp2
      go_ret
      exact ⟨rfl, HM.out _⟩
  · have hd : L.drop p = [] := List.drop_eq_nil_of_le (by omega)
    have hb := HB.out
    rw [hd] at hb
    simp only [pkM] at hb
    subst hb
    go_enter Tryd.func123, Tryd.ntmps123
    go_wp2_with fail
    refine (rMore_f w q).mono ?_
    rintro e w1 ⟨rfl, m, rfl⟩
    have hmr : (decide ((0 : Int) = 0) && decide (p < L.length)) = false := by simp [hlt]
    rw [hmr]
    go_wp2
    go_ret
    exact ⟨rfl, m, rfl⟩
end Go.Proofs.YtgiojkhmkeocfaaDoor

/- Two texts joined. -/
namespace Go.Proofs.YtgiojkhmkeocfaaDoor

theorem ba_join (a b : List UInt8) : ((⟨a.toArray⟩ : ByteArray) ++ (⟨b.toArray⟩ : ByteArray)) = ⟨(a ++ b).toArray⟩ := by
  apply ByteArray.ext
  simp
end Go.Proofs.YtgiojkhmkeocfaaDoor

/- The reference's reader, walked: a line with a sign, behind which the mark may stand. -/
namespace Go.Proofs.YtgiojkhmkeocfaaDoor
open Go.RowKit
attribute [local go_sem] ByteArray.extract_mk no_at

theorem HS.away {w w' : World} {R : Nat} {lo : Option Addr} {lc : Nat} {L : List (List UInt8)} (h : HS w (.slice lo L.length lc) L) (hg : w.grownBy w' (some R)) (hR : ∀ a, lo = some a → a.block ≠ R) : HS w' (.slice lo L.length lc) L := by
  rcases h with h | ⟨ad, c, hv, hnc, hc⟩
  · exact .inl h
  · refine .inr ⟨ad, c, hv, hnc, fun j u hj => ?_⟩
    cases hv
    have h1 := hc j u hj
    have hb : (ad.add j).block = ad.block := by unfold Addr.add; split <;> rfl
    have hlt := World.block_lt_of_cell? w _ h1
    rw [World.cell?_of_block (w := w) (hg.block _ hlt (fun e => hR ad rfl (by rw [← hb]; exact Option.some.inj e)))]
    exact h1
/-- what a line with a sign leaves behind -/
def MkP (R : Nat) (vL : Value) (L : List (List UInt8)) (fa : Int) (X : Except (Nat × Int) (List UInt8 × Nat × List (List UInt8))) (x : Ending) (w' : World) : Prop :=
  match X with
  | .error (a, e) => ∃ (t : List UInt8) (p' : Int), x = .returned (.string ⟨t.toArray⟩) ∧ Rx w' R vL p' (a : Int) e ∧ e ≠ 0
  | .ok (t, p1, r) => x = .returned (.string ⟨t.toArray⟩) ∧ Rx w' R vL (p1 : Int) fa 0 ∧ L.drop p1 = r
set_option maxHeartbeats 4000000 in
theorem rMarked_f {R : Nat} {L : List (List UInt8)} {lo : Option Addr} {lc : Nat} {p : Nat} {fa : Int} (w : World) (q : Rx w R (.slice lo L.length lc) p fa 0) (hL : HS w (.slice lo L.length lc) L) (hR : ∀ a, lo = some a → a.block ≠ R) (hp : p ≤ 2199023255552) (hs : ∀ s ∈ L, s.length ≤ 1099511627776)
    (sg : List UInt8) (hsg : sg.length = 2) (last : Bool) (X : Except (Nat × Int) (List UInt8 × Nat × List (List UInt8))) (HX : Hid (mkd sg last p (L.drop p) = X)) :
    Calls Tryd.prog 84 #[.pointer (some ⟨R, 0, none⟩), .string ⟨sg.toArray⟩, .bool last] w fun x w' => MkP R (.slice lo L.length lc) L fa X x w' ∧ w.grownBy w' (some R) := by
  have hX := HX.out
  clear HX
  unfold mkd at hX
  by_cases hlt : p < L.length
  · rw [nxt_drop hlt] at hX
    obtain ⟨s, hsd⟩ : ∃ s, L[p] = s := ⟨_, rfl⟩
    have hsl := hs L[p] (List.getElem_mem _)
    rw [hsd] at hX hsl
    cases hf : fdB s with
    | true =>
      rw [if_pos hf] at hX
      dsimp only at hX
      have hn := rNext_ok w q hL hR (by omega) hlt hsd hsl hf
      obtain ⟨t, ht⟩ : ∃ t, s.dropLast = t := ⟨_, rfl⟩
      have htl : t.length ≤ 1099511627776 := (by rw [← ht, List.length_dropLast]; omega)
      rw [ht] at hX hn
      clear ht hsd hf
      rw [pre_take, hsg] at hX
      by_cases hle : 2 ≤ t.length
      · by_cases htk : t.take 2 = sg
        · have hc : (decide (2 ≤ t.length) && (t.take 2 == sg)) = true := by simp [hle, htk]
          rw [if_pos hc] at hX
          have k1 : ¬ (t.length : Int) < (2 : Int) := by omega
          have k2 : (2 : Int) ≤ (t.length : Int) := by omega
          have k3 : (t.take 2 == sg) = true := by simp [htk]
          obtain ⟨b, hbd⟩ : ∃ b, pkM (L.drop (p + 1)) = b := ⟨_, rfl⟩
          have HB : Hid (pkM (L.drop (p + 1)) = b) := hbd
          rw [hbd] at hX
          have HXX : Hid (_ = X) := hX
          clear hX hc hbd
          have k5 : (t.drop 2).take (t.length - 2) = t.drop 2 := List.take_of_length_le (by simp)
          have hdl : (t.drop 2).length ≤ 1099511627776 := (by rw [List.length_drop]; omega)
          cases last with
          | false =>
            have hX := HXX.out
            rw [if_neg (by simp)] at hX
            clear HXX
            subst hX
            go_enter Tryd.func84, Tryd.ntmps84
            go_wp2_with fail
            refine hn.mono ?_
            rintro e w1 ⟨rfl, q1, g1⟩
            go_wp2
            go_ret
            exact ⟨⟨by simp [ba_join], q1, rfl⟩, g1⟩
          | true =>
            cases b with
            | false =>
              have hX := HXX.out
              rw [if_neg (by simp)] at hX
              clear HXX
              subst hX
              go_enter Tryd.func84, Tryd.ntmps84
              go_wp2_with fail
              refine hn.mono ?_
              rintro e w1 ⟨rfl, q1, g1⟩
              go_wp2_with fail
              refine (rPeek_f (p := p + 1) w1 q1 (hL.away g1 hR) hs _ HB).mono ?_
              rintro e w2 ⟨rfl, m, rfl⟩
              have q2 := q1.dN m
              have g2 := grown_drewN g1 m
              clear q1 g1
              generalize w1.drewN m = W2 at q2 g2 ⊢
              go_wp2
              go_ret
              exact ⟨⟨by simp [ba_join], q2, rfl⟩, g2⟩
            | true =>
              have hX := HXX.out
              rw [if_pos (by simp)] at hX
              clear HXX
              have hdr : L.drop (p + 2) = (L.drop (p + 1)).tail := by simp
              by_cases hem : t.drop 2 = []
              · rw [if_pos hem] at hX
                subst hX
                go_enter Tryd.func84, Tryd.ntmps84
                go_wp2_with fail
                refine hn.mono ?_
                rintro e w1 ⟨rfl, q1, g1⟩
                go_wp2_with fail
                refine (rPeek_f (p := p + 1) w1 q1 (hL.away g1 hR) hs _ HB).mono ?_
                rintro e w2 ⟨rfl, m, rfl⟩
                have q2 := q1.dN m
                have g2 := grown_drewN g1 m
                clear q1 g1
                generalize w1.drewN m = W2 at q2 g2 ⊢
                obtain ⟨c0, c1, c2, c3⟩ := q2.cells
                have f1 := q2.frozen 1
                have q3 := q2.at ((p : Int) + 1 + 1)
                have g3 := grown_two g2 (grown_set W2 R 1 (.int .i64 ((p : Int) + 1 + 1)))
                have hl2 : t.length = 2 := (by
                  have := congrArg List.length hem
                  simp at this
                  omega)
                go_wp2_with fail
                refine (rFail_ok 3 _ q3).mono ?_
                rintro e w3 ⟨rfl, q4, g4⟩
                go_wp2
                go_ret
                exact ⟨⟨[], _, rfl, q4, by decide⟩, grown_two g3 g4⟩
              · rw [if_neg hem] at hX
                subst hX
                go_enter Tryd.func84, Tryd.ntmps84
                go_wp2_with fail
                refine hn.mono ?_
                rintro e w1 ⟨rfl, q1, g1⟩
                go_wp2_with fail
                refine (rPeek_f (p := p + 1) w1 q1 (hL.away g1 hR) hs _ HB).mono ?_
                rintro e w2 ⟨rfl, m, rfl⟩
                have q2 := q1.dN m
                have g2 := grown_drewN g1 m
                clear q1 g1
                generalize w1.drewN m = W2 at q2 g2 ⊢
                obtain ⟨c0, c1, c2, c3⟩ := q2.cells
                have f1 := q2.frozen 1
                have q3 := q2.at ((p : Int) + 1 + 1)
                have g3 := grown_two g2 (grown_set W2 R 1 (.int .i64 ((p : Int) + 1 + 1)))
                have hl2 : 2 < t.length := (by
                  have h0 : 0 < (t.drop 2).length := List.length_pos_iff.2 hem
                  simp at h0
                  omega)
                have hl3 : ((t.length - 2 : Nat) : Int) ≠ 0 := by omega
                go_wp2
                go_ret
                exact ⟨⟨rfl, q3, hdr⟩, g3⟩
        · have hc : ¬ (decide (2 ≤ t.length) && (t.take 2 == sg)) = true := by simp [htk]
          rw [if_neg hc] at hX
          subst hX
          have k1 : ¬ (t.length : Int) < (2 : Int) := by omega
          have k2 : (2 : Int) ≤ (t.length : Int) := by omega
          have k3 : (t.take 2 == sg) = false := by simp [htk]
          clear hc
          go_enter Tryd.func84, Tryd.ntmps84
          go_wp2_with fail
          refine hn.mono ?_
          rintro e w1 ⟨rfl, q1, g1⟩
          go_wp2_with fail
          refine (rFail_ok 3 _ q1).mono ?_
          rintro e w2 ⟨rfl, q2, g2⟩
          go_wp2
          go_ret
          exact ⟨⟨[], _, rfl, q2, by decide⟩, grown_two g1 g2⟩
      · have hc : ¬ (decide (2 ≤ t.length) && (t.take 2 == sg)) = true := by simp [hle]
        rw [if_neg hc] at hX
        subst hX
        have k1 : (t.length : Int) < (2 : Int) := by omega
        clear hc
        go_enter Tryd.func84, Tryd.ntmps84
        go_wp2_with fail
        refine hn.mono ?_
        rintro e w1 ⟨rfl, q1, g1⟩
        go_wp2_with fail
        refine (rFail_ok 3 _ q1).mono ?_
        rintro e w2 ⟨rfl, q2, g2⟩
        go_wp2
        go_ret
        exact ⟨⟨[], _, rfl, q2, by decide⟩, grown_two g1 g2⟩
    | false =>
      rw [if_neg (by rw [hf]; decide)] at hX
      subst hX
      have hn := rNext_bad w q hL hR (by omega) hlt hsd hsl hf
      clear hsd hf hs hsl
      go_enter Tryd.func84, Tryd.ntmps84
      go_wp2_with fail
      refine hn.mono ?_
      rintro e w1 ⟨rfl, q1, g1⟩
      have h2 : (0 : Int) < (sg.length : Int) := by omega
      go_wp2_with fail
      refine (rFail_no 3 _ q1 (by decide)).mono ?_
      rintro e w2 ⟨rfl, rfl⟩
      go_wp2
      go_ret
      exact ⟨⟨[], _, rfl, q1, by decide⟩, g1⟩
  · rw [nxt_end (by omega)] at hX
    dsimp only at hX
    subst hX
    have hn := rNext_end w q hL hR (by omega) (by omega)
    go_enter Tryd.func84, Tryd.ntmps84
    go_wp2_with fail
    refine hn.mono ?_
    rintro e w1 ⟨rfl, q1, g1⟩
    have h2 : (0 : Int) < (sg.length : Int) := by omega
    go_wp2_with fail
    refine (rFail_no 3 _ q1 (by decide)).mono ?_
    rintro e w2 ⟨rfl, rfl⟩
    go_wp2
    go_ret
    exact ⟨⟨[], _, rfl, q1, by decide⟩, g1⟩
end Go.Proofs.YtgiojkhmkeocfaaDoor

/- The library's contracts on a strings.Builder's WriteString and on strings.HasSuffix, TrimSuffix and CutPrefix at this program: the program bears the bodies that they speak of. -/
namespace Go.Proofs
open Go.Shelf Go.RowKit
end Go.Proofs

/- The reference's text of a number, walked: the decimal digits, with a sign ahead of a negative one. -/
namespace Go.Proofs.YtgiojkhmkeocfaaDoor
open Go.RowKit

end Go.Proofs.YtgiojkhmkeocfaaDoor

/- The reference's small functions of the normal form's writing, walked: a range of lines, a line behind a sign. -/
namespace Go.Proofs.YtgiojkhmkeocfaaDoor
open Go.RowKit
attribute [local go_sem] ByteArray.extract_mk no_at

end Go.Proofs.YtgiojkhmkeocfaaDoor

/- The reference's change of the normal form, walked. -/
namespace Go.Proofs.YtgiojkhmkeocfaaDoor
open Go.RowKit

/-- a change in a box, and all below it as it was -/
structure Cs (c : Ch) (b : Nat) (W w : World) : Prop where
  c0 : w.cell? ⟨b, 0, none⟩ = some (.int .i64 c.A)
  c1 : w.cell? ⟨b, 1, none⟩ = some (.int .i64 c.AN)
  c2 : w.cell? ⟨b, 2, none⟩ = some (.int .i64 c.B)
  c3 : w.cell? ⟨b, 3, none⟩ = some (.int .i64 c.BN)
  lt : b < w.heap.size
  low : Below W.heap.size W w
theorem Cs.keep {c : Ch} {b : Nat} {W w w' : World} (h : Cs c b W w) (hb : Below w.heap.size w w') : Cs c b W w' := by
  have hk : ∀ o, w'.cell? ⟨b, o, none⟩ = w.cell? ⟨b, o, none⟩ := fun o => by
    unfold World.cell?
    dsimp only
    rw [hb.block b h.lt]
  exact ⟨(hk 0).trans h.c0, (hk 1).trans h.c1, (hk 2).trans h.c2, (hk 3).trans h.c3, Nat.lt_of_lt_of_le h.lt hb.size, h.low.trans (hb.mono h.low.size)⟩
theorem cs_drew (c : Ch) (b : Nat) (W w : World) : Cs c b W w.drew ↔ Cs c b W w := ⟨fun h => ⟨h.c0, h.c1, h.c2, h.c3, h.lt, (h.low.trans ⟨rfl, rfl, rfl, Nat.le_refl _, fun _ _ => rfl⟩ : Below W.heap.size W w)⟩, fun h => ⟨h.c0, h.c1, h.c2, h.c3, h.lt, h.low.drew⟩⟩
attribute [local simp] cs_drew
end Go.Proofs.YtgiojkhmkeocfaaDoor

/- What is written in the normal form is read as the hunks without context; plain mathematics. -/
namespace Go.Proofs.YtgiojkhmkeocfaaDoor
open Ln

/-- lines that all are lines, and have their line feed but for the last one -/
def Rows : List (List UInt8) → Prop
  | [] => True
  | x :: r => linB x = true ∧ (r ≠ [] → fdB x = true) ∧ Rows r
theorem fd_form {x : List UInt8} (h : fdB x = true) : x = x.dropLast ++ [10] := by
  unfold fdB at h
  have h1 : x.getLast? = some 10 := by simpa using h
  obtain ⟨q, rfl⟩ := List.getLast?_eq_some_iff.1 h1
  simp
end Go.Proofs.YtgiojkhmkeocfaaDoor

/- The normal form of an edit script: read again it is the hunks without context; a part of it is never read as the whole; plain mathematics. -/
namespace Go.Proofs.YtgiojkhmkeocfaaDoor
open Ln

theorem prs_count {t : List UInt8} {l : List Hk} (h : prsT t = .ok l) : hksC l = (splitL t).length := by
  unfold prsT at h
  split at h
  · cases h
  · exact hksP_ok _ (split_plain t) (Nat.le_refl _) h
end Go.Proofs.YtgiojkhmkeocfaaDoor

/- The reference's Print of the normal form, walked. -/
namespace Go.Proofs.YtgiojkhmkeocfaaDoor
open Go.RowKit

end Go.Proofs.YtgiojkhmkeocfaaDoor

/- How long the normal form of a script is; plain mathematics. -/
namespace Go.Proofs.YtgiojkhmkeocfaaDoor

end Go.Proofs.YtgiojkhmkeocfaaDoor

/- The code's small functions of layer 12's Print, walked: numbers, ranges, letters, lines that are written. -/
namespace Go.Proofs.YtgiojkhmkeocfaaDoor
open Go.RowKit

/-- the table of powers of ten, in every later world -/
def Tab10 (w : World) : Prop := ∀ u : World, Below w.heap.size w u → Lib.TabIs Tryd.prog u "internal/strconv.uint64pow10" .u64 Lib.pow10Tab
theorem Tab10.on {w u : World} (h : Tab10 w) (hb : Below w.heap.size w u) : Tab10 u := fun v hv => h v (hb.trans (hv.mono hb.size))
set_option maxHeartbeats 1000000 in
theorem ndivided_f (h : Hk) (v : Value) (w : World) (hv : ∃ lo n lc, v = .slice lo n lc) (r : Bool) (HR : Hid ((decide (0 < h.AN) && decide (0 < h.BN)) = r)) :
    Calls Tryd.prog 33 #[hkV h v] w fun e w' => e = .returned (.bool r) ∧ Below w.heap.size w w' := by
  have hBl : Below w.heap.size w (w.alloc (hkO h v)) := (Below.refl _ w).alloc (Nat.le_refl _) _
  obtain ⟨c0, c1, c2, c3, c4⟩ := (Hx.new w h v).cells
  unfold hkO at c0 c1 c2 c3 c4 hBl
  obtain ⟨lo, n, lc, rfl⟩ := hv
  have e : hkV h (.slice lo n lc) = .agg #[.int .i64 h.A, .int .i64 h.AN, .int .i64 h.B, .int .i64 h.BN, .slice lo n lc] := rfl
  rw [e]
  clear e
  by_cases h1 : 0 < h.AN
  · have hE : decide (0 < h.BN) = r := (by rw [← HR.out]; simp [h1])
    subst hE
    clear HR
    go_enter Tryd.func33, Tryd.ntmps33
    go_wp2
    go_ret
    exact ⟨rfl, hBl⟩
  · have hE : false = r := (by rw [← HR.out]; simp [h1])
    subst hE
    clear HR
    go_enter Tryd.func33, Tryd.ntmps33
    go_wp2
    go_ret
    exact ⟨rfl, hBl⟩
end Go.Proofs.YtgiojkhmkeocfaaDoor

/- A line as it stands in a patch (package patchtext), walked. -/
namespace Go.Proofs.YtgiojkhmkeocfaaDoor
open Go.RowKit

theorem suf_feed (s : List UInt8) : Lib.hasSuffix s [10] = fdB s := by
  unfold Lib.hasSuffix fdB
  rw [Bool.eq_iff_iff, List.isSuffixOf_iff_suffix, beq_iff_eq]
  constructor
  · rintro ⟨t, rfl⟩
    simp
  · intro h
    obtain ⟨t, rfl⟩ := List.getLast?_eq_some_iff.1 h
    exact ⟨t, rfl⟩
end Go.Proofs.YtgiojkhmkeocfaaDoor

/- The code's writeLines of layer 12, walked: lines behind a sign are written into a builder. -/
namespace Go.Proofs.YtgiojkhmkeocfaaDoor
open Go.RowKit

end Go.Proofs.YtgiojkhmkeocfaaDoor
