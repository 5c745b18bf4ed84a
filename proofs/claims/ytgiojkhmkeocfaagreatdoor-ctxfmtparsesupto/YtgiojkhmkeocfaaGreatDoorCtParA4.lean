/-
  Texts that belong together, joined: Itoa, NoShelf, LnShelf, NoShelfX, UnShelf, LnMath, HuLm, Math, PMath, BackMath, NoMath, NoB, NoRd, NoPk, NoM2, NoM3, NoM4, CxMath, CxM2, CxM3, CxM4, CxM5.
-/
import Derived.Shelf.Strconv.Itoa3
import Derived.Test.YtgiojkhmkeocfaaGreatDoorProg
import Derived.Shelf.Strings.BuilderK
import Derived.Shelf.Small.Wraps
import Derived.Shelf.Small.Strs
import Derived.Test.YtgiojkhmkeocfaaGreatDoorCtParA1
import Derived.Shelf.Strings.Search3
import Derived.Shelf.Small.Utf8
import Derived.Shelf.Strings.Runes
import Derived.Shelf.Strings.IndexAny
import Derived.Shelf.Strings.IndexAnyAll
import Derived.Shelf.Strings.Search2
import Derived.Shelf.Strings.Cut
import Derived.Lib.Bytealg
import Derived.Lib.Join
import Derived.Test.YtgiojkhmkeocfaaGreatDoorCtParA2
import Derived.Lib.ItoaNum
import Derived.Deep.CutBlock
import Derived.Deep.RegionHeld3

/- Contracts of the library at this program: the program bears the bodies that they speak of. Taken: strconv_Itoa. -/
namespace Go.Proofs
open Go.Shelf
def Tryz.laysM171_ren : Go.Shelf.Ren := ⟨fun | 171 => 134 | 243 => 196 | 246 => 239 | 283 => 268 | 284 => 269 | 285 => 270 | 286 => 271 | 129 => 290 | 317 => 289 | 318 => 291 | 319 => 292 | 320 => 293 | 337 => 304 | 338 => 305 | n => n, fun | 3 => 3 | 9 => 9 | 2 => 2 | 4 => 4 | 171 => 322 | 0 => 0 | 53 => 29 | 37 => 75 | 5 => 5 | 173 => 325 | 212 => 337 | 51 => 235 | 20 => 20 | 213 => 338 | 46 => 180 | 232 => 352 | 233 => 353 | n => n, fun | 17 => 2 | 18 => 3 | 19 => 4 | n => n⟩
theorem Tryz.laysM171 : Go.Proofs.LaysM.n171 Tryz.prog Tryz.laysM171_ren := {
  mixed := by kernel_rfl
  f129 := Tryz.func290.trans (congrArg some (by kernel_rfl))
  f171 := Tryz.func134.trans (congrArg some (by kernel_rfl))
  f243 := Tryz.func196.trans (congrArg some (by kernel_rfl))
  f246 := Tryz.func239.trans (congrArg some (by kernel_rfl))
  f283 := Tryz.func268.trans (congrArg some (by kernel_rfl))
  f284 := Tryz.func269.trans (congrArg some (by kernel_rfl))
  f285 := Tryz.func270.trans (congrArg some (by kernel_rfl))
  f286 := Tryz.func271.trans (congrArg some (by kernel_rfl))
  f317 := Tryz.func289.trans (congrArg some (by kernel_rfl))
  f318 := Tryz.func291.trans (congrArg some (by kernel_rfl))
  f319 := Tryz.func292.trans (congrArg some (by kernel_rfl))
  f320 := Tryz.func293.trans (congrArg some (by kernel_rfl))
  f337 := Tryz.func304.trans (congrArg some (by kernel_rfl))
  f338 := Tryz.func305.trans (congrArg some (by kernel_rfl))
  t0 := Tryz.underlying0
  a0 := Tryz.isAgg0
  z0 := Tryz.sizeOf0
  v0 := Tryz.zeroValue0
  t2 := Tryz.underlying2
  a2 := Tryz.isAgg2
  z2 := Tryz.sizeOf2
  v2 := Tryz.zeroValue2
  t3 := Tryz.underlying3
  a3 := Tryz.isAgg3
  z3 := Tryz.sizeOf3
  v3 := Tryz.zeroValue3
  t4 := Tryz.underlying4
  a4 := Tryz.isAgg4
  z4 := Tryz.sizeOf4
  v4 := Tryz.zeroValue4
  t5 := Tryz.underlying5
  a5 := Tryz.isAgg5
  z5 := Tryz.sizeOf5
  v5 := Tryz.zeroValue5
  t9 := Tryz.underlying9
  a9 := Tryz.isAgg9
  z9 := Tryz.sizeOf9
  v9 := Tryz.zeroValue9
  t20 := Tryz.underlying20
  a20 := Tryz.isAgg20
  z20 := Tryz.sizeOf20
  v20 := Tryz.zeroValue20
  t37 := Tryz.underlying75
  a37 := Tryz.isAgg75
  z37 := Tryz.sizeOf75
  v37 := Tryz.zeroValue75
  t46 := Tryz.underlying180
  a46 := Tryz.isAgg180
  z46 := Tryz.sizeOf180
  v46 := Tryz.zeroValue180
  t51 := Tryz.underlying235
  a51 := Tryz.isAgg235
  z51 := Tryz.sizeOf235
  v51 := Tryz.zeroValue235
  t53 := Tryz.underlying29
  a53 := Tryz.isAgg29
  z53 := Tryz.sizeOf29
  v53 := Tryz.zeroValue29
  t171 := Tryz.underlying322
  a171 := Tryz.isAgg322
  z171 := Tryz.sizeOf322
  v171 := Tryz.zeroValue322
  t173 := Tryz.underlying325
  a173 := Tryz.isAgg325
  z173 := Tryz.sizeOf325
  v173 := Tryz.zeroValue325
  t212 := Tryz.underlying337
  a212 := Tryz.isAgg337
  z212 := Tryz.sizeOf337
  v212 := Tryz.zeroValue337
  t213 := Tryz.underlying338
  a213 := Tryz.isAgg338
  z213 := Tryz.sizeOf338
  t232 := Tryz.underlying352
  a232 := Tryz.isAgg352
  z232 := Tryz.sizeOf352
  v232 := Tryz.zeroValue352
  t233 := Tryz.underlying353
  a233 := Tryz.isAgg353
  z233 := Tryz.sizeOf353
  v233 := Tryz.zeroValue353
  g17 := by kernel_rfl
  g18 := by kernel_rfl
  g19 := by kernel_rfl
  i0 := by kernel_rfl
  i2 := by kernel_rfl
  i3 := by kernel_rfl
  i4 := by kernel_rfl
  i5 := by kernel_rfl
  i9 := by kernel_rfl
  i20 := by kernel_rfl
  i37 := by kernel_rfl
  i46 := by kernel_rfl
  i51 := by kernel_rfl
  i53 := by kernel_rfl
  i171 := by kernel_rfl
  i173 := by kernel_rfl
  i212 := by kernel_rfl
  i232 := by kernel_rfl
  i233 := by kernel_rfl
  m17 := by kernel_rfl
  m18 := by kernel_rfl
  m19 := by kernel_rfl }
open Go.RowKit Go.Sort Go.Lib in
theorem Tryz.strconv_Itoa (n : Int) (h0 : -9223372036854775808 ≤ n) (h1 : n ≤ 9223372036854775807) (w : World) (htab : Lib.TabIs Tryz.prog w "internal/strconv.uint64pow10" .u64 Lib.pow10Tab) :
    Calls Tryz.prog 134 #[.int .i64 n] w fun e w' => e = .returned (.string ⟨(Lib.itoa n).toArray⟩) ∧ ∃ k os, w' = grow (w.drewN k) os := Any.strconv_Itoa Tryz.laysM171 n h0 h1 w htab
end Go.Proofs

/- Contracts of the library at this program: the program bears the bodies that they speak of. Taken: Builder_String_any_k, strings_CutSuffix, strings_HasSuffix, strings_HasPrefix, strings_TrimSuffix, strings_CutPrefix. -/
namespace Go.Proofs
open Go.Shelf
def Tryz.lays103_ren : Go.Shelf.Ren := ⟨fun | 103 => 167 | 210 => 222 | 206 => 204 | n => n, fun | 9 => 9 | 4 => 4 | 24 => 214 | 3 => 3 | n => n, fun | n => n⟩
theorem Tryz.lays103 : Go.Proofs.Lays.n103 Tryz.prog Tryz.lays103_ren := {
  mixed := by kernel_rfl
  f103 := Tryz.func167.trans (congrArg some (by kernel_rfl))
  f206 := Tryz.func204.trans (congrArg some (by kernel_rfl))
  f210 := Tryz.func222.trans (congrArg some (by kernel_rfl))
  t3 := Tryz.underlying3
  a3 := Tryz.isAgg3
  z3 := Tryz.sizeOf3
  v3 := Tryz.zeroValue3
  t4 := Tryz.underlying4
  a4 := Tryz.isAgg4
  z4 := Tryz.sizeOf4
  v4 := Tryz.zeroValue4
  t9 := Tryz.underlying9
  a9 := Tryz.isAgg9
  z9 := Tryz.sizeOf9
  v9 := Tryz.zeroValue9
  t24 := Tryz.underlying214
  a24 := Tryz.isAgg214
  z24 := Tryz.sizeOf214
  v24 := Tryz.zeroValue214 }
open Go.RowKit in
theorem Tryz.strings_CutPrefix (s p : ByteArray) (w : World) :
    Calls Tryz.prog 167 #[.string s, .string p] w fun e w' => e = .returned (.tuple #[.string ⟨(Lib.trimPrefix s.data.toList p.data.toList).toArray⟩, .bool (Lib.hasPrefix s.data.toList p.data.toList)]) ∧ w' = w := Any.strings_CutPrefix Tryz.lays103 s p w
def Tryz.lays99_ren : Go.Shelf.Ren := ⟨fun | 99 => 149 | 206 => 204 | n => n, fun | 9 => 9 | 4 => 4 | 3 => 3 | n => n, fun | n => n⟩
theorem Tryz.lays99 : Go.Proofs.Lays.n99 Tryz.prog Tryz.lays99_ren := {
  mixed := by kernel_rfl
  f99 := Tryz.func149.trans (congrArg some (by kernel_rfl))
  f206 := Tryz.func204.trans (congrArg some (by kernel_rfl))
  t3 := Tryz.underlying3
  a3 := Tryz.isAgg3
  z3 := Tryz.sizeOf3
  v3 := Tryz.zeroValue3
  t4 := Tryz.underlying4
  a4 := Tryz.isAgg4
  z4 := Tryz.sizeOf4
  v4 := Tryz.zeroValue4
  t9 := Tryz.underlying9
  a9 := Tryz.isAgg9
  z9 := Tryz.sizeOf9
  v9 := Tryz.zeroValue9 }
open Go.RowKit Go.Lib in
theorem Tryz.strings_HasPrefix (s p : ByteArray) (w : World) :
    Calls Tryz.prog 149 #[.string s, .string p] w fun e w' => e = .returned (.bool (Lib.hasPrefix s.data.toList p.data.toList)) ∧ w' = w := Any.strings_HasPrefix Tryz.lays99 s p w
def Tryz.lays100_ren : Go.Shelf.Ren := ⟨fun | 100 => 135 | 207 => 197 | n => n, fun | 9 => 9 | 4 => 4 | 3 => 3 | n => n, fun | n => n⟩
theorem Tryz.lays100 : Go.Proofs.Lays.n100 Tryz.prog Tryz.lays100_ren := {
  mixed := by kernel_rfl
  f100 := Tryz.func135.trans (congrArg some (by kernel_rfl))
  f207 := Tryz.func197.trans (congrArg some (by kernel_rfl))
  t3 := Tryz.underlying3
  a3 := Tryz.isAgg3
  z3 := Tryz.sizeOf3
  v3 := Tryz.zeroValue3
  t4 := Tryz.underlying4
  a4 := Tryz.isAgg4
  z4 := Tryz.sizeOf4
  v4 := Tryz.zeroValue4
  t9 := Tryz.underlying9
  a9 := Tryz.isAgg9
  z9 := Tryz.sizeOf9
  v9 := Tryz.zeroValue9 }
open Go.RowKit Go.Lib in
theorem Tryz.strings_HasSuffix (s p : ByteArray) (w : World) (hs : s.size ≤ 9223372036854775807) :
    Calls Tryz.prog 135 #[.string s, .string p] w fun e w' => e = .returned (.bool (Lib.hasSuffix s.data.toList p.data.toList)) ∧ w' = w := Any.strings_HasSuffix Tryz.lays100 s p w hs
def Tryz.lays102_ren : Go.Shelf.Ren := ⟨fun | 102 => 137 | 209 => 200 | 207 => 197 | n => n, fun | 9 => 9 | 4 => 4 | 3 => 3 | n => n, fun | n => n⟩
theorem Tryz.lays102 : Go.Proofs.Lays.n102 Tryz.prog Tryz.lays102_ren := {
  mixed := by kernel_rfl
  f102 := Tryz.func137.trans (congrArg some (by kernel_rfl))
  f207 := Tryz.func197.trans (congrArg some (by kernel_rfl))
  f209 := Tryz.func200.trans (congrArg some (by kernel_rfl))
  t3 := Tryz.underlying3
  a3 := Tryz.isAgg3
  z3 := Tryz.sizeOf3
  v3 := Tryz.zeroValue3
  t4 := Tryz.underlying4
  a4 := Tryz.isAgg4
  z4 := Tryz.sizeOf4
  v4 := Tryz.zeroValue4
  t9 := Tryz.underlying9
  a9 := Tryz.isAgg9
  z9 := Tryz.sizeOf9
  v9 := Tryz.zeroValue9 }
open Go.RowKit Go.Lib in
theorem Tryz.strings_TrimSuffix (s p : ByteArray) (w : World) (hs : s.size ≤ 9223372036854775807) :
    Calls Tryz.prog 137 #[.string s, .string p] w fun e w' => e = .returned (.string ⟨(Lib.trimSuffix s.data.toList p.data.toList).toArray⟩) ∧ w' = w := Any.strings_TrimSuffix Tryz.lays102 s p w hs
end Go.Proofs

/- Contracts of the library at this program: the program bears the bodies that they speak of. Taken: strings_Index_one. -/
namespace Go.Proofs
open Go.Shelf
def Tryz.lays143_ren : Go.Shelf.Ren := ⟨fun | 143 => 31 | 219 => 75 | 217 => 123 | 225 => 124 | 224 => 125 | 267 => 126 | 266 => 176 | 314 => 177 | n => n, fun | 9 => 9 | 3 => 3 | 4 => 4 | 5 => 5 | 46 => 180 | 146 => 236 | 51 => 235 | n => n, fun | 1 => 1 | n => n⟩
theorem Tryz.lays143 : Go.Proofs.Lays.n143 Tryz.prog Tryz.lays143_ren := {
  mixed := by kernel_rfl
  f143 := Tryz.func31.trans (congrArg some (by kernel_rfl))
  f217 := Tryz.func123.trans (congrArg some (by kernel_rfl))
  f219 := Tryz.func75.trans (congrArg some (by kernel_rfl))
  f224 := Tryz.func125.trans (congrArg some (by kernel_rfl))
  f225 := Tryz.func124.trans (congrArg some (by kernel_rfl))
  f266 := Tryz.func176.trans (congrArg some (by kernel_rfl))
  f267 := Tryz.func126.trans (congrArg some (by kernel_rfl))
  f314 := Tryz.func177.trans (congrArg some (by kernel_rfl))
  t3 := Tryz.underlying3
  a3 := Tryz.isAgg3
  z3 := Tryz.sizeOf3
  v3 := Tryz.zeroValue3
  t4 := Tryz.underlying4
  a4 := Tryz.isAgg4
  z4 := Tryz.sizeOf4
  v4 := Tryz.zeroValue4
  t5 := Tryz.underlying5
  a5 := Tryz.isAgg5
  z5 := Tryz.sizeOf5
  v5 := Tryz.zeroValue5
  t9 := Tryz.underlying9
  a9 := Tryz.isAgg9
  z9 := Tryz.sizeOf9
  v9 := Tryz.zeroValue9
  t46 := Tryz.underlying180
  a46 := Tryz.isAgg180
  z46 := Tryz.sizeOf180
  v46 := Tryz.zeroValue180
  t51 := Tryz.underlying235
  a51 := Tryz.isAgg235
  z51 := Tryz.sizeOf235
  v51 := Tryz.zeroValue235
  t146 := Tryz.underlying236
  a146 := Tryz.isAgg236
  z146 := Tryz.sizeOf236
  v146 := Tryz.zeroValue236
  g1 := by kernel_rfl }
open Go.RowKit Go.Lib in
theorem Tryz.strings_Index_one (s : ByteArray) (c : UInt8) (w : World) :
    Calls Tryz.prog 31 #[.string s, .string ⟨#[c]⟩] w fun e w' => e = .returned (.int .i64 (Lib.indexByte s.data.toList c)) ∧ w' = w := Any.strings_Index_one Tryz.lays143 s c w
end Go.Proofs

/- Contracts of the library at this program: the program bears the bodies that they speak of. Taken: utf8_ValidRune, strings_IndexRune_ascii, strings_IndexAny_long, strings_IndexByte, stringslite_Index_one. -/
namespace Go.Proofs
open Go.Shelf
def Tryz.lays119_ren : Go.Shelf.Ren := ⟨fun | 119 => 273 | n => n, fun | 21 => 21 | 4 => 4 | n => n, fun | n => n⟩
theorem Tryz.lays119 : Go.Proofs.Lays.n119 Tryz.prog Tryz.lays119_ren := {
  mixed := by kernel_rfl
  f119 := Tryz.func273.trans (congrArg some (by kernel_rfl))
  t4 := Tryz.underlying4
  a4 := Tryz.isAgg4
  z4 := Tryz.sizeOf4
  v4 := Tryz.zeroValue4
  t21 := Tryz.underlying21
  a21 := Tryz.isAgg21
  z21 := Tryz.sizeOf21
  v21 := Tryz.zeroValue21 }
theorem Tryz.utf8_ValidRune (r : Int) (w : World) :
    Calls Tryz.prog 273 #[.int .i32 r] w fun e w' => e = .returned (.bool (Lib.validRune r)) ∧ w' = w := Any.utf8_ValidRune Tryz.lays119 r w
def Tryz.lays219_ren : Go.Shelf.Ren := ⟨fun | 219 => 75 | 217 => 123 | 225 => 124 | 224 => 125 | 267 => 126 | 266 => 176 | 314 => 177 | n => n, fun | 9 => 9 | 3 => 3 | 4 => 4 | 5 => 5 | 46 => 180 | 146 => 236 | 51 => 235 | n => n, fun | 1 => 1 | n => n⟩
theorem Tryz.lays219 : Go.Proofs.Lays.n219 Tryz.prog Tryz.lays219_ren := {
  mixed := by kernel_rfl
  f217 := Tryz.func123.trans (congrArg some (by kernel_rfl))
  f219 := Tryz.func75.trans (congrArg some (by kernel_rfl))
  f224 := Tryz.func125.trans (congrArg some (by kernel_rfl))
  f225 := Tryz.func124.trans (congrArg some (by kernel_rfl))
  f266 := Tryz.func176.trans (congrArg some (by kernel_rfl))
  f267 := Tryz.func126.trans (congrArg some (by kernel_rfl))
  f314 := Tryz.func177.trans (congrArg some (by kernel_rfl))
  t3 := Tryz.underlying3
  a3 := Tryz.isAgg3
  z3 := Tryz.sizeOf3
  v3 := Tryz.zeroValue3
  t4 := Tryz.underlying4
  a4 := Tryz.isAgg4
  z4 := Tryz.sizeOf4
  v4 := Tryz.zeroValue4
  t5 := Tryz.underlying5
  a5 := Tryz.isAgg5
  z5 := Tryz.sizeOf5
  v5 := Tryz.zeroValue5
  t9 := Tryz.underlying9
  a9 := Tryz.isAgg9
  z9 := Tryz.sizeOf9
  v9 := Tryz.zeroValue9
  t46 := Tryz.underlying180
  a46 := Tryz.isAgg180
  z46 := Tryz.sizeOf180
  v46 := Tryz.zeroValue180
  t51 := Tryz.underlying235
  a51 := Tryz.isAgg235
  z51 := Tryz.sizeOf235
  v51 := Tryz.zeroValue235
  t146 := Tryz.underlying236
  a146 := Tryz.isAgg236
  z146 := Tryz.sizeOf236
  v146 := Tryz.zeroValue236
  g1 := by kernel_rfl }
open Go.RowKit Go.Lib in
theorem Tryz.stringslite_Index_one (s : ByteArray) (c : UInt8) (w : World) :
    Calls Tryz.prog 75 #[.string s, .string ⟨#[c]⟩] w fun e w' => e = .returned (.int .i64 (Lib.indexByte s.data.toList c)) ∧ w' = w := Any.stringslite_Index_one Tryz.lays219 s c w
def Tryz.lays152_ren : Go.Shelf.Ren := ⟨fun | 152 => 240 | 137 => 272 | 119 => 273 | 224 => 125 | 225 => 124 | 217 => 123 | 266 => 176 | n => n, fun | 9 => 9 | 21 => 21 | 3 => 3 | 4 => 4 | 5 => 5 | 0 => 0 | 46 => 180 | n => n, fun | n => n⟩
theorem Tryz.lays152 : Go.Proofs.Lays.n152 Tryz.prog Tryz.lays152_ren := {
  mixed := by kernel_rfl
  f119 := Tryz.func273.trans (congrArg some (by kernel_rfl))
  f137 := Tryz.func272.trans (congrArg some (by kernel_rfl))
  f152 := Tryz.func240.trans (congrArg some (by kernel_rfl))
  f217 := Tryz.func123.trans (congrArg some (by kernel_rfl))
  f224 := Tryz.func125.trans (congrArg some (by kernel_rfl))
  f225 := Tryz.func124.trans (congrArg some (by kernel_rfl))
  f266 := Tryz.func176.trans (congrArg some (by kernel_rfl))
  t0 := Tryz.underlying0
  a0 := Tryz.isAgg0
  z0 := Tryz.sizeOf0
  v0 := Tryz.zeroValue0
  t3 := Tryz.underlying3
  a3 := Tryz.isAgg3
  z3 := Tryz.sizeOf3
  v3 := Tryz.zeroValue3
  t4 := Tryz.underlying4
  a4 := Tryz.isAgg4
  z4 := Tryz.sizeOf4
  v4 := Tryz.zeroValue4
  t5 := Tryz.underlying5
  a5 := Tryz.isAgg5
  z5 := Tryz.sizeOf5
  v5 := Tryz.zeroValue5
  t9 := Tryz.underlying9
  a9 := Tryz.isAgg9
  z9 := Tryz.sizeOf9
  v9 := Tryz.zeroValue9
  t21 := Tryz.underlying21
  a21 := Tryz.isAgg21
  z21 := Tryz.sizeOf21
  v21 := Tryz.zeroValue21
  t46 := Tryz.underlying180
  a46 := Tryz.isAgg180
  z46 := Tryz.sizeOf180
  v46 := Tryz.zeroValue180 }
open Go.RowKit Go.Lib in
theorem Tryz.strings_IndexRune_ascii (s : ByteArray) (r : Int) (w : World) (h0 : 0 ≤ r) (h1 : r < 128) :
    Calls Tryz.prog 240 #[.string s, .int .i32 r] w fun e w' => e = .returned (.int .i64 (Lib.indexByte s.data.toList r.toNat.toUInt8)) ∧ w' = w := Any.strings_IndexRune_ascii Tryz.lays152 s r w h0 h1
def Tryz.lays153_ren : Go.Shelf.Ren := ⟨fun | 153 => 198 | 152 => 240 | 226 => 241 | 227 => 242 | 228 => 243 | 137 => 272 | 119 => 273 | 224 => 125 | 225 => 124 | 217 => 123 | 266 => 176 | n => n, fun | 9 => 9 | 3 => 3 | 4 => 4 | 5 => 5 | 21 => 21 | 117 => 298 | 116 => 297 | 0 => 0 | 46 => 180 | 124 => 327 | n => n, fun | n => n⟩
theorem Tryz.lays153 : Go.Proofs.Lays.n153 Tryz.prog Tryz.lays153_ren := {
  mixed := by kernel_rfl
  f119 := Tryz.func273.trans (congrArg some (by kernel_rfl))
  f137 := Tryz.func272.trans (congrArg some (by kernel_rfl))
  f152 := Tryz.func240.trans (congrArg some (by kernel_rfl))
  f153 := Tryz.func198.trans (congrArg some (by kernel_rfl))
  f217 := Tryz.func123.trans (congrArg some (by kernel_rfl))
  f224 := Tryz.func125.trans (congrArg some (by kernel_rfl))
  f225 := Tryz.func124.trans (congrArg some (by kernel_rfl))
  f226 := Tryz.func241.trans (congrArg some (by kernel_rfl))
  f227 := Tryz.func242.trans (congrArg some (by kernel_rfl))
  f228 := Tryz.func243.trans (congrArg some (by kernel_rfl))
  f266 := Tryz.func176.trans (congrArg some (by kernel_rfl))
  t0 := Tryz.underlying0
  a0 := Tryz.isAgg0
  z0 := Tryz.sizeOf0
  v0 := Tryz.zeroValue0
  t3 := Tryz.underlying3
  a3 := Tryz.isAgg3
  z3 := Tryz.sizeOf3
  v3 := Tryz.zeroValue3
  t4 := Tryz.underlying4
  a4 := Tryz.isAgg4
  z4 := Tryz.sizeOf4
  v4 := Tryz.zeroValue4
  t5 := Tryz.underlying5
  a5 := Tryz.isAgg5
  z5 := Tryz.sizeOf5
  v5 := Tryz.zeroValue5
  t9 := Tryz.underlying9
  a9 := Tryz.isAgg9
  z9 := Tryz.sizeOf9
  v9 := Tryz.zeroValue9
  t21 := Tryz.underlying21
  a21 := Tryz.isAgg21
  z21 := Tryz.sizeOf21
  v21 := Tryz.zeroValue21
  t46 := Tryz.underlying180
  a46 := Tryz.isAgg180
  z46 := Tryz.sizeOf180
  v46 := Tryz.zeroValue180
  t116 := Tryz.underlying297
  a116 := Tryz.isAgg297
  z116 := Tryz.sizeOf297
  t117 := Tryz.underlying298
  a117 := Tryz.isAgg298
  z117 := Tryz.sizeOf298
  v117 := Tryz.zeroValue298
  t124 := Tryz.underlying327
  a124 := Tryz.isAgg327
  z124 := Tryz.sizeOf327
  v124 := Tryz.zeroValue327 }
open Go.RowKit Go.Lib in
theorem Tryz.strings_IndexAny_long (hv116 : ∀ w, (zeroValue 297).run Tryz.prog w = .ok (.agg (Array.replicate 256 (.bool false))) w) (s chars : ByteArray) (w : World) (h2 : 2 ≤ chars.size) (h8 : 8 < s.size) (hs : s.size < 4294967281) (hcs : chars.size < 4294967281) (hascii : ∀ (j : Nat) b, chars.data.toList[j]? = some b → b.toNat < 128) :
    Calls Tryz.prog 198 #[.string s, .string chars] w fun e w' => e = .returned (.int .i64 (Lib.indexAny s.data.toList chars.data.toList)) ∧ w' = ((w.alloc (.cells (Lib.setCells chars.data.toList) 297)).alloc (.cells (Lib.setCells chars.data.toList) 297)) := Any.strings_IndexAny_long Tryz.lays153 hv116 (by kernel_rfl) s chars w h2 h8 hs hcs hascii
end Go.Proofs

/- Contracts of the library at this program: the program bears the bodies that they speak of. Taken: strings_Cut. -/
namespace Go.Proofs
open Go.Shelf
def Tryz.lays145_ren : Go.Shelf.Ren := ⟨fun | 145 => 244 | 220 => 274 | 219 => 75 | 217 => 123 | 225 => 124 | 224 => 125 | 267 => 126 | 266 => 176 | 314 => 177 | n => n, fun | 9 => 9 | 4 => 4 | 59 => 233 | 3 => 3 | 5 => 5 | 46 => 180 | 146 => 236 | 51 => 235 | n => n, fun | 1 => 1 | n => n⟩
theorem Tryz.lays145 : Go.Proofs.Lays.n145 Tryz.prog Tryz.lays145_ren := {
  mixed := by kernel_rfl
  f145 := Tryz.func244.trans (congrArg some (by kernel_rfl))
  f217 := Tryz.func123.trans (congrArg some (by kernel_rfl))
  f219 := Tryz.func75.trans (congrArg some (by kernel_rfl))
  f220 := Tryz.func274.trans (congrArg some (by kernel_rfl))
  f224 := Tryz.func125.trans (congrArg some (by kernel_rfl))
  f225 := Tryz.func124.trans (congrArg some (by kernel_rfl))
  f266 := Tryz.func176.trans (congrArg some (by kernel_rfl))
  f267 := Tryz.func126.trans (congrArg some (by kernel_rfl))
  f314 := Tryz.func177.trans (congrArg some (by kernel_rfl))
  t3 := Tryz.underlying3
  a3 := Tryz.isAgg3
  z3 := Tryz.sizeOf3
  v3 := Tryz.zeroValue3
  t4 := Tryz.underlying4
  a4 := Tryz.isAgg4
  z4 := Tryz.sizeOf4
  v4 := Tryz.zeroValue4
  t5 := Tryz.underlying5
  a5 := Tryz.isAgg5
  z5 := Tryz.sizeOf5
  v5 := Tryz.zeroValue5
  t9 := Tryz.underlying9
  a9 := Tryz.isAgg9
  z9 := Tryz.sizeOf9
  v9 := Tryz.zeroValue9
  t46 := Tryz.underlying180
  a46 := Tryz.isAgg180
  z46 := Tryz.sizeOf180
  v46 := Tryz.zeroValue180
  t51 := Tryz.underlying235
  a51 := Tryz.isAgg235
  z51 := Tryz.sizeOf235
  v51 := Tryz.zeroValue235
  t59 := Tryz.underlying233
  a59 := Tryz.isAgg233
  z59 := Tryz.sizeOf233
  v59 := Tryz.zeroValue233
  t146 := Tryz.underlying236
  a146 := Tryz.isAgg236
  z146 := Tryz.sizeOf236
  v146 := Tryz.zeroValue236
  g1 := by kernel_rfl }
open Go.RowKit Go.Lib in
theorem Tryz.strings_Cut (s sep : ByteArray) (m : Int) (w : World) (hs : s.size < 4294967281) (hm : w.cell? ⟨1, 0, none⟩ = some (.int .i64 m)) :
    Calls Tryz.prog 244 #[.string s, .string sep] w fun e w' => e = .returned (.tuple #[.string ⟨(Lib.cut s.data.toList sep.data.toList).1.toArray⟩, .string ⟨(Lib.cut s.data.toList sep.data.toList).2.1.toArray⟩, .bool (Lib.cut s.data.toList sep.data.toList).2.2]) ∧ ∃ n, w' = w.drewN n := Any.strings_Cut Tryz.lays145 s sep m w hs hm
end Go.Proofs

/- Plain facts on texts as lists of bytes: their lines, whether lines are right, the first byte in which two texts differ, a line without its line feed. -/
set_option maxRecDepth 20000
namespace Go.Proofs.YtgiojkhmkeocfaaGreatDoor.Ln
open Go

/-- the lines of a text -/
def splitL : List UInt8 → List (List UInt8)
  | [] => []
  | c :: t => if c = 10 then [c] :: splitL t else match splitL t with
    | [] => [[c]]
    | x :: r => (c :: x) :: r

theorem split_cut (a b : List UInt8) (h : ∀ c ∈ a, c ≠ 10) : splitL (a ++ 10 :: b) = (a ++ [10]) :: splitL b := by
  induction a with
  | nil => simp [splitL]
  | cons c a ih =>
    have hc : c ≠ 10 := h c (by simp)
    have := ih fun x hx => h x (by simp [hx])
    simp only [List.cons_append, splitL, hc, if_false, this]

theorem split_one (a : List UInt8) (h : ∀ c ∈ a, c ≠ 10) (h0 : a ≠ []) : splitL a = [a] := by
  induction a with
  | nil => exact absurd rfl h0
  | cons c a ih =>
    have hc : c ≠ 10 := h c (by simp)
    cases a with
    | nil => simp [splitL, hc]
    | cons d a =>
      have := ih (fun x hx => h x (by simp [hx])) (by simp)
      simp only [splitL, hc, if_false] at this ⊢
      rw [this]

theorem split_join (l : List UInt8) : (splitL l).flatten = l := by
  induction l with
  | nil => rfl
  | cons c t ih =>
    unfold splitL
    by_cases hc : c = 10
    · simp [hc, ih]
    · simp only [hc, if_false]
      cases hs : splitL t with
      | nil => rw [hs] at ih; simp at ih; simp [← ih]
      | cons x r => rw [hs] at ih; simp at ih; simp [ih]

theorem split_len (l : List UInt8) : (splitL l).length ≤ l.length := by
  induction l with
  | nil => simp [splitL]
  | cons c t ih =>
    unfold splitL
    by_cases hc : c = 10
    · simp [hc]; omega
    · simp only [hc, if_false]
      cases hs : splitL t with
      | nil => simp
      | cons x r => rw [hs] at ih; simp at ih ⊢; omega

/-- whether a text is a line; the last one may lack its line feed -/
def lineB : List UInt8 → Bool → Bool
  | [], _ => false
  | [c], last => last || c == 10
  | c :: d :: t, last => c != 10 && lineB (d :: t) last

def checkB : List (List UInt8) → Bool
  | [] => true
  | s :: t => lineB s t.isEmpty && checkB t

theorem lineB_cons (c : UInt8) (x : List UInt8) (last : Bool) (hx : x ≠ []) : lineB (c :: x) last = (c != 10 && lineB x last) := by
  cases x with
  | nil => exact absurd rfl hx
  | cons d t => rfl

theorem lineB_ne {x : List UInt8} {last : Bool} (h : lineB x last = true) : x ≠ [] := by rintro rfl; cases h

theorem lineB_false {x : List UInt8} (h : lineB x false = true) : ∃ a, x = a ++ [10] ∧ ∀ c ∈ a, c ≠ 10 := by
  induction x with
  | nil => cases h
  | cons c t ih =>
    cases t with
    | nil => exact ⟨[], by simpa [lineB] using h, by simp⟩
    | cons d t =>
      simp only [lineB, Bool.and_eq_true, bne_iff_ne] at h
      obtain ⟨a, ha, hn⟩ := ih h.2
      refine ⟨c :: a, by rw [ha]; rfl, ?_⟩
      intro x hx
      simp only [List.mem_cons] at hx
      rcases hx with rfl | hx
      · exact h.1
      · exact hn x hx

theorem split_right (l : List UInt8) : checkB (splitL l) = true := by
  induction l with
  | nil => rfl
  | cons c t ih =>
    unfold splitL
    by_cases hc : c = 10
    · simp [hc, checkB, lineB, ih]
    · simp only [hc, if_false]
      cases hs : splitL t with
      | nil => simp [checkB, lineB]
      | cons x r =>
        rw [hs] at ih
        simp only [checkB, Bool.and_eq_true] at ih ⊢
        rw [lineB_cons c x _ (lineB_ne ih.1)]
        simp [hc, ih.1, ih.2]

theorem index_none {l : List UInt8} {c : UInt8} (h : Lib.indexByte l c < 0) : Lib.indexByte l c = -1 ∧ ∀ x ∈ l, x ≠ c := by
  induction l with
  | nil => exact ⟨rfl, by simp⟩
  | cons b l ih =>
    unfold Lib.indexByte at h ⊢
    by_cases hb : (b == c) = true
    · rw [if_pos hb] at h; simp at h
    · rw [if_neg hb] at h ⊢
      by_cases h1 : (Lib.indexByte l c == -1) = true
      · rw [if_pos h1]
        have h2 := ih (by simp at h1; omega)
        refine ⟨rfl, ?_⟩
        intro x hx
        simp only [List.mem_cons] at hx
        rcases hx with rfl | hx
        · simpa using hb
        · exact h2.2 x hx
      · rw [if_neg h1] at h
        have := Lib.indexByte_ge l c
        simp at h1
        omega

theorem index_some {l : List UInt8} {c : UInt8} (h : 0 ≤ Lib.indexByte l c) : ∃ a b, l = a ++ c :: b ∧ (∀ x ∈ a, x ≠ c) ∧ Lib.indexByte l c = a.length := by
  induction l with
  | nil => simp [Lib.indexByte] at h
  | cons d l ih =>
    unfold Lib.indexByte at h ⊢
    by_cases hb : (d == c) = true
    · have : d = c := by simpa using hb
      subst this
      rw [if_pos hb]
      exact ⟨[], l, rfl, by simp, rfl⟩
    · rw [if_neg hb] at h ⊢
      by_cases h1 : (Lib.indexByte l c == -1) = true
      · rw [if_pos h1] at h; simp at h
      · rw [if_neg h1] at h ⊢
        have := Lib.indexByte_ge l c
        obtain ⟨a, b, e1, e2, e3⟩ := ih (by simp at h1; omega)
        refine ⟨d :: a, b, by rw [e1]; rfl, ?_, by rw [e3]; simp⟩
        intro x hx
        simp only [List.mem_cons] at hx
        rcases hx with rfl | hx
        · simpa using hb
        · exact e2 x hx

theorem lineB_all {x : List UInt8} (h : ∀ c ∈ x, c ≠ 10) (last : Bool) : lineB x last = (last && !x.isEmpty) := by
  induction x with
  | nil => simp [lineB]
  | cons c t ih =>
    cases t with
    | nil =>
      have : c ≠ 10 := h c (by simp)
      simp [lineB, this]
    | cons d t =>
      rw [lineB, ih fun x hx => h x (by simp [hx])]
      have : c ≠ 10 := h c (by simp)
      simp [this]

theorem lineB_cut {a b : List UInt8} (h : ∀ c ∈ a, c ≠ 10) (last : Bool) : lineB (a ++ 10 :: b) last = b.isEmpty := by
  induction a with
  | nil =>
    cases b with
    | nil => simp [lineB]
    | cons d b => simp [lineB]
  | cons c a ih =>
    have hc : c ≠ 10 := h c (by simp)
    rw [List.cons_append, lineB_cons _ _ _ (by simp), ih fun x hx => h x (by simp [hx])]
    simp [hc]

end Go.Proofs.YtgiojkhmkeocfaaGreatDoor.Ln

/- What the code's Check of layer 11 asks of a hunk's lines is what the chapter asks; plain mathematics. -/
set_option maxRecDepth 20000
namespace Go.Proofs.YtgiojkhmkeocfaaGreatDoor
open Ln

theorem lineB_eq (s : List UInt8) (last : Bool) : lineB s last = (linB s && (last || fdB s)) := by
  induction s with
  | nil => rfl
  | cons c t ih =>
    cases t with
    | nil =>
      simp [lineB, linB, fdB]
    | cons d t =>
      have e1 : linB (c :: d :: t) = (c != 10 && linB (d :: t)) := by
        simp [linB, List.dropLast]
      have e2 : fdB (c :: d :: t) = fdB (d :: t) := by simp [fdB]
      rw [e1, e2, Bool.and_assoc, ← ih]
      rfl
/-- all signs are known -/
def allB (l : List Mk) : Bool := l.all fun m => okS m.sg
theorem pk_none {sg no : Int} (h : sg = 45 ∧ no = 43 ∨ sg = 43 ∧ no = 45) {l : List Mk} (hl : allB l = true) : (pkL no l).isEmpty = lstB sg l := by
  induction l with
  | nil => rfl
  | cons m l ih =>
    simp only [allB, List.all_cons, Bool.and_eq_true] at hl
    have ih := ih hl.2
    have hm := hl.1
    simp only [okS, Bool.or_eq_true, decide_eq_true_eq] at hm
    simp only [pkL, lstB, List.all_cons]
    have key : (m.sg ≠ no ∧ okS m.sg = true) ↔ ¬ (m.sg ≠ sg ∧ m.sg ≠ 32) := by
      constructor
      · rintro ⟨k1, _⟩ k2
        rcases h with ⟨rfl, rfl⟩ | ⟨rfl, rfl⟩ <;> omega
      · intro k
        refine ⟨fun k1 => ?_, hl.1⟩
        rcases h with ⟨rfl, rfl⟩ | ⟨rfl, rfl⟩ <;> omega
    by_cases q : m.sg ≠ sg ∧ m.sg ≠ 32
    · rw [if_neg (fun k => key.1 k q), ih, decide_eq_true q.1, decide_eq_true q.2]
      rfl
    · rw [if_pos (key.2 q)]
      have : (decide (m.sg ≠ sg) && decide (m.sg ≠ 32)) = false := by
        rw [← Bool.not_eq_true, Bool.and_eq_true, decide_eq_true_eq, decide_eq_true_eq]
        exact q
      rw [this]
      rfl
/-- the chapter's rule on lines, as the code says it -/
theorem fld_code (l : List Mk) : fldB l = (allB l && checkB (pkL 43 l) && checkB (pkL 45 l)) := by
  induction l with
  | nil => rfl
  | cons m l ih =>
    have e0 : allB (m :: l) = (okS m.sg && allB l) := rfl
    rw [e0]
    cases ha : allB l with
    | false =>
      rw [ha] at ih
      have ih : fldB l = false := by rw [ih]; rfl
      simp [fldB, ih]
    | true =>
      rw [ha] at ih
      have p1 := pk_none (.inl ⟨rfl, rfl⟩) ha
      have p2 := pk_none (.inr ⟨rfl, rfl⟩) ha
      obtain ⟨sg, tx⟩ := m
      simp only [fldB]
      rw [ih]
      by_cases h1 : sg = 32
      · subst h1
        have q1 : pkL 43 (⟨32, tx⟩ :: l) = tx :: pkL 43 l := by rw [pkL, if_pos (by dsimp only; decide)]
        have q2 : pkL 45 (⟨32, tx⟩ :: l) = tx :: pkL 45 l := by rw [pkL, if_pos (by dsimp only; decide)]
        rw [q1, q2]
        simp only [checkB, lineB_eq, p1, p2, okS]
        cases linB tx <;> cases fdB tx <;> cases lstB 45 l <;> cases lstB 43 l <;> cases checkB (pkL 43 l) <;> cases checkB (pkL 45 l) <;> rfl
      · by_cases h2 : sg = 45
        · subst h2
          have q1 : pkL 43 (⟨45, tx⟩ :: l) = tx :: pkL 43 l := by rw [pkL, if_pos (by dsimp only; decide)]
          have q2 : pkL 45 (⟨45, tx⟩ :: l) = pkL 45 l := by rw [pkL, if_neg (by dsimp only; decide)]
          rw [q1, q2]
          simp only [checkB, lineB_eq, p1, okS]
          cases linB tx <;> cases fdB tx <;> cases lstB 45 l <;> cases lstB 43 l <;> cases checkB (pkL 43 l) <;> cases checkB (pkL 45 l) <;> rfl
        · by_cases h3 : sg = 43
          · subst h3
            have q1 : pkL 43 (⟨43, tx⟩ :: l) = pkL 43 l := by rw [pkL, if_neg (by dsimp only; decide)]
            have q2 : pkL 45 (⟨43, tx⟩ :: l) = tx :: pkL 45 l := by rw [pkL, if_pos (by dsimp only; decide)]
            rw [q1, q2]
            simp only [checkB, lineB_eq, p2, okS]
            cases linB tx <;> cases fdB tx <;> cases lstB 45 l <;> cases lstB 43 l <;> cases checkB (pkL 43 l) <;> cases checkB (pkL 45 l) <;> rfl
          · have q : okS sg = false := by simp [okS, h1, h2, h3]
            simp [q]
end Go.Proofs.YtgiojkhmkeocfaaGreatDoor

/- Plain facts on bytes, quoted texts and how they are read: nothing of a program. -/
set_option maxRecDepth 20000
namespace Go.Proofs.YtgiojkhmkeocfaaGreatDoor.Q

/-- does a byte stand for itself? -/
def plainI (n : Int) : Bool := decide (32 ≤ n ∧ n ≤ 126 ∧ n ≠ 34 ∧ n ≠ 92)

theorem plainI_not {n : Int} (h : ¬ (32 ≤ n ∧ n ≤ 126 ∧ n ≠ 34 ∧ n ≠ 92)) : plainI n = false := decide_eq_false h
theorem plainI_out {n : Int} (h : plainI n = true) : 32 ≤ n ∧ n ≤ 126 ∧ n ≠ 34 ∧ n ≠ 92 := of_decide_eq_true h
/-- the hexadecimal digits -/
def hexl : List UInt8 := [48, 49, 50, 51, 52, 53, 54, 55, 56, 57, 97, 98, 99, 100, 101, 102]

def hexc (n : Nat) : UInt8 := hexl.getD n 0

theorem hex_at (n : Nat) (h : n < (⟨#[48, 49, 50, 51, 52, 53, 54, 55, 56, 57, 97, 98, 99, 100, 101, 102]⟩ : ByteArray).size) :
    (⟨#[48, 49, 50, 51, 52, 53, 54, 55, 56, 57, 97, 98, 99, 100, 101, 102]⟩ : ByteArray)[n] = hexc n := by
  have h' : n < 16 := h
  have key : ∀ i : Fin 16, (#[48, 49, 50, 51, 52, 53, 54, 55, 56, 57, 97, 98, 99, 100, 101, 102] : Array UInt8)[i.val]'(i.isLt) = hexc i.val := by decide
  exact key ⟨n, h'⟩

theorem hexl_at (n : Nat) (h : n < ([48, 49, 50, 51, 52, 53, 54, 55, 56, 57, 97, 98, 99, 100, 101, 102] : List UInt8).length) :
    ([48, 49, 50, 51, 52, 53, 54, 55, 56, 57, 97, 98, 99, 100, 101, 102] : List UInt8)[n] = hexc n := by
  have h' : n < 16 := h
  have key : ∀ i : Fin 16, ([48, 49, 50, 51, 52, 53, 54, 55, 56, 57, 97, 98, 99, 100, 101, 102] : List UInt8)[i.val]'(i.isLt) = hexc i.val := by decide
  exact key ⟨n, h'⟩

def q1 (c : UInt8) : List UInt8 := if plainI c.toNat then [c] else [92, hexc (c.toNat / 16), hexc (c.toNat % 16)]

def qbody (l : List UInt8) : List UInt8 := l.flatMap q1

def quote (l : List UInt8) : List UInt8 := [34] ++ qbody l ++ [34]

/-- the value of a hexadecimal digit, or -1 -/
def digitI (n : Int) : Int := if 48 ≤ n ∧ n ≤ 57 then n - 48 else if 97 ≤ n ∧ n ≤ 102 then n - 87 else -1

theorem digitI_ge (n : Int) : -1 ≤ digitI n ∧ digitI n ≤ 15 := by unfold digitI; split <;> (try split) <;> omega

theorem hexc_val (k : Nat) (h : k < 16) : (hexc k).toNat = if k < 10 then 48 + k else 87 + k := by
  have key : ∀ i : Fin 16, (hexc i.val).toNat = if i.val < 10 then 48 + i.val else 87 + i.val := by decide
  exact key ⟨k, h⟩

theorem digit_hexc (k : Nat) (h : k < 16) : digitI (hexc k).toNat = k := by
  rw [hexc_val k h]; unfold digitI; split <;> split <;> omega

theorem digit_none (n : Int) (h : ∀ j, j < 16 → ((hexc j).toNat : Int) ≠ n) : digitI n = -1 := by
  unfold digitI
  split
  · have h1 := h (n - 48).toNat (by omega)
    rw [hexc_val _ (by omega), if_pos (by omega)] at h1
    omega
  · split
    · have h1 := h (n - 87).toNat (by omega)
      rw [hexc_val _ (by omega), if_neg (by omega)] at h1
      omega
    · rfl

/-- the byte that two digits are -/
def pairI (a b : UInt8) : Int := 16 * digitI a.toNat + digitI b.toNat

/-- are there two digits of a byte that does not stand for itself? -/
def pairOk (a b : UInt8) : Bool := decide (0 ≤ digitI a.toNat) && decide (0 ≤ digitI b.toNat) && !(plainI (pairI a b))

/-- the quoted byte at the front (0 if there is none), and how long it is (0 if there is none) -/
def pv (a b : UInt8) : Int := if pairOk a b then pairI a b else 0
def pn (a b : UInt8) : Int := if pairOk a b then 3 else 0

theorem pairOk_lo {a b : UInt8} (h : digitI a.toNat < 0) : pairOk a b = false := by simp [pairOk]; omega
theorem pairOk_hi {a b : UInt8} (h : digitI b.toNat < 0) : pairOk a b = false := by simp [pairOk]; omega
theorem pairOk_mid {a b : UInt8} (h : ¬ digitI a.toNat < 0) (h' : ¬ digitI b.toNat < 0) : pairOk a b = !plainI (pairI a b) := by simp [pairOk]; omega
theorem pv_no {a b : UInt8} (h : pairOk a b = false) : 0 = pv a b := by simp [pv, h]
theorem pn_no {a b : UInt8} (h : pairOk a b = false) : 0 = pn a b := by simp [pn, h]
theorem pv_yes {a b : UInt8} (h : pairOk a b = true) : pairI a b = pv a b := by simp [pv, h]
theorem pn_yes {a b : UInt8} (h : pairOk a b = true) : 3 = pn a b := by simp [pn, h]

/-- what stands behind the opening mark: the text, and what is behind the closing mark -/
def body : List UInt8 → Option (List UInt8 × List UInt8)
  | [] => none
  | c :: t =>
    if c.toNat = 34 then some ([], t)
    else if plainI c.toNat then (body t).map fun p => (c :: p.1, p.2)
    else if c.toNat = 92 then
      match t with
      | a :: b :: t' => if pairOk a b then (body t').map fun p => (UInt8.ofNat (pairI a b).toNat :: p.1, p.2) else none
      | _ => none
    else none

/-- what a text that begins with a quoted text reads as -/
def unquote : List UInt8 → Option (List UInt8 × List UInt8)
  | [] => none
  | c :: t => if c.toNat = 34 then body t else none

theorem body_end {c : UInt8} (t : List UInt8) (h : c.toNat = 34) : body (c :: t) = some ([], t) := by
  rw [body.eq_def]; simp only [h, if_true]
theorem body_plain {c : UInt8} (t : List UInt8) (h : plainI c.toNat = true) : body (c :: t) = (body t).map fun p => (c :: p.1, p.2) := by
  have h4 := plainI_out h
  have h5 : ¬ c.toNat = 34 := by omega
  rw [body.eq_def]; simp only [h, h5, if_false, if_true]
theorem body_pair {c a b : UInt8} (t : List UInt8) (h : c.toNat = 92) (hk : pairOk a b = true) : body (c :: a :: b :: t) = (body t).map fun p => (UInt8.ofNat (pairI a b).toNat :: p.1, p.2) := by
  have h4 : plainI c.toNat = false := plainI_not (by omega)
  have h5 : ¬ c.toNat = 34 := by omega
  rw [body.eq_def]; simp only [h4, h5, if_false, Bool.false_eq_true, hk, if_true]
  rw [if_pos h]
theorem body_pair_no {c a b : UInt8} (t : List UInt8) (h : c.toNat = 92) (hk : pairOk a b = false) : body (c :: a :: b :: t) = none := by
  have h4 : plainI c.toNat = false := plainI_not (by omega)
  have h5 : ¬ c.toNat = 34 := by omega
  rw [body.eq_def]; simp only [h4, h5, if_false, Bool.false_eq_true, hk]
  rw [if_pos h]
theorem body_none {c : UInt8} (t : List UInt8) (h0 : c.toNat ≠ 34) (h : plainI c.toNat = false) (h2 : ¬ (c.toNat = 92 ∧ 2 ≤ t.length)) : body (c :: t) = none := by
  rw [body.eq_def]
  simp only [h0, h, if_false, Bool.false_eq_true]
  by_cases h3 : c.toNat = 92
  · rw [if_pos h3]
    match t with
    | [] => rfl
    | [_] => rfl
    | a :: b :: t' => exact absurd ⟨h3, by simp⟩ h2
  · rw [if_neg h3]

def uqa (l : List UInt8) : List UInt8 := ((unquote l).map (·.1)).getD []
def uqb (l : List UInt8) : List UInt8 := ((unquote l).map (·.2)).getD []
def uqe (l : List UInt8) : Int := if (unquote l).isSome then 0 else 3

theorem uq_none {l : List UInt8} (h : unquote l = none) : uqa l = [] ∧ uqb l = [] ∧ uqe l = 3 := by simp [uqa, uqb, uqe, h]
theorem uq_some {l a b : List UInt8} (h : unquote l = some (a, b)) : uqa l = a ∧ uqb l = b ∧ uqe l = 0 := by simp [uqa, uqb, uqe, h]

theorem pairI_byte {a b : UInt8} (hk : pairOk a b = true) : 0 ≤ pairI a b ∧ pairI a b ≤ 255 := by
  have h1 := digitI_ge a.toNat
  have h2 := digitI_ge b.toNat
  simp [pairOk] at hk
  unfold pairI; omega

end Go.Proofs.YtgiojkhmkeocfaaGreatDoor.Q

/- Plain facts on the texts of numbers: nothing of a program. -/
set_option maxRecDepth 20000
namespace Go.Proofs.YtgiojkhmkeocfaaGreatDoor.Pn

/-- is a byte a decimal digit? -/
def digB (c : UInt8) : Bool := decide (48 ≤ c.toNat ∧ c.toNat ≤ 57)
theorem digB_mk {c : UInt8} (h : 48 ≤ c.toNat ∧ c.toNat ≤ 57) : digB c = true := decide_eq_true h
theorem digB_out {c : UInt8} (h : digB c = true) : 48 ≤ c.toNat ∧ c.toNat ≤ 57 := of_decide_eq_true h
/-- is a text the text of a number from 0 on? -/
def isNum : List UInt8 → Bool
  | [] => false
  | c :: t => !(decide (c.toNat = 48) && !t.isEmpty) && (c :: t).all digB

/-- the number, but one above the limit if it is greater -/
def sat : Int → List UInt8 → Int
  | n, [] => n
  | n, c :: t => sat (min (n * 10 + ((c.toNat : Int) - 48)) 2147483648) t

def parseV (l : List UInt8) : Int := if isNum l = true ∧ sat 0 l ≤ 2147483647 then sat 0 l else 0
def parseE (l : List UInt8) : Int := if isNum l = true then if sat 0 l ≤ 2147483647 then 0 else 2 else 3

theorem sat_top : ∀ (l : List UInt8), l.all digB = true → sat 2147483648 l = 2147483648
  | [], _ => rfl
  | c :: t, h => by
    simp only [List.all_cons, Bool.and_eq_true] at h
    have h1 := digB_out h.1
    rw [sat]
    have e : min ((2147483648 : Int) * 10 + ((c.toNat : Int) - 48)) 2147483648 = 2147483648 := by omega
    rw [e]
    exact sat_top t h.2

theorem parse_no {l : List UInt8} (h : isNum l = false) : 0 = parseV l ∧ 3 = parseE l := by simp [parseV, parseE, h]
theorem parse_far {l : List UInt8} (h : isNum l = true) (h2 : sat 0 l = 2147483648) : 0 = parseV l ∧ 2 = parseE l := by simp [parseV, parseE, h, h2]
theorem parse_ok {l : List UInt8} (h : isNum l = true) {n : Int} (h2 : sat 0 l = n) (h3 : n ≤ 2147483647) : n = parseV l ∧ 0 = parseE l := by simp [parseV, parseE, h, h2, h3]

theorem isNum_all {l : List UInt8} (h : isNum l = true) : l.all digB = true := by
  cases l with
  | nil => simp [isNum] at h
  | cons c t => rw [isNum, Bool.and_eq_true] at h; exact h.2

theorem all_at {l : List UInt8} (h : l.all digB = true) (k : Nat) (hk : k < l.length) : 48 ≤ l[k].toNat ∧ l[k].toNat ≤ 57 :=
  digB_out (List.all_eq_true.1 h _ (List.getElem_mem hk))

theorem all_drop {l : List UInt8} (h : l.all digB = true) (k : Nat) : (l.drop k).all digB = true :=
  List.all_eq_true.2 fun x hx => List.all_eq_true.1 h x (List.mem_of_mem_drop hx)

theorem isNum_bad {l : List UInt8} (k : Nat) (hk : k < l.length) (h : ¬ (48 ≤ l[k].toNat ∧ l[k].toNat ≤ 57)) : isNum l = false := by
  cases hn : isNum l
  · rfl
  · exact absurd (all_at (isNum_all hn) k hk) h

theorem isNum_zero {c d : UInt8} {t : List UInt8} (h : c.toNat = 48) : isNum (c :: d :: t) = false := by simp [isNum, h]

theorem isNum_yes {c : UInt8} {t : List UInt8} (h : ¬ (c.toNat = 48 ∧ t ≠ [])) (ha : ∀ k (hk : k < (c :: t).length), 48 ≤ (c :: t)[k].toNat ∧ (c :: t)[k].toNat ≤ 57) : isNum (c :: t) = true := by
  rw [isNum, Bool.and_eq_true]
  refine ⟨?_, ?_⟩
  · cases t with
    | nil => simp
    | cons d t => simp at h ⊢; exact h
  · refine List.all_eq_true.2 fun x hx => ?_
    obtain ⟨k, hk, rfl⟩ := List.mem_iff_getElem.1 hx
    exact digB_mk (ha k hk)

theorem sat_step {l : List UInt8} {k : Nat} (hk : k < l.length) (n : Int) : sat n (l.drop k) = sat (min (n * 10 + ((l[k].toNat : Int) - 48)) 2147483648) (l.drop (k + 1)) := by
  rw [List.drop_eq_getElem_cons hk, sat]

end Go.Proofs.YtgiojkhmkeocfaaGreatDoor.Pn

/- Plain facts: what was quoted is read again; what was written as a number is read again. -/
set_option maxRecDepth 20000
namespace Go.Proofs.YtgiojkhmkeocfaaGreatDoor
open Q Pn

theorem ofNat_pair (c : UInt8) : UInt8.ofNat (pairI (hexc (c.toNat / 16)) (hexc (c.toNat % 16))).toNat = c := by
  have hc := c.toNat_lt
  have e : pairI (hexc (c.toNat / 16)) (hexc (c.toNat % 16)) = (c.toNat : Int) := by
    unfold pairI
    rw [digit_hexc _ (by omega), digit_hexc _ (by omega)]
    omega
  rw [e]
  simp

theorem pair_hexc {c : UInt8} (h : plainI c.toNat = false) : pairOk (hexc (c.toNat / 16)) (hexc (c.toNat % 16)) = true := by
  have hc := c.toNat_lt
  have e : pairI (hexc (c.toNat / 16)) (hexc (c.toNat % 16)) = (c.toNat : Int) := by
    unfold pairI
    rw [digit_hexc _ (by omega), digit_hexc _ (by omega)]
    omega
  unfold pairOk
  rw [e, h, digit_hexc _ (by omega), digit_hexc _ (by omega)]
  simp
  omega

/-- what was quoted is read again, whatever is behind it -/
theorem body_back (r : List UInt8) : ∀ l : List UInt8, body (qbody l ++ 34 :: r) = some (l, r)
  | [] => by simp only [qbody, List.flatMap_nil, List.nil_append]; exact body_end r rfl
  | c :: t => by
    have ih := body_back r t
    have e : qbody (c :: t) = q1 c ++ qbody t := by simp [qbody]
    rw [e]
    cases h : plainI c.toNat
    · have e2 : q1 c = [92, hexc (c.toNat / 16), hexc (c.toNat % 16)] := by simp [q1, h]
      rw [e2]
      show body (92 :: hexc (c.toNat / 16) :: hexc (c.toNat % 16) :: (qbody t ++ 34 :: r)) = _
      rw [body_pair _ rfl (pair_hexc h), ih, ofNat_pair]
      rfl
    · have e2 : q1 c = [c] := by simp [q1, h]
      rw [e2]
      show body (c :: (qbody t ++ 34 :: r)) = _
      rw [body_plain _ h, ih]
      rfl

theorem unquote_back (l r : List UInt8) : unquote (quote l ++ r) = some (l, r) := by
  have e : quote l ++ r = 34 :: (qbody l ++ 34 :: r) := by simp [quote]
  rw [e, unquote, if_pos (by decide)]
  exact body_back r l

end Go.Proofs.YtgiojkhmkeocfaaGreatDoor

/- The normal form as texts and as lines: how it is written, how it is read; plain mathematics. -/
set_option maxRecDepth 20000
namespace Go.Proofs.YtgiojkhmkeocfaaGreatDoor
open Ln

/-- the mark: '\ No newline at end of file' with its line feed -/
def markT : List UInt8 := [92, 32, 78, 111, 32, 110, 101, 119, 108, 105, 110, 101, 32, 97, 116, 32, 101, 110, 100, 32, 111, 102, 32, 102, 105, 108, 101, 10]
/-- the next line without its line feed, and what is behind it -/
def nxt (p : Nat) : List (List UInt8) → Except (Nat × Int) (List UInt8 × List (List UInt8))
  | [] => .error (p + 1, 1)
  | s :: r => if fdB s = true then .ok (s.dropLast, r) else .error (p + 1, 3)
/-- is the next line the mark? -/
def pkM : List (List UInt8) → Bool
  | [] => false
  | s :: _ => markT.isPrefixOf s
/-- a text up to a byte, and what is behind it -/
def spB (q : UInt8 → Bool) : List UInt8 → Option (List UInt8 × UInt8 × List UInt8)
  | [] => none
  | c :: t => if q c = true then some ([], c, t) else match spB q t with
    | none => none
    | some (a, d, b) => some (c :: a, d, b)
def isC (c : UInt8) : Bool := c == 97 || c == 99 || c == 100
def isK (c : UInt8) : Bool := c == 44
/-- a range of lines: the first one, how many -/
def lnsP (s : List UInt8) : Option (Int × Int) := match spB isK s with
  | some (x, _, y) => if Pn.parseE x = 0 ∧ Pn.parseE y = 0 ∧ 1 ≤ Pn.parseV x ∧ Pn.parseV x < Pn.parseV y then some (Pn.parseV x, Pn.parseV y - Pn.parseV x + 1) else none
  | none => if Pn.parseE s = 0 ∧ 1 ≤ Pn.parseV s then some (Pn.parseV s, 1) else none
/-- no line feed within a line but at its end -/
def Plain (ls : List (List UInt8)) : Prop := ∀ s ∈ ls, ∀ c ∈ s.dropLast, c ≠ 10
theorem fd_snoc (s : List UInt8) : fdB (s ++ [10]) = true := by simp [fdB]
theorem nxt_ok {p : Nat} {ls r : List (List UInt8)} {s : List UInt8} (h : nxt p ls = .ok (s, r)) : ls = (s ++ [10]) :: r := by
  cases ls with
  | nil => cases h
  | cons x r' =>
    simp only [nxt] at h
    split at h
    · rename_i hf
      cases h
      unfold fdB at hf
      have h1 : x.getLast? = some 10 := by simpa using hf
      obtain ⟨q, rfl⟩ := List.getLast?_eq_some_iff.1 h1
      simp
    · cases h
theorem nxt_len {p : Nat} {ls r : List (List UInt8)} {s : List UInt8} (hP : Plain ls) (h : nxt p ls = .ok (s, r)) : ls.length = r.length + 1 ∧ Plain r := by
  have := nxt_ok h
  subst this
  exact ⟨rfl, fun x hx => hP x (by simp [hx])⟩
theorem split_plain (t : List UInt8) : Plain (splitL t) := by
  have h := split_right t
  generalize splitL t = L at h
  induction L with
  | nil => intro s hs; cases hs
  | cons x L ih =>
    simp only [checkB, Bool.and_eq_true] at h
    intro s hs
    rcases List.mem_cons.1 hs with rfl | hs
    · intro c hc
      have h1 := h.1
      rw [lineB_eq] at h1
      simp only [Bool.and_eq_true, linB] at h1
      have := (List.all_eq_true.1 h1.1.2) c hc
      simpa using this
    · exact ih h.2 s hs
end Go.Proofs.YtgiojkhmkeocfaaGreatDoor

/- The reference's Bare, walked: a line without its line feed. -/
set_option maxRecDepth 20000
namespace Go.Proofs.YtgiojkhmkeocfaaGreatDoor
open Go.RowKit
attribute [local go_sem] ByteArray.extract_mk

theorem no_at (l : List UInt8) (k : Nat) (h : k < (⟨l.toArray⟩ : ByteArray).size) : (⟨l.toArray⟩ : ByteArray)[k]'h = l[k]'(h) := rfl
attribute [local go_sem] no_at
/-- a line without its line feed -/
def bareT (s : List UInt8) : List UInt8 := if fdB s = true then s.dropLast else s
theorem bareT_yes {l : List UInt8} (h0 : 0 < l.length) (h : l[l.length - 1] = 10) : bareT l = l.take (l.length - 1) ∧ fdB l = true := by
  have hf : fdB l = true := by unfold fdB; rw [List.getLast?_eq_getElem?, List.getElem?_eq_getElem (by omega), h]; rfl
  exact ⟨by rw [bareT, hf, List.dropLast_eq_take]; rfl, hf⟩
theorem bareT_no {l : List UInt8} (h0 : 0 < l.length) (h : l[l.length - 1] ≠ 10) : bareT l = l ∧ fdB l = false := by
  have hf : fdB l = false := by unfold fdB; rw [List.getLast?_eq_getElem?, List.getElem?_eq_getElem (by omega)]; simpa using h
  exact ⟨by rw [bareT, hf]; rfl, hf⟩
set_option maxHeartbeats 400000 in
theorem rBare_f (l : List UInt8) (w : World) (hl : l.length ≤ 9223372036854775807) :
    Calls Tryz.prog 156 #[.string ⟨l.toArray⟩] w fun e w' => e = .returned (.tuple #[.string ⟨(bareT l).toArray⟩, .bool (fdB l)]) ∧ w = w' := by
  rcases Nat.eq_zero_or_pos l.length with h0 | h0
  · obtain rfl := List.eq_nil_of_length_eq_zero h0
    go_enter Tryz.func156, Tryz.ntmps156
    go_wp2
    go_ret2
    exact ⟨rfl, rfl⟩
  · have hn : ((l.length : Int) == 0) = false := beq_eq_false_iff_ne.2 (by omega)
    have hi : (((l.length : Int) - 1).toNat) = l.length - 1 := by omega
    have i1 : 0 ≤ (l.length : Int) - 1 := by omega
    have i2 : (l.length : Int) - 1 < (l.length : Int) := by omega
    have i3 : (l.length : Int) - 1 ≤ (l.length : Int) := by omega
    by_cases h : l[l.length - 1] = 10
    · obtain ⟨e1, e2⟩ := bareT_yes h0 h
      rw [e1, e2]
      have hb : ((l[l.length - 1].toNat : Int) != 10) = false := by rw [h]; rfl
      go_enter Tryz.func156, Tryz.ntmps156
      go_wp2
      go_ret2
      exact ⟨rfl, rfl⟩
    · obtain ⟨e1, e2⟩ := bareT_no h0 h
      rw [e1, e2]
      have hb : ((l[l.length - 1].toNat : Int) != 10) = true := (by
        rw [bne_iff_ne]
        intro hq
        exact h (UInt8.toNat_inj.1 (by show _ = 10; omega)))
      go_enter Tryz.func156, Tryz.ntmps156
      go_wp2
      go_ret2
      exact ⟨rfl, rfl⟩
end Go.Proofs.YtgiojkhmkeocfaaGreatDoor

/- The reference's reader of lines, walked: its place, its first fault; the next line. -/
set_option maxRecDepth 20000
namespace Go.Proofs.YtgiojkhmkeocfaaGreatDoor
open Go.RowKit

/-- a reader: its lines, where it stands, its fault -/
def rdO (vL : Value) (p fa fe : Int) : Obj := .cells #[vL, .int .i64 p, .int .i64 fa, .int .i64 fe] 112
def Rx (u : World) (R : Nat) (vL : Value) (p fa fe : Int) : Prop := u.heap[R]? = some (rdO vL p fa fe)
section
variable {u u' : World} {R : Nat} {vL : Value} {p fa fe : Int}
theorem Rx.cells (q : Rx u R vL p fa fe) : u.cell? ⟨R, 0, none⟩ = some vL ∧ u.cell? ⟨R, 1, none⟩ = some (.int .i64 p) ∧ u.cell? ⟨R, 2, none⟩ = some (.int .i64 fa) ∧ u.cell? ⟨R, 3, none⟩ = some (.int .i64 fe) := by
  unfold Rx rdO at q
  refine ⟨?_, ?_, ?_, ?_⟩ <;> rw [Lib.cell_of_heap q] <;> rfl
theorem Rx.frozen (q : Rx u R vL p fa fe) (j : Nat) : u.frozen? ⟨R, j, none⟩ = false := Lib.frozen_of_heap q j
theorem Rx.lt (q : Rx u R vL p fa fe) : R < u.heap.size := (Array.getElem?_eq_some_iff.1 q).1
theorem Rx.dN (q : Rx u R vL p fa fe) (n : Nat) : Rx (u.drewN n) R vL p fa fe := q
theorem Rx.at (q : Rx u R vL p fa fe) (p' : Int) : Rx (u.setCell ⟨R, 1, none⟩ (.int .i64 p')) R vL p' fa fe := heap_setCell_same u R 1 _ _ (.int .i64 p') q
theorem Rx.fault (q : Rx u R vL p fa fe) (x y : Int) : Rx ((u.setCell ⟨R, 2, none⟩ (.int .i64 x)).setCell ⟨R, 3, none⟩ (.int .i64 y)) R vL p x y := heap_setCell_same _ R 3 _ _ (.int .i64 y) (heap_setCell_same u R 2 _ _ (.int .i64 x) q)
end
theorem grown_two {w u v : World} {r : Option Nat} (h : w.grownBy u r) (h' : u.grownBy v r) : w.grownBy v r :=
  ⟨h'.os.trans h.os, h'.tape.trans h.tape, h'.output.trans h.output, Nat.le_trans h.size h'.size, fun k hk hr => (h'.block k (Nat.lt_of_lt_of_le hk h.size) hr).trans (h.block k hk hr)⟩
set_option maxHeartbeats 1000000 in
theorem rFail_ok {R : Nat} {vL : Value} {p fa : Int} (e : Int) (w : World) (q : Rx w R vL p fa 0) :
    Calls Tryz.prog 55 #[.pointer (some ⟨R, 0, none⟩), .int .i64 e] w fun x w' => x = .returned (.tuple #[]) ∧ Rx w' R vL p p e ∧ w.grownBy w' (some R) := by
  obtain ⟨c0, c1, c2, c3⟩ := q.cells
  have f2 := q.frozen 2
  have f3 := q.frozen 3
  have HQ : Hid (Rx ((w.setCell ⟨R, 2, none⟩ (.int .i64 p)).setCell ⟨R, 3, none⟩ (.int .i64 e)) R vL p p e ∧ w.grownBy ((w.setCell ⟨R, 2, none⟩ (.int .i64 p)).setCell ⟨R, 3, none⟩ (.int .i64 e)) (some R)) := ⟨q.fault p e, grown_two (grown_set w R 2 _) (grown_set _ R 3 _)⟩
  clear q
  go_enter Tryz.func55, Tryz.ntmps55
  go_wp2
  go_end0
  exact ⟨rfl, HQ.out⟩
set_option maxHeartbeats 1000000 in
theorem rFail_no {R : Nat} {vL : Value} {p fa fe : Int} (e : Int) (w : World) (q : Rx w R vL p fa fe) (hf : fe ≠ 0) :
    Calls Tryz.prog 55 #[.pointer (some ⟨R, 0, none⟩), .int .i64 e] w fun x w' => x = .returned (.tuple #[]) ∧ w' = w := by
  obtain ⟨c0, c1, c2, c3⟩ := q.cells
  have h1 : (fe == 0) = false := beq_eq_false_iff_ne.2 hf
  clear q
  go_enter Tryz.func55, Tryz.ntmps55
  go_wp2
  go_end0
  exact ⟨rfl, rfl⟩
set_option maxHeartbeats 1000000 in
theorem rMore_f {R : Nat} {L : List (List UInt8)} {lo : Option Addr} {lc : Nat} {p : Nat} {fa fe : Int} (w : World) (q : Rx w R (.slice lo L.length lc) p fa fe) :
    Calls Tryz.prog 53 #[.pointer (some ⟨R, 0, none⟩)] w fun x w' => x = .returned (.bool (decide (fe = 0) && decide (p < L.length))) ∧ ∃ m, w' = w.drewN m := by
  obtain ⟨c0, c1, c2, c3⟩ := q.cells
  clear q
  by_cases hf : fe = 0
  · have h1 : (fe == 0) = true := by rw [hf]; rfl
    have h2 : decide (fe = 0) = true := decide_eq_true hf
    rw [h2]
    by_cases hp : p < L.length
    · have h3 : decide (p < L.length) = true := decide_eq_true hp
      have h4 : decide ((p : Int) < (L.length : Int)) = true := decide_eq_true (by omega)
      rw [h3]
      clear hf
      go_enter Tryz.func53, Tryz.ntmps53
      go_wp2_with fail
      go_quiet (fail)
      go_wp2
      go_ret
      exact ⟨rfl, _, rfl⟩
    · have h3 : decide (p < L.length) = false := decide_eq_false hp
      have h4 : decide ((p : Int) < (L.length : Int)) = false := decide_eq_false (by omega)
      rw [h3]
      clear hf
      go_enter Tryz.func53, Tryz.ntmps53
      go_wp2_with fail
      go_quiet (fail)
      go_wp2
      go_ret
      exact ⟨rfl, _, rfl⟩
  · have h1 : (fe == 0) = false := beq_eq_false_iff_ne.2 hf
    have h2 : decide (fe = 0) = false := decide_eq_false hf
    rw [h2]
    go_enter Tryz.func53, Tryz.ntmps53
    go_wp2_with fail
    go_quiet (fail)
    go_wp2
    go_ret
    exact ⟨rfl, _, rfl⟩

set_option maxHeartbeats 4000000 in
theorem rNext_no {R : Nat} {vL : Value} {p fa fe : Int} (w : World) (q : Rx w R vL p fa fe) (hf : fe ≠ 0) :
    Calls Tryz.prog 98 #[.pointer (some ⟨R, 0, none⟩)] w fun x w' => x = .returned (.string ⟨#[]⟩) ∧ w' = w := by
  obtain ⟨c0, c1, c2, c3⟩ := q.cells
  have h1 : (fe != 0) = true := bne_iff_ne.2 hf
  clear q
  go_enter Tryz.func98, Tryz.ntmps98
  go_wp2
  go_ret
  exact ⟨rfl, rfl⟩
theorem nxt_drop {L : List (List UInt8)} {p : Nat} (hp : p < L.length) : nxt p (L.drop p) = if fdB L[p] = true then .ok (L[p].dropLast, L.drop (p + 1)) else .error (p + 1, 3) := by
  rw [List.drop_eq_getElem_cons hp]
  rfl
theorem nxt_end {L : List (List UInt8)} {p : Nat} (hp : L.length ≤ p) : nxt p (L.drop p) = .error (p + 1, 1) := by
  rw [List.drop_eq_nil_of_le hp]
  rfl
theorem rBare_same (s : List UInt8) (hf : fdB s = true) (hs : s.length ≤ 1099511627776) (w : World) : Calls Tryz.prog 156 #[.string ⟨s.toArray⟩] w fun e w' => e = .returned (.tuple #[.string ⟨s.dropLast.toArray⟩, .bool true]) ∧ w' = w := by
  have eb : bareT s = s.dropLast := by unfold bareT; rw [if_pos hf]
  refine (rBare_f s w (by omega)).mono ?_
  rintro e w' ⟨rfl, rfl⟩
  rw [eb, hf]
  exact ⟨rfl, rfl⟩
theorem rBare_bad (s : List UInt8) (hf : fdB s = false) (hs : s.length ≤ 1099511627776) (w : World) : Calls Tryz.prog 156 #[.string ⟨s.toArray⟩] w fun e w' => e = .returned (.tuple #[.string ⟨s.toArray⟩, .bool false]) ∧ w' = w := by
  have eb : bareT s = s := by unfold bareT; rw [if_neg (by rw [hf]; decide)]
  refine (rBare_f s w (by omega)).mono ?_
  rintro e w' ⟨rfl, rfl⟩
  rw [eb, hf]
  exact ⟨rfl, rfl⟩
set_option maxHeartbeats 4000000 in
theorem rNext_end {R : Nat} {L : List (List UInt8)} {lo : Option Addr} {lc : Nat} {p : Nat} {fa : Int} (w : World) (q : Rx w R (.slice lo L.length lc) p fa 0) (_hL : HS w (.slice lo L.length lc) L) (_hR : ∀ a, lo = some a → a.block ≠ R) (hp : p ≤ 4398046511104) (hlt : L.length ≤ p) :
    Calls Tryz.prog 98 #[.pointer (some ⟨R, 0, none⟩)] w fun x w' => x = .returned (.string ⟨#[]⟩) ∧ Rx w' R (.slice lo L.length lc) ((p : Int) + 1) ((p : Int) + 1) 1 ∧ w.grownBy w' (some R) := by
  obtain ⟨c0, c1, c2, c3⟩ := q.cells
  have f1 := q.frozen 1
  have q1 := q.at ((p : Int) + 1)
  have g1 := grown_set w R 1 (.int .i64 ((p : Int) + 1))
  clear q
  go_enter Tryz.func98, Tryz.ntmps98
  go_upto_region 4 with fail
  generalize w.setCell ⟨R, 1, none⟩ (.int .i64 ((p : Int) + 1)) = W1 at q1 g1 ⊢
  obtain ⟨d0, d1, d2, d3⟩ := q1.cells
  have i0 : (L.length : Int) < (p : Int) + 1 := by omega
  clear c0 c1 c2 c3
  go_quiet (fail)
  go_wp2_with fail
  refine (rFail_ok 1 _ (q1.dN _)).mono ?_
  rintro e w2 ⟨rfl, q2, g2⟩
  go_wp2
  go_ret
  exact ⟨rfl, q2, grown_two (grown_drewN g1 _) g2⟩
set_option maxHeartbeats 4000000 in
theorem rNext_ok {R : Nat} {L : List (List UInt8)} {lo : Option Addr} {lc : Nat} {p : Nat} {fa : Int} (w : World) (q : Rx w R (.slice lo L.length lc) p fa 0) (hL : HS w (.slice lo L.length lc) L) (hR : ∀ a, lo = some a → a.block ≠ R) (hp : p ≤ 4398046511104) (hlt : p < L.length) {s : List UInt8} (hs : L[p] = s) (hsl : s.length ≤ 1099511627776) (hf : fdB s = true) :
    Calls Tryz.prog 98 #[.pointer (some ⟨R, 0, none⟩)] w fun x w' => x = .returned (.string ⟨s.dropLast.toArray⟩) ∧ Rx w' R (.slice lo L.length lc) ((p : Int) + 1) fa 0 ∧ w.grownBy w' (some R) := by
  obtain ⟨c0, c1, c2, c3⟩ := q.cells
  have f1 := q.frozen 1
  have q1 := q.at ((p : Int) + 1)
  have g1 := grown_set w R 1 (.int .i64 ((p : Int) + 1))
  clear q
  go_enter Tryz.func98, Tryz.ntmps98
  go_upto_region 4 with fail
  generalize w.setCell ⟨R, 1, none⟩ (.int .i64 ((p : Int) + 1)) = W1 at q1 g1 ⊢
  obtain ⟨d0, d1, d2, d3⟩ := q1.cells
  obtain ⟨bk, off, rfl, hbk, hcl⟩ := HS.at hL (by omega)
  have d4 := hcl p hlt
  have hRb : bk ≠ R := hR ⟨bk, off, none⟩ rfl
  have d5 : W1.cell? ⟨bk, off + p, none⟩ = some (.string ⟨L[p].toArray⟩) := (World.cell?_of_block (w := w) (g1.block bk hbk (fun e => hRb (Option.some.inj e)))).trans d4
  clear hcl d4 c0 c1 c2 c3 hL hR
  rw [hs] at d5
  have i0 : ¬ (L.length : Int) < (p : Int) + 1 := by omega
  have e1 : (p : Int) + 1 - 1 = (p : Int) := by omega
  have i1 : 0 ≤ (p : Int) := by omega
  have i2 : (p : Int) < (L.length : Int) := by omega
  have e3 : IntKind.i64.wrap (p : Int) = (p : Int) := (by simp [IntKind.wrap, IntKind.bits, IntKind.signed]; omega)
  have e4 : wrap64 (p : Int) = (p : Int) := by unfold wrap64; omega
  go_quiet (fail)
  go_wp2_with fail
  have q2 := q1.dN nq
  have g2 := grown_drewN g1 nq
  have d6 : (W1.drewN nq).cell? ⟨bk, off + p, none⟩ = some (.string ⟨s.toArray⟩) := d5
  clear q1 g1 d5 d0 d1 d2 d3
  generalize W1.drewN nq = W2 at q2 g2 d6 ⊢
  obtain ⟨d0, d1, d2, d3⟩ := q2.cells
  have j1 : (0 : Int) ≤ (p : Int) := by omega
  have j2 : (p : Int) < (L.length : Int) := by omega
  have j3 : (p : Int).toNat = p := by omega
  go_quiet ((go_at_call 156; exact Calls.quiet_of_same (rBare_same s hf hsl _)))
  go_wp2
  go_ret
  exact ⟨rfl, q2.dN _, grown_drewN g2 _⟩
set_option maxHeartbeats 4000000 in
theorem rNext_bad {R : Nat} {L : List (List UInt8)} {lo : Option Addr} {lc : Nat} {p : Nat} {fa : Int} (w : World) (q : Rx w R (.slice lo L.length lc) p fa 0) (hL : HS w (.slice lo L.length lc) L) (hR : ∀ a, lo = some a → a.block ≠ R) (hp : p ≤ 4398046511104) (hlt : p < L.length) {s : List UInt8} (hs : L[p] = s) (hsl : s.length ≤ 1099511627776) (hf : fdB s = false) :
    Calls Tryz.prog 98 #[.pointer (some ⟨R, 0, none⟩)] w fun x w' => x = .returned (.string ⟨#[]⟩) ∧ Rx w' R (.slice lo L.length lc) ((p : Int) + 1) ((p : Int) + 1) 3 ∧ w.grownBy w' (some R) := by
  obtain ⟨c0, c1, c2, c3⟩ := q.cells
  have f1 := q.frozen 1
  have q1 := q.at ((p : Int) + 1)
  have g1 := grown_set w R 1 (.int .i64 ((p : Int) + 1))
  clear q
  go_enter Tryz.func98, Tryz.ntmps98
  go_upto_region 4 with fail
  generalize w.setCell ⟨R, 1, none⟩ (.int .i64 ((p : Int) + 1)) = W1 at q1 g1 ⊢
  obtain ⟨d0, d1, d2, d3⟩ := q1.cells
  obtain ⟨bk, off, rfl, hbk, hcl⟩ := HS.at hL (by omega)
  have d4 := hcl p hlt
  have hRb : bk ≠ R := hR ⟨bk, off, none⟩ rfl
  have d5 : W1.cell? ⟨bk, off + p, none⟩ = some (.string ⟨L[p].toArray⟩) := (World.cell?_of_block (w := w) (g1.block bk hbk (fun e => hRb (Option.some.inj e)))).trans d4
  clear hcl d4 c0 c1 c2 c3 hL hR
  rw [hs] at d5
  have i0 : ¬ (L.length : Int) < (p : Int) + 1 := by omega
  have e1 : (p : Int) + 1 - 1 = (p : Int) := by omega
  have i1 : 0 ≤ (p : Int) := by omega
  have i2 : (p : Int) < (L.length : Int) := by omega
  have e3 : IntKind.i64.wrap (p : Int) = (p : Int) := (by simp [IntKind.wrap, IntKind.bits, IntKind.signed]; omega)
  have e4 : wrap64 (p : Int) = (p : Int) := by unfold wrap64; omega
  go_quiet (fail)
  go_wp2_with fail
  have q2 := q1.dN nq
  have g2 := grown_drewN g1 nq
  have d6 : (W1.drewN nq).cell? ⟨bk, off + p, none⟩ = some (.string ⟨s.toArray⟩) := d5
  clear q1 g1 d5 d0 d1 d2 d3
  generalize W1.drewN nq = W2 at q2 g2 d6 ⊢
  obtain ⟨d0, d1, d2, d3⟩ := q2.cells
  have j1 : (0 : Int) ≤ (p : Int) := by omega
  have j2 : (p : Int) < (L.length : Int) := by omega
  have j3 : (p : Int).toNat = p := by omega
  go_quiet ((go_at_call 156; exact Calls.quiet_of_same (rBare_bad s hf hsl _)))
  go_wp2_with fail
  refine (rFail_ok 3 _ (q2.dN _)).mono ?_
  rintro e w2 ⟨rfl, q3, g3⟩
  go_wp2
  go_ret
  exact ⟨rfl, q3, grown_two (grown_drewN g2 _) g3⟩
end Go.Proofs.YtgiojkhmkeocfaaGreatDoor

/- The reference's reader, walked: does the next line begin with some bytes? -/
set_option maxRecDepth 20000
namespace Go.Proofs.YtgiojkhmkeocfaaGreatDoor
open Go.RowKit
attribute [local go_sem] ByteArray.extract_mk no_at

theorem pre_take (sg l : List UInt8) : sg.isPrefixOf l = (decide (sg.length ≤ l.length) && (l.take sg.length == sg)) := by
  rw [Bool.eq_iff_iff, List.isPrefixOf_iff_prefix, Bool.and_eq_true, decide_eq_true_eq, beq_iff_eq]
  constructor
  · rintro ⟨t, rfl⟩
    simp
  · rintro ⟨_, h⟩
    refine ⟨l.drop sg.length, ?_⟩
    have h2 := List.take_append_drop sg.length l
    rw [h] at h2
    exact h2
end Go.Proofs.YtgiojkhmkeocfaaGreatDoor

/- What is written in the normal form is read as the hunks without context; plain mathematics. -/
set_option maxRecDepth 20000
namespace Go.Proofs.YtgiojkhmkeocfaaGreatDoor
open Ln

/-- lines that all are lines, and have their line feed but for the last one -/
def Rows : List (List UInt8) → Prop
  | [] => True
  | x :: r => linB x = true ∧ (r ≠ [] → fdB x = true) ∧ Rows r
theorem fd_form {x : List UInt8} (h : fdB x = true) : x = x.dropLast ++ [10] := by
  unfold fdB at h
  have h1 : x.getLast? = some 10 := by simpa using h
  obtain ⟨q, rfl⟩ := List.getLast?_eq_some_iff.1 h1
  simp
end Go.Proofs.YtgiojkhmkeocfaaGreatDoor

/- The normal form of an edit script: read again it is the hunks without context; a part of it is never read as the whole; plain mathematics. -/
set_option maxRecDepth 20000
namespace Go.Proofs.YtgiojkhmkeocfaaGreatDoor
open Ln

end Go.Proofs.YtgiojkhmkeocfaaGreatDoor

/- What is read in the normal form are right hunks; plain mathematics. -/
set_option maxRecDepth 20000
namespace Go.Proofs.YtgiojkhmkeocfaaGreatDoor
open Ln

theorem sat_pos : ∀ (l : List UInt8) (n : Int), 0 ≤ n → l.all Pn.digB = true → 0 ≤ Pn.sat n l
  | [], _, hn, _ => hn
  | c :: t, n, hn, h => by
    simp only [List.all_cons, Bool.and_eq_true] at h
    have h1 := Pn.digB_out h.1
    rw [Pn.sat]
    exact sat_pos t _ (by omega) h.2
theorem prs_num {s : List UInt8} : 0 ≤ Pn.parseV s ∧ Pn.parseV s ≤ 2147483647 := by
  unfold Pn.parseV
  split
  · rename_i h
    exact ⟨sat_pos s 0 (by omega) (Pn.isNum_all h.1), h.2⟩
  · omega
theorem lns_right {s : List UInt8} {x n : Int} (h : lnsP s = some (x, n)) : 1 ≤ x ∧ x ≤ 2147483647 ∧ 1 ≤ n ∧ n ≤ 2147483647 := by
  unfold lnsP at h
  split at h
  · split at h
    · rename_i y _ z _ hc
      cases h
      have h1 := @prs_num y
      have h2 := @prs_num z
      omega
    · cases h
  · split at h
    · rename_i hc
      cases h
      have h1 := @prs_num s
      omega
    · cases h
end Go.Proofs.YtgiojkhmkeocfaaGreatDoor

/- The context form as texts and as lines: how it is written, how it is read; plain mathematics. -/
set_option maxRecDepth 20000
namespace Go.Proofs.YtgiojkhmkeocfaaGreatDoor
open Ln

/-- a patch -/
structure Pth where
  old : List UInt8
  new : List UInt8
  hs : List Hk

/-- /dev/null -/
def devN : List UInt8 := [47, 100, 101, 118, 47, 110, 117, 108, 108]
/-- a byte that stands for itself in a name -/
def nameC (c : UInt8) : Bool := decide (33 ≤ c.toNat ∧ c.toNat ≤ 126 ∧ c.toNat ≠ 34)
/-- a name as it stands in a patch -/
def nameT (s : List UInt8) : List UInt8 := if s = [] then devN else if s.all nameC = true ∧ s ≠ devN then s else Q.quote s
/-- the name that a text may stand for -/
def unN (s : List UInt8) : Option (List UInt8) := if s = devN then some [] else if s.head? = some 34 then (match Q.unquote s with | some (t, []) => some t | _ => none) else some s
/-- the name that stands in a patch -/
def namedP (s : List UInt8) : Option (List UInt8) := match unN s with
  | none => none
  | some n => if n.length ≤ 64 ∧ nameT n = s then some n else none

def starsT : List UInt8 := [42, 42, 42, 42, 42, 42, 42, 42, 42, 42, 42, 42, 42, 42, 42]
/-- a line with a name -/
def namP (ah : List UInt8) (p : Nat) (ls : List (List UInt8)) : Except (Nat × Int) (List UInt8 × List (List UInt8)) :=
  match nxt p ls with
  | .error e => .error e
  | .ok (s, r) => if ah.isPrefixOf s = true then match namedP (s.drop 4) with
    | none => .error (p + 1, 253)
    | some n => .ok (n, r) else .error (p + 1, 3)
/-- a range: the number, how many (-1: one or none) -/
def rngI (s : List UInt8) : Option (Int × Int) := if Pn.parseE s = 0 then some (Pn.parseV s, -1) else lnsP s
/-- what stands between three bytes and a blank, a blank and four bytes -/
def innR (e : UInt8) (s : List UInt8) : Option (List UInt8) := if 9 ≤ s.length ∧ s.take 4 = [e, e, e, 32] ∧ s.drop (s.length - 5) = [32, e, e, e, e] then some ((s.drop 4).take (s.length - 9)) else none
/-- a line with a range -/
def rngP (e : UInt8) (p : Nat) (ls : List (List UInt8)) : Except (Nat × Int) ((Int × Int) × List (List UInt8)) :=
  match nxt p ls with
  | .error x => .error x
  | .ok (s, r) => match innR e s with
    | none => .error (p + 1, 3)
    | some t => match rngI t with
      | none => .error (p + 1, 3)
      | some q => .ok (q, r)
/-- a line of a side begins so -/
def isSd (sg : UInt8) : List UInt8 → Bool
  | a :: b :: _ => (a == 32 || a == sg || a == 33) && b == 32
  | _ => false
/-- the lines of a side: kinds and texts -/
def rdS (sg : UInt8) : Nat → List (List UInt8) → Except (Nat × Int) (List (UInt8 × List UInt8) × Nat × List (List UInt8))
  | p, [] => .ok ([], p, [])
  | p, s :: r => if isSd sg s = true then if fdB s = true then if pkM r = true ∧ 3 < s.length then .ok ([(s.headD 0, (s.drop 2).dropLast)], p + 2, r.tail) else match rdS sg (p + 1) r with
      | .error e => .error e
      | .ok (l, p2, r2) => .ok ((s.headD 0, s.drop 2) :: l, p2, r2)
    else .error (p + 1, 3) else .ok ([], p, s :: r)
abbrev Sde := List (UInt8 × List UInt8)
/-- the lines with two blanks -/
def keptS (x : Sde) : Sde := x.filter fun y => y.1 == 32
/-- is no line of a side changed? -/
def sameS (x : Sde) : Bool := x.all fun y => y.1 == 32
/-- the changed lines ahead, and what is behind them -/
def chgS (x : Sde) : Sde := x.takeWhile fun y => y.1 != 32
def rstS (x : Sde) : Sde := x.dropWhile fun y => y.1 != 32
def allS (k : UInt8) (x : Sde) : Bool := x.all fun y => y.1 == k
def okJ (x y : Sde) : Bool := if x ≠ [] ∧ y ≠ [] then allS 33 x && allS 33 y else allS 45 x && allS 43 y
def mkS (s : Int) (x : Sde) : List Mk := x.map fun y => ⟨s, y.2⟩
/-- both sides as one -/
def jnS : Nat → Sde → Sde → Option (List Mk)
  | 0, _, _ => none
  | f + 1, o, w => if okJ (chgS o) (chgS w) = true then match rstS o, rstS w with
      | [], [] => some (mkS 45 (chgS o) ++ mkS 43 (chgS w))
      | (_, s) :: o2, (_, t) :: w2 => if s = t then match jnS f o2 w2 with
        | none => none
        | some l => some (mkS 45 (chgS o) ++ (mkS 43 (chgS w) ++ ⟨32, s⟩ :: l)) else none
      | _, _ => none
    else none
/-- what a range says is other than there are lines -/
def cntS (n : Int) (x : Sde) : Bool := decide (n < 0 ∧ 1 < x.length ∨ 0 ≤ n ∧ n ≠ x.length)
def oldF (o w : Sde) : Sde := if o = [] then keptS w else o
def newF (o w : Sde) : Sde := if o ≠ [] ∧ w = [] then keptS o else w
/-- a hunk's lines are through: at the line of stars, the lines of both ranges -/
def finH (at0 ato atw : Nat) (po no pw nw : Int) (o w : Sde) : Except (Nat × Int) Hk :=
  if sameS o = true ∧ sameS w = true then .error (at0, 50) else
  if cntS no (oldF o w) = true then .error (ato, 120) else
  if cntS nw (newF o w) = true then .error (atw, 120) else
  if po = 0 ∧ oldF o w ≠ [] then .error (ato, 2) else
  if pw = 0 ∧ newF o w ≠ [] then .error (atw, 2) else
  match jnS ((oldF o w).length + 1) (oldF o w) (newF o w) with
  | none => .error (at0, 190)
  | some l => .ok ⟨po, (oldF o w).length, pw, (newF o w).length, l⟩
/-- is a line a line of stars? -/
def isSt (s : List UInt8) : Bool := starsT.isPrefixOf s && ((s.drop 15).isEmpty || (s.drop 15).head? == some 32)
/-- a hunk; so many are ahead of it -/
def cxH (k p : Nat) (ls : List (List UInt8)) : Except (Nat × Int) (Hk × Nat × List (List UInt8)) :=
  match nxt p ls with
  | .error e => .error e
  | .ok (s, r) => if isSt s = true then if 4096 ≤ k then .error (p + 1, 9) else match rngP 42 (p + 1) r with
    | .error e => .error e
    | .ok ((po, no), r1) => match rdS 45 (p + 2) r1 with
      | .error e => .error e
      | .ok (o, p2, r2) => match rngP 45 p2 r2 with
        | .error e => .error e
        | .ok ((pw, nw), r3) => match rdS 43 (p2 + 1) r3 with
          | .error e => .error e
          | .ok (w, p4, r4) => match finH (p + 1) (p + 2) (p2 + 1) po no pw nw o w with
            | .error e => .error e
            | .ok h => .ok (h, p4, r4)
    else .error (p + 1, 3)
/-- does the next line begin with stars? -/
def pkS : List (List UInt8) → Bool
  | [] => false
  | s :: _ => starsT.isPrefixOf s
/-- the hunks of a patch, by as many steps as there are lines -/
def cxHs : Nat → Nat → Nat → List (List UInt8) → Except (Nat × Int) (List Hk × Nat × List (List UInt8))
  | 0, _, p, _ => .error (p + 1, 1)
  | f + 1, k, p, ls => match cxH k p ls with
    | .error e => .error e
    | .ok (h, p1, r) => if pkS r = true then match cxHs f (k + 1) p1 r with
        | .error e => .error e
        | .ok (l, p2, r2) => .ok (h :: l, p2, r2)
      else .ok ([h], p1, r)
/-- all patches -/
def cxPs : Nat → Nat → Nat → List (List UInt8) → Except (Nat × Int) (List Pth)
  | 0, _, _, _ => .ok []
  | f + 1, k, p, ls => if ls = [] then .ok [] else match namP [42, 42, 42, 32] p ls with
    | .error e => .error e
    | .ok (n1, r1) => if 64 ≤ k then .error (p + 1, 9) else match namP [45, 45, 45, 32] (p + 1) r1 with
      | .error e => .error e
      | .ok (n2, r2) => match cxHs (r2.length + 1) 0 (p + 2) r2 with
        | .error e => .error e
        | .ok (hs, p3, r3) => match cxPs f (k + 1) p3 r3 with
          | .error e => .error e
          | .ok l => .ok (⟨n1, n2, hs⟩ :: l)
/-- a text is read -/
def cxT (t : List UInt8) : Except (Nat × Int) (List Pth) := if 1048576 < t.length then .error (0, 9) else cxPs (splitL t).length 0 0 (splitL t)

/- names -/
theorem quote_head (s : List UInt8) : (Q.quote s).head? = some 34 := by simp [Q.quote]
theorem quote_dev (s : List UInt8) : Q.quote s ≠ devN := by
  intro h
  have := congrArg List.head? h
  rw [quote_head] at this
  exact absurd this (by decide)
theorem name_un (n : List UInt8) : unN (nameT n) = some n := by
  unfold nameT
  split
  · rename_i h
    subst h
    rfl
  · split
    · rename_i h0 h
      unfold unN
      rw [if_neg h.2, if_neg ?_]
      cases n with
      | nil => exact absurd rfl h0
      | cons c t =>
        intro hq
        simp only [List.head?_cons, Option.some.injEq] at hq
        have := List.all_eq_true.1 h.1 c (by simp)
        rw [hq] at this
        exact absurd this (by decide)
    · unfold unN
      rw [if_neg (quote_dev n), if_pos (quote_head n)]
      have := unquote_back n []
      rw [List.append_nil] at this
      rw [this]
theorem named_iff (s n : List UInt8) : namedP s = some n ↔ s = nameT n ∧ n.length ≤ 64 := by
  constructor
  · intro h
    unfold namedP at h
    split at h
    · cases h
    · split at h
      · rename_i hq
        cases h
        exact ⟨hq.2.symm, hq.1⟩
      · cases h
  · rintro ⟨rfl, h⟩
    unfold namedP
    rw [name_un]
    show (if n.length ≤ 64 ∧ nameT n = nameT n then some n else none) = some n
    rw [if_pos ⟨h, rfl⟩]
/- ranges -/
end Go.Proofs.YtgiojkhmkeocfaaGreatDoor

/- The context form: a hunk's sides are read as they were written; plain mathematics. -/
set_option maxRecDepth 20000
namespace Go.Proofs.YtgiojkhmkeocfaaGreatDoor
open Ln

end Go.Proofs.YtgiojkhmkeocfaaGreatDoor

/- The context form: both sides of a hunk are laid into one list again; a hunk is read as it was written; plain mathematics. -/
set_option maxRecDepth 20000
namespace Go.Proofs.YtgiojkhmkeocfaaGreatDoor
open Ln

end Go.Proofs.YtgiojkhmkeocfaaGreatDoor

/- The context form: hunks and patches are read as they were written; plain mathematics. -/
set_option maxRecDepth 20000
namespace Go.Proofs.YtgiojkhmkeocfaaGreatDoor
open Ln

/-- a hunk that is read as it was -/
structure Gh (h : Hk) : Prop where
  chk : chkH h = 0
  nf : Nf false h.ls
  ea : 2 ≤ h.AN → h.A + h.AN - 1 ≤ 2147483647
  eb : 2 ≤ h.BN → h.B + h.BN - 1 ≤ 2147483647
end Go.Proofs.YtgiojkhmkeocfaaGreatDoor

/- The context form: patches are read as they were written; plain mathematics. -/
set_option maxRecDepth 20000
namespace Go.Proofs.YtgiojkhmkeocfaaGreatDoor
open Ln

/-- a patch that is read as it was -/
structure Gp (p : Pth) : Prop where
  ne : p.hs ≠ []
  old : p.old.length ≤ 64
  new : p.new.length ≤ 64
  few : p.hs.length ≤ 4096
  gd : ∀ h ∈ p.hs, Gh h
end Go.Proofs.YtgiojkhmkeocfaaGreatDoor
