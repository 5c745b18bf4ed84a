/-
  Texts that belong together, joined: Itoa, NoShelf, LnShelf, NoShelfX, UnShelf, LnMath, HuLm, Math, PMath, BackMath, NoMath, NoB, NoRd, NoPk, NoJn, NoMk, NoWs, NoTx, NoRf, NoCg, NoM2, NoM3, NoPr, NoLen, NcW, PtL, NcL.
-/
import Derived.Shelf.Strconv.Itoa3
import Derived.Test.YtgiojkhmkeocfaaGreatDoorProg
import Derived.Shelf.Strings.BuilderK
import Derived.Shelf.Small.Wraps
import Derived.Shelf.Small.Strs
import Derived.Test.YtgiojkhmkeocfaaGreatDoorUnAgrA1
import Derived.Shelf.Strings.Search3
import Derived.Shelf.Small.Utf8
import Derived.Shelf.Strings.Runes
import Derived.Shelf.Strings.IndexAny
import Derived.Shelf.Strings.IndexAnyAll
import Derived.Shelf.Strings.Search2
import Derived.Shelf.Strings.Cut
import Derived.Lib.Bytealg
import Derived.Lib.Join
import Derived.Lib.ItoaNum
import Derived.Test.YtgiojkhmkeocfaaGreatDoorUnAgrA4
import Derived.Deep.CutBlock
import Derived.Deep.RegionHeld3
import Derived.Laws.IdiomStrings
import Derived.Deep.DeepCutAuto
import Derived.Lib.AppendIntMem
import Derived.Lib.FrozenHead2

set_option maxHeartbeats 16000000
set_option maxRecDepth 100000
namespace Go.Proofs

section
open Go.Shelf
def Tryz.laysM171_ren : Go.Shelf.Ren := ⟨fun | 171 => 134 | 243 => 196 | 246 => 239 | 283 => 268 | 284 => 269 | 285 => 270 | 286 => 271 | 129 => 290 | 317 => 289 | 318 => 291 | 319 => 292 | 320 => 293 | 337 => 304 | 338 => 305 | n => n, fun | 3 => 3 | 9 => 9 | 2 => 2 | 4 => 4 | 171 => 322 | 0 => 0 | 53 => 29 | 37 => 75 | 5 => 5 | 173 => 325 | 212 => 337 | 51 => 235 | 20 => 20 | 213 => 338 | 46 => 180 | 232 => 352 | 233 => 353 | n => n, fun | 17 => 2 | 18 => 3 | 19 => 4 | n => n⟩
theorem Tryz.laysM171 : Go.Proofs.LaysM.n171 Tryz.prog Tryz.laysM171_ren := {
  mixed := by kernel_rfl
  f129 := Go.fk Tryz.func290
  f171 := Go.fk Tryz.func134
  f243 := Go.fk Tryz.func196
  f246 := Go.fk Tryz.func239
  f283 := Go.fk Tryz.func268
  f284 := Go.fk Tryz.func269
  f285 := Go.fk Tryz.func270
  f286 := Go.fk Tryz.func271
  f317 := Go.fk Tryz.func289
  f318 := Go.fk Tryz.func291
  f319 := Go.fk Tryz.func292
  f320 := Go.fk Tryz.func293
  f337 := Go.fk Tryz.func304
  f338 := Go.fk Tryz.func305
  t0 := Tryz.underlying0
  a0 := Tryz.isAgg0
  z0 := Tryz.sizeOf0
  v0 := Tryz.zeroValue0
  t2 := Tryz.underlying2
  a2 := Tryz.isAgg2
  z2 := Tryz.sizeOf2
  v2 := Tryz.zeroValue2
  t3 := Tryz.underlying3
  a3 := Tryz.isAgg3
  z3 := Tryz.sizeOf3
  v3 := Tryz.zeroValue3
  t4 := Tryz.underlying4
  a4 := Tryz.isAgg4
  z4 := Tryz.sizeOf4
  v4 := Tryz.zeroValue4
  t5 := Tryz.underlying5
  a5 := Tryz.isAgg5
  z5 := Tryz.sizeOf5
  v5 := Tryz.zeroValue5
  t9 := Tryz.underlying9
  a9 := Tryz.isAgg9
  z9 := Tryz.sizeOf9
  v9 := Tryz.zeroValue9
  t20 := Tryz.underlying20
  a20 := Tryz.isAgg20
  z20 := Tryz.sizeOf20
  v20 := Tryz.zeroValue20
  t37 := Tryz.underlying75
  a37 := Tryz.isAgg75
  z37 := Tryz.sizeOf75
  v37 := Tryz.zeroValue75
  t46 := Tryz.underlying180
  a46 := Tryz.isAgg180
  z46 := Tryz.sizeOf180
  v46 := Tryz.zeroValue180
  t51 := Tryz.underlying235
  a51 := Tryz.isAgg235
  z51 := Tryz.sizeOf235
  v51 := Tryz.zeroValue235
  t53 := Tryz.underlying29
  a53 := Tryz.isAgg29
  z53 := Tryz.sizeOf29
  v53 := Tryz.zeroValue29
  t171 := Tryz.underlying322
  a171 := Tryz.isAgg322
  z171 := Tryz.sizeOf322
  v171 := Tryz.zeroValue322
  t173 := Tryz.underlying325
  a173 := Tryz.isAgg325
  z173 := Tryz.sizeOf325
  v173 := Tryz.zeroValue325
  t212 := Tryz.underlying337
  a212 := Tryz.isAgg337
  z212 := Tryz.sizeOf337
  v212 := Tryz.zeroValue337
  t213 := Tryz.underlying338
  a213 := Tryz.isAgg338
  z213 := Tryz.sizeOf338
  t232 := Tryz.underlying352
  a232 := Tryz.isAgg352
  z232 := Tryz.sizeOf352
  v232 := Tryz.zeroValue352
  t233 := Tryz.underlying353
  a233 := Tryz.isAgg353
  z233 := Tryz.sizeOf353
  v233 := Tryz.zeroValue353
  g17 := by kernel_rfl
  g18 := by kernel_rfl
  g19 := by kernel_rfl
  i0 := by kernel_rfl
  i2 := by kernel_rfl
  i3 := by kernel_rfl
  i4 := by kernel_rfl
  i5 := by kernel_rfl
  i9 := by kernel_rfl
  i20 := by kernel_rfl
  i37 := by kernel_rfl
  i46 := by kernel_rfl
  i51 := by kernel_rfl
  i53 := by kernel_rfl
  i171 := by kernel_rfl
  i173 := by kernel_rfl
  i212 := by kernel_rfl
  i232 := by kernel_rfl
  i233 := by kernel_rfl
  m17 := by kernel_rfl
  m18 := by kernel_rfl
  m19 := by kernel_rfl }
open Go.RowKit Go.Sort Go.Lib in
theorem Tryz.strconv_Itoa (n : Int) (h0 : -9223372036854775808 ≤ n) (h1 : n ≤ 9223372036854775807) (w : World) (htab : Lib.TabIs Tryz.prog w "internal/strconv.uint64pow10" .u64 Lib.pow10Tab) :
    Calls Tryz.prog 134 #[.int .i64 n] w fun e w' => e = .returned (.string ⟨(Lib.itoa n).toArray⟩) ∧ ∃ k os, w' = grow (w.drewN k) os := Any.strconv_Itoa Tryz.laysM171 n h0 h1 w htab
end

section
open Go.Shelf
def Tryz.lays103_ren : Go.Shelf.Ren := ⟨fun | 103 => 167 | 210 => 222 | 206 => 204 | n => n, fun | 9 => 9 | 4 => 4 | 24 => 214 | 3 => 3 | n => n, fun | n => n⟩
theorem Tryz.lays103 : Go.Proofs.Lays.n103 Tryz.prog Tryz.lays103_ren := {
  mixed := by kernel_rfl
  f103 := Go.fk Tryz.func167
  f206 := Go.fk Tryz.func204
  f210 := Go.fk Tryz.func222
  t3 := Tryz.underlying3
  a3 := Tryz.isAgg3
  z3 := Tryz.sizeOf3
  v3 := Tryz.zeroValue3
  t4 := Tryz.underlying4
  a4 := Tryz.isAgg4
  z4 := Tryz.sizeOf4
  v4 := Tryz.zeroValue4
  t9 := Tryz.underlying9
  a9 := Tryz.isAgg9
  z9 := Tryz.sizeOf9
  v9 := Tryz.zeroValue9
  t24 := Tryz.underlying214
  a24 := Tryz.isAgg214
  z24 := Tryz.sizeOf214
  v24 := Tryz.zeroValue214 }
open Go.RowKit in
theorem Tryz.strings_CutPrefix (s p : ByteArray) (w : World) :
    Calls Tryz.prog 167 #[.string s, .string p] w fun e w' => e = .returned (.tuple #[.string ⟨(Lib.trimPrefix s.data.toList p.data.toList).toArray⟩, .bool (Lib.hasPrefix s.data.toList p.data.toList)]) ∧ w' = w := Any.strings_CutPrefix Tryz.lays103 s p w
def Tryz.lays99_ren : Go.Shelf.Ren := ⟨fun | 99 => 149 | 206 => 204 | n => n, fun | 9 => 9 | 4 => 4 | 3 => 3 | n => n, fun | n => n⟩
theorem Tryz.lays99 : Go.Proofs.Lays.n99 Tryz.prog Tryz.lays99_ren := {
  mixed := by kernel_rfl
  f99 := Go.fk Tryz.func149
  f206 := Go.fk Tryz.func204
  t3 := Tryz.underlying3
  a3 := Tryz.isAgg3
  z3 := Tryz.sizeOf3
  v3 := Tryz.zeroValue3
  t4 := Tryz.underlying4
  a4 := Tryz.isAgg4
  z4 := Tryz.sizeOf4
  v4 := Tryz.zeroValue4
  t9 := Tryz.underlying9
  a9 := Tryz.isAgg9
  z9 := Tryz.sizeOf9
  v9 := Tryz.zeroValue9 }
open Go.RowKit Go.Lib in
theorem Tryz.strings_HasPrefix (s p : ByteArray) (w : World) :
    Calls Tryz.prog 149 #[.string s, .string p] w fun e w' => e = .returned (.bool (Lib.hasPrefix s.data.toList p.data.toList)) ∧ w' = w := Any.strings_HasPrefix Tryz.lays99 s p w
def Tryz.lays100_ren : Go.Shelf.Ren := ⟨fun | 100 => 135 | 207 => 197 | n => n, fun | 9 => 9 | 4 => 4 | 3 => 3 | n => n, fun | n => n⟩
theorem Tryz.lays100 : Go.Proofs.Lays.n100 Tryz.prog Tryz.lays100_ren := {
  mixed := by kernel_rfl
  f100 := Go.fk Tryz.func135
  f207 := Go.fk Tryz.func197
  t3 := Tryz.underlying3
  a3 := Tryz.isAgg3
  z3 := Tryz.sizeOf3
  v3 := Tryz.zeroValue3
  t4 := Tryz.underlying4
  a4 := Tryz.isAgg4
  z4 := Tryz.sizeOf4
  v4 := Tryz.zeroValue4
  t9 := Tryz.underlying9
  a9 := Tryz.isAgg9
  z9 := Tryz.sizeOf9
  v9 := Tryz.zeroValue9 }
open Go.RowKit Go.Lib in
theorem Tryz.strings_HasSuffix (s p : ByteArray) (w : World) (hs : s.size ≤ 9223372036854775807) :
    Calls Tryz.prog 135 #[.string s, .string p] w fun e w' => e = .returned (.bool (Lib.hasSuffix s.data.toList p.data.toList)) ∧ w' = w := Any.strings_HasSuffix Tryz.lays100 s p w hs
def Tryz.lays102_ren : Go.Shelf.Ren := ⟨fun | 102 => 137 | 209 => 200 | 207 => 197 | n => n, fun | 9 => 9 | 4 => 4 | 3 => 3 | n => n, fun | n => n⟩
theorem Tryz.lays102 : Go.Proofs.Lays.n102 Tryz.prog Tryz.lays102_ren := {
  mixed := by kernel_rfl
  f102 := Go.fk Tryz.func137
  f207 := Go.fk Tryz.func197
  f209 := Go.fk Tryz.func200
  t3 := Tryz.underlying3
  a3 := Tryz.isAgg3
  z3 := Tryz.sizeOf3
  v3 := Tryz.zeroValue3
  t4 := Tryz.underlying4
  a4 := Tryz.isAgg4
  z4 := Tryz.sizeOf4
  v4 := Tryz.zeroValue4
  t9 := Tryz.underlying9
  a9 := Tryz.isAgg9
  z9 := Tryz.sizeOf9
  v9 := Tryz.zeroValue9 }
open Go.RowKit Go.Lib in
theorem Tryz.strings_TrimSuffix (s p : ByteArray) (w : World) (hs : s.size ≤ 9223372036854775807) :
    Calls Tryz.prog 137 #[.string s, .string p] w fun e w' => e = .returned (.string ⟨(Lib.trimSuffix s.data.toList p.data.toList).toArray⟩) ∧ w' = w := Any.strings_TrimSuffix Tryz.lays102 s p w hs
end

section
open Go.Shelf
def Tryz.lays143_ren : Go.Shelf.Ren := ⟨fun | 143 => 31 | 219 => 75 | 217 => 123 | 225 => 124 | 224 => 125 | 267 => 126 | 266 => 176 | 314 => 177 | n => n, fun | 9 => 9 | 3 => 3 | 4 => 4 | 5 => 5 | 46 => 180 | 146 => 236 | 51 => 235 | n => n, fun | 1 => 1 | n => n⟩
theorem Tryz.lays143 : Go.Proofs.Lays.n143 Tryz.prog Tryz.lays143_ren := {
  mixed := by kernel_rfl
  f143 := Go.fk Tryz.func31
  f217 := Go.fk Tryz.func123
  f219 := Go.fk Tryz.func75
  f224 := Go.fk Tryz.func125
  f225 := Go.fk Tryz.func124
  f266 := Go.fk Tryz.func176
  f267 := Go.fk Tryz.func126
  f314 := Go.fk Tryz.func177
  t3 := Tryz.underlying3
  a3 := Tryz.isAgg3
  z3 := Tryz.sizeOf3
  v3 := Tryz.zeroValue3
  t4 := Tryz.underlying4
  a4 := Tryz.isAgg4
  z4 := Tryz.sizeOf4
  v4 := Tryz.zeroValue4
  t5 := Tryz.underlying5
  a5 := Tryz.isAgg5
  z5 := Tryz.sizeOf5
  v5 := Tryz.zeroValue5
  t9 := Tryz.underlying9
  a9 := Tryz.isAgg9
  z9 := Tryz.sizeOf9
  v9 := Tryz.zeroValue9
  t46 := Tryz.underlying180
  a46 := Tryz.isAgg180
  z46 := Tryz.sizeOf180
  v46 := Tryz.zeroValue180
  t51 := Tryz.underlying235
  a51 := Tryz.isAgg235
  z51 := Tryz.sizeOf235
  v51 := Tryz.zeroValue235
  t146 := Tryz.underlying236
  a146 := Tryz.isAgg236
  z146 := Tryz.sizeOf236
  v146 := Tryz.zeroValue236
  g1 := by kernel_rfl }
open Go.RowKit Go.Lib in
theorem Tryz.strings_Index_one (s : ByteArray) (c : UInt8) (w : World) :
    Calls Tryz.prog 31 #[.string s, .string ⟨#[c]⟩] w fun e w' => e = .returned (.int .i64 (Lib.indexByte s.data.toList c)) ∧ w' = w := Any.strings_Index_one Tryz.lays143 s c w
end

section
open Go.Shelf
def Tryz.lays119_ren : Go.Shelf.Ren := ⟨fun | 119 => 273 | n => n, fun | 21 => 21 | 4 => 4 | n => n, fun | n => n⟩
theorem Tryz.lays119 : Go.Proofs.Lays.n119 Tryz.prog Tryz.lays119_ren := {
  mixed := by kernel_rfl
  f119 := Go.fk Tryz.func273
  t4 := Tryz.underlying4
  a4 := Tryz.isAgg4
  z4 := Tryz.sizeOf4
  v4 := Tryz.zeroValue4
  t21 := Tryz.underlying21
  a21 := Tryz.isAgg21
  z21 := Tryz.sizeOf21
  v21 := Tryz.zeroValue21 }
theorem Tryz.utf8_ValidRune (r : Int) (w : World) :
    Calls Tryz.prog 273 #[.int .i32 r] w fun e w' => e = .returned (.bool (Lib.validRune r)) ∧ w' = w := Any.utf8_ValidRune Tryz.lays119 r w
def Tryz.lays219_ren : Go.Shelf.Ren := ⟨fun | 219 => 75 | 217 => 123 | 225 => 124 | 224 => 125 | 267 => 126 | 266 => 176 | 314 => 177 | n => n, fun | 9 => 9 | 3 => 3 | 4 => 4 | 5 => 5 | 46 => 180 | 146 => 236 | 51 => 235 | n => n, fun | 1 => 1 | n => n⟩
theorem Tryz.lays219 : Go.Proofs.Lays.n219 Tryz.prog Tryz.lays219_ren := {
  mixed := by kernel_rfl
  f217 := Go.fk Tryz.func123
  f219 := Go.fk Tryz.func75
  f224 := Go.fk Tryz.func125
  f225 := Go.fk Tryz.func124
  f266 := Go.fk Tryz.func176
  f267 := Go.fk Tryz.func126
  f314 := Go.fk Tryz.func177
  t3 := Tryz.underlying3
  a3 := Tryz.isAgg3
  z3 := Tryz.sizeOf3
  v3 := Tryz.zeroValue3
  t4 := Tryz.underlying4
  a4 := Tryz.isAgg4
  z4 := Tryz.sizeOf4
  v4 := Tryz.zeroValue4
  t5 := Tryz.underlying5
  a5 := Tryz.isAgg5
  z5 := Tryz.sizeOf5
  v5 := Tryz.zeroValue5
  t9 := Tryz.underlying9
  a9 := Tryz.isAgg9
  z9 := Tryz.sizeOf9
  v9 := Tryz.zeroValue9
  t46 := Tryz.underlying180
  a46 := Tryz.isAgg180
  z46 := Tryz.sizeOf180
  v46 := Tryz.zeroValue180
  t51 := Tryz.underlying235
  a51 := Tryz.isAgg235
  z51 := Tryz.sizeOf235
  v51 := Tryz.zeroValue235
  t146 := Tryz.underlying236
  a146 := Tryz.isAgg236
  z146 := Tryz.sizeOf236
  v146 := Tryz.zeroValue236
  g1 := by kernel_rfl }
open Go.RowKit Go.Lib in
theorem Tryz.stringslite_Index_one (s : ByteArray) (c : UInt8) (w : World) :
    Calls Tryz.prog 75 #[.string s, .string ⟨#[c]⟩] w fun e w' => e = .returned (.int .i64 (Lib.indexByte s.data.toList c)) ∧ w' = w := Any.stringslite_Index_one Tryz.lays219 s c w
def Tryz.lays152_ren : Go.Shelf.Ren := ⟨fun | 152 => 240 | 137 => 272 | 119 => 273 | 224 => 125 | 225 => 124 | 217 => 123 | 266 => 176 | n => n, fun | 9 => 9 | 21 => 21 | 3 => 3 | 4 => 4 | 5 => 5 | 0 => 0 | 46 => 180 | n => n, fun | n => n⟩
theorem Tryz.lays152 : Go.Proofs.Lays.n152 Tryz.prog Tryz.lays152_ren := {
  mixed := by kernel_rfl
  f119 := Go.fk Tryz.func273
  f137 := Go.fk Tryz.func272
  f152 := Go.fk Tryz.func240
  f217 := Go.fk Tryz.func123
  f224 := Go.fk Tryz.func125
  f225 := Go.fk Tryz.func124
  f266 := Go.fk Tryz.func176
  t0 := Tryz.underlying0
  a0 := Tryz.isAgg0
  z0 := Tryz.sizeOf0
  v0 := Tryz.zeroValue0
  t3 := Tryz.underlying3
  a3 := Tryz.isAgg3
  z3 := Tryz.sizeOf3
  v3 := Tryz.zeroValue3
  t4 := Tryz.underlying4
  a4 := Tryz.isAgg4
  z4 := Tryz.sizeOf4
  v4 := Tryz.zeroValue4
  t5 := Tryz.underlying5
  a5 := Tryz.isAgg5
  z5 := Tryz.sizeOf5
  v5 := Tryz.zeroValue5
  t9 := Tryz.underlying9
  a9 := Tryz.isAgg9
  z9 := Tryz.sizeOf9
  v9 := Tryz.zeroValue9
  t21 := Tryz.underlying21
  a21 := Tryz.isAgg21
  z21 := Tryz.sizeOf21
  v21 := Tryz.zeroValue21
  t46 := Tryz.underlying180
  a46 := Tryz.isAgg180
  z46 := Tryz.sizeOf180
  v46 := Tryz.zeroValue180 }
open Go.RowKit Go.Lib in
theorem Tryz.strings_IndexRune_ascii (s : ByteArray) (r : Int) (w : World) (h0 : 0 ≤ r) (h1 : r < 128) :
    Calls Tryz.prog 240 #[.string s, .int .i32 r] w fun e w' => e = .returned (.int .i64 (Lib.indexByte s.data.toList r.toNat.toUInt8)) ∧ w' = w := Any.strings_IndexRune_ascii Tryz.lays152 s r w h0 h1
def Tryz.lays153_ren : Go.Shelf.Ren := ⟨fun | 153 => 198 | 152 => 240 | 226 => 241 | 227 => 242 | 228 => 243 | 137 => 272 | 119 => 273 | 224 => 125 | 225 => 124 | 217 => 123 | 266 => 176 | n => n, fun | 9 => 9 | 3 => 3 | 4 => 4 | 5 => 5 | 21 => 21 | 117 => 298 | 116 => 297 | 0 => 0 | 46 => 180 | 124 => 327 | n => n, fun | n => n⟩
theorem Tryz.lays153 : Go.Proofs.Lays.n153 Tryz.prog Tryz.lays153_ren := {
  mixed := by kernel_rfl
  f119 := Go.fk Tryz.func273
  f137 := Go.fk Tryz.func272
  f152 := Go.fk Tryz.func240
  f153 := Go.fk Tryz.func198
  f217 := Go.fk Tryz.func123
  f224 := Go.fk Tryz.func125
  f225 := Go.fk Tryz.func124
  f226 := Go.fk Tryz.func241
  f227 := Go.fk Tryz.func242
  f228 := Go.fk Tryz.func243
  f266 := Go.fk Tryz.func176
  t0 := Tryz.underlying0
  a0 := Tryz.isAgg0
  z0 := Tryz.sizeOf0
  v0 := Tryz.zeroValue0
  t3 := Tryz.underlying3
  a3 := Tryz.isAgg3
  z3 := Tryz.sizeOf3
  v3 := Tryz.zeroValue3
  t4 := Tryz.underlying4
  a4 := Tryz.isAgg4
  z4 := Tryz.sizeOf4
  v4 := Tryz.zeroValue4
  t5 := Tryz.underlying5
  a5 := Tryz.isAgg5
  z5 := Tryz.sizeOf5
  v5 := Tryz.zeroValue5
  t9 := Tryz.underlying9
  a9 := Tryz.isAgg9
  z9 := Tryz.sizeOf9
  v9 := Tryz.zeroValue9
  t21 := Tryz.underlying21
  a21 := Tryz.isAgg21
  z21 := Tryz.sizeOf21
  v21 := Tryz.zeroValue21
  t46 := Tryz.underlying180
  a46 := Tryz.isAgg180
  z46 := Tryz.sizeOf180
  v46 := Tryz.zeroValue180
  t116 := Tryz.underlying297
  a116 := Tryz.isAgg297
  z116 := Tryz.sizeOf297
  t117 := Tryz.underlying298
  a117 := Tryz.isAgg298
  z117 := Tryz.sizeOf298
  v117 := Tryz.zeroValue298
  t124 := Tryz.underlying327
  a124 := Tryz.isAgg327
  z124 := Tryz.sizeOf327
  v124 := Tryz.zeroValue327 }
open Go.RowKit Go.Lib in
theorem Tryz.strings_IndexAny_long (hv116 : ∀ w, (zeroValue 297).run Tryz.prog w = .ok (.agg (Array.replicate 256 (.bool false))) w) (s chars : ByteArray) (w : World) (h2 : 2 ≤ chars.size) (h8 : 8 < s.size) (hs : s.size < 4294967281) (hcs : chars.size < 4294967281) (hascii : ∀ (j : Nat) b, chars.data.toList[j]? = some b → b.toNat < 128) :
    Calls Tryz.prog 198 #[.string s, .string chars] w fun e w' => e = .returned (.int .i64 (Lib.indexAny s.data.toList chars.data.toList)) ∧ w' = ((w.alloc (.cells (Lib.setCells chars.data.toList) 297)).alloc (.cells (Lib.setCells chars.data.toList) 297)) := Any.strings_IndexAny_long Tryz.lays153 hv116 (by kernel_rfl) s chars w h2 h8 hs hcs hascii
end

section
open Go.Shelf
def Tryz.lays145_ren : Go.Shelf.Ren := ⟨fun | 145 => 244 | 220 => 274 | 219 => 75 | 217 => 123 | 225 => 124 | 224 => 125 | 267 => 126 | 266 => 176 | 314 => 177 | n => n, fun | 9 => 9 | 4 => 4 | 59 => 233 | 3 => 3 | 5 => 5 | 46 => 180 | 146 => 236 | 51 => 235 | n => n, fun | 1 => 1 | n => n⟩
theorem Tryz.lays145 : Go.Proofs.Lays.n145 Tryz.prog Tryz.lays145_ren := {
  mixed := by kernel_rfl
  f145 := Go.fk Tryz.func244
  f217 := Go.fk Tryz.func123
  f219 := Go.fk Tryz.func75
  f220 := Go.fk Tryz.func274
  f224 := Go.fk Tryz.func125
  f225 := Go.fk Tryz.func124
  f266 := Go.fk Tryz.func176
  f267 := Go.fk Tryz.func126
  f314 := Go.fk Tryz.func177
  t3 := Tryz.underlying3
  a3 := Tryz.isAgg3
  z3 := Tryz.sizeOf3
  v3 := Tryz.zeroValue3
  t4 := Tryz.underlying4
  a4 := Tryz.isAgg4
  z4 := Tryz.sizeOf4
  v4 := Tryz.zeroValue4
  t5 := Tryz.underlying5
  a5 := Tryz.isAgg5
  z5 := Tryz.sizeOf5
  v5 := Tryz.zeroValue5
  t9 := Tryz.underlying9
  a9 := Tryz.isAgg9
  z9 := Tryz.sizeOf9
  v9 := Tryz.zeroValue9
  t46 := Tryz.underlying180
  a46 := Tryz.isAgg180
  z46 := Tryz.sizeOf180
  v46 := Tryz.zeroValue180
  t51 := Tryz.underlying235
  a51 := Tryz.isAgg235
  z51 := Tryz.sizeOf235
  v51 := Tryz.zeroValue235
  t59 := Tryz.underlying233
  a59 := Tryz.isAgg233
  z59 := Tryz.sizeOf233
  v59 := Tryz.zeroValue233
  t146 := Tryz.underlying236
  a146 := Tryz.isAgg236
  z146 := Tryz.sizeOf236
  v146 := Tryz.zeroValue236
  g1 := by kernel_rfl }
open Go.RowKit Go.Lib in
theorem Tryz.strings_Cut (s sep : ByteArray) (m : Int) (w : World) (hs : s.size < 4294967281) (hm : w.cell? ⟨1, 0, none⟩ = some (.int .i64 m)) :
    Calls Tryz.prog 244 #[.string s, .string sep] w fun e w' => e = .returned (.tuple #[.string ⟨(Lib.cut s.data.toList sep.data.toList).1.toArray⟩, .string ⟨(Lib.cut s.data.toList sep.data.toList).2.1.toArray⟩, .bool (Lib.cut s.data.toList sep.data.toList).2.2]) ∧ ∃ n, w' = w.drewN n := Any.strings_Cut Tryz.lays145 s sep m w hs hm
end

end Go.Proofs

namespace Go.Proofs.YtgiojkhmkeocfaaGreatDoor.Ln

section
open Go
def splitL:List UInt8→List (List UInt8)
 | []=>[]
 | c::t=>if c=10 then [c]::splitL t else match splitL t with
  | []=>[[c]]
  | x::r=>(c::x)::r
theorem Zsd (a b:List UInt8) (h:∀ c∈a,c≠10):splitL (a++10::b)=(a++[10])::splitL b:=by
 induction a with
 | nil=>simp[splitL]
 | cons c a ih =>
  have hc:c≠10:=h c (by simp)
  have:=ih fun x hx=>h x (by simp[hx])
  simp only[List.cons_append,splitL,hc,if_false,this]
theorem Zsf (a:List UInt8) (h:∀ c∈a,c≠10) (h0:a≠[]):splitL a=[a]:=by
 induction a with
 | nil=>exact absurd rfl h0
 | cons c a ih =>
  have hc:c≠10:=h c (by simp)
  cases a with
  | nil=>simp[splitL,hc]
  | cons d a =>
   have:=ih (fun x hx=>h x (by simp[hx])) (by simp)
   simp only[splitL,hc,if_false] at this ⊢
   rw[this]
theorem split_join (l:List UInt8):(splitL l).flatten=l:=by
 induction l with
 | nil=>rfl
 | cons c t ih =>
  unfold splitL
  by_cases hc:c=10
  ·simp[hc,ih]
  ·simp only[hc,if_false]
   cases hs:splitL t with
   | nil=>rw[hs] at ih;simp at ih;simp[← ih]
   | cons x r=>rw[hs] at ih;simp at ih;simp[ih]
theorem split_len (l:List UInt8):(splitL l).length≤l.length:=by
 induction l with
 | nil=>simp[splitL]
 | cons c t ih =>
  unfold splitL
  by_cases hc:c=10
  ·simp[hc];omega
  ·simp only[hc,if_false]
   cases hs:splitL t with
   | nil=>simp
   | cons x r=>rw[hs] at ih;simp at ih ⊢;omega
def lineB:List UInt8→Bool→Bool
 | [],_=>false
 | [c],last=>last || c == 10
 | c::d::t,last=>c != 10 && lineB (d::t) last
def checkB:List (List UInt8)→Bool
 | []=>true
 | s::t=>lineB s t.isEmpty && checkB t
theorem Zke (c:UInt8) (x:List UInt8) (last:Bool) (hx:x≠[]):lineB (c::x) last=(c != 10 && lineB x last):=by
 cases x with
 | nil=>exact absurd rfl hx
 | cons d t=>rfl
theorem Zki {x:List UInt8} {last:Bool} (h:lineB x last=true):x≠[]:=by rintro rfl;cases h
theorem Zkh {x:List UInt8} (h:lineB x false=true):∃ a,x=a++[10]∧∀ c∈a,c≠10:=by
 induction x with
 | nil=>cases h
 | cons c t ih =>
  cases t with
  | nil=>exact⟨[],by simpa [lineB] using h,by simp⟩
  | cons d t =>
   simp only[lineB,Bool.and_eq_true,bne_iff_ne] at h
   obtain⟨a,ha,hn⟩:=ih h.2
   refine⟨c::a,by rw[ha];rfl,?_⟩
   intro x hx
   simp only[List.mem_cons] at hx
   rcases hx with rfl | hx
   ·exact h.1
   ·exact hn x hx
theorem Zkj {x:List UInt8} (h:lineB x true=true):lineB x false=true∨∀ c∈x,c≠10:=by
 induction x with
 | nil=>cases h
 | cons c t ih =>
  cases t with
  | nil =>
   by_cases hc:c=10
   ·exact .inl (by simp[lineB,hc])
   ·exact .inr (by simpa using hc)
  | cons d t =>
   simp only[lineB,Bool.and_eq_true,bne_iff_ne] at h
   rcases ih h.2 with h2 | h2
   ·exact .inl (by simp only[lineB,Bool.and_eq_true,bne_iff_ne];exact⟨h.1,h2⟩)
   ·refine .inr ?_
    intro x hx
    simp only[List.mem_cons] at hx
    rcases hx with rfl | hx
    ·exact h.1
    ·exact h2 x (by simpa using hx)
theorem Zsi (l:List UInt8):checkB (splitL l)=true:=by
 induction l with
 | nil=>rfl
 | cons c t ih =>
  unfold splitL
  by_cases hc:c=10
  ·simp[hc,checkB,lineB,ih]
  ·simp only[hc,if_false]
   cases hs:splitL t with
   | nil=>simp[checkB,lineB]
   | cons x r =>
    rw[hs] at ih
    simp only[checkB,Bool.and_eq_true] at ih ⊢
    rw[Zke c x _ (Zki ih.1)]
    simp[hc,ih.1,ih.2]
theorem ZpN (ws:List (List UInt8)) (h:checkB ws=true):splitL ws.flatten=ws:=by
 induction ws with
 | nil=>rfl
 | cons x r ih =>
  simp only[checkB,Bool.and_eq_true] at h
  have hr:=ih h.2
  cases r with
  | nil =>
   simp only[List.flatten_cons,List.flatten_nil,List.append_nil]
   rcases Zkj (by simpa using h.1) with h1 | h1
   ·obtain⟨a,rfl,hn⟩:=Zkh h1
    rw[Zsd a [] hn];rfl
   ·exact Zsf x h1 (Zki h.1)
  | cons y r =>
   obtain⟨a,rfl,hn⟩:=Zkh (by simpa using h.1)
   rw[List.flatten_cons,List.append_assoc]
   rw[show a++([10]++(y::r).flatten)=a++10::(y::r).flatten from rfl,Zsd a _ hn,hr]
theorem ZiM {l:List UInt8} {c:UInt8} (h:Lib.indexByte l c<0):Lib.indexByte l c=-1∧∀ x∈l,x≠c:=by
 induction l with
 | nil=>exact⟨rfl,by simp⟩
 | cons b l ih =>
  unfold Lib.indexByte at h ⊢
  by_cases hb:(b == c)=true
  ·rw[if_pos hb] at h;simp at h
  ·rw[if_neg hb] at h ⊢
   by_cases h1:(Lib.indexByte l c == -1)=true
   ·rw[if_pos h1]
    have h2:=ih (by simp at h1;omega)
    refine⟨rfl,?_⟩
    intro x hx
    simp only[List.mem_cons] at hx
    rcases hx with rfl | hx
    ·simpa using hb
    ·exact h2.2 x hx
   ·rw[if_neg h1] at h
    have:=Lib.indexByte_ge l c
    simp at h1
    omega
theorem ZiN {l:List UInt8} {c:UInt8} (h:0≤Lib.indexByte l c):∃ a b,l=a++c::b∧(∀ x∈a,x≠c)∧Lib.indexByte l c=a.length:=by
 induction l with
 | nil=>simp[Lib.indexByte] at h
 | cons d l ih =>
  unfold Lib.indexByte at h ⊢
  by_cases hb:(d == c)=true
  ·have:d=c:=by simpa using hb
   subst this
   rw[if_pos hb]
   exact⟨[],l,rfl,by simp,rfl⟩
  ·rw[if_neg hb] at h ⊢
   by_cases h1:(Lib.indexByte l c == -1)=true
   ·rw[if_pos h1] at h;simp at h
   ·rw[if_neg h1] at h ⊢
    have:=Lib.indexByte_ge l c
    obtain⟨a,b,e1,e2,e3⟩:=ih (by simp at h1;omega)
    refine⟨d::a,b,by rw[e1];rfl,?_,by rw[e3];simp⟩
    intro x hx
    simp only[List.mem_cons] at hx
    rcases hx with rfl | hx
    ·simpa using hb
    ·exact e2 x hx
theorem Zkd {x:List UInt8} (h:∀ c∈x,c≠10) (last:Bool):lineB x last=(last && !x.isEmpty):=by
 induction x with
 | nil=>simp[lineB]
 | cons c t ih =>
  cases t with
  | nil =>
   have:c≠10:=h c (by simp)
   simp[lineB,this]
  | cons d t =>
   rw[lineB,ih fun x hx=>h x (by simp[hx])]
   have:c≠10:=h c (by simp)
   simp[this]
theorem Zkf {a b:List UInt8} (h:∀ c∈a,c≠10) (last:Bool):lineB (a++10::b) last=b.isEmpty:=by
 induction a with
 | nil =>
  cases b with
  | nil=>simp[lineB]
  | cons d b=>simp[lineB]
 | cons c a ih =>
  have hc:c≠10:=h c (by simp)
  rw[List.cons_append,Zke _ _ _ (by simp),ih fun x hx=>h x (by simp[hx])]
  simp[hc]
def feedB (s:List UInt8):Bool:=s.getLast? == some 10
def bareL (s:List UInt8):List UInt8:=if feedB s then s.dropLast else s
end

end Go.Proofs.YtgiojkhmkeocfaaGreatDoor.Ln

namespace Go.Proofs.YtgiojkhmkeocfaaGreatDoor

section
open Ln
theorem Zkg (s:List UInt8) (last:Bool):lineB s last=(linB s && (last || fdB s)):=by
 induction s with
 | nil=>rfl
 | cons c t ih =>
  cases t with
  | nil =>
   simp[lineB,linB,fdB]
  | cons d t =>
   have e1:linB (c::d::t)=(c != 10 && linB (d::t)):=by
    simp[linB,List.dropLast]
   have e2:fdB (c::d::t)=fdB (d::t):=by simp[fdB]
   rw[e1,e2,Bool.and_assoc,← ih]
   rfl
def allB (l:List Mk):Bool:=l.all fun m=>okS m.sg
theorem Zox {sg no:Int} (h:sg=45∧no=43∨sg=43∧no=45) {l:List Mk} (hl:allB l=true):(pkL no l).isEmpty=lstB sg l:=by
 induction l with
 | nil=>rfl
 | cons m l ih =>
  simp only[allB,List.all_cons,Bool.and_eq_true] at hl
  have ih:=ih hl.2
  have hm:=hl.1
  simp only[okS,Bool.or_eq_true,decide_eq_true_eq] at hm
  simp only[pkL,lstB,List.all_cons]
  have key:(m.sg≠no∧okS m.sg=true)↔¬ (m.sg≠sg∧m.sg≠32):=by
   constructor
   ·rintro⟨k1,_⟩ k2
    rcases h with ⟨rfl,rfl⟩ | ⟨rfl,rfl⟩<;>omega
   ·intro k
    refine⟨fun k1=>?_,hl.1⟩
    rcases h with ⟨rfl,rfl⟩ | ⟨rfl,rfl⟩<;>omega
  by_cases q:m.sg≠sg∧m.sg≠32
  ·rw[if_neg (fun k=>key.1 k q),ih,decide_eq_true q.1,decide_eq_true q.2]
   rfl
  ·rw[if_pos (key.2 q)]
   have:(decide (m.sg≠sg) && decide (m.sg≠32))=false:=by
    rw[← Bool.not_eq_true,Bool.and_eq_true,decide_eq_true_eq,decide_eq_true_eq]
    exact q
   rw[this]
   rfl
theorem Zgx (l:List Mk):fldB l=(allB l && checkB (pkL 43 l) && checkB (pkL 45 l)):=by
 induction l with
 | nil=>rfl
 | cons m l ih =>
  have e0:allB (m::l)=(okS m.sg && allB l):=rfl
  rw[e0]
  cases ha:allB l with
  | false =>
   rw[ha] at ih
   have ih:fldB l=false:=by rw[ih];rfl
   simp[fldB,ih]
  | true =>
   rw[ha] at ih
   have p1:=Zox (.inl ⟨rfl,rfl⟩) ha
   have p2:=Zox (.inr ⟨rfl,rfl⟩) ha
   obtain⟨sg,tx⟩:=m
   simp only[fldB]
   rw[ih]
   by_cases h1:sg=32
   ·subst h1
    have q1:pkL 43 (⟨32,tx⟩::l)=tx::pkL 43 l:=by rw[pkL,if_pos (by dsimp only;decide)]
    have q2:pkL 45 (⟨32,tx⟩::l)=tx::pkL 45 l:=by rw[pkL,if_pos (by dsimp only;decide)]
    rw[q1,q2]
    simp only[checkB,Zkg,p1,p2,okS]
    cases linB tx<;>cases fdB tx<;>cases lstB 45 l<;>cases lstB 43 l<;>cases checkB (pkL 43 l)<;>cases checkB (pkL 45 l)<;>rfl
   ·by_cases h2:sg=45
    ·subst h2
     have q1:pkL 43 (⟨45,tx⟩::l)=tx::pkL 43 l:=by rw[pkL,if_pos (by dsimp only;decide)]
     have q2:pkL 45 (⟨45,tx⟩::l)=pkL 45 l:=by rw[pkL,if_neg (by dsimp only;decide)]
     rw[q1,q2]
     simp only[checkB,Zkg,p1,okS]
     cases linB tx<;>cases fdB tx<;>cases lstB 45 l<;>cases lstB 43 l<;>cases checkB (pkL 43 l)<;>cases checkB (pkL 45 l)<;>rfl
    ·by_cases h3:sg=43
     ·subst h3
      have q1:pkL 43 (⟨43,tx⟩::l)=pkL 43 l:=by rw[pkL,if_neg (by dsimp only;decide)]
      have q2:pkL 45 (⟨43,tx⟩::l)=tx::pkL 45 l:=by rw[pkL,if_pos (by dsimp only;decide)]
      rw[q1,q2]
      simp only[checkB,Zkg,p2,okS]
      cases linB tx<;>cases fdB tx<;>cases lstB 45 l<;>cases lstB 43 l<;>cases checkB (pkL 43 l)<;>cases checkB (pkL 45 l)<;>rfl
     ·have q:okS sg=false:=by simp[okS,h1,h2,h3]
      simp[q]
end

end Go.Proofs.YtgiojkhmkeocfaaGreatDoor

namespace Go.Proofs.YtgiojkhmkeocfaaGreatDoor.Q

section
def plainI (n:Int):Bool:=decide (32≤n∧n≤126∧n≠34∧n≠92)
theorem ZoC {n:Int} (h:¬ (32≤n∧n≤126∧n≠34∧n≠92)):plainI n=false:=decide_eq_false h
theorem ZoD {n:Int} (h:plainI n=true):32≤n∧n≤126∧n≠34∧n≠92:=of_decide_eq_true h
def hexl:List UInt8:=[48,49,50,51,52,53,54,55,56,57,97,98,99,100,101,102]
def hexc (n:Nat):UInt8:=hexl.getD n 0
theorem ZhK (n:Nat) (h:n<(⟨#[48,49,50,51,52,53,54,55,56,57,97,98,99,100,101,102]⟩:ByteArray).size) :
  (⟨#[48,49,50,51,52,53,54,55,56,57,97,98,99,100,101,102]⟩:ByteArray)[n]=hexc n:=by
 have h':n<16:=h
 have key:∀ i:Fin 16,(#[48,49,50,51,52,53,54,55,56,57,97,98,99,100,101,102]:Array UInt8)[i.val]'(i.isLt)=hexc i.val:=by decide
 exact key ⟨n,h'⟩
theorem ZvB (n:Nat) (h:n<([48,49,50,51,52,53,54,55,56,57,97,98,99,100,101,102]:List UInt8).length) :
  ([48,49,50,51,52,53,54,55,56,57,97,98,99,100,101,102]:List UInt8)[n]=hexc n:=by
 have h':n<16:=h
 have key:∀ i:Fin 16,([48,49,50,51,52,53,54,55,56,57,97,98,99,100,101,102]:List UInt8)[i.val]'(i.isLt)=hexc i.val:=by decide
 exact key ⟨n,h'⟩
def q1 (c:UInt8):List UInt8:=if plainI c.toNat then [c] else [92,hexc (c.toNat / 16),hexc (c.toNat % 16)]
def qbody (l:List UInt8):List UInt8:=l.flatMap q1
def quote (l:List UInt8):List UInt8:=[34]++qbody l++[34]
def digitI (n:Int):Int:=if 48≤n∧n≤57 then n-48 else if 97≤n∧n≤102 then n-87 else -1
theorem Zfg (n:Int):-1≤digitI n∧digitI n≤15:=by unfold digitI;split<;>(try split)<;>omega
theorem ZhM (k:Nat) (h:k<16):(hexc k).toNat=if k<10 then 48+k else 87+k:=by
 have key:∀ i:Fin 16,(hexc i.val).toNat=if i.val<10 then 48+i.val else 87+i.val:=by decide
 exact key ⟨k,h⟩
theorem Zfh (k:Nat) (h:k<16):digitI (hexc k).toNat=k:=by
 rw[ZhM k h];unfold digitI;split<;>split<;>omega
def pairI (a b:UInt8):Int:=16 * digitI a.toNat+digitI b.toNat
def pairOk (a b:UInt8):Bool:=decide (0≤digitI a.toNat) && decide (0≤digitI b.toNat) && !(plainI (pairI a b))
def pv (a b:UInt8):Int:=if pairOk a b then pairI a b else 0
def pn (a b:UInt8):Int:=if pairOk a b then 3 else 0
theorem ZnT {a b:UInt8} (h:digitI a.toNat<0):pairOk a b=false:=by simp[pairOk];omega
theorem ZnS {a b:UInt8} (h:digitI b.toNat<0):pairOk a b=false:=by simp[pairOk];omega
theorem ZnU {a b:UInt8} (h:¬ digitI a.toNat<0) (h':¬ digitI b.toNat<0):pairOk a b=!plainI (pairI a b):=by simp[pairOk];omega
theorem ZoZ {a b:UInt8} (h:pairOk a b=false):0=pv a b:=by simp[pv,h]
theorem ZoI {a b:UInt8} (h:pairOk a b=false):0=pn a b:=by simp[pn,h]
theorem Zpa {a b:UInt8} (h:pairOk a b=true):pairI a b=pv a b:=by simp[pv,h]
theorem ZoJ {a b:UInt8} (h:pairOk a b=true):3=pn a b:=by simp[pn,h]
def body:List UInt8→Option (List UInt8 × List UInt8)
 | []=>none
 | c::t =>
  if c.toNat=34 then some ([],t)
  else if plainI c.toNat then (body t).map fun p=>(c::p.1,p.2)
  else if c.toNat=92 then
   match t with
   | a::b::t'=>if pairOk a b then (body t').map fun p=>(UInt8.ofNat (pairI a b).toNat::p.1,p.2) else none
   | _=>none
  else none
def unquote:List UInt8→Option (List UInt8 × List UInt8)
 | []=>none
 | c::t=>if c.toNat=34 then body t else none
theorem Zbt {c:UInt8} (t:List UInt8) (h:c.toNat=34):body (c::t)=some ([],t):=by
 rw[body.eq_def];simp only[h,if_true]
theorem ZbC {c:UInt8} (t:List UInt8) (h:plainI c.toNat=true):body (c::t)=(body t).map fun p=>(c::p.1,p.2):=by
 have h4:=ZoD h
 have h5:¬ c.toNat=34:=by omega
 rw[body.eq_def];simp only[h,h5,if_false,if_true]
theorem ZbA {c a b:UInt8} (t:List UInt8) (h:c.toNat=92) (hk:pairOk a b=true):body (c::a::b::t)=(body t).map fun p=>(UInt8.ofNat (pairI a b).toNat::p.1,p.2):=by
 have h4:plainI c.toNat=false:=ZoC (by omega)
 have h5:¬ c.toNat=34:=by omega
 rw[body.eq_def];simp only[h4,h5,if_false,Bool.false_eq_true,hk,if_true]
 rw[if_pos h]
theorem ZbB {c a b:UInt8} (t:List UInt8) (h:c.toNat=92) (hk:pairOk a b=false):body (c::a::b::t)=none:=by
 have h4:plainI c.toNat=false:=ZoC (by omega)
 have h5:¬ c.toNat=34:=by omega
 rw[body.eq_def];simp only[h4,h5,if_false,Bool.false_eq_true,hk]
 rw[if_pos h]
theorem Zby {c:UInt8} (t:List UInt8) (h0:c.toNat≠34) (h:plainI c.toNat=false) (h2:¬ (c.toNat=92∧2≤t.length)):body (c::t)=none:=by
 rw[body.eq_def]
 simp only[h0,h,if_false,Bool.false_eq_true]
 by_cases h3:c.toNat=92
 ·rw[if_pos h3]
  match t with
  | []=>rfl
  | [_]=>rfl
  | a::b::t'=>exact absurd ⟨h3,by simp⟩ h2
 ·rw[if_neg h3]
def uqa (l:List UInt8):List UInt8:=((unquote l).map (·.1)).getD []
def uqb (l:List UInt8):List UInt8:=((unquote l).map (·.2)).getD []
def uqe (l:List UInt8):Int:=if (unquote l).isSome then 0 else 3
theorem uq_none {l:List UInt8} (h:unquote l=none):uqa l=[]∧uqb l=[]∧uqe l=3:=by simp[uqa,uqb,uqe,h]
theorem uq_some {l a b:List UInt8} (h:unquote l=some (a,b)):uqa l=a∧uqb l=b∧uqe l=0:=by simp[uqa,uqb,uqe,h]
theorem ZnR {a b:UInt8} (hk:pairOk a b=true):0≤pairI a b∧pairI a b≤255:=by
 have h1:=Zfg a.toNat
 have h2:=Zfg b.toNat
 simp[pairOk] at hk
 unfold pairI;omega
theorem quote_length (l:List UInt8):(quote l).length≤3 * l.length+2:=by
 have h:∀ l:List UInt8,(qbody l).length≤3 * l.length:=by
  intro l
  induction l with
  | nil=>simp[qbody]
  | cons c t ih =>
   have:(q1 c).length≤3:=by unfold q1;split<;>simp
   simp only[qbody,List.flatMap_cons,List.length_append,List.length_cons] at ih ⊢
   omega
 have:=h l
 simp[quote];omega
end

end Go.Proofs.YtgiojkhmkeocfaaGreatDoor.Q

namespace Go.Proofs.YtgiojkhmkeocfaaGreatDoor.Pn

section
def digB (c:UInt8):Bool:=decide (48≤c.toNat∧c.toNat≤57)
theorem Zfe {c:UInt8} (h:48≤c.toNat∧c.toNat≤57):digB c=true:=decide_eq_true h
theorem digB_out {c:UInt8} (h:digB c=true):48≤c.toNat∧c.toNat≤57:=of_decide_eq_true h
def isNum:List UInt8→Bool
 | []=>false
 | c::t=>!(decide (c.toNat=48) && !t.isEmpty) && (c::t).all digB
def sat:Int→List UInt8→Int
 | n,[]=>n
 | n,c::t=>sat (min (n * 10+((c.toNat:Int)-48)) 2147483648) t
def parseV (l:List UInt8):Int:=if isNum l=true∧sat 0 l≤2147483647 then sat 0 l else 0
def parseE (l:List UInt8):Int:=if isNum l=true then if sat 0 l≤2147483647 then 0 else 2 else 3
theorem ZqV:∀ (l:List UInt8),l.all digB=true→sat 2147483648 l=2147483648
 | [],_=>rfl
 | c::t,h=>by
  simp only[List.all_cons,Bool.and_eq_true] at h
  have h1:=digB_out h.1
  rw[sat]
  have e:min ((2147483648:Int) * 10+((c.toNat:Int)-48)) 2147483648=2147483648:=by omega
  rw[e]
  exact ZqV t h.2
theorem parse_no {l:List UInt8} (h:isNum l=false):0=parseV l∧3=parseE l:=by simp[parseV,parseE,h]
theorem ZnY {l:List UInt8} (h:isNum l=true) (h2:sat 0 l=2147483648):0=parseV l∧2=parseE l:=by simp[parseV,parseE,h,h2]
theorem Zoa {l:List UInt8} (h:isNum l=true) {n:Int} (h2:sat 0 l=n) (h3:n≤2147483647):n=parseV l∧0=parseE l:=by simp[parseV,parseE,h,h2,h3]
theorem isNum_all {l:List UInt8} (h:isNum l=true):l.all digB=true:=by
 cases l with
 | nil=>simp[isNum] at h
 | cons c t=>rw[isNum,Bool.and_eq_true] at h;exact h.2
theorem ZaS {l:List UInt8} (h:l.all digB=true) (k:Nat) (hk:k<l.length):48≤l[k].toNat∧l[k].toNat≤57 :=
 digB_out (List.all_eq_true.1 h _ (List.getElem_mem hk))
theorem ZaU {l:List UInt8} (h:l.all digB=true) (k:Nat):(l.drop k).all digB=true :=
 List.all_eq_true.2 fun x hx=>List.all_eq_true.1 h x (List.mem_of_mem_drop hx)
theorem isNum_bad {l:List UInt8} (k:Nat) (hk:k<l.length) (h:¬ (48≤l[k].toNat∧l[k].toNat≤57)):isNum l=false:=by
 cases hn:isNum l
 ·rfl
 ·exact absurd (ZaS (isNum_all hn) k hk) h
theorem ZiX {c d:UInt8} {t:List UInt8} (h:c.toNat=48):isNum (c::d::t)=false:=by simp[isNum,h]
theorem ZiW {c:UInt8} {t:List UInt8} (h:¬ (c.toNat=48∧t≠[])) (ha:∀ k (hk:k<(c::t).length),48≤(c::t)[k].toNat∧(c::t)[k].toNat≤57):isNum (c::t)=true:=by
 rw[isNum,Bool.and_eq_true]
 refine⟨?_,?_⟩
 ·cases t with
  | nil=>simp
  | cons d t=>simp at h ⊢;exact h
 ·refine List.all_eq_true.2 fun x hx=>?_
  obtain⟨k,hk,rfl⟩:=List.mem_iff_getElem.1 hx
  exact Zfe (ha k hk)
theorem ZqU {l:List UInt8} {k:Nat} (hk:k<l.length) (n:Int):sat n (l.drop k)=sat (min (n * 10+((l[k].toNat:Int)-48)) 2147483648) (l.drop (k+1)):=by
 rw[List.drop_eq_getElem_cons hk,sat]
end

end Go.Proofs.YtgiojkhmkeocfaaGreatDoor.Pn

namespace Go.Proofs.YtgiojkhmkeocfaaGreatDoor

section
open Q Pn
theorem Znj (c:UInt8):UInt8.ofNat (pairI (hexc (c.toNat / 16)) (hexc (c.toNat % 16))).toNat=c:=by
 have hc:=c.toNat_lt
 have e:pairI (hexc (c.toNat / 16)) (hexc (c.toNat % 16))=(c.toNat:Int):=by
  unfold pairI
  rw[Zfh _ (by omega),Zfh _ (by omega)]
  omega
 rw[e]
 simp
theorem ZnV {c:UInt8} (h:plainI c.toNat=false):pairOk (hexc (c.toNat / 16)) (hexc (c.toNat % 16))=true:=by
 have hc:=c.toNat_lt
 have e:pairI (hexc (c.toNat / 16)) (hexc (c.toNat % 16))=(c.toNat:Int):=by
  unfold pairI
  rw[Zfh _ (by omega),Zfh _ (by omega)]
  omega
 unfold pairOk
 rw[e,h,Zfh _ (by omega),Zfh _ (by omega)]
 simp
 omega
theorem Zbr (r:List UInt8):∀ l:List UInt8,body (qbody l++34::r)=some (l,r)
 | []=>by simp only[qbody,List.flatMap_nil,List.nil_append];exact Zbt r rfl
 | c::t=>by
  have ih:=Zbr r t
  have e:qbody (c::t)=q1 c++qbody t:=by simp[qbody]
  rw[e]
  cases h:plainI c.toNat
  ·have e2:q1 c=[92,hexc (c.toNat / 16),hexc (c.toNat % 16)]:=by simp[q1,h]
   rw[e2]
   show body (92::hexc (c.toNat / 16)::hexc (c.toNat % 16)::(qbody t++34::r))=_
   rw[ZbA _ rfl (ZnV h),ih,Znj]
   rfl
  ·have e2:q1 c=[c]:=by simp[q1,h]
   rw[e2]
   show body (c::(qbody t++34::r))=_
   rw[ZbC _ h,ih]
   rfl
theorem ZtV (l r:List UInt8):unquote (quote l++r)=some (l,r):=by
 have e:quote l++r=34::(qbody l++34::r):=by simp[quote]
 rw[e,unquote,if_pos (by decide)]
 exact Zbr r l
theorem ZhL (k:Nat) (h:k<16):32≤(hexc k).toNat∧(hexc k).toNat≤126:=by
 rw[ZhM k h];split<;>omega
theorem Zpf (l:List UInt8):∀ c∈quote l,32≤c.toNat∧c.toNat≤126:=by
 intro c hc
 simp only[quote,List.mem_append,List.mem_cons,List.not_mem_nil,or_false] at hc
 rcases hc with (rfl | hc) | rfl
 ·decide
 ·simp only[qbody,List.mem_flatMap] at hc
  obtain⟨x,_,hx⟩:=hc
  have hxl:=x.toNat_lt
  unfold q1 at hx
  split at hx
  ·rename_i hp
   have:=ZoD hp
   simp at hx
   subst hx
   omega
  ·simp at hx
   rcases hx with rfl | rfl | rfl
   ·decide
   ·exact ZhL _ (by omega)
   ·exact ZhL _ (by omega)
 ·decide
theorem ZeX (m:Nat):(Lib.decDigits m).all digB=true:=by
 induction m using Nat.strongRecOn with
 | _ m ih =>
  rw[Lib.decDigits]
  split
  ·simp[digB];omega
  ·rw[List.all_append,ih (m / 10) (by omega)]
   simp[digB];omega
theorem Zfa (m:Nat):Lib.decDigits m≠[]:=by
 rw[Lib.decDigits];split<;>simp
theorem ZeY (m:Nat) (h:0<m):∃ c t,Lib.decDigits m=c::t∧c.toNat≠48:=by
 induction m using Nat.strongRecOn with
 | _ m ih =>
  rw[Lib.decDigits]
  split
  ·refine⟨_,[],rfl,?_⟩
   simp;omega
  ·obtain⟨c,t,e,hc⟩:=ih (m / 10) (by omega) (by omega)
   exact⟨c,t++[UInt8.ofNat (48+m % 10)],by rw[e];rfl,hc⟩
theorem ZeZ (m:Nat):isNum (Lib.decDigits m)=true:=by
 by_cases h:m=0
 ·subst h
  rw[Lib.decDigits];decide
 ·obtain⟨c,t,e,hc⟩:=ZeY m (by omega)
  have ha:=ZeX m
  rw[e] at ha ⊢
  rw[isNum,ha]
  simp[hc]
theorem ZqS:∀ (a b:List UInt8) (n:Int),sat n (a++b)=sat (sat n a) b
 | [],_,_=>rfl
 | c::t,b,n=>by rw[List.cons_append,sat,ZqS t b,sat]
theorem Zfb (m:Nat):sat 0 (Lib.decDigits m)=min (m:Int) 2147483648:=by
 induction m using Nat.strongRecOn with
 | _ m ih =>
  rw[Lib.decDigits]
  split
  ·rename_i h
   have e:((UInt8.ofNat (48+m)).toNat:Int)=48+m:=by simp only[UInt8.toNat_ofNat'];omega
   rw[sat,sat,e];omega
  ·rename_i h
   have e:((UInt8.ofNat (48+m % 10)).toNat:Int)=48+(m % 10:Nat):=by simp only[UInt8.toNat_ofNat'];omega
   rw[ZqS,ih (m / 10) (by omega),sat,sat,e]
   omega
theorem Zjb (m:Nat):Lib.itoa (m:Int)=Lib.decDigits m:=by simp[Lib.itoa]
theorem ZnZ {n:Int} (h:0≤n) (h2:n≤2147483647):parseV (Lib.itoa n)=n∧parseE (Lib.itoa n)=0:=by
 obtain⟨m,rfl⟩:=Int.eq_ofNat_of_zero_le h
 rw[Zjb]
 have:=Zoa (ZeZ m) (Zfb m) (by omega)
 exact⟨by rw[← this.1];omega,this.2.symm⟩
end

section
open Ln
def markT:List UInt8:=[92,32,78,111,32,110,101,119,108,105,110,101,32,97,116,32,101,110,100,32,111,102,32,102,105,108,101,10]
def rngT (p n:Int):List UInt8:=if n=1 then Lib.itoa (p+1) else Lib.itoa (p+1)++44::Lib.itoa (p+n)
def lnL (ah s:List UInt8):List (List UInt8):=if fdB s=true then [ah++s] else [ah++s++[10],markT]
def cmdT (c:Ch):List UInt8:=if c.AN=0 then Lib.itoa c.A++97::rngT c.B c.BN else if c.BN=0 then rngT c.A c.AN++100::Lib.itoa c.B else rngT c.A c.AN++99::rngT c.B c.BN
def sepL (c:Ch):List (List UInt8):=if 0<c.AN∧0<c.BN then [[45,45,45,10]] else []
def chgL (a b:List (List UInt8)) (c:Ch):List (List UInt8):=(cmdT c++[10])::((cut a c.A c.AN).flatMap (lnL [60,32])++(sepL c++(cut b c.B c.BN).flatMap (lnL [62,32])))
def prtL (l:List Ch) (a b:List (List UInt8)):List (List UInt8):=l.flatMap (chgL a b)
def prtT (l:List Ch) (a b:List (List UInt8)):List UInt8:=(prtL l a b).flatten
def nxt (p:Nat):List (List UInt8)→Except (Nat × Int) (List UInt8 × List (List UInt8))
 | []=>.error (p+1,1)
 | s::r=>if fdB s=true then .ok (s.dropLast,r) else .error (p+1,3)
def pkM:List (List UInt8)→Bool
 | []=>false
 | s::_=>markT.isPrefixOf s
def mkd (sg:List UInt8) (last:Bool) (p:Nat) (ls:List (List UInt8)):Except (Nat × Int) (List UInt8 × Nat × List (List UInt8)) :=
 match nxt p ls with
 | .error e=>.error e
 | .ok (s,r)=>if sg.isPrefixOf s=true then if (last && pkM r)=true then if s.drop sg.length=[] then .error (p+2,3) else .ok (s.drop sg.length,p+2,r.tail) else .ok (s.drop sg.length++[10],p+1,r) else .error (p+1,3)
def rdN (sg:List UInt8) (S:Int):Nat→Nat→List (List UInt8)→Except (Nat × Int) (List Mk × Nat × List (List UInt8))
 | 0,p,ls=>.ok ([],p,ls)
 | n+1,p,ls=>match mkd sg (n == 0) p ls with
  | .error e=>.error e
  | .ok (t,p1,r)=>match rdN sg S n p1 r with
   | .error e=>.error e
   | .ok (l,p2,r2)=>.ok (⟨S,t⟩::l,p2,r2)
def sepP (p:Nat) (ls:List (List UInt8)):Except (Nat × Int) (Nat × List (List UInt8)) :=
 match nxt p ls with
 | .error e=>.error e
 | .ok (s,r)=>if s=[45,45,45] then .ok (p+1,r) else .error (p+1,3)
def spB (q:UInt8→Bool):List UInt8→Option (List UInt8 × UInt8 × List UInt8)
 | []=>none
 | c::t=>if q c=true then some ([],c,t) else match spB q t with
  | none=>none
  | some (a,d,b)=>some (c::a,d,b)
def isC (c:UInt8):Bool:=c == 97 || c == 99 || c == 100
def isK (c:UInt8):Bool:=c == 44
def lnsP (s:List UInt8):Option (Int × Int):=match spB isK s with
 | some (x,_,y)=>if Pn.parseE x=0∧Pn.parseE y=0∧1≤Pn.parseV x∧Pn.parseV x<Pn.parseV y then some (Pn.parseV x,Pn.parseV y-Pn.parseV x+1) else none
 | none=>if Pn.parseE s=0∧1≤Pn.parseV s then some (Pn.parseV s,1) else none
def oneP (s:List UInt8):Option (Int × Int):=if Pn.parseE s=0 then some (Pn.parseV s,0) else none
def cmdP (s:List UInt8):Option (Int × Int × Int × Int):=match spB isC s with
 | none=>none
 | some (x,c,y)=>match (if c=97 then oneP x else lnsP x),(if c=100 then oneP y else lnsP y) with
  | some (A,AN),some (B,BN)=>some (A,AN,B,BN)
  | _,_=>none
def hkP (k p:Nat) (ls:List (List UInt8)):Except (Nat × Int) (Hk × Nat × List (List UInt8)) :=
 match nxt p ls with
 | .error e=>.error e
 | .ok (s,r)=>match cmdP s with
  | none=>.error (p+1,3)
  | some (A,AN,B,BN)=>if 4096≤k then .error (p+1,9) else match rdN [60,32] 45 AN.toNat (p+1) r with
   | .error e=>.error e
   | .ok (l1,p1,r1)=>match (if 0<AN∧0<BN then sepP p1 r1 else .ok (p1,r1)) with
    | .error e=>.error e
    | .ok (p2,r2)=>match rdN [62,32] 43 BN.toNat p2 r2 with
     | .error e=>.error e
     | .ok (l2,p3,r3)=>.ok (⟨A,AN,B,BN,l1++l2⟩,p3,r3)
def hksP:Nat→Nat→Nat→List (List UInt8)→Except (Nat × Int) (List Hk)
 | 0,_,_,_=>.ok []
 | f+1,k,p,ls=>if ls=[] then .ok [] else match hkP k p ls with
  | .error e=>.error e
  | .ok (h,p1,r)=>match hksP f (k+1) p1 r with
   | .error e=>.error e
   | .ok l=>.ok (h::l)
def prsT (t:List UInt8):Except (Nat × Int) (List Hk):=if 1048576<t.length then .error (0,9) else hksP (splitL t).length 0 0 (splitL t)
def Plain (ls:List (List UInt8)):Prop:=∀ s∈ls,∀ c∈s.dropLast,c≠10
theorem ZfR (s:List UInt8):fdB (s++[10])=true:=by simp[fdB]
theorem Zne {p:Nat} {ls r:List (List UInt8)} {s:List UInt8} (h:nxt p ls=.ok (s,r)):ls=(s++[10])::r:=by
 cases ls with
 | nil=>cases h
 | cons x r' =>
  simp only[nxt] at h
  split at h
  ·rename_i hf
   cases h
   unfold fdB at hf
   have h1:x.getLast?=some 10:=by simpa using hf
   obtain⟨q,rfl⟩:=List.getLast?_eq_some_iff.1 h1
   simp
  ·cases h
theorem Znd {p:Nat} {ls r:List (List UInt8)} {s:List UInt8} (hP:Plain ls) (h:nxt p ls=.ok (s,r)):ls.length=r.length+1∧Plain r:=by
 have:=Zne h
 subst this
 exact⟨rfl,fun x hx=>hP x (by simp[hx])⟩
theorem Zsg (t:List UInt8):Plain (splitL t):=by
 have h:=Zsi t
 generalize splitL t=L at h
 induction L with
 | nil=>intro s hs;cases hs
 | cons x L ih =>
  simp only[checkB,Bool.and_eq_true] at h
  intro s hs
  rcases List.mem_cons.1 hs with rfl | hs
  ·intro c hc
   have h1:=h.1
   rw[Zkg] at h1
   simp only[Bool.and_eq_true,linB] at h1
   have:=(List.all_eq_true.1 h1.1.2) c hc
   simpa using this
  ·exact ih h.2 s hs
end

section
open Go.RowKit
attribute [local go_sem] ByteArray.extract_mk
theorem ZvA (l:List UInt8) (k:Nat) (h:k<(⟨l.toArray⟩:ByteArray).size):(⟨l.toArray⟩:ByteArray)[k]'h=l[k]'(h):=rfl
attribute [local go_sem] ZvA
end

section
open Go.RowKit
def rdO (vL:Value) (p fa fe:Int):Obj:=.cells #[vL,.int .i64 p,.int .i64 fa,.int .i64 fe] 112
def Rx (u:World) (R:Nat) (vL:Value) (p fa fe:Int):Prop:=u.heap[R]?=some (rdO vL p fa fe)
section
variable {u u':World} {R:Nat} {vL:Value} {p fa fe:Int}
theorem Rx.lt (q:Rx u R vL p fa fe):R<u.heap.size:=(Array.getElem?_eq_some_iff.1 q).1
theorem Rx.dN (q:Rx u R vL p fa fe) (n:Nat):Rx (u.drewN n) R vL p fa fe:=q
end
theorem Zhe {w u v:World} {r:Option Nat} (h:w.grownBy u r) (h':u.grownBy v r):w.grownBy v r :=
 ⟨h'.os.trans h.os,h'.tape.trans h.tape,h'.output.trans h.output,Nat.le_trans h.size h'.size,fun k hk hr=>(h'.block k (Nat.lt_of_lt_of_le hk h.size) hr).trans (h.block k hk hr)⟩
theorem Zna {L:List (List UInt8)} {p:Nat} (hp:p<L.length):nxt p (L.drop p)=if fdB L[p]=true then .ok (L[p].dropLast,L.drop (p+1)) else .error (p+1,3):=by
 rw[List.drop_eq_getElem_cons hp]
 rfl
theorem Znb {L:List (List UInt8)} {p:Nat} (hp:L.length≤p):nxt p (L.drop p)=.error (p+1,1):=by
 rw[List.drop_eq_nil_of_le hp]
 rfl
end

section
open Go.RowKit
attribute [local go_sem] ByteArray.extract_mk ZvA
end

section
theorem Zbh (a b:List UInt8):((⟨a.toArray⟩:ByteArray)++(⟨b.toArray⟩:ByteArray))=⟨(a++b).toArray⟩:=by
 apply ByteArray.ext
 simp
end

section
open Go.RowKit
attribute [local go_sem] ByteArray.extract_mk ZvA
end

end Go.Proofs.YtgiojkhmkeocfaaGreatDoor

namespace Go.Proofs

section
open Go.Shelf Go.RowKit
def Tryz.lays166_ren:Go.Shelf.Ren:=⟨fun | 166=>34 | 240=>80 | 276=>133 | n=>n,fun | 0=>0 | 3=>3 | 4=>4 | 5=>5 | 9=>9 | 20=>20 | 37=>75 | 70=>74 | 72=>77 | 75=>36 | 80=>85 | 164=>143 | n=>n,fun | n=>n⟩
theorem Tryz.lays166:Go.Proofs.Lays.n166 Tryz.prog Tryz.lays166_ren:={
 mixed:=by kernel_rfl
 f166:= Go.fk Tryz.func34
 f240:= Go.fk Tryz.func80
 f276:= Go.fk Tryz.func133
 t0:=Tryz.underlying0
 a0:=Tryz.isAgg0
 z0:=Tryz.sizeOf0
 v0:=Tryz.zeroValue0
 t3:=Tryz.underlying3
 a3:=Tryz.isAgg3
 z3:=Tryz.sizeOf3
 v3:=Tryz.zeroValue3
 t4:=Tryz.underlying4
 a4:=Tryz.isAgg4
 z4:=Tryz.sizeOf4
 v4:=Tryz.zeroValue4
 t9:=Tryz.underlying9
 a9:=Tryz.isAgg9
 z9:=Tryz.sizeOf9
 v9:=Tryz.zeroValue9
 t20:=Tryz.underlying20
 a20:=Tryz.isAgg20
 z20:=Tryz.sizeOf20
 v20:=Tryz.zeroValue20
 t37:=Tryz.underlying75
 a37:=Tryz.isAgg75
 z37:=Tryz.sizeOf75
 v37:=Tryz.zeroValue75
 t70:=Tryz.underlying74
 a70:=Tryz.isAgg74
 z70:=Tryz.sizeOf74
 v70:=Tryz.zeroValue74
 t72:=Tryz.underlying77
 a72:=Tryz.isAgg77
 z72:=Tryz.sizeOf77
 v72:=Tryz.zeroValue77
 t75:=Tryz.underlying36
 a75:=Tryz.isAgg36
 z75:=Tryz.sizeOf36
 v75:=Tryz.zeroValue36
 t164:=Tryz.underlying143
 a164:=Tryz.isAgg143
 z164:=Tryz.sizeOf143
 v164:=Tryz.zeroValue143 }
theorem Tryz.Builder_Extra_166:Builder.Extra Tryz.prog Tryz.lays166_ren:={
 sizeBuilder:=by kernel_rfl
 liesBuilder:=by kernel_rfl
 t5:=Tryz.underlying5
 a5:=Tryz.isAgg5
 z5:=Tryz.sizeOf5
 v5:=Tryz.zeroValue5
 infoByte:=by kernel_rfl
 cellsByte:=by kernel_rfl
 sizeByte:=by kernel_rfl
 neB5:=by decide }
theorem Tryz.WriteString_h (B b:Nat) (bs:List Value) (s:ByteArray) (w:World) (h:Lib.IsBuilderF 77 5 B b bs w) (hlen:bs.length+s.size≤140737488355328) (hBw:B≤w.heap.size) :
  Calls Tryz.prog 34 #[.pointer (some ⟨b,0,none⟩),.string s] w fun e w'=>e=.returned (.tuple #[.int .i64 s.size,.nilIface])∧(Lib.BuilderAtF 77 5 B b (.pointer (some ⟨b,0,none⟩)) (bs++Lib.strCells s) w'∧Below B w w'∧Lib.OthersKept 5 (some b) w w') :=
 Any.Builder_WriteString_k Tryz.lays166 Tryz.Builder_Extra_166 B b bs s w h hlen hBw
end

end Go.Proofs

namespace Go.Proofs.YtgiojkhmkeocfaaGreatDoor

section
open Go.RowKit
theorem Zfc:∀ (n m:Nat),m<10 ^ (n+1)→(Lib.decDigits m).length≤n+1
 | 0,m,h=>by rw[Lib.decDigits,dif_pos (by simpa using h)];simp
 | n+1,m,h=>by
  rw[Lib.decDigits]
  split
  ·simp
  ·have h2:m / 10<10 ^ (n+1):=by
    rw[Nat.div_lt_iff_lt_mul (by omega),← Nat.pow_succ];exact h
   have:=Zfc n (m / 10) h2
   simp;omega
theorem Zjd (n:Int) (h0:-9223372036854775808≤n) (h1:n≤9223372036854775807):(Lib.itoa n).length≤21:=by
 have hal:(Lib.decDigits n.natAbs).length≤20:=Zfc 19 n.natAbs (by omega)
 unfold Lib.itoa
 split
 ·simp only[List.length_cons]
  omega
 ·have e:n.toNat=n.natAbs:=by omega
  rw[e]
  omega
end

section
open Go.RowKit
attribute [local go_sem] ByteArray.extract_mk ZvA
end

section
open Go.RowKit
def Fits (x y:List UInt8):Prop:=x.length+y.length≤4611686018427387904
theorem ZaJ {x y:List UInt8} (h:Fits x y) (P:Program) (u:World):(Op.stringOp .add ⟨x.toArray⟩ ⟨y.toArray⟩).run P u=.ok (.string ⟨(x++y).toArray⟩) u:=by
 unfold Fits at h
 have e:¬ (((⟨x.toArray⟩:ByteArray).size+(⟨y.toArray⟩:ByteArray).size:Nat):Int) > IntKind.i64.max:=by
  have h1:(⟨x.toArray⟩:ByteArray).size=x.length:=rfl
  have h2:(⟨y.toArray⟩:ByteArray).size=y.length:=rfl
  have h3:IntKind.i64.max=9223372036854775807:=rfl
  rw[h1,h2,h3]
  omega
 unfold Op.stringOp
 dsimp only
 rw[if_neg e,Zbh]
 rfl
structure Cs (c:Ch) (b:Nat) (W w:World):Prop where
 c0:w.cell? ⟨b,0,none⟩=some (.int .i64 c.A)
 c1:w.cell? ⟨b,1,none⟩=some (.int .i64 c.AN)
 c2:w.cell? ⟨b,2,none⟩=some (.int .i64 c.B)
 c3:w.cell? ⟨b,3,none⟩=some (.int .i64 c.BN)
 lt:b<w.heap.size
 low:Below W.heap.size W w
theorem Zvz (c:Ch) (b:Nat) (W w:World):Cs c b W w.drew↔Cs c b W w:=⟨fun h=>⟨h.c0,h.c1,h.c2,h.c3,h.lt,(h.low.trans ⟨rfl,rfl,rfl,Nat.le_refl _,fun _ _=>rfl⟩:Below W.heap.size W w)⟩,fun h=>⟨h.c0,h.c1,h.c2,h.c3,h.lt,h.low.drew⟩⟩
attribute [local simp] Zvz
theorem Zqe (p n:Int) (h0:0≤p) (h1:p≤4611686018427387904) (h2:0≤n) (h3:n≤4611686018427387900):(rngT p n).length≤43:=by
 have l1:=Zjd (p+1) (by omega) (by omega)
 have l2:=Zjd (p+n) (by omega) (by omega)
 unfold rngT
 split
 ·omega
 ·simp only[List.length_append,List.length_cons]
  omega
end

section
open Ln
def numC (c:UInt8):Bool:=Pn.digB c || c == 44
theorem Zja {n:Int} (h:0≤n):∀ c∈Lib.itoa n,Pn.digB c=true:=by
 intro c hc
 obtain⟨m,rfl⟩:∃ m:Nat,n=m:=⟨n.toNat,by omega⟩
 rw[Zjb] at hc
 exact (List.all_eq_true.1 (ZeX m)) c hc
theorem Zjc {n:Int} (h:0≤n):Lib.itoa n≠[]:=by
 obtain⟨m,rfl⟩:∃ m:Nat,n=m:=⟨n.toNat,by omega⟩
 rw[Zjb]
 exact Zfa m
theorem Zqc {p n:Int} (hp:0≤p) (hn:1≤n):∀ c∈rngT p n,numC c=true:=by
 intro c hc
 unfold rngT at hc
 unfold numC
 split at hc
 ·rw[Zja (by omega) c hc];rfl
 ·rcases List.mem_append.1 hc with hc | hc
  ·rw[Zja (by omega) c hc];rfl
  ·rcases List.mem_cons.1 hc with rfl | hc
   ·simp
   ·rw[Zja (by omega) c hc];rfl
theorem Zff {c:UInt8} (h:Pn.digB c=true):isC c=false∧isK c=false∧c≠10∧c≠92:=by
 have h1:=Pn.digB_out h
 refine⟨?_,?_,?_,?_⟩
 ·unfold isC
  simp only[Bool.or_eq_false_iff,beq_eq_false_iff_ne]
  refine⟨⟨?_,?_⟩,?_⟩<;>(rintro rfl;simp at h1)
 ·unfold isK
  rw[beq_eq_false_iff_ne]
  rintro rfl
  simp at h1
 ·rintro rfl
  simp at h1
 ·rintro rfl
  simp at h1
theorem ZmR {c:UInt8} (h:numC c=true):isC c=false∧c≠10∧c≠92:=by
 unfold numC at h
 rcases Bool.or_eq_true_iff.1 h with h | h
 ·have:=Zff h
  exact⟨this.1,this.2.2.1,this.2.2.2⟩
 ·have:c=44:=by simpa using h
  subst this
  decide
theorem ZrV {q:UInt8→Bool} {x y:List UInt8} {d:UInt8} (hx:∀ c∈x,q c=false) (hd:q d=true):spB q (x++d::y)=some (x,d,y):=by
 induction x with
 | nil=>simp[spB,hd]
 | cons c x ih =>
  simp only[List.cons_append,spB]
  rw[if_neg (by rw[hx c (by simp)];decide),ih fun z hz=>hx z (by simp[hz])]
theorem ZrW {q:UInt8→Bool} {x:List UInt8} (hx:∀ c∈x,q c=false):spB q x=none:=by
 induction x with
 | nil=>rfl
 | cons c x ih =>
  simp only[spB]
  rw[if_neg (by rw[hx c (by simp)];decide),ih fun z hz=>hx z (by simp[hz])]
theorem Zkr {p n:Int} (hp:0≤p) (hn:1≤n) (hb:p+n≤2147483647):lnsP (rngT p n)=some (p+1,n):=by
 unfold rngT
 by_cases h1:n=1
 ·rw[if_pos h1]
  unfold lnsP
  rw[ZrW (fun c hc=>(Zff (Zja (by omega) c hc)).2.1)]
  obtain⟨e1,e2⟩:=ZnZ (n:=p+1) (by omega) (by omega)
  have hc:Pn.parseE (Lib.itoa (p+1))=0∧1≤Pn.parseV (Lib.itoa (p+1)):=⟨e2,by rw[e1];omega⟩
  simp only
  rw[if_pos hc,e1,h1]
 ·rw[if_neg h1]
  unfold lnsP
  rw[ZrV (fun c hc=>(Zff (Zja (by omega) c hc)).2.1) (by decide)]
  obtain⟨e1,e2⟩:=ZnZ (n:=p+1) (by omega) (by omega)
  obtain⟨e3,e4⟩:=ZnZ (n:=p+n) (by omega) (by omega)
  have hc:Pn.parseE (Lib.itoa (p+1))=0∧Pn.parseE (Lib.itoa (p+n))=0∧1≤Pn.parseV (Lib.itoa (p+1))∧Pn.parseV (Lib.itoa (p+1))<Pn.parseV (Lib.itoa (p+n)):=⟨e2,e4,by rw[e1];omega,by rw[e1,e3];omega⟩
  simp only
  rw[if_pos hc,e1,e3]
  congr 2
  omega
theorem Znn {n:Int} (h:0≤n) (hb:n≤2147483647):oneP (Lib.itoa n)=some (n,0):=by
 unfold oneP
 obtain⟨e1,e2⟩:=ZnZ h hb
 rw[if_pos e2,e1]
def noA (p n:Int):Int:=if 0<n then p+1 else p
theorem ZdB {c:Ch} (hn:numB c=true) (hA:c.A+c.AN≤2147483647) (hB:c.B+c.BN≤2147483647):cmdP (cmdT c)=some (noA c.A c.AN,c.AN,noA c.B c.BN,c.BN):=by
 have h:=(ZmM c).1 hn
 unfold cmdT cmdP noA
 by_cases h1:c.AN=0
 ·have hb:0<c.BN:=by omega
  rw[if_pos h1,ZrV (fun x hx=>(Zff (Zja (by omega) x hx)).1) (by decide)]
  simp only[if_true]
  rw[if_neg (by decide),Znn (by omega) (by omega),Zkr (by omega) (by omega) hB,h1,if_pos hb]
  rfl
 ·have ha:0<c.AN:=by omega
  rw[if_neg h1,if_pos ha]
  by_cases h2:c.BN=0
  ·rw[if_pos h2,ZrV (fun x hx=>(ZmR (Zqc (by omega) (by omega) x hx)).1) (by decide)]
   simp only[if_true]
   rw[if_neg (by decide),Zkr (by omega) (by omega) hA,Znn (by omega) (by omega),h2]
   rfl
  ·have hb:0<c.BN:=by omega
   rw[if_neg h2,ZrV (fun x hx=>(ZmR (Zqc (by omega) (by omega) x hx)).1) (by decide)]
   simp only
   rw[if_neg (by decide),if_neg (by decide),Zkr (by omega) (by omega) hA,Zkr (by omega) (by omega) hB,if_pos hb]
theorem ZdC {c:Ch} (hn:numB c=true):(∀ x∈cmdT c,x≠10)∧∃ y t,cmdT c=y::t∧y≠92:=by
 have h:=(ZmM c).1 hn
 have hd:∀ (n:Int) (t:List UInt8),0≤n→∃ y u,Lib.itoa n++t=y::u∧y≠92:=by
  intro n t h0
  cases hq:Lib.itoa n with
  | nil=>exact absurd hq (Zjc h0)
  | cons y u =>
   refine⟨y,u++t,rfl,?_⟩
   exact (Zff (Zja h0 y (by rw[hq];simp))).2.2.2
 have hr:∀ (p n:Int) (t:List UInt8),0≤p→∃ y u,rngT p n++t=y::u∧y≠92:=by
  intro p n t h0
  unfold rngT
  split
  ·exact hd _ _ (by omega)
  ·rw[List.append_assoc]
   exact hd _ _ (by omega)
 unfold cmdT
 split
 ·rename_i h1
  refine⟨?_,hd _ _ (by omega)⟩
  intro x hx
  rcases List.mem_append.1 hx with hx | hx
  ·exact (Zff (Zja (by omega) x hx)).2.2.1
  ·rcases List.mem_cons.1 hx with rfl | hx
   ·decide
   ·exact (ZmR (Zqc (by omega) (by omega) x hx)).2.1
 ·split
  ·refine⟨?_,hr _ _ _ (by omega)⟩
   intro x hx
   rcases List.mem_append.1 hx with hx | hx
   ·exact (ZmR (Zqc (by omega) (by omega) x hx)).2.1
   ·rcases List.mem_cons.1 hx with rfl | hx
    ·decide
    ·exact (Zff (Zja (by omega) x hx)).2.2.1
  ·refine⟨?_,hr _ _ _ (by omega)⟩
   intro x hx
   rcases List.mem_append.1 hx with hx | hx
   ·exact (ZmR (Zqc (by omega) (by omega) x hx)).2.1
   ·rcases List.mem_cons.1 hx with rfl | hx
    ·decide
    ·exact (ZmR (Zqc (by omega) (by omega) x hx)).2.1
def Rows:List (List UInt8)→Prop
 | []=>True
 | x::r=>linB x=true∧(r≠[]→fdB x=true)∧Rows r
theorem Zkb {x:List UInt8} (h:linB x=true):x≠[]∧∀ c∈x.dropLast,c≠10:=by
 unfold linB at h
 simp only[Bool.and_eq_true] at h
 refine⟨?_,fun c hc=>?_⟩
 ·rintro rfl
  simp at h
 ·have:=(List.all_eq_true.1 h.2) c hc
  simpa using this
theorem ZfQ {x:List UInt8} (h:fdB x=true):x=x.dropLast++[10]:=by
 unfold fdB at h
 have h1:x.getLast?=some 10:=by simpa using h
 obtain⟨q,rfl⟩:=List.getLast?_eq_some_iff.1 h1
 simp
theorem ZfP {ah x:List UInt8} (h:fdB x=true):fdB (ah++x)=true∧(ah++x).dropLast=ah++x.dropLast:=by
 have e:=ZfQ h
 rw[e,← List.append_assoc]
 refine⟨ZfR _,?_⟩
 simp
theorem Zps (ah:List UInt8) (S:Int) (xs:List (List UInt8)):∀ (p:Nat) (rest:List (List UInt8)),Rows xs→pkM rest=false→∃ p',rdN ah S xs.length p (xs.flatMap (lnL ah)++rest)=.ok (mks S xs,p',rest):=by
 induction xs with
 | nil=>intro p rest _ _;exact⟨p,rfl⟩
 | cons x xs ih =>
  intro p rest hR hp
  obtain⟨h1,h2,h3⟩:=hR
  simp only[List.length_cons,rdN,List.flatMap_cons,List.append_assoc]
  cases hf:fdB x with
  | true =>
   have hl:lnL ah x=[ah++x]:=by unfold lnL;rw[if_pos hf]
   obtain⟨e1,e2⟩:=ZfP (ah:=ah) hf
   have hm:mkd ah (xs.length == 0) p ([ah++x]++(xs.flatMap (lnL ah)++rest))=.ok (x,p+1,xs.flatMap (lnL ah)++rest):=by
    unfold mkd
    simp only[List.singleton_append,nxt,e1,if_true,e2]
    rw[if_pos (by simp),if_neg ?_]
    ·simp only[List.drop_left]
     rw[← ZfQ hf]
    ·cases xs with
     | nil=>simp[hp]
     | cons y ys=>simp
   rw[hl,hm]
   obtain⟨p',hq⟩:=ih (p+1) rest h3 hp
   simp only[hq]
   exact⟨p',rfl⟩
  | false =>
   have hx:xs=[]:=by
    cases xs with
    | nil=>rfl
    | cons y ys=>have:=h2 (by simp);rw[hf] at this;cases this
   subst hx
   have hl:lnL ah x=[ah++x++[10],markT]:=by unfold lnL;rw[if_neg (by rw[hf];decide)]
   have hm:mkd ah (([]:List (List UInt8)).length == 0) p ([ah++x++[10],markT]++(([]:List (List UInt8)).flatMap (lnL ah)++rest))=.ok (x,p+2,rest):=by
    unfold mkd
    simp only[List.cons_append,List.nil_append,nxt,ZfR,if_true,List.dropLast_concat]
    rw[if_pos (by simp),if_pos (by simp[pkM]),if_neg (by simp only[List.drop_left];exact (Zkb h1).1)]
    simp
   rw[hl,hm]
   exact⟨p+2,rfl⟩
theorem Zow {ah:List UInt8} {xs rest:List (List UInt8)} (ha:ah.head?=some 62) (hp:pkM rest=false):pkM (xs.flatMap (lnL ah)++rest)=false:=by
 cases xs with
 | nil=>exact hp
 | cons x xs =>
  cases ah with
  | nil=>cases ha
  | cons y ah =>
   simp only[List.head?_cons,Option.some.injEq] at ha
   subst ha
   rw[List.flatMap_cons,lnL]
   split<;>rfl
theorem ZhQ {a b:List (List UInt8)} {c:Ch} {k p:Nat} {rest:List (List UInt8)} (hn:numB c=true) (hA:c.A+c.AN≤2147483647) (hB:c.B+c.BN≤2147483647) (hAl:(cut a c.A c.AN).length=c.AN.toNat) (hBl:(cut b c.B c.BN).length=c.BN.toNat) (hRa:Rows (cut a c.A c.AN)) (hRb:Rows (cut b c.B c.BN)) (hk:k<4096) (hp:pkM rest=false):∃ p',hkP k p (chgL a b c++rest)=.ok (⟨noA c.A c.AN,c.AN,noA c.B c.BN,c.BN,mks 45 (cut a c.A c.AN)++mks 43 (cut b c.B c.BN)⟩,p',rest):=by
 have hb:=Zow (ah:=[62,32]) (xs:=cut b c.B c.BN) (rest:=rest) (by decide) hp
 have hs:pkM (sepL c++((cut b c.B c.BN).flatMap (lnL [62,32])++rest))=false:=by
  unfold sepL
  split
  ·rfl
  ·exact hb
 obtain⟨p1,h1⟩:=Zps [60,32] 45 (cut a c.A c.AN) (p+1) (sepL c++((cut b c.B c.BN).flatMap (lnL [62,32])++rest)) hRa hs
 have h2:∃ p2,(if 0<c.AN∧0<c.BN then sepP p1 (sepL c++((cut b c.B c.BN).flatMap (lnL [62,32])++rest)) else .ok (p1,sepL c++((cut b c.B c.BN).flatMap (lnL [62,32])++rest)))=.ok (p2,(cut b c.B c.BN).flatMap (lnL [62,32])++rest):=by
  unfold sepL
  by_cases hq:0<c.AN∧0<c.BN
  ·rw[if_pos hq,if_pos hq]
   refine⟨p1+1,?_⟩
   unfold sepP
   rfl
  ·rw[if_neg hq,if_neg hq]
   exact⟨p1,rfl⟩
 obtain⟨p2,h2⟩:=h2
 obtain⟨p3,h3⟩:=Zps [62,32] 43 (cut b c.B c.BN) p2 rest hRb hp
 refine⟨p3,?_⟩
 rw[hAl] at h1
 rw[hBl] at h3
 unfold hkP chgL
 simp only[List.cons_append,nxt,ZfR,if_true,List.dropLast_concat,ZdB hn hA hB,List.append_assoc]
 rw[if_neg (by omega)]
 simp only[h1,h2,h3]
end

section
open Ln
theorem Zqo {a:List (List UInt8)} (h:checkB a=true):Rows a:=by
 induction a with
 | nil=>trivial
 | cons s t ih =>
  simp only[checkB,Bool.and_eq_true] at h
  have h1:=h.1
  rw[Zkg] at h1
  simp only[Bool.and_eq_true,Bool.or_eq_true] at h1
  refine⟨h1.1,fun hne=>?_,ih h.2⟩
  rcases h1.2 with h2 | h2
  ·cases t with
   | nil=>exact absurd rfl hne
   | cons=>cases h2
  ·exact h2
theorem Zqm {a:List (List UInt8)} (n:Nat) (h:Rows a):Rows (a.drop n):=by
 induction n generalizing a with
 | zero=>exact h
 | succ n ih =>
  cases a with
  | nil=>trivial
  | cons s t=>exact ih h.2.2
theorem Zqp {a:List (List UInt8)} (n:Nat) (h:Rows a):Rows (a.take n):=by
 induction n generalizing a with
 | zero=>trivial
 | succ n ih =>
  cases a with
  | nil=>trivial
  | cons s t =>
   refine⟨h.1,fun hne=>h.2.1 fun e=>?_,ih h.2.2⟩
   subst e
   simp at hne
theorem Zql {a:List (List UInt8)} (h:checkB a=true) (p n:Int):Rows (cut a p n):=Zqp _ (Zqm _ (Zqo h))
theorem Zqn {a:List (List UInt8)} (h:Rows a):∀ x∈a,linB x=true:=by
 induction a with
 | nil=>intro x hx;cases hx
 | cons s t ih =>
  intro x hx
  rcases List.mem_cons.1 hx with rfl | hx
  ·exact h.1
  ·exact ih h.2.2 x hx
theorem ZmF {no sg:Int} (t:List (List UInt8)):pkL no (mks sg t)=if sg≠no∧okS sg=true then t else []:=by
 induction t with
 | nil=>simp[mks,pkL]
 | cons s t ih =>
  have e:mks sg (s::t)=⟨sg,s⟩::mks sg t:=rfl
  rw[e,pkL,ih]
  split<;>rfl
theorem Zns {a b:List (List UInt8)} {c:Ch} (hn:numB c=true) (hA:c.A+c.AN≤a.length) (hB:c.B+c.BN≤b.length):oneH a b 0 [c]=⟨noA c.A c.AN,c.AN,noA c.B c.BN,c.BN,mks 45 (cut a c.A c.AN)++mks 43 (cut b c.B c.BN)⟩:=by
 have h:=(ZmM c).1 hn
 have e:bodyH a b (min (a.length:Int) (c.A+c.AN+0)) (c.A-min 0 c.A) [c]=mks 45 (cut a c.A c.AN)++mks 43 (cut b c.B c.BN):=by
  rw[show min (a.length:Int) (c.A+c.AN+0)=c.A+c.AN by omega,show c.A-min 0 c.A=c.A by omega]
  simp only[bodyH]
  rw[show c.A-c.A=(0:Int) by omega,show c.A+c.AN-(c.A+c.AN)=(0:Int) by omega,ZeD,ZeD]
  simp[mks]
 have l1:((cut a c.A c.AN).length:Int)=c.AN:=ZhI (by omega) (by omega) hA
 have l2:((cut b c.B c.BN).length:Int)=c.BN:=ZhI (by omega) (by omega) hB
 have p1:pkL 43 (mks 45 (cut a c.A c.AN)++mks 43 (cut b c.B c.BN))=cut a c.A c.AN:=by
  rw[Zol,ZmF,ZmF,if_pos (by decide),if_neg (by decide),List.append_nil]
 have p2:pkL 45 (mks 45 (cut a c.A c.AN)++mks 43 (cut b c.B c.BN))=cut b c.B c.BN:=by
  rw[Zol,ZmF,ZmF,if_neg (by decide),if_pos (by decide),List.nil_append]
 show cntH (c.A-min 0 c.A) (c.B-min 0 c.A) (bodyH a b (min (a.length:Int) (c.A+c.AN+0)) (c.A-min 0 c.A) [c])=_
 rw[e]
 unfold cntH noA
 rw[p1,p2,l1,l2,show c.A-min 0 c.A=c.A by omega,show c.B-min 0 c.A=c.B by omega]
 have q1:(0<(cut a c.A c.AN).length)=(0<c.AN):=propext ⟨fun q=>by omega,fun q=>by omega⟩
 have q2:(0<(cut b c.B c.BN).length)=(0<c.BN):=propext ⟨fun q=>by omega,fun q=>by omega⟩
 simp only[q1,q2]
theorem ZpK {fl:Bool} {p q n m:Int} {l:List Ch} (h:Right fl p q n m l):∀ c∈l,numB c=true∧c.A+c.AN≤n∧c.B+c.BN≤m:=by
 induction l generalizing fl p q with
 | nil=>intro c hc;cases hc
 | cons x l ih =>
  intro c hc
  rcases List.mem_cons.1 hc with rfl | hc
  ·exact⟨h.1.1,h.2.le.1,h.2.le.2.1⟩
  ·exact ih h.2 c hc
theorem ZlG {l:List Ch} {a b:List (List UInt8)} (hs:Script l a.length b.length):mkR l a b 0=l.map fun c=>oneH a b 0 [c]:=by
 rw[(Zlt hs (by omega)).1,Zho l _ _ _ _ _ hs.2.2]
 simp
theorem Zoz {l:List Ch} {a b:List (List UInt8)} (h:∀ c∈l,numB c=true):pkM (prtL l a b)=false:=by
 cases l with
 | nil=>rfl
 | cons c l =>
  obtain⟨_,y,t,e,hy⟩:=ZdC (h c (by simp))
  unfold prtL
  rw[List.flatMap_cons,chgL,e]
  simp only[List.cons_append,pkM,markT,List.isPrefixOf]
  have:((92:UInt8) == y)=false:=by rw[beq_eq_false_iff_ne];exact fun q=>hy q.symm
  rw[this]
  rfl
theorem ZhZ {a b:List (List UInt8)} (ha:checkB a=true) (hb:checkB b=true) (hal:a.length≤2147483647) (hbl:b.length≤2147483647) (l:List Ch):∀ (f k p:Nat),(∀ c∈l,numB c=true∧c.A+c.AN≤a.length∧c.B+c.BN≤b.length)→k+l.length≤4096→(prtL l a b).length≤f→hksP f k p (prtL l a b)=.ok (l.map fun c=>oneH a b 0 [c]):=by
 induction l with
 | nil =>
  intro f k p _ _ _
  cases f<;>rfl
 | cons c l ih =>
  intro f k p h hk hf
  have hc:=h c (by simp)
  have hn:=(ZmM c).1 hc.1
  have e:prtL (c::l) a b=chgL a b c++prtL l a b:=rfl
  rw[e] at hf ⊢
  have l1:((cut a c.A c.AN).length:Int)=c.AN:=ZhI (by omega) (by omega) hc.2.1
  have l2:((cut b c.B c.BN).length:Int)=c.BN:=ZhI (by omega) (by omega) hc.2.2
  obtain⟨p',hh⟩:=ZhQ (k:=k) (p:=p) (rest:=prtL l a b) hc.1 (by omega) (by omega) (by omega) (by omega) (Zql ha c.A c.AN) (Zql hb c.B c.BN) (by simp at hk;omega) (Zoz fun x hx=>(h x (by simp[hx])).1)
  have hlen:1≤(chgL a b c).length:=by simp[chgL]
  rw[List.length_append] at hf
  cases f with
  | zero=>omega
  | succ f =>
   have hi:=ih f (k+1) p' (fun x hx=>h x (by simp[hx])) (by simp at hk;omega) (by omega)
   simp only[hksP]
   rw[if_neg (by simp[chgL]),hh]
   simp only[hi]
   simp only[List.map_cons]
   rw[Zns hc.1 hc.2.1 hc.2.2]
def Fed (ls:List (List UInt8)):Prop:=∀ s∈ls,∃ t,s=t++[10]∧∀ c∈t,c≠10
theorem ZfT {ls:List (List UInt8)} (h:Fed ls):checkB ls=true:=by
 induction ls with
 | nil=>rfl
 | cons s r ih =>
  obtain⟨t,e,ht⟩:=h s (by simp)
  simp only[checkB,Bool.and_eq_true]
  refine⟨?_,ih fun x hx=>h x (by simp[hx])⟩
  rw[e]
  exact Zkf ht _
theorem ZfW {ah x:List UInt8} (ha:∀ c∈ah,c≠10) (hx:linB x=true):Fed (lnL ah x):=by
 obtain⟨h0,h1⟩:=Zkb hx
 unfold lnL
 split
 ·rename_i hf
  intro s hs
  rw[List.mem_singleton.1 hs]
  refine⟨ah++x.dropLast,?_,?_⟩
  ·rw[List.append_assoc,← ZfQ hf]
  ·intro c hc
   rcases List.mem_append.1 hc with hc | hc
   ·exact ha c hc
   ·exact h1 c hc
 ·rename_i hf
  intro s hs
  rcases List.mem_cons.1 hs with rfl | hs
  ·refine⟨ah++x,rfl,?_⟩
   intro c hc
   rcases List.mem_append.1 hc with hc | hc
   ·exact ha c hc
   ·intro e
    subst e
    rcases List.eq_nil_or_concat x with rfl | ⟨q,y,rfl⟩
    ·cases hc
    ·rw[List.concat_eq_append] at hc hf h1
     rcases List.mem_append.1 hc with hc | hc
     ·exact h1 10 (by simpa using hc) rfl
     ·have:y=10:=(List.mem_singleton.1 hc).symm
      subst this
      exact hf (ZfR q)
  ·rw[List.mem_singleton.1 hs]
   refine⟨markT.dropLast,rfl,?_⟩
   decide
theorem ZfY {a b:List (List UInt8)} (ha:checkB a=true) (hb:checkB b=true) {l:List Ch} (h:∀ c∈l,numB c=true):Fed (prtL l a b):=by
 intro s hs
 obtain⟨c,hc,hs⟩:=List.mem_flatMap.1 hs
 unfold chgL at hs
 rcases List.mem_cons.1 hs with rfl | hs
 ·exact⟨cmdT c,rfl,(ZdC (h c hc)).1⟩
 ·rcases List.mem_append.1 hs with hs | hs
  ·obtain⟨x,hx,hs⟩:=List.mem_flatMap.1 hs
   exact ZfW (by decide) (Zqn (Zql ha c.A c.AN) x hx) s hs
  ·rcases List.mem_append.1 hs with hs | hs
   ·unfold sepL at hs
    split at hs
    ·rw[List.mem_singleton.1 hs]
     exact⟨[45,45,45],rfl,by decide⟩
    ·cases hs
   ·obtain⟨x,hx,hs⟩:=List.mem_flatMap.1 hs
    exact ZfW (by decide) (Zqn (Zql hb c.B c.BN) x hx) s hs
theorem Zsh {a b:List (List UInt8)} (ha:checkB a=true) (hb:checkB b=true) {l:List Ch} (h:∀ c∈l,numB c=true):splitL (prtT l a b)=prtL l a b:=ZpN _ (ZfT (ZfY ha hb h))
theorem ZmD {l:List Ch} {a b:List (List UInt8)} (hs:Script l a.length b.length) (ha:checkB a=true) (hb:checkB b=true) (hal:a.length≤1000000) (hbl:b.length≤1000000) (hl:l.length≤4096):prsT (prtT l a b)=if 1048576<(prtT l a b).length then .error (0,9) else .ok (mkR l a b 0):=by
 have hm:=ZpK hs.2.2
 unfold prsT
 rw[Zsh ha hb fun c hc=>(hm c hc).1,ZhZ ha hb (by omega) (by omega) l _ 0 0 hm (by omega) (Nat.le_refl _),ZlG hs]
end

section
open Go.RowKit
theorem Zkl (ah s:List UInt8):(lnL ah s).flatten.length≤ah.length+s.length+29:=by
 unfold lnL
 split<;>simp[markT]<;>omega
theorem Zks (ah:List UInt8) (x:List (List UInt8)):(x.flatMap (lnL ah)).flatten.length≤x.length * (ah.length+29)+x.flatten.length:=by
 induction x with
 | nil=>simp
 | cons s x ih =>
  have h:=Zkl ah s
  simp only[List.flatMap_cons,List.flatten_append,List.length_append,List.length_cons,List.flatten_cons]
  have e:(x.length+1) * (ah.length+29)=x.length * (ah.length+29)+(ah.length+29):=Nat.succ_mul _ _
  omega
end

section
theorem ZdE {c:Ch} (h:numB c=true):(cmdT c).length≤100:=by
 rw[ZmM] at h
 have r1:=Zqe c.A c.AN h.1.1 (by omega) h.2.1.1 (by omega)
 have r2:=Zqe c.B c.BN h.2.2.1.1 (by omega) h.2.2.2.1.1 (by omega)
 have r3:=Zjd c.A (by omega) (by omega)
 have r4:=Zjd c.B (by omega) (by omega)
 unfold cmdT
 split
 ·simp only[List.length_append,List.length_cons];omega
 ·split
  ·simp only[List.length_append,List.length_cons];omega
  ·simp only[List.length_append,List.length_cons];omega
theorem Zgv {a:List (List UInt8)} {p A AN:Int} (hp:0≤p) (hA:p≤A) (hN:0≤AN):(cut a A AN).flatten.length+(a.drop (A+AN).toNat).flatten.length≤(a.drop p.toNat).flatten.length:=by
 have e1:a.drop p.toNat=(a.drop p.toNat).take (A-p).toNat++a.drop A.toNat:=by
  have h:=(List.take_append_drop (A-p).toNat (a.drop p.toNat)).symm
  rw[List.drop_drop] at h
  have e:p.toNat+(A-p).toNat=A.toNat:=by omega
  rw[e] at h
  exact h
 have e2:a.drop A.toNat=cut a A AN++a.drop (A+AN).toNat:=by
  have h:=(List.take_append_drop AN.toNat (a.drop A.toNat)).symm
  rw[List.drop_drop] at h
  have e:A.toNat+AN.toNat=(A+AN).toNat:=by omega
  rw[e] at h
  exact h
 rw[e1,e2]
 simp only[List.flatten_append,List.length_append]
 omega
theorem Zez (a:List (List UInt8)) (p n:Int):(cut a p n).length≤n.toNat:=by
 unfold cut
 rw[List.length_take]
 omega
theorem ZcM {a b:List (List UInt8)} {c:Ch} (h:numB c=true):(chgL a b c).flatten.length≤105+31 * (c.AN.toNat+c.BN.toNat)+(cut a c.A c.AN).flatten.length+(cut b c.B c.BN).flatten.length:=by
 have h1:=ZdE h
 have h2:=Zks [60,32] (cut a c.A c.AN)
 have h3:=Zks [62,32] (cut b c.B c.BN)
 have h4:=Zez a c.A c.AN
 have h5:=Zez b c.B c.BN
 have h6:(sepL c).flatten.length≤4:=by
  unfold sepL
  split<;>simp
 simp only[List.length_cons,List.length_nil] at h2 h3
 simp only[chgL,List.flatten_cons,List.flatten_append,List.length_append,List.length_cons,List.length_nil]
 omega
theorem ZoP {a b:List (List UInt8)} {n m:Int} (l:List Ch):∀ {f:Bool} {p q:Int},0≤p→0≤q→Right f p q n m l→(prtT l a b).length≤105 * l.length+31 * ((n-p).toNat+(m-q).toNat)+(a.drop p.toNat).flatten.length+(b.drop q.toNat).flatten.length:=by
 induction l with
 | nil =>
  intro f p q _ _ _
  simp[prtT,prtL]
 | cons c l ih =>
  intro f p q hp hq h
  obtain⟨⟨h1,h2,h3,_⟩,h5⟩:=h
  have hn:=(ZmM c).1 h1
  have hle:=h5.le
  have g:=ih (by omega) (by omega) h5
  have g1:=@ZcM a b c h1
  have g2:=@Zgv a p c.A c.AN hp h3 hn.2.1.1
  have g3:=@Zgv b q c.B c.BN hq (by omega) hn.2.2.2.1.1
  have e:prtT (c::l) a b=(chgL a b c).flatten++prtT l a b:=by simp[prtT,prtL]
  rw[e,List.length_append,List.length_cons]
  omega
theorem ZoO {a b:List (List UInt8)} {l:List Ch} (h:Script l a.length b.length):(prtT l a b).length≤105 * l.length+31 * (a.length+b.length)+a.flatten.length+b.flatten.length:=by
 have g:=@ZoP a b a.length b.length l true 0 0 (by omega) (by omega) h.2.2
 simpa using g
end

section
open Go.RowKit
def Tab10 (w : World) : Prop := ∀ u : World, Below w.heap.size w u → Lib.TabIs Tryz.prog u "internal/strconv.uint64pow10" .u64 Lib.pow10Tab
theorem Tab10.on {w u:World} (h:Tab10 w) (hb:Below w.heap.size w u):Tab10 u:=fun v hv=>h v (hb.trans (hv.mono hb.size))
theorem ZlY (n:Int) (h0:-9223372036854775808≤n) (h1:n≤9223372036854775807) (w:World) (HT:Hid (Tab10 w)) :
  Calls Tryz.prog 81 #[.int .i64 n] w fun e w'=>e=.returned (.string ⟨(Lib.itoa n).toArray⟩)∧Below w.heap.size w w':=by
 go_enter Tryz.func81,Tryz.ntmps81
 go_wp2_with fail
 refine (Tryz.strconv_Itoa n h0 h1 _ (HT.out _ (Below.refl _ _))).mono ?_
 rintro e w1 ⟨rfl,k,os,rfl⟩
 go_wp2
 go_ret
 exact⟨rfl,Lib.below_grow w.heap.size w (Nat.le_refl _) k os⟩
def rgx (A N:Int):List UInt8:=if N≤1 then Lib.itoa A else Lib.itoa A++44::Lib.itoa (A+N-1)
theorem ZpH {A N:Int} (h0:0≤A) (h1:A≤4611686018427387904) (h2:0≤N) (h3:N≤4611686018427387900):(rgx A N).length≤43:=by
 have l1:=Zjd A (by omega) (by omega)
 have l2:=Zjd (A+N-1) (by omega) (by omega)
 unfold rgx
 split
 ·omega
 ·simp only[List.length_append,List.length_cons]
  omega
theorem ZmH (A N:Int) (h0:0≤A) (h1:A≤4611686018427387904) (h2:0≤N) (h3:N≤4611686018427387900) (w:World) (HT:Hid (Tab10 w)) (T:List UInt8) (HR:Hid (rgx A N=T)) :
  Calls Tryz.prog 35 #[.int .i64 A,.int .i64 N] w fun e w'=>e=.returned (.string ⟨T.toArray⟩)∧Below w.heap.size w w':=by
 have l1:=Zjd A (by omega) (by omega)
 have l2:=Zjd (A+N-1) (by omega) (by omega)
 by_cases hN:N≤1
 ·have HE1:Hid (Lib.itoa A=T):=(by have h:=HR.out;unfold rgx at h;rw[if_pos hN] at h;exact h)
  clear HR
  go_enter Tryz.func35,Tryz.ntmps35
  go_wp2_with fail
  refine (ZlY A (by omega) (by omega) _ HT).mono ?_
  rintro e w1 ⟨rfl,hb1⟩
  go_wp2
  go_ret
  exact⟨by rw[← HE1.out];rfl,hb1⟩
 ·have HE:Hid (Lib.itoa A++44::Lib.itoa (A+N-1)=T):=(by have h:=HR.out;unfold rgx at h;rw[if_neg hN] at h;exact h)
  clear HR
  have q1:=ZaJ (x:=Lib.itoa A) (y:=[44]) (by unfold Fits;simp only[List.length_cons,List.length_nil];omega) Tryz.prog
  have q2:=ZaJ (x:=Lib.itoa A++[44]) (y:=Lib.itoa (A+N-1)) (by unfold Fits;simp only[List.length_append,List.length_cons,List.length_nil];omega) Tryz.prog
  go_enter Tryz.func35,Tryz.ntmps35
  go_wp2_with fail
  refine (ZlY A (by omega) (by omega) _ HT).mono ?_
  rintro e w1 ⟨rfl,hb1⟩
  have HT1:Hid (Tab10 w1):=HT.out.on hb1
  go_wp2_with fail
  refine (ZlY (A+N-1) (by omega) (by omega) _ HT1).mono ?_
  rintro e w2 ⟨rfl,hb2⟩
  go_wp2
  go_ret
  exact⟨by rw[← HE.out];rfl,hb1.trans (hb2.mono hb1.size)⟩
def ltrT (AN BN:Int):List UInt8:=if AN=0 then [97] else if BN=0 then [100] else [99]
theorem ZkN (AN BN:Int):(ltrT AN BN).length=1:=by
 unfold ltrT
 split
 ·rfl
 ·split<;>rfl
theorem Zmw (h:Hk) (v:Value) (w:World) (hv:HMk w v h.ls) (T:List UInt8) (HR:Hid (ltrT h.AN h.BN=T)) :
  Calls Tryz.prog 36 #[hkV h v] w fun e w'=>e=.returned (.string ⟨T.toArray⟩)∧Below w.heap.size w w':=by
 have hBl:Below w.heap.size w (w.alloc (hkO h v)):=(Below.refl _ w).alloc (Nat.le_refl _) _
 obtain⟨c0,c1,c2,c3,c4⟩:=(Hx.new w h v).cells
 unfold hkO at c0 c1 c2 c3 c4 hBl
 obtain⟨lo,lc,rfl⟩:=HMk.form hv
 have e:hkV h (.slice lo h.ls.length lc)=.agg #[.int .i64 h.A,.int .i64 h.AN,.int .i64 h.B,.int .i64 h.BN,.slice lo h.ls.length lc]:=rfl
 rw[e]
 clear e
 by_cases h1:h.AN=0
 ·have e1:(h.AN == 0)=true:=by rw[h1];rfl
  have hE:[97]=T:=(by have q:=HR.out;unfold ltrT at q;rw[if_pos h1] at q;exact q)
  subst hE
  clear HR h1
  go_enter Tryz.func36,Tryz.ntmps36
  go_wp2
  go_ret
  exact⟨rfl,hBl⟩
 ·have e1:(h.AN == 0)=false:=beq_eq_false_iff_ne.2 h1
  by_cases h2:h.BN=0
  ·have e2:(h.BN == 0)=true:=by rw[h2];rfl
   have hE:[100]=T:=(by have q:=HR.out;unfold ltrT at q;rw[if_neg h1,if_pos h2] at q;exact q)
   subst hE
   clear HR h1 h2
   go_enter Tryz.func36,Tryz.ntmps36
   go_wp2
   go_ret
   exact⟨rfl,hBl⟩
  ·have e2:(h.BN == 0)=false:=beq_eq_false_iff_ne.2 h2
   have hE:[99]=T:=(by have q:=HR.out;unfold ltrT at q;rw[if_neg h1,if_neg h2] at q;exact q)
   subst hE
   clear HR h1 h2
   go_enter Tryz.func36,Tryz.ntmps36
   go_wp2
   go_ret
   exact⟨rfl,hBl⟩
theorem Zmj (h:Hk) (v:Value) (w:World) (hv:∃ lo n lc,v=.slice lo n lc) (r:Bool) (HR:Hid ((decide (0<h.AN) && decide (0<h.BN))=r)) :
  Calls Tryz.prog 39 #[hkV h v] w fun e w'=>e=.returned (.bool r)∧Below w.heap.size w w':=by
 have hBl:Below w.heap.size w (w.alloc (hkO h v)):=(Below.refl _ w).alloc (Nat.le_refl _) _
 obtain⟨c0,c1,c2,c3,c4⟩:=(Hx.new w h v).cells
 unfold hkO at c0 c1 c2 c3 c4 hBl
 obtain⟨lo,n,lc,rfl⟩:=hv
 have e:hkV h (.slice lo n lc)=.agg #[.int .i64 h.A,.int .i64 h.AN,.int .i64 h.B,.int .i64 h.BN,.slice lo n lc]:=rfl
 rw[e]
 clear e
 by_cases h1:0<h.AN
 ·have hE:decide (0<h.BN)=r:=(by rw[← HR.out];simp[h1])
  subst hE
  clear HR
  go_enter Tryz.func39,Tryz.ntmps39
  go_wp2
  go_ret
  exact⟨rfl,hBl⟩
 ·have hE:false=r:=(by rw[← HR.out];simp[h1])
  subst hE
  clear HR
  go_enter Tryz.func39,Tryz.ntmps39
  go_wp2
  go_ret
  exact⟨rfl,hBl⟩
end

section
open Go.RowKit
theorem Zsy (s:List UInt8):Lib.hasSuffix s [10]=fdB s:=by
 unfold Lib.hasSuffix fdB
 rw[Bool.eq_iff_iff,List.isSuffixOf_iff_suffix,beq_iff_eq]
 constructor
 ·rintro⟨t,rfl⟩
  simp
 ·intro h
  obtain⟨t,rfl⟩:=List.getLast?_eq_some_iff.1 h
  exact⟨t,rfl⟩
def plT (s:List UInt8):List UInt8:=if fdB s=true then s else s++10::markT
theorem ZoB (ah s:List UInt8):(lnL ah s).flatten=ah++plT s:=by
 unfold lnL plT
 split<;>simp
theorem ZoF (s:List UInt8) (w:World) (hs:s.length≤1099511627776) (Z:List UInt8) (HZ:Hid (plT s=Z)) :
  Calls Tryz.prog 82 #[.string ⟨s.toArray⟩] w fun e w'=>e=.returned (.string ⟨Z.toArray⟩)∧w'=w:=by
 cases hf:fdB s with
 | true =>
  have HE:Hid (s=Z):=(by have h:=HZ.out;unfold plT at h;rw[if_pos hf] at h;exact h)
  clear HZ
  go_enter Tryz.func82,Tryz.ntmps82
  go_wp2_with fail
  refine (Tryz.strings_HasSuffix ⟨s.toArray⟩ ⟨#[10]⟩ w (by show s.length≤_;omega)).mono ?_
  rintro e w2 ⟨rfl,rfl⟩
  have e1:Lib.hasSuffix (⟨s.toArray⟩:ByteArray).data.toList (⟨#[10]⟩:ByteArray).data.toList=true:=(Zsy s).trans hf
  rw[e1]
  clear e1 hf
  go_wp2
  go_ret
  exact⟨by rw[← HE.out];rfl,rfl⟩
 | false =>
  have HE:Hid (s++10::markT=Z):=(by have h:=HZ.out;unfold plT at h;rw[if_neg (by rw[hf];decide)] at h;exact h)
  have q1:=ZaJ (x:=s) (y:=10::markT) (by unfold Fits;simp only[markT,List.length_cons,List.length_nil];omega) Tryz.prog
  rw[HE.out] at q1
  unfold markT at q1
  have q2:=ZaJ (x:=s) (y:=[10]) (by unfold Fits;simp only[List.length_cons,List.length_nil];omega) Tryz.prog
  have q3:=ZaJ (x:=s++[10]) (y:=markT) (by unfold Fits;simp only[markT,List.length_append,List.length_cons,List.length_nil];omega) Tryz.prog
  have q4:s++[10]++markT=Z:=(by rw[← HE.out];simp)
  rw[q4] at q3
  unfold markT at q3
  clear HZ q4
  go_enter Tryz.func82,Tryz.ntmps82
  go_wp2_with fail
  refine (Tryz.strings_HasSuffix ⟨s.toArray⟩ ⟨#[10]⟩ w (by show s.length≤_;omega)).mono ?_
  rintro e w2 ⟨rfl,rfl⟩
  have e1:Lib.hasSuffix (⟨s.toArray⟩:ByteArray).data.toList (⟨#[10]⟩:ByteArray).data.toList=false:=(Zsy s).trans hf
  rw[e1]
  clear e1 hf
  go_wp2
  go_ret
  exact⟨rfl,rfl⟩
end

section
open Go.RowKit
theorem Zbk (l:List UInt8):(Lib.byteCells l).length=l.length:=by simp[Lib.byteCells]
theorem ZiU {T e:TypeId} {B b:Nat} {bs:List Value} {w w':World} (h:Lib.IsBuilderF T e B b bs w) (hb:Below w.heap.size w w'):Lib.IsBuilderF T e B b bs w':=by
 have key:∀ p,Lib.BuilderAtF T e B b p bs w→Lib.BuilderAtF T e B b p bs w':=by
  rintro p ⟨h1,v,h2,h3,h4⟩
  refine⟨h1,v,(hb.block b (Array.getElem?_eq_some_iff.1 h2).1).trans h2,⟨h3.1,?_⟩,h4⟩
  rcases h3.2 with q | ⟨g,cap,cur,fz,q1,q2,q3,q4⟩
  ·exact .inl q
  ·exact .inr ⟨g,cap,cur,fz,q1,q2,(hb.block g (Array.getElem?_eq_some_iff.1 q3).1).trans q3,q4⟩
 rcases h with h | h
 ·exact .inl (key _ h)
 ·exact .inr (key _ h)
theorem ZiS (w:World):Lib.IsBuilderF 77 5 w.heap.size w.heap.size (Lib.byteCells []) (w.alloc (.cells #[.pointer none,.slice none 0 0] 77)) :=
 .inl ⟨Nat.le_refl _,.slice none 0 0,heap_alloc_new w _,⟨rfl,.inl ⟨rfl,rfl⟩⟩,by simp[Value.ownBlock]⟩
theorem ZnM {w u:World} {base b:Nat} {v:Value} {n:Nat} {xs:List Value} (h:w.ownsRow base 9 1 v n xs) (hk:Lib.OthersKept 5 (some b) w u) (hb:∀ g,v.ownBlock=some g→g≠b):u.ownsRow base 9 1 v n xs:=by
 refine⟨h.1,?_⟩
 rcases h.2 with q | ⟨g,cap,cur,rfl,q2,q3,q4⟩
 ·exact .inl q
 ·refine .inr ⟨g,cap,cur,rfl,q2,hk g _ q3 (fun e=>hb g rfl (Option.some.inj e)) (fun c fz e=>?_),q4⟩
  cases e
theorem Ziv {w u:World} {b B:Nat} {h:Hk} {v:Value} (q:Hx w B h v) (hk:Lib.OthersKept 5 (some b) w u) (hb:B≠b):Hx u B h v :=
 hk B _ q (fun e=>hb (Option.some.inj e)) (fun c fz e=>by cases e)
theorem Zmy (B b:Nat) (acc ah:List UInt8) (x:List (List UInt8)) (v:Value) (w:World) (hB:Lib.IsBuilderF 77 5 B b (Lib.byteCells acc) w) (hBw:B≤w.heap.size)
  (hv:∃ vo vc,v=.slice vo x.length vc) (HV:Hid (∀ u,Lib.OthersKept 5 (some b) w u→HS u v x)) (hxl:x.length≤1099511627776) (HTX:Hid (∀ s∈x,s.length≤1099511627776)) (hal:ah.length≤10) (Z:List UInt8) (HZ:Hid (acc++(x.flatMap (lnL ah)).flatten=Z)) (hZ:Z.length≤70368744177664) :
  Calls Tryz.prog 37 #[.pointer (some ⟨b,0,none⟩),.string ⟨ah.toArray⟩,v] w fun e w'=>e=.returned (.tuple #[])∧Lib.IsBuilderF 77 5 B b (Lib.byteCells Z) w'∧Below B w w'∧Lib.OthersKept 5 (some b) w w':=by
 obtain⟨vo,vc,rfl⟩:=hv
 go_enter Tryz.func37,Tryz.ntmps37
 go_wp2
 go_loopw [10] (fun i wr=>∃ (k:Nat) (ac:List UInt8),k≤x.length∧i=.int .i64 (k:Int)∧Lib.IsBuilderF 77 5 B b (Lib.byteCells ac) wr∧Below B w wr∧Lib.OthersKept 5 (some b) w wr∧Hid (ac++((x.drop k).flatMap (lnL ah)).flatten=Z)) (fun i _=>x.length-(intOf i).toNat)
 case atStart=>exact⟨0,acc,Nat.zero_le _,by go_num,hB,Below.refl _ _,Lib.OthersKept.refl _ _ _,HZ⟩
 case round =>
  obtain⟨k,ac,hk,rfl,hBr,hbr,hor,HI⟩:=hrel
  have hbz:B≤wr.heap.size:=Nat.le_trans hBw hbr.size
  have hacl:ac.length≤70368744177664:=(by
   have h1:=congrArg List.length HI.out
   rw[List.length_append] at h1
   omega)
  by_cases hlt:k<x.length
  ·obtain⟨bk,off,rfl,hbk,hcl⟩:=HS.at (HV.out wr hor) (by omega)
   have c0:=hcl k hlt
   have hsl:=HTX.out x[k] (List.getElem_mem _)
   have HE:Hid (ac++(lnL ah x[k]).flatten++((x.drop (k+1)).flatMap (lnL ah)).flatten=Z):=(by
    show _=_
    rw[← HI.out,List.drop_eq_getElem_cons hlt,List.flatMap_cons,List.flatten_append,List.append_assoc])
   obtain⟨s,hs⟩:∃ s,x[k]=s:=⟨_,rfl⟩
   rw[hs] at c0 hsl HE
   clear hcl hs HI HV HTX HZ
   have i1:0≤(k:Int):=by omega
   have i2:(k:Int)<(x.length:Int):=by omega
   obtain⟨T,hT⟩:∃ T,plT s=T:=⟨_,rfl⟩
   have HT:Hid (plT s=T):=hT
   have hTl:T.length≤s.length+29:=(by
    rw[← hT]
    unfold plT
    split
    ·omega
    ·simp only[markT,List.length_append,List.length_cons,List.length_nil]
     omega)
   have HE2:Hid (ac++(ah++T)++((x.drop (k+1)).flatMap (lnL ah)).flatten=Z):=(by
    show _=_
    rw[← HE.out,ZoB,hT])
   have hZl:ac.length+(ah++T).length≤70368744177664:=(by
    have h1:=congrArg List.length HE2.out
    simp only[List.length_append] at h1 ⊢
    omega)
   have q1:=ZaJ (x:=ah) (y:=T) (by unfold Fits;omega) Tryz.prog
   clear hT HE
   go_wp2_with fail
   refine (ZoF s wr hsl T HT).mono ?_
   rintro e w0 ⟨rfl,rfl⟩
   go_wp2_with fail
   refine (Tryz.WriteString_h B b _ _ w0 hBr (by rw[Zbk];show ac.length+(ah++T).length≤_;omega) hbz).mono ?_
   rintro e w1 ⟨rfl,hB1,hb1,ho1⟩
   have hB2:Lib.IsBuilderF 77 5 B b (Lib.byteCells (ac++(ah++T))) w1:=.inr (by rw[Lib.byteCells_append];exact hB1)
   have hb2:=hbr.trans hb1
   have ho2:=hor.trans ho1
   clear hB1 hb1 ho1 hBr hbr hor q1 c0
   go_wp2
   exact⟨⟨k+1,_,by omega,by go_num,hB2,hb2,ho2,HE2⟩,by simp[intOf];omega⟩
  ·have HE:Hid (ac=Z):=(by
    have h:=HI.out
    rw[List.drop_of_length_le (by omega)] at h
    show ac=Z
    simpa using h)
   have hend:decide ((k:Int)<(x.length:Int))=false:=decide_eq_false (by omega)
   clear HI
   go_wp2
   first
    | go_end0
    | refine bodyPost_ret (results_none rfl _ _ _) rfl ?_
    | refine bodyPost_end (results_none rfl _ _ _) rfl ?_
   exact⟨rfl,by rw[← HE.out];exact hBr,hbr,hor⟩
end

end Go.Proofs.YtgiojkhmkeocfaaGreatDoor
