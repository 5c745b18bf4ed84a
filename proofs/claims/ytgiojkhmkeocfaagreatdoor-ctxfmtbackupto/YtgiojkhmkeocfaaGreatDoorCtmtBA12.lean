/-
  Texts that belong together, joined: Itoa, NoShelfX, NoShelf, LnShelf, LnMath, HuLm, Math, PMath, BackMath, NoMath, NoB, NoRd, NoPk, NoJn, NoMk, NoWs, NoTx, NoRf, NoCg, NoM2, NoM3, NoPr, NoLen, NcW, PtL, NcL, NpE, NoM4, NpM, NpF, NpG.
-/
import Derived.Shelf.Strconv.Itoa3
import Derived.Test.YtgiojkhmkeocfaaGreatDoorProg
import Derived.Shelf.Small.Strs
import Derived.Shelf.Small.Utf8
import Derived.Shelf.Strings.Runes
import Derived.Shelf.Strings.IndexAny
import Derived.Shelf.Strings.IndexAnyAll
import Derived.Shelf.Strings.Search2
import Derived.Test.YtgiojkhmkeocfaaGreatDoorCtmtBA1
import Derived.Shelf.Strings.BuilderK
import Derived.Shelf.Small.Wraps
import Derived.Shelf.Strings.Search3
import Derived.Lib.Bytealg
import Derived.Lib.Join
import Derived.Test.YtgiojkhmkeocfaaGreatDoorCtmtBA3
import Derived.Lib.ItoaNum
import Derived.Test.YtgiojkhmkeocfaaGreatDoorCtmtBA4
import Derived.Deep.CutBlock
import Derived.Deep.RegionHeld3
import Derived.Laws.IdiomStrings
import Derived.Deep.DeepCutAuto
import Derived.Lib.AppendIntMem
import Derived.Lib.FrozenHead2
import Derived.WalkLawsBesides

set_option maxHeartbeats 16000000
set_option maxRecDepth 100000
namespace Go.Proofs

section
open Go.Shelf
def Tryz.laysM171_ren : Go.Shelf.Ren := ⟨fun | 171 => 134 | 243 => 196 | 246 => 239 | 283 => 268 | 284 => 269 | 285 => 270 | 286 => 271 | 129 => 290 | 317 => 289 | 318 => 291 | 319 => 292 | 320 => 293 | 337 => 304 | 338 => 305 | n => n, fun | 3 => 3 | 9 => 9 | 2 => 2 | 4 => 4 | 171 => 322 | 0 => 0 | 53 => 29 | 37 => 75 | 5 => 5 | 173 => 325 | 212 => 337 | 51 => 235 | 20 => 20 | 213 => 338 | 46 => 180 | 232 => 352 | 233 => 353 | n => n, fun | 17 => 2 | 18 => 3 | 19 => 4 | n => n⟩
theorem Tryz.laysM171 : Go.Proofs.LaysM.n171 Tryz.prog Tryz.laysM171_ren := {
  mixed := by kernel_rfl
  f129 := Tryz.func290.trans (congrArg some (by kernel_rfl))
  f171 := Tryz.func134.trans (congrArg some (by kernel_rfl))
  f243 := Tryz.func196.trans (congrArg some (by kernel_rfl))
  f246 := Tryz.func239.trans (congrArg some (by kernel_rfl))
  f283 := Tryz.func268.trans (congrArg some (by kernel_rfl))
  f284 := Tryz.func269.trans (congrArg some (by kernel_rfl))
  f285 := Tryz.func270.trans (congrArg some (by kernel_rfl))
  f286 := Tryz.func271.trans (congrArg some (by kernel_rfl))
  f317 := Tryz.func289.trans (congrArg some (by kernel_rfl))
  f318 := Tryz.func291.trans (congrArg some (by kernel_rfl))
  f319 := Tryz.func292.trans (congrArg some (by kernel_rfl))
  f320 := Tryz.func293.trans (congrArg some (by kernel_rfl))
  f337 := Tryz.func304.trans (congrArg some (by kernel_rfl))
  f338 := Tryz.func305.trans (congrArg some (by kernel_rfl))
  t0 := Tryz.underlying0
  a0 := Tryz.isAgg0
  z0 := Tryz.sizeOf0
  v0 := Tryz.zeroValue0
  t2 := Tryz.underlying2
  a2 := Tryz.isAgg2
  z2 := Tryz.sizeOf2
  v2 := Tryz.zeroValue2
  t3 := Tryz.underlying3
  a3 := Tryz.isAgg3
  z3 := Tryz.sizeOf3
  v3 := Tryz.zeroValue3
  t4 := Tryz.underlying4
  a4 := Tryz.isAgg4
  z4 := Tryz.sizeOf4
  v4 := Tryz.zeroValue4
  t5 := Tryz.underlying5
  a5 := Tryz.isAgg5
  z5 := Tryz.sizeOf5
  v5 := Tryz.zeroValue5
  t9 := Tryz.underlying9
  a9 := Tryz.isAgg9
  z9 := Tryz.sizeOf9
  v9 := Tryz.zeroValue9
  t20 := Tryz.underlying20
  a20 := Tryz.isAgg20
  z20 := Tryz.sizeOf20
  v20 := Tryz.zeroValue20
  t37 := Tryz.underlying75
  a37 := Tryz.isAgg75
  z37 := Tryz.sizeOf75
  v37 := Tryz.zeroValue75
  t46 := Tryz.underlying180
  a46 := Tryz.isAgg180
  z46 := Tryz.sizeOf180
  v46 := Tryz.zeroValue180
  t51 := Tryz.underlying235
  a51 := Tryz.isAgg235
  z51 := Tryz.sizeOf235
  v51 := Tryz.zeroValue235
  t53 := Tryz.underlying29
  a53 := Tryz.isAgg29
  z53 := Tryz.sizeOf29
  v53 := Tryz.zeroValue29
  t171 := Tryz.underlying322
  a171 := Tryz.isAgg322
  z171 := Tryz.sizeOf322
  v171 := Tryz.zeroValue322
  t173 := Tryz.underlying325
  a173 := Tryz.isAgg325
  z173 := Tryz.sizeOf325
  v173 := Tryz.zeroValue325
  t212 := Tryz.underlying337
  a212 := Tryz.isAgg337
  z212 := Tryz.sizeOf337
  v212 := Tryz.zeroValue337
  t213 := Tryz.underlying338
  a213 := Tryz.isAgg338
  z213 := Tryz.sizeOf338
  t232 := Tryz.underlying352
  a232 := Tryz.isAgg352
  z232 := Tryz.sizeOf352
  v232 := Tryz.zeroValue352
  t233 := Tryz.underlying353
  a233 := Tryz.isAgg353
  z233 := Tryz.sizeOf353
  v233 := Tryz.zeroValue353
  g17 := by kernel_rfl
  g18 := by kernel_rfl
  g19 := by kernel_rfl
  i0 := by kernel_rfl
  i2 := by kernel_rfl
  i3 := by kernel_rfl
  i4 := by kernel_rfl
  i5 := by kernel_rfl
  i9 := by kernel_rfl
  i20 := by kernel_rfl
  i37 := by kernel_rfl
  i46 := by kernel_rfl
  i51 := by kernel_rfl
  i53 := by kernel_rfl
  i171 := by kernel_rfl
  i173 := by kernel_rfl
  i212 := by kernel_rfl
  i232 := by kernel_rfl
  i233 := by kernel_rfl
  m17 := by kernel_rfl
  m18 := by kernel_rfl
  m19 := by kernel_rfl }
open Go.RowKit Go.Sort Go.Lib in
theorem Tryz.strconv_Itoa (n : Int) (h0 : -9223372036854775808 ≤ n) (h1 : n ≤ 9223372036854775807) (w : World) (htab : Lib.TabIs Tryz.prog w "internal/strconv.uint64pow10" .u64 Lib.pow10Tab) :
    Calls Tryz.prog 134 #[.int .i64 n] w fun e w' => e = .returned (.string ⟨(Lib.itoa n).toArray⟩) ∧ ∃ k os, w' = grow (w.drewN k) os := Any.strconv_Itoa Tryz.laysM171 n h0 h1 w htab
end

section
open Go.Shelf
def Tryz.lays119_ren : Go.Shelf.Ren := ⟨fun | 119 => 273 | n => n, fun | 21 => 21 | 4 => 4 | n => n, fun | n => n⟩
theorem Tryz.lays119 : Go.Proofs.Lays.n119 Tryz.prog Tryz.lays119_ren := {
  mixed := by kernel_rfl
  f119 := Tryz.func273.trans (congrArg some (by kernel_rfl))
  t4 := Tryz.underlying4
  a4 := Tryz.isAgg4
  z4 := Tryz.sizeOf4
  v4 := Tryz.zeroValue4
  t21 := Tryz.underlying21
  a21 := Tryz.isAgg21
  z21 := Tryz.sizeOf21
  v21 := Tryz.zeroValue21 }
theorem Tryz.utf8_ValidRune (r : Int) (w : World) :
    Calls Tryz.prog 273 #[.int .i32 r] w fun e w' => e = .returned (.bool (Lib.validRune r)) ∧ w' = w := Any.utf8_ValidRune Tryz.lays119 r w
def Tryz.lays219_ren : Go.Shelf.Ren := ⟨fun | 219 => 75 | 217 => 123 | 225 => 124 | 224 => 125 | 267 => 126 | 266 => 176 | 314 => 177 | n => n, fun | 9 => 9 | 3 => 3 | 4 => 4 | 5 => 5 | 46 => 180 | 146 => 236 | 51 => 235 | n => n, fun | 1 => 1 | n => n⟩
theorem Tryz.lays219 : Go.Proofs.Lays.n219 Tryz.prog Tryz.lays219_ren := {
  mixed := by kernel_rfl
  f217 := Tryz.func123.trans (congrArg some (by kernel_rfl))
  f219 := Tryz.func75.trans (congrArg some (by kernel_rfl))
  f224 := Tryz.func125.trans (congrArg some (by kernel_rfl))
  f225 := Tryz.func124.trans (congrArg some (by kernel_rfl))
  f266 := Tryz.func176.trans (congrArg some (by kernel_rfl))
  f267 := Tryz.func126.trans (congrArg some (by kernel_rfl))
  f314 := Tryz.func177.trans (congrArg some (by kernel_rfl))
  t3 := Tryz.underlying3
  a3 := Tryz.isAgg3
  z3 := Tryz.sizeOf3
  v3 := Tryz.zeroValue3
  t4 := Tryz.underlying4
  a4 := Tryz.isAgg4
  z4 := Tryz.sizeOf4
  v4 := Tryz.zeroValue4
  t5 := Tryz.underlying5
  a5 := Tryz.isAgg5
  z5 := Tryz.sizeOf5
  v5 := Tryz.zeroValue5
  t9 := Tryz.underlying9
  a9 := Tryz.isAgg9
  z9 := Tryz.sizeOf9
  v9 := Tryz.zeroValue9
  t46 := Tryz.underlying180
  a46 := Tryz.isAgg180
  z46 := Tryz.sizeOf180
  v46 := Tryz.zeroValue180
  t51 := Tryz.underlying235
  a51 := Tryz.isAgg235
  z51 := Tryz.sizeOf235
  v51 := Tryz.zeroValue235
  t146 := Tryz.underlying236
  a146 := Tryz.isAgg236
  z146 := Tryz.sizeOf236
  v146 := Tryz.zeroValue236
  g1 := by kernel_rfl }
open Go.RowKit Go.Lib in
theorem Tryz.stringslite_Index_one (s : ByteArray) (c : UInt8) (w : World) :
    Calls Tryz.prog 75 #[.string s, .string ⟨#[c]⟩] w fun e w' => e = .returned (.int .i64 (Lib.indexByte s.data.toList c)) ∧ w' = w := Any.stringslite_Index_one Tryz.lays219 s c w
def Tryz.lays152_ren : Go.Shelf.Ren := ⟨fun | 152 => 240 | 137 => 272 | 119 => 273 | 224 => 125 | 225 => 124 | 217 => 123 | 266 => 176 | n => n, fun | 9 => 9 | 21 => 21 | 3 => 3 | 4 => 4 | 5 => 5 | 0 => 0 | 46 => 180 | n => n, fun | n => n⟩
theorem Tryz.lays152 : Go.Proofs.Lays.n152 Tryz.prog Tryz.lays152_ren := {
  mixed := by kernel_rfl
  f119 := Tryz.func273.trans (congrArg some (by kernel_rfl))
  f137 := Tryz.func272.trans (congrArg some (by kernel_rfl))
  f152 := Tryz.func240.trans (congrArg some (by kernel_rfl))
  f217 := Tryz.func123.trans (congrArg some (by kernel_rfl))
  f224 := Tryz.func125.trans (congrArg some (by kernel_rfl))
  f225 := Tryz.func124.trans (congrArg some (by kernel_rfl))
  f266 := Tryz.func176.trans (congrArg some (by kernel_rfl))
  t0 := Tryz.underlying0
  a0 := Tryz.isAgg0
  z0 := Tryz.sizeOf0
  v0 := Tryz.zeroValue0
  t3 := Tryz.underlying3
  a3 := Tryz.isAgg3
  z3 := Tryz.sizeOf3
  v3 := Tryz.zeroValue3
  t4 := Tryz.underlying4
  a4 := Tryz.isAgg4
  z4 := Tryz.sizeOf4
  v4 := Tryz.zeroValue4
  t5 := Tryz.underlying5
  a5 := Tryz.isAgg5
  z5 := Tryz.sizeOf5
  v5 := Tryz.zeroValue5
  t9 := Tryz.underlying9
  a9 := Tryz.isAgg9
  z9 := Tryz.sizeOf9
  v9 := Tryz.zeroValue9
  t21 := Tryz.underlying21
  a21 := Tryz.isAgg21
  z21 := Tryz.sizeOf21
  v21 := Tryz.zeroValue21
  t46 := Tryz.underlying180
  a46 := Tryz.isAgg180
  z46 := Tryz.sizeOf180
  v46 := Tryz.zeroValue180 }
open Go.RowKit Go.Lib in
theorem Tryz.strings_IndexRune_ascii (s : ByteArray) (r : Int) (w : World) (h0 : 0 ≤ r) (h1 : r < 128) :
    Calls Tryz.prog 240 #[.string s, .int .i32 r] w fun e w' => e = .returned (.int .i64 (Lib.indexByte s.data.toList r.toNat.toUInt8)) ∧ w' = w := Any.strings_IndexRune_ascii Tryz.lays152 s r w h0 h1
def Tryz.lays153_ren : Go.Shelf.Ren := ⟨fun | 153 => 198 | 152 => 240 | 226 => 241 | 227 => 242 | 228 => 243 | 137 => 272 | 119 => 273 | 224 => 125 | 225 => 124 | 217 => 123 | 266 => 176 | n => n, fun | 9 => 9 | 3 => 3 | 4 => 4 | 5 => 5 | 21 => 21 | 117 => 298 | 116 => 297 | 0 => 0 | 46 => 180 | 124 => 327 | n => n, fun | n => n⟩
theorem Tryz.lays153 : Go.Proofs.Lays.n153 Tryz.prog Tryz.lays153_ren := {
  mixed := by kernel_rfl
  f119 := Tryz.func273.trans (congrArg some (by kernel_rfl))
  f137 := Tryz.func272.trans (congrArg some (by kernel_rfl))
  f152 := Tryz.func240.trans (congrArg some (by kernel_rfl))
  f153 := Tryz.func198.trans (congrArg some (by kernel_rfl))
  f217 := Tryz.func123.trans (congrArg some (by kernel_rfl))
  f224 := Tryz.func125.trans (congrArg some (by kernel_rfl))
  f225 := Tryz.func124.trans (congrArg some (by kernel_rfl))
  f226 := Tryz.func241.trans (congrArg some (by kernel_rfl))
  f227 := Tryz.func242.trans (congrArg some (by kernel_rfl))
  f228 := Tryz.func243.trans (congrArg some (by kernel_rfl))
  f266 := Tryz.func176.trans (congrArg some (by kernel_rfl))
  t0 := Tryz.underlying0
  a0 := Tryz.isAgg0
  z0 := Tryz.sizeOf0
  v0 := Tryz.zeroValue0
  t3 := Tryz.underlying3
  a3 := Tryz.isAgg3
  z3 := Tryz.sizeOf3
  v3 := Tryz.zeroValue3
  t4 := Tryz.underlying4
  a4 := Tryz.isAgg4
  z4 := Tryz.sizeOf4
  v4 := Tryz.zeroValue4
  t5 := Tryz.underlying5
  a5 := Tryz.isAgg5
  z5 := Tryz.sizeOf5
  v5 := Tryz.zeroValue5
  t9 := Tryz.underlying9
  a9 := Tryz.isAgg9
  z9 := Tryz.sizeOf9
  v9 := Tryz.zeroValue9
  t21 := Tryz.underlying21
  a21 := Tryz.isAgg21
  z21 := Tryz.sizeOf21
  v21 := Tryz.zeroValue21
  t46 := Tryz.underlying180
  a46 := Tryz.isAgg180
  z46 := Tryz.sizeOf180
  v46 := Tryz.zeroValue180
  t116 := Tryz.underlying297
  a116 := Tryz.isAgg297
  z116 := Tryz.sizeOf297
  t117 := Tryz.underlying298
  a117 := Tryz.isAgg298
  z117 := Tryz.sizeOf298
  v117 := Tryz.zeroValue298
  t124 := Tryz.underlying327
  a124 := Tryz.isAgg327
  z124 := Tryz.sizeOf327
  v124 := Tryz.zeroValue327 }
open Go.RowKit Go.Lib in
theorem Tryz.strings_IndexAny_long (hv116 : ∀ w, (zeroValue 297).run Tryz.prog w = .ok (.agg (Array.replicate 256 (.bool false))) w) (s chars : ByteArray) (w : World) (h2 : 2 ≤ chars.size) (h8 : 8 < s.size) (hs : s.size < 4294967281) (hcs : chars.size < 4294967281) (hascii : ∀ (j : Nat) b, chars.data.toList[j]? = some b → b.toNat < 128) :
    Calls Tryz.prog 198 #[.string s, .string chars] w fun e w' => e = .returned (.int .i64 (Lib.indexAny s.data.toList chars.data.toList)) ∧ w' = ((w.alloc (.cells (Lib.setCells chars.data.toList) 297)).alloc (.cells (Lib.setCells chars.data.toList) 297)) := Any.strings_IndexAny_long Tryz.lays153 hv116 (by kernel_rfl) s chars w h2 h8 hs hcs hascii
end

section
open Go.Shelf
def Tryz.lays103_ren : Go.Shelf.Ren := ⟨fun | 103 => 167 | 210 => 222 | 206 => 204 | n => n, fun | 9 => 9 | 4 => 4 | 24 => 214 | 3 => 3 | n => n, fun | n => n⟩
theorem Tryz.lays103 : Go.Proofs.Lays.n103 Tryz.prog Tryz.lays103_ren := {
  mixed := by kernel_rfl
  f103 := Tryz.func167.trans (congrArg some (by kernel_rfl))
  f206 := Tryz.func204.trans (congrArg some (by kernel_rfl))
  f210 := Tryz.func222.trans (congrArg some (by kernel_rfl))
  t3 := Tryz.underlying3
  a3 := Tryz.isAgg3
  z3 := Tryz.sizeOf3
  v3 := Tryz.zeroValue3
  t4 := Tryz.underlying4
  a4 := Tryz.isAgg4
  z4 := Tryz.sizeOf4
  v4 := Tryz.zeroValue4
  t9 := Tryz.underlying9
  a9 := Tryz.isAgg9
  z9 := Tryz.sizeOf9
  v9 := Tryz.zeroValue9
  t24 := Tryz.underlying214
  a24 := Tryz.isAgg214
  z24 := Tryz.sizeOf214
  v24 := Tryz.zeroValue214 }
open Go.RowKit in
theorem Tryz.strings_CutPrefix (s p : ByteArray) (w : World) :
    Calls Tryz.prog 167 #[.string s, .string p] w fun e w' => e = .returned (.tuple #[.string ⟨(Lib.trimPrefix s.data.toList p.data.toList).toArray⟩, .bool (Lib.hasPrefix s.data.toList p.data.toList)]) ∧ w' = w := Any.strings_CutPrefix Tryz.lays103 s p w
def Tryz.lays99_ren : Go.Shelf.Ren := ⟨fun | 99 => 149 | 206 => 204 | n => n, fun | 9 => 9 | 4 => 4 | 3 => 3 | n => n, fun | n => n⟩
theorem Tryz.lays99 : Go.Proofs.Lays.n99 Tryz.prog Tryz.lays99_ren := {
  mixed := by kernel_rfl
  f99 := Tryz.func149.trans (congrArg some (by kernel_rfl))
  f206 := Tryz.func204.trans (congrArg some (by kernel_rfl))
  t3 := Tryz.underlying3
  a3 := Tryz.isAgg3
  z3 := Tryz.sizeOf3
  v3 := Tryz.zeroValue3
  t4 := Tryz.underlying4
  a4 := Tryz.isAgg4
  z4 := Tryz.sizeOf4
  v4 := Tryz.zeroValue4
  t9 := Tryz.underlying9
  a9 := Tryz.isAgg9
  z9 := Tryz.sizeOf9
  v9 := Tryz.zeroValue9 }
open Go.RowKit Go.Lib in
theorem Tryz.strings_HasPrefix (s p : ByteArray) (w : World) :
    Calls Tryz.prog 149 #[.string s, .string p] w fun e w' => e = .returned (.bool (Lib.hasPrefix s.data.toList p.data.toList)) ∧ w' = w := Any.strings_HasPrefix Tryz.lays99 s p w
def Tryz.lays100_ren : Go.Shelf.Ren := ⟨fun | 100 => 135 | 207 => 197 | n => n, fun | 9 => 9 | 4 => 4 | 3 => 3 | n => n, fun | n => n⟩
theorem Tryz.lays100 : Go.Proofs.Lays.n100 Tryz.prog Tryz.lays100_ren := {
  mixed := by kernel_rfl
  f100 := Tryz.func135.trans (congrArg some (by kernel_rfl))
  f207 := Tryz.func197.trans (congrArg some (by kernel_rfl))
  t3 := Tryz.underlying3
  a3 := Tryz.isAgg3
  z3 := Tryz.sizeOf3
  v3 := Tryz.zeroValue3
  t4 := Tryz.underlying4
  a4 := Tryz.isAgg4
  z4 := Tryz.sizeOf4
  v4 := Tryz.zeroValue4
  t9 := Tryz.underlying9
  a9 := Tryz.isAgg9
  z9 := Tryz.sizeOf9
  v9 := Tryz.zeroValue9 }
open Go.RowKit Go.Lib in
theorem Tryz.strings_HasSuffix (s p : ByteArray) (w : World) (hs : s.size ≤ 9223372036854775807) :
    Calls Tryz.prog 135 #[.string s, .string p] w fun e w' => e = .returned (.bool (Lib.hasSuffix s.data.toList p.data.toList)) ∧ w' = w := Any.strings_HasSuffix Tryz.lays100 s p w hs
def Tryz.lays102_ren : Go.Shelf.Ren := ⟨fun | 102 => 137 | 209 => 200 | 207 => 197 | n => n, fun | 9 => 9 | 4 => 4 | 3 => 3 | n => n, fun | n => n⟩
theorem Tryz.lays102 : Go.Proofs.Lays.n102 Tryz.prog Tryz.lays102_ren := {
  mixed := by kernel_rfl
  f102 := Tryz.func137.trans (congrArg some (by kernel_rfl))
  f207 := Tryz.func197.trans (congrArg some (by kernel_rfl))
  f209 := Tryz.func200.trans (congrArg some (by kernel_rfl))
  t3 := Tryz.underlying3
  a3 := Tryz.isAgg3
  z3 := Tryz.sizeOf3
  v3 := Tryz.zeroValue3
  t4 := Tryz.underlying4
  a4 := Tryz.isAgg4
  z4 := Tryz.sizeOf4
  v4 := Tryz.zeroValue4
  t9 := Tryz.underlying9
  a9 := Tryz.isAgg9
  z9 := Tryz.sizeOf9
  v9 := Tryz.zeroValue9 }
open Go.RowKit Go.Lib in
theorem Tryz.strings_TrimSuffix (s p : ByteArray) (w : World) (hs : s.size ≤ 9223372036854775807) :
    Calls Tryz.prog 137 #[.string s, .string p] w fun e w' => e = .returned (.string ⟨(Lib.trimSuffix s.data.toList p.data.toList).toArray⟩) ∧ w' = w := Any.strings_TrimSuffix Tryz.lays102 s p w hs
end

section
open Go.Shelf
def Tryz.lays143_ren : Go.Shelf.Ren := ⟨fun | 143 => 31 | 219 => 75 | 217 => 123 | 225 => 124 | 224 => 125 | 267 => 126 | 266 => 176 | 314 => 177 | n => n, fun | 9 => 9 | 3 => 3 | 4 => 4 | 5 => 5 | 46 => 180 | 146 => 236 | 51 => 235 | n => n, fun | 1 => 1 | n => n⟩
theorem Tryz.lays143 : Go.Proofs.Lays.n143 Tryz.prog Tryz.lays143_ren := {
  mixed := by kernel_rfl
  f143 := Tryz.func31.trans (congrArg some (by kernel_rfl))
  f217 := Tryz.func123.trans (congrArg some (by kernel_rfl))
  f219 := Tryz.func75.trans (congrArg some (by kernel_rfl))
  f224 := Tryz.func125.trans (congrArg some (by kernel_rfl))
  f225 := Tryz.func124.trans (congrArg some (by kernel_rfl))
  f266 := Tryz.func176.trans (congrArg some (by kernel_rfl))
  f267 := Tryz.func126.trans (congrArg some (by kernel_rfl))
  f314 := Tryz.func177.trans (congrArg some (by kernel_rfl))
  t3 := Tryz.underlying3
  a3 := Tryz.isAgg3
  z3 := Tryz.sizeOf3
  v3 := Tryz.zeroValue3
  t4 := Tryz.underlying4
  a4 := Tryz.isAgg4
  z4 := Tryz.sizeOf4
  v4 := Tryz.zeroValue4
  t5 := Tryz.underlying5
  a5 := Tryz.isAgg5
  z5 := Tryz.sizeOf5
  v5 := Tryz.zeroValue5
  t9 := Tryz.underlying9
  a9 := Tryz.isAgg9
  z9 := Tryz.sizeOf9
  v9 := Tryz.zeroValue9
  t46 := Tryz.underlying180
  a46 := Tryz.isAgg180
  z46 := Tryz.sizeOf180
  v46 := Tryz.zeroValue180
  t51 := Tryz.underlying235
  a51 := Tryz.isAgg235
  z51 := Tryz.sizeOf235
  v51 := Tryz.zeroValue235
  t146 := Tryz.underlying236
  a146 := Tryz.isAgg236
  z146 := Tryz.sizeOf236
  v146 := Tryz.zeroValue236
  g1 := by kernel_rfl }
open Go.RowKit Go.Lib in
theorem Tryz.strings_Index_one (s : ByteArray) (c : UInt8) (w : World) :
    Calls Tryz.prog 31 #[.string s, .string ⟨#[c]⟩] w fun e w' => e = .returned (.int .i64 (Lib.indexByte s.data.toList c)) ∧ w' = w := Any.strings_Index_one Tryz.lays143 s c w
end

end Go.Proofs

namespace Go.Proofs.YtgiojkhmkeocfaaGreatDoor.Ln

section
open Go
def splitL:List UInt8→List (List UInt8)
 | []=>[]
 | c::t=>if c=10 then [c]::splitL t else match splitL t with
  | []=>[[c]]
  | x::r=>(c::x)::r
theorem split_cut (a b:List UInt8) (h:∀ c∈a,c≠10):splitL (a++10::b)=(a++[10])::splitL b:=by
 induction a with
 | nil=>simp[splitL]
 | cons c a ih =>
  have hc:c≠10:=h c (by simp)
  have:=ih fun x hx=>h x (by simp[hx])
  simp only[List.cons_append,splitL,hc,if_false,this]
theorem split_one (a:List UInt8) (h:∀ c∈a,c≠10) (h0:a≠[]):splitL a=[a]:=by
 induction a with
 | nil=>exact absurd rfl h0
 | cons c a ih =>
  have hc:c≠10:=h c (by simp)
  cases a with
  | nil=>simp[splitL,hc]
  | cons d a =>
   have:=ih (fun x hx=>h x (by simp[hx])) (by simp)
   simp only[splitL,hc,if_false] at this ⊢
   rw[this]
theorem split_join (l:List UInt8):(splitL l).flatten=l:=by
 induction l with
 | nil=>rfl
 | cons c t ih =>
  unfold splitL
  by_cases hc:c=10
  ·simp[hc,ih]
  ·simp only[hc,if_false]
   cases hs:splitL t with
   | nil=>rw[hs] at ih;simp at ih;simp[← ih]
   | cons x r=>rw[hs] at ih;simp at ih;simp[ih]
theorem split_len (l:List UInt8):(splitL l).length≤l.length:=by
 induction l with
 | nil=>simp[splitL]
 | cons c t ih =>
  unfold splitL
  by_cases hc:c=10
  ·simp[hc];omega
  ·simp only[hc,if_false]
   cases hs:splitL t with
   | nil=>simp
   | cons x r=>rw[hs] at ih;simp at ih ⊢;omega
def lineB:List UInt8→Bool→Bool
 | [],_=>false
 | [c],last=>last || c == 10
 | c::d::t,last=>c != 10 && lineB (d::t) last
def checkB:List (List UInt8)→Bool
 | []=>true
 | s::t=>lineB s t.isEmpty && checkB t
theorem lineB_cons (c:UInt8) (x:List UInt8) (last:Bool) (hx:x≠[]):lineB (c::x) last=(c != 10 && lineB x last):=by
 cases x with
 | nil=>exact absurd rfl hx
 | cons d t=>rfl
theorem lineB_ne {x:List UInt8} {last:Bool} (h:lineB x last=true):x≠[]:=by rintro rfl;cases h
theorem lineB_false {x:List UInt8} (h:lineB x false=true):∃ a,x=a++[10]∧∀ c∈a,c≠10:=by
 induction x with
 | nil=>cases h
 | cons c t ih =>
  cases t with
  | nil=>exact⟨[],by simpa [lineB] using h,by simp⟩
  | cons d t =>
   simp only[lineB,Bool.and_eq_true,bne_iff_ne] at h
   obtain⟨a,ha,hn⟩:=ih h.2
   refine⟨c::a,by rw[ha];rfl,?_⟩
   intro x hx
   simp only[List.mem_cons] at hx
   rcases hx with rfl | hx
   ·exact h.1
   ·exact hn x hx
theorem lineB_true {x:List UInt8} (h:lineB x true=true):lineB x false=true∨∀ c∈x,c≠10:=by
 induction x with
 | nil=>cases h
 | cons c t ih =>
  cases t with
  | nil =>
   by_cases hc:c=10
   ·exact .inl (by simp[lineB,hc])
   ·exact .inr (by simpa using hc)
  | cons d t =>
   simp only[lineB,Bool.and_eq_true,bne_iff_ne] at h
   rcases ih h.2 with h2 | h2
   ·exact .inl (by simp only[lineB,Bool.and_eq_true,bne_iff_ne];exact⟨h.1,h2⟩)
   ·refine .inr ?_
    intro x hx
    simp only[List.mem_cons] at hx
    rcases hx with rfl | hx
    ·exact h.1
    ·exact h2 x (by simpa using hx)
theorem split_right (l:List UInt8):checkB (splitL l)=true:=by
 induction l with
 | nil=>rfl
 | cons c t ih =>
  unfold splitL
  by_cases hc:c=10
  ·simp[hc,checkB,lineB,ih]
  ·simp only[hc,if_false]
   cases hs:splitL t with
   | nil=>simp[checkB,lineB]
   | cons x r =>
    rw[hs] at ih
    simp only[checkB,Bool.and_eq_true] at ih ⊢
    rw[lineB_cons c x _ (lineB_ne ih.1)]
    simp[hc,ih.1,ih.2]
theorem right_split (ws:List (List UInt8)) (h:checkB ws=true):splitL ws.flatten=ws:=by
 induction ws with
 | nil=>rfl
 | cons x r ih =>
  simp only[checkB,Bool.and_eq_true] at h
  have hr:=ih h.2
  cases r with
  | nil =>
   simp only[List.flatten_cons,List.flatten_nil,List.append_nil]
   rcases lineB_true (by simpa using h.1) with h1 | h1
   ·obtain⟨a,rfl,hn⟩:=lineB_false h1
    rw[split_cut a [] hn];rfl
   ·exact split_one x h1 (lineB_ne h.1)
  | cons y r =>
   obtain⟨a,rfl,hn⟩:=lineB_false (by simpa using h.1)
   rw[List.flatten_cons,List.append_assoc]
   rw[show a++([10]++(y::r).flatten)=a++10::(y::r).flatten from rfl,split_cut a _ hn,hr]
theorem index_none {l:List UInt8} {c:UInt8} (h:Lib.indexByte l c<0):Lib.indexByte l c=-1∧∀ x∈l,x≠c:=by
 induction l with
 | nil=>exact⟨rfl,by simp⟩
 | cons b l ih =>
  unfold Lib.indexByte at h ⊢
  by_cases hb:(b == c)=true
  ·rw[if_pos hb] at h;simp at h
  ·rw[if_neg hb] at h ⊢
   by_cases h1:(Lib.indexByte l c == -1)=true
   ·rw[if_pos h1]
    have h2:=ih (by simp at h1;omega)
    refine⟨rfl,?_⟩
    intro x hx
    simp only[List.mem_cons] at hx
    rcases hx with rfl | hx
    ·simpa using hb
    ·exact h2.2 x hx
   ·rw[if_neg h1] at h
    have:=Lib.indexByte_ge l c
    simp at h1
    omega
theorem index_some {l:List UInt8} {c:UInt8} (h:0≤Lib.indexByte l c):∃ a b,l=a++c::b∧(∀ x∈a,x≠c)∧Lib.indexByte l c=a.length:=by
 induction l with
 | nil=>simp[Lib.indexByte] at h
 | cons d l ih =>
  unfold Lib.indexByte at h ⊢
  by_cases hb:(d == c)=true
  ·have:d=c:=by simpa using hb
   subst this
   rw[if_pos hb]
   exact⟨[],l,rfl,by simp,rfl⟩
  ·rw[if_neg hb] at h ⊢
   by_cases h1:(Lib.indexByte l c == -1)=true
   ·rw[if_pos h1] at h;simp at h
   ·rw[if_neg h1] at h ⊢
    have:=Lib.indexByte_ge l c
    obtain⟨a,b,e1,e2,e3⟩:=ih (by simp at h1;omega)
    refine⟨d::a,b,by rw[e1];rfl,?_,by rw[e3];simp⟩
    intro x hx
    simp only[List.mem_cons] at hx
    rcases hx with rfl | hx
    ·simpa using hb
    ·exact e2 x hx
theorem lineB_all {x:List UInt8} (h:∀ c∈x,c≠10) (last:Bool):lineB x last=(last && !x.isEmpty):=by
 induction x with
 | nil=>simp[lineB]
 | cons c t ih =>
  cases t with
  | nil =>
   have:c≠10:=h c (by simp)
   simp[lineB,this]
  | cons d t =>
   rw[lineB,ih fun x hx=>h x (by simp[hx])]
   have:c≠10:=h c (by simp)
   simp[this]
theorem lineB_cut {a b:List UInt8} (h:∀ c∈a,c≠10) (last:Bool):lineB (a++10::b) last=b.isEmpty:=by
 induction a with
 | nil =>
  cases b with
  | nil=>simp[lineB]
  | cons d b=>simp[lineB]
 | cons c a ih =>
  have hc:c≠10:=h c (by simp)
  rw[List.cons_append,lineB_cons _ _ _ (by simp),ih fun x hx=>h x (by simp[hx])]
  simp[hc]
def feedB (s:List UInt8):Bool:=s.getLast? == some 10
def bareL (s:List UInt8):List UInt8:=if feedB s then s.dropLast else s
end

end Go.Proofs.YtgiojkhmkeocfaaGreatDoor.Ln

namespace Go.Proofs.YtgiojkhmkeocfaaGreatDoor

section
open Ln
theorem lineB_eq (s:List UInt8) (last:Bool):lineB s last=(linB s && (last || fdB s)):=by
 induction s with
 | nil=>rfl
 | cons c t ih =>
  cases t with
  | nil =>
   simp[lineB,linB,fdB]
  | cons d t =>
   have e1:linB (c::d::t)=(c != 10 && linB (d::t)):=by
    simp[linB,List.dropLast]
   have e2:fdB (c::d::t)=fdB (d::t):=by simp[fdB]
   rw[e1,e2,Bool.and_assoc,← ih]
   rfl
def allB (l:List Mk):Bool:=l.all fun m=>okS m.sg
theorem pk_none {sg no:Int} (h:sg=45∧no=43∨sg=43∧no=45) {l:List Mk} (hl:allB l=true):(pkL no l).isEmpty=lstB sg l:=by
 induction l with
 | nil=>rfl
 | cons m l ih =>
  simp only[allB,List.all_cons,Bool.and_eq_true] at hl
  have ih:=ih hl.2
  have hm:=hl.1
  simp only[okS,Bool.or_eq_true,decide_eq_true_eq] at hm
  simp only[pkL,lstB,List.all_cons]
  have key:(m.sg≠no∧okS m.sg=true)↔¬ (m.sg≠sg∧m.sg≠32):=by
   constructor
   ·rintro⟨k1,_⟩ k2
    rcases h with ⟨rfl,rfl⟩ | ⟨rfl,rfl⟩<;>omega
   ·intro k
    refine⟨fun k1=>?_,hl.1⟩
    rcases h with ⟨rfl,rfl⟩ | ⟨rfl,rfl⟩<;>omega
  by_cases q:m.sg≠sg∧m.sg≠32
  ·rw[if_neg (fun k=>key.1 k q),ih,decide_eq_true q.1,decide_eq_true q.2]
   rfl
  ·rw[if_pos (key.2 q)]
   have:(decide (m.sg≠sg) && decide (m.sg≠32))=false:=by
    rw[← Bool.not_eq_true,Bool.and_eq_true,decide_eq_true_eq,decide_eq_true_eq]
    exact q
   rw[this]
   rfl
theorem fld_code (l:List Mk):fldB l=(allB l && checkB (pkL 43 l) && checkB (pkL 45 l)):=by
 induction l with
 | nil=>rfl
 | cons m l ih =>
  have e0:allB (m::l)=(okS m.sg && allB l):=rfl
  rw[e0]
  cases ha:allB l with
  | false =>
   rw[ha] at ih
   have ih:fldB l=false:=by rw[ih];rfl
   simp[fldB,ih]
  | true =>
   rw[ha] at ih
   have p1:=pk_none (.inl ⟨rfl,rfl⟩) ha
   have p2:=pk_none (.inr ⟨rfl,rfl⟩) ha
   obtain⟨sg,tx⟩:=m
   simp only[fldB]
   rw[ih]
   by_cases h1:sg=32
   ·subst h1
    have q1:pkL 43 (⟨32,tx⟩::l)=tx::pkL 43 l:=by rw[pkL,if_pos (by dsimp only;decide)]
    have q2:pkL 45 (⟨32,tx⟩::l)=tx::pkL 45 l:=by rw[pkL,if_pos (by dsimp only;decide)]
    rw[q1,q2]
    simp only[checkB,lineB_eq,p1,p2,okS]
    cases linB tx<;>cases fdB tx<;>cases lstB 45 l<;>cases lstB 43 l<;>cases checkB (pkL 43 l)<;>cases checkB (pkL 45 l)<;>rfl
   ·by_cases h2:sg=45
    ·subst h2
     have q1:pkL 43 (⟨45,tx⟩::l)=tx::pkL 43 l:=by rw[pkL,if_pos (by dsimp only;decide)]
     have q2:pkL 45 (⟨45,tx⟩::l)=pkL 45 l:=by rw[pkL,if_neg (by dsimp only;decide)]
     rw[q1,q2]
     simp only[checkB,lineB_eq,p1,okS]
     cases linB tx<;>cases fdB tx<;>cases lstB 45 l<;>cases lstB 43 l<;>cases checkB (pkL 43 l)<;>cases checkB (pkL 45 l)<;>rfl
    ·by_cases h3:sg=43
     ·subst h3
      have q1:pkL 43 (⟨43,tx⟩::l)=pkL 43 l:=by rw[pkL,if_neg (by dsimp only;decide)]
      have q2:pkL 45 (⟨43,tx⟩::l)=tx::pkL 45 l:=by rw[pkL,if_pos (by dsimp only;decide)]
      rw[q1,q2]
      simp only[checkB,lineB_eq,p2,okS]
      cases linB tx<;>cases fdB tx<;>cases lstB 45 l<;>cases lstB 43 l<;>cases checkB (pkL 43 l)<;>cases checkB (pkL 45 l)<;>rfl
     ·have q:okS sg=false:=by simp[okS,h1,h2,h3]
      simp[q]
end

end Go.Proofs.YtgiojkhmkeocfaaGreatDoor

namespace Go.Proofs.YtgiojkhmkeocfaaGreatDoor.Q

section
def plainI (n:Int):Bool:=decide (32≤n∧n≤126∧n≠34∧n≠92)
theorem plainI_not {n:Int} (h:¬ (32≤n∧n≤126∧n≠34∧n≠92)):plainI n=false:=decide_eq_false h
theorem plainI_out {n:Int} (h:plainI n=true):32≤n∧n≤126∧n≠34∧n≠92:=of_decide_eq_true h
def hexl:List UInt8:=[48,49,50,51,52,53,54,55,56,57,97,98,99,100,101,102]
def hexc (n:Nat):UInt8:=hexl.getD n 0
theorem hex_at (n:Nat) (h:n<(⟨#[48,49,50,51,52,53,54,55,56,57,97,98,99,100,101,102]⟩:ByteArray).size) :
  (⟨#[48,49,50,51,52,53,54,55,56,57,97,98,99,100,101,102]⟩:ByteArray)[n]=hexc n:=by
 have h':n<16:=h
 have key:∀ i:Fin 16,(#[48,49,50,51,52,53,54,55,56,57,97,98,99,100,101,102]:Array UInt8)[i.val]'(i.isLt)=hexc i.val:=by decide
 exact key ⟨n,h'⟩
theorem hexl_at (n:Nat) (h:n<([48,49,50,51,52,53,54,55,56,57,97,98,99,100,101,102]:List UInt8).length) :
  ([48,49,50,51,52,53,54,55,56,57,97,98,99,100,101,102]:List UInt8)[n]=hexc n:=by
 have h':n<16:=h
 have key:∀ i:Fin 16,([48,49,50,51,52,53,54,55,56,57,97,98,99,100,101,102]:List UInt8)[i.val]'(i.isLt)=hexc i.val:=by decide
 exact key ⟨n,h'⟩
def q1 (c:UInt8):List UInt8:=if plainI c.toNat then [c] else [92,hexc (c.toNat / 16),hexc (c.toNat % 16)]
def qbody (l:List UInt8):List UInt8:=l.flatMap q1
def quote (l:List UInt8):List UInt8:=[34]++qbody l++[34]
def digitI (n:Int):Int:=if 48≤n∧n≤57 then n-48 else if 97≤n∧n≤102 then n-87 else -1
theorem digitI_ge (n:Int):-1≤digitI n∧digitI n≤15:=by unfold digitI;split<;>(try split)<;>omega
theorem hexc_val (k:Nat) (h:k<16):(hexc k).toNat=if k<10 then 48+k else 87+k:=by
 have key:∀ i:Fin 16,(hexc i.val).toNat=if i.val<10 then 48+i.val else 87+i.val:=by decide
 exact key ⟨k,h⟩
theorem digit_hexc (k:Nat) (h:k<16):digitI (hexc k).toNat=k:=by
 rw[hexc_val k h];unfold digitI;split<;>split<;>omega
def pairI (a b:UInt8):Int:=16 * digitI a.toNat+digitI b.toNat
def pairOk (a b:UInt8):Bool:=decide (0≤digitI a.toNat) && decide (0≤digitI b.toNat) && !(plainI (pairI a b))
def pv (a b:UInt8):Int:=if pairOk a b then pairI a b else 0
def pn (a b:UInt8):Int:=if pairOk a b then 3 else 0
theorem pairOk_lo {a b:UInt8} (h:digitI a.toNat<0):pairOk a b=false:=by simp[pairOk];omega
theorem pairOk_hi {a b:UInt8} (h:digitI b.toNat<0):pairOk a b=false:=by simp[pairOk];omega
theorem pairOk_mid {a b:UInt8} (h:¬ digitI a.toNat<0) (h':¬ digitI b.toNat<0):pairOk a b=!plainI (pairI a b):=by simp[pairOk];omega
theorem pv_no {a b:UInt8} (h:pairOk a b=false):0=pv a b:=by simp[pv,h]
theorem pn_no {a b:UInt8} (h:pairOk a b=false):0=pn a b:=by simp[pn,h]
theorem pv_yes {a b:UInt8} (h:pairOk a b=true):pairI a b=pv a b:=by simp[pv,h]
theorem pn_yes {a b:UInt8} (h:pairOk a b=true):3=pn a b:=by simp[pn,h]
def body:List UInt8→Option (List UInt8 × List UInt8)
 | []=>none
 | c::t =>
  if c.toNat=34 then some ([],t)
  else if plainI c.toNat then (body t).map fun p=>(c::p.1,p.2)
  else if c.toNat=92 then
   match t with
   | a::b::t'=>if pairOk a b then (body t').map fun p=>(UInt8.ofNat (pairI a b).toNat::p.1,p.2) else none
   | _=>none
  else none
def unquote:List UInt8→Option (List UInt8 × List UInt8)
 | []=>none
 | c::t=>if c.toNat=34 then body t else none
theorem body_end {c:UInt8} (t:List UInt8) (h:c.toNat=34):body (c::t)=some ([],t):=by
 rw[body.eq_def];simp only[h,if_true]
theorem body_plain {c:UInt8} (t:List UInt8) (h:plainI c.toNat=true):body (c::t)=(body t).map fun p=>(c::p.1,p.2):=by
 have h4:=plainI_out h
 have h5:¬ c.toNat=34:=by omega
 rw[body.eq_def];simp only[h,h5,if_false,if_true]
theorem body_pair {c a b:UInt8} (t:List UInt8) (h:c.toNat=92) (hk:pairOk a b=true):body (c::a::b::t)=(body t).map fun p=>(UInt8.ofNat (pairI a b).toNat::p.1,p.2):=by
 have h4:plainI c.toNat=false:=plainI_not (by omega)
 have h5:¬ c.toNat=34:=by omega
 rw[body.eq_def];simp only[h4,h5,if_false,Bool.false_eq_true,hk,if_true]
 rw[if_pos h]
theorem body_pair_no {c a b:UInt8} (t:List UInt8) (h:c.toNat=92) (hk:pairOk a b=false):body (c::a::b::t)=none:=by
 have h4:plainI c.toNat=false:=plainI_not (by omega)
 have h5:¬ c.toNat=34:=by omega
 rw[body.eq_def];simp only[h4,h5,if_false,Bool.false_eq_true,hk]
 rw[if_pos h]
theorem body_none {c:UInt8} (t:List UInt8) (h0:c.toNat≠34) (h:plainI c.toNat=false) (h2:¬ (c.toNat=92∧2≤t.length)):body (c::t)=none:=by
 rw[body.eq_def]
 simp only[h0,h,if_false,Bool.false_eq_true]
 by_cases h3:c.toNat=92
 ·rw[if_pos h3]
  match t with
  | []=>rfl
  | [_]=>rfl
  | a::b::t'=>exact absurd ⟨h3,by simp⟩ h2
 ·rw[if_neg h3]
def uqa (l:List UInt8):List UInt8:=((unquote l).map (·.1)).getD []
def uqb (l:List UInt8):List UInt8:=((unquote l).map (·.2)).getD []
def uqe (l:List UInt8):Int:=if (unquote l).isSome then 0 else 3
theorem uq_none {l:List UInt8} (h:unquote l=none):uqa l=[]∧uqb l=[]∧uqe l=3:=by simp[uqa,uqb,uqe,h]
theorem uq_some {l a b:List UInt8} (h:unquote l=some (a,b)):uqa l=a∧uqb l=b∧uqe l=0:=by simp[uqa,uqb,uqe,h]
theorem pairI_byte {a b:UInt8} (hk:pairOk a b=true):0≤pairI a b∧pairI a b≤255:=by
 have h1:=digitI_ge a.toNat
 have h2:=digitI_ge b.toNat
 simp[pairOk] at hk
 unfold pairI;omega
theorem quote_length (l:List UInt8):(quote l).length≤3 * l.length+2:=by
 have h:∀ l:List UInt8,(qbody l).length≤3 * l.length:=by
  intro l
  induction l with
  | nil=>simp[qbody]
  | cons c t ih =>
   have:(q1 c).length≤3:=by unfold q1;split<;>simp
   simp only[qbody,List.flatMap_cons,List.length_append,List.length_cons] at ih ⊢
   omega
 have:=h l
 simp[quote];omega
end

end Go.Proofs.YtgiojkhmkeocfaaGreatDoor.Q

namespace Go.Proofs.YtgiojkhmkeocfaaGreatDoor.Pn

section
def digB (c:UInt8):Bool:=decide (48≤c.toNat∧c.toNat≤57)
theorem digB_mk {c:UInt8} (h:48≤c.toNat∧c.toNat≤57):digB c=true:=decide_eq_true h
theorem digB_out {c:UInt8} (h:digB c=true):48≤c.toNat∧c.toNat≤57:=of_decide_eq_true h
def isNum:List UInt8→Bool
 | []=>false
 | c::t=>!(decide (c.toNat=48) && !t.isEmpty) && (c::t).all digB
def sat:Int→List UInt8→Int
 | n,[]=>n
 | n,c::t=>sat (min (n * 10+((c.toNat:Int)-48)) 2147483648) t
def parseV (l:List UInt8):Int:=if isNum l=true∧sat 0 l≤2147483647 then sat 0 l else 0
def parseE (l:List UInt8):Int:=if isNum l=true then if sat 0 l≤2147483647 then 0 else 2 else 3
theorem sat_top:∀ (l:List UInt8),l.all digB=true→sat 2147483648 l=2147483648
 | [],_=>rfl
 | c::t,h=>by
  simp only[List.all_cons,Bool.and_eq_true] at h
  have h1:=digB_out h.1
  rw[sat]
  have e:min ((2147483648:Int) * 10+((c.toNat:Int)-48)) 2147483648=2147483648:=by omega
  rw[e]
  exact sat_top t h.2
theorem parse_no {l:List UInt8} (h:isNum l=false):0=parseV l∧3=parseE l:=by simp[parseV,parseE,h]
theorem parse_far {l:List UInt8} (h:isNum l=true) (h2:sat 0 l=2147483648):0=parseV l∧2=parseE l:=by simp[parseV,parseE,h,h2]
theorem parse_ok {l:List UInt8} (h:isNum l=true) {n:Int} (h2:sat 0 l=n) (h3:n≤2147483647):n=parseV l∧0=parseE l:=by simp[parseV,parseE,h,h2,h3]
theorem isNum_all {l:List UInt8} (h:isNum l=true):l.all digB=true:=by
 cases l with
 | nil=>simp[isNum] at h
 | cons c t=>rw[isNum,Bool.and_eq_true] at h;exact h.2
theorem all_at {l:List UInt8} (h:l.all digB=true) (k:Nat) (hk:k<l.length):48≤l[k].toNat∧l[k].toNat≤57 :=
 digB_out (List.all_eq_true.1 h _ (List.getElem_mem hk))
theorem all_drop {l:List UInt8} (h:l.all digB=true) (k:Nat):(l.drop k).all digB=true :=
 List.all_eq_true.2 fun x hx=>List.all_eq_true.1 h x (List.mem_of_mem_drop hx)
theorem isNum_bad {l:List UInt8} (k:Nat) (hk:k<l.length) (h:¬ (48≤l[k].toNat∧l[k].toNat≤57)):isNum l=false:=by
 cases hn:isNum l
 ·rfl
 ·exact absurd (all_at (isNum_all hn) k hk) h
theorem isNum_zero {c d:UInt8} {t:List UInt8} (h:c.toNat=48):isNum (c::d::t)=false:=by simp[isNum,h]
theorem isNum_yes {c:UInt8} {t:List UInt8} (h:¬ (c.toNat=48∧t≠[])) (ha:∀ k (hk:k<(c::t).length),48≤(c::t)[k].toNat∧(c::t)[k].toNat≤57):isNum (c::t)=true:=by
 rw[isNum,Bool.and_eq_true]
 refine⟨?_,?_⟩
 ·cases t with
  | nil=>simp
  | cons d t=>simp at h ⊢;exact h
 ·refine List.all_eq_true.2 fun x hx=>?_
  obtain⟨k,hk,rfl⟩:=List.mem_iff_getElem.1 hx
  exact digB_mk (ha k hk)
theorem sat_step {l:List UInt8} {k:Nat} (hk:k<l.length) (n:Int):sat n (l.drop k)=sat (min (n * 10+((l[k].toNat:Int)-48)) 2147483648) (l.drop (k+1)):=by
 rw[List.drop_eq_getElem_cons hk,sat]
end

end Go.Proofs.YtgiojkhmkeocfaaGreatDoor.Pn

namespace Go.Proofs.YtgiojkhmkeocfaaGreatDoor

section
open Q Pn
theorem ofNat_pair (c:UInt8):UInt8.ofNat (pairI (hexc (c.toNat / 16)) (hexc (c.toNat % 16))).toNat=c:=by
 have hc:=c.toNat_lt
 have e:pairI (hexc (c.toNat / 16)) (hexc (c.toNat % 16))=(c.toNat:Int):=by
  unfold pairI
  rw[digit_hexc _ (by omega),digit_hexc _ (by omega)]
  omega
 rw[e]
 simp
theorem pair_hexc {c:UInt8} (h:plainI c.toNat=false):pairOk (hexc (c.toNat / 16)) (hexc (c.toNat % 16))=true:=by
 have hc:=c.toNat_lt
 have e:pairI (hexc (c.toNat / 16)) (hexc (c.toNat % 16))=(c.toNat:Int):=by
  unfold pairI
  rw[digit_hexc _ (by omega),digit_hexc _ (by omega)]
  omega
 unfold pairOk
 rw[e,h,digit_hexc _ (by omega),digit_hexc _ (by omega)]
 simp
 omega
theorem body_back (r:List UInt8):∀ l:List UInt8,body (qbody l++34::r)=some (l,r)
 | []=>by simp only[qbody,List.flatMap_nil,List.nil_append];exact body_end r rfl
 | c::t=>by
  have ih:=body_back r t
  have e:qbody (c::t)=q1 c++qbody t:=by simp[qbody]
  rw[e]
  cases h:plainI c.toNat
  ·have e2:q1 c=[92,hexc (c.toNat / 16),hexc (c.toNat % 16)]:=by simp[q1,h]
   rw[e2]
   show body (92::hexc (c.toNat / 16)::hexc (c.toNat % 16)::(qbody t++34::r))=_
   rw[body_pair _ rfl (pair_hexc h),ih,ofNat_pair]
   rfl
  ·have e2:q1 c=[c]:=by simp[q1,h]
   rw[e2]
   show body (c::(qbody t++34::r))=_
   rw[body_plain _ h,ih]
   rfl
theorem unquote_back (l r:List UInt8):unquote (quote l++r)=some (l,r):=by
 have e:quote l++r=34::(qbody l++34::r):=by simp[quote]
 rw[e,unquote,if_pos (by decide)]
 exact body_back r l
theorem hexc_plain (k:Nat) (h:k<16):32≤(hexc k).toNat∧(hexc k).toNat≤126:=by
 rw[hexc_val k h];split<;>omega
theorem quote_print (l:List UInt8):∀ c∈quote l,32≤c.toNat∧c.toNat≤126:=by
 intro c hc
 simp only[quote,List.mem_append,List.mem_cons,List.not_mem_nil,or_false] at hc
 rcases hc with (rfl | hc) | rfl
 ·decide
 ·simp only[qbody,List.mem_flatMap] at hc
  obtain⟨x,_,hx⟩:=hc
  have hxl:=x.toNat_lt
  unfold q1 at hx
  split at hx
  ·rename_i hp
   have:=plainI_out hp
   simp at hx
   subst hx
   omega
  ·simp at hx
   rcases hx with rfl | rfl | rfl
   ·decide
   ·exact hexc_plain _ (by omega)
   ·exact hexc_plain _ (by omega)
 ·decide
theorem dec_all (m:Nat):(Lib.decDigits m).all digB=true:=by
 induction m using Nat.strongRecOn with
 | _ m ih =>
  rw[Lib.decDigits]
  split
  ·simp[digB];omega
  ·rw[List.all_append,ih (m / 10) (by omega)]
   simp[digB];omega
theorem dec_ne (m:Nat):Lib.decDigits m≠[]:=by
 rw[Lib.decDigits];split<;>simp
theorem dec_head (m:Nat) (h:0<m):∃ c t,Lib.decDigits m=c::t∧c.toNat≠48:=by
 induction m using Nat.strongRecOn with
 | _ m ih =>
  rw[Lib.decDigits]
  split
  ·refine⟨_,[],rfl,?_⟩
   simp;omega
  ·obtain⟨c,t,e,hc⟩:=ih (m / 10) (by omega) (by omega)
   exact⟨c,t++[UInt8.ofNat (48+m % 10)],by rw[e];rfl,hc⟩
theorem dec_isNum (m:Nat):isNum (Lib.decDigits m)=true:=by
 by_cases h:m=0
 ·subst h
  rw[Lib.decDigits];decide
 ·obtain⟨c,t,e,hc⟩:=dec_head m (by omega)
  have ha:=dec_all m
  rw[e] at ha ⊢
  rw[isNum,ha]
  simp[hc]
theorem sat_append:∀ (a b:List UInt8) (n:Int),sat n (a++b)=sat (sat n a) b
 | [],_,_=>rfl
 | c::t,b,n=>by rw[List.cons_append,sat,sat_append t b,sat]
theorem dec_sat (m:Nat):sat 0 (Lib.decDigits m)=min (m:Int) 2147483648:=by
 induction m using Nat.strongRecOn with
 | _ m ih =>
  rw[Lib.decDigits]
  split
  ·rename_i h
   have e:((UInt8.ofNat (48+m)).toNat:Int)=48+m:=by simp only[UInt8.toNat_ofNat'];omega
   rw[sat,sat,e];omega
  ·rename_i h
   have e:((UInt8.ofNat (48+m % 10)).toNat:Int)=48+(m % 10:Nat):=by simp only[UInt8.toNat_ofNat'];omega
   rw[sat_append,ih (m / 10) (by omega),sat,sat,e]
   omega
theorem itoa_nat (m:Nat):Lib.itoa (m:Int)=Lib.decDigits m:=by simp[Lib.itoa]
theorem parse_itoa_ok {n:Int} (h:0≤n) (h2:n≤2147483647):parseV (Lib.itoa n)=n∧parseE (Lib.itoa n)=0:=by
 obtain⟨m,rfl⟩:=Int.eq_ofNat_of_zero_le h
 rw[itoa_nat]
 have:=parse_ok (dec_isNum m) (dec_sat m) (by omega)
 exact⟨by rw[← this.1];omega,this.2.symm⟩
end

section
open Ln
def markT:List UInt8:=[92,32,78,111,32,110,101,119,108,105,110,101,32,97,116,32,101,110,100,32,111,102,32,102,105,108,101,10]
def rngT (p n:Int):List UInt8:=if n=1 then Lib.itoa (p+1) else Lib.itoa (p+1)++44::Lib.itoa (p+n)
def lnL (ah s:List UInt8):List (List UInt8):=if fdB s=true then [ah++s] else [ah++s++[10],markT]
def cmdT (c:Ch):List UInt8:=if c.AN=0 then Lib.itoa c.A++97::rngT c.B c.BN else if c.BN=0 then rngT c.A c.AN++100::Lib.itoa c.B else rngT c.A c.AN++99::rngT c.B c.BN
def sepL (c:Ch):List (List UInt8):=if 0<c.AN∧0<c.BN then [[45,45,45,10]] else []
def chgL (a b:List (List UInt8)) (c:Ch):List (List UInt8):=(cmdT c++[10])::((cut a c.A c.AN).flatMap (lnL [60,32])++(sepL c++(cut b c.B c.BN).flatMap (lnL [62,32])))
def prtL (l:List Ch) (a b:List (List UInt8)):List (List UInt8):=l.flatMap (chgL a b)
def prtT (l:List Ch) (a b:List (List UInt8)):List UInt8:=(prtL l a b).flatten
def nxt (p:Nat):List (List UInt8)→Except (Nat × Int) (List UInt8 × List (List UInt8))
 | []=>.error (p+1,1)
 | s::r=>if fdB s=true then .ok (s.dropLast,r) else .error (p+1,3)
def pkM:List (List UInt8)→Bool
 | []=>false
 | s::_=>markT.isPrefixOf s
def mkd (sg:List UInt8) (last:Bool) (p:Nat) (ls:List (List UInt8)):Except (Nat × Int) (List UInt8 × Nat × List (List UInt8)) :=
 match nxt p ls with
 | .error e=>.error e
 | .ok (s,r)=>if sg.isPrefixOf s=true then if (last && pkM r)=true then if s.drop sg.length=[] then .error (p+2,3) else .ok (s.drop sg.length,p+2,r.tail) else .ok (s.drop sg.length++[10],p+1,r) else .error (p+1,3)
def rdN (sg:List UInt8) (S:Int):Nat→Nat→List (List UInt8)→Except (Nat × Int) (List Mk × Nat × List (List UInt8))
 | 0,p,ls=>.ok ([],p,ls)
 | n+1,p,ls=>match mkd sg (n == 0) p ls with
  | .error e=>.error e
  | .ok (t,p1,r)=>match rdN sg S n p1 r with
   | .error e=>.error e
   | .ok (l,p2,r2)=>.ok (⟨S,t⟩::l,p2,r2)
def sepP (p:Nat) (ls:List (List UInt8)):Except (Nat × Int) (Nat × List (List UInt8)) :=
 match nxt p ls with
 | .error e=>.error e
 | .ok (s,r)=>if s=[45,45,45] then .ok (p+1,r) else .error (p+1,3)
def spB (q:UInt8→Bool):List UInt8→Option (List UInt8 × UInt8 × List UInt8)
 | []=>none
 | c::t=>if q c=true then some ([],c,t) else match spB q t with
  | none=>none
  | some (a,d,b)=>some (c::a,d,b)
def isC (c:UInt8):Bool:=c == 97 || c == 99 || c == 100
def isK (c:UInt8):Bool:=c == 44
def lnsP (s:List UInt8):Option (Int × Int):=match spB isK s with
 | some (x,_,y)=>if Pn.parseE x=0∧Pn.parseE y=0∧1≤Pn.parseV x∧Pn.parseV x<Pn.parseV y then some (Pn.parseV x,Pn.parseV y-Pn.parseV x+1) else none
 | none=>if Pn.parseE s=0∧1≤Pn.parseV s then some (Pn.parseV s,1) else none
def oneP (s:List UInt8):Option (Int × Int):=if Pn.parseE s=0 then some (Pn.parseV s,0) else none
def cmdP (s:List UInt8):Option (Int × Int × Int × Int):=match spB isC s with
 | none=>none
 | some (x,c,y)=>match (if c=97 then oneP x else lnsP x),(if c=100 then oneP y else lnsP y) with
  | some (A,AN),some (B,BN)=>some (A,AN,B,BN)
  | _,_=>none
def hkP (k p:Nat) (ls:List (List UInt8)):Except (Nat × Int) (Hk × Nat × List (List UInt8)) :=
 match nxt p ls with
 | .error e=>.error e
 | .ok (s,r)=>match cmdP s with
  | none=>.error (p+1,3)
  | some (A,AN,B,BN)=>if 4096≤k then .error (p+1,9) else match rdN [60,32] 45 AN.toNat (p+1) r with
   | .error e=>.error e
   | .ok (l1,p1,r1)=>match (if 0<AN∧0<BN then sepP p1 r1 else .ok (p1,r1)) with
    | .error e=>.error e
    | .ok (p2,r2)=>match rdN [62,32] 43 BN.toNat p2 r2 with
     | .error e=>.error e
     | .ok (l2,p3,r3)=>.ok (⟨A,AN,B,BN,l1++l2⟩,p3,r3)
def hksP:Nat→Nat→Nat→List (List UInt8)→Except (Nat × Int) (List Hk)
 | 0,_,_,_=>.ok []
 | f+1,k,p,ls=>if ls=[] then .ok [] else match hkP k p ls with
  | .error e=>.error e
  | .ok (h,p1,r)=>match hksP f (k+1) p1 r with
   | .error e=>.error e
   | .ok l=>.ok (h::l)
def prsT (t:List UInt8):Except (Nat × Int) (List Hk):=if 1048576<t.length then .error (0,9) else hksP (splitL t).length 0 0 (splitL t)
def Plain (ls:List (List UInt8)):Prop:=∀ s∈ls,∀ c∈s.dropLast,c≠10
theorem fd_snoc (s:List UInt8):fdB (s++[10])=true:=by simp[fdB]
theorem nxt_ok {p:Nat} {ls r:List (List UInt8)} {s:List UInt8} (h:nxt p ls=.ok (s,r)):ls=(s++[10])::r:=by
 cases ls with
 | nil=>cases h
 | cons x r' =>
  simp only[nxt] at h
  split at h
  ·rename_i hf
   cases h
   unfold fdB at hf
   have h1:x.getLast?=some 10:=by simpa using hf
   obtain⟨q,rfl⟩:=List.getLast?_eq_some_iff.1 h1
   simp
  ·cases h
theorem split_plain (t:List UInt8):Plain (splitL t):=by
 have h:=split_right t
 generalize splitL t=L at h
 induction L with
 | nil=>intro s hs;cases hs
 | cons x L ih =>
  simp only[checkB,Bool.and_eq_true] at h
  intro s hs
  rcases List.mem_cons.1 hs with rfl | hs
  ·intro c hc
   have h1:=h.1
   rw[lineB_eq] at h1
   simp only[Bool.and_eq_true,linB] at h1
   have:=(List.all_eq_true.1 h1.1.2) c hc
   simpa using this
  ·exact ih h.2 s hs
end

section
open Go.RowKit
attribute [local go_sem] ByteArray.extract_mk
theorem no_at (l:List UInt8) (k:Nat) (h:k<(⟨l.toArray⟩:ByteArray).size):(⟨l.toArray⟩:ByteArray)[k]'h=l[k]'(h):=rfl
attribute [local go_sem] no_at
end

section
open Go.RowKit
def rdO (vL:Value) (p fa fe:Int):Obj:=.cells #[vL,.int .i64 p,.int .i64 fa,.int .i64 fe] 112
def Rx (u:World) (R:Nat) (vL:Value) (p fa fe:Int):Prop:=u.heap[R]?=some (rdO vL p fa fe)
section
variable {u u':World} {R:Nat} {vL:Value} {p fa fe:Int}
theorem Rx.cells (q:Rx u R vL p fa fe):u.cell? ⟨R,0,none⟩=some vL∧u.cell? ⟨R,1,none⟩=some (.int .i64 p)∧u.cell? ⟨R,2,none⟩=some (.int .i64 fa)∧u.cell? ⟨R,3,none⟩=some (.int .i64 fe):=by
 unfold Rx rdO at q
 refine⟨?_,?_,?_,?_⟩<;>rw[Lib.cell_of_heap q]<;>rfl
theorem Rx.frozen (q:Rx u R vL p fa fe) (j:Nat):u.frozen? ⟨R,j,none⟩=false:=Lib.frozen_of_heap q j
theorem Rx.lt (q:Rx u R vL p fa fe):R<u.heap.size:=(Array.getElem?_eq_some_iff.1 q).1
theorem Rx.dN (q:Rx u R vL p fa fe) (n:Nat):Rx (u.drewN n) R vL p fa fe:=q
theorem Rx.at (q:Rx u R vL p fa fe) (p':Int):Rx (u.setCell ⟨R,1,none⟩ (.int .i64 p')) R vL p' fa fe:=heap_setCell_same u R 1 _ _ (.int .i64 p') q
theorem Rx.fault (q:Rx u R vL p fa fe) (x y:Int):Rx ((u.setCell ⟨R,2,none⟩ (.int .i64 x)).setCell ⟨R,3,none⟩ (.int .i64 y)) R vL p x y:=heap_setCell_same _ R 3 _ _ (.int .i64 y) (heap_setCell_same u R 2 _ _ (.int .i64 x) q)
end
theorem grown_two {w u v:World} {r:Option Nat} (h:w.grownBy u r) (h':u.grownBy v r):w.grownBy v r :=
 ⟨h'.os.trans h.os,h'.tape.trans h.tape,h'.output.trans h.output,Nat.le_trans h.size h'.size,fun k hk hr=>(h'.block k (Nat.lt_of_lt_of_le hk h.size) hr).trans (h.block k hk hr)⟩
theorem nxt_drop {L:List (List UInt8)} {p:Nat} (hp:p<L.length):nxt p (L.drop p)=if fdB L[p]=true then .ok (L[p].dropLast,L.drop (p+1)) else .error (p+1,3):=by
 rw[List.drop_eq_getElem_cons hp]
 rfl
theorem nxt_end {L:List (List UInt8)} {p:Nat} (hp:L.length≤p):nxt p (L.drop p)=.error (p+1,1):=by
 rw[List.drop_eq_nil_of_le hp]
 rfl
end

section
open Go.RowKit
attribute [local go_sem] ByteArray.extract_mk no_at
end

section
theorem ba_join (a b:List UInt8):((⟨a.toArray⟩:ByteArray)++(⟨b.toArray⟩:ByteArray))=⟨(a++b).toArray⟩:=by
 apply ByteArray.ext
 simp
end

section
open Go.RowKit
attribute [local go_sem] ByteArray.extract_mk no_at
end

end Go.Proofs.YtgiojkhmkeocfaaGreatDoor

namespace Go.Proofs

section
open Go.Shelf Go.RowKit
def Tryz.lays166_ren:Go.Shelf.Ren:=⟨fun | 166=>34 | 240=>80 | 276=>133 | n=>n,fun | 0=>0 | 3=>3 | 4=>4 | 5=>5 | 9=>9 | 20=>20 | 37=>75 | 70=>74 | 72=>77 | 75=>36 | 80=>85 | 164=>143 | n=>n,fun | n=>n⟩
theorem Tryz.lays166:Go.Proofs.Lays.n166 Tryz.prog Tryz.lays166_ren:={
 mixed:=by kernel_rfl
 f166:=Tryz.func34.trans (congrArg some (by kernel_rfl))
 f240:=Tryz.func80.trans (congrArg some (by kernel_rfl))
 f276:=Tryz.func133.trans (congrArg some (by kernel_rfl))
 t0:=Tryz.underlying0
 a0:=Tryz.isAgg0
 z0:=Tryz.sizeOf0
 v0:=Tryz.zeroValue0
 t3:=Tryz.underlying3
 a3:=Tryz.isAgg3
 z3:=Tryz.sizeOf3
 v3:=Tryz.zeroValue3
 t4:=Tryz.underlying4
 a4:=Tryz.isAgg4
 z4:=Tryz.sizeOf4
 v4:=Tryz.zeroValue4
 t9:=Tryz.underlying9
 a9:=Tryz.isAgg9
 z9:=Tryz.sizeOf9
 v9:=Tryz.zeroValue9
 t20:=Tryz.underlying20
 a20:=Tryz.isAgg20
 z20:=Tryz.sizeOf20
 v20:=Tryz.zeroValue20
 t37:=Tryz.underlying75
 a37:=Tryz.isAgg75
 z37:=Tryz.sizeOf75
 v37:=Tryz.zeroValue75
 t70:=Tryz.underlying74
 a70:=Tryz.isAgg74
 z70:=Tryz.sizeOf74
 v70:=Tryz.zeroValue74
 t72:=Tryz.underlying77
 a72:=Tryz.isAgg77
 z72:=Tryz.sizeOf77
 v72:=Tryz.zeroValue77
 t75:=Tryz.underlying36
 a75:=Tryz.isAgg36
 z75:=Tryz.sizeOf36
 v75:=Tryz.zeroValue36
 t164:=Tryz.underlying143
 a164:=Tryz.isAgg143
 z164:=Tryz.sizeOf143
 v164:=Tryz.zeroValue143 }
theorem Tryz.Builder_Extra_166:Builder.Extra Tryz.prog Tryz.lays166_ren:={
 sizeBuilder:=by kernel_rfl
 liesBuilder:=by kernel_rfl
 t5:=Tryz.underlying5
 a5:=Tryz.isAgg5
 z5:=Tryz.sizeOf5
 v5:=Tryz.zeroValue5
 infoByte:=by kernel_rfl
 cellsByte:=by kernel_rfl
 sizeByte:=by kernel_rfl
 neB5:=by decide }
theorem Tryz.WriteString_h (B b:Nat) (bs:List Value) (s:ByteArray) (w:World) (h:Lib.IsBuilderF 77 5 B b bs w) (hlen:bs.length+s.size≤140737488355328) (hBw:B≤w.heap.size) :
  Calls Tryz.prog 34 #[.pointer (some ⟨b,0,none⟩),.string s] w fun e w'=>e=.returned (.tuple #[.int .i64 s.size,.nilIface])∧(Lib.BuilderAtF 77 5 B b (.pointer (some ⟨b,0,none⟩)) (bs++Lib.strCells s) w'∧Below B w w'∧Lib.OthersKept 5 (some b) w w') :=
 Any.Builder_WriteString_k Tryz.lays166 Tryz.Builder_Extra_166 B b bs s w h hlen hBw
end

end Go.Proofs

namespace Go.Proofs.YtgiojkhmkeocfaaGreatDoor

section
open Go.RowKit
theorem dec_short:∀ (n m:Nat),m<10 ^ (n+1)→(Lib.decDigits m).length≤n+1
 | 0,m,h=>by rw[Lib.decDigits,dif_pos (by simpa using h)];simp
 | n+1,m,h=>by
  rw[Lib.decDigits]
  split
  ·simp
  ·have h2:m / 10<10 ^ (n+1):=by
    rw[Nat.div_lt_iff_lt_mul (by omega),← Nat.pow_succ];exact h
   have:=dec_short n (m / 10) h2
   simp;omega
theorem itoa_short (n:Int) (h0:-9223372036854775808≤n) (h1:n≤9223372036854775807):(Lib.itoa n).length≤21:=by
 have hal:(Lib.decDigits n.natAbs).length≤20:=dec_short 19 n.natAbs (by omega)
 unfold Lib.itoa
 split
 ·simp only[List.length_cons]
  omega
 ·have e:n.toNat=n.natAbs:=by omega
  rw[e]
  omega
end

section
open Go.RowKit
attribute [local go_sem] ByteArray.extract_mk no_at
end

section
open Go.RowKit
def Fits (x y:List UInt8):Prop:=x.length+y.length≤4611686018427387904
theorem add_fits {x y:List UInt8} (h:Fits x y) (P:Program) (u:World):(Op.stringOp .add ⟨x.toArray⟩ ⟨y.toArray⟩).run P u=.ok (.string ⟨(x++y).toArray⟩) u:=by
 unfold Fits at h
 have e:¬ (((⟨x.toArray⟩:ByteArray).size+(⟨y.toArray⟩:ByteArray).size:Nat):Int) > IntKind.i64.max:=by
  have h1:(⟨x.toArray⟩:ByteArray).size=x.length:=rfl
  have h2:(⟨y.toArray⟩:ByteArray).size=y.length:=rfl
  have h3:IntKind.i64.max=9223372036854775807:=rfl
  rw[h1,h2,h3]
  omega
 unfold Op.stringOp
 dsimp only
 rw[if_neg e,ba_join]
 rfl
structure Cs (c:Ch) (b:Nat) (W w:World):Prop where
 c0:w.cell? ⟨b,0,none⟩=some (.int .i64 c.A)
 c1:w.cell? ⟨b,1,none⟩=some (.int .i64 c.AN)
 c2:w.cell? ⟨b,2,none⟩=some (.int .i64 c.B)
 c3:w.cell? ⟨b,3,none⟩=some (.int .i64 c.BN)
 lt:b<w.heap.size
 low:Below W.heap.size W w
theorem cs_drew (c:Ch) (b:Nat) (W w:World):Cs c b W w.drew↔Cs c b W w:=⟨fun h=>⟨h.c0,h.c1,h.c2,h.c3,h.lt,(h.low.trans ⟨rfl,rfl,rfl,Nat.le_refl _,fun _ _=>rfl⟩:Below W.heap.size W w)⟩,fun h=>⟨h.c0,h.c1,h.c2,h.c3,h.lt,h.low.drew⟩⟩
attribute [local simp] cs_drew
theorem rng_short (p n:Int) (h0:0≤p) (h1:p≤4611686018427387904) (h2:0≤n) (h3:n≤4611686018427387900):(rngT p n).length≤43:=by
 have l1:=itoa_short (p+1) (by omega) (by omega)
 have l2:=itoa_short (p+n) (by omega) (by omega)
 unfold rngT
 split
 ·omega
 ·simp only[List.length_append,List.length_cons]
  omega
end

section
open Ln
def numC (c:UInt8):Bool:=Pn.digB c || c == 44
theorem itoa_dig {n:Int} (h:0≤n):∀ c∈Lib.itoa n,Pn.digB c=true:=by
 intro c hc
 obtain⟨m,rfl⟩:∃ m:Nat,n=m:=⟨n.toNat,by omega⟩
 rw[itoa_nat] at hc
 exact (List.all_eq_true.1 (dec_all m)) c hc
theorem itoa_ne {n:Int} (h:0≤n):Lib.itoa n≠[]:=by
 obtain⟨m,rfl⟩:∃ m:Nat,n=m:=⟨n.toNat,by omega⟩
 rw[itoa_nat]
 exact dec_ne m
theorem rng_num {p n:Int} (hp:0≤p) (hn:1≤n):∀ c∈rngT p n,numC c=true:=by
 intro c hc
 unfold rngT at hc
 unfold numC
 split at hc
 ·rw[itoa_dig (by omega) c hc];rfl
 ·rcases List.mem_append.1 hc with hc | hc
  ·rw[itoa_dig (by omega) c hc];rfl
  ·rcases List.mem_cons.1 hc with rfl | hc
   ·simp
   ·rw[itoa_dig (by omega) c hc];rfl
theorem dig_facts {c:UInt8} (h:Pn.digB c=true):isC c=false∧isK c=false∧c≠10∧c≠92:=by
 have h1:=Pn.digB_out h
 refine⟨?_,?_,?_,?_⟩
 ·unfold isC
  simp only[Bool.or_eq_false_iff,beq_eq_false_iff_ne]
  refine⟨⟨?_,?_⟩,?_⟩<;>(rintro rfl;simp at h1)
 ·unfold isK
  rw[beq_eq_false_iff_ne]
  rintro rfl
  simp at h1
 ·rintro rfl
  simp at h1
 ·rintro rfl
  simp at h1
theorem num_facts {c:UInt8} (h:numC c=true):isC c=false∧c≠10∧c≠92:=by
 unfold numC at h
 rcases Bool.or_eq_true_iff.1 h with h | h
 ·have:=dig_facts h
  exact⟨this.1,this.2.2.1,this.2.2.2⟩
 ·have:c=44:=by simpa using h
  subst this
  decide
theorem spB_app {q:UInt8→Bool} {x y:List UInt8} {d:UInt8} (hx:∀ c∈x,q c=false) (hd:q d=true):spB q (x++d::y)=some (x,d,y):=by
 induction x with
 | nil=>simp[spB,hd]
 | cons c x ih =>
  simp only[List.cons_append,spB]
  rw[if_neg (by rw[hx c (by simp)];decide),ih fun z hz=>hx z (by simp[hz])]
theorem spB_none {q:UInt8→Bool} {x:List UInt8} (hx:∀ c∈x,q c=false):spB q x=none:=by
 induction x with
 | nil=>rfl
 | cons c x ih =>
  simp only[spB]
  rw[if_neg (by rw[hx c (by simp)];decide),ih fun z hz=>hx z (by simp[hz])]
theorem lnsP_rng {p n:Int} (hp:0≤p) (hn:1≤n) (hb:p+n≤2147483647):lnsP (rngT p n)=some (p+1,n):=by
 unfold rngT
 by_cases h1:n=1
 ·rw[if_pos h1]
  unfold lnsP
  rw[spB_none (fun c hc=>(dig_facts (itoa_dig (by omega) c hc)).2.1)]
  obtain⟨e1,e2⟩:=parse_itoa_ok (n:=p+1) (by omega) (by omega)
  have hc:Pn.parseE (Lib.itoa (p+1))=0∧1≤Pn.parseV (Lib.itoa (p+1)):=⟨e2,by rw[e1];omega⟩
  simp only
  rw[if_pos hc,e1,h1]
 ·rw[if_neg h1]
  unfold lnsP
  rw[spB_app (fun c hc=>(dig_facts (itoa_dig (by omega) c hc)).2.1) (by decide)]
  obtain⟨e1,e2⟩:=parse_itoa_ok (n:=p+1) (by omega) (by omega)
  obtain⟨e3,e4⟩:=parse_itoa_ok (n:=p+n) (by omega) (by omega)
  have hc:Pn.parseE (Lib.itoa (p+1))=0∧Pn.parseE (Lib.itoa (p+n))=0∧1≤Pn.parseV (Lib.itoa (p+1))∧Pn.parseV (Lib.itoa (p+1))<Pn.parseV (Lib.itoa (p+n)):=⟨e2,e4,by rw[e1];omega,by rw[e1,e3];omega⟩
  simp only
  rw[if_pos hc,e1,e3]
  congr 2
  omega
theorem oneP_itoa {n:Int} (h:0≤n) (hb:n≤2147483647):oneP (Lib.itoa n)=some (n,0):=by
 unfold oneP
 obtain⟨e1,e2⟩:=parse_itoa_ok h hb
 rw[if_pos e2,e1]
def noA (p n:Int):Int:=if 0<n then p+1 else p
theorem cmd_back {c:Ch} (hn:numB c=true) (hA:c.A+c.AN≤2147483647) (hB:c.B+c.BN≤2147483647):cmdP (cmdT c)=some (noA c.A c.AN,c.AN,noA c.B c.BN,c.BN):=by
 have h:=(numB_iff c).1 hn
 unfold cmdT cmdP noA
 by_cases h1:c.AN=0
 ·have hb:0<c.BN:=by omega
  rw[if_pos h1,spB_app (fun x hx=>(dig_facts (itoa_dig (by omega) x hx)).1) (by decide)]
  simp only[if_true]
  rw[if_neg (by decide),oneP_itoa (by omega) (by omega),lnsP_rng (by omega) (by omega) hB,h1,if_pos hb]
  rfl
 ·have ha:0<c.AN:=by omega
  rw[if_neg h1,if_pos ha]
  by_cases h2:c.BN=0
  ·rw[if_pos h2,spB_app (fun x hx=>(num_facts (rng_num (by omega) (by omega) x hx)).1) (by decide)]
   simp only[if_true]
   rw[if_neg (by decide),lnsP_rng (by omega) (by omega) hA,oneP_itoa (by omega) (by omega),h2]
   rfl
  ·have hb:0<c.BN:=by omega
   rw[if_neg h2,spB_app (fun x hx=>(num_facts (rng_num (by omega) (by omega) x hx)).1) (by decide)]
   simp only
   rw[if_neg (by decide),if_neg (by decide),lnsP_rng (by omega) (by omega) hA,lnsP_rng (by omega) (by omega) hB,if_pos hb]
theorem cmd_bytes {c:Ch} (hn:numB c=true):(∀ x∈cmdT c,x≠10)∧∃ y t,cmdT c=y::t∧y≠92:=by
 have h:=(numB_iff c).1 hn
 have hd:∀ (n:Int) (t:List UInt8),0≤n→∃ y u,Lib.itoa n++t=y::u∧y≠92:=by
  intro n t h0
  cases hq:Lib.itoa n with
  | nil=>exact absurd hq (itoa_ne h0)
  | cons y u =>
   refine⟨y,u++t,rfl,?_⟩
   exact (dig_facts (itoa_dig h0 y (by rw[hq];simp))).2.2.2
 have hr:∀ (p n:Int) (t:List UInt8),0≤p→∃ y u,rngT p n++t=y::u∧y≠92:=by
  intro p n t h0
  unfold rngT
  split
  ·exact hd _ _ (by omega)
  ·rw[List.append_assoc]
   exact hd _ _ (by omega)
 unfold cmdT
 split
 ·rename_i h1
  refine⟨?_,hd _ _ (by omega)⟩
  intro x hx
  rcases List.mem_append.1 hx with hx | hx
  ·exact (dig_facts (itoa_dig (by omega) x hx)).2.2.1
  ·rcases List.mem_cons.1 hx with rfl | hx
   ·decide
   ·exact (num_facts (rng_num (by omega) (by omega) x hx)).2.1
 ·split
  ·refine⟨?_,hr _ _ _ (by omega)⟩
   intro x hx
   rcases List.mem_append.1 hx with hx | hx
   ·exact (num_facts (rng_num (by omega) (by omega) x hx)).2.1
   ·rcases List.mem_cons.1 hx with rfl | hx
    ·decide
    ·exact (dig_facts (itoa_dig (by omega) x hx)).2.2.1
  ·refine⟨?_,hr _ _ _ (by omega)⟩
   intro x hx
   rcases List.mem_append.1 hx with hx | hx
   ·exact (num_facts (rng_num (by omega) (by omega) x hx)).2.1
   ·rcases List.mem_cons.1 hx with rfl | hx
    ·decide
    ·exact (num_facts (rng_num (by omega) (by omega) x hx)).2.1
def Rows:List (List UInt8)→Prop
 | []=>True
 | x::r=>linB x=true∧(r≠[]→fdB x=true)∧Rows r
theorem lin_no {x:List UInt8} (h:linB x=true):x≠[]∧∀ c∈x.dropLast,c≠10:=by
 unfold linB at h
 simp only[Bool.and_eq_true] at h
 refine⟨?_,fun c hc=>?_⟩
 ·rintro rfl
  simp at h
 ·have:=(List.all_eq_true.1 h.2) c hc
  simpa using this
theorem fd_form {x:List UInt8} (h:fdB x=true):x=x.dropLast++[10]:=by
 unfold fdB at h
 have h1:x.getLast?=some 10:=by simpa using h
 obtain⟨q,rfl⟩:=List.getLast?_eq_some_iff.1 h1
 simp
theorem fd_app {ah x:List UInt8} (h:fdB x=true):fdB (ah++x)=true∧(ah++x).dropLast=ah++x.dropLast:=by
 have e:=fd_form h
 rw[e,← List.append_assoc]
 refine⟨fd_snoc _,?_⟩
 simp
theorem rd_back (ah:List UInt8) (S:Int) (xs:List (List UInt8)):∀ (p:Nat) (rest:List (List UInt8)),Rows xs→pkM rest=false→∃ p',rdN ah S xs.length p (xs.flatMap (lnL ah)++rest)=.ok (mks S xs,p',rest):=by
 induction xs with
 | nil=>intro p rest _ _;exact⟨p,rfl⟩
 | cons x xs ih =>
  intro p rest hR hp
  obtain⟨h1,h2,h3⟩:=hR
  simp only[List.length_cons,rdN,List.flatMap_cons,List.append_assoc]
  cases hf:fdB x with
  | true =>
   have hl:lnL ah x=[ah++x]:=by unfold lnL;rw[if_pos hf]
   obtain⟨e1,e2⟩:=fd_app (ah:=ah) hf
   have hm:mkd ah (xs.length == 0) p ([ah++x]++(xs.flatMap (lnL ah)++rest))=.ok (x,p+1,xs.flatMap (lnL ah)++rest):=by
    unfold mkd
    simp only[List.singleton_append,nxt,e1,if_true,e2]
    rw[if_pos (by simp),if_neg ?_]
    ·simp only[List.drop_left]
     rw[← fd_form hf]
    ·cases xs with
     | nil=>simp[hp]
     | cons y ys=>simp
   rw[hl,hm]
   obtain⟨p',hq⟩:=ih (p+1) rest h3 hp
   simp only[hq]
   exact⟨p',rfl⟩
  | false =>
   have hx:xs=[]:=by
    cases xs with
    | nil=>rfl
    | cons y ys=>have:=h2 (by simp);rw[hf] at this;cases this
   subst hx
   have hl:lnL ah x=[ah++x++[10],markT]:=by unfold lnL;rw[if_neg (by rw[hf];decide)]
   have hm:mkd ah (([]:List (List UInt8)).length == 0) p ([ah++x++[10],markT]++(([]:List (List UInt8)).flatMap (lnL ah)++rest))=.ok (x,p+2,rest):=by
    unfold mkd
    simp only[List.cons_append,List.nil_append,nxt,fd_snoc,if_true,List.dropLast_concat]
    rw[if_pos (by simp),if_pos (by simp[pkM]),if_neg (by simp only[List.drop_left];exact (lin_no h1).1)]
    simp
   rw[hl,hm]
   exact⟨p+2,rfl⟩
theorem pk_new {ah:List UInt8} {xs rest:List (List UInt8)} (ha:ah.head?=some 62) (hp:pkM rest=false):pkM (xs.flatMap (lnL ah)++rest)=false:=by
 cases xs with
 | nil=>exact hp
 | cons x xs =>
  cases ah with
  | nil=>cases ha
  | cons y ah =>
   simp only[List.head?_cons,Option.some.injEq] at ha
   subst ha
   rw[List.flatMap_cons,lnL]
   split<;>rfl
theorem hk_back {a b:List (List UInt8)} {c:Ch} {k p:Nat} {rest:List (List UInt8)} (hn:numB c=true) (hA:c.A+c.AN≤2147483647) (hB:c.B+c.BN≤2147483647) (hAl:(cut a c.A c.AN).length=c.AN.toNat) (hBl:(cut b c.B c.BN).length=c.BN.toNat) (hRa:Rows (cut a c.A c.AN)) (hRb:Rows (cut b c.B c.BN)) (hk:k<4096) (hp:pkM rest=false):∃ p',hkP k p (chgL a b c++rest)=.ok (⟨noA c.A c.AN,c.AN,noA c.B c.BN,c.BN,mks 45 (cut a c.A c.AN)++mks 43 (cut b c.B c.BN)⟩,p',rest):=by
 have hb:=pk_new (ah:=[62,32]) (xs:=cut b c.B c.BN) (rest:=rest) (by decide) hp
 have hs:pkM (sepL c++((cut b c.B c.BN).flatMap (lnL [62,32])++rest))=false:=by
  unfold sepL
  split
  ·rfl
  ·exact hb
 obtain⟨p1,h1⟩:=rd_back [60,32] 45 (cut a c.A c.AN) (p+1) (sepL c++((cut b c.B c.BN).flatMap (lnL [62,32])++rest)) hRa hs
 have h2:∃ p2,(if 0<c.AN∧0<c.BN then sepP p1 (sepL c++((cut b c.B c.BN).flatMap (lnL [62,32])++rest)) else .ok (p1,sepL c++((cut b c.B c.BN).flatMap (lnL [62,32])++rest)))=.ok (p2,(cut b c.B c.BN).flatMap (lnL [62,32])++rest):=by
  unfold sepL
  by_cases hq:0<c.AN∧0<c.BN
  ·rw[if_pos hq,if_pos hq]
   refine⟨p1+1,?_⟩
   unfold sepP
   rfl
  ·rw[if_neg hq,if_neg hq]
   exact⟨p1,rfl⟩
 obtain⟨p2,h2⟩:=h2
 obtain⟨p3,h3⟩:=rd_back [62,32] 43 (cut b c.B c.BN) p2 rest hRb hp
 refine⟨p3,?_⟩
 rw[hAl] at h1
 rw[hBl] at h3
 unfold hkP chgL
 simp only[List.cons_append,nxt,fd_snoc,if_true,List.dropLast_concat,cmd_back hn hA hB,List.append_assoc]
 rw[if_neg (by omega)]
 simp only[h1,h2,h3]
end

section
open Ln
theorem rows_of {a:List (List UInt8)} (h:checkB a=true):Rows a:=by
 induction a with
 | nil=>trivial
 | cons s t ih =>
  simp only[checkB,Bool.and_eq_true] at h
  have h1:=h.1
  rw[lineB_eq] at h1
  simp only[Bool.and_eq_true,Bool.or_eq_true] at h1
  refine⟨h1.1,fun hne=>?_,ih h.2⟩
  rcases h1.2 with h2 | h2
  ·cases t with
   | nil=>exact absurd rfl hne
   | cons=>cases h2
  ·exact h2
theorem rows_drop {a:List (List UInt8)} (n:Nat) (h:Rows a):Rows (a.drop n):=by
 induction n generalizing a with
 | zero=>exact h
 | succ n ih =>
  cases a with
  | nil=>trivial
  | cons s t=>exact ih h.2.2
theorem rows_take {a:List (List UInt8)} (n:Nat) (h:Rows a):Rows (a.take n):=by
 induction n generalizing a with
 | zero=>trivial
 | succ n ih =>
  cases a with
  | nil=>trivial
  | cons s t =>
   refine⟨h.1,fun hne=>h.2.1 fun e=>?_,ih h.2.2⟩
   subst e
   simp at hne
theorem rows_cut {a:List (List UInt8)} (h:checkB a=true) (p n:Int):Rows (cut a p n):=rows_take _ (rows_drop _ (rows_of h))
theorem rows_lin {a:List (List UInt8)} (h:Rows a):∀ x∈a,linB x=true:=by
 induction a with
 | nil=>intro x hx;cases hx
 | cons s t ih =>
  intro x hx
  rcases List.mem_cons.1 hx with rfl | hx
  ·exact h.1
  ·exact ih h.2.2 x hx
theorem npk_mks {no sg:Int} (t:List (List UInt8)):pkL no (mks sg t)=if sg≠no∧okS sg=true then t else []:=by
 induction t with
 | nil=>simp[mks,pkL]
 | cons s t ih =>
  have e:mks sg (s::t)=⟨sg,s⟩::mks sg t:=rfl
  rw[e,pkL,ih]
  split<;>rfl
theorem one_zero {a b:List (List UInt8)} {c:Ch} (hn:numB c=true) (hA:c.A+c.AN≤a.length) (hB:c.B+c.BN≤b.length):oneH a b 0 [c]=⟨noA c.A c.AN,c.AN,noA c.B c.BN,c.BN,mks 45 (cut a c.A c.AN)++mks 43 (cut b c.B c.BN)⟩:=by
 have h:=(numB_iff c).1 hn
 have e:bodyH a b (min (a.length:Int) (c.A+c.AN+0)) (c.A-min 0 c.A) [c]=mks 45 (cut a c.A c.AN)++mks 43 (cut b c.B c.BN):=by
  rw[show min (a.length:Int) (c.A+c.AN+0)=c.A+c.AN by omega,show c.A-min 0 c.A=c.A by omega]
  simp only[bodyH]
  rw[show c.A-c.A=(0:Int) by omega,show c.A+c.AN-(c.A+c.AN)=(0:Int) by omega,cut_zero,cut_zero]
  simp[mks]
 have l1:((cut a c.A c.AN).length:Int)=c.AN:=hcut_length (by omega) (by omega) hA
 have l2:((cut b c.B c.BN).length:Int)=c.BN:=hcut_length (by omega) (by omega) hB
 have p1:pkL 43 (mks 45 (cut a c.A c.AN)++mks 43 (cut b c.B c.BN))=cut a c.A c.AN:=by
  rw[pkL_append,npk_mks,npk_mks,if_pos (by decide),if_neg (by decide),List.append_nil]
 have p2:pkL 45 (mks 45 (cut a c.A c.AN)++mks 43 (cut b c.B c.BN))=cut b c.B c.BN:=by
  rw[pkL_append,npk_mks,npk_mks,if_neg (by decide),if_pos (by decide),List.nil_append]
 show cntH (c.A-min 0 c.A) (c.B-min 0 c.A) (bodyH a b (min (a.length:Int) (c.A+c.AN+0)) (c.A-min 0 c.A) [c])=_
 rw[e]
 unfold cntH noA
 rw[p1,p2,l1,l2,show c.A-min 0 c.A=c.A by omega,show c.B-min 0 c.A=c.B by omega]
 have q1:(0<(cut a c.A c.AN).length)=(0<c.AN):=propext ⟨fun q=>by omega,fun q=>by omega⟩
 have q2:(0<(cut b c.B c.BN).length)=(0<c.BN):=propext ⟨fun q=>by omega,fun q=>by omega⟩
 simp only[q1,q2]
theorem right_mem {fl:Bool} {p q n m:Int} {l:List Ch} (h:Right fl p q n m l):∀ c∈l,numB c=true∧c.A+c.AN≤n∧c.B+c.BN≤m:=by
 induction l generalizing fl p q with
 | nil=>intro c hc;cases hc
 | cons x l ih =>
  intro c hc
  rcases List.mem_cons.1 hc with rfl | hc
  ·exact⟨h.1.1,h.2.le.1,h.2.le.2.1⟩
  ·exact ih h.2 c hc
theorem mk_zero {l:List Ch} {a b:List (List UInt8)} (hs:Script l a.length b.length):mkR l a b 0=l.map fun c=>oneH a b 0 [c]:=by
 rw[(mkR_eq hs (by omega)).1,grp_zero l _ _ _ _ _ hs.2.2]
 simp
theorem pk_prt {l:List Ch} {a b:List (List UInt8)} (h:∀ c∈l,numB c=true):pkM (prtL l a b)=false:=by
 cases l with
 | nil=>rfl
 | cons c l =>
  obtain⟨_,y,t,e,hy⟩:=cmd_bytes (h c (by simp))
  unfold prtL
  rw[List.flatMap_cons,chgL,e]
  simp only[List.cons_append,pkM,markT,List.isPrefixOf]
  have:((92:UInt8) == y)=false:=by rw[beq_eq_false_iff_ne];exact fun q=>hy q.symm
  rw[this]
  rfl
theorem hks_back {a b:List (List UInt8)} (ha:checkB a=true) (hb:checkB b=true) (hal:a.length≤2147483647) (hbl:b.length≤2147483647) (l:List Ch):∀ (f k p:Nat),(∀ c∈l,numB c=true∧c.A+c.AN≤a.length∧c.B+c.BN≤b.length)→k+l.length≤4096→(prtL l a b).length≤f→hksP f k p (prtL l a b)=.ok (l.map fun c=>oneH a b 0 [c]):=by
 induction l with
 | nil =>
  intro f k p _ _ _
  cases f<;>rfl
 | cons c l ih =>
  intro f k p h hk hf
  have hc:=h c (by simp)
  have hn:=(numB_iff c).1 hc.1
  have e:prtL (c::l) a b=chgL a b c++prtL l a b:=rfl
  rw[e] at hf ⊢
  have l1:((cut a c.A c.AN).length:Int)=c.AN:=hcut_length (by omega) (by omega) hc.2.1
  have l2:((cut b c.B c.BN).length:Int)=c.BN:=hcut_length (by omega) (by omega) hc.2.2
  obtain⟨p',hh⟩:=hk_back (k:=k) (p:=p) (rest:=prtL l a b) hc.1 (by omega) (by omega) (by omega) (by omega) (rows_cut ha c.A c.AN) (rows_cut hb c.B c.BN) (by simp at hk;omega) (pk_prt fun x hx=>(h x (by simp[hx])).1)
  have hlen:1≤(chgL a b c).length:=by simp[chgL]
  rw[List.length_append] at hf
  cases f with
  | zero=>omega
  | succ f =>
   have hi:=ih f (k+1) p' (fun x hx=>h x (by simp[hx])) (by simp at hk;omega) (by omega)
   simp only[hksP]
   rw[if_neg (by simp[chgL]),hh]
   simp only[hi]
   simp only[List.map_cons]
   rw[one_zero hc.1 hc.2.1 hc.2.2]
def Fed (ls:List (List UInt8)):Prop:=∀ s∈ls,∃ t,s=t++[10]∧∀ c∈t,c≠10
theorem fed_check {ls:List (List UInt8)} (h:Fed ls):checkB ls=true:=by
 induction ls with
 | nil=>rfl
 | cons s r ih =>
  obtain⟨t,e,ht⟩:=h s (by simp)
  simp only[checkB,Bool.and_eq_true]
  refine⟨?_,ih fun x hx=>h x (by simp[hx])⟩
  rw[e]
  exact lineB_cut ht _
theorem fed_line {ah x:List UInt8} (ha:∀ c∈ah,c≠10) (hx:linB x=true):Fed (lnL ah x):=by
 obtain⟨h0,h1⟩:=lin_no hx
 unfold lnL
 split
 ·rename_i hf
  intro s hs
  rw[List.mem_singleton.1 hs]
  refine⟨ah++x.dropLast,?_,?_⟩
  ·rw[List.append_assoc,← fd_form hf]
  ·intro c hc
   rcases List.mem_append.1 hc with hc | hc
   ·exact ha c hc
   ·exact h1 c hc
 ·rename_i hf
  intro s hs
  rcases List.mem_cons.1 hs with rfl | hs
  ·refine⟨ah++x,rfl,?_⟩
   intro c hc
   rcases List.mem_append.1 hc with hc | hc
   ·exact ha c hc
   ·intro e
    subst e
    rcases List.eq_nil_or_concat x with rfl | ⟨q,y,rfl⟩
    ·cases hc
    ·rw[List.concat_eq_append] at hc hf h1
     rcases List.mem_append.1 hc with hc | hc
     ·exact h1 10 (by simpa using hc) rfl
     ·have:y=10:=(List.mem_singleton.1 hc).symm
      subst this
      exact hf (fd_snoc q)
  ·rw[List.mem_singleton.1 hs]
   refine⟨markT.dropLast,rfl,?_⟩
   decide
theorem fed_prt {a b:List (List UInt8)} (ha:checkB a=true) (hb:checkB b=true) {l:List Ch} (h:∀ c∈l,numB c=true):Fed (prtL l a b):=by
 intro s hs
 obtain⟨c,hc,hs⟩:=List.mem_flatMap.1 hs
 unfold chgL at hs
 rcases List.mem_cons.1 hs with rfl | hs
 ·exact⟨cmdT c,rfl,(cmd_bytes (h c hc)).1⟩
 ·rcases List.mem_append.1 hs with hs | hs
  ·obtain⟨x,hx,hs⟩:=List.mem_flatMap.1 hs
   exact fed_line (by decide) (rows_lin (rows_cut ha c.A c.AN) x hx) s hs
  ·rcases List.mem_append.1 hs with hs | hs
   ·unfold sepL at hs
    split at hs
    ·rw[List.mem_singleton.1 hs]
     exact⟨[45,45,45],rfl,by decide⟩
    ·cases hs
   ·obtain⟨x,hx,hs⟩:=List.mem_flatMap.1 hs
    exact fed_line (by decide) (rows_lin (rows_cut hb c.B c.BN) x hx) s hs
theorem split_prt {a b:List (List UInt8)} (ha:checkB a=true) (hb:checkB b=true) {l:List Ch} (h:∀ c∈l,numB c=true):splitL (prtT l a b)=prtL l a b:=right_split _ (fed_check (fed_prt ha hb h))
theorem normal_back {l:List Ch} {a b:List (List UInt8)} (hs:Script l a.length b.length) (ha:checkB a=true) (hb:checkB b=true) (hal:a.length≤1000000) (hbl:b.length≤1000000) (hl:l.length≤4096):prsT (prtT l a b)=if 1048576<(prtT l a b).length then .error (0,9) else .ok (mkR l a b 0):=by
 have hm:=right_mem hs.2.2
 unfold prsT
 rw[split_prt ha hb fun c hc=>(hm c hc).1,hks_back ha hb (by omega) (by omega) l _ 0 0 hm (by omega) (Nat.le_refl _),mk_zero hs]
end

section
open Go.RowKit
theorem lnL_len (ah s:List UInt8):(lnL ah s).flatten.length≤ah.length+s.length+29:=by
 unfold lnL
 split<;>simp[markT]<;>omega
theorem lns_len (ah:List UInt8) (x:List (List UInt8)):(x.flatMap (lnL ah)).flatten.length≤x.length * (ah.length+29)+x.flatten.length:=by
 induction x with
 | nil=>simp
 | cons s x ih =>
  have h:=lnL_len ah s
  simp only[List.flatMap_cons,List.flatten_append,List.length_append,List.length_cons,List.flatten_cons]
  have e:(x.length+1) * (ah.length+29)=x.length * (ah.length+29)+(ah.length+29):=Nat.succ_mul _ _
  omega
end

section
theorem cmd_len {c:Ch} (h:numB c=true):(cmdT c).length≤100:=by
 rw[numB_iff] at h
 have r1:=rng_short c.A c.AN h.1.1 (by omega) h.2.1.1 (by omega)
 have r2:=rng_short c.B c.BN h.2.2.1.1 (by omega) h.2.2.2.1.1 (by omega)
 have r3:=itoa_short c.A (by omega) (by omega)
 have r4:=itoa_short c.B (by omega) (by omega)
 unfold cmdT
 split
 ·simp only[List.length_append,List.length_cons];omega
 ·split
  ·simp only[List.length_append,List.length_cons];omega
  ·simp only[List.length_append,List.length_cons];omega
theorem flat_drop {a:List (List UInt8)} {p A AN:Int} (hp:0≤p) (hA:p≤A) (hN:0≤AN):(cut a A AN).flatten.length+(a.drop (A+AN).toNat).flatten.length≤(a.drop p.toNat).flatten.length:=by
 have e1:a.drop p.toNat=(a.drop p.toNat).take (A-p).toNat++a.drop A.toNat:=by
  have h:=(List.take_append_drop (A-p).toNat (a.drop p.toNat)).symm
  rw[List.drop_drop] at h
  have e:p.toNat+(A-p).toNat=A.toNat:=by omega
  rw[e] at h
  exact h
 have e2:a.drop A.toNat=cut a A AN++a.drop (A+AN).toNat:=by
  have h:=(List.take_append_drop AN.toNat (a.drop A.toNat)).symm
  rw[List.drop_drop] at h
  have e:A.toNat+AN.toNat=(A+AN).toNat:=by omega
  rw[e] at h
  exact h
 rw[e1,e2]
 simp only[List.flatten_append,List.length_append]
 omega
theorem cut_le (a:List (List UInt8)) (p n:Int):(cut a p n).length≤n.toNat:=by
 unfold cut
 rw[List.length_take]
 omega
theorem chg_len {a b:List (List UInt8)} {c:Ch} (h:numB c=true):(chgL a b c).flatten.length≤105+31 * (c.AN.toNat+c.BN.toNat)+(cut a c.A c.AN).flatten.length+(cut b c.B c.BN).flatten.length:=by
 have h1:=cmd_len h
 have h2:=lns_len [60,32] (cut a c.A c.AN)
 have h3:=lns_len [62,32] (cut b c.B c.BN)
 have h4:=cut_le a c.A c.AN
 have h5:=cut_le b c.B c.BN
 have h6:(sepL c).flatten.length≤4:=by
  unfold sepL
  split<;>simp
 simp only[List.length_cons,List.length_nil] at h2 h3
 simp only[chgL,List.flatten_cons,List.flatten_append,List.length_append,List.length_cons,List.length_nil]
 omega
theorem prt_len_at {a b:List (List UInt8)} {n m:Int} (l:List Ch):∀ {f:Bool} {p q:Int},0≤p→0≤q→Right f p q n m l→(prtT l a b).length≤105 * l.length+31 * ((n-p).toNat+(m-q).toNat)+(a.drop p.toNat).flatten.length+(b.drop q.toNat).flatten.length:=by
 induction l with
 | nil =>
  intro f p q _ _ _
  simp[prtT,prtL]
 | cons c l ih =>
  intro f p q hp hq h
  obtain⟨⟨h1,h2,h3,_⟩,h5⟩:=h
  have hn:=(numB_iff c).1 h1
  have hle:=h5.le
  have g:=ih (by omega) (by omega) h5
  have g1:=@chg_len a b c h1
  have g2:=@flat_drop a p c.A c.AN hp h3 hn.2.1.1
  have g3:=@flat_drop b q c.B c.BN hq (by omega) hn.2.2.2.1.1
  have e:prtT (c::l) a b=(chgL a b c).flatten++prtT l a b:=by simp[prtT,prtL]
  rw[e,List.length_append,List.length_cons]
  omega
theorem prt_len {a b:List (List UInt8)} {l:List Ch} (h:Script l a.length b.length):(prtT l a b).length≤105 * l.length+31 * (a.length+b.length)+a.flatten.length+b.flatten.length:=by
 have g:=@prt_len_at a b a.length b.length l true 0 0 (by omega) (by omega) h.2.2
 simpa using g
end

section
open Go.RowKit
def Tab10 (w : World) : Prop := ∀ u : World, Below w.heap.size w u → Lib.TabIs Tryz.prog u "internal/strconv.uint64pow10" .u64 Lib.pow10Tab
theorem Tab10.on {w u:World} (h:Tab10 w) (hb:Below w.heap.size w u):Tab10 u:=fun v hv=>h v (hb.trans (hv.mono hb.size))
theorem nText_f (n:Int) (h0:-9223372036854775808≤n) (h1:n≤9223372036854775807) (w:World) (HT:Hid (Tab10 w)) :
  Calls Tryz.prog 81 #[.int .i64 n] w fun e w'=>e=.returned (.string ⟨(Lib.itoa n).toArray⟩)∧Below w.heap.size w w':=by
 go_enter Tryz.func81,Tryz.ntmps81
 go_wp2_with fail
 refine (Tryz.strconv_Itoa n h0 h1 _ (HT.out _ (Below.refl _ _))).mono ?_
 rintro e w1 ⟨rfl,k,os,rfl⟩
 go_wp2
 go_ret
 exact⟨rfl,Lib.below_grow w.heap.size w (Nat.le_refl _) k os⟩
end

section
open Go.RowKit
theorem suf_feed (s:List UInt8):Lib.hasSuffix s [10]=fdB s:=by
 unfold Lib.hasSuffix fdB
 rw[Bool.eq_iff_iff,List.isSuffixOf_iff_suffix,beq_iff_eq]
 constructor
 ·rintro⟨t,rfl⟩
  simp
 ·intro h
  obtain⟨t,rfl⟩:=List.getLast?_eq_some_iff.1 h
  exact⟨t,rfl⟩
def plT (s:List UInt8):List UInt8:=if fdB s=true then s else s++10::markT
theorem pl_lines (ah s:List UInt8):(lnL ah s).flatten=ah++plT s:=by
 unfold lnL plT
 split<;>simp
theorem pline_f (s:List UInt8) (w:World) (hs:s.length≤1099511627776) (Z:List UInt8) (HZ:Hid (plT s=Z)) :
  Calls Tryz.prog 82 #[.string ⟨s.toArray⟩] w fun e w'=>e=.returned (.string ⟨Z.toArray⟩)∧w'=w:=by
 cases hf:fdB s with
 | true =>
  have HE:Hid (s=Z):=(by have h:=HZ.out;unfold plT at h;rw[if_pos hf] at h;exact h)
  clear HZ
  go_enter Tryz.func82,Tryz.ntmps82
  go_wp2_with fail
  refine (Tryz.strings_HasSuffix ⟨s.toArray⟩ ⟨#[10]⟩ w (by show s.length≤_;omega)).mono ?_
  rintro e w2 ⟨rfl,rfl⟩
  have e1:Lib.hasSuffix (⟨s.toArray⟩:ByteArray).data.toList (⟨#[10]⟩:ByteArray).data.toList=true:=(suf_feed s).trans hf
  rw[e1]
  clear e1 hf
  go_wp2
  go_ret
  exact⟨by rw[← HE.out];rfl,rfl⟩
 | false =>
  have HE:Hid (s++10::markT=Z):=(by have h:=HZ.out;unfold plT at h;rw[if_neg (by rw[hf];decide)] at h;exact h)
  have q1:=add_fits (x:=s) (y:=10::markT) (by unfold Fits;simp only[markT,List.length_cons,List.length_nil];omega) Tryz.prog
  rw[HE.out] at q1
  unfold markT at q1
  have q2:=add_fits (x:=s) (y:=[10]) (by unfold Fits;simp only[List.length_cons,List.length_nil];omega) Tryz.prog
  have q3:=add_fits (x:=s++[10]) (y:=markT) (by unfold Fits;simp only[markT,List.length_append,List.length_cons,List.length_nil];omega) Tryz.prog
  have q4:s++[10]++markT=Z:=(by rw[← HE.out];simp)
  rw[q4] at q3
  unfold markT at q3
  clear HZ q4
  go_enter Tryz.func82,Tryz.ntmps82
  go_wp2_with fail
  refine (Tryz.strings_HasSuffix ⟨s.toArray⟩ ⟨#[10]⟩ w (by show s.length≤_;omega)).mono ?_
  rintro e w2 ⟨rfl,rfl⟩
  have e1:Lib.hasSuffix (⟨s.toArray⟩:ByteArray).data.toList (⟨#[10]⟩:ByteArray).data.toList=false:=(suf_feed s).trans hf
  rw[e1]
  clear e1 hf
  go_wp2
  go_ret
  exact⟨rfl,rfl⟩
end

section
open Go.RowKit
theorem bcells_len (l:List UInt8):(Lib.byteCells l).length=l.length:=by simp[Lib.byteCells]
end

section
open Go.RowKit
attribute [local go_sem] ByteArray.extract_mk no_at
def ryO (vL:Value) (p:Int):Obj:=.cells #[vL,.int .i64 p] 138
def Ry (u:World) (R:Nat) (vL:Value) (p:Int):Prop:=u.heap[R]?=some (ryO vL p)
def fltO (a z:Int):Obj:=.cells #[.int .i64 a,.iface 26 (.int .i64 z)] 88
section
variable {u u':World} {R:Nat} {vL:Value} {p:Int}
theorem Ry.cells (q:Ry u R vL p):u.cell? ⟨R,0,none⟩=some vL∧u.cell? ⟨R,1,none⟩=some (.int .i64 p):=by
 unfold Ry ryO at q
 refine⟨?_,?_⟩<;>rw[Lib.cell_of_heap q]<;>rfl
theorem Ry.frozen (q:Ry u R vL p) (j:Nat):u.frozen? ⟨R,j,none⟩=false:=Lib.frozen_of_heap q j
theorem Ry.lt (q:Ry u R vL p):R<u.heap.size:=(Array.getElem?_eq_some_iff.1 q).1
theorem Ry.dN (q:Ry u R vL p) (n:Nat):Ry (u.drewN n) R vL p:=q
theorem Ry.at (q:Ry u R vL p) (p':Int):Ry (u.setCell ⟨R,1,none⟩ (.int .i64 p')) R vL p':=heap_setCell_same u R 1 _ _ (.int .i64 p') q
theorem Ry.low (q:Ry u R vL p) (hg:Below u.heap.size u u'):Ry u' R vL p:=(hg.block R q.lt).trans q
theorem Ry.keep (q:Ry u R vL p) {g:Option Nat} (hg:u.grownBy u' g) (hr:some R≠g):Ry u' R vL p:=(hg.block R q.lt hr).trans q
end
def Thr (a z:Int) (x:Ending) (w':World):Prop:=∃ g,x=.panicked [{ v:=.iface 86 (.pointer (some ⟨g,0,none⟩)),recovered:=false }]∧w'.heap[g]?=some (fltO a z)
def LnQ (R:Nat) (_vL:Value) (_p:Nat) (X:Except (Nat × Int) (List UInt8 × List (List UInt8))) (w:World) (x:Ending) (w':World):Prop :=
 match X with
 | .error (a,e)=>Thr (a:Int) e x w'∧w.grownBy w' (some R)
 | .ok (s,_)=>x=.returned (.string ⟨(s++[10]).toArray⟩)∧∃ n,w'=w.drewN n
theorem drop_feed {s:List UInt8} (h:fdB s=true):s.dropLast++[10]=s:=(fd_form h).symm
end

section
open Ln
theorem sat_pos:∀ (l:List UInt8) (n:Int),0≤n→l.all Pn.digB=true→0≤Pn.sat n l
 | [],_,hn,_=>hn
 | c::t,n,hn,h=>by
  simp only[List.all_cons,Bool.and_eq_true] at h
  have h1:=Pn.digB_out h.1
  rw[Pn.sat]
  exact sat_pos t _ (by omega) h.2
theorem prs_num {s:List UInt8}:0≤Pn.parseV s∧Pn.parseV s≤2147483647:=by
 unfold Pn.parseV
 split
 ·rename_i h
  exact⟨sat_pos s 0 (by omega) (Pn.isNum_all h.1),h.2⟩
 ·omega
end

section
open Ln
def cutL:List Mk→List Mk
 | []=>[]
 | [m]=>[⟨m.sg,m.tx.dropLast⟩]
 | m::l=>m::cutL l
def lastT (l:List Mk):List UInt8:=(l.getLast?.map (·.tx)).getD []
def endK (l:List Mk) (r:List (List UInt8)):Bool:=lastT l != [10] && pkM r
theorem mark_eq {s:List UInt8} (hp:∀ c∈s.dropLast,c≠10) (h:markT.isPrefixOf s=true):s=markT:=by
 rw[List.isPrefixOf_iff_prefix] at h
 obtain⟨t,rfl⟩:=h
 cases t with
 | nil=>simp
 | cons c t =>
  exfalso
  have h1:(10:UInt8)∈(markT++c::t).dropLast:=by
   rw[List.dropLast_append_of_ne_nil (by simp)]
   exact List.mem_append_left _ (by decide)
  exact hp 10 h1 rfl
theorem cutL_cons {m:Mk} {l:List Mk} (h:l≠[]):cutL (m::l)=m::cutL l:=by
 cases l with
 | nil=>exact absurd rfl h
 | cons y l=>rfl
theorem cutL_snoc (l:List Mk) (m:Mk):cutL (l++[m])=l++[⟨m.sg,m.tx.dropLast⟩]:=by
 induction l with
 | nil=>rfl
 | cons x l ih =>
  rw[List.cons_append,cutL_cons (by simp),ih]
  rfl
theorem lastT_snoc (l:List Mk) (m:Mk):lastT (l++[m])=m.tx:=by simp[lastT]
theorem lastT_cons {m:Mk} {l:List Mk} (h:l≠[]):lastT (m::l)=lastT l:=by
 cases l with
 | nil=>exact absurd rfl h
 | cons y l=>simp[lastT]
end

section
open Go.RowKit
attribute [local go_sem] ByteArray.extract_mk no_at
structure Fr (B R:Nat) (w w':World):Prop where
 os:w'.os=w.os
 tape:w'.tape=w.tape
 output:w'.output=w.output
 size:w.heap.size≤w'.heap.size
 block:∀ k,k<B→k≠R→w'.heap[k]?=w.heap[k]?
theorem Fr.refl (B R:Nat) (w:World):Fr B R w w:=⟨rfl,rfl,rfl,Nat.le_refl _,fun _ _ _=>rfl⟩
theorem Fr.trans {B R:Nat} {w u v:World} (h:Fr B R w u) (h':Fr B R u v):Fr B R w v:=⟨h'.os.trans h.os,h'.tape.trans h.tape,h'.output.trans h.output,Nat.le_trans h.size h'.size,fun k h1 h2=>(h'.block k h1 h2).trans (h.block k h1 h2)⟩
theorem Fr.of {B R:Nat} {w u:World} (h:w.grownBy u (some R)) (hB:B≤w.heap.size):Fr B R w u:=⟨h.os,h.tape,h.output,h.size,fun k h1 h2=>h.block k (Nat.lt_of_lt_of_le h1 hB) (fun e=>h2 (Option.some.inj e))⟩
theorem Fr.own {B R:Nat} {w u:World} {g:Option Nat} (h:w.grownBy u g) (hB:B≤w.heap.size) (hg:∀ j,g=some j→B≤j):Fr B R w u:=⟨h.os,h.tape,h.output,h.size,fun k h1 _=>h.block k (Nat.lt_of_lt_of_le h1 hB) (fun e=>by have:=hg k e.symm;omega)⟩
theorem Fr.low {B R:Nat} {w u:World} (h:Below w.heap.size w u) (hB:B≤w.heap.size):Fr B R w u:=Fr.of (low_grown h _) hB
theorem Fr.grown {R:Nat} {w u:World} (h:Fr w.heap.size R w u):w.grownBy u (some R):=⟨h.os,h.tape,h.output,h.size,fun k h1 h2=>h.block k h1 (fun e=>h2 (by rw[e]))⟩
end

section
open Go.RowKit
attribute [local go_sem] ByteArray.extract_mk no_at
theorem pkM_at {L:List (List UInt8)} (hP:Plain L) {p:Nat} (h:p<L.length):pkM (L.drop p)=(L[p] == markT):=by
 rw[List.drop_eq_getElem_cons h]
 unfold pkM
 rw[Bool.eq_iff_iff,beq_iff_eq]
 constructor
 ·intro q
  exact mark_eq (hP _ (List.getElem_mem h)) q
 ·intro q
  rw[q]
  show markT.isPrefixOf markT=true
  decide
end

end Go.Proofs.YtgiojkhmkeocfaaGreatDoor
