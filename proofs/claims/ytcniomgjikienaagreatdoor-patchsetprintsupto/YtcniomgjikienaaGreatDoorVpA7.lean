/-
  Texts that belong together, joined: Itoa, LnShelf, NoShelfX, UnShelf, NoShelf, EfShelfJ, NoJn, NoTx, LnMath, HuLm, Math, PMath, BackMath, NoMath, NoB, NoRf, NoCg, NoM2, NoM3, NoPr, NoLen, NoWs, NcW, PtL, NcL, HuLn, HuC2.
-/
import Derived.Shelf.Strconv.Itoa3
import Derived.Test.YtcniomgjikienaaGreatDoorProg
import Derived.Shelf.Strings.Search3
import Derived.Shelf.Small.Strs
import Derived.Shelf.Small.Utf8
import Derived.Shelf.Strings.Runes
import Derived.Shelf.Strings.IndexAny
import Derived.Shelf.Strings.IndexAnyAll
import Derived.Shelf.Strings.Search2
import Derived.Test.YtcniomgjikienaaGreatDoorVpA1
import Derived.Shelf.Strings.Cut
import Derived.Shelf.Strings.BuilderK
import Derived.Shelf.Small.Wraps
import Derived.Shelf.Strings.OnBuilder
import Derived.Lib.ItoaNum
import Derived.Laws.IdiomStrings
import Derived.Lib.Bytealg
import Derived.Lib.Join
import Derived.Deep.RegionHeld3
import Derived.Deep.CutBlock
import Derived.Deep.DeepCutAuto
import Derived.Test.YtcniomgjikienaaGreatDoorVpA3
import Derived.Lib.AppendIntMem
import Derived.Lib.FrozenHead2
import Derived.BigQuiet

set_option maxHeartbeats 16000000
set_option maxRecDepth 100000
namespace Go.Proofs

section
open Go.Shelf
def Tryz.laysM171_ren : Go.Shelf.Ren := ⟨fun | 171 => 300 | 243 => 335 | 246 => 352 | 283 => 360 | 284 => 361 | 285 => 362 | 286 => 363 | 129 => 369 | 317 => 368 | 318 => 370 | 319 => 371 | 320 => 372 | 337 => 374 | 338 => 375 | n => n, fun | 3 => 3 | 9 => 9 | 2 => 2 | 4 => 4 | 171 => 381 | 0 => 0 | 53 => 51 | 37 => 83 | 5 => 5 | 173 => 384 | 212 => 388 | 51 => 224 | 20 => 20 | 213 => 389 | 46 => 203 | 232 => 396 | 233 => 397 | n => n, fun | 17 => 2 | 18 => 5 | 19 => 6 | n => n⟩
theorem Tryz.laysM171 : Go.Proofs.LaysM.n171 Tryz.prog Tryz.laysM171_ren := {
  mixed := by kernel_rfl
  f129 := Go.fk Tryz.func369
  f171 := Go.fk Tryz.func300
  f243 := Go.fk Tryz.func335
  f246 := Go.fk Tryz.func352
  f283 := Go.fk Tryz.func360
  f284 := Go.fk Tryz.func361
  f285 := Go.fk Tryz.func362
  f286 := Go.fk Tryz.func363
  f317 := Go.fk Tryz.func368
  f318 := Go.fk Tryz.func370
  f319 := Go.fk Tryz.func371
  f320 := Go.fk Tryz.func372
  f337 := Go.fk Tryz.func374
  f338 := Go.fk Tryz.func375
  t0 := Tryz.underlying0
  a0 := Tryz.isAgg0
  z0 := Tryz.sizeOf0
  v0 := Tryz.zeroValue0
  t2 := Tryz.underlying2
  a2 := Tryz.isAgg2
  z2 := Tryz.sizeOf2
  v2 := Tryz.zeroValue2
  t3 := Tryz.underlying3
  a3 := Tryz.isAgg3
  z3 := Tryz.sizeOf3
  v3 := Tryz.zeroValue3
  t4 := Tryz.underlying4
  a4 := Tryz.isAgg4
  z4 := Tryz.sizeOf4
  v4 := Tryz.zeroValue4
  t5 := Tryz.underlying5
  a5 := Tryz.isAgg5
  z5 := Tryz.sizeOf5
  v5 := Tryz.zeroValue5
  t9 := Tryz.underlying9
  a9 := Tryz.isAgg9
  z9 := Tryz.sizeOf9
  v9 := Tryz.zeroValue9
  t20 := Tryz.underlying20
  a20 := Tryz.isAgg20
  z20 := Tryz.sizeOf20
  v20 := Tryz.zeroValue20
  t37 := Tryz.underlying83
  a37 := Tryz.isAgg83
  z37 := Tryz.sizeOf83
  v37 := Tryz.zeroValue83
  t46 := Tryz.underlying203
  a46 := Tryz.isAgg203
  z46 := Tryz.sizeOf203
  v46 := Tryz.zeroValue203
  t51 := Tryz.underlying224
  a51 := Tryz.isAgg224
  z51 := Tryz.sizeOf224
  v51 := Tryz.zeroValue224
  t53 := Tryz.underlying51
  a53 := Tryz.isAgg51
  z53 := Tryz.sizeOf51
  v53 := Tryz.zeroValue51
  t171 := Tryz.underlying381
  a171 := Tryz.isAgg381
  z171 := Tryz.sizeOf381
  v171 := Tryz.zeroValue381
  t173 := Tryz.underlying384
  a173 := Tryz.isAgg384
  z173 := Tryz.sizeOf384
  v173 := Tryz.zeroValue384
  t212 := Tryz.underlying388
  a212 := Tryz.isAgg388
  z212 := Tryz.sizeOf388
  v212 := Tryz.zeroValue388
  t213 := Tryz.underlying389
  a213 := Tryz.isAgg389
  z213 := Tryz.sizeOf389
  t232 := Tryz.underlying396
  a232 := Tryz.isAgg396
  z232 := Tryz.sizeOf396
  v232 := Tryz.zeroValue396
  t233 := Tryz.underlying397
  a233 := Tryz.isAgg397
  z233 := Tryz.sizeOf397
  v233 := Tryz.zeroValue397
  g17 := by kernel_rfl
  g18 := by kernel_rfl
  g19 := by kernel_rfl
  i0 := by kernel_rfl
  i2 := by kernel_rfl
  i3 := by kernel_rfl
  i4 := by kernel_rfl
  i5 := by kernel_rfl
  i9 := by kernel_rfl
  i20 := by kernel_rfl
  i37 := by kernel_rfl
  i46 := by kernel_rfl
  i51 := by kernel_rfl
  i53 := by kernel_rfl
  i171 := by kernel_rfl
  i173 := by kernel_rfl
  i212 := by kernel_rfl
  i232 := by kernel_rfl
  i233 := by kernel_rfl
  m17 := by kernel_rfl
  m18 := by kernel_rfl
  m19 := by kernel_rfl }
open Go.RowKit Go.Sort Go.Lib in
theorem Tryz.strconv_Itoa (n : Int) (h0 : -9223372036854775808 ≤ n) (h1 : n ≤ 9223372036854775807) (w : World) (htab : Lib.TabIs Tryz.prog w "internal/strconv.uint64pow10" .u64 Lib.pow10Tab) :
    Calls Tryz.prog 300 #[.int .i64 n] w fun e w' => e = .returned (.string ⟨(Lib.itoa n).toArray⟩) ∧ ∃ k os, w' = grow (w.drewN k) os := Any.strconv_Itoa Tryz.laysM171 n h0 h1 w htab
end

section
open Go.Shelf
def Tryz.lays143_ren : Go.Shelf.Ren := ⟨fun | 143 => 49 | 219 => 92 | 217 => 131 | 225 => 132 | 224 => 133 | 267 => 134 | 266 => 165 | 314 => 166 | n => n, fun | 9 => 9 | 3 => 3 | 4 => 4 | 5 => 5 | 46 => 203 | 146 => 225 | 51 => 224 | n => n, fun | 1 => 1 | n => n⟩
theorem Tryz.lays143 : Go.Proofs.Lays.n143 Tryz.prog Tryz.lays143_ren := {
  mixed := by kernel_rfl
  f143 := Go.fk Tryz.func49
  f217 := Go.fk Tryz.func131
  f219 := Go.fk Tryz.func92
  f224 := Go.fk Tryz.func133
  f225 := Go.fk Tryz.func132
  f266 := Go.fk Tryz.func165
  f267 := Go.fk Tryz.func134
  f314 := Go.fk Tryz.func166
  t3 := Tryz.underlying3
  a3 := Tryz.isAgg3
  z3 := Tryz.sizeOf3
  v3 := Tryz.zeroValue3
  t4 := Tryz.underlying4
  a4 := Tryz.isAgg4
  z4 := Tryz.sizeOf4
  v4 := Tryz.zeroValue4
  t5 := Tryz.underlying5
  a5 := Tryz.isAgg5
  z5 := Tryz.sizeOf5
  v5 := Tryz.zeroValue5
  t9 := Tryz.underlying9
  a9 := Tryz.isAgg9
  z9 := Tryz.sizeOf9
  v9 := Tryz.zeroValue9
  t46 := Tryz.underlying203
  a46 := Tryz.isAgg203
  z46 := Tryz.sizeOf203
  v46 := Tryz.zeroValue203
  t51 := Tryz.underlying224
  a51 := Tryz.isAgg224
  z51 := Tryz.sizeOf224
  v51 := Tryz.zeroValue224
  t146 := Tryz.underlying225
  a146 := Tryz.isAgg225
  z146 := Tryz.sizeOf225
  v146 := Tryz.zeroValue225
  g1 := by kernel_rfl }
open Go.RowKit Go.Lib in
theorem Tryz.strings_Index_one (s : ByteArray) (c : UInt8) (w : World) :
    Calls Tryz.prog 49 #[.string s, .string ⟨#[c]⟩] w fun e w' => e = .returned (.int .i64 (Lib.indexByte s.data.toList c)) ∧ w' = w := Any.strings_Index_one Tryz.lays143 s c w
end

section
open Go.Shelf
def Tryz.lays119_ren : Go.Shelf.Ren := ⟨fun | 119 => 364 | n => n, fun | 21 => 21 | 4 => 4 | n => n, fun | n => n⟩
theorem Tryz.lays119 : Go.Proofs.Lays.n119 Tryz.prog Tryz.lays119_ren := {
  mixed := by kernel_rfl
  f119 := Go.fk Tryz.func364
  t4 := Tryz.underlying4
  a4 := Tryz.isAgg4
  z4 := Tryz.sizeOf4
  v4 := Tryz.zeroValue4
  t21 := Tryz.underlying21
  a21 := Tryz.isAgg21
  z21 := Tryz.sizeOf21
  v21 := Tryz.zeroValue21 }
theorem Tryz.utf8_ValidRune (r : Int) (w : World) :
    Calls Tryz.prog 364 #[.int .i32 r] w fun e w' => e = .returned (.bool (Lib.validRune r)) ∧ w' = w := Any.utf8_ValidRune Tryz.lays119 r w
def Tryz.lays219_ren : Go.Shelf.Ren := ⟨fun | 219 => 92 | 217 => 131 | 225 => 132 | 224 => 133 | 267 => 134 | 266 => 165 | 314 => 166 | n => n, fun | 9 => 9 | 3 => 3 | 4 => 4 | 5 => 5 | 46 => 203 | 146 => 225 | 51 => 224 | n => n, fun | 1 => 1 | n => n⟩
theorem Tryz.lays219 : Go.Proofs.Lays.n219 Tryz.prog Tryz.lays219_ren := {
  mixed := by kernel_rfl
  f217 := Go.fk Tryz.func131
  f219 := Go.fk Tryz.func92
  f224 := Go.fk Tryz.func133
  f225 := Go.fk Tryz.func132
  f266 := Go.fk Tryz.func165
  f267 := Go.fk Tryz.func134
  f314 := Go.fk Tryz.func166
  t3 := Tryz.underlying3
  a3 := Tryz.isAgg3
  z3 := Tryz.sizeOf3
  v3 := Tryz.zeroValue3
  t4 := Tryz.underlying4
  a4 := Tryz.isAgg4
  z4 := Tryz.sizeOf4
  v4 := Tryz.zeroValue4
  t5 := Tryz.underlying5
  a5 := Tryz.isAgg5
  z5 := Tryz.sizeOf5
  v5 := Tryz.zeroValue5
  t9 := Tryz.underlying9
  a9 := Tryz.isAgg9
  z9 := Tryz.sizeOf9
  v9 := Tryz.zeroValue9
  t46 := Tryz.underlying203
  a46 := Tryz.isAgg203
  z46 := Tryz.sizeOf203
  v46 := Tryz.zeroValue203
  t51 := Tryz.underlying224
  a51 := Tryz.isAgg224
  z51 := Tryz.sizeOf224
  v51 := Tryz.zeroValue224
  t146 := Tryz.underlying225
  a146 := Tryz.isAgg225
  z146 := Tryz.sizeOf225
  v146 := Tryz.zeroValue225
  g1 := by kernel_rfl }
open Go.RowKit Go.Lib in
theorem Tryz.stringslite_Index_one (s : ByteArray) (c : UInt8) (w : World) :
    Calls Tryz.prog 92 #[.string s, .string ⟨#[c]⟩] w fun e w' => e = .returned (.int .i64 (Lib.indexByte s.data.toList c)) ∧ w' = w := Any.stringslite_Index_one Tryz.lays219 s c w
def Tryz.lays152_ren : Go.Shelf.Ren := ⟨fun | 152 => 354 | 137 => 347 | 119 => 364 | 224 => 133 | 225 => 132 | 217 => 131 | 266 => 165 | n => n, fun | 9 => 9 | 21 => 21 | 3 => 3 | 4 => 4 | 5 => 5 | 0 => 0 | 46 => 203 | n => n, fun | n => n⟩
theorem Tryz.lays152 : Go.Proofs.Lays.n152 Tryz.prog Tryz.lays152_ren := {
  mixed := by kernel_rfl
  f119 := Go.fk Tryz.func364
  f137 := Go.fk Tryz.func347
  f152 := Go.fk Tryz.func354
  f217 := Go.fk Tryz.func131
  f224 := Go.fk Tryz.func133
  f225 := Go.fk Tryz.func132
  f266 := Go.fk Tryz.func165
  t0 := Tryz.underlying0
  a0 := Tryz.isAgg0
  z0 := Tryz.sizeOf0
  v0 := Tryz.zeroValue0
  t3 := Tryz.underlying3
  a3 := Tryz.isAgg3
  z3 := Tryz.sizeOf3
  v3 := Tryz.zeroValue3
  t4 := Tryz.underlying4
  a4 := Tryz.isAgg4
  z4 := Tryz.sizeOf4
  v4 := Tryz.zeroValue4
  t5 := Tryz.underlying5
  a5 := Tryz.isAgg5
  z5 := Tryz.sizeOf5
  v5 := Tryz.zeroValue5
  t9 := Tryz.underlying9
  a9 := Tryz.isAgg9
  z9 := Tryz.sizeOf9
  v9 := Tryz.zeroValue9
  t21 := Tryz.underlying21
  a21 := Tryz.isAgg21
  z21 := Tryz.sizeOf21
  v21 := Tryz.zeroValue21
  t46 := Tryz.underlying203
  a46 := Tryz.isAgg203
  z46 := Tryz.sizeOf203
  v46 := Tryz.zeroValue203 }
open Go.RowKit Go.Lib in
theorem Tryz.strings_IndexRune_ascii (s : ByteArray) (r : Int) (w : World) (h0 : 0 ≤ r) (h1 : r < 128) :
    Calls Tryz.prog 354 #[.string s, .int .i32 r] w fun e w' => e = .returned (.int .i64 (Lib.indexByte s.data.toList r.toNat.toUInt8)) ∧ w' = w := Any.strings_IndexRune_ascii Tryz.lays152 s r w h0 h1
def Tryz.lays153_ren : Go.Shelf.Ren := ⟨fun | 153 => 338 | 152 => 354 | 226 => 355 | 227 => 349 | 228 => 356 | 137 => 347 | 119 => 364 | 224 => 133 | 225 => 132 | 217 => 131 | 266 => 165 | n => n, fun | 9 => 9 | 3 => 3 | 4 => 4 | 5 => 5 | 21 => 21 | 117 => 371 | 116 => 370 | 0 => 0 | 46 => 203 | 124 => 374 | n => n, fun | n => n⟩
theorem Tryz.lays153 : Go.Proofs.Lays.n153 Tryz.prog Tryz.lays153_ren := {
  mixed := by kernel_rfl
  f119 := Go.fk Tryz.func364
  f137 := Go.fk Tryz.func347
  f152 := Go.fk Tryz.func354
  f153 := Go.fk Tryz.func338
  f217 := Go.fk Tryz.func131
  f224 := Go.fk Tryz.func133
  f225 := Go.fk Tryz.func132
  f226 := Go.fk Tryz.func355
  f227 := Go.fk Tryz.func349
  f228 := Go.fk Tryz.func356
  f266 := Go.fk Tryz.func165
  t0 := Tryz.underlying0
  a0 := Tryz.isAgg0
  z0 := Tryz.sizeOf0
  v0 := Tryz.zeroValue0
  t3 := Tryz.underlying3
  a3 := Tryz.isAgg3
  z3 := Tryz.sizeOf3
  v3 := Tryz.zeroValue3
  t4 := Tryz.underlying4
  a4 := Tryz.isAgg4
  z4 := Tryz.sizeOf4
  v4 := Tryz.zeroValue4
  t5 := Tryz.underlying5
  a5 := Tryz.isAgg5
  z5 := Tryz.sizeOf5
  v5 := Tryz.zeroValue5
  t9 := Tryz.underlying9
  a9 := Tryz.isAgg9
  z9 := Tryz.sizeOf9
  v9 := Tryz.zeroValue9
  t21 := Tryz.underlying21
  a21 := Tryz.isAgg21
  z21 := Tryz.sizeOf21
  v21 := Tryz.zeroValue21
  t46 := Tryz.underlying203
  a46 := Tryz.isAgg203
  z46 := Tryz.sizeOf203
  v46 := Tryz.zeroValue203
  t116 := Tryz.underlying370
  a116 := Tryz.isAgg370
  z116 := Tryz.sizeOf370
  t117 := Tryz.underlying371
  a117 := Tryz.isAgg371
  z117 := Tryz.sizeOf371
  v117 := Tryz.zeroValue371
  t124 := Tryz.underlying374
  a124 := Tryz.isAgg374
  z124 := Tryz.sizeOf374
  v124 := Tryz.zeroValue374 }
open Go.RowKit Go.Lib in
theorem Tryz.strings_IndexAny_long (hv116 : ∀ w, (zeroValue 370).run Tryz.prog w = .ok (.agg (Array.replicate 256 (.bool false))) w) (s chars : ByteArray) (w : World) (h2 : 2 ≤ chars.size) (h8 : 8 < s.size) (hs : s.size < 4294967281) (hcs : chars.size < 4294967281) (hascii : ∀ (j : Nat) b, chars.data.toList[j]? = some b → b.toNat < 128) :
    Calls Tryz.prog 338 #[.string s, .string chars] w fun e w' => e = .returned (.int .i64 (Lib.indexAny s.data.toList chars.data.toList)) ∧ w' = ((w.alloc (.cells (Lib.setCells chars.data.toList) 370)).alloc (.cells (Lib.setCells chars.data.toList) 370)) := Any.strings_IndexAny_long Tryz.lays153 hv116 (by kernel_rfl) s chars w h2 h8 hs hcs hascii
end

section
open Go.Shelf
def Tryz.lays145_ren : Go.Shelf.Ren := ⟨fun | 145 => 46 | 220 => 87 | 219 => 92 | 217 => 131 | 225 => 132 | 224 => 133 | 267 => 134 | 266 => 165 | 314 => 166 | n => n, fun | 9 => 9 | 4 => 4 | 59 => 91 | 3 => 3 | 5 => 5 | 46 => 203 | 146 => 225 | 51 => 224 | n => n, fun | 1 => 1 | n => n⟩
theorem Tryz.lays145 : Go.Proofs.Lays.n145 Tryz.prog Tryz.lays145_ren := {
  mixed := by kernel_rfl
  f145 := Go.fk Tryz.func46
  f217 := Go.fk Tryz.func131
  f219 := Go.fk Tryz.func92
  f220 := Go.fk Tryz.func87
  f224 := Go.fk Tryz.func133
  f225 := Go.fk Tryz.func132
  f266 := Go.fk Tryz.func165
  f267 := Go.fk Tryz.func134
  f314 := Go.fk Tryz.func166
  t3 := Tryz.underlying3
  a3 := Tryz.isAgg3
  z3 := Tryz.sizeOf3
  v3 := Tryz.zeroValue3
  t4 := Tryz.underlying4
  a4 := Tryz.isAgg4
  z4 := Tryz.sizeOf4
  v4 := Tryz.zeroValue4
  t5 := Tryz.underlying5
  a5 := Tryz.isAgg5
  z5 := Tryz.sizeOf5
  v5 := Tryz.zeroValue5
  t9 := Tryz.underlying9
  a9 := Tryz.isAgg9
  z9 := Tryz.sizeOf9
  v9 := Tryz.zeroValue9
  t46 := Tryz.underlying203
  a46 := Tryz.isAgg203
  z46 := Tryz.sizeOf203
  v46 := Tryz.zeroValue203
  t51 := Tryz.underlying224
  a51 := Tryz.isAgg224
  z51 := Tryz.sizeOf224
  v51 := Tryz.zeroValue224
  t59 := Tryz.underlying91
  a59 := Tryz.isAgg91
  z59 := Tryz.sizeOf91
  v59 := Tryz.zeroValue91
  t146 := Tryz.underlying225
  a146 := Tryz.isAgg225
  z146 := Tryz.sizeOf225
  v146 := Tryz.zeroValue225
  g1 := by kernel_rfl }
open Go.RowKit Go.Lib in
theorem Tryz.strings_Cut (s sep : ByteArray) (m : Int) (w : World) (hs : s.size < 4294967281) (hm : w.cell? ⟨1, 0, none⟩ = some (.int .i64 m)) :
    Calls Tryz.prog 46 #[.string s, .string sep] w fun e w' => e = .returned (.tuple #[.string ⟨(Lib.cut s.data.toList sep.data.toList).1.toArray⟩, .string ⟨(Lib.cut s.data.toList sep.data.toList).2.1.toArray⟩, .bool (Lib.cut s.data.toList sep.data.toList).2.2]) ∧ ∃ n, w' = w.drewN n := Any.strings_Cut Tryz.lays145 s sep m w hs hm
end

section
open Go.Shelf
def Tryz.lays103_ren : Go.Shelf.Ren := ⟨fun | 103 => 238 | 210 => 292 | 206 => 168 | n => n, fun | 9 => 9 | 4 => 4 | 24 => 57 | 3 => 3 | n => n, fun | n => n⟩
theorem Tryz.lays103 : Go.Proofs.Lays.n103 Tryz.prog Tryz.lays103_ren := {
  mixed := by kernel_rfl
  f103 := Go.fk Tryz.func238
  f206 := Go.fk Tryz.func168
  f210 := Go.fk Tryz.func292
  t3 := Tryz.underlying3
  a3 := Tryz.isAgg3
  z3 := Tryz.sizeOf3
  v3 := Tryz.zeroValue3
  t4 := Tryz.underlying4
  a4 := Tryz.isAgg4
  z4 := Tryz.sizeOf4
  v4 := Tryz.zeroValue4
  t9 := Tryz.underlying9
  a9 := Tryz.isAgg9
  z9 := Tryz.sizeOf9
  v9 := Tryz.zeroValue9
  t24 := Tryz.underlying57
  a24 := Tryz.isAgg57
  z24 := Tryz.sizeOf57
  v24 := Tryz.zeroValue57 }
open Go.RowKit in
theorem Tryz.strings_CutPrefix (s p : ByteArray) (w : World) :
    Calls Tryz.prog 238 #[.string s, .string p] w fun e w' => e = .returned (.tuple #[.string ⟨(Lib.trimPrefix s.data.toList p.data.toList).toArray⟩, .bool (Lib.hasPrefix s.data.toList p.data.toList)]) ∧ w' = w := Any.strings_CutPrefix Tryz.lays103 s p w
def Tryz.lays99_ren : Go.Shelf.Ren := ⟨fun | 99 => 139 | 206 => 168 | n => n, fun | 9 => 9 | 4 => 4 | 3 => 3 | n => n, fun | n => n⟩
theorem Tryz.lays99 : Go.Proofs.Lays.n99 Tryz.prog Tryz.lays99_ren := {
  mixed := by kernel_rfl
  f99 := Go.fk Tryz.func139
  f206 := Go.fk Tryz.func168
  t3 := Tryz.underlying3
  a3 := Tryz.isAgg3
  z3 := Tryz.sizeOf3
  v3 := Tryz.zeroValue3
  t4 := Tryz.underlying4
  a4 := Tryz.isAgg4
  z4 := Tryz.sizeOf4
  v4 := Tryz.zeroValue4
  t9 := Tryz.underlying9
  a9 := Tryz.isAgg9
  z9 := Tryz.sizeOf9
  v9 := Tryz.zeroValue9 }
open Go.RowKit Go.Lib in
theorem Tryz.strings_HasPrefix (s p : ByteArray) (w : World) :
    Calls Tryz.prog 139 #[.string s, .string p] w fun e w' => e = .returned (.bool (Lib.hasPrefix s.data.toList p.data.toList)) ∧ w' = w := Any.strings_HasPrefix Tryz.lays99 s p w
def Tryz.lays100_ren : Go.Shelf.Ren := ⟨fun | 100 => 252 | 207 => 135 | n => n, fun | 9 => 9 | 4 => 4 | 3 => 3 | n => n, fun | n => n⟩
theorem Tryz.lays100 : Go.Proofs.Lays.n100 Tryz.prog Tryz.lays100_ren := {
  mixed := by kernel_rfl
  f100 := Go.fk Tryz.func252
  f207 := Go.fk Tryz.func135
  t3 := Tryz.underlying3
  a3 := Tryz.isAgg3
  z3 := Tryz.sizeOf3
  v3 := Tryz.zeroValue3
  t4 := Tryz.underlying4
  a4 := Tryz.isAgg4
  z4 := Tryz.sizeOf4
  v4 := Tryz.zeroValue4
  t9 := Tryz.underlying9
  a9 := Tryz.isAgg9
  z9 := Tryz.sizeOf9
  v9 := Tryz.zeroValue9 }
open Go.RowKit Go.Lib in
theorem Tryz.strings_HasSuffix (s p : ByteArray) (w : World) (hs : s.size ≤ 9223372036854775807) :
    Calls Tryz.prog 252 #[.string s, .string p] w fun e w' => e = .returned (.bool (Lib.hasSuffix s.data.toList p.data.toList)) ∧ w' = w := Any.strings_HasSuffix Tryz.lays100 s p w hs
def Tryz.lays102_ren : Go.Shelf.Ren := ⟨fun | 102 => 239 | 209 => 293 | 207 => 135 | n => n, fun | 9 => 9 | 4 => 4 | 3 => 3 | n => n, fun | n => n⟩
theorem Tryz.lays102 : Go.Proofs.Lays.n102 Tryz.prog Tryz.lays102_ren := {
  mixed := by kernel_rfl
  f102 := Go.fk Tryz.func239
  f207 := Go.fk Tryz.func135
  f209 := Go.fk Tryz.func293
  t3 := Tryz.underlying3
  a3 := Tryz.isAgg3
  z3 := Tryz.sizeOf3
  v3 := Tryz.zeroValue3
  t4 := Tryz.underlying4
  a4 := Tryz.isAgg4
  z4 := Tryz.sizeOf4
  v4 := Tryz.zeroValue4
  t9 := Tryz.underlying9
  a9 := Tryz.isAgg9
  z9 := Tryz.sizeOf9
  v9 := Tryz.zeroValue9 }
open Go.RowKit Go.Lib in
theorem Tryz.strings_TrimSuffix (s p : ByteArray) (w : World) (hs : s.size ≤ 9223372036854775807) :
    Calls Tryz.prog 239 #[.string s, .string p] w fun e w' => e = .returned (.string ⟨(Lib.trimSuffix s.data.toList p.data.toList).toArray⟩) ∧ w' = w := Any.strings_TrimSuffix Tryz.lays102 s p w hs
end

section
open Go.Shelf
def Tryz.lays156_ren : Go.Shelf.Ren := ⟨fun | 156 => 51 | 165 => 94 | 166 => 39 | 169 => 40 | 240 => 72 | 241 => 136 | 276 => 114 | 277 => 167 | n => n, fun | 31 => 49 | 9 => 9 | 3 => 3 | 4 => 4 | 0 => 0 | 20 => 20 | 72 => 85 | 76 => 86 | 70 => 82 | 37 => 83 | 75 => 24 | 127 => 128 | 164 => 105 | 5 => 5 | 80 => 88 | n => n, fun | n => n⟩
theorem Tryz.lays156 : Go.Proofs.Lays.n156 Tryz.prog Tryz.lays156_ren := {
  mixed := by kernel_rfl
  f156 := Go.fk Tryz.func51
  f165 := Go.fk Tryz.func94
  f166 := Go.fk Tryz.func39
  f169 := Go.fk Tryz.func40
  f240 := Go.fk Tryz.func72
  f241 := Go.fk Tryz.func136
  f276 := Go.fk Tryz.func114
  f277 := Go.fk Tryz.func167
  t0 := Tryz.underlying0
  a0 := Tryz.isAgg0
  z0 := Tryz.sizeOf0
  v0 := Tryz.zeroValue0
  t3 := Tryz.underlying3
  a3 := Tryz.isAgg3
  z3 := Tryz.sizeOf3
  v3 := Tryz.zeroValue3
  t4 := Tryz.underlying4
  a4 := Tryz.isAgg4
  z4 := Tryz.sizeOf4
  v4 := Tryz.zeroValue4
  t9 := Tryz.underlying9
  a9 := Tryz.isAgg9
  z9 := Tryz.sizeOf9
  v9 := Tryz.zeroValue9
  t20 := Tryz.underlying20
  a20 := Tryz.isAgg20
  z20 := Tryz.sizeOf20
  v20 := Tryz.zeroValue20
  t31 := Tryz.underlying49
  a31 := Tryz.isAgg49
  z31 := Tryz.sizeOf49
  v31 := Tryz.zeroValue49
  t37 := Tryz.underlying83
  a37 := Tryz.isAgg83
  z37 := Tryz.sizeOf83
  v37 := Tryz.zeroValue83
  t70 := Tryz.underlying82
  a70 := Tryz.isAgg82
  z70 := Tryz.sizeOf82
  v70 := Tryz.zeroValue82
  t72 := Tryz.underlying85
  a72 := Tryz.isAgg85
  z72 := Tryz.sizeOf85
  v72 := Tryz.zeroValue85
  t75 := Tryz.underlying24
  a75 := Tryz.isAgg24
  z75 := Tryz.sizeOf24
  v75 := Tryz.zeroValue24
  t76 := Tryz.underlying86
  a76 := Tryz.isAgg86
  z76 := Tryz.sizeOf86
  v76 := Tryz.zeroValue86
  t127 := Tryz.underlying128
  a127 := Tryz.isAgg128
  z127 := Tryz.sizeOf128
  v127 := Tryz.zeroValue128
  t164 := Tryz.underlying105
  a164 := Tryz.isAgg105
  z164 := Tryz.sizeOf105
  v164 := Tryz.zeroValue105 }
theorem Tryz.Builder_Extra_156 : Builder.Extra Tryz.prog Tryz.lays156_ren := {
  sizeBuilder := by kernel_rfl
  liesBuilder := by kernel_rfl
  t5 := Tryz.underlying5
  a5 := Tryz.isAgg5
  z5 := Tryz.sizeOf5
  v5 := Tryz.zeroValue5
  infoByte := by kernel_rfl
  cellsByte := by kernel_rfl
  sizeByte := by kernel_rfl
  neB5 := by decide }
open Go.RowKit in
theorem Tryz.strings_Join_none (a : Option Addr) (c : Nat) (sep : ByteArray) (w : World) :
    Calls Tryz.prog 51 #[.slice a 0 c, .string sep] w fun e w' => e = .returned (.string ⟨#[]⟩) ∧ w' = w := Any.strings_Join_none Tryz.lays156 Tryz.Builder_Extra_156 a c sep w
open Go.RowKit in
theorem Tryz.strings_Join (bk o c : Nat) (xs : List ByteArray) (sep : ByteArray) (w : World) (hcells : ∀ (j : Nat) x, xs[j]? = some x → w.cell? ⟨bk, o + j, none⟩ = some (.string x)) (hbk : bk < w.heap.size) (hN : xs.length ≤ 140737488355328) (hcap : xs.length ≤ c) (hlen : (Lib.join (xs.map (·.data.toList)) sep.data.toList).length ≤ 140737488355328) :
    Calls Tryz.prog 51 #[.slice (some ⟨bk, o, none⟩) xs.length c, .string sep] w fun e w' => e = .returned (.string ⟨(Lib.join (xs.map (·.data.toList)) sep.data.toList).toArray⟩) ∧ Below w.heap.size w w' := Any.strings_Join Tryz.lays156 Tryz.Builder_Extra_156 bk o c xs sep w hcells hbk hN hcap hlen
end

end Go.Proofs

namespace Go.Proofs.YtcniomgjikienaaGreatDoor

section
theorem Zmw (a b:List UInt8):((⟨a.toArray⟩:ByteArray)++(⟨b.toArray⟩:ByteArray))=⟨(a++b).toArray⟩:=by
 apply ByteArray.ext
 simp
end

section
open Go.RowKit
theorem ZAw {P:Program} (src dst e:TypeId) (hs:P.underlying src=some (.slice e)) (he:P.underlying e=some (.int .u8)) (hd:P.underlying dst=some .string) (w:World) (x:Int) (h0:0≤x) (h1:x<256) :
  (convert src dst (.slice (some ⟨w.heap.size,0,none⟩) 1 1)).run P (w.alloc (.cells #[.int .u8 x] e))=.ok (.string ⟨#[UInt8.ofNat x.toNat]⟩) (w.alloc (.cells #[.int .u8 x] e)):=by
 have hx:((UInt8.ofNat x.toNat).toNat:Int)=x:=by simp only[UInt8.toNat_ofNat'];omega
 refine run_convert_bytes_back (w.alloc (.cells #[.int .u8 x] e)) src dst e ⟨w.heap.size,0,none⟩ 1 [UInt8.ofNat x.toNat] hs he hd ?_
 intro j hj
 have ej:j=0:=by simpa using hj
 subst ej
 have:=heap_alloc_new w (.cells #[.int .u8 x] e)
 show (w.alloc (.cells #[.int .u8 x] e)).cell? ⟨w.heap.size,0+0,none⟩=some (.int .u8 ((UInt8.ofNat x.toNat).toNat:Int))
 rw[hx]
 unfold World.cell?
 dsimp only
 rw[this]
 rfl
def txc (m:Nat):UInt8:=UInt8.ofNat (48+m % 10)
def txp (m:Nat):List UInt8:=if m=0 then [] else Lib.decDigits m
theorem ZAy (m:Nat) (h:0<m):txp m=txp (m / 10)++[txc m]:=by
 unfold txp
 rw[if_neg (by omega),Lib.decDigits]
 by_cases h10:m<10
 ·rw[dif_pos h10,if_pos (by omega)]
  have:m % 10=m:=by omega
  simp[txc,this]
 ·rw[dif_neg h10,if_neg (by omega)];rfl
theorem ZuI (m:Nat):Lib.decDigits m=txp (m / 10)++[txc m]:=by
 by_cases h:m=0
 ·subst h;rw[Lib.decDigits];simp[txp,txc]
 ·have:=ZAy m (by omega)
  rw[← this];simp[txp,h]
theorem ZuH:∀ (n m:Nat),m<10 ^ (n+1)→(Lib.decDigits m).length≤n+1
 | 0,m,h=>by rw[Lib.decDigits,dif_pos (by simpa using h)];simp
 | n+1,m,h=>by
  rw[Lib.decDigits]
  split
  ·simp
  ·have h2:m / 10<10 ^ (n+1):=by
    rw[Nat.div_lt_iff_lt_mul (by omega),← Nat.pow_succ];exact h
   have:=ZuH n (m / 10) h2
   simp;omega
theorem Zwz (n:Int) (h0:-9223372036854775808≤n) (h1:n≤9223372036854775807):(Lib.itoa n).length≤21:=by
 have hal:(Lib.decDigits n.natAbs).length≤20:=ZuH 19 n.natAbs (by omega)
 unfold Lib.itoa
 split
 ·simp only[List.length_cons]
  omega
 ·have e:n.toNat=n.natAbs:=by omega
  rw[e]
  omega
theorem Zzo (m:Nat) (hm:m<18446744073709551616) (w:World) :
  Calls Tryz.prog 154 #[.int .u64 (m:Int)] w fun e w'=>e=.returned (.string ⟨(Lib.decDigits m).toArray⟩)∧Below w.heap.size w w':=by
 have hcv:∀ (u:World) (k:Nat),(convert 83 9 (.slice (some ⟨u.heap.size,0,none⟩) 1 1)).run Tryz.prog (u.alloc (.cells #[.int .u8 (48+(k:Int) % 10)] 5))=.ok (.string ⟨([txc k]:List UInt8).toArray⟩) (u.alloc (.cells #[.int .u8 (48+(k:Int) % 10)] 5)):=fun u k=>by
  have h:=ZAw (P:=Tryz.prog) 83 9 5 Tryz.underlying83 Tryz.underlying5 Tryz.underlying9 u (48+(k:Int) % 10) (by omega) (by omega)
  have e:(48+(k:Int) % 10).toNat=48+k % 10:=by omega
  rw[e] at h
  exact h
 have HM:Hid (Lib.decDigits m=txp (m / 10)++[txc m]):=ZuI m
 go_enter Tryz.func154,Tryz.ntmps154
 go_wp2
 go_loopw [0,3] (fun n s wr=>∃ (k:Nat) (acc:List UInt8),k<18446744073709551616∧n=.int .u64 k∧s=.string ⟨acc.toArray⟩∧Below w.heap.size w wr∧txp k++acc=Lib.decDigits m) (fun n _ _=>(intOf n).toNat)
 case atStart=>exact⟨m / 10,[txc m],by omega,by go_num,rfl,(Below.refl _ w).alloc (Nat.le_refl _) _,HM.out.symm⟩
 case round =>
  obtain⟨k,acc,hk,rfl,rfl,hbr,hacc⟩:=hrel
  have HA:Hid (txp k++acc=Lib.decDigits m):=hacc
  have hal:acc.length≤20:=by
   have h1:=ZuH 19 m (by omega)
   rw[← hacc,List.length_append] at h1
   omega
  clear hacc
  by_cases h0:0<k
  ·have HP:Hid (txp k=txp (k / 10)++[txc k]):=ZAy k h0
   go_wp2
   refine⟨⟨k / 10,[txc k]++acc,by omega,by go_num,?_,hbr.alloc hbr.size _,by rw[← HA.out,HP.out];simp⟩,by simp[intOf];omega⟩
   exact congrArg Value.string (Zmw [txc k] acc)
  ·have e:k=0:=by omega
   subst e
   go_wp2
   go_ret
   exact⟨by have:=HA.out;rw[← this];rfl,hbr⟩
theorem ZAx (n:Int) (h:n<0) (h0:-9223372036854775808≤n):IntKind.u64.wrap (-IntKind.u64.wrap n)=(n.natAbs:Int):=by
 simp[IntKind.wrap,IntKind.bits,IntKind.signed]
 omega
theorem Zzj (n:Int) (h0:-9223372036854775808≤n) (h1:n≤9223372036854775807) (w:World) :
  Calls Tryz.prog 115 #[.int .i64 n] w fun e w'=>e=.returned (.string ⟨(Lib.itoa n).toArray⟩)∧Below w.heap.size w w':=by
 by_cases hn:n<0
 ·have HI:Hid (Lib.itoa n=[45]++Lib.decDigits n.natAbs):=by show Lib.itoa n=_;simp[Lib.itoa,hn]
  have hal:(Lib.decDigits n.natAbs).length≤20:=ZuH 19 n.natAbs (by omega)
  go_enter Tryz.func115,Tryz.ntmps115
  go_wp2_with fail
  rw[ZAx n hn h0]
  refine (Zzo n.natAbs (by omega) _).mono ?_
  rintro e w1 ⟨rfl,hb1⟩
  go_wp2
  go_ret
  exact⟨by rw[HI.out];exact congrArg (fun s=>Ending.returned (Value.string s)) (Zmw [45] _),hb1⟩
 ·obtain⟨m,rfl⟩:=Int.eq_ofNat_of_zero_le (Int.not_lt.1 hn)
  have HI:Hid (Lib.itoa (m:Int)=Lib.decDigits m):=by show Lib.itoa (m:Int)=_;simp[Lib.itoa]
  go_enter Tryz.func115,Tryz.ntmps115
  go_wp2_with fail
  refine (Zzo m (by omega) _).mono ?_
  rintro e w1 ⟨rfl,hb1⟩
  go_wp2
  go_ret
  exact⟨by rw[HI.out];rfl,hb1⟩
end

end Go.Proofs.YtcniomgjikienaaGreatDoor

namespace Go.Proofs.YtcniomgjikienaaGreatDoor.Ln

section
open Go
def lineB:List UInt8→Bool→Bool
 | [],_=>false
 | [c],last=>last || c == 10
 | c::d::t,last=>c != 10 && lineB (d::t) last
def checkB:List (List UInt8)→Bool
 | []=>true
 | s::t=>lineB s t.isEmpty && checkB t
theorem Zfz (c:UInt8) (x:List UInt8) (last:Bool) (hx:x≠[]):lineB (c::x) last=(c != 10 && lineB x last):=by
 cases x with
 | nil=>exact absurd rfl hx
 | cons d t=>rfl
theorem ZeH {l:List UInt8} {c:UInt8} (h:Lib.indexByte l c<0):Lib.indexByte l c=-1∧∀ x∈l,x≠c:=by
 induction l with
 | nil=>exact⟨rfl,by simp⟩
 | cons b l ih =>
  unfold Lib.indexByte at h ⊢
  by_cases hb:(b == c)=true
  ·rw[if_pos hb] at h;simp at h
  ·rw[if_neg hb] at h ⊢
   by_cases h1:(Lib.indexByte l c == -1)=true
   ·rw[if_pos h1]
    have h2:=ih (by simp at h1;omega)
    refine⟨rfl,?_⟩
    intro x hx
    simp only[List.mem_cons] at hx
    rcases hx with rfl | hx
    ·simpa using hb
    ·exact h2.2 x hx
   ·rw[if_neg h1] at h
    have:=Lib.indexByte_ge l c
    simp at h1
    omega
theorem ZeI {l:List UInt8} {c:UInt8} (h:0≤Lib.indexByte l c):∃ a b,l=a++c::b∧(∀ x∈a,x≠c)∧Lib.indexByte l c=a.length:=by
 induction l with
 | nil=>simp[Lib.indexByte] at h
 | cons d l ih =>
  unfold Lib.indexByte at h ⊢
  by_cases hb:(d == c)=true
  ·have:d=c:=by simpa using hb
   subst this
   rw[if_pos hb]
   exact⟨[],l,rfl,by simp,rfl⟩
  ·rw[if_neg hb] at h ⊢
   by_cases h1:(Lib.indexByte l c == -1)=true
   ·rw[if_pos h1] at h;simp at h
   ·rw[if_neg h1] at h ⊢
    have:=Lib.indexByte_ge l c
    obtain⟨a,b,e1,e2,e3⟩:=ih (by simp at h1;omega)
    refine⟨d::a,b,by rw[e1];rfl,?_,by rw[e3];simp⟩
    intro x hx
    simp only[List.mem_cons] at hx
    rcases hx with rfl | hx
    ·simpa using hb
    ·exact e2 x hx
theorem ZwJ {x:List UInt8} (h:∀ c∈x,c≠10) (last:Bool):lineB x last=(last && !x.isEmpty):=by
 induction x with
 | nil=>simp[lineB]
 | cons c t ih =>
  cases t with
  | nil =>
   have:c≠10:=h c (by simp)
   simp[lineB,this]
  | cons d t =>
   rw[lineB,ih fun x hx=>h x (by simp[hx])]
   have:c≠10:=h c (by simp)
   simp[this]
theorem ZfA {a b:List UInt8} (h:∀ c∈a,c≠10) (last:Bool):lineB (a++10::b) last=b.isEmpty:=by
 induction a with
 | nil =>
  cases b with
  | nil=>simp[lineB]
  | cons d b=>simp[lineB]
 | cons c a ih =>
  have hc:c≠10:=h c (by simp)
  rw[List.cons_append,Zfz _ _ _ (by simp),ih fun x hx=>h x (by simp[hx])]
  simp[hc]
def feedB (s:List UInt8):Bool:=s.getLast? == some 10
def bareL (s:List UInt8):List UInt8:=if feedB s then s.dropLast else s
end

end Go.Proofs.YtcniomgjikienaaGreatDoor.Ln

namespace Go.Proofs.YtcniomgjikienaaGreatDoor

section
open Ln
theorem ZfB (s:List UInt8) (last:Bool):lineB s last=(linB s && (last || fdB s)):=by
 induction s with
 | nil=>rfl
 | cons c t ih =>
  cases t with
  | nil =>
   simp[lineB,linB,fdB]
  | cons d t =>
   have e1:linB (c::d::t)=(c != 10 && linB (d::t)):=by
    simp[linB,List.dropLast]
   have e2:fdB (c::d::t)=fdB (d::t):=by simp[fdB]
   rw[e1,e2,Bool.and_assoc,← ih]
   rfl
def allB (l:List Mk):Bool:=l.all fun m=>okS m.sg
theorem Zyr {sg no:Int} (h:sg=45∧no=43∨sg=43∧no=45) {l:List Mk} (hl:allB l=true):(pkL no l).isEmpty=lstB sg l:=by
 induction l with
 | nil=>rfl
 | cons m l ih =>
  simp only[allB,List.all_cons,Bool.and_eq_true] at hl
  have ih:=ih hl.2
  have hm:=hl.1
  simp only[okS,Bool.or_eq_true,decide_eq_true_eq] at hm
  simp only[pkL,lstB,List.all_cons]
  have key:(m.sg≠no∧okS m.sg=true)↔¬ (m.sg≠sg∧m.sg≠32):=by
   constructor
   ·rintro⟨k1,_⟩ k2
    rcases h with ⟨rfl,rfl⟩ | ⟨rfl,rfl⟩<;>omega
   ·intro k
    refine⟨fun k1=>?_,hl.1⟩
    rcases h with ⟨rfl,rfl⟩ | ⟨rfl,rfl⟩<;>omega
  by_cases q:m.sg≠sg∧m.sg≠32
  ·rw[if_neg (fun k=>key.1 k q),ih,decide_eq_true q.1,decide_eq_true q.2]
   rfl
  ·rw[if_pos (key.2 q)]
   have:(decide (m.sg≠sg) && decide (m.sg≠32))=false:=by
    rw[← Bool.not_eq_true,Bool.and_eq_true,decide_eq_true_eq,decide_eq_true_eq]
    exact q
   rw[this]
   rfl
theorem ZuZ (l:List Mk):fldB l=(allB l && checkB (pkL 43 l) && checkB (pkL 45 l)):=by
 induction l with
 | nil=>rfl
 | cons m l ih =>
  have e0:allB (m::l)=(okS m.sg && allB l):=rfl
  rw[e0]
  cases ha:allB l with
  | false =>
   rw[ha] at ih
   have ih:fldB l=false:=by rw[ih];rfl
   simp[fldB,ih]
  | true =>
   rw[ha] at ih
   have p1:=Zyr (.inl ⟨rfl,rfl⟩) ha
   have p2:=Zyr (.inr ⟨rfl,rfl⟩) ha
   obtain⟨sg,tx⟩:=m
   simp only[fldB]
   rw[ih]
   by_cases h1:sg=32
   ·subst h1
    have q1:pkL 43 (⟨32,tx⟩::l)=tx::pkL 43 l:=by rw[pkL,if_pos (by dsimp only;decide)]
    have q2:pkL 45 (⟨32,tx⟩::l)=tx::pkL 45 l:=by rw[pkL,if_pos (by dsimp only;decide)]
    rw[q1,q2]
    simp only[checkB,ZfB,p1,p2,okS]
    cases linB tx<;>cases fdB tx<;>cases lstB 45 l<;>cases lstB 43 l<;>cases checkB (pkL 43 l)<;>cases checkB (pkL 45 l)<;>rfl
   ·by_cases h2:sg=45
    ·subst h2
     have q1:pkL 43 (⟨45,tx⟩::l)=tx::pkL 43 l:=by rw[pkL,if_pos (by dsimp only;decide)]
     have q2:pkL 45 (⟨45,tx⟩::l)=pkL 45 l:=by rw[pkL,if_neg (by dsimp only;decide)]
     rw[q1,q2]
     simp only[checkB,ZfB,p1,okS]
     cases linB tx<;>cases fdB tx<;>cases lstB 45 l<;>cases lstB 43 l<;>cases checkB (pkL 43 l)<;>cases checkB (pkL 45 l)<;>rfl
    ·by_cases h3:sg=43
     ·subst h3
      have q1:pkL 43 (⟨43,tx⟩::l)=pkL 43 l:=by rw[pkL,if_neg (by dsimp only;decide)]
      have q2:pkL 45 (⟨43,tx⟩::l)=tx::pkL 45 l:=by rw[pkL,if_pos (by dsimp only;decide)]
      rw[q1,q2]
      simp only[checkB,ZfB,p2,okS]
      cases linB tx<;>cases fdB tx<;>cases lstB 45 l<;>cases lstB 43 l<;>cases checkB (pkL 43 l)<;>cases checkB (pkL 45 l)<;>rfl
     ·have q:okS sg=false:=by simp[okS,h1,h2,h3]
      simp[q]
end

end Go.Proofs.YtcniomgjikienaaGreatDoor

namespace Go.Proofs.YtcniomgjikienaaGreatDoor.Q

section
def plainI (n:Int):Bool:=decide (32≤n∧n≤126∧n≠34∧n≠92)
def hexl:List UInt8:=[48,49,50,51,52,53,54,55,56,57,97,98,99,100,101,102]
def hexc (n:Nat):UInt8:=hexl.getD n 0
theorem ZdY (n:Nat) (h:n<(⟨#[48,49,50,51,52,53,54,55,56,57,97,98,99,100,101,102]⟩:ByteArray).size) :
  (⟨#[48,49,50,51,52,53,54,55,56,57,97,98,99,100,101,102]⟩:ByteArray)[n]=hexc n:=by
 have h':n<16:=h
 have key:∀ i:Fin 16,(#[48,49,50,51,52,53,54,55,56,57,97,98,99,100,101,102]:Array UInt8)[i.val]'(i.isLt)=hexc i.val:=by decide
 exact key ⟨n,h'⟩
theorem Zea (n:Nat) (h:n<([48,49,50,51,52,53,54,55,56,57,97,98,99,100,101,102]:List UInt8).length) :
  ([48,49,50,51,52,53,54,55,56,57,97,98,99,100,101,102]:List UInt8)[n]=hexc n:=by
 have h':n<16:=h
 have key:∀ i:Fin 16,([48,49,50,51,52,53,54,55,56,57,97,98,99,100,101,102]:List UInt8)[i.val]'(i.isLt)=hexc i.val:=by decide
 exact key ⟨n,h'⟩
def q1 (c:UInt8):List UInt8:=if plainI c.toNat then [c] else [92,hexc (c.toNat / 16),hexc (c.toNat % 16)]
def qbody (l:List UInt8):List UInt8:=l.flatMap q1
def quote (l:List UInt8):List UInt8:=[34]++qbody l++[34]
def digitI (n:Int):Int:=if 48≤n∧n≤57 then n-48 else if 97≤n∧n≤102 then n-87 else -1
def pairI (a b:UInt8):Int:=16 * digitI a.toNat+digitI b.toNat
def pairOk (a b:UInt8):Bool:=decide (0≤digitI a.toNat) && decide (0≤digitI b.toNat) && !(plainI (pairI a b))
def pv (a b:UInt8):Int:=if pairOk a b then pairI a b else 0
def pn (a b:UInt8):Int:=if pairOk a b then 3 else 0
theorem quote_length (l:List UInt8):(quote l).length≤3 * l.length+2:=by
 have h:∀ l:List UInt8,(qbody l).length≤3 * l.length:=by
  intro l
  induction l with
  | nil=>simp[qbody]
  | cons c t ih =>
   have:(q1 c).length≤3:=by unfold q1;split<;>simp
   simp only[qbody,List.flatMap_cons,List.length_append,List.length_cons] at ih ⊢
   omega
 have:=h l
 simp[quote];omega
end

end Go.Proofs.YtcniomgjikienaaGreatDoor.Q

namespace Go.Proofs.YtcniomgjikienaaGreatDoor.Pn

section
def digB (c:UInt8):Bool:=decide (48≤c.toNat∧c.toNat≤57)
theorem ZuJ {c:UInt8} (h:digB c=true):48≤c.toNat∧c.toNat≤57:=of_decide_eq_true h
def isNum:List UInt8→Bool
 | []=>false
 | c::t=>!(decide (c.toNat=48) && !t.isEmpty) && (c::t).all digB
def sat:Int→List UInt8→Int
 | n,[]=>n
 | n,c::t=>sat (min (n * 10+((c.toNat:Int)-48)) 2147483648) t
def parseV (l:List UInt8):Int:=if isNum l=true∧sat 0 l≤2147483647 then sat 0 l else 0
def parseE (l:List UInt8):Int:=if isNum l=true then if sat 0 l≤2147483647 then 0 else 2 else 3
theorem all_at {l:List UInt8} (h:l.all digB=true) (k:Nat) (hk:k<l.length):48≤l[k].toNat∧l[k].toNat≤57 :=
 ZuJ (List.all_eq_true.1 h _ (List.getElem_mem hk))
end

end Go.Proofs.YtcniomgjikienaaGreatDoor.Pn

namespace Go.Proofs.YtcniomgjikienaaGreatDoor

section
open Q Pn
end

section
open Ln
def markT:List UInt8:=[92,32,78,111,32,110,101,119,108,105,110,101,32,97,116,32,101,110,100,32,111,102,32,102,105,108,101,10]
def rngT (p n:Int):List UInt8:=if n=1 then Lib.itoa (p+1) else Lib.itoa (p+1)++44::Lib.itoa (p+n)
def lnL (ah s:List UInt8):List (List UInt8):=if fdB s=true then [ah++s] else [ah++s++[10],markT]
def cmdT (c:Ch):List UInt8:=if c.AN=0 then Lib.itoa c.A++97::rngT c.B c.BN else if c.BN=0 then rngT c.A c.AN++100::Lib.itoa c.B else rngT c.A c.AN++99::rngT c.B c.BN
def sepL (c:Ch):List (List UInt8):=if 0<c.AN∧0<c.BN then [[45,45,45,10]] else []
def nxt (p:Nat):List (List UInt8)→Except (Nat × Int) (List UInt8 × List (List UInt8))
 | []=>.error (p+1,1)
 | s::r=>if fdB s=true then .ok (s.dropLast,r) else .error (p+1,3)
def pkM:List (List UInt8)→Bool
 | []=>false
 | s::_=>markT.isPrefixOf s
def mkd (sg:List UInt8) (last:Bool) (p:Nat) (ls:List (List UInt8)):Except (Nat × Int) (List UInt8 × Nat × List (List UInt8)) :=
 match nxt p ls with
 | .error e=>.error e
 | .ok (s,r)=>if sg.isPrefixOf s=true then if (last && pkM r)=true then if s.drop sg.length=[] then .error (p+2,3) else .ok (s.drop sg.length,p+2,r.tail) else .ok (s.drop sg.length++[10],p+1,r) else .error (p+1,3)
def rdN (sg:List UInt8) (S:Int):Nat→Nat→List (List UInt8)→Except (Nat × Int) (List Mk × Nat × List (List UInt8))
 | 0,p,ls=>.ok ([],p,ls)
 | n+1,p,ls=>match mkd sg (n == 0) p ls with
  | .error e=>.error e
  | .ok (t,p1,r)=>match rdN sg S n p1 r with
   | .error e=>.error e
   | .ok (l,p2,r2)=>.ok (⟨S,t⟩::l,p2,r2)
def spB (q:UInt8→Bool):List UInt8→Option (List UInt8 × UInt8 × List UInt8)
 | []=>none
 | c::t=>if q c=true then some ([],c,t) else match spB q t with
  | none=>none
  | some (a,d,b)=>some (c::a,d,b)
def isC (c:UInt8):Bool:=c == 97 || c == 99 || c == 100
def isK (c:UInt8):Bool:=c == 44
def lnsP (s:List UInt8):Option (Int × Int):=match spB isK s with
 | some (x,_,y)=>if Pn.parseE x=0∧Pn.parseE y=0∧1≤Pn.parseV x∧Pn.parseV x<Pn.parseV y then some (Pn.parseV x,Pn.parseV y-Pn.parseV x+1) else none
 | none=>if Pn.parseE s=0∧1≤Pn.parseV s then some (Pn.parseV s,1) else none
def oneP (s:List UInt8):Option (Int × Int):=if Pn.parseE s=0 then some (Pn.parseV s,0) else none
def cmdP (s:List UInt8):Option (Int × Int × Int × Int):=match spB isC s with
 | none=>none
 | some (x,c,y)=>match (if c=97 then oneP x else lnsP x),(if c=100 then oneP y else lnsP y) with
  | some (A,AN),some (B,BN)=>some (A,AN,B,BN)
  | _,_=>none
end

section
open Go.RowKit
attribute [local go_sem] ByteArray.extract_mk
theorem Zhc (l:List UInt8) (k:Nat) (h:k<(⟨l.toArray⟩:ByteArray).size):(⟨l.toArray⟩:ByteArray)[k]'h=l[k]'(h):=rfl
attribute [local go_sem] Zhc
def bareT (s:List UInt8):List UInt8:=if fdB s=true then s.dropLast else s
theorem Zmy {l:List UInt8} (h0:0<l.length) (h:l[l.length-1]=10):bareT l=l.take (l.length-1)∧fdB l=true:=by
 have hf:fdB l=true:=by unfold fdB;rw[List.getLast?_eq_getElem?,List.getElem?_eq_getElem (by omega),h];rfl
 exact⟨by rw[bareT,hf,List.dropLast_eq_take];rfl,hf⟩
theorem Zmx {l:List UInt8} (h0:0<l.length) (h:l[l.length-1]≠10):bareT l=l∧fdB l=false:=by
 have hf:fdB l=false:=by unfold fdB;rw[List.getLast?_eq_getElem?,List.getElem?_eq_getElem (by omega)];simpa using h
 exact⟨by rw[bareT,hf];rfl,hf⟩
theorem Zpw (l:List UInt8) (w:World) (hl:l.length≤9223372036854775807) :
  Calls Tryz.prog 116 #[.string ⟨l.toArray⟩] w fun e w'=>e=.returned (.tuple #[.string ⟨(bareT l).toArray⟩,.bool (fdB l)])∧w=w':=by
 rcases Nat.eq_zero_or_pos l.length with h0 | h0
 ·obtain rfl:=List.eq_nil_of_length_eq_zero h0
  go_enter Tryz.func116,Tryz.ntmps116
  go_wp2
  go_ret2
  exact⟨rfl,rfl⟩
 ·have hn:((l.length:Int) == 0)=false:=beq_eq_false_iff_ne.2 (by omega)
  have hi:(((l.length:Int)-1).toNat)=l.length-1:=by omega
  have i1:0≤(l.length:Int)-1:=by omega
  have i2:(l.length:Int)-1<(l.length:Int):=by omega
  have i3:(l.length:Int)-1≤(l.length:Int):=by omega
  by_cases h:l[l.length-1]=10
  ·obtain⟨e1,e2⟩:=Zmy h0 h
   rw[e1,e2]
   have hb:((l[l.length-1].toNat:Int) != 10)=false:=by rw[h];rfl
   go_enter Tryz.func116,Tryz.ntmps116
   go_wp2
   go_ret2
   exact⟨rfl,rfl⟩
  ·obtain⟨e1,e2⟩:=Zmx h0 h
   rw[e1,e2]
   have hb:((l[l.length-1].toNat:Int) != 10)=true:=(by
    rw[bne_iff_ne]
    intro hq
    exact h (UInt8.toNat_inj.1 (by show _=10;omega)))
   go_enter Tryz.func116,Tryz.ntmps116
   go_wp2
   go_ret2
   exact⟨rfl,rfl⟩
end

section
open Go.RowKit
attribute [local go_sem] ByteArray.extract_mk Zhc
theorem Zzh (p n:Int) (h0:0≤p) (h1:p≤4611686018427387904) (h2:0≤n) (h3:n≤4611686018427387900) (w:World) :
  Calls Tryz.prog 123 #[.int .i64 p,.int .i64 n] w fun e w'=>e=.returned (.string ⟨(rngT p n).toArray⟩)∧Below w.heap.size w w':=by
 by_cases hn:n=1
 ·have HT:Hid (Lib.itoa (p+1)=rngT p n):=(by show _=_;unfold rngT;rw[if_pos hn])
  have e1:(n == 1)=true:=by rw[hn];rfl
  go_enter Tryz.func123,Tryz.ntmps123
  go_wp2_with fail
  refine (Zzj (p+1) (by omega) (by omega) _).mono ?_
  rintro e w1 ⟨rfl,hb1⟩
  go_wp2
  go_ret
  exact⟨by rw[← HT.out];rfl,hb1⟩
 ·have HT:Hid (Lib.itoa (p+1)++44::Lib.itoa (p+n)=rngT p n):=(by show _=_;unfold rngT;rw[if_neg hn])
  have e1:(n == 1)=false:=beq_eq_false_iff_ne.2 hn
  have l1:=Zwz (p+1) (by omega) (by omega)
  have l2:=Zwz (p+n) (by omega) (by omega)
  go_enter Tryz.func123,Tryz.ntmps123
  go_wp2_with fail
  refine (Zzj (p+1) (by omega) (by omega) _).mono ?_
  rintro e w1 ⟨rfl,hb1⟩
  generalize Lib.itoa (p+1)=x at l1 HT ⊢
  go_wp2_with fail
  refine (Zzj (p+n) (by omega) (by omega) _).mono ?_
  rintro e w2 ⟨rfl,hb2⟩
  generalize Lib.itoa (p+n)=y at l2 HT ⊢
  go_wp2
  go_ret
  exact⟨by rw[← HT.out];simp[Zmw],hb1.trans (hb2.mono hb1.size)⟩
theorem ZyQ (ah s:List UInt8) (w:World) (h1:ah.length≤10) (h2:s.length≤2305843009213693952) :
  Calls Tryz.prog 76 #[.string ⟨ah.toArray⟩,.string ⟨s.toArray⟩] w fun e w'=>e=.returned (.string ⟨((lnL ah s).flatten).toArray⟩)∧w'=w:=by
 go_enter Tryz.func76,Tryz.ntmps76
 go_wp2_with fail
 refine (Zpw s _ (by omega)).mono ?_
 rintro e w1 ⟨rfl,rfl⟩
 cases hf:fdB s with
 | true =>
  have HT:Hid (ah++s=(lnL ah s).flatten):=(by show _=_;unfold lnL;rw[if_pos hf];simp)
  go_wp2
  go_ret
  exact⟨by rw[← HT.out];simp[Zmw],rfl⟩
 | false =>
  have HT:Hid (ah++s++[10]++markT=(lnL ah s).flatten):=(by show _=_;unfold lnL;rw[if_neg (by rw[hf];decide)];simp)
  go_wp2
  go_ret
  exact⟨by rw[← HT.out];simp[Zmw,markT],rfl⟩
end

section
open Go.RowKit
def Fits (x y:List UInt8):Prop:=x.length+y.length≤4611686018427387904
theorem Zsl {x y:List UInt8} (h:Fits x y) (P:Program) (u:World):(Op.stringOp .add ⟨x.toArray⟩ ⟨y.toArray⟩).run P u=.ok (.string ⟨(x++y).toArray⟩) u:=by
 unfold Fits at h
 have e:¬ (((⟨x.toArray⟩:ByteArray).size+(⟨y.toArray⟩:ByteArray).size:Nat):Int) > IntKind.i64.max:=by
  have h1:(⟨x.toArray⟩:ByteArray).size=x.length:=rfl
  have h2:(⟨y.toArray⟩:ByteArray).size=y.length:=rfl
  have h3:IntKind.i64.max=9223372036854775807:=rfl
  rw[h1,h2,h3]
  omega
 unfold Op.stringOp
 dsimp only
 rw[if_neg e,Zmw]
 rfl
structure Cs (c:Ch) (b:Nat) (W w:World):Prop where
 c0:w.cell? ⟨b,0,none⟩=some (.int .i64 c.A)
 c1:w.cell? ⟨b,1,none⟩=some (.int .i64 c.AN)
 c2:w.cell? ⟨b,2,none⟩=some (.int .i64 c.B)
 c3:w.cell? ⟨b,3,none⟩=some (.int .i64 c.BN)
 lt:b<w.heap.size
 low:Below W.heap.size W w
theorem Cs.keep {c:Ch} {b:Nat} {W w w':World} (h:Cs c b W w) (hb:Below w.heap.size w w'):Cs c b W w':=by
 have hk:∀ o,w'.cell? ⟨b,o,none⟩=w.cell? ⟨b,o,none⟩:=fun o=>by
  unfold World.cell?
  dsimp only
  rw[hb.block b h.lt]
 exact⟨(hk 0).trans h.c0,(hk 1).trans h.c1,(hk 2).trans h.c2,(hk 3).trans h.c3,Nat.lt_of_lt_of_le h.lt hb.size,h.low.trans (hb.mono h.low.size)⟩
theorem Zce (c:Ch) (b:Nat) (W w:World):Cs c b W w.drew↔Cs c b W w:=⟨fun h=>⟨h.c0,h.c1,h.c2,h.c3,h.lt,(h.low.trans ⟨rfl,rfl,rfl,Nat.le_refl _,fun _ _=>rfl⟩:Below W.heap.size W w)⟩,fun h=>⟨h.c0,h.c1,h.c2,h.c3,h.lt,h.low.drew⟩⟩
attribute [local simp] Zce
theorem Cs.fresh (c:Ch) (w:World):Cs c w.heap.size w (w.alloc (.cells #[.int .i64 c.A,.int .i64 c.AN,.int .i64 c.B,.int .i64 c.BN] 139)):=by
 have h:=heap_alloc_new w (.cells #[.int .i64 c.A,.int .i64 c.AN,.int .i64 c.B,.int .i64 c.BN] 139)
 have hk:∀ o,(w.alloc (.cells #[.int .i64 c.A,.int .i64 c.AN,.int .i64 c.B,.int .i64 c.BN] 139)).cell? ⟨w.heap.size,o,none⟩=(#[Value.int .i64 c.A,.int .i64 c.AN,.int .i64 c.B,.int .i64 c.BN])[o]?:=fun o=>by
  unfold World.cell?
  dsimp only
  rw[h]
  rfl
 exact⟨hk 0,hk 1,hk 2,hk 3,by rw[World.alloc];simp,(Below.refl _ w).alloc (Nat.le_refl _) _⟩
theorem ZzL (p n:Int) (h0:0≤p) (h1:p≤4611686018427387904) (h2:0≤n) (h3:n≤4611686018427387900):(rngT p n).length≤43:=by
 have l1:=Zwz (p+1) (by omega) (by omega)
 have l2:=Zwz (p+n) (by omega) (by omega)
 unfold rngT
 split
 ·omega
 ·simp only[List.length_append,List.length_cons]
  omega
theorem ZuX {α:Type} (f:α→List (List UInt8)) (x y:List α):((x++y).flatMap f).flatten=(x.flatMap f).flatten++(y.flatMap f).flatten:=by simp
theorem Zuw {a:List (List UInt8)} {p n k:Nat} (hk:k<n) (hn:p+n≤a.length):cut a (p:Int) ((k+1:Nat):Int)=cut a p (k:Nat)++[a[p+k]'(by omega)]:=by
 have h:=@Zuu a (p:Int) (k:Nat) 1 (by omega) (by omega) (by omega)
 have e:cut a ((p:Int)+(k:Nat)) 1=[a[p+k]'(by omega)]:=by
  unfold cut
  have e1:((p:Int)+(k:Nat)).toNat=p+k:=by omega
  rw[e1,List.drop_eq_getElem_cons (by omega)]
  rfl
 rw[← e,h]
 rfl
theorem Zux {a:List (List UInt8)} {p n k:Nat} (hk:k≤n) (f:List UInt8→List (List UInt8)):∃ z,((cut a (p:Int) (n:Nat)).flatMap f).flatten=((cut a (p:Int) (k:Nat)).flatMap f).flatten++z:=by
 have h:=@Zuu a (p:Int) (k:Nat) ((n-k:Nat):Int) (by omega) (by omega) (by omega)
 have e:((k:Nat):Int)+((n-k:Nat):Int)=(n:Nat):=by omega
 rw[e] at h
 rw[← h,ZuX]
 exact⟨_,rfl⟩
end

section
open Ln
def noA (p n:Int):Int:=if 0<n then p+1 else p
def Rows:List (List UInt8)→Prop
 | []=>True
 | x::r=>linB x=true∧(r≠[]→fdB x=true)∧Rows r
end

section
open Ln
theorem Zxs {no sg:Int} (t:List (List UInt8)):pkL no (mks sg t)=if sg≠no∧okS sg=true then t else []:=by
 induction t with
 | nil=>simp[mks,pkL]
 | cons s t ih =>
  have e:mks sg (s::t)=⟨sg,s⟩::mks sg t:=rfl
  rw[e,pkL,ih]
  split<;>rfl
theorem ZxP {a b:List (List UInt8)} {c:Ch} (hn:numB c=true) (hA:c.A+c.AN≤a.length) (hB:c.B+c.BN≤b.length):oneH a b 0 [c]=⟨noA c.A c.AN,c.AN,noA c.B c.BN,c.BN,mks 45 (cut a c.A c.AN)++mks 43 (cut b c.B c.BN)⟩:=by
 have h:=(Zhj c).1 hn
 have e:bodyH a b (min (a.length:Int) (c.A+c.AN+0)) (c.A-min 0 c.A) [c]=mks 45 (cut a c.A c.AN)++mks 43 (cut b c.B c.BN):=by
  rw[show min (a.length:Int) (c.A+c.AN+0)=c.A+c.AN by omega,show c.A-min 0 c.A=c.A by omega]
  simp only[bodyH]
  rw[show c.A-c.A=(0:Int) by omega,show c.A+c.AN-(c.A+c.AN)=(0:Int) by omega,Zuy,Zuy]
  simp[mks]
 have l1:((cut a c.A c.AN).length:Int)=c.AN:=ZvS (by omega) (by omega) hA
 have l2:((cut b c.B c.BN).length:Int)=c.BN:=ZvS (by omega) (by omega) hB
 have p1:pkL 43 (mks 45 (cut a c.A c.AN)++mks 43 (cut b c.B c.BN))=cut a c.A c.AN:=by
  rw[Zil,Zxs,Zxs,if_pos (by decide),if_neg (by decide),List.append_nil]
 have p2:pkL 45 (mks 45 (cut a c.A c.AN)++mks 43 (cut b c.B c.BN))=cut b c.B c.BN:=by
  rw[Zil,Zxs,Zxs,if_neg (by decide),if_pos (by decide),List.nil_append]
 show cntH (c.A-min 0 c.A) (c.B-min 0 c.A) (bodyH a b (min (a.length:Int) (c.A+c.AN+0)) (c.A-min 0 c.A) [c])=_
 rw[e]
 unfold cntH noA
 rw[p1,p2,l1,l2,show c.A-min 0 c.A=c.A by omega,show c.B-min 0 c.A=c.B by omega]
 have q1:(0<(cut a c.A c.AN).length)=(0<c.AN):=propext ⟨fun q=>by omega,fun q=>by omega⟩
 have q2:(0<(cut b c.B c.BN).length)=(0<c.BN):=propext ⟨fun q=>by omega,fun q=>by omega⟩
 simp only[q1,q2]
theorem Zzz {fl:Bool} {p q n m:Int} {l:List Ch} (h:Right fl p q n m l):∀ c∈l,numB c=true∧c.A+c.AN≤n∧c.B+c.BN≤m:=by
 induction l generalizing fl p q with
 | nil=>intro c hc;cases hc
 | cons x l ih =>
  intro c hc
  rcases List.mem_cons.1 hc with rfl | hc
  ·exact⟨h.1.1,h.2.le.1,h.2.le.2.1⟩
  ·exact ih h.2 c hc
theorem Zxe {l:List Ch} {a b:List (List UInt8)} (hs:Script l a.length b.length):mkR l a b 0=l.map fun c=>oneH a b 0 [c]:=by
 rw[(Zxd hs (by omega)).1,Zvu l _ _ _ _ _ hs.2.2]
 simp
end

section
open Go.RowKit
end

end Go.Proofs.YtcniomgjikienaaGreatDoor

/- How long the normal form of a script is; plain mathematics. -/
namespace Go.Proofs.YtcniomgjikienaaGreatDoor
end Go.Proofs.YtcniomgjikienaaGreatDoor

namespace Go.Proofs

section
open Go.Shelf Go.RowKit
def Tryz.lays166_ren:Go.Shelf.Ren:=⟨fun | 166=>39 | 240=>72 | 276=>114 | n=>n,fun | 0=>0 | 3=>3 | 4=>4 | 5=>5 | 9=>9 | 20=>20 | 37=>83 | 70=>82 | 72=>85 | 75=>24 | 80=>88 | 164=>105 | n=>n,fun | n=>n⟩
theorem Tryz.lays166:Go.Proofs.Lays.n166 Tryz.prog Tryz.lays166_ren:={
 mixed:=by kernel_rfl
 f166:= Go.fk Tryz.func39
 f240:= Go.fk Tryz.func72
 f276:= Go.fk Tryz.func114
 t0:=Tryz.underlying0
 a0:=Tryz.isAgg0
 z0:=Tryz.sizeOf0
 v0:=Tryz.zeroValue0
 t3:=Tryz.underlying3
 a3:=Tryz.isAgg3
 z3:=Tryz.sizeOf3
 v3:=Tryz.zeroValue3
 t4:=Tryz.underlying4
 a4:=Tryz.isAgg4
 z4:=Tryz.sizeOf4
 v4:=Tryz.zeroValue4
 t9:=Tryz.underlying9
 a9:=Tryz.isAgg9
 z9:=Tryz.sizeOf9
 v9:=Tryz.zeroValue9
 t20:=Tryz.underlying20
 a20:=Tryz.isAgg20
 z20:=Tryz.sizeOf20
 v20:=Tryz.zeroValue20
 t37:=Tryz.underlying83
 a37:=Tryz.isAgg83
 z37:=Tryz.sizeOf83
 v37:=Tryz.zeroValue83
 t70:=Tryz.underlying82
 a70:=Tryz.isAgg82
 z70:=Tryz.sizeOf82
 v70:=Tryz.zeroValue82
 t72:=Tryz.underlying85
 a72:=Tryz.isAgg85
 z72:=Tryz.sizeOf85
 v72:=Tryz.zeroValue85
 t75:=Tryz.underlying24
 a75:=Tryz.isAgg24
 z75:=Tryz.sizeOf24
 v75:=Tryz.zeroValue24
 t164:=Tryz.underlying105
 a164:=Tryz.isAgg105
 z164:=Tryz.sizeOf105
 v164:=Tryz.zeroValue105 }
theorem Tryz.Builder_Extra_166:Builder.Extra Tryz.prog Tryz.lays166_ren:={
 sizeBuilder:=by kernel_rfl
 liesBuilder:=by kernel_rfl
 t5:=Tryz.underlying5
 a5:=Tryz.isAgg5
 z5:=Tryz.sizeOf5
 v5:=Tryz.zeroValue5
 infoByte:=by kernel_rfl
 cellsByte:=by kernel_rfl
 sizeByte:=by kernel_rfl
 neB5:=by decide }
theorem Tryz.WriteString_h (B b:Nat) (bs:List Value) (s:ByteArray) (w:World) (h:Lib.IsBuilderF 85 5 B b bs w) (hlen:bs.length+s.size≤140737488355328) (hBw:B≤w.heap.size) :
  Calls Tryz.prog 39 #[.pointer (some ⟨b,0,none⟩),.string s] w fun e w'=>e=.returned (.tuple #[.int .i64 s.size,.nilIface])∧(Lib.BuilderAtF 85 5 B b (.pointer (some ⟨b,0,none⟩)) (bs++Lib.strCells s) w'∧Below B w w'∧Lib.OthersKept 5 (some b) w w') :=
 Any.Builder_WriteString_k Tryz.lays166 Tryz.Builder_Extra_166 B b bs s w h hlen hBw
end

end Go.Proofs

namespace Go.Proofs.YtcniomgjikienaaGreatDoor

section
open Go.RowKit
def Tab10 (w : World) : Prop := ∀ u : World, Below w.heap.size w u → Lib.TabIs Tryz.prog u "internal/strconv.uint64pow10" .u64 Lib.pow10Tab
theorem Tab10.on {w u:World} (h:Tab10 w) (hb:Below w.heap.size w u):Tab10 u:=fun v hv=>h v (hb.trans (hv.mono hb.size))
theorem Zxj (n:Int) (h0:-9223372036854775808≤n) (h1:n≤9223372036854775807) (w:World) (HT:Hid (Tab10 w)) :
  Calls Tryz.prog 251 #[.int .i64 n] w fun e w'=>e=.returned (.string ⟨(Lib.itoa n).toArray⟩)∧Below w.heap.size w w':=by
 go_enter Tryz.func251,Tryz.ntmps251
 go_wp2_with fail
 refine (Tryz.strconv_Itoa n h0 h1 _ (HT.out _ (Below.refl _ _))).mono ?_
 rintro e w1 ⟨rfl,k,os,rfl⟩
 go_wp2
 go_ret
 exact⟨rfl,Lib.below_grow w.heap.size w (Nat.le_refl _) k os⟩
def rgx (A N:Int):List UInt8:=if N≤1 then Lib.itoa A else Lib.itoa A++44::Lib.itoa (A+N-1)
theorem Zzr {A N:Int} (h0:0≤A) (h1:A≤4611686018427387904) (h2:0≤N) (h3:N≤4611686018427387900):(rgx A N).length≤43:=by
 have l1:=Zwz A (by omega) (by omega)
 have l2:=Zwz (A+N-1) (by omega) (by omega)
 unfold rgx
 split
 ·omega
 ·simp only[List.length_append,List.length_cons]
  omega
theorem Zxw (A N:Int) (h0:0≤A) (h1:A≤4611686018427387904) (h2:0≤N) (h3:N≤4611686018427387900) (w:World) (HT:Hid (Tab10 w)) (T:List UInt8) (HR:Hid (rgx A N=T)) :
  Calls Tryz.prog 219 #[.int .i64 A,.int .i64 N] w fun e w'=>e=.returned (.string ⟨T.toArray⟩)∧Below w.heap.size w w':=by
 have l1:=Zwz A (by omega) (by omega)
 have l2:=Zwz (A+N-1) (by omega) (by omega)
 by_cases hN:N≤1
 ·have HE1:Hid (Lib.itoa A=T):=(by have h:=HR.out;unfold rgx at h;rw[if_pos hN] at h;exact h)
  clear HR
  go_enter Tryz.func219,Tryz.ntmps219
  go_wp2_with fail
  refine (Zxj A (by omega) (by omega) _ HT).mono ?_
  rintro e w1 ⟨rfl,hb1⟩
  go_wp2
  go_ret
  exact⟨by rw[← HE1.out];rfl,hb1⟩
 ·have HE:Hid (Lib.itoa A++44::Lib.itoa (A+N-1)=T):=(by have h:=HR.out;unfold rgx at h;rw[if_neg hN] at h;exact h)
  clear HR
  have q1:=Zsl (x:=Lib.itoa A) (y:=[44]) (by unfold Fits;simp only[List.length_cons,List.length_nil];omega) Tryz.prog
  have q2:=Zsl (x:=Lib.itoa A++[44]) (y:=Lib.itoa (A+N-1)) (by unfold Fits;simp only[List.length_append,List.length_cons,List.length_nil];omega) Tryz.prog
  go_enter Tryz.func219,Tryz.ntmps219
  go_wp2_with fail
  refine (Zxj A (by omega) (by omega) _ HT).mono ?_
  rintro e w1 ⟨rfl,hb1⟩
  have HT1:Hid (Tab10 w1):=HT.out.on hb1
  go_wp2_with fail
  refine (Zxj (A+N-1) (by omega) (by omega) _ HT1).mono ?_
  rintro e w2 ⟨rfl,hb2⟩
  go_wp2
  go_ret
  exact⟨by rw[← HE.out];rfl,hb1.trans (hb2.mono hb1.size)⟩
def ltrT (AN BN:Int):List UInt8:=if AN=0 then [97] else if BN=0 then [100] else [99]
theorem ZwU (AN BN:Int):(ltrT AN BN).length=1:=by
 unfold ltrT
 split
 ·rfl
 ·split<;>rfl
theorem Zxo (h:Hk) (v:Value) (w:World) (hv:HMk w v h.ls) (T:List UInt8) (HR:Hid (ltrT h.AN h.BN=T)) :
  Calls Tryz.prog 225 #[hkV h v] w fun e w'=>e=.returned (.string ⟨T.toArray⟩)∧Below w.heap.size w w':=by
 have hBl:Below w.heap.size w (w.alloc (hkO h v)):=(Below.refl _ w).alloc (Nat.le_refl _) _
 obtain⟨c0,c1,c2,c3,c4⟩:=(Hx.new w h v).cells
 unfold hkO at c0 c1 c2 c3 c4 hBl
 obtain⟨lo,lc,rfl⟩:=HMk.form hv
 have e:hkV h (.slice lo h.ls.length lc)=.agg #[.int .i64 h.A,.int .i64 h.AN,.int .i64 h.B,.int .i64 h.BN,.slice lo h.ls.length lc]:=rfl
 rw[e]
 clear e
 by_cases h1:h.AN=0
 ·have e1:(h.AN == 0)=true:=by rw[h1];rfl
  have hE:[97]=T:=(by have q:=HR.out;unfold ltrT at q;rw[if_pos h1] at q;exact q)
  subst hE
  clear HR h1
  go_enter Tryz.func225,Tryz.ntmps225
  go_wp2
  go_ret
  exact⟨rfl,hBl⟩
 ·have e1:(h.AN == 0)=false:=beq_eq_false_iff_ne.2 h1
  by_cases h2:h.BN=0
  ·have e2:(h.BN == 0)=true:=by rw[h2];rfl
   have hE:[100]=T:=(by have q:=HR.out;unfold ltrT at q;rw[if_neg h1,if_pos h2] at q;exact q)
   subst hE
   clear HR h1 h2
   go_enter Tryz.func225,Tryz.ntmps225
   go_wp2
   go_ret
   exact⟨rfl,hBl⟩
  ·have e2:(h.BN == 0)=false:=beq_eq_false_iff_ne.2 h2
   have hE:[99]=T:=(by have q:=HR.out;unfold ltrT at q;rw[if_neg h1,if_neg h2] at q;exact q)
   subst hE
   clear HR h1 h2
   go_enter Tryz.func225,Tryz.ntmps225
   go_wp2
   go_ret
   exact⟨rfl,hBl⟩
end

section
open Go.RowKit
theorem ZkK (s:List UInt8):Lib.hasSuffix s [10]=fdB s:=by
 unfold Lib.hasSuffix fdB
 rw[Bool.eq_iff_iff,List.isSuffixOf_iff_suffix,beq_iff_eq]
 constructor
 ·rintro⟨t,rfl⟩
  simp
 ·intro h
  obtain⟨t,rfl⟩:=List.getLast?_eq_some_iff.1 h
  exact⟨t,rfl⟩
def plT (s:List UInt8):List UInt8:=if fdB s=true then s else s++10::markT
theorem Zyw (ah s:List UInt8):(lnL ah s).flatten=ah++plT s:=by
 unfold lnL plT
 split<;>simp
theorem Zyx (s:List UInt8) (w:World) (hs:s.length≤1099511627776) (Z:List UInt8) (HZ:Hid (plT s=Z)) :
  Calls Tryz.prog 210 #[.string ⟨s.toArray⟩] w fun e w'=>e=.returned (.string ⟨Z.toArray⟩)∧w'=w:=by
 cases hf:fdB s with
 | true =>
  have HE:Hid (s=Z):=(by have h:=HZ.out;unfold plT at h;rw[if_pos hf] at h;exact h)
  clear HZ
  go_enter Tryz.func210,Tryz.ntmps210
  go_wp2_with fail
  refine (Tryz.strings_HasSuffix ⟨s.toArray⟩ ⟨#[10]⟩ w (by show s.length≤_;omega)).mono ?_
  rintro e w2 ⟨rfl,rfl⟩
  have e1:Lib.hasSuffix (⟨s.toArray⟩:ByteArray).data.toList (⟨#[10]⟩:ByteArray).data.toList=true:=(ZkK s).trans hf
  rw[e1]
  clear e1 hf
  go_wp2
  go_ret
  exact⟨by rw[← HE.out];rfl,rfl⟩
 | false =>
  have HE:Hid (s++10::markT=Z):=(by have h:=HZ.out;unfold plT at h;rw[if_neg (by rw[hf];decide)] at h;exact h)
  have q1:=Zsl (x:=s) (y:=10::markT) (by unfold Fits;simp only[markT,List.length_cons,List.length_nil];omega) Tryz.prog
  rw[HE.out] at q1
  unfold markT at q1
  have q2:=Zsl (x:=s) (y:=[10]) (by unfold Fits;simp only[List.length_cons,List.length_nil];omega) Tryz.prog
  have q3:=Zsl (x:=s++[10]) (y:=markT) (by unfold Fits;simp only[markT,List.length_append,List.length_cons,List.length_nil];omega) Tryz.prog
  have q4:s++[10]++markT=Z:=(by rw[← HE.out];simp)
  rw[q4] at q3
  unfold markT at q3
  clear HZ q4
  go_enter Tryz.func210,Tryz.ntmps210
  go_wp2_with fail
  refine (Tryz.strings_HasSuffix ⟨s.toArray⟩ ⟨#[10]⟩ w (by show s.length≤_;omega)).mono ?_
  rintro e w2 ⟨rfl,rfl⟩
  have e1:Lib.hasSuffix (⟨s.toArray⟩:ByteArray).data.toList (⟨#[10]⟩:ByteArray).data.toList=false:=(ZkK s).trans hf
  rw[e1]
  clear e1 hf
  go_wp2
  go_ret
  exact⟨rfl,rfl⟩
end

section
open Go.RowKit
theorem Ztl (l:List UInt8):(Lib.byteCells l).length=l.length:=by simp[Lib.byteCells]
theorem Zwu {T e:TypeId} {B b:Nat} {bs:List Value} {w w':World} (h:Lib.IsBuilderF T e B b bs w) (hb:Below w.heap.size w w'):Lib.IsBuilderF T e B b bs w':=by
 have key:∀ p,Lib.BuilderAtF T e B b p bs w→Lib.BuilderAtF T e B b p bs w':=by
  rintro p ⟨h1,v,h2,h3,h4⟩
  refine⟨h1,v,(hb.block b (Array.getElem?_eq_some_iff.1 h2).1).trans h2,⟨h3.1,?_⟩,h4⟩
  rcases h3.2 with q | ⟨g,cap,cur,fz,q1,q2,q3,q4⟩
  ·exact .inl q
  ·exact .inr ⟨g,cap,cur,fz,q1,q2,(hb.block g (Array.getElem?_eq_some_iff.1 q3).1).trans q3,q4⟩
 rcases h with h | h
 ·exact .inl (key _ h)
 ·exact .inr (key _ h)
theorem Zwt (w:World):Lib.IsBuilderF 85 5 w.heap.size w.heap.size (Lib.byteCells []) (w.alloc (.cells #[.pointer none,.slice none 0 0] 85)) :=
 .inl ⟨Nat.le_refl _,.slice none 0 0,heap_alloc_new w _,⟨rfl,.inl ⟨rfl,rfl⟩⟩,by simp[Value.ownBlock]⟩
theorem Zyd {w u:World} {base b:Nat} {v:Value} {n:Nat} {xs:List Value} (h:w.ownsRow base 9 1 v n xs) (hk:Lib.OthersKept 5 (some b) w u) (hb:∀ g,v.ownBlock=some g→g≠b):u.ownsRow base 9 1 v n xs:=by
 refine⟨h.1,?_⟩
 rcases h.2 with q | ⟨g,cap,cur,rfl,q2,q3,q4⟩
 ·exact .inl q
 ·refine .inr ⟨g,cap,cur,rfl,q2,hk g _ q3 (fun e=>hb g rfl (Option.some.inj e)) (fun c fz e=>?_),q4⟩
  cases e
theorem Zwm {w u:World} {b B:Nat} {h:Hk} {v:Value} (q:Hx w B h v) (hk:Lib.OthersKept 5 (some b) w u) (hb:B≠b):Hx u B h v :=
 hk B _ q (fun e=>hb (Option.some.inj e)) (fun c fz e=>by cases e)
theorem Zxp (B b:Nat) (acc ah:List UInt8) (x:List (List UInt8)) (v:Value) (w:World) (hB:Lib.IsBuilderF 85 5 B b (Lib.byteCells acc) w) (hBw:B≤w.heap.size)
  (hv:∃ vo vc,v=.slice vo x.length vc) (HV:Hid (∀ u,Lib.OthersKept 5 (some b) w u→HS u v x)) (hxl:x.length≤1099511627776) (HTX:Hid (∀ s∈x,s.length≤1099511627776)) (hal:ah.length≤10) (Z:List UInt8) (HZ:Hid (acc++(x.flatMap (lnL ah)).flatten=Z)) (hZ:Z.length≤70368744177664) :
  Calls Tryz.prog 226 #[.pointer (some ⟨b,0,none⟩),.string ⟨ah.toArray⟩,v] w fun e w'=>e=.returned (.tuple #[])∧Lib.IsBuilderF 85 5 B b (Lib.byteCells Z) w'∧Below B w w'∧Lib.OthersKept 5 (some b) w w':=by
 obtain⟨vo,vc,rfl⟩:=hv
 go_enter Tryz.func226,Tryz.ntmps226
 go_wp2
 go_loopw [10] (fun i wr=>∃ (k:Nat) (ac:List UInt8),k≤x.length∧i=.int .i64 (k:Int)∧Lib.IsBuilderF 85 5 B b (Lib.byteCells ac) wr∧Below B w wr∧Lib.OthersKept 5 (some b) w wr∧Hid (ac++((x.drop k).flatMap (lnL ah)).flatten=Z)) (fun i _=>x.length-(intOf i).toNat)
 case atStart=>exact⟨0,acc,Nat.zero_le _,by go_num,hB,Below.refl _ _,Lib.OthersKept.refl _ _ _,HZ⟩
 case round =>
  obtain⟨k,ac,hk,rfl,hBr,hbr,hor,HI⟩:=hrel
  have hbz:B≤wr.heap.size:=Nat.le_trans hBw hbr.size
  have hacl:ac.length≤70368744177664:=(by
   have h1:=congrArg List.length HI.out
   rw[List.length_append] at h1
   omega)
  by_cases hlt:k<x.length
  ·obtain⟨bk,off,rfl,hbk,hcl⟩:=HS.at (HV.out wr hor) (by omega)
   have c0:=hcl k hlt
   have hsl:=HTX.out x[k] (List.getElem_mem _)
   have HE:Hid (ac++(lnL ah x[k]).flatten++((x.drop (k+1)).flatMap (lnL ah)).flatten=Z):=(by
    show _=_
    rw[← HI.out,List.drop_eq_getElem_cons hlt,List.flatMap_cons,List.flatten_append,List.append_assoc])
   obtain⟨s,hs⟩:∃ s,x[k]=s:=⟨_,rfl⟩
   rw[hs] at c0 hsl HE
   clear hcl hs HI HV HTX HZ
   have i1:0≤(k:Int):=by omega
   have i2:(k:Int)<(x.length:Int):=by omega
   obtain⟨T,hT⟩:∃ T,plT s=T:=⟨_,rfl⟩
   have HT:Hid (plT s=T):=hT
   have hTl:T.length≤s.length+29:=(by
    rw[← hT]
    unfold plT
    split
    ·omega
    ·simp only[markT,List.length_append,List.length_cons,List.length_nil]
     omega)
   have HE2:Hid (ac++(ah++T)++((x.drop (k+1)).flatMap (lnL ah)).flatten=Z):=(by
    show _=_
    rw[← HE.out,Zyw,hT])
   have hZl:ac.length+(ah++T).length≤70368744177664:=(by
    have h1:=congrArg List.length HE2.out
    simp only[List.length_append] at h1 ⊢
    omega)
   have q1:=Zsl (x:=ah) (y:=T) (by unfold Fits;omega) Tryz.prog
   clear hT HE
   go_wp2_with fail
   refine (Zyx s wr hsl T HT).mono ?_
   rintro e w0 ⟨rfl,rfl⟩
   go_wp2_with fail
   refine (Tryz.WriteString_h B b _ _ w0 hBr (by rw[Ztl];show ac.length+(ah++T).length≤_;omega) hbz).mono ?_
   rintro e w1 ⟨rfl,hB1,hb1,ho1⟩
   have hB2:Lib.IsBuilderF 85 5 B b (Lib.byteCells (ac++(ah++T))) w1:=.inr (by rw[Lib.byteCells_append];exact hB1)
   have hb2:=hbr.trans hb1
   have ho2:=hor.trans ho1
   clear hB1 hb1 ho1 hBr hbr hor q1 c0
   go_wp2
   exact⟨⟨k+1,_,by omega,by go_num,hB2,hb2,ho2,HE2⟩,by simp[intOf];omega⟩
  ·have HE:Hid (ac=Z):=(by
    have h:=HI.out
    rw[List.drop_of_length_le (by omega)] at h
    show ac=Z
    simpa using h)
   have hend:decide ((k:Int)<(x.length:Int))=false:=decide_eq_false (by omega)
   clear HI
   go_wp2
   first
    | go_end0
    | refine bodyPost_ret (results_none rfl _ _ _) rfl ?_
    | refine bodyPost_end (results_none rfl _ _ _) rfl ?_
   exact⟨rfl,by rw[← HE.out];exact hBr,hbr,hor⟩
end

section
open Ln Go.RowKit
theorem Zww (l:List UInt8) (last:Bool) (w:World) (hl:l.length≤1099511627776) (r:Bool) (HR:Hid (lineB l last=r)) :
  Calls Tryz.prog 299 #[.string ⟨l.toArray⟩,.bool last] w fun e w'=>e=.returned (.bool r)∧w=w':=by
 rcases Int.lt_or_le (Lib.indexByte l 10) 0 with hq | hq
 ·obtain⟨q1,q2⟩:=ZeH hq
  have HE:Hid ((last && !l.isEmpty)=r):=(by show _=_;rw[← HR.out];exact (ZwJ q2 last).symm)
  clear hq q2 HR
  go_enter Tryz.func299,Tryz.ntmps299
  go_wp2_with fail
  refine (Tryz.strings_Index_one ⟨l.toArray⟩ 10 _).mono ?_
  rintro e w1 ⟨rfl,rfl⟩
  have hi2:Lib.indexByte (⟨l.toArray⟩:ByteArray).data.toList 10=-1:=q1
  rw[hi2]
  cases last with
  | false =>
   go_wp2
   go_ret
   rw[← HE.out]
   exact⟨rfl,rfl⟩
  | true =>
   cases l with
   | nil =>
    go_wp2
    go_ret
    rw[← HE.out]
    exact⟨rfl,rfl⟩
   | cons c t =>
    go_wp2
    go_ret
    rw[← HE.out]
    exact⟨rfl,rfl⟩
 ·obtain⟨a,b,he,hn,hi⟩:=ZeI hq
  have HE:Hid (b.isEmpty=r):=(by
   show _=_
   rw[← HR.out,he]
   exact (ZfA hn last).symm)
  have hlen:l.length=a.length+1+b.length:=by rw[he];simp;omega
  clear hn hq he HR
  go_enter Tryz.func299,Tryz.ntmps299
  go_wp2_with fail
  refine (Tryz.strings_Index_one ⟨l.toArray⟩ 10 _).mono ?_
  rintro e w1 ⟨rfl,rfl⟩
  have hi2:Lib.indexByte (⟨l.toArray⟩:ByteArray).data.toList 10=a.length:=hi
  rw[hi2]
  cases b with
  | nil =>
   have hb:((a.length:Int) == (l.length:Int)-1)=true:=by simp at hlen;simp;omega
   clear hlen
   go_wp2
   go_ret
   rw[← HE.out]
   exact⟨rfl,rfl⟩
  | cons c t =>
   have hb:((a.length:Int) == (l.length:Int)-1)=false:=by simp at hlen;rw[beq_eq_false_iff_ne];omega
   clear hlen
   go_wp2
   go_ret
   rw[← HE.out]
   exact⟨rfl,rfl⟩
theorem ZvX (v:Value) (ws:List (List UInt8)) (w:World) (hl:ws.length≤1099511627776) (he:∀ a∈ws,a.length≤1099511627776) (hv:HS w v ws) (r:Bool) (HR:Hid (checkB ws=r)) (z:Int) (HZ:Hid (z=if r=true then 0 else 6)) :
  Calls Tryz.prog 249 #[v] w fun e w'=>e=.returned (.int .i64 z)∧w=w':=by
 obtain⟨ao,c,rfl⟩:=Holds.form hv
 have HL:Hid (∀ a∈ws,a.length≤1099511627776):=he
 clear he
 go_enter Tryz.func249,Tryz.ntmps249
 go_wp2
 go_loopw [3,4,7] (fun _ _ i wr=>∃ k:Nat,k≤ws.length∧i=.int .i64 k∧wr=w∧Hid (checkB (ws.drop k)=r)) (fun _ _ i _=>ws.length-(intOf i).toNat)
 case atStart=>exact⟨0,Nat.zero_le _,rfl,rfl,HR⟩
 case round =>
  obtain⟨k,hk,rfl,rfl,HI⟩:=hrel
  clear HR
  by_cases hlt:k<ws.length
  ·obtain⟨b,off,rfl,_,hc⟩:=HS.at hv (by omega)
   have d1:=hc k hlt
   have hxl:=HL.out ws[k] (List.getElem_mem hlt)
   have i1:0≤(k:Int):=by omega
   have i2:(k:Int)<(ws.length:Int):=by omega
   have HM:(ws.drop (k+1)).isEmpty=((k:Int) == (ws.length:Int)-1):=by
    rw[Bool.eq_iff_iff,List.isEmpty_iff,List.drop_eq_nil_iff,beq_iff_eq];omega
   have HD:Hid ((lineB ws[k] (ws.drop (k+1)).isEmpty && checkB (ws.drop (k+1)))=r):=(by
    have h:=HI.out
    rw[List.drop_eq_getElem_cons hlt] at h
    exact h)
   rw[HM] at HD
   generalize hq:((k:Int) == (ws.length:Int)-1)=q at *
   generalize ws[k]=x at *
   obtain⟨r1,hr1⟩:∃ r1,lineB x q=r1:=⟨_,rfl⟩
   have HR1:Hid (lineB x q=r1):=hr1
   rw[hr1] at HD
   clear hr1 HI HM hc
   go_wp2_with fail
   refine (Zww x q _ hxl r1 HR1).mono ?_
   rintro e w1 ⟨rfl,rfl⟩
   cases r1 with
   | false =>
    have HZ2:Hid (z=6):=(by
     have h:=HD.out
     rw[Bool.false_and] at h
     show _=_
     rw[HZ.out,← h]
     rfl)
    clear HZ
    go_wp2
    go_ret
    rw[HZ2.out]
    exact⟨rfl,rfl⟩
   | true =>
    have HE:Hid (checkB (ws.drop (k+1))=r):=(by have h:=HD.out;rw[Bool.true_and] at h;exact h)
    go_wp2
    go_roundw
    case rel=>exact⟨k+1,by omega,by go_num,by trivial,HE⟩
    case measure=>simp[intOf];omega
  ·have HZ2:Hid (z=0):=(by
    have h:=HI.out
    rw[List.drop_of_length_le (by omega)] at h
    show _=_
    rw[HZ.out,← h]
    rfl)
   clear HZ HI
   have hend:decide ((k:Int)<(ws.length:Int))=false:=decide_eq_false (by omega)
   go_wp2
   go_ret
   rw[HZ2.out]
   exact⟨rfl,rfl⟩
theorem Zwn {l:List Mk} {p:Mk→Bool} {k:Nat} (hk:k<l.length):(l.drop k).any p=(p l[k] || (l.drop (k+1)).any p):=by
 rw[List.drop_eq_getElem_cons hk,List.any_cons]
theorem ZvC (g:Nat) (l:List Mk) (p:Mk→Bool) (v:Value) (w:World) (hv:HMk w v l) (hl:l.length≤1099511627776) (eg:∀ args w,(callFunc g args).run Tryz.prog w=.ok (.enter g args) w)
  (hf:Hid (∀ m∈l,∀ u:World,Calls Tryz.prog g (#[.agg #[.int .u8 m.sg,.string ⟨m.tx.toArray⟩]]++#[]) u fun e u'=>e=.returned (.bool (p m))∧Below u.heap.size u u')) (r:Bool) (HR:Hid (l.any p=r)) :
  Calls Tryz.prog 298 #[v,.func (.func g) #[] #[]] w fun e w'=>∃ z:Int,e=.returned (.int .i64 z)∧decide (0≤z)=r∧Below w.heap.size w w':=by
 obtain⟨lo,lc,rfl⟩:=HMk.form hv
 go_enter Tryz.func298,Tryz.ntmps298
 go_wp2
 go_loopw [5,8] (fun _ i wr=>∃ k:Nat,k≤l.length∧i=.int .i64 k∧Below w.heap.size w wr∧Hid ((l.drop k).any p=r)) (fun _ i _=>l.length-(intOf i).toNat)
 case atStart=>exact⟨0,Nat.zero_le _,rfl,Below.refl _ _,HR⟩
 case round =>
  obtain⟨k,hk,rfl,hB,HI⟩:=hrel
  clear HR
  by_cases hlt:k<l.length
  ·obtain⟨b,off,rfl,hb,_⟩:=HMk.at hv (by omega)
   obtain⟨m,hm⟩:∃ m,l[k]=m:=⟨_,rfl⟩
   obtain⟨c0,c1⟩:=Low.mk hB hv k hlt hm
   have hc:=hf.out m (by rw[← hm];exact List.getElem_mem hlt) wr
   have i1:0≤(k:Int):=by omega
   have i2:(k:Int)<(l.length:Int):=by omega
   have HI2:Hid ((p m || (l.drop (k+1)).any p)=r):=(by
    have h:=HI.out
    rw[Zwn hlt,hm] at h
    exact h)
   obtain⟨q,hq⟩:∃ q,p m=q:=⟨_,rfl⟩
   rw[hq] at hc HI2
   clear HI hm hq
   cases q with
   | true =>
    have HE:Hid (true=r):=(by have h:=HI2.out;rw[Bool.true_or] at h;exact h)
    clear HI2
    go_wp2_with (go_at_fn g;refine hc.mono ?_;rintro e w' ⟨rfl,hB1⟩)
    go_ret
    exact⟨_,rfl,by rw[← HE.out];exact decide_eq_true (by omega),hB.trans (hB1.mono hB.size)⟩
   | false =>
    have HE:Hid ((l.drop (k+1)).any p=r):=(by have h:=HI2.out;rw[Bool.false_or] at h;exact h)
    clear HI2
    go_wp2_with (go_at_fn g;refine hc.mono ?_;rintro e w' ⟨rfl,hB1⟩)
    exact⟨⟨k+1,by omega,by go_num,hB.trans (hB1.mono hB.size),HE⟩,by simp[intOf];omega⟩
  ·have HE:Hid (false=r):=(by
    have h:=HI.out
    rw[List.drop_of_length_le (by omega)] at h
    exact h)
   clear HI
   have hend:decide ((k:Int)<(l.length:Int))=false:=decide_eq_false (by omega)
   go_wp2
   go_ret
   exact⟨_,rfl,HE.out,hB⟩
theorem ZvA (g:Nat) (l:List Mk) (p:Mk→Bool) (v:Value) (w:World) (hv:HMk w v l) (hl:l.length≤1099511627776) (eg:∀ args w,(callFunc g args).run Tryz.prog w=.ok (.enter g args) w)
  (hf:Hid (∀ m∈l,∀ u:World,Calls Tryz.prog g (#[.agg #[.int .u8 m.sg,.string ⟨m.tx.toArray⟩]]++#[]) u fun e u'=>e=.returned (.bool (p m))∧Below u.heap.size u u')) (r:Bool) (HR:Hid (l.any p=r)) :
  Calls Tryz.prog 245 #[v,.func (.func g) #[] #[]] w fun e w'=>e=.returned (.bool r)∧Below w.heap.size w w':=by
 have HC:=ZvC g l p v w hv hl eg hf r HR
 obtain⟨lo,lc,rfl⟩:=HMk.form hv
 go_enter Tryz.func245,Tryz.ntmps245
 go_wp2_with fail
 refine HC.mono ?_
 rintro e w1 ⟨z,rfl,hz,hB⟩
 go_wp2
 go_ret
 exact⟨rfl,hB⟩
end

section
open Ln Go.RowKit
theorem ZzJ (h:Hk):rngB h=(nmB h.A h.AN && nmB h.B h.BN):=by
 unfold rngB nmB
 cases nat31 h.A<;>cases nat31 h.AN<;>cases nat31 h.B<;>cases nat31 h.BN<;>cases decide (h.A=0)<;>cases decide (0<h.AN)<;>cases decide (h.B=0)<;>cases decide (0<h.BN)<;>rfl
theorem Zyp {no:Int} {l:List Mk} {a:List UInt8} (h:a∈pkL no l):∃ m∈l,m.tx=a:=by
 induction l with
 | nil=>cases h
 | cons m l ih =>
  simp only[pkL] at h
  split at h
  ·rcases List.mem_cons.1 h with rfl | h
   ·exact⟨m,by simp,rfl⟩
   ·obtain⟨x,hx,e⟩:=ih h
    exact⟨x,by simp[hx],e⟩
  ·obtain⟨x,hx,e⟩:=ih h
   exact⟨x,by simp[hx],e⟩
theorem ZtY {h:Hk} (hq:rngB h=false):chkH h=2:=by
 unfold chkH
 rw[if_pos hq]
theorem ZtR {h:Hk} (h1:rngB h=true) (hq:fldB h.ls=false):chkH h=6:=by
 unfold chkH
 rw[if_neg (by rw[h1];decide),if_pos hq]
theorem ZtP {h:Hk} (h1:rngB h=true) (h2:fldB h.ls=true) (hq:h.AN≠(oldL h).length∨h.BN≠(newL h).length):chkH h=120:=by
 unfold chkH
 rw[if_neg (by rw[h1];decide),if_neg (by rw[h2];decide),if_pos hq]
theorem Zta {l:List Mk} (ha:allB l=true):l.all (fun m=>decide (m.sg=32))=!l.any chgB:=by
 induction l with
 | nil=>rfl
 | cons m l ih =>
  simp only[allB,List.all_cons,Bool.and_eq_true] at ha
  simp only[List.all_cons,List.any_cons]
  rw[ih ha.2]
  have hm:=ha.1
  simp only[okS,Bool.or_eq_true,decide_eq_true_eq] at hm
  unfold chgB
  rcases hm with (hm | hm) | hm<;>rw[hm]<;>simp
theorem ZtQ {h:Hk} (h1:rngB h=true) (h2:fldB h.ls=true) (h3:h.AN=(oldL h).length) (h4:h.BN=(newL h).length) {q:Bool} (hq:h.ls.any chgB=q):chkH h=if q=true then 0 else 50:=by
 unfold chkH
 rw[if_neg (by rw[h1];decide),if_neg (by rw[h2];decide),if_neg (fun k=>by rcases k with k | k<;>contradiction)]
 have ha:allB h.ls=true:=by
  have:=ZuZ h.ls
  rw[h2] at this
  simp only[Bool.true_eq,Bool.and_eq_true] at this
  exact this.1.1
 rw[Zta ha,hq]
 cases q<;>rfl
theorem Ztd (l:List Mk):l.any (fun m=>!okS m.sg)=!allB l:=by
 induction l with
 | nil=>rfl
 | cons m l ih =>
  simp only[List.any_cons,allB,List.all_cons,Bool.not_and] at ih ⊢
  rw[ih]
theorem Zwf {h:Hk} {v:Value} {W u:World} (hv:HMk W v h.ls) (hl:h.ls.length≤1099511627776) {R:List (List UInt8)} (HR:Hid (oldL h=R)) (hL:Low W u):Calls Tryz.prog 223 (#[hkV h v]++#[]) u fun e w'=>∃ x,e=.returned x∧Low W w'∧(HS w' x R∧Below u.heap.size u w'):=by
 refine (ZvH h v u (HMk.keep hv hL (Nat.le_refl _)) hl R HR).mono ?_
 rintro e w' ⟨x,rfl,hx,hB⟩
 exact⟨_,rfl,hL.trans (hB.mono hL.size),hx,hB⟩
theorem Zwa {h:Hk} {v:Value} {W u:World} (hv:HMk W v h.ls) (hl:h.ls.length≤1099511627776) {R:List (List UInt8)} (HR:Hid (newL h=R)) (hL:Low W u):Calls Tryz.prog 224 (#[hkV h v]++#[]) u fun e w'=>∃ x,e=.returned x∧Low W w'∧(HS w' x R∧Below u.heap.size u w'):=by
 refine (ZvF h v u (HMk.keep hv hL (Nat.le_refl _)) hl R HR).mono ?_
 rintro e w' ⟨x,rfl,hx,hB⟩
 exact⟨_,rfl,hL.trans (hB.mono hL.size),hx,hB⟩
theorem Zvz (h:Hk) (v:Value) (w:World) (hv:HMk w v h.ls) (hl:h.ls.length≤1099511627776) (htx:∀ m∈h.ls,m.tx.length≤1099511627776) (r:Int) (HR:Hid (chkH h=r)):Calls Tryz.prog 207 #[hkV h v] w fun e w'=>e=.returned (.int .i64 r)∧Below w.heap.size w w':=by
 obtain⟨A,AN,B,BN,ls⟩:=h
 dsimp only at hv hl htx
 obtain⟨lo,lc,rfl⟩:=HMk.form hv
 have hx:=Hx.new w ⟨A,AN,B,BN,ls⟩ (.slice lo ls.length lc)
 have hBl:Below w.heap.size w (w.alloc (hkO ⟨A,AN,B,BN,ls⟩ (.slice lo ls.length lc))):=(Below.refl _ w).alloc (Nat.le_refl _) _
 have hv1:=HMk.keep hv hBl (Nat.le_refl _)
 have HTX:Hid (∀ m∈ls,m.tx.length≤1099511627776):=htx
 clear htx hv
 obtain⟨x0,x1,x2,x3,x4⟩:=hx.cells
 unfold hkV
 dsimp only at x0 x1 x2 x3 x4 ⊢
 have hW0:w.alloc (hkO ⟨A,AN,B,BN,ls⟩ (.slice lo ls.length lc))=w.alloc (Obj.cells #[Value.int IntKind.i64 A,Value.int IntKind.i64 AN,Value.int IntKind.i64 B,Value.int IntKind.i64 BN,.slice lo ls.length lc] 45):=rfl
 generalize w.alloc (hkO ⟨A,AN,B,BN,ls⟩ (.slice lo ls.length lc))=W at *
 have hW:=hW0.symm
 clear hW0
 obtain⟨p1,hp1⟩:∃ p,nmB A AN=p:=⟨_,rfl⟩
 obtain⟨p2,hp2⟩:∃ p,nmB B BN=p:=⟨_,rfl⟩
 have HG:Hid (rngB ⟨A,AN,B,BN,ls⟩=(p1 && p2)):=(by show _=_;rw[ZzJ,← hp1,← hp2])
 have HP1:Hid (nmB A AN=p1):=hp1
 have HP2:Hid (nmB B BN=p2):=hp2
 clear hp1 hp2
 go_enter Tryz.func207,Tryz.ntmps207
 go_wp2_with fail
 refine (Zwc A AN W p1 HP1).mono ?_
 rintro e w1 ⟨rfl,rfl⟩
 clear hW HP1
 cases p1 with
 | false =>
  have HE:Hid (2=r):=(by show _=_;rw[← HR.out,ZtY (by rw[HG.out];rfl)])
  clear HR HG
  go_wp2
  go_ret
  exact⟨by rw[← HE.out];rfl,hBl⟩
 | true =>
 go_wp2_with fail
 refine (Zwc B BN w1 p2 HP2).mono ?_
 rintro e W ⟨rfl,rfl⟩
 clear HP2
 cases p2 with
 | false =>
  have HE:Hid (2=r):=(by show _=_;rw[← HR.out,ZtY (by rw[HG.out];rfl)])
  clear HR HG
  go_wp2
  go_ret
  exact⟨by rw[← HE.out];rfl,hBl⟩
 | true =>
  obtain⟨RO,hRO⟩:∃ r,oldL ⟨A,AN,B,BN,ls⟩=r:=⟨_,rfl⟩
  obtain⟨RN,hRN⟩:∃ r,newL ⟨A,AN,B,BN,ls⟩=r:=⟨_,rfl⟩
  have HO:Hid (oldL ⟨A,AN,B,BN,ls⟩=RO):=hRO
  have HN:Hid (newL ⟨A,AN,B,BN,ls⟩=RN):=hRN
  have HF:Hid (fldB ls=(allB ls && checkB RO && checkB RN)):=(by show _=_;rw[← hRO,← hRN];exact ZuZ ls)
  have hROl:RO.length≤1099511627776:=by rw[← hRO];have:=Zyn 43 ls;simp only[oldL];omega
  have hRNl:RN.length≤1099511627776:=by rw[← hRN];have:=Zyn 45 ls;simp only[newL];omega
  have HROm:Hid (∀ a∈RO,a.length≤1099511627776):=(by
   intro a ha
   rw[← hRO] at ha
   obtain⟨m,hm,rfl⟩:=Zyp ha
   exact HTX.out m hm)
  have HRNm:Hid (∀ a∈RN,a.length≤1099511627776):=(by
   intro a ha
   rw[← hRN] at ha
   obtain⟨m,hm,rfl⟩:=Zyp ha
   exact HTX.out m hm)
  clear hRO hRN HTX
  have hxx:∀ u:World,Low W u→Hx u w.heap.size ⟨A,AN,B,BN,ls⟩ (.slice lo ls.length lc):=fun u hu=>hx.low hu
  go_upto_region 3 with fail
  go_cut [3,4] from 5 to 51 (fun a b wz=>∃ oo oc no nc,a=.slice oo RO.length oc∧b=.slice no RN.length nc∧HS wz a RO∧HS wz b RN∧Below W.heap.size W wz)
  case first =>
   have hlow:Low W (W.drewN 1):=Below.dN (Below.refl _ W) 1
   refine wp_region_noPanic ?_
   refine wp_region_held_drew (S:=fun u=>Low W u) (by kernel_rfl) hlow (fun hHeld=>?_)
   refine Y_t 0 19 _ (hkV ⟨A,AN,B,BN,ls⟩ (.slice lo ls.length lc)) rfl (Or.inl ⟨by kernel_rfl,fun u hu=>ZwM (hxx u hu) (.tmp 1) (by kernel_rfl) (by kernel_rfl)⟩) hHeld ?_
   simp only[Act.put,Y_a,Y_b,Y_c]
   refine Y_t 2 21 _ (hkV ⟨A,AN,B,BN,ls⟩ (.slice lo ls.length lc)) rfl (Or.inl ⟨by kernel_rfl,fun u hu=>ZwM (hxx u hu) (.tmp 1) (by kernel_rfl) (by kernel_rfl)⟩) hHeld ?_
   simp only[Act.put,Y_a,Y_b,Y_c]
   refine Y_e 1 20 _ rfl 223 (.func 223) #[.tmp 19] #[45] (by kernel_rfl) #[] (by kernel_rfl) #[hkV ⟨A,AN,B,BN,ls⟩ (.slice lo ls.length lc)] (by kernel_rfl) (enters_of Tryz.func223 (by kernel_rfl) rfl) _ (Zwf hv1 hl HO hHeld) ?_
   rintro vo w1 hHeld1 ⟨hvo,hBo⟩
   obtain⟨oo,oc,rfl⟩:=Holds.form hvo
   simp only[Act.put,Y_a,Y_b,Y_c]
   refine Y_e 3 22 _ rfl 224 (.func 224) #[.tmp 21] #[45] (by kernel_rfl) #[] (by kernel_rfl) #[hkV ⟨A,AN,B,BN,ls⟩ (.slice lo ls.length lc)] (by kernel_rfl) (enters_of Tryz.func224 (by kernel_rfl) rfl) _ (Zwa hv1 hl HN hHeld1) ?_
   rintro vn w2 hHeld ⟨hvn,hBn⟩
   obtain⟨no,nc,rfl⟩:=Holds.form hvn
   simp only[Act.put,Y_a,Y_b,Y_c]
   refine Y_t 4 3 _ (.slice oo RO.length oc) rfl (Or.inl ⟨by kernel_rfl,fun u hu=>by kernel_rfl⟩) hHeld ?_
   simp only[Act.put,Y_a,Y_b,Y_c]
   refine Y_t 5 4 _ (.slice no RN.length nc) rfl (Or.inl ⟨by kernel_rfl,fun u hu=>by kernel_rfl⟩) hHeld ?_
   simp only[Act.put,Y_a,Y_b,Y_c]
   refine wpAnyH_done (by kernel_rfl) ?_ _
   refine NoPanic.normal ?_
   go_wp2_with fail
   go_meet
   case rel=>exact⟨_,_,_,_,rfl,rfl,HS.keep hvo hBn (Nat.le_refl _),hvn,hHeld⟩
  case rest =>
   obtain⟨oo,oc,no,nc,rfl,rfl,hvo,hvn,hBz⟩:=hcut
   have hB2:=hBl.trans (hBz.mono hBl.size)
   obtain⟨y0,y1,y2,y3,y4⟩:=(hxx _ hBz).cells
   dsimp only at y0 y1 y2 y3 y4
   have hv2:=HMk.keep hv1 hBz (Nat.le_refl _)
   generalize wc=w2 at *
   clear x0 x1 x2 x3 x4
   obtain⟨s,hs⟩:∃ s,allB ls=s:=⟨_,rfl⟩
   have HS1:Hid (ls.any (fun m=>!okS m.sg)=!s):=(by show _=_;rw[Ztd,hs])
   have HF2:Hid (fldB ls=(s && checkB RO && checkB RN)):=(by have h:=HF.out;rw[hs] at h;exact h)
   clear HF hs
   go_wp2_with fail
   refine (ZvA 248 ls (fun m=>!okS m.sg) _ w2 hv2 hl (enters_of Tryz.func248 (by kernel_rfl) rfl) (fun m _ u=>Zwk m u) (!s) HS1).mono ?_
   rintro e w3 ⟨rfl,hB3⟩
   have hx3:=(hxx _ hBz).low hB3
   have hvo3:=HS.keep hvo hB3 (Nat.le_refl _)
   have hvn3:=HS.keep hvn hB3 (Nat.le_refl _)
   have hv3:=HMk.keep hv2 hB3 (Nat.le_refl _)
   have hB4:=hB2.trans (hB3.mono hB2.size)
   obtain⟨z0,z1,z2,z3,z4⟩:=hx3.cells
   dsimp only at z0 z1 z2 z3 z4
   clear y0 y1 y2 y3 y4 HS1
   cases s with
   | false =>
    have HE:Hid (6=r):=(by show _=_;rw[← HR.out,ZtR HG.out (by rw[HF2.out];rfl)])
    clear HR HG HF2
    go_wp2
    go_ret
    exact⟨by rw[← HE.out];rfl,hB4⟩
   | true =>
   obtain⟨q1,hq1⟩:∃ q,checkB RO=q:=⟨_,rfl⟩
   obtain⟨q2,hq2⟩:∃ q,checkB RN=q:=⟨_,rfl⟩
   have HQ1:Hid (checkB RO=q1):=hq1
   have HQ2:Hid (checkB RN=q2):=hq2
   have HF3:Hid (fldB ls=(q1 && q2)):=(by have h:=HF2.out;rw[hq1,hq2,Bool.true_and] at h;exact h)
   clear HF2 hq1 hq2
   cases q1 with
   | false =>
    have HE:Hid (6=r):=(by show _=_;rw[← HR.out,ZtR HG.out (by rw[HF3.out];rfl)])
    clear HR HG HF3
    go_wp2_with fail
    refine (ZvX _ RO w3 hROl HROm.out hvo3 false HQ1 6 rfl).mono ?_
    rintro e w4 ⟨rfl,rfl⟩
    go_wp2
    go_ret
    exact⟨by rw[← HE.out];rfl,hB4⟩
   | true =>
   go_wp2_with fail
   refine (ZvX _ RO w3 hROl HROm.out hvo3 true HQ1 0 rfl).mono ?_
   rintro e w4 ⟨rfl,rfl⟩
   cases q2 with
   | false =>
    have HE:Hid (6=r):=(by show _=_;rw[← HR.out,ZtR HG.out (by rw[HF3.out];rfl)])
    clear HR HG HF3
    go_wp2_with fail
    refine (ZvX _ RN w3 hRNl HRNm.out hvn3 false HQ2 6 rfl).mono ?_
    rintro e w4 ⟨rfl,rfl⟩
    go_wp2
    go_ret
    exact⟨by rw[← HE.out];rfl,hB4⟩
   | true =>
   go_wp2_with fail
   refine (ZvX _ RN w3 hRNl HRNm.out hvn3 true HQ2 0 rfl).mono ?_
   rintro e w4 ⟨rfl,rfl⟩
   have HFT:Hid (fldB ls=true):=(by have h:=HF3.out;exact h)
   clear HF3 HQ1 HQ2
   by_cases ha:(RO.length:Int)=AN
   ·have ea:((RO.length:Int) != AN)=false:=by simpa using ha
    by_cases hb:(RN.length:Int)=BN
    ·have eb:((RN.length:Int) != BN)=false:=by simpa using hb
     obtain⟨q,hq⟩:∃ q,ls.any chgB=q:=⟨_,rfl⟩
     have HQ:Hid (ls.any chgB=q):=hq
     have HE:Hid ((if q=true then 0 else 50)=r):=(by
      show _=_
      rw[← HR.out,ZtQ (h:=⟨A,AN,B,BN,ls⟩) HG.out HFT.out (by rw[HO.out,ha]) (by rw[HN.out,hb]) hq])
     clear HR HG HFT hq ha hb
     go_wp2_with fail
     refine (ZvA 250 ls chgB _ w3 hv3 hl (enters_of Tryz.func250 (by kernel_rfl) rfl) (fun m _ u=>ZvR m u) q HQ).mono ?_
     rintro e w5 ⟨rfl,hB5⟩
     have hB6:=hB4.trans (hB5.mono hB4.size)
     cases q with
     | false =>
      go_wp2
      go_ret
      exact⟨by rw[← HE.out];rfl,hB6⟩
     | true =>
      go_wp2
      go_ret
      exact⟨by rw[← HE.out];rfl,hB6⟩
    ·have eb:((RN.length:Int) != BN)=true:=by simpa using hb
     have HE:Hid (120=r):=(by
      show _=_
      rw[← HR.out,ZtP (h:=⟨A,AN,B,BN,ls⟩) HG.out HFT.out (.inr (by rw[HN.out];exact fun k=>hb k.symm))])
     clear HR HG HFT ha hb
     go_wp2
     go_ret
     exact⟨by rw[← HE.out];rfl,hB4⟩
   ·have ea:((RO.length:Int) != AN)=true:=by simpa using ha
    have HE:Hid (120=r):=(by
     show _=_
     rw[← HR.out,ZtP (h:=⟨A,AN,B,BN,ls⟩) HG.out HFT.out (.inl (by rw[HO.out];exact fun k=>ha k.symm))])
    clear HR HG HFT ha
    go_wp2
    go_ret
    exact⟨by rw[← HE.out];rfl,hB4⟩
end

end Go.Proofs.YtcniomgjikienaaGreatDoor
