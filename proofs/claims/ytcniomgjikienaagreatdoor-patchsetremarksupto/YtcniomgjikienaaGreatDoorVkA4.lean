/-
  Texts that belong together, joined: Itoa, LnShelf, NoShelfX, UnShelf, EfShelfJ, NoShelf, LnMath, HuLm, Math, PMath, BackMath, NoMath, NoM2, NoM3, NoM4, CxMath, CxM2, CxM3, CxM4, CxM5, CxM6, CxM7, UnMath, UnM2.
-/
import Derived.Shelf.Strconv.Itoa3
import Derived.Test.YtcniomgjikienaaGreatDoorProg
import Derived.Shelf.Strings.Search3
import Derived.Shelf.Small.Strs
import Derived.Shelf.Small.Utf8
import Derived.Shelf.Strings.Runes
import Derived.Shelf.Strings.IndexAny
import Derived.Shelf.Strings.IndexAnyAll
import Derived.Shelf.Strings.Search2
import Derived.Test.YtcniomgjikienaaGreatDoorVkA1
import Derived.Shelf.Strings.Cut
import Derived.Shelf.Strings.OnBuilder
import Derived.Shelf.Small.Wraps
import Derived.Shelf.Strings.BuilderK
import Derived.Lib.Bytealg
import Derived.Lib.Join
import Derived.Test.YtcniomgjikienaaGreatDoorVkA2
import Derived.Lib.ItoaNum

set_option maxHeartbeats 16000000
set_option maxRecDepth 100000
namespace Go.Proofs

section
open Go.Shelf
def Tryz.laysM171_ren : Go.Shelf.Ren := ⟨fun | 171 => 300 | 243 => 335 | 246 => 352 | 283 => 360 | 284 => 361 | 285 => 362 | 286 => 363 | 129 => 369 | 317 => 368 | 318 => 370 | 319 => 371 | 320 => 372 | 337 => 374 | 338 => 375 | n => n, fun | 3 => 3 | 9 => 9 | 2 => 2 | 4 => 4 | 171 => 381 | 0 => 0 | 53 => 51 | 37 => 83 | 5 => 5 | 173 => 384 | 212 => 388 | 51 => 224 | 20 => 20 | 213 => 389 | 46 => 203 | 232 => 396 | 233 => 397 | n => n, fun | 17 => 2 | 18 => 5 | 19 => 6 | n => n⟩
theorem Tryz.laysM171 : Go.Proofs.LaysM.n171 Tryz.prog Tryz.laysM171_ren := {
  mixed := by kernel_rfl
  f129 := Go.fk Tryz.func369
  f171 := Go.fk Tryz.func300
  f243 := Go.fk Tryz.func335
  f246 := Go.fk Tryz.func352
  f283 := Go.fk Tryz.func360
  f284 := Go.fk Tryz.func361
  f285 := Go.fk Tryz.func362
  f286 := Go.fk Tryz.func363
  f317 := Go.fk Tryz.func368
  f318 := Go.fk Tryz.func370
  f319 := Go.fk Tryz.func371
  f320 := Go.fk Tryz.func372
  f337 := Go.fk Tryz.func374
  f338 := Go.fk Tryz.func375
  t0 := Tryz.underlying0
  a0 := Tryz.isAgg0
  z0 := Tryz.sizeOf0
  v0 := Tryz.zeroValue0
  t2 := Tryz.underlying2
  a2 := Tryz.isAgg2
  z2 := Tryz.sizeOf2
  v2 := Tryz.zeroValue2
  t3 := Tryz.underlying3
  a3 := Tryz.isAgg3
  z3 := Tryz.sizeOf3
  v3 := Tryz.zeroValue3
  t4 := Tryz.underlying4
  a4 := Tryz.isAgg4
  z4 := Tryz.sizeOf4
  v4 := Tryz.zeroValue4
  t5 := Tryz.underlying5
  a5 := Tryz.isAgg5
  z5 := Tryz.sizeOf5
  v5 := Tryz.zeroValue5
  t9 := Tryz.underlying9
  a9 := Tryz.isAgg9
  z9 := Tryz.sizeOf9
  v9 := Tryz.zeroValue9
  t20 := Tryz.underlying20
  a20 := Tryz.isAgg20
  z20 := Tryz.sizeOf20
  v20 := Tryz.zeroValue20
  t37 := Tryz.underlying83
  a37 := Tryz.isAgg83
  z37 := Tryz.sizeOf83
  v37 := Tryz.zeroValue83
  t46 := Tryz.underlying203
  a46 := Tryz.isAgg203
  z46 := Tryz.sizeOf203
  v46 := Tryz.zeroValue203
  t51 := Tryz.underlying224
  a51 := Tryz.isAgg224
  z51 := Tryz.sizeOf224
  v51 := Tryz.zeroValue224
  t53 := Tryz.underlying51
  a53 := Tryz.isAgg51
  z53 := Tryz.sizeOf51
  v53 := Tryz.zeroValue51
  t171 := Tryz.underlying381
  a171 := Tryz.isAgg381
  z171 := Tryz.sizeOf381
  v171 := Tryz.zeroValue381
  t173 := Tryz.underlying384
  a173 := Tryz.isAgg384
  z173 := Tryz.sizeOf384
  v173 := Tryz.zeroValue384
  t212 := Tryz.underlying388
  a212 := Tryz.isAgg388
  z212 := Tryz.sizeOf388
  v212 := Tryz.zeroValue388
  t213 := Tryz.underlying389
  a213 := Tryz.isAgg389
  z213 := Tryz.sizeOf389
  t232 := Tryz.underlying396
  a232 := Tryz.isAgg396
  z232 := Tryz.sizeOf396
  v232 := Tryz.zeroValue396
  t233 := Tryz.underlying397
  a233 := Tryz.isAgg397
  z233 := Tryz.sizeOf397
  v233 := Tryz.zeroValue397
  g17 := by kernel_rfl
  g18 := by kernel_rfl
  g19 := by kernel_rfl
  i0 := by kernel_rfl
  i2 := by kernel_rfl
  i3 := by kernel_rfl
  i4 := by kernel_rfl
  i5 := by kernel_rfl
  i9 := by kernel_rfl
  i20 := by kernel_rfl
  i37 := by kernel_rfl
  i46 := by kernel_rfl
  i51 := by kernel_rfl
  i53 := by kernel_rfl
  i171 := by kernel_rfl
  i173 := by kernel_rfl
  i212 := by kernel_rfl
  i232 := by kernel_rfl
  i233 := by kernel_rfl
  m17 := by kernel_rfl
  m18 := by kernel_rfl
  m19 := by kernel_rfl }
open Go.RowKit Go.Sort Go.Lib in
theorem Tryz.strconv_Itoa (n : Int) (h0 : -9223372036854775808 ≤ n) (h1 : n ≤ 9223372036854775807) (w : World) (htab : Lib.TabIs Tryz.prog w "internal/strconv.uint64pow10" .u64 Lib.pow10Tab) :
    Calls Tryz.prog 300 #[.int .i64 n] w fun e w' => e = .returned (.string ⟨(Lib.itoa n).toArray⟩) ∧ ∃ k os, w' = grow (w.drewN k) os := Any.strconv_Itoa Tryz.laysM171 n h0 h1 w htab
end

section
open Go.Shelf
def Tryz.lays143_ren : Go.Shelf.Ren := ⟨fun | 143 => 49 | 219 => 92 | 217 => 131 | 225 => 132 | 224 => 133 | 267 => 134 | 266 => 165 | 314 => 166 | n => n, fun | 9 => 9 | 3 => 3 | 4 => 4 | 5 => 5 | 46 => 203 | 146 => 225 | 51 => 224 | n => n, fun | 1 => 1 | n => n⟩
theorem Tryz.lays143 : Go.Proofs.Lays.n143 Tryz.prog Tryz.lays143_ren := {
  mixed := by kernel_rfl
  f143 := Go.fk Tryz.func49
  f217 := Go.fk Tryz.func131
  f219 := Go.fk Tryz.func92
  f224 := Go.fk Tryz.func133
  f225 := Go.fk Tryz.func132
  f266 := Go.fk Tryz.func165
  f267 := Go.fk Tryz.func134
  f314 := Go.fk Tryz.func166
  t3 := Tryz.underlying3
  a3 := Tryz.isAgg3
  z3 := Tryz.sizeOf3
  v3 := Tryz.zeroValue3
  t4 := Tryz.underlying4
  a4 := Tryz.isAgg4
  z4 := Tryz.sizeOf4
  v4 := Tryz.zeroValue4
  t5 := Tryz.underlying5
  a5 := Tryz.isAgg5
  z5 := Tryz.sizeOf5
  v5 := Tryz.zeroValue5
  t9 := Tryz.underlying9
  a9 := Tryz.isAgg9
  z9 := Tryz.sizeOf9
  v9 := Tryz.zeroValue9
  t46 := Tryz.underlying203
  a46 := Tryz.isAgg203
  z46 := Tryz.sizeOf203
  v46 := Tryz.zeroValue203
  t51 := Tryz.underlying224
  a51 := Tryz.isAgg224
  z51 := Tryz.sizeOf224
  v51 := Tryz.zeroValue224
  t146 := Tryz.underlying225
  a146 := Tryz.isAgg225
  z146 := Tryz.sizeOf225
  v146 := Tryz.zeroValue225
  g1 := by kernel_rfl }
open Go.RowKit Go.Lib in
theorem Tryz.strings_Index_one (s : ByteArray) (c : UInt8) (w : World) :
    Calls Tryz.prog 49 #[.string s, .string ⟨#[c]⟩] w fun e w' => e = .returned (.int .i64 (Lib.indexByte s.data.toList c)) ∧ w' = w := Any.strings_Index_one Tryz.lays143 s c w
end

section
open Go.Shelf
def Tryz.lays119_ren : Go.Shelf.Ren := ⟨fun | 119 => 364 | n => n, fun | 21 => 21 | 4 => 4 | n => n, fun | n => n⟩
theorem Tryz.lays119 : Go.Proofs.Lays.n119 Tryz.prog Tryz.lays119_ren := {
  mixed := by kernel_rfl
  f119 := Go.fk Tryz.func364
  t4 := Tryz.underlying4
  a4 := Tryz.isAgg4
  z4 := Tryz.sizeOf4
  v4 := Tryz.zeroValue4
  t21 := Tryz.underlying21
  a21 := Tryz.isAgg21
  z21 := Tryz.sizeOf21
  v21 := Tryz.zeroValue21 }
theorem Tryz.utf8_ValidRune (r : Int) (w : World) :
    Calls Tryz.prog 364 #[.int .i32 r] w fun e w' => e = .returned (.bool (Lib.validRune r)) ∧ w' = w := Any.utf8_ValidRune Tryz.lays119 r w
def Tryz.lays219_ren : Go.Shelf.Ren := ⟨fun | 219 => 92 | 217 => 131 | 225 => 132 | 224 => 133 | 267 => 134 | 266 => 165 | 314 => 166 | n => n, fun | 9 => 9 | 3 => 3 | 4 => 4 | 5 => 5 | 46 => 203 | 146 => 225 | 51 => 224 | n => n, fun | 1 => 1 | n => n⟩
theorem Tryz.lays219 : Go.Proofs.Lays.n219 Tryz.prog Tryz.lays219_ren := {
  mixed := by kernel_rfl
  f217 := Go.fk Tryz.func131
  f219 := Go.fk Tryz.func92
  f224 := Go.fk Tryz.func133
  f225 := Go.fk Tryz.func132
  f266 := Go.fk Tryz.func165
  f267 := Go.fk Tryz.func134
  f314 := Go.fk Tryz.func166
  t3 := Tryz.underlying3
  a3 := Tryz.isAgg3
  z3 := Tryz.sizeOf3
  v3 := Tryz.zeroValue3
  t4 := Tryz.underlying4
  a4 := Tryz.isAgg4
  z4 := Tryz.sizeOf4
  v4 := Tryz.zeroValue4
  t5 := Tryz.underlying5
  a5 := Tryz.isAgg5
  z5 := Tryz.sizeOf5
  v5 := Tryz.zeroValue5
  t9 := Tryz.underlying9
  a9 := Tryz.isAgg9
  z9 := Tryz.sizeOf9
  v9 := Tryz.zeroValue9
  t46 := Tryz.underlying203
  a46 := Tryz.isAgg203
  z46 := Tryz.sizeOf203
  v46 := Tryz.zeroValue203
  t51 := Tryz.underlying224
  a51 := Tryz.isAgg224
  z51 := Tryz.sizeOf224
  v51 := Tryz.zeroValue224
  t146 := Tryz.underlying225
  a146 := Tryz.isAgg225
  z146 := Tryz.sizeOf225
  v146 := Tryz.zeroValue225
  g1 := by kernel_rfl }
open Go.RowKit Go.Lib in
theorem Tryz.stringslite_Index_one (s : ByteArray) (c : UInt8) (w : World) :
    Calls Tryz.prog 92 #[.string s, .string ⟨#[c]⟩] w fun e w' => e = .returned (.int .i64 (Lib.indexByte s.data.toList c)) ∧ w' = w := Any.stringslite_Index_one Tryz.lays219 s c w
def Tryz.lays152_ren : Go.Shelf.Ren := ⟨fun | 152 => 354 | 137 => 347 | 119 => 364 | 224 => 133 | 225 => 132 | 217 => 131 | 266 => 165 | n => n, fun | 9 => 9 | 21 => 21 | 3 => 3 | 4 => 4 | 5 => 5 | 0 => 0 | 46 => 203 | n => n, fun | n => n⟩
theorem Tryz.lays152 : Go.Proofs.Lays.n152 Tryz.prog Tryz.lays152_ren := {
  mixed := by kernel_rfl
  f119 := Go.fk Tryz.func364
  f137 := Go.fk Tryz.func347
  f152 := Go.fk Tryz.func354
  f217 := Go.fk Tryz.func131
  f224 := Go.fk Tryz.func133
  f225 := Go.fk Tryz.func132
  f266 := Go.fk Tryz.func165
  t0 := Tryz.underlying0
  a0 := Tryz.isAgg0
  z0 := Tryz.sizeOf0
  v0 := Tryz.zeroValue0
  t3 := Tryz.underlying3
  a3 := Tryz.isAgg3
  z3 := Tryz.sizeOf3
  v3 := Tryz.zeroValue3
  t4 := Tryz.underlying4
  a4 := Tryz.isAgg4
  z4 := Tryz.sizeOf4
  v4 := Tryz.zeroValue4
  t5 := Tryz.underlying5
  a5 := Tryz.isAgg5
  z5 := Tryz.sizeOf5
  v5 := Tryz.zeroValue5
  t9 := Tryz.underlying9
  a9 := Tryz.isAgg9
  z9 := Tryz.sizeOf9
  v9 := Tryz.zeroValue9
  t21 := Tryz.underlying21
  a21 := Tryz.isAgg21
  z21 := Tryz.sizeOf21
  v21 := Tryz.zeroValue21
  t46 := Tryz.underlying203
  a46 := Tryz.isAgg203
  z46 := Tryz.sizeOf203
  v46 := Tryz.zeroValue203 }
open Go.RowKit Go.Lib in
theorem Tryz.strings_IndexRune_ascii (s : ByteArray) (r : Int) (w : World) (h0 : 0 ≤ r) (h1 : r < 128) :
    Calls Tryz.prog 354 #[.string s, .int .i32 r] w fun e w' => e = .returned (.int .i64 (Lib.indexByte s.data.toList r.toNat.toUInt8)) ∧ w' = w := Any.strings_IndexRune_ascii Tryz.lays152 s r w h0 h1
def Tryz.lays153_ren : Go.Shelf.Ren := ⟨fun | 153 => 338 | 152 => 354 | 226 => 355 | 227 => 349 | 228 => 356 | 137 => 347 | 119 => 364 | 224 => 133 | 225 => 132 | 217 => 131 | 266 => 165 | n => n, fun | 9 => 9 | 3 => 3 | 4 => 4 | 5 => 5 | 21 => 21 | 117 => 371 | 116 => 370 | 0 => 0 | 46 => 203 | 124 => 374 | n => n, fun | n => n⟩
theorem Tryz.lays153 : Go.Proofs.Lays.n153 Tryz.prog Tryz.lays153_ren := {
  mixed := by kernel_rfl
  f119 := Go.fk Tryz.func364
  f137 := Go.fk Tryz.func347
  f152 := Go.fk Tryz.func354
  f153 := Go.fk Tryz.func338
  f217 := Go.fk Tryz.func131
  f224 := Go.fk Tryz.func133
  f225 := Go.fk Tryz.func132
  f226 := Go.fk Tryz.func355
  f227 := Go.fk Tryz.func349
  f228 := Go.fk Tryz.func356
  f266 := Go.fk Tryz.func165
  t0 := Tryz.underlying0
  a0 := Tryz.isAgg0
  z0 := Tryz.sizeOf0
  v0 := Tryz.zeroValue0
  t3 := Tryz.underlying3
  a3 := Tryz.isAgg3
  z3 := Tryz.sizeOf3
  v3 := Tryz.zeroValue3
  t4 := Tryz.underlying4
  a4 := Tryz.isAgg4
  z4 := Tryz.sizeOf4
  v4 := Tryz.zeroValue4
  t5 := Tryz.underlying5
  a5 := Tryz.isAgg5
  z5 := Tryz.sizeOf5
  v5 := Tryz.zeroValue5
  t9 := Tryz.underlying9
  a9 := Tryz.isAgg9
  z9 := Tryz.sizeOf9
  v9 := Tryz.zeroValue9
  t21 := Tryz.underlying21
  a21 := Tryz.isAgg21
  z21 := Tryz.sizeOf21
  v21 := Tryz.zeroValue21
  t46 := Tryz.underlying203
  a46 := Tryz.isAgg203
  z46 := Tryz.sizeOf203
  v46 := Tryz.zeroValue203
  t116 := Tryz.underlying370
  a116 := Tryz.isAgg370
  z116 := Tryz.sizeOf370
  t117 := Tryz.underlying371
  a117 := Tryz.isAgg371
  z117 := Tryz.sizeOf371
  v117 := Tryz.zeroValue371
  t124 := Tryz.underlying374
  a124 := Tryz.isAgg374
  z124 := Tryz.sizeOf374
  v124 := Tryz.zeroValue374 }
open Go.RowKit Go.Lib in
theorem Tryz.strings_IndexAny_long (hv116 : ∀ w, (zeroValue 370).run Tryz.prog w = .ok (.agg (Array.replicate 256 (.bool false))) w) (s chars : ByteArray) (w : World) (h2 : 2 ≤ chars.size) (h8 : 8 < s.size) (hs : s.size < 4294967281) (hcs : chars.size < 4294967281) (hascii : ∀ (j : Nat) b, chars.data.toList[j]? = some b → b.toNat < 128) :
    Calls Tryz.prog 338 #[.string s, .string chars] w fun e w' => e = .returned (.int .i64 (Lib.indexAny s.data.toList chars.data.toList)) ∧ w' = ((w.alloc (.cells (Lib.setCells chars.data.toList) 370)).alloc (.cells (Lib.setCells chars.data.toList) 370)) := Any.strings_IndexAny_long Tryz.lays153 hv116 (by kernel_rfl) s chars w h2 h8 hs hcs hascii
end

section
open Go.Shelf
def Tryz.lays145_ren : Go.Shelf.Ren := ⟨fun | 145 => 46 | 220 => 87 | 219 => 92 | 217 => 131 | 225 => 132 | 224 => 133 | 267 => 134 | 266 => 165 | 314 => 166 | n => n, fun | 9 => 9 | 4 => 4 | 59 => 91 | 3 => 3 | 5 => 5 | 46 => 203 | 146 => 225 | 51 => 224 | n => n, fun | 1 => 1 | n => n⟩
theorem Tryz.lays145 : Go.Proofs.Lays.n145 Tryz.prog Tryz.lays145_ren := {
  mixed := by kernel_rfl
  f145 := Go.fk Tryz.func46
  f217 := Go.fk Tryz.func131
  f219 := Go.fk Tryz.func92
  f220 := Go.fk Tryz.func87
  f224 := Go.fk Tryz.func133
  f225 := Go.fk Tryz.func132
  f266 := Go.fk Tryz.func165
  f267 := Go.fk Tryz.func134
  f314 := Go.fk Tryz.func166
  t3 := Tryz.underlying3
  a3 := Tryz.isAgg3
  z3 := Tryz.sizeOf3
  v3 := Tryz.zeroValue3
  t4 := Tryz.underlying4
  a4 := Tryz.isAgg4
  z4 := Tryz.sizeOf4
  v4 := Tryz.zeroValue4
  t5 := Tryz.underlying5
  a5 := Tryz.isAgg5
  z5 := Tryz.sizeOf5
  v5 := Tryz.zeroValue5
  t9 := Tryz.underlying9
  a9 := Tryz.isAgg9
  z9 := Tryz.sizeOf9
  v9 := Tryz.zeroValue9
  t46 := Tryz.underlying203
  a46 := Tryz.isAgg203
  z46 := Tryz.sizeOf203
  v46 := Tryz.zeroValue203
  t51 := Tryz.underlying224
  a51 := Tryz.isAgg224
  z51 := Tryz.sizeOf224
  v51 := Tryz.zeroValue224
  t59 := Tryz.underlying91
  a59 := Tryz.isAgg91
  z59 := Tryz.sizeOf91
  v59 := Tryz.zeroValue91
  t146 := Tryz.underlying225
  a146 := Tryz.isAgg225
  z146 := Tryz.sizeOf225
  v146 := Tryz.zeroValue225
  g1 := by kernel_rfl }
open Go.RowKit Go.Lib in
theorem Tryz.strings_Cut (s sep : ByteArray) (m : Int) (w : World) (hs : s.size < 4294967281) (hm : w.cell? ⟨1, 0, none⟩ = some (.int .i64 m)) :
    Calls Tryz.prog 46 #[.string s, .string sep] w fun e w' => e = .returned (.tuple #[.string ⟨(Lib.cut s.data.toList sep.data.toList).1.toArray⟩, .string ⟨(Lib.cut s.data.toList sep.data.toList).2.1.toArray⟩, .bool (Lib.cut s.data.toList sep.data.toList).2.2]) ∧ ∃ n, w' = w.drewN n := Any.strings_Cut Tryz.lays145 s sep m w hs hm
end

section
open Go.Shelf
def Tryz.lays156_ren : Go.Shelf.Ren := ⟨fun | 156 => 51 | 165 => 94 | 166 => 39 | 169 => 40 | 240 => 72 | 241 => 136 | 276 => 114 | 277 => 167 | n => n, fun | 31 => 49 | 9 => 9 | 3 => 3 | 4 => 4 | 0 => 0 | 20 => 20 | 72 => 85 | 76 => 86 | 70 => 82 | 37 => 83 | 75 => 24 | 127 => 128 | 164 => 105 | 5 => 5 | 80 => 88 | n => n, fun | n => n⟩
theorem Tryz.lays156 : Go.Proofs.Lays.n156 Tryz.prog Tryz.lays156_ren := {
  mixed := by kernel_rfl
  f156 := Go.fk Tryz.func51
  f165 := Go.fk Tryz.func94
  f166 := Go.fk Tryz.func39
  f169 := Go.fk Tryz.func40
  f240 := Go.fk Tryz.func72
  f241 := Go.fk Tryz.func136
  f276 := Go.fk Tryz.func114
  f277 := Go.fk Tryz.func167
  t0 := Tryz.underlying0
  a0 := Tryz.isAgg0
  z0 := Tryz.sizeOf0
  v0 := Tryz.zeroValue0
  t3 := Tryz.underlying3
  a3 := Tryz.isAgg3
  z3 := Tryz.sizeOf3
  v3 := Tryz.zeroValue3
  t4 := Tryz.underlying4
  a4 := Tryz.isAgg4
  z4 := Tryz.sizeOf4
  v4 := Tryz.zeroValue4
  t9 := Tryz.underlying9
  a9 := Tryz.isAgg9
  z9 := Tryz.sizeOf9
  v9 := Tryz.zeroValue9
  t20 := Tryz.underlying20
  a20 := Tryz.isAgg20
  z20 := Tryz.sizeOf20
  v20 := Tryz.zeroValue20
  t31 := Tryz.underlying49
  a31 := Tryz.isAgg49
  z31 := Tryz.sizeOf49
  v31 := Tryz.zeroValue49
  t37 := Tryz.underlying83
  a37 := Tryz.isAgg83
  z37 := Tryz.sizeOf83
  v37 := Tryz.zeroValue83
  t70 := Tryz.underlying82
  a70 := Tryz.isAgg82
  z70 := Tryz.sizeOf82
  v70 := Tryz.zeroValue82
  t72 := Tryz.underlying85
  a72 := Tryz.isAgg85
  z72 := Tryz.sizeOf85
  v72 := Tryz.zeroValue85
  t75 := Tryz.underlying24
  a75 := Tryz.isAgg24
  z75 := Tryz.sizeOf24
  v75 := Tryz.zeroValue24
  t76 := Tryz.underlying86
  a76 := Tryz.isAgg86
  z76 := Tryz.sizeOf86
  v76 := Tryz.zeroValue86
  t127 := Tryz.underlying128
  a127 := Tryz.isAgg128
  z127 := Tryz.sizeOf128
  v127 := Tryz.zeroValue128
  t164 := Tryz.underlying105
  a164 := Tryz.isAgg105
  z164 := Tryz.sizeOf105
  v164 := Tryz.zeroValue105 }
theorem Tryz.Builder_Extra_156 : Builder.Extra Tryz.prog Tryz.lays156_ren := {
  sizeBuilder := by kernel_rfl
  liesBuilder := by kernel_rfl
  t5 := Tryz.underlying5
  a5 := Tryz.isAgg5
  z5 := Tryz.sizeOf5
  v5 := Tryz.zeroValue5
  infoByte := by kernel_rfl
  cellsByte := by kernel_rfl
  sizeByte := by kernel_rfl
  neB5 := by decide }
open Go.RowKit in
theorem Tryz.strings_Join_none (a : Option Addr) (c : Nat) (sep : ByteArray) (w : World) :
    Calls Tryz.prog 51 #[.slice a 0 c, .string sep] w fun e w' => e = .returned (.string ⟨#[]⟩) ∧ w' = w := Any.strings_Join_none Tryz.lays156 Tryz.Builder_Extra_156 a c sep w
open Go.RowKit in
theorem Tryz.strings_Join (bk o c : Nat) (xs : List ByteArray) (sep : ByteArray) (w : World) (hcells : ∀ (j : Nat) x, xs[j]? = some x → w.cell? ⟨bk, o + j, none⟩ = some (.string x)) (hbk : bk < w.heap.size) (hN : xs.length ≤ 140737488355328) (hcap : xs.length ≤ c) (hlen : (Lib.join (xs.map (·.data.toList)) sep.data.toList).length ≤ 140737488355328) :
    Calls Tryz.prog 51 #[.slice (some ⟨bk, o, none⟩) xs.length c, .string sep] w fun e w' => e = .returned (.string ⟨(Lib.join (xs.map (·.data.toList)) sep.data.toList).toArray⟩) ∧ Below w.heap.size w w' := Any.strings_Join Tryz.lays156 Tryz.Builder_Extra_156 bk o c xs sep w hcells hbk hN hcap hlen
end

section
open Go.Shelf
def Tryz.lays103_ren : Go.Shelf.Ren := ⟨fun | 103 => 238 | 210 => 292 | 206 => 168 | n => n, fun | 9 => 9 | 4 => 4 | 24 => 57 | 3 => 3 | n => n, fun | n => n⟩
theorem Tryz.lays103 : Go.Proofs.Lays.n103 Tryz.prog Tryz.lays103_ren := {
  mixed := by kernel_rfl
  f103 := Go.fk Tryz.func238
  f206 := Go.fk Tryz.func168
  f210 := Go.fk Tryz.func292
  t3 := Tryz.underlying3
  a3 := Tryz.isAgg3
  z3 := Tryz.sizeOf3
  v3 := Tryz.zeroValue3
  t4 := Tryz.underlying4
  a4 := Tryz.isAgg4
  z4 := Tryz.sizeOf4
  v4 := Tryz.zeroValue4
  t9 := Tryz.underlying9
  a9 := Tryz.isAgg9
  z9 := Tryz.sizeOf9
  v9 := Tryz.zeroValue9
  t24 := Tryz.underlying57
  a24 := Tryz.isAgg57
  z24 := Tryz.sizeOf57
  v24 := Tryz.zeroValue57 }
open Go.RowKit in
theorem Tryz.strings_CutPrefix (s p : ByteArray) (w : World) :
    Calls Tryz.prog 238 #[.string s, .string p] w fun e w' => e = .returned (.tuple #[.string ⟨(Lib.trimPrefix s.data.toList p.data.toList).toArray⟩, .bool (Lib.hasPrefix s.data.toList p.data.toList)]) ∧ w' = w := Any.strings_CutPrefix Tryz.lays103 s p w
def Tryz.lays99_ren : Go.Shelf.Ren := ⟨fun | 99 => 139 | 206 => 168 | n => n, fun | 9 => 9 | 4 => 4 | 3 => 3 | n => n, fun | n => n⟩
theorem Tryz.lays99 : Go.Proofs.Lays.n99 Tryz.prog Tryz.lays99_ren := {
  mixed := by kernel_rfl
  f99 := Go.fk Tryz.func139
  f206 := Go.fk Tryz.func168
  t3 := Tryz.underlying3
  a3 := Tryz.isAgg3
  z3 := Tryz.sizeOf3
  v3 := Tryz.zeroValue3
  t4 := Tryz.underlying4
  a4 := Tryz.isAgg4
  z4 := Tryz.sizeOf4
  v4 := Tryz.zeroValue4
  t9 := Tryz.underlying9
  a9 := Tryz.isAgg9
  z9 := Tryz.sizeOf9
  v9 := Tryz.zeroValue9 }
open Go.RowKit Go.Lib in
theorem Tryz.strings_HasPrefix (s p : ByteArray) (w : World) :
    Calls Tryz.prog 139 #[.string s, .string p] w fun e w' => e = .returned (.bool (Lib.hasPrefix s.data.toList p.data.toList)) ∧ w' = w := Any.strings_HasPrefix Tryz.lays99 s p w
def Tryz.lays100_ren : Go.Shelf.Ren := ⟨fun | 100 => 252 | 207 => 135 | n => n, fun | 9 => 9 | 4 => 4 | 3 => 3 | n => n, fun | n => n⟩
theorem Tryz.lays100 : Go.Proofs.Lays.n100 Tryz.prog Tryz.lays100_ren := {
  mixed := by kernel_rfl
  f100 := Go.fk Tryz.func252
  f207 := Go.fk Tryz.func135
  t3 := Tryz.underlying3
  a3 := Tryz.isAgg3
  z3 := Tryz.sizeOf3
  v3 := Tryz.zeroValue3
  t4 := Tryz.underlying4
  a4 := Tryz.isAgg4
  z4 := Tryz.sizeOf4
  v4 := Tryz.zeroValue4
  t9 := Tryz.underlying9
  a9 := Tryz.isAgg9
  z9 := Tryz.sizeOf9
  v9 := Tryz.zeroValue9 }
open Go.RowKit Go.Lib in
theorem Tryz.strings_HasSuffix (s p : ByteArray) (w : World) (hs : s.size ≤ 9223372036854775807) :
    Calls Tryz.prog 252 #[.string s, .string p] w fun e w' => e = .returned (.bool (Lib.hasSuffix s.data.toList p.data.toList)) ∧ w' = w := Any.strings_HasSuffix Tryz.lays100 s p w hs
def Tryz.lays102_ren : Go.Shelf.Ren := ⟨fun | 102 => 239 | 209 => 293 | 207 => 135 | n => n, fun | 9 => 9 | 4 => 4 | 3 => 3 | n => n, fun | n => n⟩
theorem Tryz.lays102 : Go.Proofs.Lays.n102 Tryz.prog Tryz.lays102_ren := {
  mixed := by kernel_rfl
  f102 := Go.fk Tryz.func239
  f207 := Go.fk Tryz.func135
  f209 := Go.fk Tryz.func293
  t3 := Tryz.underlying3
  a3 := Tryz.isAgg3
  z3 := Tryz.sizeOf3
  v3 := Tryz.zeroValue3
  t4 := Tryz.underlying4
  a4 := Tryz.isAgg4
  z4 := Tryz.sizeOf4
  v4 := Tryz.zeroValue4
  t9 := Tryz.underlying9
  a9 := Tryz.isAgg9
  z9 := Tryz.sizeOf9
  v9 := Tryz.zeroValue9 }
open Go.RowKit Go.Lib in
theorem Tryz.strings_TrimSuffix (s p : ByteArray) (w : World) (hs : s.size ≤ 9223372036854775807) :
    Calls Tryz.prog 239 #[.string s, .string p] w fun e w' => e = .returned (.string ⟨(Lib.trimSuffix s.data.toList p.data.toList).toArray⟩) ∧ w' = w := Any.strings_TrimSuffix Tryz.lays102 s p w hs
end

end Go.Proofs

namespace Go.Proofs.YtcniomgjikienaaGreatDoor.Ln

section
open Go
def splitL:List UInt8→List (List UInt8)
 | []=>[]
 | c::t=>if c=10 then [c]::splitL t else match splitL t with
  | []=>[[c]]
  | x::r=>(c::x)::r
theorem Zkv (a b:List UInt8) (h:∀ c∈a,c≠10):splitL (a++10::b)=(a++[10])::splitL b:=by
 induction a with
 | nil=>simp[splitL]
 | cons c a ih =>
  have hc:c≠10:=h c (by simp)
  have:=ih fun x hx=>h x (by simp[hx])
  simp only[List.cons_append,splitL,hc,if_false,this]
theorem Zkw (a:List UInt8) (h:∀ c∈a,c≠10) (h0:a≠[]):splitL a=[a]:=by
 induction a with
 | nil=>exact absurd rfl h0
 | cons c a ih =>
  have hc:c≠10:=h c (by simp)
  cases a with
  | nil=>simp[splitL,hc]
  | cons d a =>
   have:=ih (fun x hx=>h x (by simp[hx])) (by simp)
   simp only[splitL,hc,if_false] at this ⊢
   rw[this]
theorem split_join (l:List UInt8):(splitL l).flatten=l:=by
 induction l with
 | nil=>rfl
 | cons c t ih =>
  unfold splitL
  by_cases hc:c=10
  ·simp[hc,ih]
  ·simp only[hc,if_false]
   cases hs:splitL t with
   | nil=>rw[hs] at ih;simp at ih;simp[← ih]
   | cons x r=>rw[hs] at ih;simp at ih;simp[ih]
theorem split_len (l:List UInt8):(splitL l).length≤l.length:=by
 induction l with
 | nil=>simp[splitL]
 | cons c t ih =>
  unfold splitL
  by_cases hc:c=10
  ·simp[hc];omega
  ·simp only[hc,if_false]
   cases hs:splitL t with
   | nil=>simp
   | cons x r=>rw[hs] at ih;simp at ih ⊢;omega
def lineB:List UInt8→Bool→Bool
 | [],_=>false
 | [c],last=>last || c == 10
 | c::d::t,last=>c != 10 && lineB (d::t) last
def checkB:List (List UInt8)→Bool
 | []=>true
 | s::t=>lineB s t.isEmpty && checkB t
theorem Zfz (c:UInt8) (x:List UInt8) (last:Bool) (hx:x≠[]):lineB (c::x) last=(c != 10 && lineB x last):=by
 cases x with
 | nil=>exact absurd rfl hx
 | cons d t=>rfl
theorem ZfD {x:List UInt8} {last:Bool} (h:lineB x last=true):x≠[]:=by rintro rfl;cases h
theorem ZfC {x:List UInt8} (h:lineB x false=true):∃ a,x=a++[10]∧∀ c∈a,c≠10:=by
 induction x with
 | nil=>cases h
 | cons c t ih =>
  cases t with
  | nil=>exact⟨[],by simpa [lineB] using h,by simp⟩
  | cons d t =>
   simp only[lineB,Bool.and_eq_true,bne_iff_ne] at h
   obtain⟨a,ha,hn⟩:=ih h.2
   refine⟨c::a,by rw[ha];rfl,?_⟩
   intro x hx
   simp only[List.mem_cons] at hx
   rcases hx with rfl | hx
   ·exact h.1
   ·exact hn x hx
theorem ZfE {x:List UInt8} (h:lineB x true=true):lineB x false=true∨∀ c∈x,c≠10:=by
 induction x with
 | nil=>cases h
 | cons c t ih =>
  cases t with
  | nil =>
   by_cases hc:c=10
   ·exact .inl (by simp[lineB,hc])
   ·exact .inr (by simpa using hc)
  | cons d t =>
   simp only[lineB,Bool.and_eq_true,bne_iff_ne] at h
   rcases ih h.2 with h2 | h2
   ·exact .inl (by simp only[lineB,Bool.and_eq_true,bne_iff_ne];exact⟨h.1,h2⟩)
   ·refine .inr ?_
    intro x hx
    simp only[List.mem_cons] at hx
    rcases hx with rfl | hx
    ·exact h.1
    ·exact h2 x (by simpa using hx)
theorem split_right (l:List UInt8):checkB (splitL l)=true:=by
 induction l with
 | nil=>rfl
 | cons c t ih =>
  unfold splitL
  by_cases hc:c=10
  ·simp[hc,checkB,lineB,ih]
  ·simp only[hc,if_false]
   cases hs:splitL t with
   | nil=>simp[checkB,lineB]
   | cons x r =>
    rw[hs] at ih
    simp only[checkB,Bool.and_eq_true] at ih ⊢
    rw[Zfz c x _ (ZfD ih.1)]
    simp[hc,ih.1,ih.2]
theorem Zjr (ws:List (List UInt8)) (h:checkB ws=true):splitL ws.flatten=ws:=by
 induction ws with
 | nil=>rfl
 | cons x r ih =>
  simp only[checkB,Bool.and_eq_true] at h
  have hr:=ih h.2
  cases r with
  | nil =>
   simp only[List.flatten_cons,List.flatten_nil,List.append_nil]
   rcases ZfE (by simpa using h.1) with h1 | h1
   ·obtain⟨a,rfl,hn⟩:=ZfC h1
    rw[Zkv a [] hn];rfl
   ·exact Zkw x h1 (ZfD h.1)
  | cons y r =>
   obtain⟨a,rfl,hn⟩:=ZfC (by simpa using h.1)
   rw[List.flatten_cons,List.append_assoc]
   rw[show a++([10]++(y::r).flatten)=a++10::(y::r).flatten from rfl,Zkv a _ hn,hr]
theorem ZeH {l:List UInt8} {c:UInt8} (h:Lib.indexByte l c<0):Lib.indexByte l c=-1∧∀ x∈l,x≠c:=by
 induction l with
 | nil=>exact⟨rfl,by simp⟩
 | cons b l ih =>
  unfold Lib.indexByte at h ⊢
  by_cases hb:(b == c)=true
  ·rw[if_pos hb] at h;simp at h
  ·rw[if_neg hb] at h ⊢
   by_cases h1:(Lib.indexByte l c == -1)=true
   ·rw[if_pos h1]
    have h2:=ih (by simp at h1;omega)
    refine⟨rfl,?_⟩
    intro x hx
    simp only[List.mem_cons] at hx
    rcases hx with rfl | hx
    ·simpa using hb
    ·exact h2.2 x hx
   ·rw[if_neg h1] at h
    have:=Lib.indexByte_ge l c
    simp at h1
    omega
theorem ZeI {l:List UInt8} {c:UInt8} (h:0≤Lib.indexByte l c):∃ a b,l=a++c::b∧(∀ x∈a,x≠c)∧Lib.indexByte l c=a.length:=by
 induction l with
 | nil=>simp[Lib.indexByte] at h
 | cons d l ih =>
  unfold Lib.indexByte at h ⊢
  by_cases hb:(d == c)=true
  ·have:d=c:=by simpa using hb
   subst this
   rw[if_pos hb]
   exact⟨[],l,rfl,by simp,rfl⟩
  ·rw[if_neg hb] at h ⊢
   by_cases h1:(Lib.indexByte l c == -1)=true
   ·rw[if_pos h1] at h;simp at h
   ·rw[if_neg h1] at h ⊢
    have:=Lib.indexByte_ge l c
    obtain⟨a,b,e1,e2,e3⟩:=ih (by simp at h1;omega)
    refine⟨d::a,b,by rw[e1];rfl,?_,by rw[e3];simp⟩
    intro x hx
    simp only[List.mem_cons] at hx
    rcases hx with rfl | hx
    ·simpa using hb
    ·exact e2 x hx
theorem ZfA {a b:List UInt8} (h:∀ c∈a,c≠10) (last:Bool):lineB (a++10::b) last=b.isEmpty:=by
 induction a with
 | nil =>
  cases b with
  | nil=>simp[lineB]
  | cons d b=>simp[lineB]
 | cons c a ih =>
  have hc:c≠10:=h c (by simp)
  rw[List.cons_append,Zfz _ _ _ (by simp),ih fun x hx=>h x (by simp[hx])]
  simp[hc]
def feedB (s:List UInt8):Bool:=s.getLast? == some 10
def bareL (s:List UInt8):List UInt8:=if feedB s then s.dropLast else s
theorem ZsQ (l:List UInt8) (h:splitL l≠[]):feedB ((splitL l).getLast h)=feedB l:=by
 have hj:=split_join l
 have hr:=split_right l
 generalize splitL l=ws at *
 subst hj
 induction ws with
 | nil=>exact absurd rfl h
 | cons x r ih =>
  simp only[checkB,Bool.and_eq_true] at hr
  cases r with
  | nil=>simp
  | cons y r =>
   have:=ih (by simp) hr.2
   rw[List.getLast_cons (by simp),this]
   have hne:(y::r).flatten≠[]:=by
    simp only[checkB,Bool.and_eq_true] at hr
    have:=ZfD hr.2.1
    simp[this]
   have e:(x::y::r).flatten=x++(y::r).flatten:=List.flatten_cons
   rw[e]
   generalize (y::r).flatten=z at *
   unfold feedB
   rw[List.getLast?_append]
   cases hl:z.getLast? with
   | none=>exact absurd (List.getLast?_eq_none_iff.1 hl) hne
   | some z=>rfl
theorem ZeZ (xs:List (List UInt8)):Lib.join xs []=xs.flatten:=by
 induction xs with
 | nil=>rfl
 | cons x r ih =>
  rw[Lib.join_cons]
  simp[Lib.joinTail]
end

end Go.Proofs.YtcniomgjikienaaGreatDoor.Ln

namespace Go.Proofs.YtcniomgjikienaaGreatDoor

section
open Ln
theorem ZfB (s:List UInt8) (last:Bool):lineB s last=(linB s && (last || fdB s)):=by
 induction s with
 | nil=>rfl
 | cons c t ih =>
  cases t with
  | nil =>
   simp[lineB,linB,fdB]
  | cons d t =>
   have e1:linB (c::d::t)=(c != 10 && linB (d::t)):=by
    simp[linB,List.dropLast]
   have e2:fdB (c::d::t)=fdB (d::t):=by simp[fdB]
   rw[e1,e2,Bool.and_assoc,← ih]
   rfl
end

end Go.Proofs.YtcniomgjikienaaGreatDoor

namespace Go.Proofs.YtcniomgjikienaaGreatDoor.Q

section
def plainI (n:Int):Bool:=decide (32≤n∧n≤126∧n≠34∧n≠92)
theorem Ziv {n:Int} (h:¬ (32≤n∧n≤126∧n≠34∧n≠92)):plainI n=false:=decide_eq_false h
theorem Ziw {n:Int} (h:plainI n=true):32≤n∧n≤126∧n≠34∧n≠92:=of_decide_eq_true h
def hexl:List UInt8:=[48,49,50,51,52,53,54,55,56,57,97,98,99,100,101,102]
def hexc (n:Nat):UInt8:=hexl.getD n 0
theorem ZdY (n:Nat) (h:n<(⟨#[48,49,50,51,52,53,54,55,56,57,97,98,99,100,101,102]⟩:ByteArray).size) :
  (⟨#[48,49,50,51,52,53,54,55,56,57,97,98,99,100,101,102]⟩:ByteArray)[n]=hexc n:=by
 have h':n<16:=h
 have key:∀ i:Fin 16,(#[48,49,50,51,52,53,54,55,56,57,97,98,99,100,101,102]:Array UInt8)[i.val]'(i.isLt)=hexc i.val:=by decide
 exact key ⟨n,h'⟩
theorem Zea (n:Nat) (h:n<([48,49,50,51,52,53,54,55,56,57,97,98,99,100,101,102]:List UInt8).length) :
  ([48,49,50,51,52,53,54,55,56,57,97,98,99,100,101,102]:List UInt8)[n]=hexc n:=by
 have h':n<16:=h
 have key:∀ i:Fin 16,([48,49,50,51,52,53,54,55,56,57,97,98,99,100,101,102]:List UInt8)[i.val]'(i.isLt)=hexc i.val:=by decide
 exact key ⟨n,h'⟩
def q1 (c:UInt8):List UInt8:=if plainI c.toNat then [c] else [92,hexc (c.toNat / 16),hexc (c.toNat % 16)]
def qbody (l:List UInt8):List UInt8:=l.flatMap q1
def quote (l:List UInt8):List UInt8:=[34]++qbody l++[34]
def digitI (n:Int):Int:=if 48≤n∧n≤57 then n-48 else if 97≤n∧n≤102 then n-87 else -1
theorem ZcK (n:Int):-1≤digitI n∧digitI n≤15:=by unfold digitI;split<;>(try split)<;>omega
theorem ZdZ (k:Nat) (h:k<16):(hexc k).toNat=if k<10 then 48+k else 87+k:=by
 have key:∀ i:Fin 16,(hexc i.val).toNat=if i.val<10 then 48+i.val else 87+i.val:=by decide
 exact key ⟨k,h⟩
theorem ZcL (k:Nat) (h:k<16):digitI (hexc k).toNat=k:=by
 rw[ZdZ k h];unfold digitI;split<;>split<;>omega
def pairI (a b:UInt8):Int:=16 * digitI a.toNat+digitI b.toNat
def pairOk (a b:UInt8):Bool:=decide (0≤digitI a.toNat) && decide (0≤digitI b.toNat) && !(plainI (pairI a b))
def pv (a b:UInt8):Int:=if pairOk a b then pairI a b else 0
def pn (a b:UInt8):Int:=if pairOk a b then 3 else 0
theorem ZhW {a b:UInt8} (h:digitI a.toNat<0):pairOk a b=false:=by simp[pairOk];omega
theorem ZhV {a b:UInt8} (h:digitI b.toNat<0):pairOk a b=false:=by simp[pairOk];omega
theorem ZhX {a b:UInt8} (h:¬ digitI a.toNat<0) (h':¬ digitI b.toNat<0):pairOk a b=!plainI (pairI a b):=by simp[pairOk];omega
theorem ZiL {a b:UInt8} (h:pairOk a b=false):0=pv a b:=by simp[pv,h]
theorem Ziz {a b:UInt8} (h:pairOk a b=false):0=pn a b:=by simp[pn,h]
theorem ZiM {a b:UInt8} (h:pairOk a b=true):pairI a b=pv a b:=by simp[pv,h]
theorem ZiA {a b:UInt8} (h:pairOk a b=true):3=pn a b:=by simp[pn,h]
def body:List UInt8→Option (List UInt8 × List UInt8)
 | []=>none
 | c::t =>
  if c.toNat=34 then some ([],t)
  else if plainI c.toNat then (body t).map fun p=>(c::p.1,p.2)
  else if c.toNat=92 then
   match t with
   | a::b::t'=>if pairOk a b then (body t').map fun p=>(UInt8.ofNat (pairI a b).toNat::p.1,p.2) else none
   | _=>none
  else none
def unquote:List UInt8→Option (List UInt8 × List UInt8)
 | []=>none
 | c::t=>if c.toNat=34 then body t else none
theorem ZaF {c:UInt8} (t:List UInt8) (h:c.toNat=34):body (c::t)=some ([],t):=by
 rw[body.eq_def];simp only[h,if_true]
theorem ZaK {c:UInt8} (t:List UInt8) (h:plainI c.toNat=true):body (c::t)=(body t).map fun p=>(c::p.1,p.2):=by
 have h4:=Ziw h
 have h5:¬ c.toNat=34:=by omega
 rw[body.eq_def];simp only[h,h5,if_false,if_true]
theorem ZaI {c a b:UInt8} (t:List UInt8) (h:c.toNat=92) (hk:pairOk a b=true):body (c::a::b::t)=(body t).map fun p=>(UInt8.ofNat (pairI a b).toNat::p.1,p.2):=by
 have h4:plainI c.toNat=false:=Ziv (by omega)
 have h5:¬ c.toNat=34:=by omega
 rw[body.eq_def];simp only[h4,h5,if_false,Bool.false_eq_true,hk,if_true]
 rw[if_pos h]
theorem ZaJ {c a b:UInt8} (t:List UInt8) (h:c.toNat=92) (hk:pairOk a b=false):body (c::a::b::t)=none:=by
 have h4:plainI c.toNat=false:=Ziv (by omega)
 have h5:¬ c.toNat=34:=by omega
 rw[body.eq_def];simp only[h4,h5,if_false,Bool.false_eq_true,hk]
 rw[if_pos h]
theorem ZaH {c:UInt8} (t:List UInt8) (h0:c.toNat≠34) (h:plainI c.toNat=false) (h2:¬ (c.toNat=92∧2≤t.length)):body (c::t)=none:=by
 rw[body.eq_def]
 simp only[h0,h,if_false,Bool.false_eq_true]
 by_cases h3:c.toNat=92
 ·rw[if_pos h3]
  match t with
  | []=>rfl
  | [_]=>rfl
  | a::b::t'=>exact absurd ⟨h3,by simp⟩ h2
 ·rw[if_neg h3]
def uqa (l:List UInt8):List UInt8:=((unquote l).map (·.1)).getD []
def uqb (l:List UInt8):List UInt8:=((unquote l).map (·.2)).getD []
def uqe (l:List UInt8):Int:=if (unquote l).isSome then 0 else 3
theorem uq_none {l:List UInt8} (h:unquote l=none):uqa l=[]∧uqb l=[]∧uqe l=3:=by simp[uqa,uqb,uqe,h]
theorem uq_some {l a b:List UInt8} (h:unquote l=some (a,b)):uqa l=a∧uqb l=b∧uqe l=0:=by simp[uqa,uqb,uqe,h]
theorem ZhU {a b:UInt8} (hk:pairOk a b=true):0≤pairI a b∧pairI a b≤255:=by
 have h1:=ZcK a.toNat
 have h2:=ZcK b.toNat
 simp[pairOk] at hk
 unfold pairI;omega
end

end Go.Proofs.YtcniomgjikienaaGreatDoor.Q

namespace Go.Proofs.YtcniomgjikienaaGreatDoor.Pn

section
def digB (c:UInt8):Bool:=decide (48≤c.toNat∧c.toNat≤57)
theorem ZcJ {c:UInt8} (h:48≤c.toNat∧c.toNat≤57):digB c=true:=decide_eq_true h
theorem digB_out {c:UInt8} (h:digB c=true):48≤c.toNat∧c.toNat≤57:=of_decide_eq_true h
def isNum:List UInt8→Bool
 | []=>false
 | c::t=>!(decide (c.toNat=48) && !t.isEmpty) && (c::t).all digB
def sat:Int→List UInt8→Int
 | n,[]=>n
 | n,c::t=>sat (min (n * 10+((c.toNat:Int)-48)) 2147483648) t
def parseV (l:List UInt8):Int:=if isNum l=true∧sat 0 l≤2147483647 then sat 0 l else 0
def parseE (l:List UInt8):Int:=if isNum l=true then if sat 0 l≤2147483647 then 0 else 2 else 3
theorem ZjR:∀ (l:List UInt8),l.all digB=true→sat 2147483648 l=2147483648
 | [],_=>rfl
 | c::t,h=>by
  simp only[List.all_cons,Bool.and_eq_true] at h
  have h1:=digB_out h.1
  rw[sat]
  have e:min ((2147483648:Int) * 10+((c.toNat:Int)-48)) 2147483648=2147483648:=by omega
  rw[e]
  exact ZjR t h.2
theorem parse_no {l:List UInt8} (h:isNum l=false):0=parseV l∧3=parseE l:=by simp[parseV,parseE,h]
theorem Zib {l:List UInt8} (h:isNum l=true) (h2:sat 0 l=2147483648):0=parseV l∧2=parseE l:=by simp[parseV,parseE,h,h2]
theorem Zic {l:List UInt8} (h:isNum l=true) {n:Int} (h2:sat 0 l=n) (h3:n≤2147483647):n=parseV l∧0=parseE l:=by simp[parseV,parseE,h,h2,h3]
theorem isNum_all {l:List UInt8} (h:isNum l=true):l.all digB=true:=by
 cases l with
 | nil=>simp[isNum] at h
 | cons c t=>rw[isNum,Bool.and_eq_true] at h;exact h.2
theorem Zar {l:List UInt8} (h:l.all digB=true) (k:Nat) (hk:k<l.length):48≤l[k].toNat∧l[k].toNat≤57 :=
 digB_out (List.all_eq_true.1 h _ (List.getElem_mem hk))
theorem Zas {l:List UInt8} (h:l.all digB=true) (k:Nat):(l.drop k).all digB=true :=
 List.all_eq_true.2 fun x hx=>List.all_eq_true.1 h x (List.mem_of_mem_drop hx)
theorem isNum_bad {l:List UInt8} (k:Nat) (hk:k<l.length) (h:¬ (48≤l[k].toNat∧l[k].toNat≤57)):isNum l=false:=by
 cases hn:isNum l
 ·rfl
 ·exact absurd (Zar (isNum_all hn) k hk) h
theorem ZeQ {c d:UInt8} {t:List UInt8} (h:c.toNat=48):isNum (c::d::t)=false:=by simp[isNum,h]
theorem ZeP {c:UInt8} {t:List UInt8} (h:¬ (c.toNat=48∧t≠[])) (ha:∀ k (hk:k<(c::t).length),48≤(c::t)[k].toNat∧(c::t)[k].toNat≤57):isNum (c::t)=true:=by
 rw[isNum,Bool.and_eq_true]
 refine⟨?_,?_⟩
 ·cases t with
  | nil=>simp
  | cons d t=>simp at h ⊢;exact h
 ·refine List.all_eq_true.2 fun x hx=>?_
  obtain⟨k,hk,rfl⟩:=List.mem_iff_getElem.1 hx
  exact ZcJ (ha k hk)
theorem ZjQ {l:List UInt8} {k:Nat} (hk:k<l.length) (n:Int):sat n (l.drop k)=sat (min (n * 10+((l[k].toNat:Int)-48)) 2147483648) (l.drop (k+1)):=by
 rw[List.drop_eq_getElem_cons hk,sat]
end

end Go.Proofs.YtcniomgjikienaaGreatDoor.Pn

namespace Go.Proofs.YtcniomgjikienaaGreatDoor

section
open Q Pn
theorem Zhv (c:UInt8):UInt8.ofNat (pairI (hexc (c.toNat / 16)) (hexc (c.toNat % 16))).toNat=c:=by
 have hc:=c.toNat_lt
 have e:pairI (hexc (c.toNat / 16)) (hexc (c.toNat % 16))=(c.toNat:Int):=by
  unfold pairI
  rw[ZcL _ (by omega),ZcL _ (by omega)]
  omega
 rw[e]
 simp
theorem ZhY {c:UInt8} (h:plainI c.toNat=false):pairOk (hexc (c.toNat / 16)) (hexc (c.toNat % 16))=true:=by
 have hc:=c.toNat_lt
 have e:pairI (hexc (c.toNat / 16)) (hexc (c.toNat % 16))=(c.toNat:Int):=by
  unfold pairI
  rw[ZcL _ (by omega),ZcL _ (by omega)]
  omega
 unfold pairOk
 rw[e,h,ZcL _ (by omega),ZcL _ (by omega)]
 simp
 omega
theorem ZaE (r:List UInt8):∀ l:List UInt8,body (qbody l++34::r)=some (l,r)
 | []=>by simp only[qbody,List.flatMap_nil,List.nil_append];exact ZaF r rfl
 | c::t=>by
  have ih:=ZaE r t
  have e:qbody (c::t)=q1 c++qbody t:=by simp[qbody]
  rw[e]
  cases h:plainI c.toNat
  ·have e2:q1 c=[92,hexc (c.toNat / 16),hexc (c.toNat % 16)]:=by simp[q1,h]
   rw[e2]
   show body (92::hexc (c.toNat / 16)::hexc (c.toNat % 16)::(qbody t++34::r))=_
   rw[ZaI _ rfl (ZhY h),ih,Zhv]
   rfl
  ·have e2:q1 c=[c]:=by simp[q1,h]
   rw[e2]
   show body (c::(qbody t++34::r))=_
   rw[ZaK _ h,ih]
   rfl
theorem ZlD (l r:List UInt8):unquote (quote l++r)=some (l,r):=by
 have e:quote l++r=34::(qbody l++34::r):=by simp[quote]
 rw[e,unquote,if_pos (by decide)]
 exact ZaE r l
end

section
open Ln
def markT:List UInt8:=[92,32,78,111,32,110,101,119,108,105,110,101,32,97,116,32,101,110,100,32,111,102,32,102,105,108,101,10]
def nxt (p:Nat):List (List UInt8)→Except (Nat × Int) (List UInt8 × List (List UInt8))
 | []=>.error (p+1,1)
 | s::r=>if fdB s=true then .ok (s.dropLast,r) else .error (p+1,3)
def pkM:List (List UInt8)→Bool
 | []=>false
 | s::_=>markT.isPrefixOf s
def mkd (sg:List UInt8) (last:Bool) (p:Nat) (ls:List (List UInt8)):Except (Nat × Int) (List UInt8 × Nat × List (List UInt8)) :=
 match nxt p ls with
 | .error e=>.error e
 | .ok (s,r)=>if sg.isPrefixOf s=true then if (last && pkM r)=true then if s.drop sg.length=[] then .error (p+2,3) else .ok (s.drop sg.length,p+2,r.tail) else .ok (s.drop sg.length++[10],p+1,r) else .error (p+1,3)
def rdN (sg:List UInt8) (S:Int):Nat→Nat→List (List UInt8)→Except (Nat × Int) (List Mk × Nat × List (List UInt8))
 | 0,p,ls=>.ok ([],p,ls)
 | n+1,p,ls=>match mkd sg (n == 0) p ls with
  | .error e=>.error e
  | .ok (t,p1,r)=>match rdN sg S n p1 r with
   | .error e=>.error e
   | .ok (l,p2,r2)=>.ok (⟨S,t⟩::l,p2,r2)
def sepP (p:Nat) (ls:List (List UInt8)):Except (Nat × Int) (Nat × List (List UInt8)) :=
 match nxt p ls with
 | .error e=>.error e
 | .ok (s,r)=>if s=[45,45,45] then .ok (p+1,r) else .error (p+1,3)
def spB (q:UInt8→Bool):List UInt8→Option (List UInt8 × UInt8 × List UInt8)
 | []=>none
 | c::t=>if q c=true then some ([],c,t) else match spB q t with
  | none=>none
  | some (a,d,b)=>some (c::a,d,b)
def isC (c:UInt8):Bool:=c == 97 || c == 99 || c == 100
def isK (c:UInt8):Bool:=c == 44
def lnsP (s:List UInt8):Option (Int × Int):=match spB isK s with
 | some (x,_,y)=>if Pn.parseE x=0∧Pn.parseE y=0∧1≤Pn.parseV x∧Pn.parseV x<Pn.parseV y then some (Pn.parseV x,Pn.parseV y-Pn.parseV x+1) else none
 | none=>if Pn.parseE s=0∧1≤Pn.parseV s then some (Pn.parseV s,1) else none
def oneP (s:List UInt8):Option (Int × Int):=if Pn.parseE s=0 then some (Pn.parseV s,0) else none
def cmdP (s:List UInt8):Option (Int × Int × Int × Int):=match spB isC s with
 | none=>none
 | some (x,c,y)=>match (if c=97 then oneP x else lnsP x),(if c=100 then oneP y else lnsP y) with
  | some (A,AN),some (B,BN)=>some (A,AN,B,BN)
  | _,_=>none
def hkP (k p:Nat) (ls:List (List UInt8)):Except (Nat × Int) (Hk × Nat × List (List UInt8)) :=
 match nxt p ls with
 | .error e=>.error e
 | .ok (s,r)=>match cmdP s with
  | none=>.error (p+1,3)
  | some (A,AN,B,BN)=>if 4096≤k then .error (p+1,9) else match rdN [60,32] 45 AN.toNat (p+1) r with
   | .error e=>.error e
   | .ok (l1,p1,r1)=>match (if 0<AN∧0<BN then sepP p1 r1 else .ok (p1,r1)) with
    | .error e=>.error e
    | .ok (p2,r2)=>match rdN [62,32] 43 BN.toNat p2 r2 with
     | .error e=>.error e
     | .ok (l2,p3,r3)=>.ok (⟨A,AN,B,BN,l1++l2⟩,p3,r3)
def hksP:Nat→Nat→Nat→List (List UInt8)→Except (Nat × Int) (List Hk)
 | 0,_,_,_=>.ok []
 | f+1,k,p,ls=>if ls=[] then .ok [] else match hkP k p ls with
  | .error e=>.error e
  | .ok (h,p1,r)=>match hksP f (k+1) p1 r with
   | .error e=>.error e
   | .ok l=>.ok (h::l)
def prsT (t:List UInt8):Except (Nat × Int) (List Hk):=if 1048576<t.length then .error (0,9) else hksP (splitL t).length 0 0 (splitL t)
def ltC (l:List Mk):Nat:=(l.filter fun m=>!fdB m.tx).length
def hkC1 (h:Hk):Nat:=1+h.ls.length+ltC h.ls+(if 0<h.AN∧0<h.BN then 1 else 0)
def hksC:List Hk→Nat
 | []=>0
 | h::l=>hkC1 h+hksC l
theorem Zoq (x y:List Mk):ltC (x++y)=ltC x+ltC y:=by simp[ltC]
def Plain (ls:List (List UInt8)):Prop:=∀ s∈ls,∀ c∈s.dropLast,c≠10
theorem Zde {s:List UInt8} (h:∀ c∈s,c≠10):fdB s=false:=by
 unfold fdB
 cases hq:s.getLast? with
 | none=>rfl
 | some x =>
  have:=h x (List.mem_of_getLast? hq)
  simpa using this
theorem Zdf (s:List UInt8):fdB (s++[10])=true:=by simp[fdB]
theorem Zhp {p:Nat} {ls r:List (List UInt8)} {s:List UInt8} (h:nxt p ls=.ok (s,r)):ls=(s++[10])::r:=by
 cases ls with
 | nil=>cases h
 | cons x r' =>
  simp only[nxt] at h
  split at h
  ·rename_i hf
   cases h
   unfold fdB at hf
   have h1:x.getLast?=some 10:=by simpa using hf
   obtain⟨q,rfl⟩:=List.getLast?_eq_some_iff.1 h1
   simp
  ·cases h
theorem Zgs {sg:List UInt8} {last:Bool} {p p1:Nat} {ls r:List (List UInt8)} {t:List UInt8} (hP:Plain ls) (h:mkd sg last p ls=.ok (t,p1,r)):p1=p+1+(if fdB t=true then 0 else 1)∧ls.length+p=r.length+p1∧Plain r∧(fdB t=false→last=true∧t≠[])∧linB t=true:=by
 unfold mkd at h
 split at h
 ·cases h
 ·rename_i s r0 hn
  have hls:=Zhp hn
  subst hls
  have hs:∀ c∈s,c≠10:=by
   have:=hP (s++[10]) (by simp)
   simpa using this
  have hPr:Plain r0:=fun x hx=>hP x (by simp[hx])
  split at h
  ·split at h
   ·rename_i hl
    split at h
    ·cases h
    ·rename_i hne
     cases h
     have hd:∀ c∈s.drop sg.length,c≠10:=fun c hc=>hs c (List.mem_of_mem_drop hc)
     have hf:=Zde hd
     simp only[Bool.and_eq_true] at hl
     have hlen:r0.tail.length+1=r0.length:=by
      cases r0 with
      | nil=>simp[pkM] at hl
      | cons=>simp
     refine⟨by rw[hf];rfl,by simp only[List.length_cons];omega,fun x hx=>hPr x (List.mem_of_mem_tail hx),fun _=>⟨hl.1,hne⟩,?_⟩
     unfold linB
     have e1:(s.drop sg.length).isEmpty=false:=by
      cases hq:s.drop sg.length with
      | nil=>exact absurd hq hne
      | cons=>rfl
     rw[e1]
     simp only[Bool.not_false,Bool.true_and,List.all_eq_true]
     intro c hc
     have:=hd c ((List.dropLast_sublist _).subset hc)
     simpa using this
   ·cases h
    refine⟨by rw[Zdf];rfl,by simp only[List.length_cons];omega,hPr,fun hq=>(by rw[Zdf] at hq;cases hq),?_⟩
    unfold linB
    simp only[List.dropLast_concat]
    have e1:(s.drop sg.length++[10]).isEmpty=false:=by cases s.drop sg.length<;>rfl
    rw[e1]
    simp only[Bool.not_false,Bool.true_and,List.all_eq_true]
    intro c hc
    have:=hs c (List.mem_of_mem_drop hc)
    simpa using this
  ·cases h
theorem Zho {p:Nat} {ls r:List (List UInt8)} {s:List UInt8} (hP:Plain ls) (h:nxt p ls=.ok (s,r)):ls.length=r.length+1∧Plain r:=by
 have:=Zhp h
 subst this
 exact⟨rfl,fun x hx=>hP x (by simp[hx])⟩
theorem Zjc {sg:List UInt8} {S:Int} (n:Nat):∀ {p p1:Nat} {ls r:List (List UInt8)} {l:List Mk},Plain ls→rdN sg S n p ls=.ok (l,p1,r)→l.length=n∧p1=p+n+ltC l∧ls.length+p=r.length+p1∧Plain r∧(∀ m∈l,m.sg=S∧linB m.tx=true)∧(∀ m∈l.dropLast,fdB m.tx=true):=by
 induction n with
 | zero =>
  intro p p1 ls r l hP h
  simp only[rdN] at h
  cases h
  exact⟨rfl,by simp[ltC],rfl,hP,fun m hm=>(by cases hm),fun m hm=>(by cases hm)⟩
 | succ n ih =>
  intro p p1 ls r l hP h
  simp only[rdN] at h
  split at h
  ·cases h
  ·rename_i t q1 r1 hm
   obtain⟨a1,a2,a3,a4,a5⟩:=Zgs hP hm
   split at h
   ·cases h
   ·rename_i l' q2 r2 hr
    obtain⟨b1,b2,b3,b4,b5,b6⟩:=ih a3 hr
    cases h
    refine⟨by simp[b1],?_,by omega,b4,?_,?_⟩
    ·have e:ltC (⟨S,t⟩::l')=(if fdB t=true then 0 else 1)+ltC l':=by
      cases hf:fdB t<;>simp[ltC,hf]<;>omega
     rw[e]
     omega
    ·intro m hm
     rcases List.mem_cons.1 hm with rfl | hm
     ·exact⟨rfl,a5⟩
     ·exact b5 m hm
    ·intro m hm
     cases l' with
     | nil=>cases hm
     | cons x l' =>
      rw[List.dropLast_cons_cons] at hm
      rcases List.mem_cons.1 hm with rfl | hm
      ·cases hf:fdB t with
       | true=>rfl
       | false =>
        have h1:=(a4 hf).1
        simp only[beq_iff_eq] at h1
        simp only[List.length_cons] at b1
        omega
      ·exact b6 m hm
theorem ZnC {k p p1:Nat} {ls r:List (List UInt8)} {h:Hk} (hP:Plain ls) (hh:hkP k p ls=.ok (h,p1,r)):p1=p+hkC1 h∧ls.length+p=r.length+p1∧Plain r:=by
 unfold hkP at hh
 split at hh
 ·cases hh
 ·rename_i s r0 hn
  obtain⟨a1,a2⟩:=Zho hP hn
  split at hh
  ·cases hh
  ·rename_i A AN B BN hc
   split at hh
   ·cases hh
   ·split at hh
    ·cases hh
    ·rename_i l1 q1 r1 h1
     obtain⟨b1,b2,b3,b4,b5,_⟩:=Zjc _ a2 h1
     split at hh
     ·cases hh
     ·rename_i q2 r2 h2
      have hs:q2=q1+(if 0<AN∧0<BN then 1 else 0)∧r1.length+q1=r2.length+q2∧Plain r2:=(by
       split at h2
       ·rename_i hb
        rw[if_pos hb]
        unfold sepP at h2
        split at h2
        ·cases h2
        ·rename_i s3 r3 hn3
         obtain⟨c1,c2⟩:=Zho b4 hn3
         split at h2
         ·cases h2
          exact⟨rfl,by omega,c2⟩
         ·cases h2
       ·rename_i hb
        rw[if_neg hb]
        cases h2
        exact⟨rfl,rfl,b4⟩)
      split at hh
      ·cases hh
      ·rename_i l2 q3 r3 h3
       obtain⟨d1,d2,d3,d4,d5,_⟩:=Zjc _ hs.2.2 h3
       cases hh
       refine⟨?_,by omega,d4⟩
       have hs1:=hs.1
       simp only[hkC1,List.length_append,Zoq]
       omega
theorem ZnG (f:Nat):∀ {k p:Nat} {ls:List (List UInt8)} {l:List Hk},Plain ls→ls.length≤f→hksP f k p ls=.ok l→hksC l=ls.length:=by
 induction f with
 | zero =>
  intro k p ls l hP hf h
  simp only[hksP] at h
  cases h
  have:ls.length=0:=by omega
  simp[hksC,this]
 | succ f ih =>
  intro k p ls l hP hf h
  simp only[hksP] at h
  split at h
  ·rename_i he
   cases h
   subst he
   rfl
  ·split at h
   ·cases h
   ·rename_i hk q1 r1 h1
    obtain⟨a1,a2,a3⟩:=ZnC hP h1
    have hpos:0<hkC1 hk:=by unfold hkC1;omega
    split at h
    ·cases h
    ·rename_i l' h2
     have:=ih a3 (by omega) h2
     cases h
     simp only[hksC]
     omega
theorem Zkx (t:List UInt8):Plain (splitL t):=by
 have h:=split_right t
 generalize splitL t=L at h
 induction L with
 | nil=>intro s hs;cases hs
 | cons x L ih =>
  simp only[checkB,Bool.and_eq_true] at h
  intro s hs
  rcases List.mem_cons.1 hs with rfl | hs
  ·intro c hc
   have h1:=h.1
   rw[ZfB] at h1
   simp only[Bool.and_eq_true,linB] at h1
   have:=(List.all_eq_true.1 h1.1.2) c hc
   simpa using this
  ·exact ih h.2 s hs
end

section
open Ln
def Rows:List (List UInt8)→Prop
 | []=>True
 | x::r=>linB x=true∧(r≠[]→fdB x=true)∧Rows r
theorem Zdd {x:List UInt8} (h:fdB x=true):x=x.dropLast++[10]:=by
 unfold fdB at h
 have h1:x.getLast?=some 10:=by simpa using h
 obtain⟨q,rfl⟩:=List.getLast?_eq_some_iff.1 h1
 simp
theorem Zsr {ah x:List UInt8} (h:fdB x=true):fdB (ah++x)=true∧(ah++x).dropLast=ah++x.dropLast:=by
 have e:=Zdd h
 rw[e,← List.append_assoc]
 refine⟨Zdf _,?_⟩
 simp
end

section
open Ln
theorem ZjC {a:List (List UInt8)} (h:checkB a=true):Rows a:=by
 induction a with
 | nil=>trivial
 | cons s t ih =>
  simp only[checkB,Bool.and_eq_true] at h
  have h1:=h.1
  rw[ZfB] at h1
  simp only[Bool.and_eq_true,Bool.or_eq_true] at h1
  refine⟨h1.1,fun hne=>?_,ih h.2⟩
  rcases h1.2 with h2 | h2
  ·cases t with
   | nil=>exact absurd rfl hne
   | cons=>cases h2
  ·exact h2
theorem ZjB {a:List (List UInt8)} (h:Rows a):∀ x∈a,linB x=true:=by
 induction a with
 | nil=>intro x hx;cases hx
 | cons s t ih =>
  intro x hx
  rcases List.mem_cons.1 hx with rfl | hx
  ·exact h.1
  ·exact ih h.2.2 x hx
def Fed (ls:List (List UInt8)):Prop:=∀ s∈ls,∃ t,s=t++[10]∧∀ c∈t,c≠10
theorem Zss {ls:List (List UInt8)} (h:Fed ls):checkB ls=true:=by
 induction ls with
 | nil=>rfl
 | cons s r ih =>
  obtain⟨t,e,ht⟩:=h s (by simp)
  simp only[checkB,Bool.and_eq_true]
  refine⟨?_,ih fun x hx=>h x (by simp[hx])⟩
  rw[e]
  exact ZfA ht _
theorem Zpe {t:List UInt8} {l:List Hk} (h:prsT t=.ok l):hksC l=(splitL t).length:=by
 unfold prsT at h
 split at h
 ·cases h
 ·exact ZnG _ (Zkx t) (Nat.le_refl _) h
end

section
open Ln
theorem ZjP:∀ (l:List UInt8) (n:Int),0≤n→l.all Pn.digB=true→0≤Pn.sat n l
 | [],_,hn,_=>hn
 | c::t,n,hn,h=>by
  simp only[List.all_cons,Bool.and_eq_true] at h
  have h1:=Pn.digB_out h.1
  rw[Pn.sat]
  exact ZjP t _ (by omega) h.2
theorem ZiG {s:List UInt8}:0≤Pn.parseV s∧Pn.parseV s≤2147483647:=by
 unfold Pn.parseV
 split
 ·rename_i h
  exact⟨ZjP s 0 (by omega) (Pn.isNum_all h.1),h.2⟩
 ·omega
theorem ZfH {s:List UInt8} {x n:Int} (h:lnsP s=some (x,n)):1≤x∧x≤2147483647∧1≤n∧n≤2147483647:=by
 unfold lnsP at h
 split at h
 ·split at h
  ·rename_i y _ z _ hc
   cases h
   have h1:=@ZiG y
   have h2:=@ZiG z
   omega
  ·cases h
 ·split at h
  ·rename_i hc
   cases h
   have h1:=@ZiG s
   omega
  ·cases h
theorem Zhy {s:List UInt8} {x n:Int} (h:oneP s=some (x,n)):0≤x∧x≤2147483647∧n=0:=by
 unfold oneP at h
 split at h
 ·cases h
  have h1:=@ZiG s
  omega
 ·cases h
theorem ZbI {s:List UInt8} {A AN B BN:Int} (h:cmdP s=some (A,AN,B,BN)):(0≤A∧A≤2147483647∧0≤AN∧AN≤2147483647∧(0<AN→1≤A))∧(0≤B∧B≤2147483647∧0≤BN∧BN≤2147483647∧(0<BN→1≤B))∧(0<AN∨0<BN):=by
 unfold cmdP at h
 split at h
 ·cases h
 ·rename_i x c y _
  split at h
  ·rename_i A' AN' B' BN' h1 h2
   cases h
   by_cases hc:c=97
   ·subst hc
    rw[if_pos rfl] at h1
    rw[if_neg (by decide)] at h2
    have q1:=Zhy h1
    have q2:=ZfH h2
    omega
   ·rw[if_neg hc] at h1
    have q1:=ZfH h1
    by_cases hd:c=100
    ·subst hd
     rw[if_pos rfl] at h2
     have q2:=Zhy h2
     omega
    ·rw[if_neg hd] at h2
     have q2:=ZfH h2
     omega
  ·cases h
end

section
open Ln
structure Pth where
 old:List UInt8
 new:List UInt8
 hs:List Hk
def devN:List UInt8:=[47,100,101,118,47,110,117,108,108]
def nameC (c:UInt8):Bool:=decide (33≤c.toNat∧c.toNat≤126∧c.toNat≠34)
def nameT (s:List UInt8):List UInt8:=if s=[] then devN else if s.all nameC=true∧s≠devN then s else Q.quote s
def unN (s:List UInt8):Option (List UInt8):=if s=devN then some [] else if s.head?=some 34 then (match Q.unquote s with | some (t,[])=>some t | _=>none) else some s
def namedP (s:List UInt8):Option (List UInt8):=match unN s with
 | none=>none
 | some n=>if n.length≤64∧nameT n=s then some n else none
def starsT:List UInt8:=[42,42,42,42,42,42,42,42,42,42,42,42,42,42,42]
def namP (ah:List UInt8) (p:Nat) (ls:List (List UInt8)):Except (Nat × Int) (List UInt8 × List (List UInt8)) :=
 match nxt p ls with
 | .error e=>.error e
 | .ok (s,r)=>if ah.isPrefixOf s=true then match namedP (s.drop 4) with
  | none=>.error (p+1,253)
  | some n=>.ok (n,r) else .error (p+1,3)
def rngI (s:List UInt8):Option (Int × Int):=if Pn.parseE s=0 then some (Pn.parseV s,-1) else lnsP s
def innR (e:UInt8) (s:List UInt8):Option (List UInt8):=if 9≤s.length∧s.take 4=[e,e,e,32]∧s.drop (s.length-5)=[32,e,e,e,e] then some ((s.drop 4).take (s.length-9)) else none
def rngP (e:UInt8) (p:Nat) (ls:List (List UInt8)):Except (Nat × Int) ((Int × Int) × List (List UInt8)) :=
 match nxt p ls with
 | .error x=>.error x
 | .ok (s,r)=>match innR e s with
  | none=>.error (p+1,3)
  | some t=>match rngI t with
   | none=>.error (p+1,3)
   | some q=>.ok (q,r)
def isSd (sg:UInt8):List UInt8→Bool
 | a::b::_=>(a == 32 || a == sg || a == 33) && b == 32
 | _=>false
def rdS (sg:UInt8):Nat→List (List UInt8)→Except (Nat × Int) (List (UInt8 × List UInt8) × Nat × List (List UInt8))
 | p,[]=>.ok ([],p,[])
 | p,s::r=>if isSd sg s=true then if fdB s=true then if pkM r=true∧3<s.length then .ok ([(s.headD 0,(s.drop 2).dropLast)],p+2,r.tail) else match rdS sg (p+1) r with
   | .error e=>.error e
   | .ok (l,p2,r2)=>.ok ((s.headD 0,s.drop 2)::l,p2,r2)
  else .error (p+1,3) else .ok ([],p,s::r)
abbrev Sde:=List (UInt8 × List UInt8)
def keptS (x:Sde):Sde:=x.filter fun y=>y.1 == 32
def sameS (x:Sde):Bool:=x.all fun y=>y.1 == 32
def chgS (x:Sde):Sde:=x.takeWhile fun y=>y.1 != 32
def rstS (x:Sde):Sde:=x.dropWhile fun y=>y.1 != 32
def allS (k:UInt8) (x:Sde):Bool:=x.all fun y=>y.1 == k
def okJ (x y:Sde):Bool:=if x≠[]∧y≠[] then allS 33 x && allS 33 y else allS 45 x && allS 43 y
def mkS (s:Int) (x:Sde):List Mk:=x.map fun y=>⟨s,y.2⟩
def jnS:Nat→Sde→Sde→Option (List Mk)
 | 0,_,_=>none
 | f+1,o,w=>if okJ (chgS o) (chgS w)=true then match rstS o,rstS w with
   | [],[]=>some (mkS 45 (chgS o)++mkS 43 (chgS w))
   | (_,s)::o2,(_,t)::w2=>if s=t then match jnS f o2 w2 with
    | none=>none
    | some l=>some (mkS 45 (chgS o)++(mkS 43 (chgS w)++⟨32,s⟩::l)) else none
   | _,_=>none
  else none
def cntS (n:Int) (x:Sde):Bool:=decide (n<0∧1<x.length∨0≤n∧n≠x.length)
def oldF (o w:Sde):Sde:=if o=[] then keptS w else o
def newF (o w:Sde):Sde:=if o≠[]∧w=[] then keptS o else w
def finH (at0 ato atw:Nat) (po no pw nw:Int) (o w:Sde):Except (Nat × Int) Hk :=
 if sameS o=true∧sameS w=true then .error (at0,50) else
 if cntS no (oldF o w)=true then .error (ato,120) else
 if cntS nw (newF o w)=true then .error (atw,120) else
 if po=0∧oldF o w≠[] then .error (ato,2) else
 if pw=0∧newF o w≠[] then .error (atw,2) else
 match jnS ((oldF o w).length+1) (oldF o w) (newF o w) with
 | none=>.error (at0,190)
 | some l=>.ok ⟨po,(oldF o w).length,pw,(newF o w).length,l⟩
def isSt (s:List UInt8):Bool:=starsT.isPrefixOf s && ((s.drop 15).isEmpty || (s.drop 15).head? == some 32)
def cxH (k p:Nat) (ls:List (List UInt8)):Except (Nat × Int) (Hk × Nat × List (List UInt8)) :=
 match nxt p ls with
 | .error e=>.error e
 | .ok (s,r)=>if isSt s=true then if 4096≤k then .error (p+1,9) else match rngP 42 (p+1) r with
  | .error e=>.error e
  | .ok ((po,no),r1)=>match rdS 45 (p+2) r1 with
   | .error e=>.error e
   | .ok (o,p2,r2)=>match rngP 45 p2 r2 with
    | .error e=>.error e
    | .ok ((pw,nw),r3)=>match rdS 43 (p2+1) r3 with
     | .error e=>.error e
     | .ok (w,p4,r4)=>match finH (p+1) (p+2) (p2+1) po no pw nw o w with
      | .error e=>.error e
      | .ok h=>.ok (h,p4,r4)
  else .error (p+1,3)
def pkS:List (List UInt8)→Bool
 | []=>false
 | s::_=>starsT.isPrefixOf s
def cxHs:Nat→Nat→Nat→List (List UInt8)→Except (Nat × Int) (List Hk × Nat × List (List UInt8))
 | 0,_,p,_=>.error (p+1,1)
 | f+1,k,p,ls=>match cxH k p ls with
  | .error e=>.error e
  | .ok (h,p1,r)=>if pkS r=true then match cxHs f (k+1) p1 r with
    | .error e=>.error e
    | .ok (l,p2,r2)=>.ok (h::l,p2,r2)
   else .ok ([h],p1,r)
def cxPs:Nat→Nat→Nat→List (List UInt8)→Except (Nat × Int) (List Pth)
 | 0,_,_,_=>.ok []
 | f+1,k,p,ls=>if ls=[] then .ok [] else match namP [42,42,42,32] p ls with
  | .error e=>.error e
  | .ok (n1,r1)=>if 64≤k then .error (p+1,9) else match namP [45,45,45,32] (p+1) r1 with
   | .error e=>.error e
   | .ok (n2,r2)=>match cxHs (r2.length+1) 0 (p+2) r2 with
    | .error e=>.error e
    | .ok (hs,p3,r3)=>match cxPs f (k+1) p3 r3 with
     | .error e=>.error e
     | .ok l=>.ok (⟨n1,n2,hs⟩::l)
def cxT (t:List UInt8):Except (Nat × Int) (List Pth):=if 1048576<t.length then .error (0,9) else cxPs (splitL t).length 0 0 (splitL t)
/- names -/
theorem ZiS (s:List UInt8):(Q.quote s).head?=some 34:=by simp[Q.quote]
theorem ZiR (s:List UInt8):Q.quote s≠devN:=by
 intro h
 have:=congrArg List.head? h
 rw[ZiS] at this
 exact absurd this (by decide)
theorem ZgJ (n:List UInt8):unN (nameT n)=some n:=by
 unfold nameT
 split
 ·rename_i h
  subst h
  rfl
 ·split
  ·rename_i h0 h
   unfold unN
   rw[if_neg h.2,if_neg ?_]
   cases n with
   | nil=>exact absurd rfl h0
   | cons c t =>
    intro hq
    simp only[List.head?_cons,Option.some.injEq] at hq
    have:=List.all_eq_true.1 h.1 c (by simp)
    rw[hq] at this
    exact absurd this (by decide)
  ·unfold unN
   rw[if_neg (ZiR n),if_pos (ZiS n)]
   have:=ZlD n []
   rw[List.append_nil] at this
   rw[this]
theorem ZgL (s n:List UInt8):namedP s=some n↔s=nameT n∧n.length≤64:=by
 constructor
 ·intro h
  unfold namedP at h
  split at h
  ·cases h
  ·split at h
   ·rename_i hq
    cases h
    exact⟨hq.2.symm,hq.1⟩
   ·cases h
 ·rintro⟨rfl,h⟩
  unfold namedP
  rw[ZgJ]
  show (if n.length≤64∧nameT n=nameT n then some n else none)=some n
  rw[if_pos ⟨h,rfl⟩]
/- ranges -/
end

section
open Ln
end

section
open Ln
end

section
open Ln
structure Gh (h:Hk):Prop where
 chk:chkH h=0
 nf:Nf false h.ls
 ea:2≤h.AN→h.A+h.AN-1≤2147483647
 eb:2≤h.BN→h.B+h.BN-1≤2147483647
end

section
open Ln
structure Gp (p:Pth):Prop where
 ne:p.hs≠[]
 old:p.old.length≤64
 new:p.new.length≤64
 few:p.hs.length≤4096
 gd:∀ h∈p.hs,Gh h
end

section
open Ln
theorem ZfG {s:List UInt8} {q n:Int} (h:lnsP s=some (q,n)):q+n-1≤2147483647:=by
 unfold lnsP at h
 split at h
 ·rename_i x c y _
  split at h
  ·cases h
   have:=(ZiG (s:=y)).2
   omega
  ·cases h
 ·split at h
  ·cases h
   have:=(ZiG (s:=s)).2
   omega
  ·cases h
theorem Zjy {e:UInt8} {p:Nat} {ls r:List (List UInt8)} {q n:Int} (hP:Plain ls) (h:rngP e p ls=.ok ((q,n),r)):ls.length=r.length+1∧Plain r∧0≤q∧q≤2147483647∧(n=-1∨1≤n∧n≤2147483647∧q+n-1≤2147483647):=by
 unfold rngP at h
 split at h
 ·cases h
 ·rename_i s r0 hn
  obtain⟨a1,a2⟩:=Zho hP hn
  split at h
  ·cases h
  ·rename_i t _
   split at h
   ·cases h
   ·rename_i v hv
    cases h
    unfold rngI at hv
    split at hv
    ·cases hv
     have:=ZiG (s:=t)
     exact⟨a1,a2,this.1,this.2,.inl rfl⟩
    ·have b1:=ZfH hv
     have b2:=ZfG hv
     exact⟨a1,a2,by omega,by omega,.inr ⟨by omega,by omega,b2⟩⟩
theorem ZeV {sg:UInt8} {s:List UInt8} (h:isSd sg s=true) (hf:fdB s=true) (hp:∀ c∈s.dropLast,c≠10):∃ a v,s=a::32::(v++[10])∧(∀ c∈v,c≠10)∧(a=32∨a=sg∨a=33):=by
 cases s with
 | nil=>cases h
 | cons a s =>
  cases s with
  | nil=>cases h
  | cons b u =>
   simp only[isSd,Bool.and_eq_true,Bool.or_eq_true,beq_iff_eq] at h
   obtain⟨ha,rfl⟩:=h
   rcases List.eq_nil_or_concat u with rfl | ⟨v,d,rfl⟩
   ·exact absurd hf (by simp[fdB])
   ·rw[List.concat_eq_append] at hf hp ⊢
    have e:a::32::(v++[d])=(a::32::v)++[d]:=by simp
    rw[e] at hf hp
    have hd:d=10:=by
     unfold fdB at hf
     rw[List.getLast?_concat] at hf
     simpa using hf
    subst hd
    rw[List.dropLast_concat] at hp
    exact⟨a,v,rfl,fun c hc=>hp c (by simp[hc]),by rcases ha with (h | h) | h<;>simp[h]⟩
theorem Zfy {v:List UInt8} (h:∀ c∈v,c≠10):linB (v++[10])=true:=by
 unfold linB
 rw[List.dropLast_concat]
 have e1:(v++[10]).isEmpty=false:=by cases v<;>rfl
 rw[e1]
 simp only[Bool.not_false,Bool.true_and,List.all_eq_true]
 intro c hc
 simpa using h c hc
theorem Zfx {v:List UInt8} (h:∀ c∈v,c≠10) (hn:v≠[]):linB v=true:=by
 unfold linB
 have e1:v.isEmpty=false:=by
  cases v with
  | nil=>exact absurd rfl hn
  | cons=>rfl
 rw[e1]
 simp only[Bool.not_false,Bool.true_and,List.all_eq_true]
 intro c hc
 simpa using h c ((List.dropLast_sublist _).subset hc)
theorem Zjh {sg:UInt8} (ls:List (List UInt8)):∀ {p p1:Nat} {r:List (List UInt8)} {x:Sde},Plain ls→rdS sg p ls=.ok (x,p1,r)→Plain r∧(∀ y∈x,linB y.2=true∧(y.1=32∨y.1=sg∨y.1=33))∧abl (x.map (·.2))=true∧ls.length+p=r.length+p1∧x.length≤ls.length:=by
 induction ls with
 | nil =>
  intro p p1 r x hP h
  simp only[rdS] at h
  cases h
  exact⟨hP,fun y hy=>(by cases hy),rfl,rfl,Nat.le_refl _⟩
 | cons s ls ih =>
  intro p p1 r x hP h
  have hPr:Plain ls:=fun y hy=>hP y (by simp[hy])
  simp only[rdS] at h
  split at h
  ·rename_i hsd
   split at h
   ·rename_i hf
    obtain⟨a,v,rfl,hv,ha⟩:=ZeV hsd hf (hP s (by simp))
    have e1:(a::32::(v++[10])).headD 0=a:=rfl
    have e2:(a::32::(v++[10])).drop 2=v++[10]:=rfl
    rw[e1,e2] at h
    split at h
    ·rename_i hm
     rw[List.dropLast_concat] at h
     cases h
     have hvn:v≠[]:=by
      intro e
      subst e
      exact absurd hm.2 (by simp)
     have hlen:ls.tail.length+1=ls.length:=by
      cases ls with
      | nil=>exact absurd hm.1 (by decide)
      | cons=>simp
     refine⟨fun y hy=>hPr y (List.mem_of_mem_tail hy),?_,rfl,by simp only[List.length_cons];omega,by simp⟩
     intro y hy
     rw[List.mem_singleton.1 hy]
     exact⟨Zfx hv hvn,ha⟩
    ·split at h
     ·cases h
     ·rename_i l p2 r2 hr
      obtain⟨b1,b2,b3,b4,b5⟩:=ih hPr hr
      cases h
      refine⟨b1,?_,?_,by simp only[List.length_cons];omega,by simp only[List.length_cons];omega⟩
      ·intro y hy
       rcases List.mem_cons.1 hy with rfl | hy
       ·exact⟨Zfy hv,ha⟩
       ·exact b2 y hy
      ·simp only[List.map_cons,abl,Zdf,Bool.or_true,Bool.true_and]
       exact b3
   ·cases h
  ·cases h
   exact⟨hP,fun y hy=>(by cases hy),rfl,rfl,by simp⟩
theorem Zge (s:Int) (x:Sde):mkS s x=mks s (x.map (·.2)):=by simp[mkS,mks]
theorem Zgc (s:Int) (x:Sde):AllS s (mkS s x):=by
 intro m hm
 obtain⟨y,_,rfl⟩:=List.mem_map.1 hm
 rfl
theorem ZgT {R:List Mk} (hR:AllS 45 R) {t:List Mk} (ht:Nf false t):Nf false (R++t):=by
 induction R with
 | nil=>exact ht
 | cons m R ih =>
  have hm:=hR m (by simp)
  simp only[List.cons_append,Nf]
  rw[if_pos hm]
  exact⟨trivial,ih fun x hx=>hR x (by simp[hx])⟩
theorem ZjE {x z:Sde} {y:UInt8 × List UInt8} (h:rstS x=y::z):y.1=32:=by
 induction x with
 | nil=>cases h
 | cons a x ih =>
  simp only[rstS,List.dropWhile_cons] at h
  split at h
  ·exact ih h
  ·rename_i hq
   cases h
   simpa using hq
theorem Zbu (x:Sde):chgS x++rstS x=x:=List.takeWhile_append_dropWhile
theorem ZeY (f:Nat):∀ {o w:Sde} {l:List Mk},jnS f o w=some l→Nf false l∧(∀ m∈l,okS m.sg=true)∧pkL 43 l=o.map (·.2)∧pkL 45 l=w.map (·.2)∧((l.all fun m=>decide (m.sg=32))=true→sameS o=true∧sameS w=true):=by
 induction f with
 | zero=>intro o w l h;cases h
 | succ f ih =>
  intro o w l h
  have eo:=Zbu o
  have ew:=Zbu w
  have ok45:∀ m∈mkS 45 (chgS o),okS m.sg=true:=fun m hm=>by rw[Zgc 45 _ m hm];rfl
  have ok43:∀ m∈mkS 43 (chgS w),okS m.sg=true:=fun m hm=>by rw[Zgc 43 _ m hm];rfl
  have p1:pkL 43 (mkS 45 (chgS o))=(chgS o).map (·.2):=by rw[Zge];exact Zij 43 45 (by decide) rfl _
  have p2:pkL 45 (mkS 45 (chgS o))=[]:=by rw[Zge];exact Zik 45 _
  have p3:pkL 43 (mkS 43 (chgS w))=[]:=by rw[Zge];exact Zik 43 _
  have p4:pkL 45 (mkS 43 (chgS w))=(chgS w).map (·.2):=by rw[Zge];exact Zij 45 43 (by decide) rfl _
  have hall:∀ (s:Int) (x:Sde),s≠32→((mkS s x).all fun m=>decide (m.sg=32))=true→x=[]:=by
   intro s x hs hx
   cases x with
   | nil=>rfl
   | cons y x =>
    simp[mkS,hs] at hx
  rw[jnS] at h
  split at h
  ·split at h
   ·rename_i h1 h2
    cases h
    rw[h1,List.append_nil] at eo
    rw[h2,List.append_nil] at ew
    refine⟨ZgT (Zgc _ _) ?_,?_,?_,?_,?_⟩
    ·have:=ZgS (Zgc 43 (chgS w)) [] (fun s=>by simp[Nf]) false
     rw[List.append_nil] at this
     exact this
    ·intro m hm
     rcases List.mem_append.1 hm with hm | hm
     ·exact ok45 m hm
     ·exact ok43 m hm
    ·rw[Zil,p1,p3,List.append_nil,eo]
    ·rw[Zil,p2,p4,List.nil_append,ew]
    ·intro ha
     rw[List.all_append,Bool.and_eq_true] at ha
     have z1:=hall 45 _ (by decide) ha.1
     have z2:=hall 43 _ (by decide) ha.2
     rw[z1] at eo
     rw[z2] at ew
     rw[← eo,← ew]
     exact⟨rfl,rfl⟩
   ·rename_i k1 s o2 k2 t w2 h1 h2
    have hk1:=ZjE h1
    have hk2:=ZjE h2
    rw[h1] at eo
    rw[h2] at ew
    split at h
    ·rename_i hst
     split at h
     ·cases h
     ·rename_i l2 hj
      obtain⟨i1,i2,i3,i4,i5⟩:=ih hj
      cases h
      refine⟨ZgT (Zgc _ _) (ZgS (Zgc _ _) _ (fun b=>by simp only[Nf];exact i1) false),?_,?_,?_,?_⟩
      ·intro m hm
       rcases List.mem_append.1 hm with hm | hm
       ·exact ok45 m hm
       ·rcases List.mem_append.1 hm with hm | hm
        ·exact ok43 m hm
        ·rcases List.mem_cons.1 hm with rfl | hm
         ·rfl
         ·exact i2 m hm
      ·have e3:=congrArg (List.map (·.2)) eo
       rw[List.map_append] at e3
       rw[Zil,Zil,p1,p3,List.nil_append,← e3]
       congr 1
       simp only[pkL,List.map_cons]
       rw[if_pos (by decide),i3]
      ·have e3:=congrArg (List.map (·.2)) ew
       rw[List.map_append] at e3
       rw[Zil,Zil,p2,p4,List.nil_append,← e3]
       congr 1
       simp only[pkL,List.map_cons]
       rw[if_pos (by decide),i4,hst]
      ·intro ha
       rw[List.all_append,List.all_append,List.all_cons,Bool.and_eq_true,Bool.and_eq_true,Bool.and_eq_true] at ha
       have z1:=hall 45 _ (by decide) ha.1
       have z2:=hall 43 _ (by decide) ha.2.1
       obtain⟨j1,j2⟩:=i5 ha.2.2.2
       rw[z1] at eo
       rw[z2] at ew
       rw[← eo,← ew]
       simp only at hk1 hk2
       simp only[sameS,List.nil_append,List.all_cons,Bool.and_eq_true] at j1 j2 ⊢
       exact⟨⟨by rw[hk1];rfl,j1⟩,⟨by rw[hk2];rfl,j2⟩⟩
    ·cases h
   ·cases h
  ·cases h
theorem Zam {x:Sde} (h:abl (x.map (·.2))=true):abl ((keptS x).map (·.2))=true:=by
 induction x with
 | nil=>rfl
 | cons y x ih =>
  simp only[List.map_cons,abl,Bool.and_eq_true,Bool.or_eq_true] at h
  have hi:=ih h.2
  simp only[keptS,List.filter_cons] at hi ⊢
  split
  ·simp only[List.map_cons,abl,Bool.and_eq_true,Bool.or_eq_true]
   refine⟨?_,hi⟩
   rcases h.1 with h1 | h1
   ·have:x=[]:=by simpa using h1
    subst this
    exact .inl rfl
   ·exact .inr h1
  ·exact hi
theorem Zip {no:Int} {l:List Mk} {m:Mk} (hn:m.sg≠no) (ho:okS m.sg=true) (h:m∈l):m.tx∈pkL no l:=by
 induction l with
 | nil=>cases h
 | cons x l ih =>
  simp only[pkL]
  rcases List.mem_cons.1 h with rfl | h
  ·rw[if_pos ⟨hn,ho⟩]
   simp
  ·split
   ·exact List.mem_cons_of_mem _ (ih h)
   ·exact ih h
theorem Zdh {a0 a1 a2:Nat} {po no pw nw:Int} {o w:Sde} {h:Hk} (ho:(∀ y∈o,linB y.2=true)∧abl (o.map (·.2))=true) (hw:(∀ y∈w,linB y.2=true)∧abl (w.map (·.2))=true) (ro:0≤po∧po≤2147483647∧(no=-1∨1≤no∧no≤2147483647∧po+no-1≤2147483647)) (rw':0≤pw∧pw≤2147483647∧(nw=-1∨1≤nw∧nw≤2147483647∧pw+nw-1≤2147483647)) (hf:finH a0 a1 a2 po no pw nw o w=.ok h):Gh h:=by
 unfold finH at hf
 split at hf
 ·cases hf
 ·rename_i c0
  split at hf
  ·cases hf
  ·rename_i c1
   split at hf
   ·cases hf
   ·rename_i c2
    split at hf
    ·cases hf
    ·rename_i c3
     split at hf
     ·cases hf
     ·rename_i c4
      split at hf
      ·cases hf
      ·rename_i l hj
       cases hf
       obtain⟨i1,i2,i3,i4,i5⟩:=ZeY _ hj
       have lo:(∀ y∈oldF o w,linB y.2=true)∧abl ((oldF o w).map (·.2))=true:=by
        unfold oldF
        split
        ·exact⟨fun y hy=>hw.1 y (List.mem_filter.1 hy).1,Zam hw.2⟩
        ·exact ho
       have lw:(∀ y∈newF o w,linB y.2=true)∧abl ((newF o w).map (·.2))=true:=by
        unfold newF
        split
        ·exact⟨fun y hy=>ho.1 y (List.mem_filter.1 hy).1,Zam ho.2⟩
        ·exact hw
       have n1:¬ (no<0∧1<(oldF o w).length∨0≤no∧no≠(oldF o w).length):=by
        intro q
        exact c1 (decide_eq_true q)
       have n2:¬ (nw<0∧1<(newF o w).length∨0≤nw∧nw≠(newF o w).length):=by
        intro q
        exact c2 (decide_eq_true q)
       have z1:po=0→(oldF o w).length=0:=by
        intro q
        cases hq:oldF o w with
        | nil=>rfl
        | cons y x=>exact absurd ⟨q,by rw[hq];simp⟩ c3
       have z2:pw=0→(newF o w).length=0:=by
        intro q
        cases hq:newF o w with
        | nil=>rfl
        | cons y x=>exact absurd ⟨q,by rw[hq];simp⟩ c4
       have hlin:∀ m∈l,linB m.tx=true:=by
        intro m hm
        have hok:=i2 m hm
        have hc:m.sg=32∨m.sg=45∨m.sg=43:=by simp[okS] at hok;omega
        by_cases h43:m.sg=43
        ·have:m.tx∈pkL 45 l:=Zip (by omega) hok hm
         rw[i4] at this
         obtain⟨y,hy,e⟩:=List.mem_map.1 this
         rw[← e]
         exact lw.1 y hy
        ·have:m.tx∈pkL 43 l:=Zip h43 hok hm
         rw[i3] at this
         obtain⟨y,hy,e⟩:=List.mem_map.1 this
         rw[← e]
         exact lo.1 y hy
       have hfld:fldB l=true:=(Zdq l).2 ⟨fun m hm=>⟨hlin m hm,i2 m hm⟩,by rw[i3];exact lo.2,by rw[i4];exact lw.2⟩
       have hrng:rngB ⟨po,(oldF o w).length,pw,(newF o w).length,l⟩=true:=by
        simp only[rngB,nat31,Bool.and_eq_true,Bool.not_eq_true',Bool.and_eq_false_iff,decide_eq_true_eq,decide_eq_false_iff_not]
        omega
       have hall:(l.all fun m=>decide (m.sg=32))=false:=by
        cases hq:l.all fun m=>decide (m.sg=32) with
        | false=>rfl
        | true =>
         exfalso
         obtain⟨j1,j2⟩:=i5 hq
         unfold oldF at j1
         unfold newF at j2
         by_cases e1:o=[]
         ·rw[if_neg (fun q=>q.1 e1)] at j2
          exact c0 ⟨by rw[e1];rfl,j2⟩
         ·rw[if_neg e1] at j1
          by_cases e2:w=[]
          ·exact c0 ⟨j1,by rw[e2];rfl⟩
          ·rw[if_neg (fun q=>e2 q.2)] at j2
           exact c0 ⟨j1,j2⟩
       refine⟨?_,i1,fun q=>?_,fun q=>?_⟩
       ·unfold chkH
        rw[if_neg (by rw[hrng];decide),if_neg (by rw[hfld];decide),if_neg,if_neg (by rw[hall];decide)]
        have a1:((oldL ⟨po,(oldF o w).length,pw,(newF o w).length,l⟩).length:Int)=(oldF o w).length:=by
         unfold oldL
         rw[i3,List.length_map]
        have a2:((newL ⟨po,(oldF o w).length,pw,(newF o w).length,l⟩).length:Int)=(newF o w).length:=by
         unfold newL
         rw[i4,List.length_map]
        rw[a1,a2]
        simp
       ·simp only at q ⊢
        omega
       ·simp only at q ⊢
        omega
end

section
open Ln
theorem Zjg {sg:UInt8} (ls:List (List UInt8)):∀ {p p1:Nat} {r:List (List UInt8)} {x:Sde},rdS sg p ls=.ok (x,p1,r)→r.length≤ls.length:=by
 induction ls with
 | nil =>
  intro p p1 r x h
  simp only[rdS] at h
  cases h
  exact Nat.le_refl _
 | cons s ls ih =>
  intro p p1 r x h
  simp only[rdS] at h
  split at h
  ·split at h
   ·split at h
    ·cases h
     simp only[List.length_tail,List.length_cons]
     omega
    ·split at h
     ·cases h
     ·rename_i hr
      have:=ih hr
      cases h
      simp only[List.length_cons]
      omega
   ·cases h
  ·cases h
   exact Nat.le_refl _
theorem ZcD {k p p1:Nat} {ls r:List (List UInt8)} {h:Hk} (hP:Plain ls) (hh:cxH k p ls=.ok (h,p1,r)):Gh h∧Plain r∧ls.length+p=r.length+p1∧r.length<ls.length∧k<4096:=by
 unfold cxH at hh
 split at hh
 ·cases hh
 ·rename_i s r0 hn
  obtain⟨a1,a2⟩:=Zho hP hn
  split at hh
  ·split at hh
   ·cases hh
   ·rename_i hk
    split at hh
    ·cases hh
    ·rename_i po no r1 h1
     obtain⟨b1,b2,b3,b4,b5⟩:=Zjy a2 h1
     split at hh
     ·cases hh
     ·rename_i o p2 r2 h2
      obtain⟨c1,c2,c3,c4,_⟩:=Zjh _ b2 h2
      split at hh
      ·cases hh
      ·rename_i pw nw r3 h3
       obtain⟨d1,d2,d3,d4,d5⟩:=Zjy c1 h3
       split at hh
       ·cases hh
       ·rename_i w p4 r4 h4
        obtain⟨e1,e2,e3,e4,_⟩:=Zjh _ d2 h4
        split at hh
        ·cases hh
        ·rename_i h5 hf
         cases hh
         have hle:r.length+p1=r3.length+(p2+1):=by omega
         refine⟨Zdh ⟨fun y hy=>(c2 y hy).1,c3⟩ ⟨fun y hy=>(e2 y hy).1,e3⟩ ⟨b3,b4,b5⟩ ⟨d3,d4,d5⟩ hf,e1,by omega,?_,by omega⟩
         have g1:=Zjg _ h2
         have g2:=Zjg _ h4
         omega
  ·cases hh
theorem ZcF (f:Nat):∀ {k p p1:Nat} {ls r:List (List UInt8)} {hs:List Hk},Plain ls→cxHs f k p ls=.ok (hs,p1,r)→hs≠[]∧(∀ h∈hs,Gh h)∧k+hs.length≤4096∧Plain r∧ls.length+p=r.length+p1∧r.length<ls.length:=by
 induction f with
 | zero=>intro k p p1 ls r hs _ h;cases h
 | succ f ih =>
  intro k p p1 ls r hs hP h
  simp only[cxHs] at h
  split at h
  ·cases h
  ·rename_i h0 q1 r1 h1
   obtain⟨a1,a2,a3,a4,a5⟩:=ZcD hP h1
   split at h
   ·split at h
    ·cases h
    ·rename_i l q2 r2 h2
     obtain⟨b1,b2,b3,b4,b5,b6⟩:=ih a2 h2
     cases h
     refine⟨by simp,?_,by simp only[List.length_cons];omega,b4,by omega,by omega⟩
     intro x hx
     rcases List.mem_cons.1 hx with rfl | hx
     ·exact a1
     ·exact b2 x hx
   ·cases h
    refine⟨by simp,?_,by simp only[List.length_cons,List.length_nil];omega,a2,a3,a4⟩
    intro x hx
    rw[List.mem_singleton.1 hx]
    exact a1
theorem ZgH {ah n:List UInt8} {p:Nat} {ls r:List (List UInt8)} (hP:Plain ls) (h:namP ah p ls=.ok (n,r)):n.length≤64∧ls.length=r.length+1∧Plain r:=by
 unfold namP at h
 split at h
 ·cases h
 ·rename_i s r0 hn
  obtain⟨a1,a2⟩:=Zho hP hn
  split at h
  ·split at h
   ·cases h
   ·rename_i m hm
    cases h
    exact⟨((ZgL _ _).1 hm).2,a1,a2⟩
  ·cases h
theorem ZmS (f:Nat):∀ {k p:Nat} {ls:List (List UInt8)} {L:List Pth},Plain ls→cxPs f k p ls=.ok L→(∀ q∈L,Gp q)∧(k+L.length≤64∨L=[]):=by
 induction f with
 | zero =>
  intro k p ls L _ h
  simp only[cxPs] at h
  cases h
  exact⟨fun q hq=>(by cases hq),.inr rfl⟩
 | succ f ih =>
  intro k p ls L hP h
  simp only[cxPs] at h
  split at h
  ·cases h
   exact⟨fun q hq=>(by cases hq),.inr rfl⟩
  ·split at h
   ·cases h
   ·rename_i n1 r1 h1
    obtain⟨a1,a2,a3⟩:=ZgH hP h1
    split at h
    ·cases h
    ·rename_i hk
     split at h
     ·cases h
     ·rename_i n2 r2 h2
      obtain⟨b1,b2,b3⟩:=ZgH a3 h2
      split at h
      ·cases h
      ·rename_i hs p3 r3 h3
       obtain⟨c1,c2,c3,c4,c5,c6⟩:=ZcF _ b3 h3
       split at h
       ·cases h
       ·rename_i l h4
        obtain⟨d1,d2⟩:=ih c4 h4
        cases h
        refine⟨?_,.inl ?_⟩
        ·intro q hq
         rcases List.mem_cons.1 hq with rfl | hq
         ·exact⟨c1,a1,b1,by show hs.length≤4096;omega,c2⟩
         ·exact d1 q hq
        ·rcases d2 with d2 | rfl
         ·simp only[List.length_cons]
          omega
         ·simp only[List.length_cons,List.length_nil]
          omega
theorem ZmM {t:List UInt8} {L:List Pth} (h:cxT t=.ok L):(∀ q∈L,Gp q)∧L.length≤64:=by
 unfold cxT at h
 split at h
 ·cases h
 ·obtain⟨a1,a2⟩:=ZmS _ (Zkx t) h
  refine⟨a1,?_⟩
  rcases a2 with a2 | rfl
  ·omega
  ·exact Nat.zero_le _
end

section
open Ln
def cutS (x:List UInt8):List UInt8→Option (List UInt8 × List UInt8)
 | []=>if x.isPrefixOf []=true then some ([],[]) else none
 | c::t=>if x.isPrefixOf (c::t)=true then some ([],(c::t).drop x.length) else match cutS x t with
  | none=>none
  | some (a,b)=>some (c::a,b)
def cntP (s:List UInt8):Option (Int × Int):=match spB isK s with
 | some (x,_,y)=>if Pn.parseE x=0∧Pn.parseE y=0 then some (Pn.parseV x,Pn.parseV y) else none
 | none=>if Pn.parseE s=0 then some (Pn.parseV s,1) else none
def tlB:List UInt8→Bool
 | []=>true
 | c::_=>c == 32
def uhdP (s:List UInt8):Option (Int × Int × Int × Int) :=
 if ([64,64,32,45]:List UInt8).isPrefixOf s=true then match cutS [32,43] (s.drop 4) with
  | none=>none
  | some (o,r)=>match cutS [32,64,64] r with
   | none=>none
   | some (f,t)=>if tlB t=true then match cntP o,cntP f with
    | some (A,AN),some (B,BN)=>some (A,AN,B,BN)
    | _,_=>none else none
 else none
def tkO (c:UInt8):Nat:=if c=43 then 0 else 1
def tkN (c:UInt8):Nat:=if c=45 then 0 else 1
def okC (c:UInt8):Bool:=c == 32 || c == 45 || c == 43
def uendB (c:UInt8) (a b:Nat):Bool:=(c == 43 || a == 0) && (c == 45 || b == 0)
def ulnP (a b p:Nat) (ls:List (List UInt8)):Except (Nat × Int) (Mk × Nat × List (List UInt8)) :=
 match nxt p ls with
 | .error e=>.error e
 | .ok ([],_)=>.error (p+1,3)
 | .ok (c::t,r)=>if okC c=true∧tkO c≤a∧tkN c≤b then
   if uendB c (a-tkO c) (b-tkN c)=true∧t≠[]∧pkM r=true then .ok (⟨c.toNat,t⟩,p+2,r.tail) else .ok (⟨c.toNat,t++[10]⟩,p+1,r)
  else .error (p+1,3)
def sgO (m:Mk):Nat:=if m.sg=43 then 0 else 1
def sgN (m:Mk):Nat:=if m.sg=45 then 0 else 1
def urdP:Nat→Nat→Nat→Nat→List (List UInt8)→Except (Nat × Int) (List Mk × Nat × List (List UInt8))
 | 0,_,_,p,ls=>.ok ([],p,ls)
 | n+1,a,b,p,ls=>if a+b=0 then .ok ([],p,ls) else match ulnP a b p ls with
  | .error e=>.error e
  | .ok (m,p1,r)=>match urdP n (a-sgO m) (b-sgN m) p1 r with
   | .error e=>.error e
   | .ok (l,p2,r2)=>.ok (m::l,p2,r2)
def smB (l:List Mk):Bool:=l.all fun m=>decide (m.sg=32)
def uhkP (k p:Nat) (ls:List (List UInt8)):Except (Nat × Int) (Hk × Nat × List (List UInt8)) :=
 match nxt p ls with
 | .error e=>.error e
 | .ok (s,r)=>match uhdP s with
  | none=>.error (p+1,3)
  | some (A,AN,B,BN)=>if 4096≤k then .error (p+1,9) else if A=0∧0<AN∨B=0∧0<BN then .error (p+1,2) else
   match urdP (AN.toNat+BN.toNat) AN.toNat BN.toNat (p+1) r with
   | .error e=>.error e
   | .ok (l,p1,r1)=>if smB l=true then .error (p+1,50) else .ok (⟨A,AN,B,BN,l⟩,p1,r1)
def pkU (x:List UInt8):List (List UInt8)→Bool
 | []=>false
 | s::_=>x.isPrefixOf s
def uhsP (x:List UInt8):Nat→Nat→Nat→List (List UInt8)→Except (Nat × Int) (List Hk × Nat × List (List UInt8))
 | 0,_,p,_=>.error (p+1,1)
 | f+1,k,p,ls=>match uhkP k p ls with
  | .error e=>.error e
  | .ok (h,p1,r)=>if pkU x r=true then match uhsP x f (k+1) p1 r with
    | .error e=>.error e
    | .ok (l,p2,r2)=>.ok (h::l,p2,r2)
   else .ok ([h],p1,r)
def upsP (x:List UInt8):Nat→Nat→Nat→List (List UInt8)→Except (Nat × Int) (List Pth)
 | 0,_,_,_=>.ok []
 | f+1,k,p,ls=>if ls=[] then .ok [] else match namP [45,45,45,32] p ls with
  | .error e=>.error e
  | .ok (n1,r1)=>if 64≤k then .error (p+1,9) else match namP [43,43,43,32] (p+1) r1 with
   | .error e=>.error e
   | .ok (n2,r2)=>match uhsP x (r2.length+1) 0 (p+2) r2 with
    | .error e=>.error e
    | .ok (hs,p3,r3)=>match upsP x f (k+1) p3 r3 with
     | .error e=>.error e
     | .ok l=>.ok (⟨n1,n2,hs⟩::l)
def unT (x t:List UInt8):Except (Nat × Int) (List Pth):=if 1048576<t.length then .error (0,9) else upsP x (splitL t).length 0 0 (splitL t)
def atC:List UInt8:=[64,64,32,45]
end

section
open Ln
theorem Ziq {m:Mk} (h:okS m.sg=true) (l:List Mk):(pkL 43 (m::l)).length=sgO m+(pkL 43 l).length:=by
 unfold sgO
 simp only[pkL]
 by_cases e:m.sg=43
 ·rw[if_neg (fun q=>q.1 e),if_pos e]
  omega
 ·rw[if_pos ⟨e,h⟩,if_neg e,List.length_cons]
  omega
theorem Zir {m:Mk} (h:okS m.sg=true) (l:List Mk):(pkL 45 (m::l)).length=sgN m+(pkL 45 l).length:=by
 unfold sgN
 simp only[pkL]
 by_cases e:m.sg=45
 ·rw[if_neg (fun q=>q.1 e),if_pos e]
  omega
 ·rw[if_pos ⟨e,h⟩,if_neg e,List.length_cons]
  omega
structure Gu (p:Pth):Prop where
 ne:p.hs≠[]
 old:p.old.length≤64
 new:p.new.length≤64
 few:p.hs.length≤4096
 gd:∀ h∈p.hs,chkH h=0
end

end Go.Proofs.YtcniomgjikienaaGreatDoor
