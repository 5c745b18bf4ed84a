/-
  Texts that belong together, joined: CnShelf, CnMath, Kit, CnByte, CnTab.
-/
import Derived.Shelf.Strings.Repeat
import Derived.Shelf.Strings.SlTrimAscii
import Derived.Shelf.Strings.Trim
import Derived.Shelf.Strings.BuilderK
import Derived.Shelf.Small.Strs
import Derived.Shelf.Small.Wraps
import Derived.Test.YtcniomgjikienaaGreatDoorProg
import Derived.Lib.SlTrimSet
import Derived.Lib.Repeat
import Derived.Lib.FrozenHead2
import Derived.Lib.OthersKept
import Derived.Laws.IdiomStrings
import Derived.Deep.RegionLaw
import Derived.WalkKit
import Derived.WalkSmall
import Derived.WalkSpells
import Derived.WalkLawsBesides
import Derived.Deep.QuietTactic
import Derived.BigQuiet
import Derived.Test.YtcniomgjikienaaGreatDoorRows

set_option maxHeartbeats 16000000
set_option maxRecDepth 100000
/- Contracts of the library at this program: the program bears the bodies that they speak of. Taken: strings_Repeat, strings_IndexByte, strings_CutSuffix, Builder_String_any_k, Builder_Len_f, strings_TrimRight_one. -/
theorem Go.fk {α:Type _} {x:Option α} {a b:α} (h:x=some a) (e:a=b:=by kernel_rfl):x=some b:=h.trans (congrArg some e)
namespace Go.Proofs
open Go.Shelf
def Tryz.lays170_ren : Go.Shelf.Ren := ⟨fun | 170 => 331 | n => n, fun | 70 => 82 | 3 => 3 | 0 => 0 | 72 => 85 | 37 => 83 | 5 => 5 | n => n, fun | n => n⟩
theorem Tryz.lays170 : Go.Proofs.Lays.n170 Tryz.prog Tryz.lays170_ren := {
  mixed := by kernel_rfl
  f170 := Go.fk Tryz.func331
  t0 := Tryz.underlying0
  a0 := Tryz.isAgg0
  z0 := Tryz.sizeOf0
  v0 := Tryz.zeroValue0
  t3 := Tryz.underlying3
  a3 := Tryz.isAgg3
  z3 := Tryz.sizeOf3
  v3 := Tryz.zeroValue3
  t37 := Tryz.underlying83
  a37 := Tryz.isAgg83
  z37 := Tryz.sizeOf83
  v37 := Tryz.zeroValue83
  t70 := Tryz.underlying82
  a70 := Tryz.isAgg82
  z70 := Tryz.sizeOf82
  v70 := Tryz.zeroValue82
  t72 := Tryz.underlying85
  a72 := Tryz.isAgg85
  z72 := Tryz.sizeOf85
  v72 := Tryz.zeroValue85 }
def Tryz.lays169_ren : Go.Shelf.Ren := ⟨fun | 169 => 40 | n => n, fun | 70 => 82 | 9 => 9 | 0 => 0 | 72 => 85 | 37 => 83 | 127 => 128 | 3 => 3 | 5 => 5 | n => n, fun | n => n⟩
theorem Tryz.lays169 : Go.Proofs.Lays.n169 Tryz.prog Tryz.lays169_ren := {
  mixed := by kernel_rfl
  f169 := Go.fk Tryz.func40
  t0 := Tryz.underlying0
  a0 := Tryz.isAgg0
  z0 := Tryz.sizeOf0
  v0 := Tryz.zeroValue0
  t3 := Tryz.underlying3
  a3 := Tryz.isAgg3
  z3 := Tryz.sizeOf3
  v3 := Tryz.zeroValue3
  t9 := Tryz.underlying9
  a9 := Tryz.isAgg9
  z9 := Tryz.sizeOf9
  v9 := Tryz.zeroValue9
  t37 := Tryz.underlying83
  a37 := Tryz.isAgg83
  z37 := Tryz.sizeOf83
  v37 := Tryz.zeroValue83
  t70 := Tryz.underlying82
  a70 := Tryz.isAgg82
  z70 := Tryz.sizeOf82
  v70 := Tryz.zeroValue82
  t72 := Tryz.underlying85
  a72 := Tryz.isAgg85
  z72 := Tryz.sizeOf85
  v72 := Tryz.zeroValue85
  t127 := Tryz.underlying128
  a127 := Tryz.isAgg128
  z127 := Tryz.sizeOf128
  v127 := Tryz.zeroValue128 }
theorem Tryz.Builder_Extra_169 : Builder.Extra Tryz.prog Tryz.lays169_ren := {
  sizeBuilder := by kernel_rfl
  liesBuilder := by kernel_rfl
  t5 := Tryz.underlying5
  a5 := Tryz.isAgg5
  z5 := Tryz.sizeOf5
  v5 := Tryz.zeroValue5
  infoByte := by kernel_rfl
  cellsByte := by kernel_rfl
  sizeByte := by kernel_rfl
  neB5 := by decide }
def Tryz.lays162_ren : Go.Shelf.Ren := ⟨fun | 162 => 333 | 232 => 348 | 227 => 349 | 234 => 350 | 236 => 351 | 228 => 356 | 271 => 358 | 151 => 359 | 120 => 366 | 197 => 367 | 152 => 354 | 260 => 373 | 137 => 347 | 119 => 364 | 224 => 133 | 225 => 132 | 217 => 131 | 266 => 165 | n => n, fun | 9 => 9 | 4 => 4 | 3 => 3 | 5 => 5 | 117 => 371 | 116 => 370 | 0 => 0 | 124 => 374 | 21 => 21 | 105 => 378 | 46 => 203 | 119 => 392 | 139 => 395 | 138 => 394 | n => n, fun | 3 => 3 | 4 => 4 | n => n⟩
theorem Tryz.lays162 : Go.Proofs.Lays.n162 Tryz.prog Tryz.lays162_ren := {
  mixed := by kernel_rfl
  f119 := Go.fk Tryz.func364
  f120 := Go.fk Tryz.func366
  f137 := Go.fk Tryz.func347
  f151 := Go.fk Tryz.func359
  f152 := Go.fk Tryz.func354
  f162 := Go.fk Tryz.func333
  f197 := Go.fk Tryz.func367
  f217 := Go.fk Tryz.func131
  f224 := Go.fk Tryz.func133
  f225 := Go.fk Tryz.func132
  f227 := Go.fk Tryz.func349
  f228 := Go.fk Tryz.func356
  f232 := Go.fk Tryz.func348
  f234 := Go.fk Tryz.func350
  f236 := Go.fk Tryz.func351
  f260 := Go.fk Tryz.func373
  f266 := Go.fk Tryz.func165
  f271 := Go.fk Tryz.func358
  t0 := Tryz.underlying0
  a0 := Tryz.isAgg0
  z0 := Tryz.sizeOf0
  v0 := Tryz.zeroValue0
  t3 := Tryz.underlying3
  a3 := Tryz.isAgg3
  z3 := Tryz.sizeOf3
  v3 := Tryz.zeroValue3
  t4 := Tryz.underlying4
  a4 := Tryz.isAgg4
  z4 := Tryz.sizeOf4
  v4 := Tryz.zeroValue4
  t5 := Tryz.underlying5
  a5 := Tryz.isAgg5
  z5 := Tryz.sizeOf5
  v5 := Tryz.zeroValue5
  t9 := Tryz.underlying9
  a9 := Tryz.isAgg9
  z9 := Tryz.sizeOf9
  v9 := Tryz.zeroValue9
  t21 := Tryz.underlying21
  a21 := Tryz.isAgg21
  z21 := Tryz.sizeOf21
  v21 := Tryz.zeroValue21
  t46 := Tryz.underlying203
  a46 := Tryz.isAgg203
  z46 := Tryz.sizeOf203
  v46 := Tryz.zeroValue203
  t105 := Tryz.underlying378
  a105 := Tryz.isAgg378
  z105 := Tryz.sizeOf378
  v105 := Tryz.zeroValue378
  t116 := Tryz.underlying370
  a116 := Tryz.isAgg370
  z116 := Tryz.sizeOf370
  t117 := Tryz.underlying371
  a117 := Tryz.isAgg371
  z117 := Tryz.sizeOf371
  v117 := Tryz.zeroValue371
  t119 := Tryz.underlying392
  a119 := Tryz.isAgg392
  z119 := Tryz.sizeOf392
  t124 := Tryz.underlying374
  a124 := Tryz.isAgg374
  z124 := Tryz.sizeOf374
  v124 := Tryz.zeroValue374
  t138 := Tryz.underlying394
  a138 := Tryz.isAgg394
  z138 := Tryz.sizeOf394
  v138 := Tryz.zeroValue394
  t139 := Tryz.underlying395
  a139 := Tryz.isAgg395
  z139 := Tryz.sizeOf395
  v139 := Tryz.zeroValue395
  g3 := by kernel_rfl
  g4 := by kernel_rfl }
open Go.RowKit in
theorem Tryz.strings_TrimRight_one (s : ByteArray) (c : UInt8) (hc : c.toNat < 128) (w : World) (hs : s.size ≤ 9223372036854775807) :
    Calls Tryz.prog 333 #[.string s, .string ⟨#[c]⟩] w fun e w' => e = .returned (.string ⟨(Lib.trimRightB s.data.toList c).toArray⟩) ∧ w' = w := Any.strings_TrimRight_one Tryz.lays162 s c hc w hs
def Tryz.lays137_ren : Go.Shelf.Ren := ⟨fun | 137 => 347 | 217 => 131 | 266 => 165 | n => n, fun | 9 => 9 | 5 => 5 | 3 => 3 | n => n, fun | n => n⟩
theorem Tryz.lays137 : Go.Proofs.Lays.n137 Tryz.prog Tryz.lays137_ren := {
  mixed := by kernel_rfl
  f137 := Go.fk Tryz.func347
  f217 := Go.fk Tryz.func131
  f266 := Go.fk Tryz.func165
  t3 := Tryz.underlying3
  a3 := Tryz.isAgg3
  z3 := Tryz.sizeOf3
  v3 := Tryz.zeroValue3
  t5 := Tryz.underlying5
  a5 := Tryz.isAgg5
  z5 := Tryz.sizeOf5
  v5 := Tryz.zeroValue5
  t9 := Tryz.underlying9
  a9 := Tryz.isAgg9
  z9 := Tryz.sizeOf9
  v9 := Tryz.zeroValue9 }
open Go.RowKit in
theorem Tryz.strings_IndexByte (s : ByteArray) (c : Int) (w : World) :
    Calls Tryz.prog 347 #[.string s, .int .u8 c] w fun e w' => e = .returned (.int .i64 (Lib.indexByte s.data.toList c.toNat.toUInt8)) ∧ w' = w := Any.strings_IndexByte Tryz.lays137 s c w
def Tryz.lays104_ren : Go.Shelf.Ren := ⟨fun | 104 => 50 | 211 => 93 | 207 => 135 | n => n, fun | 9 => 9 | 4 => 4 | 24 => 57 | 3 => 3 | n => n, fun | n => n⟩
theorem Tryz.lays104 : Go.Proofs.Lays.n104 Tryz.prog Tryz.lays104_ren := {
  mixed := by kernel_rfl
  f104 := Go.fk Tryz.func50
  f207 := Go.fk Tryz.func135
  f211 := Go.fk Tryz.func93
  t3 := Tryz.underlying3
  a3 := Tryz.isAgg3
  z3 := Tryz.sizeOf3
  v3 := Tryz.zeroValue3
  t4 := Tryz.underlying4
  a4 := Tryz.isAgg4
  z4 := Tryz.sizeOf4
  v4 := Tryz.zeroValue4
  t9 := Tryz.underlying9
  a9 := Tryz.isAgg9
  z9 := Tryz.sizeOf9
  v9 := Tryz.zeroValue9
  t24 := Tryz.underlying57
  a24 := Tryz.isAgg57
  z24 := Tryz.sizeOf57
  v24 := Tryz.zeroValue57 }
open Go.RowKit in
theorem Tryz.strings_CutSuffix (s p : ByteArray) (w : World) (hs : s.size ≤ 9223372036854775807) :
    Calls Tryz.prog 50 #[.string s, .string p] w fun e w' => e = .returned (.tuple #[.string ⟨(Lib.trimSuffix s.data.toList p.data.toList).toArray⟩, .bool (Lib.hasSuffix s.data.toList p.data.toList)]) ∧ w' = w := Any.strings_CutSuffix Tryz.lays104 s p w hs
open Go.RowKit in
theorem Tryz.Builder_Len_f (B b : Nat) (bs : List Value) (w : World) (h : Lib.IsBuilderF 85 5 B b bs w) :
    Calls Tryz.prog 331 #[.pointer (some ⟨b, 0, none⟩)] w fun e w' => e = .returned (.int .i64 bs.length) ∧ w' = w := Any.Builder_Len_f Tryz.lays170 B b bs w h
open Go.RowKit in
theorem Tryz.Builder_String_any_k (B b : Nat) (l : List UInt8) (w : World) (h : Lib.IsBuilderF 85 5 B b (Lib.byteCells l) w) (hBw : B ≤ w.heap.size) :
    Calls Tryz.prog 40 #[.pointer (some ⟨b, 0, none⟩)] w fun e w' => e = .returned (.string ⟨l.toArray⟩) ∧ (Lib.IsBuilderF 85 5 B b (Lib.byteCells l) w' ∧ Below B w w' ∧ Lib.OthersKept 5 (some b) w w') := Any.Builder_String_any_k Tryz.lays169 Tryz.Builder_Extra_169 B b l w h hBw
def Tryz.lays105_ren : Go.Shelf.Ren := ⟨fun | 105 => 330 | 212 => 273 | 99 => 139 | 165 => 94 | 166 => 39 | 170 => 331 | 169 => 40 | 263 => 321 | 264 => 322 | 206 => 168 | 240 => 72 | 241 => 136 | 276 => 114 | 277 => 167 | n => n, fun | 9 => 9 | 3 => 3 | 4 => 4 | 20 => 20 | 0 => 0 | 46 => 203 | 109 => 320 | 5 => 5 | 72 => 85 | 76 => 86 | 51 => 224 | 146 => 225 | 53 => 51 | 148 => 355 | 70 => 82 | 37 => 83 | 75 => 24 | 127 => 128 | 164 => 105 | 80 => 88 | n => n, fun | n => n⟩
theorem Tryz.lays105 : Go.Proofs.Lays.n105 Tryz.prog Tryz.lays105_ren := {
  mixed := by kernel_rfl
  f99 := Go.fk Tryz.func139
  f105 := Go.fk Tryz.func330
  f165 := Go.fk Tryz.func94
  f166 := Go.fk Tryz.func39
  f169 := Go.fk Tryz.func40
  f170 := Go.fk Tryz.func331
  f206 := Go.fk Tryz.func168
  f212 := Go.fk Tryz.func273
  f240 := Go.fk Tryz.func72
  f241 := Go.fk Tryz.func136
  f263 := Go.fk Tryz.func321
  f264 := Go.fk Tryz.func322
  f276 := Go.fk Tryz.func114
  f277 := Go.fk Tryz.func167
  t0 := Tryz.underlying0
  a0 := Tryz.isAgg0
  z0 := Tryz.sizeOf0
  v0 := Tryz.zeroValue0
  t3 := Tryz.underlying3
  a3 := Tryz.isAgg3
  z3 := Tryz.sizeOf3
  v3 := Tryz.zeroValue3
  t4 := Tryz.underlying4
  a4 := Tryz.isAgg4
  z4 := Tryz.sizeOf4
  v4 := Tryz.zeroValue4
  t5 := Tryz.underlying5
  a5 := Tryz.isAgg5
  z5 := Tryz.sizeOf5
  v5 := Tryz.zeroValue5
  t9 := Tryz.underlying9
  a9 := Tryz.isAgg9
  z9 := Tryz.sizeOf9
  v9 := Tryz.zeroValue9
  t20 := Tryz.underlying20
  a20 := Tryz.isAgg20
  z20 := Tryz.sizeOf20
  v20 := Tryz.zeroValue20
  t37 := Tryz.underlying83
  a37 := Tryz.isAgg83
  z37 := Tryz.sizeOf83
  v37 := Tryz.zeroValue83
  t46 := Tryz.underlying203
  a46 := Tryz.isAgg203
  z46 := Tryz.sizeOf203
  v46 := Tryz.zeroValue203
  t51 := Tryz.underlying224
  a51 := Tryz.isAgg224
  z51 := Tryz.sizeOf224
  v51 := Tryz.zeroValue224
  t53 := Tryz.underlying51
  a53 := Tryz.isAgg51
  z53 := Tryz.sizeOf51
  v53 := Tryz.zeroValue51
  t70 := Tryz.underlying82
  a70 := Tryz.isAgg82
  z70 := Tryz.sizeOf82
  v70 := Tryz.zeroValue82
  t72 := Tryz.underlying85
  a72 := Tryz.isAgg85
  z72 := Tryz.sizeOf85
  v72 := Tryz.zeroValue85
  t75 := Tryz.underlying24
  a75 := Tryz.isAgg24
  z75 := Tryz.sizeOf24
  v75 := Tryz.zeroValue24
  t76 := Tryz.underlying86
  a76 := Tryz.isAgg86
  z76 := Tryz.sizeOf86
  v76 := Tryz.zeroValue86
  t109 := Tryz.underlying320
  a109 := Tryz.isAgg320
  z109 := Tryz.sizeOf320
  v109 := Tryz.zeroValue320
  t127 := Tryz.underlying128
  a127 := Tryz.isAgg128
  z127 := Tryz.sizeOf128
  v127 := Tryz.zeroValue128
  t146 := Tryz.underlying225
  a146 := Tryz.isAgg225
  z146 := Tryz.sizeOf225
  v146 := Tryz.zeroValue225
  t148 := Tryz.underlying355
  a148 := Tryz.isAgg355
  z148 := Tryz.sizeOf355
  v148 := Tryz.zeroValue355
  t164 := Tryz.underlying105
  a164 := Tryz.isAgg105
  z164 := Tryz.sizeOf105
  v164 := Tryz.zeroValue105 }
theorem Tryz.Builder_Extra_105 : Builder.Extra Tryz.prog Tryz.lays105_ren := {
  sizeBuilder := by kernel_rfl
  liesBuilder := by kernel_rfl
  t5 := Tryz.underlying5
  a5 := Tryz.isAgg5
  z5 := Tryz.sizeOf5
  v5 := Tryz.zeroValue5
  infoByte := by kernel_rfl
  cellsByte := by kernel_rfl
  sizeByte := by kernel_rfl
  neB5 := by decide }
open Go.RowKit Go.Lib in
theorem Tryz.strings_Repeat (s : ByteArray) (c : Nat) (w : World) (hc : c ≤ 9223372036854775807) (hlen : s.size * c ≤ 140737488355328) :
    Calls Tryz.prog 330 #[.string s, .int .i64 c] w fun e w' => e = .returned (.string ⟨(Lib.repeatL s.data.toList c).toArray⟩) ∧ Below w.heap.size w w' := Any.strings_Repeat Tryz.lays105 Tryz.Builder_Extra_105 s c w hc hlen
end Go.Proofs

namespace Go.Proofs.YtcniomgjikienaaGreatDoor.Tx.Cn

section
open Go
def feedB (s:List UInt8):Bool:=s.getLast? == some 10
def bareL (s:List UInt8):List UInt8:=if feedB s then s.dropLast else s
def feedL (s:List UInt8):List UInt8:=bif feedB s then [10] else []
def wh (c:UInt8):Bool:=[32,9,11,12,13].contains c
def expL:Nat→List UInt8→List UInt8
 | _,[]=>[]
 | k,c::r=>if c=9 then List.replicate (8-k % 8) 32++expL (k+(8-k % 8)) r else c::expL (k+1) r
def wo (blank:Bool):Bool→List UInt8→List UInt8
 | _,[]=>[]
 | was,c::r=>bif wh c then (bif blank && !was then 32::wo blank true r else wo blank true r) else c::wo blank false r
def trL (l:List UInt8):List UInt8:=Lib.trimRightS l [32,9,11,12,13]
def low (c:UInt8):UInt8:=if 65≤c.toNat∧c.toNat≤90 then c+32 else c
def smL (l:List UInt8):List UInt8:=l.map low
structure Ig where
 sp:Bool
 wt:Bool
 bl:Bool
 cs:Bool
 tb:Bool
 tr:Bool
def ask (o:Ig):Nat→Bool
 | 0=>o.tb
 | 1=>o.wt
 | 2=>o.sp
 | 3=>o.tr
 | _=>o.cs
def act:Nat→List UInt8→List UInt8
 | 0,l=>expL 0 l
 | 1,l=>wo false false l
 | 2,l=>trL (wo true false l)
 | 3,l=>trL l
 | _,l=>smL l
def stg (o:Ig):Nat→List UInt8→List UInt8
 | 0,l=>l
 | k+1,l=>bif ask o k then act k (stg o k l) else stg o k l
def canonL (o:Ig) (l:List UInt8):List UInt8:=stg o 5 (bareL l)++feedL l
def pre (o:Ig) (l:List UInt8):List UInt8:=bif o.tb then expL 0 (bareL l) else bareL l
def sm? (o:Ig) (l:List UInt8):List UInt8:=bif o.cs then smL l else l
def o0 (o:Ig):Ig:={ o with sp:=false,wt:=false,tr:=false }
def ok (o:Ig) (k:Nat):Ig:={ o with sp:=decide (k=2),wt:=decide (k=3),tr:=decide (k=1) }
theorem c0 (o:Ig) (l:List UInt8):canonL (o0 o) l=sm? o (pre o l)++feedL l:=by
 unfold canonL stg sm? pre
 simp only[stg,ask,act,o0,cond_false]
theorem c1 (o:Ig) (l:List UInt8):canonL (ok o 1) l=sm? o (trL (pre o l))++feedL l:=by
 unfold canonL stg sm? pre
 simp[stg,ask,act,ok]
theorem c2 (o:Ig) (l:List UInt8):canonL (ok o 2) l=sm? o (trL (wo true false (pre o l)))++feedL l:=by
 unfold canonL stg sm? pre
 simp[stg,ask,act,ok]
theorem c3 (o:Ig) (l:List UInt8):canonL (ok o 3) l=sm? o (wo false false (pre o l))++feedL l:=by
 unfold canonL stg sm? pre
 simp[stg,ask,act,ok]
end

end Go.Proofs.YtcniomgjikienaaGreatDoor.Tx.Cn

namespace Go.Proofs.YtcniomgjikienaaGreatDoor.Tx

section
open Go.RowKit
theorem ret_bool {a b:Bool} (h:a=b):Ending.returned (.bool a)=.returned (.bool b):=by rw[h]
theorem ret_int {k:IntKind} {a b:Int} (h:a=b):Ending.returned (.int k a)=.returned (.int k b):=by rw[h]
section
variable {P:Program} (w:World)
theorem ZjI (base:Nat) (t ty e:TypeId) (i:TypeInfo) (z:Value) (size bytes:Nat) (ht:P.underlying t=some (.slice e)) (hi:P.info? e=some i) (hz:i.zero=some z)
  (hsize:i.size=size) (hby:i.bytes=bytes) (hzs:z.cells.size=size) (hsz:0<size)
  (v:Value) (n:Nat) (xs:List Value) (hown:w.ownsRowF base e size v n xs)
  (a:Addr) (m c:Nat) (news:List Value) (hl:news.length=m * size) (hnews:∀ j u,news[j]?=some u→w.cell? (a.add j)=some u) (h1:∀ u∈news,u.oneCell'=true)
  (h63:n+m≤maxLen) (hbytes:(n+m) * bytes≤140737488355328) (hbase:base≤w.heap.size) :
  ∃ v' w',(Builtin.append_ #[t,t] ty #[v,.slice (some a) m c]).run P w=.ok v' w'∧w'.ownsRowF base e size v' (n+m) (xs++news)∧w.grownBy w' v.ownBlock ∧
   (v'.ownBlock=v.ownBlock∨∃ g,v'.ownBlock=some g∧w.heap.size≤g):=by
 rcases hown.2 with ⟨rfl,rfl⟩ | ⟨g,cap,cur,fz,rfl,hbg,hg,hfz,hnc,hcm,hcs,htake⟩
 ·obtain⟨v',w',r1,r2,r3,r4⟩:=run_append_own (P:=P) w w.heap.size t ty e i z size bytes ht hi hz hsize hby hzs hsz (.slice none 0 0) 0 xs ⟨hown.1,.inl ⟨rfl,rfl⟩⟩ a m c news hl hnews h1 h63 hbytes (Nat.le_refl _)
  have r5:=World.ownsRowF_of r2
  refine⟨v',w',r1,⟨r5.1,?_⟩,r3,?_⟩
  ·rcases r5.2 with h | ⟨g,cap,cur,fz,q1,q2,q3⟩
   ·exact .inl h
   ·exact .inr ⟨g,cap,cur,fz,q1,by omega,q3⟩
  ·rcases r5.2 with ⟨h,_⟩ | ⟨g,cap,cur,fz,q1,q2,q3⟩
   ·exact .inl (by rw[h])
   ·exact .inr ⟨g,by rw[q1];rfl,q2⟩
 ·subst hsize
  subst hby
  have hsmall:n+m≤9223372036854775807:=by simp only[maxLen] at h63;omega
  have hlen:(xs++news).length=(n+m) * i.size:=by rw[List.length_append,hown.1,hl,Nat.add_mul]
  by_cases hroom:n+m≤cap
  ·have hfit:n * i.size+news.length≤cur.size:=by rw[hl,hcs,← Nat.add_mul];exact Nat.mul_le_mul_right _ hroom
   have hr:=run_append_roomF (P:=P) w t ty e i ht hi g n cap cur fz hg hfz a m c news hl hnews h1 hroom hfit
   refine⟨_,_,hr,⟨hlen,.inr ⟨g,cap,_,fz,rfl,hbg,setRow_heap w g cur _ e _ hg,Nat.le_trans hfz (Nat.mul_le_mul_right _ (Nat.le_add_right n m)),hroom,hcm,?_,?_⟩⟩,⟨rfl,rfl,rfl,by simp,fun k _ hk=>setRow_other w g k _ (fun e=>hk (by simp[Value.ownBlock,e]))⟩,.inl rfl⟩
   ·simp only[List.size_toArray,List.length_append,List.length_take,List.length_drop,Array.length_toList]
    omega
   ·rw[htake,← hlen]
    exact List.take_left
  ·have holds:∀ j u,xs[j]?=some u→w.cell? ((⟨g,0,none⟩:Addr).add j)=some u:=hown.cells (g:=g) rfl
   have hr:=run_append_grow (P:=P) w t ty e i z ht hi hz ⟨g,0,none⟩ n cap xs hown.1 holds a m c news hl hnews (by omega) (by omega) (growslice_fits (by omega) hbytes)
   have hge:=grownCap_ge w (n+m) cap e
   have hcm2:grownCap w (n+m) cap e≤maxLen:=grownCap_le_maxLen w (n+m) cap e h63
   refine⟨_,_,hr,⟨hlen,.inr ⟨w.heap.size,_,_,(0,0),rfl,hbase,heap_alloc_new w.drew _,Nat.zero_le _,hge,hcm2,?_,?_⟩⟩,⟨rfl,rfl,rfl,by simp,fun k hk _=>Below.heap_alloc w.drew _ k hk⟩,.inr ⟨_,rfl,Nat.le_refl _⟩⟩
   ·simp only[Array.size_append,List.size_toArray,size_zeroCells,hzs,hown.1,hl,← Nat.add_mul]
    congr 1
    omega
   ·simp only[Array.toList_append,List.append_assoc]
    rw[← List.append_assoc,← hlen]
    exact List.take_left
theorem Zmh {ops:Array Oper} {rest:List Oper} {o:Oper} {a:Act} {Q:Exit→Act→World→Prop} (hgd:o.guard=none) (s x:Operand) (t:TypeId)
  (ho:o.op=.call { callee:=.builtin .append,args:=#[s,x],argTypes:=#[t,t] })
  (base:Nat) (e:TypeId) (i:TypeInfo) (z:Value) (size bytes:Nat) (ht:P.underlying t=some (.slice e)) (hi:P.info? e=some i) (hz:i.zero=some z)
  (hsize:i.size=size) (hby:i.bytes=bytes) (hzs:z.cells.size=size) (hsz:0<size)
  (v:Value) (n:Nat) (xs:List Value) (hs:a.eval s=v) (hown:w.ownsRowF base e size v n xs)
  (ad:Addr) (m c:Nat) (news:List Value) (hx:a.eval x=.slice (some ad) m c) (hl:news.length=m * size) (hnews:∀ j u,news[j]?=some u→w.cell? (ad.add j)=some u) (h1:∀ u∈news,u.oneCell'=true)
  (h63:n+m≤maxLen) (hbytes:(n+m) * bytes≤140737488355328) (hbase:base≤w.heap.size)
  (h:∀ v' w',w'.ownsRowF base e size v' (n+m) (xs++news)→w.grownBy w' v.ownBlock→(v'.ownBlock=v.ownBlock∨∃ g,v'.ownBlock=some g∧w.heap.size≤g)→wpList P ops Q rest (a.put o.dst v') w'):wpList P ops Q (o::rest) a w:=by
 refine wpList_plain hgd fun K hK=>?_
 obtain⟨v',w',hr,h2,h3,h4⟩:=ZjI (P:=P) w base t o.type e i z size bytes ht hi hz hsize hby hzs hsz v n xs hown ad m c news hl hnews h1 h63 hbytes hbase
 unfold Oper.wp execOp
 simp only[ho,resolve,invoke,builtin,Sem.run_bind,Sem.run_pure,Result.andThen_ok,List.map_toArray,List.map_cons,List.map_nil,hs,hx,hr]
 exact hK _ _ (h v' w' h2 h3 h4)
end
def Bld (T e:TypeId) (B b:Nat) (v:Value) (bs:List Value) (w:World):Prop :=
 B≤b∧(∃ p,(p=.pointer none∨p=.pointer (some ⟨b,0,none⟩))∧w.heap[b]?=some (.cells #[p,v] T (0,0)))∧w.ownsRowF B e 1 v bs.length bs∧v.ownBlock≠some b
theorem Bld.isF {T e:TypeId} {B b:Nat} {v:Value} {bs:List Value} {w:World} (h:Bld T e B b v bs w):Lib.IsBuilderF T e B b bs w:=by
 obtain⟨hB,⟨p,hp,hb⟩,hown,hne⟩:=h
 rcases hp with rfl | rfl
 ·exact .inl ⟨hB,v,hb,hown,hne⟩
 ·exact .inr ⟨hB,v,hb,hown,hne⟩
theorem Bld.lt {T e:TypeId} {B b:Nat} {v:Value} {bs:List Value} {w:World} (h:Bld T e B b v bs w):b<w.heap.size:=by
 obtain⟨_,⟨p,_,hb⟩,_⟩:=h
 exact (Array.getElem?_eq_some_iff.1 hb).1
def Aside (b:Nat) (v:Value) (w w':World):Prop:=∀ k,k<w.heap.size→k≠b→v.ownBlock≠some k→w'.heap[k]?=w.heap[k]?
def Fresh (v v':Value) (w:World):Prop:=v'.ownBlock=v.ownBlock∨∃ g,v'.ownBlock=some g∧w.heap.size≤g
theorem Bld.kept {T e:TypeId} {B b:Nat} {v:Value} {bs:List Value} {w w':World} (h:Bld T e B b v bs w) (hk:∀ k,k<w.heap.size→w'.heap[k]?=w.heap[k]?):Bld T e B b v bs w':=by
 have hlt:=h.lt
 obtain⟨hB,⟨p,hp,hb⟩,⟨hl,hown⟩,hne⟩:=h
 refine⟨hB,⟨p,hp,(hk b hlt).trans hb⟩,⟨hl,?_⟩,hne⟩
 rcases hown with h | ⟨g,cap,cur,fz,q1,q2,q3,q4⟩
 ·exact .inl h
 ·exact .inr ⟨g,cap,cur,fz,q1,q2,(hk g (Array.getElem?_eq_some_iff.1 q3).1).trans q3,q4⟩
theorem Bld.alloc {T e:TypeId} {B b:Nat} {v:Value} {bs:List Value} {w:World} (h:Bld T e B b v bs w) (o:Obj):Bld T e B b v bs (w.alloc o) :=
 h.kept fun k hk=>Below.heap_alloc w o k hk
theorem Bld.fresh (T e:TypeId) (w:World):Bld T e w.heap.size w.heap.size (.slice none 0 0) [] (w.alloc (.cells #[.pointer none,.slice none 0 0] T)) :=
 ⟨Nat.le_refl _,⟨_,.inl rfl,_root_.Go.heap_alloc_new w _⟩,World.ownsRowF_nil _ _ _ _,by simp[Value.ownBlock]⟩
theorem Bld.put {T e:TypeId} {B b:Nat} {p v v':Value} {bs:List Value} {w:World} (hB:B≤b) (hp:p=.pointer none∨p=.pointer (some ⟨b,0,none⟩)) (hb:w.heap[b]?=some (.cells #[p,v] T (0,0))) (hown:w.ownsRowF B e 1 v' bs.length bs) (hTe:T≠e) :
  Bld T e B b v' bs (w.setCell ⟨b,1,none⟩ v'):=by
 have hne:v'.ownBlock≠some b:=by
  intro h
  rcases hown.2 with ⟨h1,_⟩ | ⟨g,cap,cur,fz,q1,q2,q3,q4⟩
  ·rw[h1] at h;cases h
  ·rw[q1] at h
   have hg:g=b:=by simpa [Value.ownBlock] using h
   rw[hg,hb] at q3
   simp only[Option.some.injEq,Obj.cells.injEq] at q3
   exact hTe q3.2.1
 have ho:∀ k,k≠b→(w.setCell ⟨b,1,none⟩ v').heap[k]?=w.heap[k]?:=fun k hk=>Below.heap_setCell w _ _ k hk
 refine⟨hB,⟨p,hp,?_⟩,⟨hown.1,?_⟩,hne⟩
 ·simp only[World.setCell,Array.getElem?_modify,hb]
  simp
 ·rcases hown.2 with h | ⟨g,cap,cur,fz,q1,q2,q3,q4⟩
  ·exact .inl h
  ·exact .inr ⟨g,cap,cur,fz,q1,q2,(ho g (fun e=>hne (by rw[q1,e];rfl))).trans q3,q4⟩
def Beside (R:Nat) (o:Obj) (b:Nat) (v:Value) (w:World):Prop:=w.heap[R]?=some o∧R≠b∧v.ownBlock≠some R
theorem Beside.step {R:Nat} {o:Obj} {b:Nat} {v v':Value} {w w':World} (h:Beside R o b v w) (ha:Aside b v w w') (hf:Fresh v v' w):Beside R o b v' w':=by
 obtain⟨h1,h2,h3⟩:=h
 have hlt:R<w.heap.size:=(Array.getElem?_eq_some_iff.1 h1).1
 refine⟨(ha R hlt h2 h3).trans h1,h2,?_⟩
 rcases hf with h | ⟨g,h,hg⟩
 ·rw[h];exact h3
 ·rw[h];intro e;simp at e;omega
theorem Beside.cell {R:Nat} {C:Array Value} {t:TypeId} {fz:Nat × Nat} {b:Nat} {v:Value} {w:World} (h:Beside R (.cells C t fz) b v w) (j:Nat):w.cell? ⟨R,j,none⟩=C[j]?:=by
 rw[cell_of_row w R j C t fz h.1]
theorem ZbU {P:Program} (w:World) (src dst e:TypeId) (l:List UInt8) (hs:P.underlying src=some .string) (hd:P.underlying dst=some (.slice e)) (he:P.underlying e=some (.int .u8)) :
  ∃ cap C fz w',(convert src dst (.string ⟨l.toArray⟩)).run P w=.ok (.slice (some ⟨w.heap.size,0,none⟩) l.length cap) w'∧w'.heap[w.heap.size]?=some (.cells C e fz)∧(∀ j (h:j<l.length),C[j]?=some (.int .u8 (l[j].toNat:Int)))∧Below w.heap.size w w'∧w.heap.size<w'.heap.size:=by
 refine⟨_,_,_,_,run_bytes_of_string w src dst e ⟨l.toArray⟩ hs hd he,_root_.Go.heap_alloc_new w.drew _,?_,((Below.refl _ w).drew).alloc (Nat.le_refl _) _,by simp⟩
 intro j hj
 unfold bytesRow
 rw[Array.getElem?_append_left (by simpa using hj)]
 simp[hj]
theorem ZaD {w w':World} (h:Below w.heap.size w w'):∀ k,k<w.heap.size→w'.heap[k]?=w.heap[k]?:=h.block
theorem Zrx {P:Program} {ops:Array Oper} {o:Oper} {a:Act} {w:World} {K:Act→World→Prop} {Q:Exit→Act→World→Prop} {E:Prop}
  (hgd:o.guard=none) (s x:Operand) (t:TypeId) (ho:o.op=.call { callee:=.builtin .append,args:=#[s,x],argTypes:=#[t,t] })
  (base:Nat) (e:TypeId) (i:TypeInfo) (z:Value) (size bytes:Nat) (ht:P.underlying t=some (.slice e)) (hi:P.info? e=some i) (hz:i.zero=some z)
  (hsize:i.size=size) (hby:i.bytes=bytes) (hzs:z.cells.size=size) (hsz:0<size)
  (v:Value) (n:Nat) (xs:List Value) (hs:a.eval s=v) (hown:w.ownsRowF base e size v n xs)
  (ad:Addr) (m c:Nat) (news:List Value) (hx:a.eval x=.slice (some ad) m c) (hl:news.length=m * size) (hnews:∀ j u,news[j]?=some u→w.cell? (ad.add j)=some u) (h1:∀ u∈news,u.oneCell'=true)
  (h63:n+m≤maxLen) (hbytes:(n+m) * bytes≤140737488355328) (hbase:base≤w.heap.size)
  (h:∀ v' w',w'.ownsRowF base e size v' (n+m) (xs++news)→w.grownBy w' v.ownBlock→(v'.ownBlock=v.ownBlock∨∃ g,v'.ownBlock=some g∧w.heap.size≤g)→K (a.put o.dst v') w') :
  if Region.wanted o (yielded ops a.tmps)=true then Oper.wp P o a w K Q else E:=by
 have hw:Region.wanted o (yielded ops a.tmps)=true:=by simp[Region.wanted,hgd]
 rw[if_pos hw]
 obtain⟨v',w',hr,h2,h3,h4⟩:=ZjI (P:=P) w base t o.type e i z size bytes ht hi hz hsize hby hzs hsz v n xs hown ad m c news hl hnews h1 h63 hbytes hbase
 unfold Oper.wp
 simp[execOp,ho,resolve,invoke,builtin,hs,hx,hr,Result.andThen]
 exact h v' w' h2 h3 h4
theorem Zoz (w:World) (C:List Value) (t:TypeId):∀ j u,C[j]?=some u→(w.alloc (.cells C.toArray t)).cell? ((⟨w.heap.size,0,none⟩:Addr).add j)=some u:=by
 intro j u hj
 have hadd:(⟨w.heap.size,0,none⟩:Addr).add j=⟨w.heap.size,j,none⟩:=by unfold Addr.add;split<;>simp_all
 rw[hadd,cell_of_row _ w.heap.size j C.toArray t (0,0) (_root_.Go.heap_alloc_new w _)]
 simpa using hj
theorem ZmJ {P:Program} (w:World) (src dst e:TypeId) (B:Nat) (v:Value) (l:List UInt8) (hs:P.underlying src=some (.slice e)) (he:P.underlying e=some (.int .u8)) (hd:P.underlying dst=some .string)
  (h:w.ownsRowF B e 1 v l.length (Lib.byteCells l)):(convert src dst v).run P w=.ok (.string ⟨l.toArray⟩) w:=by
 rcases h.2 with ⟨rfl,h0⟩ | ⟨g,cap,cur,fz,rfl,_⟩
 ·have:l=[]:=List.eq_nil_of_length_eq_zero h0
  subst this
  rw[run_convert_bytes_string w src dst e none 0 0 hs he hd]
  rfl
 ·refine run_convert_bytes_back w src dst e ⟨g,0,none⟩ cap l hs he hd ?_
  intro j hj
  exact h.cells (g:=g) rfl j _ (by simp[Lib.byteCells,hj])
theorem ZaB (l:List UInt8) (k:Nat) (h:k<(⟨l.toArray⟩:ByteArray).size):(⟨l.toArray⟩:ByteArray)[k]'h=l[k]'(h):=rfl
theorem ZoL (c:Int) (k:IntKind):∀ u∈[Value.int k c],u.oneCell'=true:=by intro u hu;simp at hu;subst hu;rfl
theorem ZaM (l:List UInt8) (c:UInt8):Lib.byteCells (l++[c])=Lib.byteCells l++[.int .u8 (c.toNat:Int)]:=by rw[Lib.byteCells_append];rfl
theorem Zsi {n:Int} (h0:0≤n) (h1:n<256):IntKind.u8.wrap n=n:=by
 simp[IntKind.wrap,IntKind.bits,IntKind.signed]
 omega
theorem Bld.drewN {T e:TypeId} {B b:Nat} {v:Value} {bs:List Value} {w:World} (h:Bld T e B b v bs w) (n:Nat):Bld T e B b v bs (w.drewN n):=h.kept fun _ _=>rfl
end

section
open Cn Go.RowKit
theorem infoU8:(Tryz.prog.info? 5).map (fun i=>(i.zero,i.size,i.bytes))=some (some (.int .u8 0),1,1):=by kernel_rfl
end

section
def put (cs:Array Value):Obj→Obj
 | .cells _ t frozen=>.cells cs t frozen
 | o=>o
def laidOnU (w:World):World :=
 { w with heap:=(w.heap.modify 3 (put ((Go.Pinned.utf8FirstZ.map fun n:Nat=>Value.int .u8 (n:Int)).toArray))).modify 4 (put (([128,191,160,191,128,159,144,191,128,143,0,0,0,0,0,0,0,0,0,0,0,0,0,0,0,0,0,0,0,0,0,0]:List Int).map (Value.int .u8)).toArray) }
end

end Go.Proofs.YtcniomgjikienaaGreatDoor.Tx
