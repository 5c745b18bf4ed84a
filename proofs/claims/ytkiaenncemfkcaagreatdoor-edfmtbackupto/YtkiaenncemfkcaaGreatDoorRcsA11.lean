/-
  Texts that belong together, joined: NoShelf, Itoa, EfShelfJ, LnShelf, NoShelfX, LnMath, HuLm, Math, PMath, BackMath, NoMath, NoM2, NoM3, NoB, NoJn, NoTx, NoRf, NoCg, NoPr, NoLen, NoWs, NcW, PtL, NcL, NoPs, NpN, NoM4, NpS, NoRd, NoPk, NoMk, NpE, EfJo, HuLn, HuC2, HuC3, HuWk.
-/
import Derived.Shelf.Strings.BuilderK
import Derived.Shelf.Small.Wraps
import Derived.Shelf.Small.Strs
import Derived.Test.YtkiaenncemfkcaaGreatDoorRcsA1
import Derived.Test.YtkiaenncemfkcaaGreatDoorProg
import Derived.Shelf.Strconv.Itoa3
import Derived.Shelf.Strings.OnBuilder
import Derived.Shelf.Strings.Search3
import Derived.Shelf.Small.Utf8
import Derived.Shelf.Strings.Runes
import Derived.Shelf.Strings.IndexAny
import Derived.Shelf.Strings.IndexAnyAll
import Derived.Shelf.Strings.Search2
import Derived.Lib.Bytealg
import Derived.Lib.Join
import Derived.Lib.ItoaNum
import Derived.Test.YtkiaenncemfkcaaGreatDoorRcsA3
import Derived.Laws.IdiomStrings
import Derived.Deep.RegionHeld3
import Derived.Deep.CutBlock
import Derived.Deep.DeepCutAuto
import Derived.Lib.AppendIntMem
import Derived.Lib.FrozenHead2
import Derived.Lib.OthersKept
import Derived.Laws.RangeAny
import Derived.BigQuiet
import Derived.WalkLawsBesides
import Derived.Lib.AppendStr

set_option maxHeartbeats 16000000
set_option maxRecDepth 100000
namespace Go.Proofs

section
open Go.Shelf

end

section
open Go.Shelf
def Tryz.laysM171_ren : Go.Shelf.Ren := ⟨fun | 171 => 74 | 243 => 110 | 246 => 132 | 283 => 153 | 284 => 154 | 285 => 155 | 286 => 156 | 129 => 172 | 317 => 171 | 318 => 173 | 319 => 174 | 320 => 175 | 337 => 188 | 338 => 189 | n => n, fun | 3 => 3 | 9 => 9 | 2 => 2 | 4 => 4 | 171 => 252 | 0 => 0 | 53 => 29 | 37 => 57 | 5 => 5 | 173 => 255 | 212 => 269 | 51 => 173 | 20 => 20 | 213 => 270 | 46 => 134 | 232 => 288 | 233 => 289 | n => n, fun | 17 => 2 | 18 => 3 | 19 => 4 | n => n⟩
theorem Tryz.laysM171 : Go.Proofs.LaysM.n171 Tryz.prog Tryz.laysM171_ren := {
  mixed := by kernel_rfl
  f129 := Go.fk Tryz.func172
  f171 := Go.fk Tryz.func74
  f243 := Go.fk Tryz.func110
  f246 := Go.fk Tryz.func132
  f283 := Go.fk Tryz.func153
  f284 := Go.fk Tryz.func154
  f285 := Go.fk Tryz.func155
  f286 := Go.fk Tryz.func156
  f317 := Go.fk Tryz.func171
  f318 := Go.fk Tryz.func173
  f319 := Go.fk Tryz.func174
  f320 := Go.fk Tryz.func175
  f337 := Go.fk Tryz.func188
  f338 := Go.fk Tryz.func189
  t0 := Tryz.underlying0
  a0 := Tryz.isAgg0
  z0 := Tryz.sizeOf0
  v0 := Tryz.zeroValue0
  t2 := Tryz.underlying2
  a2 := Tryz.isAgg2
  z2 := Tryz.sizeOf2
  v2 := Tryz.zeroValue2
  t3 := Tryz.underlying3
  a3 := Tryz.isAgg3
  z3 := Tryz.sizeOf3
  v3 := Tryz.zeroValue3
  t4 := Tryz.underlying4
  a4 := Tryz.isAgg4
  z4 := Tryz.sizeOf4
  v4 := Tryz.zeroValue4
  t5 := Tryz.underlying5
  a5 := Tryz.isAgg5
  z5 := Tryz.sizeOf5
  v5 := Tryz.zeroValue5
  t9 := Tryz.underlying9
  a9 := Tryz.isAgg9
  z9 := Tryz.sizeOf9
  v9 := Tryz.zeroValue9
  t20 := Tryz.underlying20
  a20 := Tryz.isAgg20
  z20 := Tryz.sizeOf20
  v20 := Tryz.zeroValue20
  t37 := Tryz.underlying57
  a37 := Tryz.isAgg57
  z37 := Tryz.sizeOf57
  v37 := Tryz.zeroValue57
  t46 := Tryz.underlying134
  a46 := Tryz.isAgg134
  z46 := Tryz.sizeOf134
  v46 := Tryz.zeroValue134
  t51 := Tryz.underlying173
  a51 := Tryz.isAgg173
  z51 := Tryz.sizeOf173
  v51 := Tryz.zeroValue173
  t53 := Tryz.underlying29
  a53 := Tryz.isAgg29
  z53 := Tryz.sizeOf29
  v53 := Tryz.zeroValue29
  t171 := Tryz.underlying252
  a171 := Tryz.isAgg252
  z171 := Tryz.sizeOf252
  v171 := Tryz.zeroValue252
  t173 := Tryz.underlying255
  a173 := Tryz.isAgg255
  z173 := Tryz.sizeOf255
  v173 := Tryz.zeroValue255
  t212 := Tryz.underlying269
  a212 := Tryz.isAgg269
  z212 := Tryz.sizeOf269
  v212 := Tryz.zeroValue269
  t213 := Tryz.underlying270
  a213 := Tryz.isAgg270
  z213 := Tryz.sizeOf270
  t232 := Tryz.underlying288
  a232 := Tryz.isAgg288
  z232 := Tryz.sizeOf288
  v232 := Tryz.zeroValue288
  t233 := Tryz.underlying289
  a233 := Tryz.isAgg289
  z233 := Tryz.sizeOf289
  v233 := Tryz.zeroValue289
  g17 := by kernel_rfl
  g18 := by kernel_rfl
  g19 := by kernel_rfl
  i0 := by kernel_rfl
  i2 := by kernel_rfl
  i3 := by kernel_rfl
  i4 := by kernel_rfl
  i5 := by kernel_rfl
  i9 := by kernel_rfl
  i20 := by kernel_rfl
  i37 := by kernel_rfl
  i46 := by kernel_rfl
  i51 := by kernel_rfl
  i53 := by kernel_rfl
  i171 := by kernel_rfl
  i173 := by kernel_rfl
  i212 := by kernel_rfl
  i232 := by kernel_rfl
  i233 := by kernel_rfl
  m17 := by kernel_rfl
  m18 := by kernel_rfl
  m19 := by kernel_rfl }
open Go.RowKit Go.Sort Go.Lib in
theorem Tryz.strconv_Itoa (n : Int) (h0 : -9223372036854775808 ≤ n) (h1 : n ≤ 9223372036854775807) (w : World) (htab : Lib.TabIs Tryz.prog w "internal/strconv.uint64pow10" .u64 Lib.pow10Tab) :
    Calls Tryz.prog 74 #[.int .i64 n] w fun e w' => e = .returned (.string ⟨(Lib.itoa n).toArray⟩) ∧ ∃ k os, w' = grow (w.drewN k) os := Any.strconv_Itoa Tryz.laysM171 n h0 h1 w htab
end

section
open Go.Shelf
def Tryz.lays156_ren : Go.Shelf.Ren := ⟨fun | 156 => 32 | 165 => 59 | 166 => 22 | 169 => 26 | 240 => 43 | 241 => 87 | 276 => 73 | 277 => 119 | n => n, fun | 31 => 23 | 9 => 9 | 3 => 3 | 4 => 4 | 0 => 0 | 20 => 20 | 72 => 59 | 76 => 63 | 70 => 56 | 37 => 57 | 75 => 35 | 127 => 102 | 164 => 111 | 5 => 5 | 80 => 68 | n => n, fun | n => n⟩
theorem Tryz.lays156 : Go.Proofs.Lays.n156 Tryz.prog Tryz.lays156_ren := {
  mixed := by kernel_rfl
  f156 := Go.fk Tryz.func32
  f165 := Go.fk Tryz.func59
  f166 := Go.fk Tryz.func22
  f169 := Go.fk Tryz.func26
  f240 := Go.fk Tryz.func43
  f241 := Go.fk Tryz.func87
  f276 := Go.fk Tryz.func73
  f277 := Go.fk Tryz.func119
  t0 := Tryz.underlying0
  a0 := Tryz.isAgg0
  z0 := Tryz.sizeOf0
  v0 := Tryz.zeroValue0
  t3 := Tryz.underlying3
  a3 := Tryz.isAgg3
  z3 := Tryz.sizeOf3
  v3 := Tryz.zeroValue3
  t4 := Tryz.underlying4
  a4 := Tryz.isAgg4
  z4 := Tryz.sizeOf4
  v4 := Tryz.zeroValue4
  t9 := Tryz.underlying9
  a9 := Tryz.isAgg9
  z9 := Tryz.sizeOf9
  v9 := Tryz.zeroValue9
  t20 := Tryz.underlying20
  a20 := Tryz.isAgg20
  z20 := Tryz.sizeOf20
  v20 := Tryz.zeroValue20
  t31 := Tryz.underlying23
  a31 := Tryz.isAgg23
  z31 := Tryz.sizeOf23
  v31 := Tryz.zeroValue23
  t37 := Tryz.underlying57
  a37 := Tryz.isAgg57
  z37 := Tryz.sizeOf57
  v37 := Tryz.zeroValue57
  t70 := Tryz.underlying56
  a70 := Tryz.isAgg56
  z70 := Tryz.sizeOf56
  v70 := Tryz.zeroValue56
  t72 := Tryz.underlying59
  a72 := Tryz.isAgg59
  z72 := Tryz.sizeOf59
  v72 := Tryz.zeroValue59
  t75 := Tryz.underlying35
  a75 := Tryz.isAgg35
  z75 := Tryz.sizeOf35
  v75 := Tryz.zeroValue35
  t76 := Tryz.underlying63
  a76 := Tryz.isAgg63
  z76 := Tryz.sizeOf63
  v76 := Tryz.zeroValue63
  t127 := Tryz.underlying102
  a127 := Tryz.isAgg102
  z127 := Tryz.sizeOf102
  v127 := Tryz.zeroValue102
  t164 := Tryz.underlying111
  a164 := Tryz.isAgg111
  z164 := Tryz.sizeOf111
  v164 := Tryz.zeroValue111 }
theorem Tryz.Builder_Extra_156 : Builder.Extra Tryz.prog Tryz.lays156_ren := {
  sizeBuilder := by kernel_rfl
  liesBuilder := by kernel_rfl
  t5 := Tryz.underlying5
  a5 := Tryz.isAgg5
  z5 := Tryz.sizeOf5
  v5 := Tryz.zeroValue5
  infoByte := by kernel_rfl
  cellsByte := by kernel_rfl
  sizeByte := by kernel_rfl
  neB5 := by decide }
open Go.RowKit in
theorem Tryz.strings_Join_none (a : Option Addr) (c : Nat) (sep : ByteArray) (w : World) :
    Calls Tryz.prog 32 #[.slice a 0 c, .string sep] w fun e w' => e = .returned (.string ⟨#[]⟩) ∧ w' = w := Any.strings_Join_none Tryz.lays156 Tryz.Builder_Extra_156 a c sep w
open Go.RowKit in
theorem Tryz.strings_Join (bk o c : Nat) (xs : List ByteArray) (sep : ByteArray) (w : World) (hcells : ∀ (j : Nat) x, xs[j]? = some x → w.cell? ⟨bk, o + j, none⟩ = some (.string x)) (hbk : bk < w.heap.size) (hN : xs.length ≤ 140737488355328) (hcap : xs.length ≤ c) (hlen : (Lib.join (xs.map (·.data.toList)) sep.data.toList).length ≤ 140737488355328) :
    Calls Tryz.prog 32 #[.slice (some ⟨bk, o, none⟩) xs.length c, .string sep] w fun e w' => e = .returned (.string ⟨(Lib.join (xs.map (·.data.toList)) sep.data.toList).toArray⟩) ∧ Below w.heap.size w w' := Any.strings_Join Tryz.lays156 Tryz.Builder_Extra_156 bk o c xs sep w hcells hbk hN hcap hlen
end

section
open Go.Shelf
def Tryz.lays143_ren : Go.Shelf.Ren := ⟨fun | 143 => 17 | 219 => 36 | 217 => 63 | 225 => 64 | 224 => 65 | 267 => 66 | 266 => 90 | 314 => 91 | n => n, fun | 9 => 9 | 3 => 3 | 4 => 4 | 5 => 5 | 46 => 134 | 146 => 174 | 51 => 173 | n => n, fun | 1 => 1 | n => n⟩
theorem Tryz.lays143 : Go.Proofs.Lays.n143 Tryz.prog Tryz.lays143_ren := {
  mixed := by kernel_rfl
  f143 := Go.fk Tryz.func17
  f217 := Go.fk Tryz.func63
  f219 := Go.fk Tryz.func36
  f224 := Go.fk Tryz.func65
  f225 := Go.fk Tryz.func64
  f266 := Go.fk Tryz.func90
  f267 := Go.fk Tryz.func66
  f314 := Go.fk Tryz.func91
  t3 := Tryz.underlying3
  a3 := Tryz.isAgg3
  z3 := Tryz.sizeOf3
  v3 := Tryz.zeroValue3
  t4 := Tryz.underlying4
  a4 := Tryz.isAgg4
  z4 := Tryz.sizeOf4
  v4 := Tryz.zeroValue4
  t5 := Tryz.underlying5
  a5 := Tryz.isAgg5
  z5 := Tryz.sizeOf5
  v5 := Tryz.zeroValue5
  t9 := Tryz.underlying9
  a9 := Tryz.isAgg9
  z9 := Tryz.sizeOf9
  v9 := Tryz.zeroValue9
  t46 := Tryz.underlying134
  a46 := Tryz.isAgg134
  z46 := Tryz.sizeOf134
  v46 := Tryz.zeroValue134
  t51 := Tryz.underlying173
  a51 := Tryz.isAgg173
  z51 := Tryz.sizeOf173
  v51 := Tryz.zeroValue173
  t146 := Tryz.underlying174
  a146 := Tryz.isAgg174
  z146 := Tryz.sizeOf174
  v146 := Tryz.zeroValue174
  g1 := by kernel_rfl }
open Go.RowKit Go.Lib in
theorem Tryz.strings_Index_one (s : ByteArray) (c : UInt8) (w : World) :
    Calls Tryz.prog 17 #[.string s, .string ⟨#[c]⟩] w fun e w' => e = .returned (.int .i64 (Lib.indexByte s.data.toList c)) ∧ w' = w := Any.strings_Index_one Tryz.lays143 s c w
end

section
open Go.Shelf
def Tryz.lays119_ren : Go.Shelf.Ren := ⟨fun | 119 => 200 | n => n, fun | 21 => 21 | 4 => 4 | n => n, fun | n => n⟩
theorem Tryz.lays119 : Go.Proofs.Lays.n119 Tryz.prog Tryz.lays119_ren := {
  mixed := by kernel_rfl
  f119 := Go.fk Tryz.func200
  t4 := Tryz.underlying4
  a4 := Tryz.isAgg4
  z4 := Tryz.sizeOf4
  v4 := Tryz.zeroValue4
  t21 := Tryz.underlying21
  a21 := Tryz.isAgg21
  z21 := Tryz.sizeOf21
  v21 := Tryz.zeroValue21 }
theorem Tryz.utf8_ValidRune (r : Int) (w : World) :
    Calls Tryz.prog 200 #[.int .i32 r] w fun e w' => e = .returned (.bool (Lib.validRune r)) ∧ w' = w := Any.utf8_ValidRune Tryz.lays119 r w
def Tryz.lays219_ren : Go.Shelf.Ren := ⟨fun | 219 => 36 | 217 => 63 | 225 => 64 | 224 => 65 | 267 => 66 | 266 => 90 | 314 => 91 | n => n, fun | 9 => 9 | 3 => 3 | 4 => 4 | 5 => 5 | 46 => 134 | 146 => 174 | 51 => 173 | n => n, fun | 1 => 1 | n => n⟩
theorem Tryz.lays219 : Go.Proofs.Lays.n219 Tryz.prog Tryz.lays219_ren := {
  mixed := by kernel_rfl
  f217 := Go.fk Tryz.func63
  f219 := Go.fk Tryz.func36
  f224 := Go.fk Tryz.func65
  f225 := Go.fk Tryz.func64
  f266 := Go.fk Tryz.func90
  f267 := Go.fk Tryz.func66
  f314 := Go.fk Tryz.func91
  t3 := Tryz.underlying3
  a3 := Tryz.isAgg3
  z3 := Tryz.sizeOf3
  v3 := Tryz.zeroValue3
  t4 := Tryz.underlying4
  a4 := Tryz.isAgg4
  z4 := Tryz.sizeOf4
  v4 := Tryz.zeroValue4
  t5 := Tryz.underlying5
  a5 := Tryz.isAgg5
  z5 := Tryz.sizeOf5
  v5 := Tryz.zeroValue5
  t9 := Tryz.underlying9
  a9 := Tryz.isAgg9
  z9 := Tryz.sizeOf9
  v9 := Tryz.zeroValue9
  t46 := Tryz.underlying134
  a46 := Tryz.isAgg134
  z46 := Tryz.sizeOf134
  v46 := Tryz.zeroValue134
  t51 := Tryz.underlying173
  a51 := Tryz.isAgg173
  z51 := Tryz.sizeOf173
  v51 := Tryz.zeroValue173
  t146 := Tryz.underlying174
  a146 := Tryz.isAgg174
  z146 := Tryz.sizeOf174
  v146 := Tryz.zeroValue174
  g1 := by kernel_rfl }
open Go.RowKit Go.Lib in
theorem Tryz.stringslite_Index_one (s : ByteArray) (c : UInt8) (w : World) :
    Calls Tryz.prog 36 #[.string s, .string ⟨#[c]⟩] w fun e w' => e = .returned (.int .i64 (Lib.indexByte s.data.toList c)) ∧ w' = w := Any.stringslite_Index_one Tryz.lays219 s c w
def Tryz.lays152_ren : Go.Shelf.Ren := ⟨fun | 152 => 198 | 137 => 183 | 119 => 200 | 224 => 65 | 225 => 64 | 217 => 63 | 266 => 90 | n => n, fun | 9 => 9 | 21 => 21 | 3 => 3 | 4 => 4 | 5 => 5 | 0 => 0 | 46 => 134 | n => n, fun | n => n⟩
theorem Tryz.lays152 : Go.Proofs.Lays.n152 Tryz.prog Tryz.lays152_ren := {
  mixed := by kernel_rfl
  f119 := Go.fk Tryz.func200
  f137 := Go.fk Tryz.func183
  f152 := Go.fk Tryz.func198
  f217 := Go.fk Tryz.func63
  f224 := Go.fk Tryz.func65
  f225 := Go.fk Tryz.func64
  f266 := Go.fk Tryz.func90
  t0 := Tryz.underlying0
  a0 := Tryz.isAgg0
  z0 := Tryz.sizeOf0
  v0 := Tryz.zeroValue0
  t3 := Tryz.underlying3
  a3 := Tryz.isAgg3
  z3 := Tryz.sizeOf3
  v3 := Tryz.zeroValue3
  t4 := Tryz.underlying4
  a4 := Tryz.isAgg4
  z4 := Tryz.sizeOf4
  v4 := Tryz.zeroValue4
  t5 := Tryz.underlying5
  a5 := Tryz.isAgg5
  z5 := Tryz.sizeOf5
  v5 := Tryz.zeroValue5
  t9 := Tryz.underlying9
  a9 := Tryz.isAgg9
  z9 := Tryz.sizeOf9
  v9 := Tryz.zeroValue9
  t21 := Tryz.underlying21
  a21 := Tryz.isAgg21
  z21 := Tryz.sizeOf21
  v21 := Tryz.zeroValue21
  t46 := Tryz.underlying134
  a46 := Tryz.isAgg134
  z46 := Tryz.sizeOf134
  v46 := Tryz.zeroValue134 }
open Go.RowKit Go.Lib in
theorem Tryz.strings_IndexRune_ascii (s : ByteArray) (r : Int) (w : World) (h0 : 0 ≤ r) (h1 : r < 128) :
    Calls Tryz.prog 198 #[.string s, .int .i32 r] w fun e w' => e = .returned (.int .i64 (Lib.indexByte s.data.toList r.toNat.toUInt8)) ∧ w' = w := Any.strings_IndexRune_ascii Tryz.lays152 s r w h0 h1
end

end Go.Proofs

namespace Go.Proofs.YtkiaenncemfkcaaGreatDoor.Ln

section
open Go
def splitL:List UInt8→List (List UInt8)
 | []=>[]
 | c::t=>if c=10 then [c]::splitL t else match splitL t with
  | []=>[[c]]
  | x::r=>(c::x)::r
theorem ZyI (a b:List UInt8) (h:∀ c∈a,c≠10):splitL (a++10::b)=(a++[10])::splitL b:=by
 induction a with
 | nil=>simp[splitL]
 | cons c a ih =>
  have hc:c≠10:=h c (by simp)
  have:=ih fun x hx=>h x (by simp[hx])
  simp only[List.cons_append,splitL,hc,if_false,this]
theorem ZyO (a:List UInt8) (h:∀ c∈a,c≠10) (h0:a≠[]):splitL a=[a]:=by
 induction a with
 | nil=>exact absurd rfl h0
 | cons c a ih =>
  have hc:c≠10:=h c (by simp)
  cases a with
  | nil=>simp[splitL,hc]
  | cons d a =>
   have:=ih (fun x hx=>h x (by simp[hx])) (by simp)
   simp only[splitL,hc,if_false] at this ⊢
   rw[this]
theorem split_join (l:List UInt8):(splitL l).flatten=l:=by
 induction l with
 | nil=>rfl
 | cons c t ih =>
  unfold splitL
  by_cases hc:c=10
  ·simp[hc,ih]
  ·simp only[hc,if_false]
   cases hs:splitL t with
   | nil=>rw[hs] at ih;simp at ih;simp[← ih]
   | cons x r=>rw[hs] at ih;simp at ih;simp[ih]
theorem split_len (l:List UInt8):(splitL l).length≤l.length:=by
 induction l with
 | nil=>simp[splitL]
 | cons c t ih =>
  unfold splitL
  by_cases hc:c=10
  ·simp[hc];omega
  ·simp only[hc,if_false]
   cases hs:splitL t with
   | nil=>simp
   | cons x r=>rw[hs] at ih;simp at ih ⊢;omega
def lineB:List UInt8→Bool→Bool
 | [],_=>false
 | [c],last=>last || c == 10
 | c::d::t,last=>c != 10 && lineB (d::t) last
def checkB:List (List UInt8)→Bool
 | []=>true
 | s::t=>lineB s t.isEmpty && checkB t
theorem ZnN (c:UInt8) (x:List UInt8) (last:Bool) (hx:x≠[]):lineB (c::x) last=(c != 10 && lineB x last):=by
 cases x with
 | nil=>exact absurd rfl hx
 | cons d t=>rfl
theorem ZnR {x:List UInt8} {last:Bool} (h:lineB x last=true):x≠[]:=by rintro rfl;cases h
theorem ZnQ {x:List UInt8} (h:lineB x false=true):∃ a,x=a++[10]∧∀ c∈a,c≠10:=by
 induction x with
 | nil=>cases h
 | cons c t ih =>
  cases t with
  | nil=>exact⟨[],by simpa [lineB] using h,by simp⟩
  | cons d t =>
   simp only[lineB,Bool.and_eq_true,bne_iff_ne] at h
   obtain⟨a,ha,hn⟩:=ih h.2
   refine⟨c::a,by rw[ha];rfl,?_⟩
   intro x hx
   simp only[List.mem_cons] at hx
   rcases hx with rfl | hx
   ·exact h.1
   ·exact hn x hx
theorem ZnS {x:List UInt8} (h:lineB x true=true):lineB x false=true∨∀ c∈x,c≠10:=by
 induction x with
 | nil=>cases h
 | cons c t ih =>
  cases t with
  | nil =>
   by_cases hc:c=10
   ·exact .inl (by simp[lineB,hc])
   ·exact .inr (by simpa using hc)
  | cons d t =>
   simp only[lineB,Bool.and_eq_true,bne_iff_ne] at h
   rcases ih h.2 with h2 | h2
   ·exact .inl (by simp only[lineB,Bool.and_eq_true,bne_iff_ne];exact⟨h.1,h2⟩)
   ·refine .inr ?_
    intro x hx
    simp only[List.mem_cons] at hx
    rcases hx with rfl | hx
    ·exact h.1
    ·exact h2 x (by simpa using hx)
theorem split_right (l:List UInt8):checkB (splitL l)=true:=by
 induction l with
 | nil=>rfl
 | cons c t ih =>
  unfold splitL
  by_cases hc:c=10
  ·simp[hc,checkB,lineB,ih]
  ·simp only[hc,if_false]
   cases hs:splitL t with
   | nil=>simp[checkB,lineB]
   | cons x r =>
    rw[hs] at ih
    simp only[checkB,Bool.and_eq_true] at ih ⊢
    rw[ZnN c x _ (ZnR ih.1)]
    simp[hc,ih.1,ih.2]
theorem Zvv (ws:List (List UInt8)) (h:checkB ws=true):splitL ws.flatten=ws:=by
 induction ws with
 | nil=>rfl
 | cons x r ih =>
  simp only[checkB,Bool.and_eq_true] at h
  have hr:=ih h.2
  cases r with
  | nil =>
   simp only[List.flatten_cons,List.flatten_nil,List.append_nil]
   rcases ZnS (by simpa using h.1) with h1 | h1
   ·obtain⟨a,rfl,hn⟩:=ZnQ h1
    rw[ZyI a [] hn];rfl
   ·exact ZyO x h1 (ZnR h.1)
  | cons y r =>
   obtain⟨a,rfl,hn⟩:=ZnQ (by simpa using h.1)
   rw[List.flatten_cons,List.append_assoc]
   rw[show a++([10]++(y::r).flatten)=a++10::(y::r).flatten from rfl,ZyI a _ hn,hr]
theorem ZlL {l:List UInt8} {c:UInt8} (h:Lib.indexByte l c<0):Lib.indexByte l c=-1∧∀ x∈l,x≠c:=by
 induction l with
 | nil=>exact⟨rfl,by simp⟩
 | cons b l ih =>
  unfold Lib.indexByte at h ⊢
  by_cases hb:(b == c)=true
  ·rw[if_pos hb] at h;simp at h
  ·rw[if_neg hb] at h ⊢
   by_cases h1:(Lib.indexByte l c == -1)=true
   ·rw[if_pos h1]
    have h2:=ih (by simp at h1;omega)
    refine⟨rfl,?_⟩
    intro x hx
    simp only[List.mem_cons] at hx
    rcases hx with rfl | hx
    ·simpa using hb
    ·exact h2.2 x hx
   ·rw[if_neg h1] at h
    have:=Lib.indexByte_ge l c
    simp at h1
    omega
theorem ZlM {l:List UInt8} {c:UInt8} (h:0≤Lib.indexByte l c):∃ a b,l=a++c::b∧(∀ x∈a,x≠c)∧Lib.indexByte l c=a.length:=by
 induction l with
 | nil=>simp[Lib.indexByte] at h
 | cons d l ih =>
  unfold Lib.indexByte at h ⊢
  by_cases hb:(d == c)=true
  ·have:d=c:=by simpa using hb
   subst this
   rw[if_pos hb]
   exact⟨[],l,rfl,by simp,rfl⟩
  ·rw[if_neg hb] at h ⊢
   by_cases h1:(Lib.indexByte l c == -1)=true
   ·rw[if_pos h1] at h;simp at h
   ·rw[if_neg h1] at h ⊢
    have:=Lib.indexByte_ge l c
    obtain⟨a,b,e1,e2,e3⟩:=ih (by simp at h1;omega)
    refine⟨d::a,b,by rw[e1];rfl,?_,by rw[e3];simp⟩
    intro x hx
    simp only[List.mem_cons] at hx
    rcases hx with rfl | hx
    ·simpa using hb
    ·exact e2 x hx
theorem ZnM {x:List UInt8} (h:∀ c∈x,c≠10) (last:Bool):lineB x last=(last && !x.isEmpty):=by
 induction x with
 | nil=>simp[lineB]
 | cons c t ih =>
  cases t with
  | nil =>
   have:c≠10:=h c (by simp)
   simp[lineB,this]
  | cons d t =>
   rw[lineB,ih fun x hx=>h x (by simp[hx])]
   have:c≠10:=h c (by simp)
   simp[this]
theorem ZnO {a b:List UInt8} (h:∀ c∈a,c≠10) (last:Bool):lineB (a++10::b) last=b.isEmpty:=by
 induction a with
 | nil =>
  cases b with
  | nil=>simp[lineB]
  | cons d b=>simp[lineB]
 | cons c a ih =>
  have hc:c≠10:=h c (by simp)
  rw[List.cons_append,ZnN _ _ _ (by simp),ih fun x hx=>h x (by simp[hx])]
  simp[hc]
def feedB (s:List UInt8):Bool:=s.getLast? == some 10
def bareL (s:List UInt8):List UInt8:=if feedB s then s.dropLast else s
theorem Zmv (xs:List (List UInt8)):Lib.join xs []=xs.flatten:=by
 induction xs with
 | nil=>rfl
 | cons x r ih =>
  rw[Lib.join_cons]
  simp[Lib.joinTail]
end

end Go.Proofs.YtkiaenncemfkcaaGreatDoor.Ln

namespace Go.Proofs.YtkiaenncemfkcaaGreatDoor

section
open Ln
theorem ZnP (s:List UInt8) (last:Bool):lineB s last=(linB s && (last || fdB s)):=by
 induction s with
 | nil=>rfl
 | cons c t ih =>
  cases t with
  | nil =>
   simp[lineB,linB,fdB]
  | cons d t =>
   have e1:linB (c::d::t)=(c != 10 && linB (d::t)):=by
    simp[linB,List.dropLast]
   have e2:fdB (c::d::t)=fdB (d::t):=by simp[fdB]
   rw[e1,e2,Bool.and_assoc,← ih]
   rfl
end

end Go.Proofs.YtkiaenncemfkcaaGreatDoor

namespace Go.Proofs.YtkiaenncemfkcaaGreatDoor.Q

section
def plainI (n:Int):Bool:=decide (32≤n∧n≤126∧n≠34∧n≠92)
def hexl:List UInt8:=[48,49,50,51,52,53,54,55,56,57,97,98,99,100,101,102]
def hexc (n:Nat):UInt8:=hexl.getD n 0
def q1 (c:UInt8):List UInt8:=if plainI c.toNat then [c] else [92,hexc (c.toNat / 16),hexc (c.toNat % 16)]
def digitI (n:Int):Int:=if 48≤n∧n≤57 then n-48 else if 97≤n∧n≤102 then n-87 else -1
def pairI (a b:UInt8):Int:=16 * digitI a.toNat+digitI b.toNat
def pairOk (a b:UInt8):Bool:=decide (0≤digitI a.toNat) && decide (0≤digitI b.toNat) && !(plainI (pairI a b))
def pv (a b:UInt8):Int:=if pairOk a b then pairI a b else 0
def body:List UInt8→Option (List UInt8 × List UInt8)
 | []=>none
 | c::t =>
  if c.toNat=34 then some ([],t)
  else if plainI c.toNat then (body t).map fun p=>(c::p.1,p.2)
  else if c.toNat=92 then
   match t with
   | a::b::t'=>if pairOk a b then (body t').map fun p=>(UInt8.ofNat (pairI a b).toNat::p.1,p.2) else none
   | _=>none
  else none
end

end Go.Proofs.YtkiaenncemfkcaaGreatDoor.Q

namespace Go.Proofs.YtkiaenncemfkcaaGreatDoor.Pn

section
def digB (c:UInt8):Bool:=decide (48≤c.toNat∧c.toNat≤57)
theorem Zgk {c:UInt8} (h:48≤c.toNat∧c.toNat≤57):digB c=true:=decide_eq_true h
theorem digB_out {c:UInt8} (h:digB c=true):48≤c.toNat∧c.toNat≤57:=of_decide_eq_true h
def isNum:List UInt8→Bool
 | []=>false
 | c::t=>!(decide (c.toNat=48) && !t.isEmpty) && (c::t).all digB
def sat:Int→List UInt8→Int
 | n,[]=>n
 | n,c::t=>sat (min (n * 10+((c.toNat:Int)-48)) 2147483648) t
def parseV (l:List UInt8):Int:=if isNum l=true∧sat 0 l≤2147483647 then sat 0 l else 0
def parseE (l:List UInt8):Int:=if isNum l=true then if sat 0 l≤2147483647 then 0 else 2 else 3
theorem ZxG:∀ (l:List UInt8),l.all digB=true→sat 2147483648 l=2147483648
 | [],_=>rfl
 | c::t,h=>by
  simp only[List.all_cons,Bool.and_eq_true] at h
  have h1:=digB_out h.1
  rw[sat]
  have e:min ((2147483648:Int) * 10+((c.toNat:Int)-48)) 2147483648=2147483648:=by omega
  rw[e]
  exact ZxG t h.2
theorem ZBS {l:List UInt8} (h:isNum l=false):0=parseV l∧3=parseE l:=by simp[parseV,parseE,h]
theorem ZrT {l:List UInt8} (h:isNum l=true) (h2:sat 0 l=2147483648):0=parseV l∧2=parseE l:=by simp[parseV,parseE,h,h2]
theorem ZrX {l:List UInt8} (h:isNum l=true) {n:Int} (h2:sat 0 l=n) (h3:n≤2147483647):n=parseV l∧0=parseE l:=by simp[parseV,parseE,h,h2,h3]
theorem isNum_all {l:List UInt8} (h:isNum l=true):l.all digB=true:=by
 cases l with
 | nil=>simp[isNum] at h
 | cons c t=>rw[isNum,Bool.and_eq_true] at h;exact h.2
theorem ZbK {l:List UInt8} (h:l.all digB=true) (k:Nat) (hk:k<l.length):48≤l[k].toNat∧l[k].toNat≤57 :=
 digB_out (List.all_eq_true.1 h _ (List.getElem_mem hk))
theorem ZbM {l:List UInt8} (h:l.all digB=true) (k:Nat):(l.drop k).all digB=true :=
 List.all_eq_true.2 fun x hx=>List.all_eq_true.1 h x (List.mem_of_mem_drop hx)
theorem ZBR {l:List UInt8} (k:Nat) (hk:k<l.length) (h:¬ (48≤l[k].toNat∧l[k].toNat≤57)):isNum l=false:=by
 cases hn:isNum l
 ·rfl
 ·exact absurd (ZbK (isNum_all hn) k hk) h
theorem Zmo {c d:UInt8} {t:List UInt8} (h:c.toNat=48):isNum (c::d::t)=false:=by simp[isNum,h]
theorem Zmn {c:UInt8} {t:List UInt8} (h:¬ (c.toNat=48∧t≠[])) (ha:∀ k (hk:k<(c::t).length),48≤(c::t)[k].toNat∧(c::t)[k].toNat≤57):isNum (c::t)=true:=by
 rw[isNum,Bool.and_eq_true]
 refine⟨?_,?_⟩
 ·cases t with
  | nil=>simp
  | cons d t=>simp at h ⊢;exact h
 ·refine List.all_eq_true.2 fun x hx=>?_
  obtain⟨k,hk,rfl⟩:=List.mem_iff_getElem.1 hx
  exact Zgk (ha k hk)
theorem ZxF {l:List UInt8} {k:Nat} (hk:k<l.length) (n:Int):sat n (l.drop k)=sat (min (n * 10+((l[k].toNat:Int)-48)) 2147483648) (l.drop (k+1)):=by
 rw[List.drop_eq_getElem_cons hk,sat]
end

end Go.Proofs.YtkiaenncemfkcaaGreatDoor.Pn

namespace Go.Proofs.YtkiaenncemfkcaaGreatDoor

section
open Q Pn
theorem Zgc (m:Nat):(Lib.decDigits m).all digB=true:=by
 induction m using Nat.strongRecOn with
 | _ m ih =>
  rw[Lib.decDigits]
  split
  ·simp[digB];omega
  ·rw[List.all_append,ih (m / 10) (by omega)]
   simp[digB];omega
theorem Zgf (m:Nat):Lib.decDigits m≠[]:=by
 rw[Lib.decDigits];split<;>simp
theorem Zgd (m:Nat) (h:0<m):∃ c t,Lib.decDigits m=c::t∧c.toNat≠48:=by
 induction m using Nat.strongRecOn with
 | _ m ih =>
  rw[Lib.decDigits]
  split
  ·refine⟨_,[],rfl,?_⟩
   simp;omega
  ·obtain⟨c,t,e,hc⟩:=ih (m / 10) (by omega) (by omega)
   exact⟨c,t++[UInt8.ofNat (48+m % 10)],by rw[e];rfl,hc⟩
theorem Zge (m:Nat):isNum (Lib.decDigits m)=true:=by
 by_cases h:m=0
 ·subst h
  rw[Lib.decDigits];decide
 ·obtain⟨c,t,e,hc⟩:=Zgd m (by omega)
  have ha:=Zgc m
  rw[e] at ha ⊢
  rw[isNum,ha]
  simp[hc]
theorem ZxD:∀ (a b:List UInt8) (n:Int),sat n (a++b)=sat (sat n a) b
 | [],_,_=>rfl
 | c::t,b,n=>by rw[List.cons_append,sat,ZxD t b,sat]
theorem Zgg (m:Nat):sat 0 (Lib.decDigits m)=min (m:Int) 2147483648:=by
 induction m using Nat.strongRecOn with
 | _ m ih =>
  rw[Lib.decDigits]
  split
  ·rename_i h
   have e:((UInt8.ofNat (48+m)).toNat:Int)=48+m:=by simp only[UInt8.toNat_ofNat'];omega
   rw[sat,sat,e];omega
  ·rename_i h
   have e:((UInt8.ofNat (48+m % 10)).toNat:Int)=48+(m % 10:Nat):=by simp only[UInt8.toNat_ofNat'];omega
   rw[ZxD,ih (m / 10) (by omega),sat,sat,e]
   omega
theorem Zms (m:Nat):Lib.itoa (m:Int)=Lib.decDigits m:=by simp[Lib.itoa]
theorem ZrW {n:Int} (h:0≤n) (h2:n≤2147483647):parseV (Lib.itoa n)=n∧parseE (Lib.itoa n)=0:=by
 obtain⟨m,rfl⟩:=Int.eq_ofNat_of_zero_le h
 rw[Zms]
 have:=ZrX (Zge m) (Zgg m) (by omega)
 exact⟨by rw[← this.1];omega,this.2.symm⟩
end

section
open Ln
def markT:List UInt8:=[92,32,78,111,32,110,101,119,108,105,110,101,32,97,116,32,101,110,100,32,111,102,32,102,105,108,101,10]
def rngT (p n:Int):List UInt8:=if n=1 then Lib.itoa (p+1) else Lib.itoa (p+1)++44::Lib.itoa (p+n)
def lnL (ah s:List UInt8):List (List UInt8):=if fdB s=true then [ah++s] else [ah++s++[10],markT]
def cmdT (c:Ch):List UInt8:=if c.AN=0 then Lib.itoa c.A++97::rngT c.B c.BN else if c.BN=0 then rngT c.A c.AN++100::Lib.itoa c.B else rngT c.A c.AN++99::rngT c.B c.BN
def sepL (c:Ch):List (List UInt8):=if 0<c.AN∧0<c.BN then [[45,45,45,10]] else []
def chgL (a b:List (List UInt8)) (c:Ch):List (List UInt8):=(cmdT c++[10])::((cut a c.A c.AN).flatMap (lnL [60,32])++(sepL c++(cut b c.B c.BN).flatMap (lnL [62,32])))
def prtL (l:List Ch) (a b:List (List UInt8)):List (List UInt8):=l.flatMap (chgL a b)
def prtT (l:List Ch) (a b:List (List UInt8)):List UInt8:=(prtL l a b).flatten
def nxt (p:Nat):List (List UInt8)→Except (Nat × Int) (List UInt8 × List (List UInt8))
 | []=>.error (p+1,1)
 | s::r=>if fdB s=true then .ok (s.dropLast,r) else .error (p+1,3)
def pkM:List (List UInt8)→Bool
 | []=>false
 | s::_=>markT.isPrefixOf s
def mkd (sg:List UInt8) (last:Bool) (p:Nat) (ls:List (List UInt8)):Except (Nat × Int) (List UInt8 × Nat × List (List UInt8)) :=
 match nxt p ls with
 | .error e=>.error e
 | .ok (s,r)=>if sg.isPrefixOf s=true then if (last && pkM r)=true then if s.drop sg.length=[] then .error (p+2,3) else .ok (s.drop sg.length,p+2,r.tail) else .ok (s.drop sg.length++[10],p+1,r) else .error (p+1,3)
def rdN (sg:List UInt8) (S:Int):Nat→Nat→List (List UInt8)→Except (Nat × Int) (List Mk × Nat × List (List UInt8))
 | 0,p,ls=>.ok ([],p,ls)
 | n+1,p,ls=>match mkd sg (n == 0) p ls with
  | .error e=>.error e
  | .ok (t,p1,r)=>match rdN sg S n p1 r with
   | .error e=>.error e
   | .ok (l,p2,r2)=>.ok (⟨S,t⟩::l,p2,r2)
def sepP (p:Nat) (ls:List (List UInt8)):Except (Nat × Int) (Nat × List (List UInt8)) :=
 match nxt p ls with
 | .error e=>.error e
 | .ok (s,r)=>if s=[45,45,45] then .ok (p+1,r) else .error (p+1,3)
def spB (q:UInt8→Bool):List UInt8→Option (List UInt8 × UInt8 × List UInt8)
 | []=>none
 | c::t=>if q c=true then some ([],c,t) else match spB q t with
  | none=>none
  | some (a,d,b)=>some (c::a,d,b)
def isC (c:UInt8):Bool:=c == 97 || c == 99 || c == 100
def isK (c:UInt8):Bool:=c == 44
def lnsP (s:List UInt8):Option (Int × Int):=match spB isK s with
 | some (x,_,y)=>if Pn.parseE x=0∧Pn.parseE y=0∧1≤Pn.parseV x∧Pn.parseV x<Pn.parseV y then some (Pn.parseV x,Pn.parseV y-Pn.parseV x+1) else none
 | none=>if Pn.parseE s=0∧1≤Pn.parseV s then some (Pn.parseV s,1) else none
def oneP (s:List UInt8):Option (Int × Int):=if Pn.parseE s=0 then some (Pn.parseV s,0) else none
def cmdP (s:List UInt8):Option (Int × Int × Int × Int):=match spB isC s with
 | none=>none
 | some (x,c,y)=>match (if c=97 then oneP x else lnsP x),(if c=100 then oneP y else lnsP y) with
  | some (A,AN),some (B,BN)=>some (A,AN,B,BN)
  | _,_=>none
def hkP (k p:Nat) (ls:List (List UInt8)):Except (Nat × Int) (Hk × Nat × List (List UInt8)) :=
 match nxt p ls with
 | .error e=>.error e
 | .ok (s,r)=>match cmdP s with
  | none=>.error (p+1,3)
  | some (A,AN,B,BN)=>if 4096≤k then .error (p+1,9) else match rdN [60,32] 45 AN.toNat (p+1) r with
   | .error e=>.error e
   | .ok (l1,p1,r1)=>match (if 0<AN∧0<BN then sepP p1 r1 else .ok (p1,r1)) with
    | .error e=>.error e
    | .ok (p2,r2)=>match rdN [62,32] 43 BN.toNat p2 r2 with
     | .error e=>.error e
     | .ok (l2,p3,r3)=>.ok (⟨A,AN,B,BN,l1++l2⟩,p3,r3)
def hksP:Nat→Nat→Nat→List (List UInt8)→Except (Nat × Int) (List Hk)
 | 0,_,_,_=>.ok []
 | f+1,k,p,ls=>if ls=[] then .ok [] else match hkP k p ls with
  | .error e=>.error e
  | .ok (h,p1,r)=>match hksP f (k+1) p1 r with
   | .error e=>.error e
   | .ok l=>.ok (h::l)
def prsT (t:List UInt8):Except (Nat × Int) (List Hk):=if 1048576<t.length then .error (0,9) else hksP (splitL t).length 0 0 (splitL t)
theorem Ziq (s:List UInt8):fdB (s++[10])=true:=by simp[fdB]
end

section
open Ln
def numC (c:UInt8):Bool:=Pn.digB c || c == 44
theorem Zmr {n:Int} (h:0≤n):∀ c∈Lib.itoa n,Pn.digB c=true:=by
 intro c hc
 obtain⟨m,rfl⟩:∃ m:Nat,n=m:=⟨n.toNat,by omega⟩
 rw[Zms] at hc
 exact (List.all_eq_true.1 (Zgc m)) c hc
theorem Zmt {n:Int} (h:0≤n):Lib.itoa n≠[]:=by
 obtain⟨m,rfl⟩:∃ m:Nat,n=m:=⟨n.toNat,by omega⟩
 rw[Zms]
 exact Zgf m
theorem Zwb {p n:Int} (hp:0≤p) (hn:1≤n):∀ c∈rngT p n,numC c=true:=by
 intro c hc
 unfold rngT at hc
 unfold numC
 split at hc
 ·rw[Zmr (by omega) c hc];rfl
 ·rcases List.mem_append.1 hc with hc | hc
  ·rw[Zmr (by omega) c hc];rfl
  ·rcases List.mem_cons.1 hc with rfl | hc
   ·simp
   ·rw[Zmr (by omega) c hc];rfl
theorem Zgn {c:UInt8} (h:Pn.digB c=true):isC c=false∧isK c=false∧c≠10∧c≠92:=by
 have h1:=Pn.digB_out h
 refine⟨?_,?_,?_,?_⟩
 ·unfold isC
  simp only[Bool.or_eq_false_iff,beq_eq_false_iff_ne]
  refine⟨⟨?_,?_⟩,?_⟩<;>(rintro rfl;simp at h1)
 ·unfold isK
  rw[beq_eq_false_iff_ne]
  rintro rfl
  simp at h1
 ·rintro rfl
  simp at h1
 ·rintro rfl
  simp at h1
theorem ZqD {c:UInt8} (h:numC c=true):isC c=false∧c≠10∧c≠92:=by
 unfold numC at h
 rcases Bool.or_eq_true_iff.1 h with h | h
 ·have:=Zgn h
  exact⟨this.1,this.2.2.1,this.2.2.2⟩
 ·have:c=44:=by simpa using h
  subst this
  decide
theorem Zyu {q:UInt8→Bool} {x y:List UInt8} {d:UInt8} (hx:∀ c∈x,q c=false) (hd:q d=true):spB q (x++d::y)=some (x,d,y):=by
 induction x with
 | nil=>simp[spB,hd]
 | cons c x ih =>
  simp only[List.cons_append,spB]
  rw[if_neg (by rw[hx c (by simp)];decide),ih fun z hz=>hx z (by simp[hz])]
theorem Zyw {q:UInt8→Bool} {x:List UInt8} (hx:∀ c∈x,q c=false):spB q x=none:=by
 induction x with
 | nil=>rfl
 | cons c x ih =>
  simp only[spB]
  rw[if_neg (by rw[hx c (by simp)];decide),ih fun z hz=>hx z (by simp[hz])]
theorem Zod {p n:Int} (hp:0≤p) (hn:1≤n) (hb:p+n≤2147483647):lnsP (rngT p n)=some (p+1,n):=by
 unfold rngT
 by_cases h1:n=1
 ·rw[if_pos h1]
  unfold lnsP
  rw[Zyw (fun c hc=>(Zgn (Zmr (by omega) c hc)).2.1)]
  obtain⟨e1,e2⟩:=ZrW (n:=p+1) (by omega) (by omega)
  have hc:Pn.parseE (Lib.itoa (p+1))=0∧1≤Pn.parseV (Lib.itoa (p+1)):=⟨e2,by rw[e1];omega⟩
  simp only
  rw[if_pos hc,e1,h1]
 ·rw[if_neg h1]
  unfold lnsP
  rw[Zyu (fun c hc=>(Zgn (Zmr (by omega) c hc)).2.1) (by decide)]
  obtain⟨e1,e2⟩:=ZrW (n:=p+1) (by omega) (by omega)
  obtain⟨e3,e4⟩:=ZrW (n:=p+n) (by omega) (by omega)
  have hc:Pn.parseE (Lib.itoa (p+1))=0∧Pn.parseE (Lib.itoa (p+n))=0∧1≤Pn.parseV (Lib.itoa (p+1))∧Pn.parseV (Lib.itoa (p+1))<Pn.parseV (Lib.itoa (p+n)):=⟨e2,e4,by rw[e1];omega,by rw[e1,e3];omega⟩
  simp only
  rw[if_pos hc,e1,e3]
  congr 2
  omega
theorem ZqT {n:Int} (h:0≤n) (hb:n≤2147483647):oneP (Lib.itoa n)=some (n,0):=by
 unfold oneP
 obtain⟨e1,e2⟩:=ZrW h hb
 rw[if_pos e2,e1]
def noA (p n:Int):Int:=if 0<n then p+1 else p
theorem ZeT {c:Ch} (hn:numB c=true) (hA:c.A+c.AN≤2147483647) (hB:c.B+c.BN≤2147483647):cmdP (cmdT c)=some (noA c.A c.AN,c.AN,noA c.B c.BN,c.BN):=by
 have h:=(Zqy c).1 hn
 unfold cmdT cmdP noA
 by_cases h1:c.AN=0
 ·have hb:0<c.BN:=by omega
  rw[if_pos h1,Zyu (fun x hx=>(Zgn (Zmr (by omega) x hx)).1) (by decide)]
  simp only[if_true]
  rw[if_neg (by decide),ZqT (by omega) (by omega),Zod (by omega) (by omega) hB,h1,if_pos hb]
  rfl
 ·have ha:0<c.AN:=by omega
  rw[if_neg h1,if_pos ha]
  by_cases h2:c.BN=0
  ·rw[if_pos h2,Zyu (fun x hx=>(ZqD (Zwb (by omega) (by omega) x hx)).1) (by decide)]
   simp only[if_true]
   rw[if_neg (by decide),Zod (by omega) (by omega) hA,ZqT (by omega) (by omega),h2]
   rfl
  ·have hb:0<c.BN:=by omega
   rw[if_neg h2,Zyu (fun x hx=>(ZqD (Zwb (by omega) (by omega) x hx)).1) (by decide)]
   simp only
   rw[if_neg (by decide),if_neg (by decide),Zod (by omega) (by omega) hA,Zod (by omega) (by omega) hB,if_pos hb]
theorem ZeU {c:Ch} (hn:numB c=true):(∀ x∈cmdT c,x≠10)∧∃ y t,cmdT c=y::t∧y≠92:=by
 have h:=(Zqy c).1 hn
 have hd:∀ (n:Int) (t:List UInt8),0≤n→∃ y u,Lib.itoa n++t=y::u∧y≠92:=by
  intro n t h0
  cases hq:Lib.itoa n with
  | nil=>exact absurd hq (Zmt h0)
  | cons y u =>
   refine⟨y,u++t,rfl,?_⟩
   exact (Zgn (Zmr h0 y (by rw[hq];simp))).2.2.2
 have hr:∀ (p n:Int) (t:List UInt8),0≤p→∃ y u,rngT p n++t=y::u∧y≠92:=by
  intro p n t h0
  unfold rngT
  split
  ·exact hd _ _ (by omega)
  ·rw[List.append_assoc]
   exact hd _ _ (by omega)
 unfold cmdT
 split
 ·rename_i h1
  refine⟨?_,hd _ _ (by omega)⟩
  intro x hx
  rcases List.mem_append.1 hx with hx | hx
  ·exact (Zgn (Zmr (by omega) x hx)).2.2.1
  ·rcases List.mem_cons.1 hx with rfl | hx
   ·decide
   ·exact (ZqD (Zwb (by omega) (by omega) x hx)).2.1
 ·split
  ·refine⟨?_,hr _ _ _ (by omega)⟩
   intro x hx
   rcases List.mem_append.1 hx with hx | hx
   ·exact (ZqD (Zwb (by omega) (by omega) x hx)).2.1
   ·rcases List.mem_cons.1 hx with rfl | hx
    ·decide
    ·exact (Zgn (Zmr (by omega) x hx)).2.2.1
  ·refine⟨?_,hr _ _ _ (by omega)⟩
   intro x hx
   rcases List.mem_append.1 hx with hx | hx
   ·exact (ZqD (Zwb (by omega) (by omega) x hx)).2.1
   ·rcases List.mem_cons.1 hx with rfl | hx
    ·decide
    ·exact (ZqD (Zwb (by omega) (by omega) x hx)).2.1
def Rows:List (List UInt8)→Prop
 | []=>True
 | x::r=>linB x=true∧(r≠[]→fdB x=true)∧Rows r
theorem ZnK {x:List UInt8} (h:linB x=true):x≠[]∧∀ c∈x.dropLast,c≠10:=by
 unfold linB at h
 simp only[Bool.and_eq_true] at h
 refine⟨?_,fun c hc=>?_⟩
 ·rintro rfl
  simp at h
 ·have:=(List.all_eq_true.1 h.2) c hc
  simpa using this
theorem Zin {x:List UInt8} (h:fdB x=true):x=x.dropLast++[10]:=by
 unfold fdB at h
 have h1:x.getLast?=some 10:=by simpa using h
 obtain⟨q,rfl⟩:=List.getLast?_eq_some_iff.1 h1
 simp
theorem Zil {ah x:List UInt8} (h:fdB x=true):fdB (ah++x)=true∧(ah++x).dropLast=ah++x.dropLast:=by
 have e:=Zin h
 rw[e,← List.append_assoc]
 refine⟨Ziq _,?_⟩
 simp
theorem ZuP (ah:List UInt8) (S:Int) (xs:List (List UInt8)):∀ (p:Nat) (rest:List (List UInt8)),Rows xs→pkM rest=false→∃ p',rdN ah S xs.length p (xs.flatMap (lnL ah)++rest)=.ok (mks S xs,p',rest):=by
 induction xs with
 | nil=>intro p rest _ _;exact⟨p,rfl⟩
 | cons x xs ih =>
  intro p rest hR hp
  obtain⟨h1,h2,h3⟩:=hR
  simp only[List.length_cons,rdN,List.flatMap_cons,List.append_assoc]
  cases hf:fdB x with
  | true =>
   have hl:lnL ah x=[ah++x]:=by unfold lnL;rw[if_pos hf]
   obtain⟨e1,e2⟩:=Zil (ah:=ah) hf
   have hm:mkd ah (xs.length == 0) p ([ah++x]++(xs.flatMap (lnL ah)++rest))=.ok (x,p+1,xs.flatMap (lnL ah)++rest):=by
    unfold mkd
    simp only[List.singleton_append,nxt,e1,if_true,e2]
    rw[if_pos (by simp),if_neg ?_]
    ·simp only[List.drop_left]
     rw[← Zin hf]
    ·cases xs with
     | nil=>simp[hp]
     | cons y ys=>simp
   rw[hl,hm]
   obtain⟨p',hq⟩:=ih (p+1) rest h3 hp
   simp only[hq]
   exact⟨p',rfl⟩
  | false =>
   have hx:xs=[]:=by
    cases xs with
    | nil=>rfl
    | cons y ys=>have:=h2 (by simp);rw[hf] at this;cases this
   subst hx
   have hl:lnL ah x=[ah++x++[10],markT]:=by unfold lnL;rw[if_neg (by rw[hf];decide)]
   have hm:mkd ah (([]:List (List UInt8)).length == 0) p ([ah++x++[10],markT]++(([]:List (List UInt8)).flatMap (lnL ah)++rest))=.ok (x,p+2,rest):=by
    unfold mkd
    simp only[List.cons_append,List.nil_append,nxt,Ziq,if_true,List.dropLast_concat]
    rw[if_pos (by simp),if_pos (by simp[pkM]),if_neg (by simp only[List.drop_left];exact (ZnK h1).1)]
    simp
   rw[hl,hm]
   exact⟨p+2,rfl⟩
theorem ZsD {ah:List UInt8} {xs rest:List (List UInt8)} (ha:ah.head?=some 62) (hp:pkM rest=false):pkM (xs.flatMap (lnL ah)++rest)=false:=by
 cases xs with
 | nil=>exact hp
 | cons x xs =>
  cases ah with
  | nil=>cases ha
  | cons y ah =>
   simp only[List.head?_cons,Option.some.injEq] at ha
   subst ha
   rw[List.flatMap_cons,lnL]
   split<;>rfl
theorem ZkT {a b:List (List UInt8)} {c:Ch} {k p:Nat} {rest:List (List UInt8)} (hn:numB c=true) (hA:c.A+c.AN≤2147483647) (hB:c.B+c.BN≤2147483647) (hAl:(cut a c.A c.AN).length=c.AN.toNat) (hBl:(cut b c.B c.BN).length=c.BN.toNat) (hRa:Rows (cut a c.A c.AN)) (hRb:Rows (cut b c.B c.BN)) (hk:k<4096) (hp:pkM rest=false):∃ p',hkP k p (chgL a b c++rest)=.ok (⟨noA c.A c.AN,c.AN,noA c.B c.BN,c.BN,mks 45 (cut a c.A c.AN)++mks 43 (cut b c.B c.BN)⟩,p',rest):=by
 have hb:=ZsD (ah:=[62,32]) (xs:=cut b c.B c.BN) (rest:=rest) (by decide) hp
 have hs:pkM (sepL c++((cut b c.B c.BN).flatMap (lnL [62,32])++rest))=false:=by
  unfold sepL
  split
  ·rfl
  ·exact hb
 obtain⟨p1,h1⟩:=ZuP [60,32] 45 (cut a c.A c.AN) (p+1) (sepL c++((cut b c.B c.BN).flatMap (lnL [62,32])++rest)) hRa hs
 have h2:∃ p2,(if 0<c.AN∧0<c.BN then sepP p1 (sepL c++((cut b c.B c.BN).flatMap (lnL [62,32])++rest)) else .ok (p1,sepL c++((cut b c.B c.BN).flatMap (lnL [62,32])++rest)))=.ok (p2,(cut b c.B c.BN).flatMap (lnL [62,32])++rest):=by
  unfold sepL
  by_cases hq:0<c.AN∧0<c.BN
  ·rw[if_pos hq,if_pos hq]
   refine⟨p1+1,?_⟩
   unfold sepP
   rfl
  ·rw[if_neg hq,if_neg hq]
   exact⟨p1,rfl⟩
 obtain⟨p2,h2⟩:=h2
 obtain⟨p3,h3⟩:=ZuP [62,32] 43 (cut b c.B c.BN) p2 rest hRb hp
 refine⟨p3,?_⟩
 rw[hAl] at h1
 rw[hBl] at h3
 unfold hkP chgL
 simp only[List.cons_append,nxt,Ziq,if_true,List.dropLast_concat,ZeT hn hA hB,List.append_assoc]
 rw[if_neg (by omega)]
 simp only[h1,h2,h3]
end

section
open Ln
theorem Zwp {a:List (List UInt8)} (h:checkB a=true):Rows a:=by
 induction a with
 | nil=>trivial
 | cons s t ih =>
  simp only[checkB,Bool.and_eq_true] at h
  have h1:=h.1
  rw[ZnP] at h1
  simp only[Bool.and_eq_true,Bool.or_eq_true] at h1
  refine⟨h1.1,fun hne=>?_,ih h.2⟩
  rcases h1.2 with h2 | h2
  ·cases t with
   | nil=>exact absurd rfl hne
   | cons=>cases h2
  ·exact h2
theorem Zwm {a:List (List UInt8)} (n:Nat) (h:Rows a):Rows (a.drop n):=by
 induction n generalizing a with
 | zero=>exact h
 | succ n ih =>
  cases a with
  | nil=>trivial
  | cons s t=>exact ih h.2.2
theorem Zwq {a:List (List UInt8)} (n:Nat) (h:Rows a):Rows (a.take n):=by
 induction n generalizing a with
 | zero=>trivial
 | succ n ih =>
  cases a with
  | nil=>trivial
  | cons s t =>
   refine⟨h.1,fun hne=>h.2.1 fun e=>?_,ih h.2.2⟩
   subst e
   simp at hne
theorem Zwl {a:List (List UInt8)} (h:checkB a=true) (p n:Int):Rows (cut a p n):=Zwq _ (Zwm _ (Zwp h))
theorem Zwo {a:List (List UInt8)} (h:Rows a):∀ x∈a,linB x=true:=by
 induction a with
 | nil=>intro x hx;cases hx
 | cons s t ih =>
  intro x hx
  rcases List.mem_cons.1 hx with rfl | hx
  ·exact h.1
  ·exact ih h.2.2 x hx
theorem Zqv {no sg:Int} (t:List (List UInt8)):pkL no (mks sg t)=if sg≠no∧okS sg=true then t else []:=by
 induction t with
 | nil=>simp[mks,pkL]
 | cons s t ih =>
  have e:mks sg (s::t)=⟨sg,s⟩::mks sg t:=rfl
  rw[e,pkL,ih]
  split<;>rfl
theorem ZqY {a b:List (List UInt8)} {c:Ch} (hn:numB c=true) (hA:c.A+c.AN≤a.length) (hB:c.B+c.BN≤b.length):oneH a b 0 [c]=⟨noA c.A c.AN,c.AN,noA c.B c.BN,c.BN,mks 45 (cut a c.A c.AN)++mks 43 (cut b c.B c.BN)⟩:=by
 have h:=(Zqy c).1 hn
 have e:bodyH a b (min (a.length:Int) (c.A+c.AN+0)) (c.A-min 0 c.A) [c]=mks 45 (cut a c.A c.AN)++mks 43 (cut b c.B c.BN):=by
  rw[show min (a.length:Int) (c.A+c.AN+0)=c.A+c.AN by omega,show c.A-min 0 c.A=c.A by omega]
  simp only[bodyH]
  rw[show c.A-c.A=(0:Int) by omega,show c.A+c.AN-(c.A+c.AN)=(0:Int) by omega,Zga,Zga]
  simp[mks]
 have l1:((cut a c.A c.AN).length:Int)=c.AN:=ZkA (by omega) (by omega) hA
 have l2:((cut b c.B c.BN).length:Int)=c.BN:=ZkA (by omega) (by omega) hB
 have p1:pkL 43 (mks 45 (cut a c.A c.AN)++mks 43 (cut b c.B c.BN))=cut a c.A c.AN:=by
  rw[Zsw,Zqv,Zqv,if_pos (by decide),if_neg (by decide),List.append_nil]
 have p2:pkL 45 (mks 45 (cut a c.A c.AN)++mks 43 (cut b c.B c.BN))=cut b c.B c.BN:=by
  rw[Zsw,Zqv,Zqv,if_neg (by decide),if_pos (by decide),List.nil_append]
 show cntH (c.A-min 0 c.A) (c.B-min 0 c.A) (bodyH a b (min (a.length:Int) (c.A+c.AN+0)) (c.A-min 0 c.A) [c])=_
 rw[e]
 unfold cntH noA
 rw[p1,p2,l1,l2,show c.A-min 0 c.A=c.A by omega,show c.B-min 0 c.A=c.B by omega]
 have q1:(0<(cut a c.A c.AN).length)=(0<c.AN):=propext ⟨fun q=>by omega,fun q=>by omega⟩
 have q2:(0<(cut b c.B c.BN).length)=(0<c.BN):=propext ⟨fun q=>by omega,fun q=>by omega⟩
 simp only[q1,q2]
theorem Zvs {fl:Bool} {p q n m:Int} {l:List Ch} (h:Right fl p q n m l):∀ c∈l,numB c=true∧c.A+c.AN≤n∧c.B+c.BN≤m:=by
 induction l generalizing fl p q with
 | nil=>intro c hc;cases hc
 | cons x l ih =>
  intro c hc
  rcases List.mem_cons.1 hc with rfl | hc
  ·exact⟨h.1.1,h.2.le.1,h.2.le.2.1⟩
  ·exact ih h.2 c hc
theorem mk_zero {l:List Ch} {a b:List (List UInt8)} (hs:Script l a.length b.length):mkR l a b 0=l.map fun c=>oneH a b 0 [c]:=by
 rw[(Zpv hs (by omega)).1,Zkl l _ _ _ _ _ hs.2.2]
 simp
theorem ZsH {l:List Ch} {a b:List (List UInt8)} (h:∀ c∈l,numB c=true):pkM (prtL l a b)=false:=by
 cases l with
 | nil=>rfl
 | cons c l =>
  obtain⟨_,y,t,e,hy⟩:=ZeU (h c (by simp))
  unfold prtL
  rw[List.flatMap_cons,chgL,e]
  simp only[List.cons_append,pkM,markT,List.isPrefixOf]
  have:((92:UInt8) == y)=false:=by rw[beq_eq_false_iff_ne];exact fun q=>hy q.symm
  rw[this]
  rfl
theorem Zlb {a b:List (List UInt8)} (ha:checkB a=true) (hb:checkB b=true) (hal:a.length≤2147483647) (hbl:b.length≤2147483647) (l:List Ch):∀ (f k p:Nat),(∀ c∈l,numB c=true∧c.A+c.AN≤a.length∧c.B+c.BN≤b.length)→k+l.length≤4096→(prtL l a b).length≤f→hksP f k p (prtL l a b)=.ok (l.map fun c=>oneH a b 0 [c]):=by
 induction l with
 | nil =>
  intro f k p _ _ _
  cases f<;>rfl
 | cons c l ih =>
  intro f k p h hk hf
  have hc:=h c (by simp)
  have hn:=(Zqy c).1 hc.1
  have e:prtL (c::l) a b=chgL a b c++prtL l a b:=rfl
  rw[e] at hf ⊢
  have l1:((cut a c.A c.AN).length:Int)=c.AN:=ZkA (by omega) (by omega) hc.2.1
  have l2:((cut b c.B c.BN).length:Int)=c.BN:=ZkA (by omega) (by omega) hc.2.2
  obtain⟨p',hh⟩:=ZkT (k:=k) (p:=p) (rest:=prtL l a b) hc.1 (by omega) (by omega) (by omega) (by omega) (Zwl ha c.A c.AN) (Zwl hb c.B c.BN) (by simp at hk;omega) (ZsH fun x hx=>(h x (by simp[hx])).1)
  have hlen:1≤(chgL a b c).length:=by simp[chgL]
  rw[List.length_append] at hf
  cases f with
  | zero=>omega
  | succ f =>
   have hi:=ih f (k+1) p' (fun x hx=>h x (by simp[hx])) (by simp at hk;omega) (by omega)
   simp only[hksP]
   rw[if_neg (by simp[chgL]),hh]
   simp only[hi]
   simp only[List.map_cons]
   rw[ZqY hc.1 hc.2.1 hc.2.2]
def Fed (ls:List (List UInt8)):Prop:=∀ s∈ls,∃ t,s=t++[10]∧∀ c∈t,c≠10
theorem Zir {ls:List (List UInt8)} (h:Fed ls):checkB ls=true:=by
 induction ls with
 | nil=>rfl
 | cons s r ih =>
  obtain⟨t,e,ht⟩:=h s (by simp)
  simp only[checkB,Bool.and_eq_true]
  refine⟨?_,ih fun x hx=>h x (by simp[hx])⟩
  rw[e]
  exact ZnO ht _
theorem Zit {ah x:List UInt8} (ha:∀ c∈ah,c≠10) (hx:linB x=true):Fed (lnL ah x):=by
 obtain⟨h0,h1⟩:=ZnK hx
 unfold lnL
 split
 ·rename_i hf
  intro s hs
  rw[List.mem_singleton.1 hs]
  refine⟨ah++x.dropLast,?_,?_⟩
  ·rw[List.append_assoc,← Zin hf]
  ·intro c hc
   rcases List.mem_append.1 hc with hc | hc
   ·exact ha c hc
   ·exact h1 c hc
 ·rename_i hf
  intro s hs
  rcases List.mem_cons.1 hs with rfl | hs
  ·refine⟨ah++x,rfl,?_⟩
   intro c hc
   rcases List.mem_append.1 hc with hc | hc
   ·exact ha c hc
   ·intro e
    subst e
    rcases List.eq_nil_or_concat x with rfl | ⟨q,y,rfl⟩
    ·cases hc
    ·rw[List.concat_eq_append] at hc hf h1
     rcases List.mem_append.1 hc with hc | hc
     ·exact h1 10 (by simpa using hc) rfl
     ·have:y=10:=(List.mem_singleton.1 hc).symm
      subst this
      exact hf (Ziq q)
  ·rw[List.mem_singleton.1 hs]
   refine⟨markT.dropLast,rfl,?_⟩
   decide
theorem Ziu {a b:List (List UInt8)} (ha:checkB a=true) (hb:checkB b=true) {l:List Ch} (h:∀ c∈l,numB c=true):Fed (prtL l a b):=by
 intro s hs
 obtain⟨c,hc,hs⟩:=List.mem_flatMap.1 hs
 unfold chgL at hs
 rcases List.mem_cons.1 hs with rfl | hs
 ·exact⟨cmdT c,rfl,(ZeU (h c hc)).1⟩
 ·rcases List.mem_append.1 hs with hs | hs
  ·obtain⟨x,hx,hs⟩:=List.mem_flatMap.1 hs
   exact Zit (by decide) (Zwo (Zwl ha c.A c.AN) x hx) s hs
  ·rcases List.mem_append.1 hs with hs | hs
   ·unfold sepL at hs
    split at hs
    ·rw[List.mem_singleton.1 hs]
     exact⟨[45,45,45],rfl,by decide⟩
    ·cases hs
   ·obtain⟨x,hx,hs⟩:=List.mem_flatMap.1 hs
    exact Zit (by decide) (Zwo (Zwl hb c.B c.BN) x hx) s hs
theorem ZyQ {a b:List (List UInt8)} (ha:checkB a=true) (hb:checkB b=true) {l:List Ch} (h:∀ c∈l,numB c=true):splitL (prtT l a b)=prtL l a b:=Zvv _ (Zir (Ziu ha hb h))
theorem Zqr {l:List Ch} {a b:List (List UInt8)} (hs:Script l a.length b.length) (ha:checkB a=true) (hb:checkB b=true) (hal:a.length≤1000000) (hbl:b.length≤1000000) (hl:l.length≤4096):prsT (prtT l a b)=if 1048576<(prtT l a b).length then .error (0,9) else .ok (mkR l a b 0):=by
 have hm:=Zvs hs.2.2
 unfold prsT
 rw[ZyQ ha hb fun c hc=>(hm c hc).1,Zlb ha hb (by omega) (by omega) l _ 0 0 hm (by omega) (Nat.le_refl _),mk_zero hs]
end

section
open Go.RowKit
attribute [local go_sem] ByteArray.extract_mk
theorem Zqp (l:List UInt8) (k:Nat) (h:k<(⟨l.toArray⟩:ByteArray).size):(⟨l.toArray⟩:ByteArray)[k]'h=l[k]'(h):=rfl
attribute [local go_sem] Zqp
def bareT (s:List UInt8):List UInt8:=if fdB s=true then s.dropLast else s
end

section
theorem Zcf (a b:List UInt8):((⟨a.toArray⟩:ByteArray)++(⟨b.toArray⟩:ByteArray))=⟨(a++b).toArray⟩:=by
 apply ByteArray.ext
 simp
end

section
open Go.RowKit
theorem Zgh:∀ (n m:Nat),m<10 ^ (n+1)→(Lib.decDigits m).length≤n+1
 | 0,m,h=>by rw[Lib.decDigits,dif_pos (by simpa using h)];simp
 | n+1,m,h=>by
  rw[Lib.decDigits]
  split
  ·simp
  ·have h2:m / 10<10 ^ (n+1):=by
    rw[Nat.div_lt_iff_lt_mul (by omega),← Nat.pow_succ];exact h
   have:=Zgh n (m / 10) h2
   simp;omega
theorem Zmu (n:Int) (h0:-9223372036854775808≤n) (h1:n≤9223372036854775807):(Lib.itoa n).length≤21:=by
 have hal:(Lib.decDigits n.natAbs).length≤20:=Zgh 19 n.natAbs (by omega)
 unfold Lib.itoa
 split
 ·simp only[List.length_cons]
  omega
 ·have e:n.toNat=n.natAbs:=by omega
  rw[e]
  omega
end

section
open Go.RowKit
attribute [local go_sem] ByteArray.extract_mk Zqp
end

section
open Go.RowKit
def Fits (x y:List UInt8):Prop:=x.length+y.length≤4611686018427387904
theorem Zbw {x y:List UInt8} (h:Fits x y) (P:Program) (u:World):(Op.stringOp .add ⟨x.toArray⟩ ⟨y.toArray⟩).run P u=.ok (.string ⟨(x++y).toArray⟩) u:=by
 unfold Fits at h
 have e:¬ (((⟨x.toArray⟩:ByteArray).size+(⟨y.toArray⟩:ByteArray).size:Nat):Int) > IntKind.i64.max:=by
  have h1:(⟨x.toArray⟩:ByteArray).size=x.length:=rfl
  have h2:(⟨y.toArray⟩:ByteArray).size=y.length:=rfl
  have h3:IntKind.i64.max=9223372036854775807:=rfl
  rw[h1,h2,h3]
  omega
 unfold Op.stringOp
 dsimp only
 rw[if_neg e,Zcf]
 rfl
structure Cs (c:Ch) (b:Nat) (W w:World):Prop where
 c0:w.cell? ⟨b,0,none⟩=some (.int .i64 c.A)
 c1:w.cell? ⟨b,1,none⟩=some (.int .i64 c.AN)
 c2:w.cell? ⟨b,2,none⟩=some (.int .i64 c.B)
 c3:w.cell? ⟨b,3,none⟩=some (.int .i64 c.BN)
 lt:b<w.heap.size
 low:Below W.heap.size W w
theorem Cs.keep {c:Ch} {b:Nat} {W w w':World} (h:Cs c b W w) (hb:Below w.heap.size w w'):Cs c b W w':=by
 have hk:∀ o,w'.cell? ⟨b,o,none⟩=w.cell? ⟨b,o,none⟩:=fun o=>by
  unfold World.cell?
  dsimp only
  rw[hb.block b h.lt]
 exact⟨(hk 0).trans h.c0,(hk 1).trans h.c1,(hk 2).trans h.c2,(hk 3).trans h.c3,Nat.lt_of_lt_of_le h.lt hb.size,h.low.trans (hb.mono h.low.size)⟩
theorem ZfI (c:Ch) (b:Nat) (W w:World):Cs c b W w.drew↔Cs c b W w:=⟨fun h=>⟨h.c0,h.c1,h.c2,h.c3,h.lt,(h.low.trans ⟨rfl,rfl,rfl,Nat.le_refl _,fun _ _=>rfl⟩:Below W.heap.size W w)⟩,fun h=>⟨h.c0,h.c1,h.c2,h.c3,h.lt,h.low.drew⟩⟩
attribute [local simp] ZfI
theorem Cs.fresh (c:Ch) (w:World):Cs c w.heap.size w (w.alloc (.cells #[.int .i64 c.A,.int .i64 c.AN,.int .i64 c.B,.int .i64 c.BN] 45)):=by
 have h:=heap_alloc_new w (.cells #[.int .i64 c.A,.int .i64 c.AN,.int .i64 c.B,.int .i64 c.BN] 45)
 have hk:∀ o,(w.alloc (.cells #[.int .i64 c.A,.int .i64 c.AN,.int .i64 c.B,.int .i64 c.BN] 45)).cell? ⟨w.heap.size,o,none⟩=(#[Value.int .i64 c.A,.int .i64 c.AN,.int .i64 c.B,.int .i64 c.BN])[o]?:=fun o=>by
  unfold World.cell?
  dsimp only
  rw[h]
  rfl
 exact⟨hk 0,hk 1,hk 2,hk 3,by rw[World.alloc];simp,(Below.refl _ w).alloc (Nat.le_refl _) _⟩
theorem Zwc (p n:Int) (h0:0≤p) (h1:p≤4611686018427387904) (h2:0≤n) (h3:n≤4611686018427387900):(rngT p n).length≤43:=by
 have l1:=Zmu (p+1) (by omega) (by omega)
 have l2:=Zmu (p+n) (by omega) (by omega)
 unfold rngT
 split
 ·omega
 ·simp only[List.length_append,List.length_cons]
  omega
end

section
open Go.RowKit
theorem ZnV (ah s:List UInt8):(lnL ah s).flatten.length≤ah.length+s.length+29:=by
 unfold lnL
 split<;>simp[markT]<;>omega
theorem Zof (ah:List UInt8) (x:List (List UInt8)):(x.flatMap (lnL ah)).flatten.length≤x.length * (ah.length+29)+x.flatten.length:=by
 induction x with
 | nil=>simp
 | cons s x ih =>
  have h:=ZnV ah s
  simp only[List.flatMap_cons,List.flatten_append,List.length_append,List.length_cons,List.flatten_cons]
  have e:(x.length+1) * (ah.length+29)=x.length * (ah.length+29)+(ah.length+29):=Nat.succ_mul _ _
  omega
end

section
theorem ZeV {c:Ch} (h:numB c=true):(cmdT c).length≤100:=by
 rw[Zqy] at h
 have r1:=Zwc c.A c.AN h.1.1 (by omega) h.2.1.1 (by omega)
 have r2:=Zwc c.B c.BN h.2.2.1.1 (by omega) h.2.2.2.1.1 (by omega)
 have r3:=Zmu c.A (by omega) (by omega)
 have r4:=Zmu c.B (by omega) (by omega)
 unfold cmdT
 split
 ·simp only[List.length_append,List.length_cons];omega
 ·split
  ·simp only[List.length_append,List.length_cons];omega
  ·simp only[List.length_append,List.length_cons];omega
theorem ZiP {a:List (List UInt8)} {p A AN:Int} (hp:0≤p) (hA:p≤A) (hN:0≤AN):(cut a A AN).flatten.length+(a.drop (A+AN).toNat).flatten.length≤(a.drop p.toNat).flatten.length:=by
 have e1:a.drop p.toNat=(a.drop p.toNat).take (A-p).toNat++a.drop A.toNat:=by
  have h:=(List.take_append_drop (A-p).toNat (a.drop p.toNat)).symm
  rw[List.drop_drop] at h
  have e:p.toNat+(A-p).toNat=A.toNat:=by omega
  rw[e] at h
  exact h
 have e2:a.drop A.toNat=cut a A AN++a.drop (A+AN).toNat:=by
  have h:=(List.take_append_drop AN.toNat (a.drop A.toNat)).symm
  rw[List.drop_drop] at h
  have e:A.toNat+AN.toNat=(A+AN).toNat:=by omega
  rw[e] at h
  exact h
 rw[e1,e2]
 simp only[List.flatten_append,List.length_append]
 omega
theorem ZfU (a:List (List UInt8)) (p n:Int):(cut a p n).length≤n.toNat:=by
 unfold cut
 rw[List.length_take]
 omega
theorem Zee {a b:List (List UInt8)} {c:Ch} (h:numB c=true):(chgL a b c).flatten.length≤105+31 * (c.AN.toNat+c.BN.toNat)+(cut a c.A c.AN).flatten.length+(cut b c.B c.BN).flatten.length:=by
 have h1:=ZeV h
 have h2:=Zof [60,32] (cut a c.A c.AN)
 have h3:=Zof [62,32] (cut b c.B c.BN)
 have h4:=ZfU a c.A c.AN
 have h5:=ZfU b c.B c.BN
 have h6:(sepL c).flatten.length≤4:=by
  unfold sepL
  split<;>simp
 simp only[List.length_cons,List.length_nil] at h2 h3
 simp only[chgL,List.flatten_cons,List.flatten_append,List.length_append,List.length_cons,List.length_nil]
 omega
theorem Ztt {a b:List (List UInt8)} {n m:Int} (l:List Ch):∀ {f:Bool} {p q:Int},0≤p→0≤q→Right f p q n m l→(prtT l a b).length≤105 * l.length+31 * ((n-p).toNat+(m-q).toNat)+(a.drop p.toNat).flatten.length+(b.drop q.toNat).flatten.length:=by
 induction l with
 | nil =>
  intro f p q _ _ _
  simp[prtT,prtL]
 | cons c l ih =>
  intro f p q hp hq h
  obtain⟨⟨h1,h2,h3,_⟩,h5⟩:=h
  have hn:=(Zqy c).1 h1
  have hle:=h5.le
  have g:=ih (by omega) (by omega) h5
  have g1:=@Zee a b c h1
  have g2:=@ZiP a p c.A c.AN hp h3 hn.2.1.1
  have g3:=@ZiP b q c.B c.BN hq (by omega) hn.2.2.2.1.1
  have e:prtT (c::l) a b=(chgL a b c).flatten++prtT l a b:=by simp[prtT,prtL]
  rw[e,List.length_append,List.length_cons]
  omega
theorem Zts {a b:List (List UInt8)} {l:List Ch} (h:Script l a.length b.length):(prtT l a b).length≤105 * l.length+31 * (a.length+b.length)+a.flatten.length+b.flatten.length:=by
 have g:=@Ztt a b a.length b.length l true 0 0 (by omega) (by omega) h.2.2
 simpa using g
end

end Go.Proofs.YtkiaenncemfkcaaGreatDoor

namespace Go.Proofs

section
open Go.Shelf Go.RowKit
def Tryz.lays166_ren:Go.Shelf.Ren:=⟨fun | 166=>22 | 240=>43 | 276=>73 | n=>n,fun | 0=>0 | 3=>3 | 4=>4 | 5=>5 | 9=>9 | 20=>20 | 37=>57 | 70=>56 | 72=>59 | 75=>35 | 80=>68 | 164=>111 | n=>n,fun | n=>n⟩
theorem Tryz.lays166:Go.Proofs.Lays.n166 Tryz.prog Tryz.lays166_ren:={
 mixed:=by kernel_rfl
 f166:= Go.fk Tryz.func22
 f240:= Go.fk Tryz.func43
 f276:= Go.fk Tryz.func73
 t0:=Tryz.underlying0
 a0:=Tryz.isAgg0
 z0:=Tryz.sizeOf0
 v0:=Tryz.zeroValue0
 t3:=Tryz.underlying3
 a3:=Tryz.isAgg3
 z3:=Tryz.sizeOf3
 v3:=Tryz.zeroValue3
 t4:=Tryz.underlying4
 a4:=Tryz.isAgg4
 z4:=Tryz.sizeOf4
 v4:=Tryz.zeroValue4
 t9:=Tryz.underlying9
 a9:=Tryz.isAgg9
 z9:=Tryz.sizeOf9
 v9:=Tryz.zeroValue9
 t20:=Tryz.underlying20
 a20:=Tryz.isAgg20
 z20:=Tryz.sizeOf20
 v20:=Tryz.zeroValue20
 t37:=Tryz.underlying57
 a37:=Tryz.isAgg57
 z37:=Tryz.sizeOf57
 v37:=Tryz.zeroValue57
 t70:=Tryz.underlying56
 a70:=Tryz.isAgg56
 z70:=Tryz.sizeOf56
 v70:=Tryz.zeroValue56
 t72:=Tryz.underlying59
 a72:=Tryz.isAgg59
 z72:=Tryz.sizeOf59
 v72:=Tryz.zeroValue59
 t75:=Tryz.underlying35
 a75:=Tryz.isAgg35
 z75:=Tryz.sizeOf35
 v75:=Tryz.zeroValue35
 t164:=Tryz.underlying111
 a164:=Tryz.isAgg111
 z164:=Tryz.sizeOf111
 v164:=Tryz.zeroValue111 }
theorem Tryz.Builder_Extra_166:Builder.Extra Tryz.prog Tryz.lays166_ren:={
 sizeBuilder:=by kernel_rfl
 liesBuilder:=by kernel_rfl
 t5:=Tryz.underlying5
 a5:=Tryz.isAgg5
 z5:=Tryz.sizeOf5
 v5:=Tryz.zeroValue5
 infoByte:=by kernel_rfl
 cellsByte:=by kernel_rfl
 sizeByte:=by kernel_rfl
 neB5:=by decide }
theorem Tryz.WriteString_h (B b:Nat) (bs:List Value) (s:ByteArray) (w:World) (h:Lib.IsBuilderF 59 5 B b bs w) (hlen:bs.length+s.size≤140737488355328) (hBw:B≤w.heap.size) :
  Calls Tryz.prog 22 #[.pointer (some ⟨b,0,none⟩),.string s] w fun e w'=>e=.returned (.tuple #[.int .i64 s.size,.nilIface])∧(Lib.BuilderAtF 59 5 B b (.pointer (some ⟨b,0,none⟩)) (bs++Lib.strCells s) w'∧Below B w w'∧Lib.OthersKept 5 (some b) w w') :=
 Any.Builder_WriteString_k Tryz.lays166 Tryz.Builder_Extra_166 B b bs s w h hlen hBw
end

end Go.Proofs

namespace Go.Proofs.YtkiaenncemfkcaaGreatDoor

section
open Go.RowKit
def Tab10 (w : World) : Prop := ∀ u : World, Below w.heap.size w u → Lib.TabIs Tryz.prog u "internal/strconv.uint64pow10" .u64 Lib.pow10Tab
theorem Tab10.on {w u:World} (h:Tab10 w) (hb:Below w.heap.size w u):Tab10 u:=fun v hv=>h v (hb.trans (hv.mono hb.size))
theorem ZpW (n:Int) (h0:-9223372036854775808≤n) (h1:n≤9223372036854775807) (w:World) (HT:Hid (Tab10 w)) :
  Calls Tryz.prog 44 #[.int .i64 n] w fun e w'=>e=.returned (.string ⟨(Lib.itoa n).toArray⟩)∧Below w.heap.size w w':=by
 go_enter Tryz.func44,Tryz.ntmps44
 go_wp2_with fail
 refine (Tryz.strconv_Itoa n h0 h1 _ (HT.out _ (Below.refl _ _))).mono ?_
 rintro e w1 ⟨rfl,k,os,rfl⟩
 go_wp2
 go_ret
 exact⟨rfl,Lib.below_grow w.heap.size w (Nat.le_refl _) k os⟩
end

section
open Go.RowKit
theorem Zzq (s:List UInt8):Lib.hasSuffix s [10]=fdB s:=by
 unfold Lib.hasSuffix fdB
 rw[Bool.eq_iff_iff,List.isSuffixOf_iff_suffix,beq_iff_eq]
 constructor
 ·rintro⟨t,rfl⟩
  simp
 ·intro h
  obtain⟨t,rfl⟩:=List.getLast?_eq_some_iff.1 h
  exact⟨t,rfl⟩
end

section
open Go.RowKit
theorem Zct (l:List UInt8):(Lib.byteCells l).length=l.length:=by simp[Lib.byteCells]
theorem Zmj {T e:TypeId} {B b:Nat} {bs:List Value} {w w':World} (h:Lib.IsBuilderF T e B b bs w) (hb:Below w.heap.size w w'):Lib.IsBuilderF T e B b bs w':=by
 have key:∀ p,Lib.BuilderAtF T e B b p bs w→Lib.BuilderAtF T e B b p bs w':=by
  rintro p ⟨h1,v,h2,h3,h4⟩
  refine⟨h1,v,(hb.block b (Array.getElem?_eq_some_iff.1 h2).1).trans h2,⟨h3.1,?_⟩,h4⟩
  rcases h3.2 with q | ⟨g,cap,cur,fz,q1,q2,q3,q4⟩
  ·exact .inl q
  ·exact .inr ⟨g,cap,cur,fz,q1,q2,(hb.block g (Array.getElem?_eq_some_iff.1 q3).1).trans q3,q4⟩
 rcases h with h | h
 ·exact .inl (key _ h)
 ·exact .inr (key _ h)
theorem Zmh (w:World):Lib.IsBuilderF 59 5 w.heap.size w.heap.size (Lib.byteCells []) (w.alloc (.cells #[.pointer none,.slice none 0 0] 59)) :=
 .inl ⟨Nat.le_refl _,.slice none 0 0,heap_alloc_new w _,⟨rfl,.inl ⟨rfl,rfl⟩⟩,by simp[Value.ownBlock]⟩
end

section
open Pn Go.RowKit
attribute [local go_sem] Zqp
theorem Zvm {k k':IntKind} {a b a' b':Int} (h:a=a') (h':b=b'):Ending.returned (.tuple #[.int k a,.int k' b])=.returned (.tuple #[.int k a',.int k' b']):=by rw[h,h']
end

section
open Pn Go.RowKit
attribute [local go_sem] Zqp
theorem Zqn (L:List UInt8) (w:World) (hl:L.length≤maxLen) (h0:0<L.length) (hz:(((L[0].toNat:Int) == 48)=false)∨((((L[0].toNat:Int) == 48)=true)∧(L.length:Int)≤1))
  (HY:Hid ((∀ k (hk:k<L.length),48≤L[k].toNat∧L[k].toNat≤57)→isNum L=true)) :
  Calls Tryz.prog 115 #[.string ⟨L.toArray⟩] w fun e w'=>e=.returned (.bool (isNum L))∧Below w.heap.size w w':=by
 unfold maxLen at hl
 have hne:L.isEmpty=false:=by cases L;simp at h0;rfl
 have hnil:¬ L=[]:=by intro h;rw[h] at h0;simp at h0
 rcases hz with hz | ⟨hz,hz1⟩
 all_goals
  go_enter Tryz.func115,Tryz.ntmps115
  go_wp2
  go_loopw [] (fun wr=>∃ pos:Nat,pos≤L.length∧wr.heap[w.heap.size]?=some (.stringIter ⟨L.toArray⟩ pos)∧Below w.heap.size w wr∧(∀ k (hk:k<L.length),k<pos→48≤L[k].toNat∧L[k].toNat≤57)) (fun wr=>L.length-wr.iterPos w.heap.size)
  case atStart =>
   refine⟨0,Nat.zero_le _,World.iter_heap w _ 0,(Below.refl _ w).alloc (Nat.le_refl _) _,fun k _ h=>by omega⟩
  case round =>
   obtain⟨pos,hp,hit,hbr,hall⟩:=hrel
   have HA:Hid (∀ k (hk:k<L.length),k<pos→48≤L[k].toNat∧L[k].toNat≤57):=hall
   clear hall
   have hss:(⟨L.toArray⟩:ByteArray).size=L.length:=rfl
   by_cases hlt:pos<L.length
   ·by_cases ha:L[pos].toNat<128
    ·have hnx:∀ ty,(Instr.next (.pointer (some ⟨w.heap.size,0,none⟩)) true ty).run Tryz.prog wr=_:=fun ty=>Lib.run_next_ascii_at wr w.heap.size ⟨L.toArray⟩ pos ty hit hlt ha
     have hit2:=Lib.iterAt_heap wr w.heap.size ⟨L.toArray⟩ pos (pos+1) hit
     have hbr2:=Lib.below_iterAt hbr (k:=w.heap.size) (Nat.le_refl _) ⟨L.toArray⟩ (pos+1)
     by_cases hd:48≤L[pos].toNat∧L[pos].toNat≤57
     ·obtain⟨hd1,hd2⟩:=hd
      go_wp2
      go_roundw
      case rel =>
       refine⟨pos+1,by omega,hit2,hbr2,fun k hk h=>?_⟩
       by_cases e:k=pos
       ·subst e;exact⟨hd1,hd2⟩
       ·exact HA.out k hk (by omega)
      case measure=>simp only[World.iterPos,hit,hit2];omega
     ·have HN:Hid (isNum L=false):=ZBR pos hlt hd
      by_cases hd1:L[pos].toNat<48
      ·clear hd
       go_wp2
       go_ret
       exact⟨ret_bool HN.out.symm,hbr2⟩
      ·have hd2:57<L[pos].toNat:=by omega
       clear hd
       go_wp2
       go_ret
       exact⟨ret_bool HN.out.symm,hbr2⟩
    ·have HN:Hid (isNum L=false):=ZBR pos hlt (by omega)
     have hdh:=(decode_high ⟨L.toArray⟩ pos hlt (by show 128≤L[pos].toNat;omega)).1
     have hnx:∀ ty,(Instr.next (.pointer (some ⟨w.heap.size,0,none⟩)) true ty).run Tryz.prog wr=_:=fun ty=>Lib.run_next_any_at wr w.heap.size ⟨L.toArray⟩ pos ty hit hlt
     have hbr2:=Lib.below_iterAt hbr (k:=w.heap.size) (Nat.le_refl _) ⟨L.toArray⟩ (pos+(Utf8.decode ⟨L.toArray⟩ pos).2)
     have hdl:=decode_le ⟨L.toArray⟩ pos
     generalize Utf8.decode ⟨L.toArray⟩ pos=dd at *
     have q1:¬ ((dd.1:Int)<48):=by omega
     have q2:57<(dd.1:Int):=by omega
     go_wp2
     go_ret
     exact⟨ret_bool HN.out.symm,hbr2⟩
   ·have hnx:∀ ty,(Instr.next (.pointer (some ⟨w.heap.size,0,none⟩)) true ty).run Tryz.prog wr=_:=fun ty=>Lib.run_next_end_at wr w.heap.size ⟨L.toArray⟩ pos ty hit hlt
    have HN:Hid (isNum L=true):=HY.out fun k hk=>HA.out k hk (by omega)
    go_wp2
    go_ret
    exact⟨ret_bool HN.out.symm,hbr⟩
theorem Zqm (l:List UInt8) (w:World) (hl:l.length≤maxLen) :
  Calls Tryz.prog 115 #[.string ⟨l.toArray⟩] w fun e w'=>e=.returned (.bool (isNum l))∧Below w.heap.size w w':=by
 match l,hl with
 | [],_ =>
  go_enter Tryz.func115,Tryz.ntmps115
  go_wp2
  go_ret
  exact⟨rfl,Below.refl _ _⟩
 | [c],hl =>
  refine Zqn [c] w hl (by simp) ?_ (Zmn (by simp))
  cases h:((([c]:List UInt8)[0].toNat:Int) == 48)
  ·exact .inl rfl
  ·exact .inr ⟨rfl,by simp⟩
 | c::d::t,hl =>
  by_cases h:c.toNat=48
  ·have hb:((c.toNat:Int) == 48)=true:=by simp;omega
   have HN:Hid (isNum (c::d::t)=false):=Zmo h
   have hl2:(1:Int)<(t.length:Int)+1+1:=by omega
   clear h
   go_enter Tryz.func115,Tryz.ntmps115
   go_wp2
   go_ret
   exact⟨ret_bool HN.out.symm,Below.refl _ _⟩
  ·refine Zqn (c::d::t) w hl (by simp) (.inl ?_) (Zmn (by simp[h]))
   simp;omega
theorem ZpU (l:List UInt8) (w:World) (hl:l.length≤maxLen) :
  Calls Tryz.prog 79 #[.string ⟨l.toArray⟩] w fun e w'=>e=.returned (.tuple #[.int .i64 (parseV l),.int .i64 (parseE l)])∧Below w.heap.size w w':=by
 go_enter Tryz.func79,Tryz.ntmps79
 go_wp2_with fail
 refine (Zqm l _ hl).mono ?_
 rintro e w1 ⟨rfl,hb1⟩
 unfold maxLen at hl
 cases hn:isNum l
 ·have HN:Hid (isNum l=false):=hn
  go_wp2
  go_ret2
  have h:=ZBS HN.out
  exact⟨Zvm h.1 h.2,hb1⟩
 ·have HN:Hid (isNum l=true):=hn
  have hal:=isNum_all hn
  have HAL:Hid (l.all digB=true):=hal
  clear hal
  go_wp2
  go_loopw [4] (fun n wr=>∃ (pos:Nat) (v:Int),pos≤l.length∧n=.int .i64 v∧0≤v∧v≤2147483647∧wr.heap[w1.heap.size]?=some (.stringIter ⟨l.toArray⟩ pos)∧Below w.heap.size w wr∧sat v (l.drop pos)=sat 0 l) (fun _ wr=>l.length-wr.iterPos w1.heap.size)
  case atStart =>
   refine⟨0,0,Nat.zero_le _,rfl,by omega,by omega,World.iter_heap w1 _ 0,hb1.alloc hb1.size _,rfl⟩
  case round =>
   obtain⟨pos,v,hp,rfl,hv0,hv1,hit,hbr,hsat⟩:=hrel
   have HS:Hid (sat v (l.drop pos)=sat 0 l):=hsat
   clear hsat
   have hss:(⟨l.toArray⟩:ByteArray).size=l.length:=rfl
   have hz1:=hb1.size
   by_cases hlt:pos<l.length
   ·have hd:=ZbK HAL.out pos hlt
    obtain⟨hd1,hd2⟩:=hd
    have HS2:Hid (sat (min (v * 10+((l[pos].toNat:Int)-48)) 2147483648) (l.drop (pos+1))=sat 0 l):=by
     show sat _ _=_
     rw[← ZxF hlt];exact HS.out
    have hnx:∀ ty,(Instr.next (.pointer (some ⟨w1.heap.size,0,none⟩)) true ty).run Tryz.prog wr=_:=fun ty=>Lib.run_next_ascii_at wr w1.heap.size ⟨l.toArray⟩ pos ty hit hlt (by show l[pos].toNat<128;omega)
    have hit2:=Lib.iterAt_heap wr w1.heap.size ⟨l.toArray⟩ pos (pos+1) hit
    have hbr2:=Lib.below_iterAt hbr (k:=w1.heap.size) hb1.size ⟨l.toArray⟩ (pos+1)
    by_cases hfar:(2147483647-((l[pos].toNat:Int)-48)) / 10<v
    ·have HF:Hid (sat 0 l=2147483648):=by
      have e:min (v * 10+((l[pos].toNat:Int)-48)) 2147483648=2147483648:=by omega
      have h:=HS2.out
      rw[e,ZxG _ (ZbM HAL.out _)] at h
      exact h.symm
     go_wp2
     go_ret2
     have h:=ZrT HN.out HF.out
     exact⟨Zvm h.1 h.2,hbr2⟩
    ·go_wp2
     go_roundw
     case rel =>
      refine⟨pos+1,v * 10+((l[pos].toNat:Int)-48),by omega,rfl,by omega,by omega,hit2,hbr2,?_⟩
      have e:min (v * 10+((l[pos].toNat:Int)-48)) 2147483648=v * 10+((l[pos].toNat:Int)-48):=by omega
      rw[← HS2.out,e]
     case measure=>simp only[World.iterPos,hit,hit2];omega
   ·have hnx:∀ ty,(Instr.next (.pointer (some ⟨w1.heap.size,0,none⟩)) true ty).run Tryz.prog wr=_:=fun ty=>Lib.run_next_end_at wr w1.heap.size ⟨l.toArray⟩ pos ty hit hlt
    have HF:Hid (sat 0 l=v):=by
     have h:=HS.out
     rw[List.drop_eq_nil_of_le (by omega)] at h
     exact h.symm
    go_wp2
    go_ret2
    have h:=ZrX HN.out HF.out hv1
    exact⟨Zvm h.1 h.2,hbr⟩
end

section
open Ln
theorem ZxE:∀ (l:List UInt8) (n:Int),0≤n→l.all Pn.digB=true→0≤Pn.sat n l
 | [],_,hn,_=>hn
 | c::t,n,hn,h=>by
  simp only[List.all_cons,Bool.and_eq_true] at h
  have h1:=Pn.digB_out h.1
  rw[Pn.sat]
  exact ZxE t _ (by omega) h.2
theorem Zto {s:List UInt8}:0≤Pn.parseV s∧Pn.parseV s≤2147483647:=by
 unfold Pn.parseV
 split
 ·rename_i h
  exact⟨ZxE s 0 (by omega) (Pn.isNum_all h.1),h.2⟩
 ·omega
end

section
open Ln Go.RowKit
attribute [local go_sem] Zqp ByteArray.extract_mk
theorem ZxH (ws:List (List UInt8)) (a:List UInt8):scells (ws++[a])=scells ws++[.string ⟨a.toArray⟩]:=by simp[scells]
theorem ZyD (a:ByteArray):∀ u∈[Value.string a],u.oneCell'=true:=by intro u hu;simp at hu;subst hu;rfl
theorem ZyA (w:World) (C:List Value) (t:TypeId):∀ j u,C[j]?=some u→(w.alloc (.cells C.toArray t)).cell? ((⟨w.heap.size,0,none⟩:Addr).add j)=some u:=by
 intro j u hj
 have hadd:(⟨w.heap.size,0,none⟩:Addr).add j=⟨w.heap.size,j,none⟩:=by unfold Addr.add;split<;>simp_all
 rw[hadd,cell_of_row _ w.heap.size j C.toArray t (0,0) (_root_.Go.heap_alloc_new w _)]
 simpa using hj
def sizeT:Value→Nat
 | .string s=>s.size
 | _=>0
theorem sizeT_mk (r:List UInt8):sizeT (.string ⟨r.toArray⟩)=r.length:=rfl
theorem Zbt {acc:List (List UInt8)} {r l:List UInt8} (h:acc++splitL r=splitL l):acc.length≤l.length:=by
 have h1:=congrArg List.length h
 have h2:=split_len l
 rw[List.length_append] at h1
 omega
theorem ZpV (l:List UInt8) (w:World) (hl:l.length≤1099511627776) :
  Calls Tryz.prog 7 #[.string ⟨l.toArray⟩] w fun e w'=>∃ v,e=.returned v∧w'.ownsRow w.heap.size 9 1 v (splitL l).length (scells (splitL l))∧Below w.heap.size w w':=by
 obtain⟨i0,hi,hz0,hz1,hz2⟩:=info_parts infoStr
 go_enter Tryz.func7,Tryz.ntmps7
 go_wp2
 go_loopw [0,3,4] (fun s acc _ wr=>∃ (xs:List (List UInt8)) (r:List UInt8),s=.string ⟨r.toArray⟩∧wr.ownsRow w.heap.size 9 1 acc xs.length (scells xs)∧Below w.heap.size w wr∧r.length≤l.length∧xs++splitL r=splitL l) (fun s _ _ _=>sizeT s)
 case atStart=>exact⟨[],l,rfl,World.ownsRow_nil _ _ _ _,Below.refl _ _,Nat.le_refl _,rfl⟩
 case round =>
  obtain⟨acc,r,rfl,hown,hbr,hrl,hw⟩:=hrel
  have hacc:=Zbt hw
  have HW:Hid (acc++splitL r=splitL l):=hw
  clear hw
  have hbz:=hbr.size
  obtain⟨ao,cap,rfl⟩:=(holds_of hown).form
  rcases Int.lt_or_le (Lib.indexByte r 10) 0 with hq | hq
  ·obtain⟨q1,q2⟩:=ZlL hq
   clear hq
   cases r with
   | nil =>
    have HE:Hid (splitL l=acc):=by have:=HW.out;show _=_;simpa [splitL] using this.symm
    go_wp2_with fail
    refine (Tryz.strings_Index_one ⟨([]:List UInt8).toArray⟩ 10 _).mono ?_
    rintro e w1 ⟨rfl,rfl⟩
    go_wp2
    go_ret
    rw[HE.out]
    exact⟨_,rfl,hown,hbr⟩
   | cons c t =>
    have HE:Hid (splitL l=acc++[c::t]):=by
     have:=HW.out
     rw[ZyO _ q2 (by simp)] at this
     exact this.symm
    clear q2
    go_wp2_with fail
    refine (Tryz.strings_Index_one ⟨(c::t).toArray⟩ 10 _).mono ?_
    rintro e w1 ⟨rfl,rfl⟩
    have hi2:Lib.indexByte (⟨(c::t).toArray⟩:ByteArray).data.toList 10=-1:=q1
    rw[hi2]
    go_wp2_with (at_builtin;refine wpList_append_own _ rfl _ _ 23 rfl w.heap.size 9 i0 (.string ⟨#[]⟩) 1 16 Tryz.underlying23 hi hz0 hz1 hz2 rfl (by decide) _ _ _ rfl (hown.alloc _) ⟨w1.heap.size,0,none⟩ 1 1 [.string ⟨(c::t).toArray⟩] rfl rfl (ZyA _ _ _) (ZyD _) ?c3 ?c4 ?c5 ?_)
    case c3=>unfold maxLen;omega
    case c4=>omega
    case c5=>simp;omega
    intro v' w3 hown3 hgrow hfr
    have hbr3:=(hbr.alloc hbz (.cells #[.string ⟨(c::t).toArray⟩] 9)).grown hgrow (by simp;omega) (fun j hj=>(hown.lt j hj).1)
    go_wp2
    go_ret
    rw[HE.out,ZxH]
    exact⟨_,rfl,by simpa using hown3,hbr3⟩
  ·obtain⟨a,b,rfl,hn,he⟩:=ZlM hq
   have HE:Hid (acc++[a++[10]]++splitL b=splitL l):=by
    have:=HW.out
    rw[ZyI a b hn] at this
    show _=_
    simpa using this
   clear hn hq
   have hlen:(a++10::b).length=a.length+1+b.length:=by simp;omega
   have ht:(a++10::b).take (a.length+1)=a++[10]:=by
    rw[show a++10::b=(a++[10])++b by simp,List.take_left' (by simp)]
   have hd:(a++10::b).drop (a.length+1)=b:=by
    rw[show a++10::b=(a++[10])++b by simp,List.drop_left' (by simp)]
   generalize a++10::b=r at *
   have i1:0≤(a.length:Int)+1:=by omega
   have i2:(a.length:Int)+1≤(r.length:Int):=by omega
   have i3:((a.length:Int)+1).toNat=a.length+1:=by omega
   go_wp2_with fail
   refine (Tryz.strings_Index_one ⟨r.toArray⟩ 10 _).mono ?_
   rintro e w1 ⟨rfl,rfl⟩
   have hi2:Lib.indexByte (⟨r.toArray⟩:ByteArray).data.toList 10=a.length:=he
   rw[hi2]
   go_wp2_with (at_builtin;refine wpList_append_own _ rfl _ _ 23 rfl w.heap.size 9 i0 (.string ⟨#[]⟩) 1 16 Tryz.underlying23 hi hz0 hz1 hz2 rfl (by decide) _ _ _ rfl (hown.alloc _) ⟨w1.heap.size,0,none⟩ 1 1 [.string ⟨(a++[10]).toArray⟩] rfl rfl (ZyA _ _ _) (ZyD _) ?c3 ?c4 ?c5 ?_)
   case c3=>unfold maxLen;omega
   case c4=>omega
   case c5=>simp;omega
   intro v' w3 hown3 hgrow hfr
   have hbr3:=(hbr.alloc hbz (.cells #[.string ⟨(a++[10]).toArray⟩] 9)).grown hgrow (by simp;omega) (fun j hj=>(hown.lt j hj).1)
   go_wp2
   go_roundw
   case rel=>exact⟨acc++[a++[10]],b,rfl,by rw[ZxH];simpa using hown3,hbr3,by omega,HE.out⟩
   case measure=>rw[sizeT_mk,sizeT_mk];omega
end

section
open Go.RowKit
section
variable {u u':World} {R:Nat} {vL:Value} {p fa fe:Int}
end
theorem ZjY {w u v:World} {r:Option Nat} (h:w.grownBy u r) (h':u.grownBy v r):w.grownBy v r :=
 ⟨h'.os.trans h.os,h'.tape.trans h.tape,h'.output.trans h.output,Nat.le_trans h.size h'.size,fun k hk hr=>(h'.block k (Nat.lt_of_lt_of_le hk h.size) hr).trans (h.block k hk hr)⟩
end

section
open Go.RowKit
attribute [local go_sem] ByteArray.extract_mk Zqp
end

section
open Go.RowKit
attribute [local go_sem] ByteArray.extract_mk Zqp
end

section
open Go.RowKit
attribute [local go_sem] ByteArray.extract_mk Zqp
def fltO (a z:Int):Obj:=.cells #[.int .i64 a,.iface 26 (.int .i64 z)] 71
section
variable {u u':World} {R:Nat} {vL:Value} {p:Int}
end
end

section
open Ln Go.RowKit
def efbas (ws:List (List UInt8)):List ByteArray:=ws.map fun a=>⟨a.toArray⟩
theorem ZgU (ws:List (List UInt8)):(efbas ws).length=ws.length:=by simp[efbas]
theorem ZgT (ws:List (List UInt8)):(efbas ws).map (fun s=>s.data.toList)=ws:=by simp[efbas,Function.comp_def]
theorem Znl (v:Value) (ws:List (List UInt8)) (w:World) (hl:ws.length≤1099511627776) (hf:ws.flatten.length≤1099511627776) (hv:HS w v ws) :
  Calls Tryz.prog 12 #[v] w fun e w'=>e=.returned (.string ⟨ws.flatten.toArray⟩)∧Below w.heap.size w w':=by
 by_cases h0:0<ws.length
 ·obtain⟨vo,vc,rfl⟩:=Holds.form hv
  have hcap:ws.length≤vc:=(by
   rcases hv with ⟨h,h1,_⟩ | ⟨ad,c',h,h3,_⟩
   ·omega
   ·cases h;exact h3)
  obtain⟨b1,o1,rfl,hb1,hc1⟩:=HS.at hv h0
  have hj:(Lib.join ((efbas ws).map fun s=>s.data.toList) (⟨#[]⟩:ByteArray).data.toList)=ws.flatten:=by rw[ZgT];exact Zmv ws
  have hJ:=Tryz.strings_Join b1 o1 vc (efbas ws) ⟨#[]⟩ w (by
   intro j y hy
   have hjl:j<ws.length:=by have:=(List.getElem?_eq_some_iff.1 hy).1;simpa [efbas] using this
   rw[hc1 j hjl]
   simp[efbas,hjl] at hy
   rw[hy]) hb1 (by rw[ZgU];omega) (by rw[ZgU];exact hcap) (by rw[hj];omega)
  rw[hj,ZgU] at hJ
  clear hc1 hj hv
  go_enter Tryz.func12,Tryz.ntmps12
  go_wp2_with fail
  refine hJ.mono ?_
  rintro e w1 ⟨rfl,hb⟩
  go_wp2
  go_ret
  exact⟨rfl,hb⟩
 ·obtain rfl:=List.eq_nil_of_length_eq_zero (by omega:ws.length=0)
  obtain⟨vo,vc,rfl⟩:=Holds.form hv
  go_enter Tryz.func12,Tryz.ntmps12
  go_wp2_with fail
  refine (Tryz.strings_Join_none vo vc ⟨#[]⟩ _).mono ?_
  rintro e w1 ⟨rfl,rfl⟩
  go_wp2
  go_ret
  exact⟨rfl,Below.refl _ _⟩
end

section
open Ln Go.RowKit
theorem Zml (l:List UInt8) (last:Bool) (w:World) (hl:l.length≤1099511627776) (r:Bool) (HR:Hid (lineB l last=r)) :
  Calls Tryz.prog 62 #[.string ⟨l.toArray⟩,.bool last] w fun e w'=>e=.returned (.bool r)∧w=w':=by
 rcases Int.lt_or_le (Lib.indexByte l 10) 0 with hq | hq
 ·obtain⟨q1,q2⟩:=ZlL hq
  have HE:Hid ((last && !l.isEmpty)=r):=(by show _=_;rw[← HR.out];exact (ZnM q2 last).symm)
  clear hq q2 HR
  go_enter Tryz.func62,Tryz.ntmps62
  go_wp2_with fail
  refine (Tryz.strings_Index_one ⟨l.toArray⟩ 10 _).mono ?_
  rintro e w1 ⟨rfl,rfl⟩
  have hi2:Lib.indexByte (⟨l.toArray⟩:ByteArray).data.toList 10=-1:=q1
  rw[hi2]
  cases last with
  | false =>
   go_wp2
   go_ret
   rw[← HE.out]
   exact⟨rfl,rfl⟩
  | true =>
   cases l with
   | nil =>
    go_wp2
    go_ret
    rw[← HE.out]
    exact⟨rfl,rfl⟩
   | cons c t =>
    go_wp2
    go_ret
    rw[← HE.out]
    exact⟨rfl,rfl⟩
 ·obtain⟨a,b,he,hn,hi⟩:=ZlM hq
  have HE:Hid (b.isEmpty=r):=(by
   show _=_
   rw[← HR.out,he]
   exact (ZnO hn last).symm)
  have hlen:l.length=a.length+1+b.length:=by rw[he];simp;omega
  clear hn hq he HR
  go_enter Tryz.func62,Tryz.ntmps62
  go_wp2_with fail
  refine (Tryz.strings_Index_one ⟨l.toArray⟩ 10 _).mono ?_
  rintro e w1 ⟨rfl,rfl⟩
  have hi2:Lib.indexByte (⟨l.toArray⟩:ByteArray).data.toList 10=a.length:=hi
  rw[hi2]
  cases b with
  | nil =>
   have hb:((a.length:Int) == (l.length:Int)-1)=true:=by simp at hlen;simp;omega
   clear hlen
   go_wp2
   go_ret
   rw[← HE.out]
   exact⟨rfl,rfl⟩
  | cons c t =>
   have hb:((a.length:Int) == (l.length:Int)-1)=false:=by simp at hlen;rw[beq_eq_false_iff_ne];omega
   clear hlen
   go_wp2
   go_ret
   rw[← HE.out]
   exact⟨rfl,rfl⟩
theorem Zld (v:Value) (ws:List (List UInt8)) (w:World) (hl:ws.length≤1099511627776) (he:∀ a∈ws,a.length≤1099511627776) (hv:HS w v ws) (r:Bool) (HR:Hid (checkB ws=r)) (z:Int) (HZ:Hid (z=if r=true then 0 else 6)) :
  Calls Tryz.prog 35 #[v] w fun e w'=>e=.returned (.int .i64 z)∧w=w':=by
 obtain⟨ao,c,rfl⟩:=Holds.form hv
 have HL:Hid (∀ a∈ws,a.length≤1099511627776):=he
 clear he
 go_enter Tryz.func35,Tryz.ntmps35
 go_wp2
 go_loopw [3,4,7] (fun _ _ i wr=>∃ k:Nat,k≤ws.length∧i=.int .i64 k∧wr=w∧Hid (checkB (ws.drop k)=r)) (fun _ _ i _=>ws.length-(intOf i).toNat)
 case atStart=>exact⟨0,Nat.zero_le _,rfl,rfl,HR⟩
 case round =>
  obtain⟨k,hk,rfl,rfl,HI⟩:=hrel
  clear HR
  by_cases hlt:k<ws.length
  ·obtain⟨b,off,rfl,_,hc⟩:=HS.at hv (by omega)
   have d1:=hc k hlt
   have hxl:=HL.out ws[k] (List.getElem_mem hlt)
   have i1:0≤(k:Int):=by omega
   have i2:(k:Int)<(ws.length:Int):=by omega
   have HM:(ws.drop (k+1)).isEmpty=((k:Int) == (ws.length:Int)-1):=by
    rw[Bool.eq_iff_iff,List.isEmpty_iff,List.drop_eq_nil_iff,beq_iff_eq];omega
   have HD:Hid ((lineB ws[k] (ws.drop (k+1)).isEmpty && checkB (ws.drop (k+1)))=r):=(by
    have h:=HI.out
    rw[List.drop_eq_getElem_cons hlt] at h
    exact h)
   rw[HM] at HD
   generalize hq:((k:Int) == (ws.length:Int)-1)=q at *
   generalize ws[k]=x at *
   obtain⟨r1,hr1⟩:∃ r1,lineB x q=r1:=⟨_,rfl⟩
   have HR1:Hid (lineB x q=r1):=hr1
   rw[hr1] at HD
   clear hr1 HI HM hc
   go_wp2_with fail
   refine (Zml x q _ hxl r1 HR1).mono ?_
   rintro e w1 ⟨rfl,rfl⟩
   cases r1 with
   | false =>
    have HZ2:Hid (z=6):=(by
     have h:=HD.out
     rw[Bool.false_and] at h
     show _=_
     rw[HZ.out,← h]
     rfl)
    clear HZ
    go_wp2
    go_ret
    rw[HZ2.out]
    exact⟨rfl,rfl⟩
   | true =>
    have HE:Hid (checkB (ws.drop (k+1))=r):=(by have h:=HD.out;rw[Bool.true_and] at h;exact h)
    go_wp2
    go_roundw
    case rel=>exact⟨k+1,by omega,by go_num,by trivial,HE⟩
    case measure=>simp[intOf];omega
  ·have HZ2:Hid (z=0):=(by
    have h:=HI.out
    rw[List.drop_of_length_le (by omega)] at h
    show _=_
    rw[HZ.out,← h]
    rfl)
   clear HZ HI
   have hend:decide ((k:Int)<(ws.length:Int))=false:=decide_eq_false (by omega)
   go_wp2
   go_ret
   rw[HZ2.out]
   exact⟨rfl,rfl⟩
end

section
open Ln Go.RowKit
end

section
open Go.RowKit
end

section
open Go.RowKit
end

end Go.Proofs.YtkiaenncemfkcaaGreatDoor
