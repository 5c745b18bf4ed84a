/-
  Texts that belong together, joined: CnShelf, CnMath, Kit, CnByte, CnRef, CnSmall, CnTab.
-/
import Derived.Shelf.Strings.Repeat
import Derived.Shelf.Strings.SlTrimAscii
import Derived.Shelf.Strings.Trim
import Derived.Shelf.Strings.BuilderK
import Derived.Shelf.Small.Strs
import Derived.Shelf.Small.Wraps
import Derived.Test.YtcnjephlmcnodaaDoorProg
import Derived.Lib.SlTrimSet
import Derived.Lib.Repeat
import Derived.Lib.FrozenHead2
import Derived.Lib.OthersKept
import Derived.Laws.IdiomStrings
import Derived.Deep.RegionLaw
import Derived.WalkKit
import Derived.WalkSmall
import Derived.WalkSpells
import Derived.WalkLawsBesides
import Derived.Deep.QuietTactic
import Derived.BigQuiet
import Derived.Test.YtcnjephlmcnodaaDoorRows

set_option maxHeartbeats 16000000
set_option maxRecDepth 100000
/- Contracts of the library at this program: the program bears the bodies that they speak of. Taken: strings_Repeat, strings_CutSuffix, Builder_String_any_k, Builder_Len_f, strings_TrimRight_one. -/
theorem Go.fk {α:Type _} {x:Option α} {a b:α} (h:x=some a) (e:a=b:=by kernel_rfl):x=some b:=h.trans (congrArg some e)
namespace Go.Proofs
open Go.Shelf
def Tryd.lays170_ren : Go.Shelf.Ren := ⟨fun | 170 => 48 | n => n, fun | 70 => 45 | 3 => 3 | 0 => 0 | 72 => 48 | 37 => 46 | 5 => 5 | n => n, fun | n => n⟩
theorem Tryd.lays170 : Go.Proofs.Lays.n170 Tryd.prog Tryd.lays170_ren := {
  mixed := by kernel_rfl
  f170 := Go.fk Tryd.func48
  t0 := Tryd.underlying0
  a0 := Tryd.isAgg0
  z0 := Tryd.sizeOf0
  v0 := Tryd.zeroValue0
  t3 := Tryd.underlying3
  a3 := Tryd.isAgg3
  z3 := Tryd.sizeOf3
  v3 := Tryd.zeroValue3
  t37 := Tryd.underlying46
  a37 := Tryd.isAgg46
  z37 := Tryd.sizeOf46
  v37 := Tryd.zeroValue46
  t70 := Tryd.underlying45
  a70 := Tryd.isAgg45
  z70 := Tryd.sizeOf45
  v70 := Tryd.zeroValue45
  t72 := Tryd.underlying48
  a72 := Tryd.isAgg48
  z72 := Tryd.sizeOf48
  v72 := Tryd.zeroValue48 }
def Tryd.lays169_ren : Go.Shelf.Ren := ⟨fun | 169 => 24 | n => n, fun | 70 => 45 | 9 => 9 | 0 => 0 | 72 => 48 | 37 => 46 | 127 => 95 | 3 => 3 | 5 => 5 | n => n, fun | n => n⟩
theorem Tryd.lays169 : Go.Proofs.Lays.n169 Tryd.prog Tryd.lays169_ren := {
  mixed := by kernel_rfl
  f169 := Go.fk Tryd.func24
  t0 := Tryd.underlying0
  a0 := Tryd.isAgg0
  z0 := Tryd.sizeOf0
  v0 := Tryd.zeroValue0
  t3 := Tryd.underlying3
  a3 := Tryd.isAgg3
  z3 := Tryd.sizeOf3
  v3 := Tryd.zeroValue3
  t9 := Tryd.underlying9
  a9 := Tryd.isAgg9
  z9 := Tryd.sizeOf9
  v9 := Tryd.zeroValue9
  t37 := Tryd.underlying46
  a37 := Tryd.isAgg46
  z37 := Tryd.sizeOf46
  v37 := Tryd.zeroValue46
  t70 := Tryd.underlying45
  a70 := Tryd.isAgg45
  z70 := Tryd.sizeOf45
  v70 := Tryd.zeroValue45
  t72 := Tryd.underlying48
  a72 := Tryd.isAgg48
  z72 := Tryd.sizeOf48
  v72 := Tryd.zeroValue48
  t127 := Tryd.underlying95
  a127 := Tryd.isAgg95
  z127 := Tryd.sizeOf95
  v127 := Tryd.zeroValue95 }
theorem Tryd.Builder_Extra_169 : Builder.Extra Tryd.prog Tryd.lays169_ren := {
  sizeBuilder := by kernel_rfl
  liesBuilder := by kernel_rfl
  t5 := Tryd.underlying5
  a5 := Tryd.isAgg5
  z5 := Tryd.sizeOf5
  v5 := Tryd.zeroValue5
  infoByte := by kernel_rfl
  cellsByte := by kernel_rfl
  sizeByte := by kernel_rfl
  neB5 := by decide }
def Tryd.lays162_ren : Go.Shelf.Ren := ⟨fun | 162 => 20 | 232 => 50 | 227 => 51 | 234 => 52 | 236 => 53 | 228 => 71 | 271 => 72 | 151 => 73 | 120 => 86 | 197 => 87 | 152 => 88 | 260 => 92 | 137 => 93 | 119 => 94 | 224 => 83 | 225 => 82 | 217 => 81 | 266 => 90 | n => n, fun | 9 => 9 | 4 => 4 | 3 => 3 | 5 => 5 | 117 => 91 | 116 => 90 | 0 => 0 | 124 => 94 | 21 => 21 | 105 => 118 | 46 => 82 | 119 => 142 | 139 => 145 | 138 => 144 | n => n, fun | 3 => 2 | 4 => 3 | n => n⟩
theorem Tryd.lays162 : Go.Proofs.Lays.n162 Tryd.prog Tryd.lays162_ren := {
  mixed := by kernel_rfl
  f119 := Go.fk Tryd.func94
  f120 := Go.fk Tryd.func86
  f137 := Go.fk Tryd.func93
  f151 := Go.fk Tryd.func73
  f152 := Go.fk Tryd.func88
  f162 := Go.fk Tryd.func20
  f197 := Go.fk Tryd.func87
  f217 := Go.fk Tryd.func81
  f224 := Go.fk Tryd.func83
  f225 := Go.fk Tryd.func82
  f227 := Go.fk Tryd.func51
  f228 := Go.fk Tryd.func71
  f232 := Go.fk Tryd.func50
  f234 := Go.fk Tryd.func52
  f236 := Go.fk Tryd.func53
  f260 := Go.fk Tryd.func92
  f266 := Go.fk Tryd.func90
  f271 := Go.fk Tryd.func72
  t0 := Tryd.underlying0
  a0 := Tryd.isAgg0
  z0 := Tryd.sizeOf0
  v0 := Tryd.zeroValue0
  t3 := Tryd.underlying3
  a3 := Tryd.isAgg3
  z3 := Tryd.sizeOf3
  v3 := Tryd.zeroValue3
  t4 := Tryd.underlying4
  a4 := Tryd.isAgg4
  z4 := Tryd.sizeOf4
  v4 := Tryd.zeroValue4
  t5 := Tryd.underlying5
  a5 := Tryd.isAgg5
  z5 := Tryd.sizeOf5
  v5 := Tryd.zeroValue5
  t9 := Tryd.underlying9
  a9 := Tryd.isAgg9
  z9 := Tryd.sizeOf9
  v9 := Tryd.zeroValue9
  t21 := Tryd.underlying21
  a21 := Tryd.isAgg21
  z21 := Tryd.sizeOf21
  v21 := Tryd.zeroValue21
  t46 := Tryd.underlying82
  a46 := Tryd.isAgg82
  z46 := Tryd.sizeOf82
  v46 := Tryd.zeroValue82
  t105 := Tryd.underlying118
  a105 := Tryd.isAgg118
  z105 := Tryd.sizeOf118
  v105 := Tryd.zeroValue118
  t116 := Tryd.underlying90
  a116 := Tryd.isAgg90
  z116 := Tryd.sizeOf90
  t117 := Tryd.underlying91
  a117 := Tryd.isAgg91
  z117 := Tryd.sizeOf91
  v117 := Tryd.zeroValue91
  t119 := Tryd.underlying142
  a119 := Tryd.isAgg142
  z119 := Tryd.sizeOf142
  t124 := Tryd.underlying94
  a124 := Tryd.isAgg94
  z124 := Tryd.sizeOf94
  v124 := Tryd.zeroValue94
  t138 := Tryd.underlying144
  a138 := Tryd.isAgg144
  z138 := Tryd.sizeOf144
  v138 := Tryd.zeroValue144
  t139 := Tryd.underlying145
  a139 := Tryd.isAgg145
  z139 := Tryd.sizeOf145
  v139 := Tryd.zeroValue145
  g3 := by kernel_rfl
  g4 := by kernel_rfl }
open Go.RowKit in
theorem Tryd.strings_TrimRight_one (s : ByteArray) (c : UInt8) (hc : c.toNat < 128) (w : World) (hs : s.size ≤ 9223372036854775807) :
    Calls Tryd.prog 20 #[.string s, .string ⟨#[c]⟩] w fun e w' => e = .returned (.string ⟨(Lib.trimRightB s.data.toList c).toArray⟩) ∧ w' = w := Any.strings_TrimRight_one Tryd.lays162 s c hc w hs
def Tryd.lays104_ren : Go.Shelf.Ren := ⟨fun | 104 => 58 | 211 => 77 | 207 => 89 | n => n, fun | 9 => 9 | 4 => 4 | 24 => 71 | 3 => 3 | n => n, fun | n => n⟩
theorem Tryd.lays104 : Go.Proofs.Lays.n104 Tryd.prog Tryd.lays104_ren := {
  mixed := by kernel_rfl
  f104 := Go.fk Tryd.func58
  f207 := Go.fk Tryd.func89
  f211 := Go.fk Tryd.func77
  t3 := Tryd.underlying3
  a3 := Tryd.isAgg3
  z3 := Tryd.sizeOf3
  v3 := Tryd.zeroValue3
  t4 := Tryd.underlying4
  a4 := Tryd.isAgg4
  z4 := Tryd.sizeOf4
  v4 := Tryd.zeroValue4
  t9 := Tryd.underlying9
  a9 := Tryd.isAgg9
  z9 := Tryd.sizeOf9
  v9 := Tryd.zeroValue9
  t24 := Tryd.underlying71
  a24 := Tryd.isAgg71
  z24 := Tryd.sizeOf71
  v24 := Tryd.zeroValue71 }
open Go.RowKit in
theorem Tryd.strings_CutSuffix (s p : ByteArray) (w : World) (hs : s.size ≤ 9223372036854775807) :
    Calls Tryd.prog 58 #[.string s, .string p] w fun e w' => e = .returned (.tuple #[.string ⟨(Lib.trimSuffix s.data.toList p.data.toList).toArray⟩, .bool (Lib.hasSuffix s.data.toList p.data.toList)]) ∧ w' = w := Any.strings_CutSuffix Tryd.lays104 s p w hs
open Go.RowKit in
theorem Tryd.Builder_Len_f (B b : Nat) (bs : List Value) (w : World) (h : Lib.IsBuilderF 48 5 B b bs w) :
    Calls Tryd.prog 48 #[.pointer (some ⟨b, 0, none⟩)] w fun e w' => e = .returned (.int .i64 bs.length) ∧ w' = w := Any.Builder_Len_f Tryd.lays170 B b bs w h
open Go.RowKit in
theorem Tryd.Builder_String_any_k (B b : Nat) (l : List UInt8) (w : World) (h : Lib.IsBuilderF 48 5 B b (Lib.byteCells l) w) (hBw : B ≤ w.heap.size) :
    Calls Tryd.prog 24 #[.pointer (some ⟨b, 0, none⟩)] w fun e w' => e = .returned (.string ⟨l.toArray⟩) ∧ (Lib.IsBuilderF 48 5 B b (Lib.byteCells l) w' ∧ Below B w w' ∧ Lib.OthersKept 5 (some b) w w') := Any.Builder_String_any_k Tryd.lays169 Tryd.Builder_Extra_169 B b l w h hBw
def Tryd.lays105_ren : Go.Shelf.Ren := ⟨fun | 105 => 18 | 212 => 45 | 99 => 46 | 165 => 47 | 166 => 19 | 170 => 48 | 169 => 24 | 263 => 66 | 264 => 67 | 206 => 68 | 240 => 49 | 241 => 69 | 276 => 70 | 277 => 85 | n => n, fun | 9 => 9 | 3 => 3 | 4 => 4 | 20 => 20 | 0 => 0 | 46 => 82 | 109 => 83 | 5 => 5 | 72 => 48 | 76 => 50 | 51 => 112 | 146 => 113 | 53 => 40 | 148 => 115 | 70 => 45 | 37 => 46 | 75 => 29 | 127 => 95 | 164 => 98 | 80 => 56 | n => n, fun | n => n⟩
theorem Tryd.lays105 : Go.Proofs.Lays.n105 Tryd.prog Tryd.lays105_ren := {
  mixed := by kernel_rfl
  f99 := Go.fk Tryd.func46
  f105 := Go.fk Tryd.func18
  f165 := Go.fk Tryd.func47
  f166 := Go.fk Tryd.func19
  f169 := Go.fk Tryd.func24
  f170 := Go.fk Tryd.func48
  f206 := Go.fk Tryd.func68
  f212 := Go.fk Tryd.func45
  f240 := Go.fk Tryd.func49
  f241 := Go.fk Tryd.func69
  f263 := Go.fk Tryd.func66
  f264 := Go.fk Tryd.func67
  f276 := Go.fk Tryd.func70
  f277 := Go.fk Tryd.func85
  t0 := Tryd.underlying0
  a0 := Tryd.isAgg0
  z0 := Tryd.sizeOf0
  v0 := Tryd.zeroValue0
  t3 := Tryd.underlying3
  a3 := Tryd.isAgg3
  z3 := Tryd.sizeOf3
  v3 := Tryd.zeroValue3
  t4 := Tryd.underlying4
  a4 := Tryd.isAgg4
  z4 := Tryd.sizeOf4
  v4 := Tryd.zeroValue4
  t5 := Tryd.underlying5
  a5 := Tryd.isAgg5
  z5 := Tryd.sizeOf5
  v5 := Tryd.zeroValue5
  t9 := Tryd.underlying9
  a9 := Tryd.isAgg9
  z9 := Tryd.sizeOf9
  v9 := Tryd.zeroValue9
  t20 := Tryd.underlying20
  a20 := Tryd.isAgg20
  z20 := Tryd.sizeOf20
  v20 := Tryd.zeroValue20
  t37 := Tryd.underlying46
  a37 := Tryd.isAgg46
  z37 := Tryd.sizeOf46
  v37 := Tryd.zeroValue46
  t46 := Tryd.underlying82
  a46 := Tryd.isAgg82
  z46 := Tryd.sizeOf82
  v46 := Tryd.zeroValue82
  t51 := Tryd.underlying112
  a51 := Tryd.isAgg112
  z51 := Tryd.sizeOf112
  v51 := Tryd.zeroValue112
  t53 := Tryd.underlying40
  a53 := Tryd.isAgg40
  z53 := Tryd.sizeOf40
  v53 := Tryd.zeroValue40
  t70 := Tryd.underlying45
  a70 := Tryd.isAgg45
  z70 := Tryd.sizeOf45
  v70 := Tryd.zeroValue45
  t72 := Tryd.underlying48
  a72 := Tryd.isAgg48
  z72 := Tryd.sizeOf48
  v72 := Tryd.zeroValue48
  t75 := Tryd.underlying29
  a75 := Tryd.isAgg29
  z75 := Tryd.sizeOf29
  v75 := Tryd.zeroValue29
  t76 := Tryd.underlying50
  a76 := Tryd.isAgg50
  z76 := Tryd.sizeOf50
  v76 := Tryd.zeroValue50
  t109 := Tryd.underlying83
  a109 := Tryd.isAgg83
  z109 := Tryd.sizeOf83
  v109 := Tryd.zeroValue83
  t127 := Tryd.underlying95
  a127 := Tryd.isAgg95
  z127 := Tryd.sizeOf95
  v127 := Tryd.zeroValue95
  t146 := Tryd.underlying113
  a146 := Tryd.isAgg113
  z146 := Tryd.sizeOf113
  v146 := Tryd.zeroValue113
  t148 := Tryd.underlying115
  a148 := Tryd.isAgg115
  z148 := Tryd.sizeOf115
  v148 := Tryd.zeroValue115
  t164 := Tryd.underlying98
  a164 := Tryd.isAgg98
  z164 := Tryd.sizeOf98
  v164 := Tryd.zeroValue98 }
theorem Tryd.Builder_Extra_105 : Builder.Extra Tryd.prog Tryd.lays105_ren := {
  sizeBuilder := by kernel_rfl
  liesBuilder := by kernel_rfl
  t5 := Tryd.underlying5
  a5 := Tryd.isAgg5
  z5 := Tryd.sizeOf5
  v5 := Tryd.zeroValue5
  infoByte := by kernel_rfl
  cellsByte := by kernel_rfl
  sizeByte := by kernel_rfl
  neB5 := by decide }
open Go.RowKit Go.Lib in
theorem Tryd.strings_Repeat (s : ByteArray) (c : Nat) (w : World) (hc : c ≤ 9223372036854775807) (hlen : s.size * c ≤ 140737488355328) :
    Calls Tryd.prog 18 #[.string s, .int .i64 c] w fun e w' => e = .returned (.string ⟨(Lib.repeatL s.data.toList c).toArray⟩) ∧ Below w.heap.size w w' := Any.strings_Repeat Tryd.lays105 Tryd.Builder_Extra_105 s c w hc hlen
end Go.Proofs

namespace Go.Proofs.YtcnjephlmcnodaaDoor.Tx.Cn

section
open Go
def feedB (s:List UInt8):Bool:=s.getLast? == some 10
def bareL (s:List UInt8):List UInt8:=if feedB s then s.dropLast else s
def feedL (s:List UInt8):List UInt8:=bif feedB s then [10] else []
def wh (c:UInt8):Bool:=[32,9,11,12,13].contains c
def fillN (k:Nat):Nat:=(8-k % 8) % 8
def expL:Nat→List UInt8→List UInt8
 | _,[]=>[]
 | k,c::r=>if c=9 then List.replicate (8-k % 8) 32++expL (k+(8-k % 8)) r else c::expL (k+1) r
def wo (blank:Bool):Bool→List UInt8→List UInt8
 | _,[]=>[]
 | was,c::r=>bif wh c then (bif blank && !was then 32::wo blank true r else wo blank true r) else c::wo blank false r
def trL (l:List UInt8):List UInt8:=Lib.trimRightS l [32,9,11,12,13]
def low (c:UInt8):UInt8:=if 65≤c.toNat∧c.toNat≤90 then c+32 else c
def smL (l:List UInt8):List UInt8:=l.map low
structure Ig where
 sp:Bool
 wt:Bool
 bl:Bool
 cs:Bool
 tb:Bool
 tr:Bool
def ask (o:Ig):Nat→Bool
 | 0=>o.tb
 | 1=>o.wt
 | 2=>o.sp
 | 3=>o.tr
 | _=>o.cs
def act:Nat→List UInt8→List UInt8
 | 0,l=>expL 0 l
 | 1,l=>wo false false l
 | 2,l=>trL (wo true false l)
 | 3,l=>trL l
 | _,l=>smL l
def stg (o:Ig):Nat→List UInt8→List UInt8
 | 0,l=>l
 | k+1,l=>bif ask o k then act k (stg o k l) else stg o k l
def canonL (o:Ig) (l:List UInt8):List UInt8:=stg o 5 (bareL l)++feedL l
theorem exp_tab (k:Nat) (r:List UInt8):expL k (9::r)=List.replicate (8-k % 8) 32++expL (k+(8-k % 8)) r:=by simp[expL]
theorem exp_other {c:UInt8} (h:c≠9) (k:Nat) (r:List UInt8):expL k (c::r)=c::expL (k+1) r:=by simp[expL,h]
theorem Zbv {k:Nat} (h:k % 8≠0):fillN k=fillN (k+1)+1:=by unfold fillN;omega
theorem Zbt {k:Nat} (h:k % 8=0):fillN k=0:=by unfold fillN;omega
theorem Zbu (k:Nat):8-k % 8=fillN (k+1)+1:=by unfold fillN;omega
theorem rep_blank (n:Nat):Lib.repeatL [32] n=List.replicate n 32:=by
 induction n with
 | zero=>rfl
 | succ n ih=>rw[Lib.repeatL,ih];rfl
theorem exp_len (l:List UInt8):∀ k,(expL k l).length≤8 * l.length:=by
 induction l with
 | nil=>intro k;simp[expL]
 | cons c r ih =>
  intro k
  by_cases h:c=9
  ·subst h
   rw[exp_tab,List.length_append,List.length_replicate,List.length_cons]
   have:=ih (k+(8-k % 8))
   omega
  ·rw[exp_other h,List.length_cons,List.length_cons]
   have:=ih (k+1)
   omega
def pre (o:Ig) (l:List UInt8):List UInt8:=bif o.tb then expL 0 (bareL l) else bareL l
def sm? (o:Ig) (l:List UInt8):List UInt8:=bif o.cs then smL l else l
def o0 (o:Ig):Ig:={ o with sp:=false,wt:=false,tr:=false }
def ok (o:Ig) (k:Nat):Ig:={ o with sp:=decide (k=2),wt:=decide (k=3),tr:=decide (k=1) }
theorem c0 (o:Ig) (l:List UInt8):canonL (o0 o) l=sm? o (pre o l)++feedL l:=by
 unfold canonL stg sm? pre
 simp only[stg,ask,act,o0,cond_false]
theorem c1 (o:Ig) (l:List UInt8):canonL (ok o 1) l=sm? o (trL (pre o l))++feedL l:=by
 unfold canonL stg sm? pre
 simp[stg,ask,act,ok]
theorem c2 (o:Ig) (l:List UInt8):canonL (ok o 2) l=sm? o (trL (wo true false (pre o l)))++feedL l:=by
 unfold canonL stg sm? pre
 simp[stg,ask,act,ok]
theorem c3 (o:Ig) (l:List UInt8):canonL (ok o 3) l=sm? o (wo false false (pre o l))++feedL l:=by
 unfold canonL stg sm? pre
 simp[stg,ask,act,ok]
end

end Go.Proofs.YtcnjephlmcnodaaDoor.Tx.Cn

namespace Go.Proofs.YtcnjephlmcnodaaDoor.Tx

section
open Go.RowKit
theorem ret_bool {a b:Bool} (h:a=b):Ending.returned (.bool a)=.returned (.bool b):=by rw[h]
theorem ret_int {k:IntKind} {a b:Int} (h:a=b):Ending.returned (.int k a)=.returned (.int k b):=by rw[h]
section
variable {P:Program} (w:World)
theorem Zdm (base:Nat) (t ty e:TypeId) (i:TypeInfo) (z:Value) (size bytes:Nat) (ht:P.underlying t=some (.slice e)) (hi:P.info? e=some i) (hz:i.zero=some z)
  (hsize:i.size=size) (hby:i.bytes=bytes) (hzs:z.cells.size=size) (hsz:0<size)
  (v:Value) (n:Nat) (xs:List Value) (hown:w.ownsRowF base e size v n xs)
  (a:Addr) (m c:Nat) (news:List Value) (hl:news.length=m * size) (hnews:∀ j u,news[j]?=some u→w.cell? (a.add j)=some u) (h1:∀ u∈news,u.oneCell'=true)
  (h63:n+m≤maxLen) (hbytes:(n+m) * bytes≤140737488355328) (hbase:base≤w.heap.size) :
  ∃ v' w',(Builtin.append_ #[t,t] ty #[v,.slice (some a) m c]).run P w=.ok v' w'∧w'.ownsRowF base e size v' (n+m) (xs++news)∧w.grownBy w' v.ownBlock ∧
   (v'.ownBlock=v.ownBlock∨∃ g,v'.ownBlock=some g∧w.heap.size≤g):=by
 rcases hown.2 with ⟨rfl,rfl⟩ | ⟨g,cap,cur,fz,rfl,hbg,hg,hfz,hnc,hcm,hcs,htake⟩
 ·obtain⟨v',w',r1,r2,r3,r4⟩:=run_append_own (P:=P) w w.heap.size t ty e i z size bytes ht hi hz hsize hby hzs hsz (.slice none 0 0) 0 xs ⟨hown.1,.inl ⟨rfl,rfl⟩⟩ a m c news hl hnews h1 h63 hbytes (Nat.le_refl _)
  have r5:=World.ownsRowF_of r2
  refine⟨v',w',r1,⟨r5.1,?_⟩,r3,?_⟩
  ·rcases r5.2 with h | ⟨g,cap,cur,fz,q1,q2,q3⟩
   ·exact .inl h
   ·exact .inr ⟨g,cap,cur,fz,q1,by omega,q3⟩
  ·rcases r5.2 with ⟨h,_⟩ | ⟨g,cap,cur,fz,q1,q2,q3⟩
   ·exact .inl (by rw[h])
   ·exact .inr ⟨g,by rw[q1];rfl,q2⟩
 ·subst hsize
  subst hby
  have hsmall:n+m≤9223372036854775807:=by simp only[maxLen] at h63;omega
  have hlen:(xs++news).length=(n+m) * i.size:=by rw[List.length_append,hown.1,hl,Nat.add_mul]
  by_cases hroom:n+m≤cap
  ·have hfit:n * i.size+news.length≤cur.size:=by rw[hl,hcs,← Nat.add_mul];exact Nat.mul_le_mul_right _ hroom
   have hr:=run_append_roomF (P:=P) w t ty e i ht hi g n cap cur fz hg hfz a m c news hl hnews h1 hroom hfit
   refine⟨_,_,hr,⟨hlen,.inr ⟨g,cap,_,fz,rfl,hbg,setRow_heap w g cur _ e _ hg,Nat.le_trans hfz (Nat.mul_le_mul_right _ (Nat.le_add_right n m)),hroom,hcm,?_,?_⟩⟩,⟨rfl,rfl,rfl,by simp,fun k _ hk=>setRow_other w g k _ (fun e=>hk (by simp[Value.ownBlock,e]))⟩,.inl rfl⟩
   ·simp only[List.size_toArray,List.length_append,List.length_take,List.length_drop,Array.length_toList]
    omega
   ·rw[htake,← hlen]
    exact List.take_left
  ·have holds:∀ j u,xs[j]?=some u→w.cell? ((⟨g,0,none⟩:Addr).add j)=some u:=hown.cells (g:=g) rfl
   have hr:=run_append_grow (P:=P) w t ty e i z ht hi hz ⟨g,0,none⟩ n cap xs hown.1 holds a m c news hl hnews (by omega) (by omega) (growslice_fits (by omega) hbytes)
   have hge:=grownCap_ge w (n+m) cap e
   have hcm2:grownCap w (n+m) cap e≤maxLen:=grownCap_le_maxLen w (n+m) cap e h63
   refine⟨_,_,hr,⟨hlen,.inr ⟨w.heap.size,_,_,(0,0),rfl,hbase,heap_alloc_new w.drew _,Nat.zero_le _,hge,hcm2,?_,?_⟩⟩,⟨rfl,rfl,rfl,by simp,fun k hk _=>Below.heap_alloc w.drew _ k hk⟩,.inr ⟨_,rfl,Nat.le_refl _⟩⟩
   ·simp only[Array.size_append,List.size_toArray,size_zeroCells,hzs,hown.1,hl,← Nat.add_mul]
    congr 1
    omega
   ·simp only[Array.toList_append,List.append_assoc]
    rw[← List.append_assoc,← hlen]
    exact List.take_left
theorem Zfr {ops:Array Oper} {rest:List Oper} {o:Oper} {a:Act} {Q:Exit→Act→World→Prop} (hgd:o.guard=none) (s x:Operand) (t:TypeId)
  (ho:o.op=.call { callee:=.builtin .append,args:=#[s,x],argTypes:=#[t,t] })
  (base:Nat) (e:TypeId) (i:TypeInfo) (z:Value) (size bytes:Nat) (ht:P.underlying t=some (.slice e)) (hi:P.info? e=some i) (hz:i.zero=some z)
  (hsize:i.size=size) (hby:i.bytes=bytes) (hzs:z.cells.size=size) (hsz:0<size)
  (v:Value) (n:Nat) (xs:List Value) (hs:a.eval s=v) (hown:w.ownsRowF base e size v n xs)
  (ad:Addr) (m c:Nat) (news:List Value) (hx:a.eval x=.slice (some ad) m c) (hl:news.length=m * size) (hnews:∀ j u,news[j]?=some u→w.cell? (ad.add j)=some u) (h1:∀ u∈news,u.oneCell'=true)
  (h63:n+m≤maxLen) (hbytes:(n+m) * bytes≤140737488355328) (hbase:base≤w.heap.size)
  (h:∀ v' w',w'.ownsRowF base e size v' (n+m) (xs++news)→w.grownBy w' v.ownBlock→(v'.ownBlock=v.ownBlock∨∃ g,v'.ownBlock=some g∧w.heap.size≤g)→wpList P ops Q rest (a.put o.dst v') w'):wpList P ops Q (o::rest) a w:=by
 refine wpList_plain hgd fun K hK=>?_
 obtain⟨v',w',hr,h2,h3,h4⟩:=Zdm (P:=P) w base t o.type e i z size bytes ht hi hz hsize hby hzs hsz v n xs hown ad m c news hl hnews h1 h63 hbytes hbase
 unfold Oper.wp execOp
 simp only[ho,resolve,invoke,builtin,Sem.run_bind,Sem.run_pure,Result.andThen_ok,List.map_toArray,List.map_cons,List.map_nil,hs,hx,hr]
 exact hK _ _ (h v' w' h2 h3 h4)
end
def Bld (T e:TypeId) (B b:Nat) (v:Value) (bs:List Value) (w:World):Prop :=
 B≤b∧(∃ p,(p=.pointer none∨p=.pointer (some ⟨b,0,none⟩))∧w.heap[b]?=some (.cells #[p,v] T (0,0)))∧w.ownsRowF B e 1 v bs.length bs∧v.ownBlock≠some b
theorem Bld.isF {T e:TypeId} {B b:Nat} {v:Value} {bs:List Value} {w:World} (h:Bld T e B b v bs w):Lib.IsBuilderF T e B b bs w:=by
 obtain⟨hB,⟨p,hp,hb⟩,hown,hne⟩:=h
 rcases hp with rfl | rfl
 ·exact .inl ⟨hB,v,hb,hown,hne⟩
 ·exact .inr ⟨hB,v,hb,hown,hne⟩
theorem Bld.lt {T e:TypeId} {B b:Nat} {v:Value} {bs:List Value} {w:World} (h:Bld T e B b v bs w):b<w.heap.size:=by
 obtain⟨_,⟨p,_,hb⟩,_⟩:=h
 exact (Array.getElem?_eq_some_iff.1 hb).1
def Aside (b:Nat) (v:Value) (w w':World):Prop:=∀ k,k<w.heap.size→k≠b→v.ownBlock≠some k→w'.heap[k]?=w.heap[k]?
def Fresh (v v':Value) (w:World):Prop:=v'.ownBlock=v.ownBlock∨∃ g,v'.ownBlock=some g∧w.heap.size≤g
theorem Bld.kept {T e:TypeId} {B b:Nat} {v:Value} {bs:List Value} {w w':World} (h:Bld T e B b v bs w) (hk:∀ k,k<w.heap.size→w'.heap[k]?=w.heap[k]?):Bld T e B b v bs w':=by
 have hlt:=h.lt
 obtain⟨hB,⟨p,hp,hb⟩,⟨hl,hown⟩,hne⟩:=h
 refine⟨hB,⟨p,hp,(hk b hlt).trans hb⟩,⟨hl,?_⟩,hne⟩
 rcases hown with h | ⟨g,cap,cur,fz,q1,q2,q3,q4⟩
 ·exact .inl h
 ·exact .inr ⟨g,cap,cur,fz,q1,q2,(hk g (Array.getElem?_eq_some_iff.1 q3).1).trans q3,q4⟩
theorem Bld.alloc {T e:TypeId} {B b:Nat} {v:Value} {bs:List Value} {w:World} (h:Bld T e B b v bs w) (o:Obj):Bld T e B b v bs (w.alloc o) :=
 h.kept fun k hk=>Below.heap_alloc w o k hk
theorem Bld.fresh (T e:TypeId) (w:World):Bld T e w.heap.size w.heap.size (.slice none 0 0) [] (w.alloc (.cells #[.pointer none,.slice none 0 0] T)) :=
 ⟨Nat.le_refl _,⟨_,.inl rfl,_root_.Go.heap_alloc_new w _⟩,World.ownsRowF_nil _ _ _ _,by simp[Value.ownBlock]⟩
theorem Bld.put {T e:TypeId} {B b:Nat} {p v v':Value} {bs:List Value} {w:World} (hB:B≤b) (hp:p=.pointer none∨p=.pointer (some ⟨b,0,none⟩)) (hb:w.heap[b]?=some (.cells #[p,v] T (0,0))) (hown:w.ownsRowF B e 1 v' bs.length bs) (hTe:T≠e) :
  Bld T e B b v' bs (w.setCell ⟨b,1,none⟩ v'):=by
 have hne:v'.ownBlock≠some b:=by
  intro h
  rcases hown.2 with ⟨h1,_⟩ | ⟨g,cap,cur,fz,q1,q2,q3,q4⟩
  ·rw[h1] at h;cases h
  ·rw[q1] at h
   have hg:g=b:=by simpa [Value.ownBlock] using h
   rw[hg,hb] at q3
   simp only[Option.some.injEq,Obj.cells.injEq] at q3
   exact hTe q3.2.1
 have ho:∀ k,k≠b→(w.setCell ⟨b,1,none⟩ v').heap[k]?=w.heap[k]?:=fun k hk=>Below.heap_setCell w _ _ k hk
 refine⟨hB,⟨p,hp,?_⟩,⟨hown.1,?_⟩,hne⟩
 ·simp only[World.setCell,Array.getElem?_modify,hb]
  simp
 ·rcases hown.2 with h | ⟨g,cap,cur,fz,q1,q2,q3,q4⟩
  ·exact .inl h
  ·exact .inr ⟨g,cap,cur,fz,q1,q2,(ho g (fun e=>hne (by rw[q1,e];rfl))).trans q3,q4⟩
def Beside (R:Nat) (o:Obj) (b:Nat) (v:Value) (w:World):Prop:=w.heap[R]?=some o∧R≠b∧v.ownBlock≠some R
theorem Beside.step {R:Nat} {o:Obj} {b:Nat} {v v':Value} {w w':World} (h:Beside R o b v w) (ha:Aside b v w w') (hf:Fresh v v' w):Beside R o b v' w':=by
 obtain⟨h1,h2,h3⟩:=h
 have hlt:R<w.heap.size:=(Array.getElem?_eq_some_iff.1 h1).1
 refine⟨(ha R hlt h2 h3).trans h1,h2,?_⟩
 rcases hf with h | ⟨g,h,hg⟩
 ·rw[h];exact h3
 ·rw[h];intro e;simp at e;omega
theorem Beside.cell {R:Nat} {C:Array Value} {t:TypeId} {fz:Nat × Nat} {b:Nat} {v:Value} {w:World} (h:Beside R (.cells C t fz) b v w) (j:Nat):w.cell? ⟨R,j,none⟩=C[j]?:=by
 rw[cell_of_row w R j C t fz h.1]
theorem ZcB (w:World) (C:List Value) (t:TypeId):∀ j u,C[j]?=some u→(w.alloc (.cells C.toArray t)).cell? ((⟨w.heap.size,0,none⟩:Addr).add j)=some u:=by
 intro j u hj
 have hadd:(⟨w.heap.size,0,none⟩:Addr).add j=⟨w.heap.size,j,none⟩:=by unfold Addr.add;split<;>simp_all
 rw[hadd,cell_of_row _ w.heap.size j C.toArray t (0,0) (_root_.Go.heap_alloc_new w _)]
 simpa using hj
theorem ZaJ {P:Program} (w:World) (src dst e:TypeId) (B:Nat) (v:Value) (l:List UInt8) (hs:P.underlying src=some (.slice e)) (he:P.underlying e=some (.int .u8)) (hd:P.underlying dst=some .string)
  (h:w.ownsRowF B e 1 v l.length (Lib.byteCells l)):(convert src dst v).run P w=.ok (.string ⟨l.toArray⟩) w:=by
 rcases h.2 with ⟨rfl,h0⟩ | ⟨g,cap,cur,fz,rfl,_⟩
 ·have:l=[]:=List.eq_nil_of_length_eq_zero h0
  subst this
  rw[run_convert_bytes_string w src dst e none 0 0 hs he hd]
  rfl
 ·refine run_convert_bytes_back w src dst e ⟨g,0,none⟩ cap l hs he hd ?_
  intro j hj
  exact h.cells (g:=g) rfl j _ (by simp[Lib.byteCells,hj])
theorem Zai (l:List UInt8) (k:Nat) (h:k<(⟨l.toArray⟩:ByteArray).size):(⟨l.toArray⟩:ByteArray)[k]'h=l[k]'(h):=rfl
theorem ZcI (c:Int) (k:IntKind):∀ u∈[Value.int k c],u.oneCell'=true:=by intro u hu;simp at hu;subst hu;rfl
theorem Zao (l:List UInt8) (c:UInt8):Lib.byteCells (l++[c])=Lib.byteCells l++[.int .u8 (c.toNat:Int)]:=by rw[Lib.byteCells_append];rfl
theorem Bld.drewN {T e:TypeId} {B b:Nat} {v:Value} {bs:List Value} {w:World} (h:Bld T e B b v bs w) (n:Nat):Bld T e B b v bs (w.drewN n):=h.kept fun _ _=>rfl
end

section
open Cn Go.RowKit
theorem ZdS {x c:UInt8} (h:x≠c):x.toNat≠c.toNat:=fun e=>h (UInt8.toNat_inj.1 e)
theorem not9 {x:UInt8} (h:x≠9):((x.toNat:Int) == 9)=false∧((x.toNat:Int) != 9)=true:=by
 have:x.toNat≠9:=ZdS h
 constructor
 ·rw[beq_eq_false_iff_ne];omega
 ·rw[bne_iff_ne];omega
def sizeT:Value→Nat
 | .string s=>s.size
 | _=>0
theorem sizeT_mk (r:List UInt8):sizeT (.string ⟨r.toArray⟩)=r.length:=rfl
theorem bare_no {l:List UInt8} (h0:0<l.length) (h:l[l.length-1]≠10):bareL l=l∧feedB l=false:=by
 have hf:feedB l=false:=by unfold feedB;rw[List.getLast?_eq_getElem?,List.getElem?_eq_getElem (by omega)];simpa using h
 exact⟨by rw[bareL,hf];rfl,hf⟩
theorem infoU8:(Tryd.prog.info? 5).map (fun i=>(i.zero,i.size,i.bytes))=some (some (.int .u8 0),1,1):=by kernel_rfl
end

section
open Cn Go.RowKit
attribute [local go_sem] Zai ByteArray.extract_mk
end

section
open Cn Go.RowKit
attribute [local go_sem] Zai ByteArray.extract_mk
def lenS:Value→Nat
 | .slice _ n _=>n
 | _=>0
theorem Zck {w:World} {B:Nat} {e:TypeId} {size:Nat} {v:Value} {n:Nat} {xs:List Value} (h:w.ownsRowF B e size v n xs):∃ ao cap,v=.slice ao n cap:=by
 rcases h.2 with ⟨rfl,rfl⟩ | ⟨g,cap,cur,fz,q1,_⟩
 ·exact⟨_,_,rfl⟩
 ·exact⟨_,_,q1⟩
theorem ZcX (l:List UInt8) (w:World) (hl:l.length≤1099511627776) :
  Calls Tryd.prog 76 #[.string ⟨l.toArray⟩] w fun e w'=>e=.returned (.string ⟨(expL 0 l).toArray⟩)∧Below w.heap.size w w':=by
 obtain⟨i0,hi,hz0,hz1,hz2⟩:=info_parts infoU8
 have hwl:=exp_len l 0
 go_enter Tryd.func76,Tryd.ntmps76
 go_wp2
 go_loopw [3,4] (fun out i wr=>∃ (k:Nat) (acc:List UInt8),k≤l.length∧i=.int .i64 k∧wr.ownsRowF w.heap.size 5 1 out acc.length (Lib.byteCells acc)∧Below w.heap.size w wr∧acc++expL acc.length (l.drop k)=expL 0 l) (fun _ i _=>l.length-(intOf i).toNat)
 case atStart=>exact⟨0,[],Nat.zero_le _,rfl,World.ownsRowF_of (World.ownsRow_nil _ _ _ _),Below.refl _ _,rfl⟩
 case round =>
  obtain⟨k,acc,hk,rfl,hown,hbr,hacc⟩:=hrel
  have hal:acc.length≤8 * l.length:=by
   have:=congrArg List.length hacc
   rw[List.length_append] at this
   omega
  have hbz:=hbr.size
  by_cases hlt:k<l.length
  ·have hdk:l.drop k=l[k]::l.drop (k+1):=List.drop_eq_getElem_cons hlt
   rw[hdk] at hacc
   clear hdk
   by_cases hc:l[k]=9
   ·have HD:Hid (acc++[32]++List.replicate (fillN (acc++[32]).length) 32++expL ((acc++[32]).length+fillN (acc++[32]).length) (l.drop (k+1))=expL 0 l):=by
     rw[hc,exp_tab,Zbu] at hacc
     show _=_
     rw[← hacc,List.length_append,List.length_singleton,List.replicate_succ]
     have e:acc.length+(fillN (acc.length+1)+1)=acc.length+1+fillN (acc.length+1):=by omega
     rw[e]
     simp
    clear hacc
    have hb9:((l[k].toNat:Int) != 9)=false:=by rw[hc];rfl
    go_wp2_with (at_builtin;refine Zfr _ rfl _ _ 46 rfl w.heap.size 5 i0 (.int .u8 0) 1 1 Tryd.underlying46 hi hz0 hz1 hz2 rfl (by decide) _ _ _ rfl (hown.alloc _) ⟨wr.heap.size,0,none⟩ 1 1 [.int .u8 32] rfl rfl (ZcB _ _ _) (ZcI _ _) ?c3 ?c4 ?c5 ?_)
    case c3=>unfold maxLen;omega
    case c4=>omega
    case c5=>simp;omega
    intro v' w2 hown' hgrow hfr
    have hb2:Below w.heap.size w w2:=(hbr.alloc hbz _).grown hgrow (by simp;omega) (fun j hj=>(hown.lt j hj).1)
    have hown2:w2.ownsRowF w.heap.size 5 1 v' (acc++[32]).length (Lib.byteCells (acc++[32])):=by rw[Zao];simpa using hown'
    clear hown' hgrow hfr hown hbr hbz
    have hal2:(acc++[32]).length≤8 * l.length+1:=by rw[List.length_append,List.length_singleton];omega
    have hal3:(acc++[32]).length+fillN (acc++[32]).length≤8 * l.length:=by
     have:=congrArg List.length HD.out
     rw[List.length_append,List.length_append,List.length_replicate] at this
     omega
    generalize acc++[32]=acc2 at *
    go_wp2
    go_loopw [3] (fun out wx=>∃ acc3:List UInt8,wx.ownsRowF w.heap.size 5 1 out acc3.length (Lib.byteCells acc3)∧Below w.heap.size w wx∧Hid (acc3++List.replicate (fillN acc3.length) 32=acc2++List.replicate (fillN acc2.length) 32)) (fun out _=>8 * l.length+1-lenS out)
    case atStart=>exact⟨acc2,hown2,hb2,rfl⟩
    case round =>
     obtain⟨acc3,hown3,hb3,HF⟩:=hrel
     have hl3:acc3.length+fillN acc3.length≤8 * l.length:=by
      have:=congrArg List.length HF.out
      rw[List.length_append,List.length_append,List.length_replicate,List.length_replicate] at this
      omega
     have hbz3:=hb3.size
     obtain⟨ao,cap,rfl⟩:=Zck hown3
     by_cases hm:acc3.length % 8=0
     ·have hmb:(((acc3.length:Int) % 8) != 0)=false:=by
       rw[bne_eq_false_iff_eq];omega
      have HE:Hid (acc3++expL acc3.length (l.drop (k+1))=expL 0 l):=by
       have h1:=HF.out
       rw[Zbt hm,List.replicate_zero,List.append_nil] at h1
       have h2:acc3.length=acc2.length+fillN acc2.length:=by rw[h1,List.length_append,List.length_replicate]
       have h3:=HD.out
       rw[← h1,← h2] at h3
       exact h3
      clear HF HD hl3 hal3 hal2
      go_wp2
      go_roundw
      case rel=>exact⟨k+1,acc3,by omega,by go_num,hown3,hb3,HE.out⟩
      case measure=>simp[intOf];omega
     ·have hmb:(((acc3.length:Int) % 8) != 0)=true:=by
       rw[bne_iff_ne];omega
      have HE:Hid ((acc3++[32])++List.replicate (fillN (acc3++[32]).length) 32=acc2++List.replicate (fillN acc2.length) 32):=by
       have h1:=HF.out
       rw[Zbv hm,List.replicate_succ] at h1
       show _=_
       rw[← h1,List.length_append,List.length_singleton]
       simp
      have hf1:=Zbv hm
      clear HF HD hal3 hal2
      go_wp2_with (at_builtin;refine Zfr _ rfl _ _ 46 rfl w.heap.size 5 i0 (.int .u8 0) 1 1 Tryd.underlying46 hi hz0 hz1 hz2 rfl (by decide) _ _ _ rfl (hown3.alloc _) ⟨wr.heap.size,0,none⟩ 1 1 [.int .u8 32] rfl rfl (ZcB _ _ _) (ZcI _ _) ?c3 ?c4 ?c5 ?_)
      case c3=>unfold maxLen;omega
      case c4=>omega
      case c5=>simp;omega
      intro v5 w5 hown5 hgrow5 hfr5
      have hown6:w5.ownsRowF w.heap.size 5 1 v5 (acc3++[32]).length (Lib.byteCells (acc3++[32])):=by rw[Zao];simpa using hown5
      clear hown5
      obtain⟨ao5,cap5,rfl⟩:=Zck hown6
      go_wp2
      go_roundw
      case rel=>exact⟨acc3++[32],hown6,(hb3.alloc hbz3 _).grown hgrow5 (by simp;omega) (fun j hj=>(hown3.lt j hj).1),HE⟩
      case measure =>
       simp only[lenS,List.length_append,List.length_singleton]
       omega
   ·have HD:Hid (acc++[l[k]]++expL (acc++[l[k]]).length (l.drop (k+1))=expL 0 l):=by
     rw[exp_other hc] at hacc
     show _=_
     rw[← hacc,List.append_assoc,List.length_append];rfl
    clear hacc
    have hb9:((l[k].toNat:Int) != 9)=true:=(not9 hc).2
    go_wp2_with (at_builtin;refine Zfr _ rfl _ _ 46 rfl w.heap.size 5 i0 (.int .u8 0) 1 1 Tryd.underlying46 hi hz0 hz1 hz2 rfl (by decide) _ _ _ rfl (hown.alloc _) ⟨wr.heap.size,0,none⟩ 1 1 [.int .u8 (l[k].toNat:Int)] rfl rfl (ZcB _ _ _) (ZcI _ _) ?c3 ?c4 ?c5 ?_)
    case c3=>unfold maxLen;omega
    case c4=>omega
    case c5=>simp;omega
    intro v' w2 hown' hgrow hfr
    go_wp2
    go_roundw
    case rel=>exact⟨k+1,acc++[l[k]],by omega,by go_num,by rw[Zao];simpa using hown',(hbr.alloc hbz _).grown hgrow (by simp;omega) (fun j hj=>(hown.lt j hj).1),HD.out⟩
    case measure=>simp[intOf];omega
  ·have HD:Hid (acc=expL 0 l):=by
    have e:l.drop k=[]:=List.drop_eq_nil_of_le (by omega)
    rw[e] at hacc
    show acc=_
    simpa [expL] using hacc
   clear hacc
   have hcs:=ZaJ (P:=Tryd.prog) wr 46 9 5 w.heap.size _ acc Tryd.underlying46 Tryd.underlying5 Tryd.underlying9 hown
   go_wp2
   go_ret
   rw[HD.out]
   exact⟨rfl,hbr⟩
end

section
def put (cs:Array Value):Obj→Obj
 | .cells _ t frozen=>.cells cs t frozen
 | o=>o
def laidOnU (w:World):World :=
 { w with heap:=(w.heap.modify 2 (put ((Go.Pinned.utf8FirstZ.map fun n:Nat=>Value.int .u8 (n:Int)).toArray))).modify 3 (put (([128,191,160,191,128,159,144,191,128,143,0,0,0,0,0,0,0,0,0,0,0,0,0,0,0,0,0,0,0,0,0,0]:List Int).map (Value.int .u8)).toArray) }
end

end Go.Proofs.YtcnjephlmcnodaaDoor.Tx
